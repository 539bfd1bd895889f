/-
  TermOwn's lists read, when each has one more behind it. (Written by TO6.py.)
-/
import Derived.Test.YtnaiecemmhioeaaDoorTO5
namespace Go.Proofs.YtnaiecemmhioeaaDoor
open Go.RowKit

theorem own_cell {X : World} {B : Nat} {ty : TypeId} {K g n cap i : Nat} {cs : List Value} (h : X.ownsRow B ty K (.slice (some ⟨g, 0, none⟩) n cap) n cs) (hi : i < n * K) : X.cell? ⟨g, i, none⟩ = cs[i]? := by
  rcases h.2 with ⟨h, _⟩ | ⟨g', cap', cur, hv, hb, hg, hn, hc, hs, ht⟩
  · cases h
  · simp only [Value.slice.injEq, Option.some.injEq, Addr.mk.injEq] at hv
    obtain ⟨⟨rfl, -⟩, -, rfl⟩ := hv
    rw [cell_of_row _ _ _ _ _ _ hg, ← ht, List.getElem?_take_of_lt hi, Array.getElem?_toList]
theorem ss_of {X : World} {B : Nat} {ty : TypeId} {v : Value} {xs : List (Value × Nat)} (h : X.ownsRow B ty 1 v xs.length (xs.map (·.1))) : Ss X v (xs.map (·.1)) := by
  have hh := h
  rcases h.2 with ⟨rfl, hn⟩ | ⟨g, cap, cur, rfl, hb, hg, -⟩
  · have : xs = [] := List.length_eq_zero_iff.1 hn
    subst this; exact Or.inl ⟨rfl, rfl⟩
  · refine Or.inr ⟨g, cap, by rw [List.length_map], (Array.getElem?_eq_some_iff.1 hg).1, fun i u hu => ?_⟩
    have hi : i < xs.length := by have := (List.getElem?_eq_some_iff.1 hu).1; simpa using this
    rw [own_cell hh (by omega)]; exact hu
theorem ts_rep {X : World} {B g N m cap : Nat} {x : Tm} (h : X.ownsRow B 23 3 (.slice (some ⟨g, 0, none⟩) N cap) N ((List.replicate N x).flatMap Tm.cs)) (hm : m ≤ N) (hb : m < 1000000000000000000) : Ts X (.slice (some ⟨g, 0, none⟩) m cap) (List.replicate m x) := by
  have hlt : g < X.heap.size := (World.ownsRow.lt h g rfl).2
  refine ⟨_, cap, by rw [List.length_replicate], by rw [List.length_replicate]; exact hb, ?_⟩
  by_cases h0 : m = 0
  · subst h0; exact Or.inl rfl
  · refine Or.inr ⟨g, 0, rfl, hlt, fun i x hx => ?_⟩
    have hi : i < m := by have := (List.getElem?_eq_some_iff.1 hx).1; simpa using this
    rw [List.getElem?_replicate, if_pos hi] at hx
    cases hx
    have key : ∀ j, j < 3 → X.cell? ⟨g, 0 + i * 3 + j, none⟩ = x.cs[j]? := fun j hj => by
      rw [Nat.zero_add, own_cell h (by omega)]
      exact tcs_get (List.replicate N x) i x (by rw [List.getElem?_replicate, if_pos (by omega)]) j hj
    exact ⟨key 0 (by omega), key 1 (by omega), key 2 (by omega)⟩
theorem rdT_of {X : World} {B W2 : Nat} {v u : Value} {xs gs : List (Value × Nat)} (h : Kp 23 24 3 Tm.cs oT X B W2 v xs u gs xs.length) (hb : ∀ x ∈ xs, x.2 ≤ 1100000000000) : RdT X v xs ∧ RdT X u gs := by
  have own : ∀ (k : Nat) (q : Value) (m : Nat), m ≤ 1100000000001 → X.ownsRow B 23 3 q m ((List.replicate m (oT k)).flatMap Tm.cs) → Ts X q (List.replicate m (oT k)) := fun k q m hm hq => by
    rcases hq.2 with ⟨rfl, rfl⟩ | ⟨g, cap, cur, rfl, hrest⟩
    · exact ⟨none, 0, rfl, by simp, Or.inl rfl⟩
    · exact ts_rep hq (Nat.le_refl _) (by omega)
  refine ⟨⟨ss_of h.o', fun k x hx => ?_⟩, ⟨by have := h.m; rw [← h.l] at this; exact ss_of this, fun k y hy => ?_⟩⟩
  · have hk := (List.getElem?_eq_some_iff.1 hx).1
    have hxb := hb x (List.mem_of_getElem? hx)
    obtain ⟨G, h1, h2⟩ := h.p k x hk hx
    rcases h2.v with h3 | ⟨b, cap, h3, h4⟩
    · exact own k x.1 x.2 (by omega) h3
    · have hg := h2.g
      rw [h4] at hg
      rw [h3]
      exact ts_rep hg (by omega) (by omega)
  · have hk : k < xs.length := by have := (List.getElem?_eq_some_iff.1 hy).1; rw [h.l] at this; exact this
    obtain ⟨x, hx⟩ : ∃ z, xs[k]? = some z := ⟨_, List.getElem?_eq_getElem hk⟩
    have hxb := hb x (List.mem_of_getElem? hx)
    obtain ⟨G, h1, h2⟩ := h.p k x hk hx
    rw [hy] at h1; cases h1
    exact own k G (x.2 + 1) (by omega) h2.g
theorem bs_rep {X : World} {B g N m cap : Nat} {x : Bd} (h : X.ownsRow B 43 4 (.slice (some ⟨g, 0, none⟩) N cap) N ((List.replicate N x).flatMap Bd.cs)) (hm : m ≤ N) (hb : m < 1000000000000000000) : Bs X (.slice (some ⟨g, 0, none⟩) m cap) (List.replicate m x) := by
  have hlt : g < X.heap.size := (World.ownsRow.lt h g rfl).2
  refine ⟨_, cap, by rw [List.length_replicate], by rw [List.length_replicate]; exact hb, ?_⟩
  by_cases h0 : m = 0
  · subst h0; exact Or.inl rfl
  · refine Or.inr ⟨g, 0, rfl, hlt, fun i x hx => ?_⟩
    have hi : i < m := by have := (List.getElem?_eq_some_iff.1 hx).1; simpa using this
    rw [List.getElem?_replicate, if_pos hi] at hx
    cases hx
    have key : ∀ j, j < 4 → X.cell? ⟨g, 0 + i * 4 + j, none⟩ = x.cs[j]? := fun j hj => by
      rw [Nat.zero_add, own_cell h (by omega)]
      exact bcs_get (List.replicate N x) i x (by rw [List.getElem?_replicate, if_pos (by omega)]) j hj
    exact ⟨key 0 (by omega), key 1 (by omega), key 2 (by omega), key 3 (by omega)⟩
theorem rdB_of {X : World} {B W2 : Nat} {v u : Value} {xs gs : List (Value × Nat)} (h : Kp 43 28 4 Bd.cs oD X B W2 v xs u gs xs.length) (hb : ∀ x ∈ xs, x.2 ≤ 1100000000000) : RdB X v xs ∧ RdB X u gs := by
  have own : ∀ (k : Nat) (q : Value) (m : Nat), m ≤ 1100000000001 → X.ownsRow B 43 4 q m ((List.replicate m (oD k)).flatMap Bd.cs) → Bs X q (List.replicate m (oD k)) := fun k q m hm hq => by
    rcases hq.2 with ⟨rfl, rfl⟩ | ⟨g, cap, cur, rfl, hrest⟩
    · exact ⟨none, 0, rfl, by simp, Or.inl rfl⟩
    · exact bs_rep hq (Nat.le_refl _) (by omega)
  refine ⟨⟨ss_of h.o', fun k x hx => ?_⟩, ⟨by have := h.m; rw [← h.l] at this; exact ss_of this, fun k y hy => ?_⟩⟩
  · have hk := (List.getElem?_eq_some_iff.1 hx).1
    have hxb := hb x (List.mem_of_getElem? hx)
    obtain ⟨G, h1, h2⟩ := h.p k x hk hx
    rcases h2.v with h3 | ⟨b, cap, h3, h4⟩
    · exact own k x.1 x.2 (by omega) h3
    · have hg := h2.g
      rw [h4] at hg
      rw [h3]
      exact bs_rep hg (by omega) (by omega)
  · have hk : k < xs.length := by have := (List.getElem?_eq_some_iff.1 hy).1; rw [h.l] at this; exact this
    obtain ⟨x, hx⟩ : ∃ z, xs[k]? = some z := ⟨_, List.getElem?_eq_getElem hk⟩
    have hxb := hb x (List.mem_of_getElem? hx)
    obtain ⟨G, h1, h2⟩ := h.p k x hk hx
    rw [hy] at h1; cases h1
    exact own k G (x.2 + 1) (by omega) h2.g
theorem ns_rep {X : World} {B g N m cap : Nat} {x : Int} (h : X.ownsRow B 3 1 (.slice (some ⟨g, 0, none⟩) N cap) N ((List.replicate N x).flatMap encI)) (hm : m ≤ N) (hb : m < 1000000000000000000) : Ns X (.slice (some ⟨g, 0, none⟩) m cap) (List.replicate m x) := by
  have hlt : g < X.heap.size := (World.ownsRow.lt h g rfl).2
  refine ⟨_, cap, by rw [List.length_replicate], by rw [List.length_replicate]; exact hb, ?_⟩
  by_cases h0 : m = 0
  · subst h0; exact Or.inl rfl
  · refine Or.inr ⟨g, 0, rfl, hlt, fun i x hx => ?_⟩
    have hi : i < m := by have := (List.getElem?_eq_some_iff.1 hx).1; simpa using this
    rw [List.getElem?_replicate, if_pos hi] at hx
    cases hx
    rw [Nat.zero_add, own_cell h (by omega)]
    have e : (List.replicate N x).flatMap encI = List.replicate N (.int .i64 x) := by
      clear h hm hi
      induction N with
      | zero => rfl
      | succ n ih => rw [List.replicate_succ, List.replicate_succ, List.flatMap_cons, ih]; rfl
    rw [e, List.getElem?_replicate, if_pos (by omega)]
theorem rdN_of {X : World} {B W2 : Nat} {v u : Value} {xs gs : List (Value × Nat)} (h : Kp 3 48 1 encI oI X B W2 v xs u gs xs.length) (hb : ∀ x ∈ xs, x.2 ≤ 1100000000000) : RdN X v xs ∧ RdN X u gs := by
  have own : ∀ (k : Nat) (q : Value) (m : Nat), m ≤ 1100000000001 → X.ownsRow B 3 1 q m ((List.replicate m (oI k)).flatMap encI) → Ns X q (List.replicate m (oI k)) := fun k q m hm hq => by
    rcases hq.2 with ⟨rfl, rfl⟩ | ⟨g, cap, cur, rfl, hrest⟩
    · exact ⟨none, 0, rfl, by simp, Or.inl rfl⟩
    · exact ns_rep hq (Nat.le_refl _) (by omega)
  refine ⟨⟨ss_of h.o', fun k x hx => ?_⟩, ⟨by have := h.m; rw [← h.l] at this; exact ss_of this, fun k y hy => ?_⟩⟩
  · have hk := (List.getElem?_eq_some_iff.1 hx).1
    have hxb := hb x (List.mem_of_getElem? hx)
    obtain ⟨G, h1, h2⟩ := h.p k x hk hx
    rcases h2.v with h3 | ⟨b, cap, h3, h4⟩
    · exact own k x.1 x.2 (by omega) h3
    · have hg := h2.g
      rw [h4] at hg
      rw [h3]
      exact ns_rep hg (by omega) (by omega)
  · have hk : k < xs.length := by have := (List.getElem?_eq_some_iff.1 hy).1; rw [h.l] at this; exact this
    obtain ⟨x, hx⟩ : ∃ z, xs[k]? = some z := ⟨_, List.getElem?_eq_getElem hk⟩
    have hxb := hb x (List.mem_of_getElem? hx)
    obtain ⟨G, h1, h2⟩ := h.p k x hk hx
    rw [hy] at h1; cases h1
    exact own k G (x.2 + 1) (by omega) h2.g
end Go.Proofs.YtnaiecemmhioeaaDoor
