/-
  wire: law 23: rows in place: what WireOrder asks of them.
-/
import Derived.Test.YtboomeeipnfbmaaWSF
namespace Go.Proofs.Ytboomeeipnfbmaa
open Go.RowKit

theorem LmW.take {F : Nat → Prop} {w : World} {a : Option Addr} {n cap k : Nat} {l : List MsW} (h : LmW F w (.slice a n cap) l) (hk : k ≤ n) : LmW F w (.slice a k cap) (l.take k) := by
  obtain ⟨a', c', e, h1, h2, h3⟩ := h
  simp only [Value.slice.injEq] at e
  obtain ⟨rfl, rfl, rfl⟩ := e
  have hl : (l.take k).length = k := by rw [List.length_take]; omega
  refine ⟨a, cap, by rw [hl], by rw [hl]; omega, h2, ?_⟩
  rcases h3 with ⟨rfl, h3⟩ | ⟨b, o, rfl, h3, h4, h5⟩
  · exact Or.inl ⟨by simp, h3⟩
  · refine Or.inr ⟨b, o, rfl, h3, h4, fun i m hm => h5 i m ?_⟩
    rw [List.getElem?_take] at hm
    split at hm
    · exact hm
    · cases hm
theorem LmW.dropW {F : Nat → Prop} {w : World} {a : Option Addr} {n cap k : Nat} {l : List MsW} (h : LmW F w (.slice a n cap) l) (hk : k ≤ n) : LmW F w (.slice (if cap = k then a else Option.map (fun x => x.add (k * 2)) a) (n - k) (cap - k)) (l.drop k) := by
  obtain ⟨a', c', e, h1, h2, h3⟩ := h
  simp only [Value.slice.injEq] at e
  obtain ⟨rfl, rfl, rfl⟩ := e
  refine ⟨_, cap - k, by rw [List.length_drop], by rw [List.length_drop]; omega, by omega, ?_⟩
  rcases h3 with ⟨rfl, h3⟩ | ⟨b, o, rfl, h3, h4, h5⟩
  · refine Or.inl ⟨by simp, fun e => ?_⟩
    split at e
    · omega
    · rw [Option.map_eq_none_iff] at e
      have := h3 e
      omega
  · by_cases hc : cap = k
    · exact Or.inl ⟨List.drop_eq_nil_of_le (by omega), fun e => by rw [if_pos hc] at e; cases e⟩
    · rw [if_neg hc, Option.map_some, Go.WideShapes.add_plain]
      refine Or.inr ⟨b, o + k * 2, rfl, h3, h4, fun i m hm => ?_⟩
      rw [List.getElem?_drop] at hm
      have := h5 (k + i) m hm
      rw [show o + (k + i) * 2 = o + k * 2 + i * 2 by omega] at this
      exact this
/-- A row of a call's own, cell by cell. -/
structure OrW (F : Nat → Prop) (w : World) (g cap : Nat) (Z : List (MsW × Value)) : Prop where
  c : Z.length ≤ cap ∧ cap ≤ 9223372036854775807
  b : F g ∧ g < w.heap.size
  n : ∀ (k : Nat) (q : MsW × Value), Z[k]? = some q → w.cell? ⟨g, k * 2, none⟩ = some (.int .i64 (q.1.n : Int)) ∧ w.cell? ⟨g, k * 2 + 1, none⟩ = some q.2
  f : ∀ i, w.frozen? ⟨g, i, none⟩ = false
  u : ∀ q ∈ Z, LbW (fun x => F x ∧ x ≠ g) w q.2 q.1.b
theorem OrW.same {F : Nat → Prop} {w w' : World} {g cap : Nat} {Z : List (MsW × Value)} (h : OrW F w g cap Z) (hz : w.heap.size ≤ w'.heap.size) (hf : ∀ b, b < w.heap.size → F b → w'.heap[b]? = w.heap[b]?) : OrW F w' g cap Z :=
  ⟨h.c, ⟨h.b.1, Nat.lt_of_lt_of_le h.b.2 hz⟩, fun k q hq => by
    have e := hf g h.b.2 h.b.1
    exact ⟨by rw [World.cell?_of_block (w := w) (a := ⟨g, _, none⟩) e]; exact (h.n k q hq).1, by rw [World.cell?_of_block (w := w) (a := ⟨g, _, none⟩) e]; exact (h.n k q hq).2⟩,
   fun i => by
    have e := hf g h.b.2 h.b.1
    have := h.f i
    unfold World.frozen? at this ⊢
    simp only at this ⊢
    rw [e]
    exact this, fun q hq => (h.u q hq).same hz fun b hb hF => hf b hb hF.1⟩
theorem OrW.lm {F : Nat → Prop} {w : World} {g cap : Nat} {Z : List (MsW × Value)} (h : OrW F w g cap Z) {n : Nat} (hn : Z.length = n) : LmW F w (.slice (some ⟨g, 0, none⟩) n cap) (Z.map Prod.fst) := by
  refine ⟨_, cap, by rw [List.length_map, hn], by rw [List.length_map]; exact h.c.1, h.c.2, Or.inr ⟨g, 0, rfl, h.b.2, h.b.1, fun i m hm => ?_⟩⟩
  rw [List.getElem?_map] at hm
  cases hq : Z[i]? with
  | none => rw [hq] at hm; simp at hm
  | some q =>
    rw [hq] at hm
    simp at hm
    subst hm
    obtain ⟨c1, c2⟩ := h.n i q hq
    exact ⟨by rw [Nat.zero_add]; exact c1, q.2, by rw [Nat.zero_add]; exact c2, (h.u q (List.mem_of_getElem? hq)).mono fun x _ hx => hx.1⟩
theorem OmW.or {B : Nat} {w : World} {u : Value} {Z : List (MsW × Value)} (h : OmW B w u Z) (hn : Z ≠ []) : ∃ g cap, u = .slice (some ⟨g, 0, none⟩) Z.length cap ∧ OrW (fun x => B ≤ x ∧ x < w.heap.size) w g cap Z := by
  rcases h.o with ho | ⟨rfl, -⟩
  · obtain ⟨a, cap, rfl, hc⟩ := row7_form ho
    rcases ho.2 with ⟨e, hz⟩ | ⟨g, c, cur, e, hb, hg, hl, hc2, -⟩
    · exact absurd (List.eq_nil_of_length_eq_zero hz) hn
    · simp only [Value.slice.injEq] at e
      obtain ⟨rfl, -, rfl⟩ := e
      have hgl : g < w.heap.size := by
        obtain ⟨hh, -⟩ := Array.getElem?_eq_some_iff.1 hg
        exact hh
      refine ⟨g, cap, rfl, ⟨hc, by unfold maxLen at hc2; omega⟩, ⟨⟨hb, hgl⟩, hgl⟩, fun k q hq => ?_, fun i => by simp [World.frozen?, hg], fun q hq => ?_⟩
      · have hz : (Z.map zcW)[k]? = some (zcW q) := by rw [List.getElem?_map, hq]; rfl
        obtain ⟨c1, c2⟩ := twoW_get hz
        obtain ⟨g', e, -, -, h3, -⟩ := row7_at ho c1
        cases e
        obtain ⟨g', e, -, -, h4, -⟩ := row7_at ho c2
        cases e
        exact ⟨h3, h4⟩
      · have hz := h.b q hq
        obtain ⟨hy, hw | ⟨e, a, e2⟩⟩ := hz
        · refine (hw.lb hy).mono fun x hx hF => ⟨⟨hF.1, hx⟩, fun e => ?_⟩
          rcases hw.2 with ⟨e2, -⟩ | ⟨g2, c2, cur2, e2, -, hg2, -⟩
          · rw [e2] at hF; cases hF.2
          · rw [e2] at hF
            have e3 := hF.2
            simp only [Value.ownBlock, Option.some.injEq] at e3
            rw [e3, e, hg] at hg2
            simp at hg2
        · rw [e, e2]
          exact ⟨a, 0, rfl, Nat.le_refl _, by omega, by intro y hy; simp at hy, Or.inl ⟨rfl, fun _ => by rfl⟩⟩
  · exact absurd rfl hn
theorem OrW.put {F : Nat → Prop} {w : World} {g cap j : Nat} {Z : List (MsW × Value)} {q : MsW × Value} (h : OrW F w g cap Z) (hj : j < Z.length) (hq : LbW (fun x => F x ∧ x ≠ g) w q.2 q.1.b) : OrW F ((w.setCell ⟨g, j * 2, none⟩ (.int .i64 (q.1.n : Int))).setCell ⟨g, j * 2 + 1, none⟩ q.2) g cap (Z.set j q) := by
  have hfr : Fr (fun b => b = g) w ((w.setCell ⟨g, j * 2, none⟩ (.int .i64 (q.1.n : Int))).setCell ⟨g, j * 2 + 1, none⟩ q.2) := Fr.set (Fr.set (Fr.refl (fun b => b = g) w) (Or.inl rfl)) (Or.inl rfl)
  refine ⟨by rw [List.length_set]; exact h.c, by simpa using h.b, fun k p hp => ?_, fun i => by simpa using h.f i, fun p hp => ?_⟩
  · obtain ⟨p0, hp0⟩ : ∃ p0, Z[j]? = some p0 := ⟨_, List.getElem?_eq_getElem hj⟩
    obtain ⟨c1, c2⟩ := h.n j p0 hp0
    rw [List.getElem?_set] at hp
    split at hp
    · rename_i e
      subst e
      simp only [Option.some.injEq] at hp
      subst hp
      refine ⟨?_, World.cell?_setCell_same _ _ _ (u := p0.2) ?_⟩
      · rw [World.cell?_setCell_other _ _ _ _ (by simp)]
        exact World.cell?_setCell_same _ _ _ c1
      · rw [World.cell?_setCell_other _ _ _ _ (by simp)]
        exact c2
    · rename_i e
      obtain ⟨d1, d2⟩ := h.n k p hp
      refine ⟨?_, ?_⟩
      · rw [World.cell?_setCell_other _ _ _ _ (by simp <;> omega), World.cell?_setCell_other _ _ _ _ (by simp <;> omega)]
        exact d1
      · rw [World.cell?_setCell_other _ _ _ _ (by simp <;> omega), World.cell?_setCell_other _ _ _ _ (by simp <;> omega)]
        exact d2
  · rcases List.mem_or_eq_of_mem_set hp with hp | rfl
    · exact (h.u p hp).fr hfr fun b _ hF => hF.2
    · exact hq.fr hfr fun b _ hF => hF.2
end Go.Proofs.Ytboomeeipnfbmaa
