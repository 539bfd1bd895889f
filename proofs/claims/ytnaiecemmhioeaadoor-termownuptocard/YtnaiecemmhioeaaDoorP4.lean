/-
  What linking place by place makes of the classes, as plain lists.
-/
import Derived.Test.YtnaiecemmhioeaaDoorU5
import Derived.Test.YtnaiecemmhioeaaDoorP2
namespace Go.Proofs.YtnaiecemmhioeaaDoor
open Go.RowKit

/-- f changes variables alone, and makes the two of each pair one. -/
def Makes (f : Tm → Tm) (r : List (Tm × Tm)) : Prop := (∀ t : Tm, t.var = false → f t = t) ∧ ∀ y ∈ r, f y.1 = f y.2
structure LI (r : List (Tm × Tm)) (T : List Tm) (rt : Nat → Nat) : Prop where
  nd : ∀ (i j : Nat) (t : Tm), T[i]? = some t → T[j]? = some t → i = j
  rng : ∀ i, i < T.length → rt i < T.length
  idem : ∀ i, rt (rt i) = rt i
  out : ∀ i, T.length ≤ i → rt i = i
  sound : ∀ y ∈ r, y.1 = y.2 ∨ ∃ i k : Nat, T[i]? = some y.1 ∧ T[k]? = some y.2 ∧ rt i = rt k
  comp : ∀ f, Makes f r → ∀ (i : Nat) (t x : Tm), T[i]? = some t → T[rt i]? = some x → f t = f x
  canon : ∀ (i : Nat) (t x : Tm), T[i]? = some t → T[rt i]? = some x → (t.var = false → t = x) ∧ (x.var = true → t.var = true ∧ x.n ≤ t.n)
  mem : ∀ Q : Tm → Prop, (∀ y ∈ r, Q y.1 ∧ Q y.2) → ∀ (i : Nat) (t : Tm), T[i]? = some t → Q t
  size : T.length ≤ 2 * r.length
theorem li_nil : LI [] [] (fun i => i) where
  nd i j t h := by simp at h
  rng i h := by simp at h
  idem i := rfl
  out i h := rfl
  sound y h := by cases h
  comp f hf i t x h := by simp at h
  canon i t x h := by simp at h
  mem Q hQ i t h := by simp at h
  size := by simp
theorem Ad.cases {T T' : List Tm} {t : Tm} (h : Ad T t T') : (∀ (i : Nat) (e : Tm), T'[i]? = some e → T[i]? = some e ∨ (i = T.length ∧ e = t ∧ T'.length = T.length + 1 ∧ ∀ (m : Nat) (e : Tm), T[m]? = some e → ¬ e = t)) ∧ T.length ≤ T'.length := by
  rcases h with ⟨rfl, -⟩ | ⟨h, rfl⟩
  · exact ⟨fun i e he => Or.inl he, Nat.le_refl _⟩
  · refine ⟨fun i e he => ?_, by simp⟩
    rcases Nat.lt_or_ge i T.length with hi | hi
    · rw [List.getElem?_append_left hi] at he; exact Or.inl he
    · rw [List.getElem?_append_right hi] at he
      have h0 : i - T.length = 0 := by
        have := (List.getElem?_eq_some_iff.1 he).1
        simp at this; omega
      rw [h0] at he
      simp at he
      exact Or.inr ⟨by omega, he.symm, by simp, h⟩
/-- All but mem and size stays when a term is added. -/
structure LJ (r : List (Tm × Tm)) (T : List Tm) (rt : Nat → Nat) : Prop where
  nd : ∀ (i j : Nat) (t : Tm), T[i]? = some t → T[j]? = some t → i = j
  rng : ∀ i, i < T.length → rt i < T.length
  idem : ∀ i, rt (rt i) = rt i
  out : ∀ i, T.length ≤ i → rt i = i
  sound : ∀ y ∈ r, y.1 = y.2 ∨ ∃ i k : Nat, T[i]? = some y.1 ∧ T[k]? = some y.2 ∧ rt i = rt k
  comp : ∀ f, Makes f r → ∀ (i : Nat) (t x : Tm), T[i]? = some t → T[rt i]? = some x → f t = f x
  canon : ∀ (i : Nat) (t x : Tm), T[i]? = some t → T[rt i]? = some x → (t.var = false → t = x) ∧ (x.var = true → t.var = true ∧ x.n ≤ t.n)
theorem LI.lj {r : List (Tm × Tm)} {T : List Tm} {rt : Nat → Nat} (h : LI r T rt) : LJ r T rt := ⟨h.nd, h.rng, h.idem, h.out, h.sound, h.comp, h.canon⟩
theorem LJ.ad {r : List (Tm × Tm)} {T T' : List Tm} {rt : Nat → Nat} {t : Tm} (h : LJ r T rt) (ha : Ad T t T') : LJ r T' rt := by
  obtain ⟨hc, hl⟩ := ha.cases
  have hrt : ∀ i, T.length ≤ i → rt i = i := h.out
  have hold : ∀ (i : Nat) (e x : Tm), T[i]? = some e → T'[rt i]? = some x → T[rt i]? = some x := fun i e x he hx => by
    have hi := h.rng i (List.getElem?_eq_some_iff.1 he).1
    rcases hc _ _ hx with hh | ⟨h1, -⟩
    · exact hh
    · omega
  refine ⟨fun i j e hi hj => ?_, fun i hi => ?_, h.idem, fun i hi => h.out i (by omega), fun y hy => ?_, fun f hf i e x he hx => ?_, fun i e x he hx => ?_⟩
  · rcases hc i e hi with h1 | ⟨h1, h2, -, h3⟩
    · rcases hc j e hj with h4 | ⟨h4, h5, -, h6⟩
      · exact h.nd i j e h1 h4
      · exact absurd h5 (h6 i e h1)
    · rcases hc j e hj with h4 | ⟨h4, h5, -, h6⟩
      · exact absurd h2 (h3 j e h4)
      · omega
  · rcases Nat.lt_or_ge i T.length with hh | hh
    · exact Nat.lt_of_lt_of_le (h.rng i hh) hl
    · rw [hrt i hh]; exact hi
  · rcases h.sound y hy with h1 | ⟨i, k, h1, h2, h3⟩
    · exact Or.inl h1
    · exact Or.inr ⟨i, k, ha.get h1, ha.get h2, h3⟩
  · rcases hc i e he with h1 | ⟨h1, -⟩
    · exact h.comp f hf i e x h1 (hold i e x h1 hx)
    · rw [hrt i (by omega)] at hx; rw [he] at hx; rw [Option.some.inj hx]
  · rcases hc i e he with h1 | ⟨h1, -⟩
    · exact h.canon i e x h1 (hold i e x h1 hx)
    · rw [hrt i (by omega)] at hx; rw [he] at hx
      obtain rfl := Option.some.inj hx
      exact ⟨fun _ => rfl, fun hv => ⟨hv, Int.le_refl _⟩⟩
theorem Makes.left {f : Tm → Tm} {r : List (Tm × Tm)} {y : Tm × Tm} (h : Makes f (r ++ [y])) : Makes f r ∧ f y.1 = f y.2 :=
  ⟨⟨h.1, fun z hz => h.2 z (List.mem_append_left _ hz)⟩, h.2 y (by simp)⟩
theorem LJ.one {r : List (Tm × Tm)} {T : List Tm} {rt : Nat → Nat} {t u : Tm} (h : LJ r T rt) (hs : t = u ∨ ∃ i k : Nat, T[i]? = some t ∧ T[k]? = some u ∧ rt i = rt k) : LJ (r ++ [(t, u)]) T rt :=
  ⟨h.nd, h.rng, h.idem, h.out, fun y hy => by
    rcases List.mem_append.1 hy with hy | hy
    · exact h.sound y hy
    · rw [List.mem_singleton.1 hy]; exact hs, fun f hf => h.comp f hf.left.1, h.canon⟩
theorem LJ.union {r : List (Tm × Tm)} {T : List Tm} {rt : Nat → Nat} {t u x y : Tm} {a b it iu : Nat} (h : LJ r T rt) (ra : rt a = a) (hab : ¬ a = b) (hx : T[a]? = some x) (hy : T[b]? = some y)
    (hv : y.var = true ∧ (x.var = true → x.n ≤ y.n)) (hit : T[it]? = some t) (hiu : T[iu]? = some u) (hr : (rt it = a ∧ rt iu = b) ∨ (rt it = b ∧ rt iu = a)) : LJ (r ++ [(t, u)]) T (fun j => if rt j = b then a else rt j) := by
  have hra : ¬ rt a = b := by rw [ra]; exact hab
  have han := (List.getElem?_eq_some_iff.1 hx).1
  have hbn := (List.getElem?_eq_some_iff.1 hy).1
  refine ⟨h.nd, fun i hi => ?_, fun i => ?_, fun i hi => ?_, fun z hz => ?_, fun f hf i e z he hz => ?_, fun i e z he hz => ?_⟩
  · split
    · exact han
    · exact h.rng i hi
  · by_cases hh : rt i = b
    · simp only [if_pos hh, if_neg hra]; exact ra
    · simp only [if_neg hh, h.idem i]
  · have := h.out i hi
    simp only [this, if_neg (show ¬ i = b by omega)]
  · rcases List.mem_append.1 hz with hz | hz
    · rcases h.sound z hz with h1 | ⟨i, k, h1, h2, h3⟩
      · exact Or.inl h1
      · exact Or.inr ⟨i, k, h1, h2, by simp only [h3]⟩
    · rw [List.mem_singleton.1 hz]
      refine Or.inr ⟨it, iu, hit, hiu, ?_⟩
      rcases hr with ⟨h1, h2⟩ | ⟨h1, h2⟩
      · simp only [h1, h2, if_neg hab, if_true]
      · simp only [h1, h2, if_neg hab, if_true]
  · obtain ⟨hf1, hf2⟩ := hf.left
    have hxy : f x = f y := by
      rcases hr with ⟨h1, h2⟩ | ⟨h1, h2⟩
      · rw [← h.comp f hf1 it t x hit (by rw [h1]; exact hx), ← h.comp f hf1 iu u y hiu (by rw [h2]; exact hy)]; exact hf2
      · rw [← h.comp f hf1 it t y hit (by rw [h1]; exact hy), ← h.comp f hf1 iu u x hiu (by rw [h2]; exact hx)]; exact hf2.symm
    by_cases hh : rt i = b
    · rw [if_pos hh, hx] at hz
      rw [← Option.some.inj hz, hxy]
      exact h.comp f hf1 i e y he (by rw [hh]; exact hy)
    · rw [if_neg hh] at hz
      exact h.comp f hf1 i e z he hz
  · by_cases hh : rt i = b
    · rw [if_pos hh, hx] at hz
      obtain rfl := Option.some.inj hz
      obtain ⟨c1, c2⟩ := h.canon i e y he (by rw [hh]; exact hy)
      obtain ⟨d1, d2⟩ := c2 hv.1
      exact ⟨(fun hf => by rw [d1] at hf; cases hf), fun hxv => ⟨d1, Int.le_trans (hv.2 hxv) d2⟩⟩
    · rw [if_neg hh] at hz
      exact h.canon i e z he hz
theorem lk_step {r : List (Tm × Tm)} {T T' : List Tm} {rt rt' : Nat → Nat} {t u : Tm} (h : LI r T rt) (hk : Lk T rt t u true T' rt') : LI (r ++ [(t, u)]) T' rt' := by
  have key : LJ (r ++ [(t, u)]) T' rt' ∧ (∀ (i : Nat) (e : Tm), T'[i]? = some e → T[i]? = some e ∨ e = t ∨ e = u) ∧ T'.length ≤ T.length + 2 := by
    rcases hk with ⟨rfl, -, rfl, rfl⟩ | ⟨hne, T1, it, iu, ha1, ha2, hit, hiu, hk⟩
    · exact ⟨h.lj.one (Or.inl rfl), fun i e he => Or.inl he, by omega⟩
    · have hj := (h.lj.ad ha1).ad ha2
      have hm : ∀ (i : Nat) (e : Tm), T'[i]? = some e → T[i]? = some e ∨ e = t ∨ e = u := fun i e he => by
        rcases ha2.cases.1 i e he with h1 | ⟨-, h1, -⟩
        · rcases ha1.cases.1 i e h1 with h2 | ⟨-, h2, -⟩
          · exact Or.inl h2
          · exact Or.inr (Or.inl h2)
        · exact Or.inr (Or.inr h1)
      have hl : T'.length ≤ T.length + 2 := by have := ha1.len; have := ha2.len; omega
      refine ⟨?_, hm, hl⟩
      rcases hk with ⟨hr, -, rfl⟩ | ⟨hr, x, y, hx, hy, ⟨⟨hv1, hv2⟩, -, rfl⟩ | ⟨hv, hxv, -, rfl⟩ | ⟨-, -, hb, -⟩⟩
      · exact hj.one (Or.inr ⟨it, iu, hit, hiu, hr⟩)
      · exact hj.union (hj.idem it) hr hx hy ⟨hv1, fun hxv => by rcases hv2 with hv2 | hv2; (rw [hxv] at hv2; cases hv2); omega⟩ hit hiu (Or.inl ⟨rfl, rfl⟩)
      · refine hj.union (hj.idem iu) (fun e => hr e.symm) hy hx ⟨hxv, fun hyv => ?_⟩ hit hiu (Or.inr ⟨rfl, rfl⟩)
        rcases Int.lt_or_le x.n y.n with hh | hh
        · exact absurd ⟨hyv, Or.inr hh⟩ hv
        · exact hh
      · cases hb
  obtain ⟨hj, hm, hl⟩ := key
  refine ⟨hj.nd, hj.rng, hj.idem, hj.out, hj.sound, hj.comp, hj.canon, fun Q hQ i e he => ?_, ?_⟩
  · have hq := hQ (t, u) (by simp)
    rcases hm i e he with h1 | rfl | rfl
    · exact h.mem Q (fun y hy => hQ y (List.mem_append_left _ hy)) i e h1
    · exact hq.1
    · exact hq.2
  · rw [List.length_append]; have := h.size; simp; omega
theorem lk_false {r : List (Tm × Tm)} {T T' : List Tm} {rt rt' : Nat → Nat} {t u : Tm} (h : LI r T rt) (hk : Lk T rt t u false T' rt') (f : Tm → Tm) (hf : Makes f r) : ¬ f t = f u := by
  rcases hk with ⟨-, hb, -⟩ | ⟨hne, T1, it, iu, ha1, ha2, hit, hiu, hk⟩
  · cases hb
  · have hj := (h.lj.ad ha1).ad ha2
    rcases hk with ⟨-, hb, -⟩ | ⟨hr, x, y, hx, hy, ⟨-, hb, -⟩ | ⟨-, -, hb, -⟩ | ⟨hxv, hyv, -, -⟩⟩
    · cases hb
    · cases hb
    · cases hb
    · intro e
      rw [hj.comp f hf it t x hit hx, hj.comp f hf iu u y hiu hy, hf.1 x hxv, hf.1 y hyv] at e
      subst e
      exact hr (hj.nd _ _ x hx hy)
end Go.Proofs.YtnaiecemmhioeaaDoor
