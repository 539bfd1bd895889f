/-
  wire: the document's wire beside its row (plain).
-/
import Derived.Test.YtboomeeipnfbmabWR1
namespace Go.Proofs.Ytboomeeipnfbmab
open Go.RowKit

/-- All messages that ever were, by their numbers, with their bytes and places, say the row s; P: its places. -/
structure RsW (al : List (List Int × Nat)) (s : WrW) (P : List Nat) : Prop where
  g : al.length = s.gv
  p : P.length = s.row.length
  up : ∀ (i j p q : Nat), P[i]? = some p → P[j]? = some q → i < j → p < q
  lo : ∀ (i p : Nat), P[i]? = some p → 1 ≤ p ∧ p ≤ s.gv
  fw : ∀ (i : Nat) (m : MsW) (p : Nat), s.row[i]? = some m → P[i]? = some p → 1 ≤ m.n ∧ al[m.n - 1]? = some (m.b, p)
  bw : ∀ (k : Nat) (x : List Int × Nat), al[k]? = some x → 0 < x.2 → ∃ (i : Nat) (m : MsW), s.row[i]? = some m ∧ m.n = k + 1
theorem RsW.pl {al : List (List Int × Nat)} {s : WrW} {P : List Nat} (h : RsW al s P) {i : Nat} {m : MsW} (hm : s.row[i]? = some m) : ∃ p, P[i]? = some p ∧ 1 ≤ p ∧ p ≤ s.gv ∧ 1 ≤ m.n ∧ m.n ≤ s.gv ∧ al[m.n - 1]? = some (m.b, p) := by
  have hi := (List.getElem?_eq_some_iff.1 hm).1
  obtain ⟨p, hp⟩ : ∃ p, P[i]? = some p := ⟨_, List.getElem?_eq_getElem (by rw [h.p]; exact hi)⟩
  obtain ⟨h1, h2⟩ := h.fw i m _ hm hp
  have := (List.getElem?_eq_some_iff.1 h2).1
  have h3 := h.lo i _ hp
  have h4 := h.g
  exact ⟨_, hp, h3.1, h3.2, h1, by omega, h2⟩
theorem RsW.some_ {al : List (List Int × Nat)} {s : WrW} {P : List Nat} (h : RsW al s P) {n : Int} {i : Nat} (hp : plW s n = some i) : ∃ m p, s.row[i]? = some m ∧ (m.n : Int) = n ∧ 1 ≤ n ∧ n ≤ (s.gv : Int) ∧ n.toNat = m.n ∧ 1 ≤ p ∧ p ≤ s.gv ∧ P[i]? = some p ∧ al[m.n - 1]? = some (m.b, p) := by
  obtain ⟨m, hm, hn, -⟩ := plW_some hp
  obtain ⟨p, h1, h2, h3, h4, h5, h6⟩ := h.pl hm
  exact ⟨m, p, hm, hn, by omega, by omega, by omega, h2, h3, h1, h6⟩
theorem RsW.none_ {al : List (List Int × Nat)} {s : WrW} {P : List Nat} (h : RsW al s P) {n : Int} (hp : plW s n = none) (h1 : 1 ≤ n) (h2 : n ≤ (s.gv : Int)) : ∃ b, al[n.toNat - 1]? = some (b, 0) := by
  have hg := h.g
  obtain ⟨x, hx⟩ : ∃ x, al[n.toNat - 1]? = some x := ⟨_, List.getElem?_eq_getElem (by omega)⟩
  rcases Nat.eq_zero_or_pos x.2 with h0 | h0
  · obtain ⟨b, p⟩ := x
    simp only at h0
    subst h0
    exact ⟨b, hx⟩
  · obtain ⟨i, m, hm, hn⟩ := h.bw _ x hx h0
    exact absurd (show (m.n : Int) = n by omega) (plW_none hp m (List.mem_of_getElem? hm))
theorem RsW.nil : RsW [] ⟨[], 0⟩ [] := ⟨rfl, rfl, by simp, by simp, by simp, by simp⟩
theorem RsW.put {al : List (List Int × Nat)} {s : WrW} {P : List Nat} (h : RsW al s P) (b : List Int) : RsW (al ++ [(b, s.gv + 1)]) (putW s b) (P ++ [s.gv + 1]) := by
  have hg := h.g
  have hp := h.p
  refine ⟨by simp [putW, hg], by simp [putW, hp], fun i j p q hi hj hij => ?_, fun i p hi => ?_, fun i m p hm hi => ?_, fun k x hx h0 => ?_⟩
  · rw [List.getElem?_append] at hi hj
    split at hi
    · split at hj
      · exact h.up i j p q hi hj hij
      · have := (h.lo i p hi).2
        have := List.mem_of_getElem? hj
        rw [List.mem_singleton] at this
        omega
    · split at hj
      · omega
      · have h1 := (List.getElem?_eq_some_iff.1 hj).1
        simp only [List.length_singleton] at h1
        omega
  · rw [List.getElem?_append] at hi
    simp only [putW]
    split at hi
    · have := h.lo i p hi; omega
    · have := List.mem_of_getElem? hi
      rw [List.mem_singleton] at this
      omega
  · simp only [putW] at hm
    rw [List.getElem?_append] at hm hi
    by_cases hl : i < s.row.length
    · rw [if_pos hl] at hm
      rw [if_pos (by omega)] at hi
      obtain ⟨h1, h2⟩ := h.fw i m p hm hi
      exact ⟨h1, by rw [List.getElem?_append_left (List.getElem?_eq_some_iff.1 h2).1]; exact h2⟩
    · rw [if_neg hl] at hm
      rw [if_neg (by omega)] at hi
      have e1 := List.mem_of_getElem? hm
      have e2 := List.mem_of_getElem? hi
      rw [List.mem_singleton] at e1 e2
      subst e1 e2
      refine ⟨by simp, ?_⟩
      simp only [Nat.add_sub_cancel]
      rw [List.getElem?_append_right (by omega), hg, Nat.sub_self]
      rfl
  · rw [List.getElem?_append] at hx
    split at hx
    · obtain ⟨i, m, hm, hn⟩ := h.bw k x hx h0
      exact ⟨i, m, by simp only [putW]; rw [List.getElem?_append_left (List.getElem?_eq_some_iff.1 hm).1]; exact hm, hn⟩
    · have h1 := (List.getElem?_eq_some_iff.1 hx).1
      simp only [List.length_singleton] at h1
      refine ⟨s.row.length, ⟨s.gv + 1, b⟩, by simp [putW], ?_⟩
      simp only
      omega
theorem RsW.take {al : List (List Int × Nat)} {s : WrW} {P : List Nat} (h : RsW al s P) (ho : s.Ok) {i : Nat} {m : MsW} {p : Nat} (hm : s.row[i]? = some m) (hp : P[i]? = some p) : RsW (al.set (m.n - 1) (m.b, 0)) ⟨s.row.eraseIdx i, s.gv⟩ (P.eraseIdx i) := by
  have hil := (List.getElem?_eq_some_iff.1 hm).1
  have hpl := h.p
  have hne : ∀ j y, j ≠ i → s.row[j]? = some y → y.n ≠ m.n := fun j y hj hy e => hj (num_one ho hy hm e)
  refine ⟨by rw [List.length_set]; exact h.g, by simp only [List.length_eraseIdx]; rw [if_pos hil, if_pos (by omega), hpl], fun a c p q ha hc hac => ?_, fun a p ha => ?_, fun a x p hx ha => ?_, fun k x hx h0 => ?_⟩
  · rw [List.getElem?_eraseIdx] at ha hc
    split at ha <;> split at hc
    · exact h.up a c p q ha hc hac
    · exact h.up a (c + 1) p q ha hc (by omega)
    · omega
    · exact h.up (a + 1) (c + 1) p q ha hc (by omega)
  · rw [List.getElem?_eraseIdx] at ha
    split at ha
    · exact h.lo _ p ha
    · exact h.lo _ p ha
  · simp only at hx
    rw [List.getElem?_eraseIdx] at hx ha
    have key : ∀ j, j ≠ i → s.row[j]? = some x → P[j]? = some p → 1 ≤ x.n ∧ (al.set (m.n - 1) (m.b, 0))[x.n - 1]? = some (x.b, p) := fun j hj h1 h2 => by
      obtain ⟨h3, h4⟩ := h.fw j x p h1 h2
      have h5 := hne j x hj h1
      have h6 := (h.fw i m _ hm hp).1
      exact ⟨h3, by rw [List.getElem?_set_ne (by omega)]; exact h4⟩
    split at hx
    · rename_i hlt
      rw [if_pos hlt] at ha
      exact key a (by omega) hx ha
    · rename_i hlt
      rw [if_neg hlt] at ha
      exact key (a + 1) (by omega) hx ha
  · have hk : k ≠ m.n - 1 := fun e => by
      subst e
      rw [List.getElem?_set_self (by have := (List.getElem?_eq_some_iff.1 hx).1; rw [List.length_set] at this; exact this)] at hx
      cases hx
      simp at h0
    rw [List.getElem?_set_ne (by omega)] at hx
    obtain ⟨j, y, hy, hn⟩ := h.bw k x hx h0
    have hji : j ≠ i := fun e => by
      subst e
      rw [hm] at hy
      cases hy
      omega
    by_cases hlt : j < i
    · exact ⟨j, y, by simp only; rw [List.getElem?_eraseIdx, if_pos hlt]; exact hy, hn⟩
    · refine ⟨j - 1, y, ?_, hn⟩
      simp only
      rw [List.getElem?_eraseIdx, if_neg (by omega), show j - 1 + 1 = j by omega]
      exact hy
theorem RsW.newB {al : List (List Int × Nat)} {s : WrW} {P : List Nat} (h : RsW al s P) (ho : s.Ok) {i : Nat} {m : MsW} {p : Nat} (hm : s.row[i]? = some m) (hp : P[i]? = some p) (b : List Int) : RsW (al.set (m.n - 1) (b, p)) ⟨s.row.set i ⟨m.n, b⟩, s.gv⟩ P := by
  have hil := (List.getElem?_eq_some_iff.1 hm).1
  have h6 := h.fw i m _ hm hp
  have hal := (List.getElem?_eq_some_iff.1 h6.2).1
  refine ⟨by rw [List.length_set]; exact h.g, by simp only [List.length_set]; exact h.p, h.up, h.lo, fun a x q hx ha => ?_, fun k x hx h0 => ?_⟩
  · simp only at hx
    by_cases e : a = i
    · subst e
      rw [List.getElem?_set_self hil] at hx
      cases hx
      rw [hp] at ha
      cases ha
      exact ⟨h6.1, by simp only; rw [List.getElem?_set_self hal]⟩
    · rw [List.getElem?_set_ne (by omega)] at hx
      obtain ⟨h3, h4⟩ := h.fw a x q hx ha
      have h5 : x.n ≠ m.n := fun e' => e (num_one ho hx hm e')
      exact ⟨h3, by rw [List.getElem?_set_ne (by omega)]; exact h4⟩
  · by_cases hk : k = m.n - 1
    · exact ⟨i, ⟨m.n, b⟩, by simp only; rw [List.getElem?_set_self hil], by simp only; omega⟩
    · rw [List.getElem?_set_ne (by omega)] at hx
      obtain ⟨j, y, hy, hn⟩ := h.bw k x hx h0
      have hji : j ≠ i := fun e => by
        subst e
        rw [hm] at hy
        cases hy
        omega
      exact ⟨j, y, by simp only; rw [List.getElem?_set_ne (by omega)]; exact hy, hn⟩
theorem RsW.swp {al : List (List Int × Nat)} {s : WrW} {P : List Nat} (h : RsW al s P) (ho : s.Ok) {i j : Nat} {x y : MsW} {p q : Nat} (hx : s.row[i]? = some x) (hy : s.row[j]? = some y) (hp : P[i]? = some p) (hq : P[j]? = some q) : RsW ((al.set (x.n - 1) (x.b, q)).set (y.n - 1) (y.b, p)) ⟨swpR s.row i j, s.gv⟩ P := by
  have hil := (List.getElem?_eq_some_iff.1 hx).1
  have h6 := h.fw i x _ hx hp
  have h7 := h.fw j y _ hy hq
  have hal := (List.getElem?_eq_some_iff.1 h6.2).1
  have hbl := (List.getElem?_eq_some_iff.1 h7.2).1
  refine ⟨by rw [List.length_set, List.length_set]; exact h.g, by simp only [swpR_len]; exact h.p, h.up, h.lo, fun a z r hz ha => ?_, fun k z hz h0 => ?_⟩
  · simp only at hz
    rw [swpR_get hx hy] at hz
    by_cases e1 : a = j
    · rw [if_pos e1] at hz
      cases hz
      subst e1
      rw [hq] at ha
      cases ha
      by_cases e2 : x.n = y.n
      · have := num_one ho hx hy e2
        subst this
        rw [hx] at hy
        cases hy
        rw [hp] at hq
        cases hq
        exact ⟨h6.1, by rw [List.getElem?_set_self (by rw [List.length_set]; exact hal)]⟩
      · exact ⟨h6.1, by rw [List.getElem?_set_ne (by omega), List.getElem?_set_self hal]⟩
    · rw [if_neg e1] at hz
      by_cases e2 : a = i
      · rw [if_pos e2] at hz
        cases hz
        subst e2
        rw [hp] at ha
        cases ha
        exact ⟨h7.1, by rw [List.getElem?_set_self (by rw [List.length_set]; exact hbl)]⟩
      · rw [if_neg e2] at hz
        obtain ⟨h3, h4⟩ := h.fw a z r hz ha
        have n1 : z.n ≠ x.n := fun e' => e2 (num_one ho hz hx e')
        have n2 : z.n ≠ y.n := fun e' => e1 (num_one ho hz hy e')
        exact ⟨h3, by rw [List.getElem?_set_ne (by omega), List.getElem?_set_ne (by omega)]; exact h4⟩
  · have get : ∀ c w, s.row[c]? = some w → ∃ d, (swpR s.row i j)[d]? = some w := fun c w hc => by
      by_cases e1 : c = i
      · subst e1
        rw [hx] at hc
        cases hc
        exact ⟨j, by rw [swpR_get hx hy, if_pos rfl]⟩
      · by_cases e2 : c = j
        · subst e2
          rw [hy] at hc
          cases hc
          exact ⟨i, by rw [swpR_get hx hy, if_neg (fun e => e1 e.symm), if_pos rfl]⟩
        · exact ⟨c, by rw [swpR_get hx hy, if_neg e2, if_neg e1]; exact hc⟩
    by_cases k1 : k = y.n - 1
    · obtain ⟨d, hd⟩ := get j y hy
      exact ⟨d, y, hd, by omega⟩
    · rw [List.getElem?_set_ne (by omega)] at hz
      by_cases k2 : k = x.n - 1
      · obtain ⟨d, hd⟩ := get i x hx
        exact ⟨d, x, hd, by omega⟩
      · rw [List.getElem?_set_ne (by omega)] at hz
        obtain ⟨c, w, hw, hn⟩ := h.bw k z hz h0
        obtain ⟨d, hd⟩ := get c w hw
        exact ⟨d, w, hd, hn⟩
/-- Of the first k messages number n has the least place above a; 0: none has one. -/
def BhW (al : List (List Int × Nat)) (a k n : Nat) : Prop :=
  (n = 0 ∧ ∀ (i : Nat) (x : List Int × Nat), i < k → al[i]? = some x → x.2 ≤ a) ∨ (1 ≤ n ∧ n ≤ k ∧ ∃ y, al[n - 1]? = some y ∧ a < y.2 ∧ ∀ (i : Nat) (x : List Int × Nat), i < k → al[i]? = some x → a < x.2 → y.2 ≤ x.2)
theorem BhW.start (al : List (List Int × Nat)) (a : Nat) : BhW al a 0 0 := Or.inl ⟨rfl, fun i x hi => by omega⟩
theorem BhW.low {al : List (List Int × Nat)} {a k n : Nat} (h : BhW al a k n) {x : List Int × Nat} (hx : al[k]? = some x) (hl : x.2 ≤ a) : BhW al a (k + 1) n := by
  rcases h with ⟨h1, h2⟩ | ⟨h1, h2, y, h3, h4, h5⟩
  · refine Or.inl ⟨h1, fun i z hi hz => ?_⟩
    by_cases e : i = k
    · subst e; rw [hx] at hz; cases hz; exact hl
    · exact h2 i z (by omega) hz
  · refine Or.inr ⟨h1, by omega, y, h3, h4, fun i z hi hz ha => ?_⟩
    by_cases e : i = k
    · subst e; rw [hx] at hz; cases hz; omega
    · exact h5 i z (by omega) hz ha
theorem BhW.first {al : List (List Int × Nat)} {a k : Nat} (h : BhW al a k 0) {x : List Int × Nat} (hx : al[k]? = some x) (hl : a < x.2) : BhW al a (k + 1) (k + 1) := by
  rcases h with ⟨-, h2⟩ | ⟨h1, -⟩
  · refine Or.inr ⟨by omega, by omega, x, by rw [Nat.add_sub_cancel]; exact hx, hl, fun i z hi hz ha => ?_⟩
    by_cases e : i = k
    · subst e; rw [hx] at hz; cases hz; omega
    · have := h2 i z (by omega) hz; omega
  · omega
theorem BhW.less {al : List (List Int × Nat)} {a k n : Nat} (h : BhW al a k n) (hn : n ≠ 0) {x y : List Int × Nat} (hx : al[k]? = some x) (hl : a < x.2) (hy : al[n - 1]? = some y) (hxy : x.2 < y.2) : BhW al a (k + 1) (k + 1) := by
  rcases h with ⟨h1, -⟩ | ⟨h1, h2, y', h3, h4, h5⟩
  · omega
  · rw [hy] at h3
    cases h3
    refine Or.inr ⟨by omega, by omega, x, by rw [Nat.add_sub_cancel]; exact hx, hl, fun i z hi hz ha => ?_⟩
    by_cases e : i = k
    · subst e; rw [hx] at hz; cases hz; omega
    · have := h5 i z (by omega) hz ha; omega
theorem BhW.more {al : List (List Int × Nat)} {a k n : Nat} (h : BhW al a k n) (hn : n ≠ 0) {x y : List Int × Nat} (hx : al[k]? = some x) (hy : al[n - 1]? = some y) (hxy : y.2 ≤ x.2) : BhW al a (k + 1) n := by
  rcases h with ⟨h1, -⟩ | ⟨h1, h2, y', h3, h4, h5⟩
  · omega
  · rw [hy] at h3
    cases h3
    refine Or.inr ⟨h1, by omega, y, hy, h4, fun i z hi hz ha => ?_⟩
    by_cases e : i = k
    · subst e; rw [hx] at hz; cases hz; omega
    · exact h5 i z (by omega) hz ha
theorem BhW.lt {al : List (List Int × Nat)} {a k n : Nat} (h : BhW al a k n) : n ≤ k := by
  rcases h with ⟨h1, -⟩ | ⟨-, h2, -⟩ <;> omega
/-- What stands in the row at a place, by its number; 0: nothing. -/
def numW (s : WrW) (i : Nat) : Nat := match s.row[i]? with
  | none => 0
  | some m => m.n
theorem BhW.is {al : List (List Int × Nat)} {s : WrW} {P : List Nat} {a n : Nat} (hb : BhW al a al.length n) (h : RsW al s P) (i : Nat) (h1 : ∀ (j p : Nat), P[j]? = some p → j < i → p ≤ a) (h2 : ∀ (j p : Nat), P[j]? = some p → i ≤ j → a < p) : n = numW s i := by
  unfold numW
  cases hr : s.row[i]? with
  | none =>
    rcases hb with ⟨e, -⟩ | ⟨g1, g2, y, g3, g4, -⟩
    · exact e
    · exfalso
      obtain ⟨j, m, hm, hn⟩ := h.bw _ y g3 (by omega)
      obtain ⟨p, hp, -, -, -, -, hal⟩ := h.pl hm
      rw [show m.n - 1 = n - 1 by omega, g3] at hal
      cases hal
      have hj := (List.getElem?_eq_some_iff.1 hm).1
      have hi : s.row.length ≤ i := by
        rw [List.getElem?_eq_none_iff] at hr; exact hr
      have := h1 j p hp (by omega)
      simp only at g4
      omega
  | some m =>
    simp only
    obtain ⟨p, hp, -, -, hn1, hn2, hal⟩ := h.pl hr
    have ha := h2 i p hp (Nat.le_refl _)
    rcases hb with ⟨-, e⟩ | ⟨g1, g2, y, g3, g4, g5⟩
    · exfalso
      have := e (m.n - 1) _ (List.getElem?_eq_some_iff.1 hal).1 hal
      simp only at this
      omega
    · have g6 := g5 (m.n - 1) _ (List.getElem?_eq_some_iff.1 hal).1 hal ha
      obtain ⟨j, m', hm', hn'⟩ := h.bw _ y g3 (by omega)
      obtain ⟨q, hq, -, -, -, -, hal'⟩ := h.pl hm'
      rw [show m'.n - 1 = n - 1 by omega, g3] at hal'
      cases hal'
      simp only at g4 g6
      have hji : j = i := by
        rcases Nat.lt_trichotomy j i with c | c | c
        · have := h1 j q hq c; omega
        · exact c
        · have := h.up i j p q hp hq c; omega
      subst hji
      rw [hr] at hm'
      cases hm'
      omega
theorem numW_zero (s : WrW) : (numW s 0 : Int) = nxtW s := by
  unfold numW nxtW
  cases s.row <;> rfl
end Go.Proofs.Ytboomeeipnfbmab
