import Derived.Test.YtelcoihmiglceaaCD1
import Derived.Test.YtelcoihmiglceaaLE2
import Derived.Test.YtelcoihmiglceaaCL27
/-
  Clauses lent, and looked at. (Written by LD3.py.)
-/
namespace Go.Proofs.Ytelcoihmiglceaa
open Go.RowKit
attribute [local go_sem ↓] Go.wp_at_zero Go.wp_at_succ

def EsP (w : World) (v : Value) (l : List Te) : Prop := (v = .slice none 0 0 ∧ l = []) ∨ ∃ ad cap, v = .slice (some ad) l.length cap ∧ (l = [] ∨ ∃ b o, ad = ⟨b, o, none⟩ ∧ ERow w b o l)
theorem EsP.later {w w' : World} {v : Value} {l : List Te} (h : EsP w v l) (hb : Below w.heap.size w w') : EsP w' v l := by
  rcases h with h | ⟨ad, cap, h1, h2⟩
  · exact Or.inl h
  · refine Or.inr ⟨ad, cap, h1, ?_⟩
    rcases h2 with h2 | ⟨b, o, h2, h3⟩
    · exact Or.inl h2
    · exact Or.inr ⟨b, o, h2, h3.later hb⟩
theorem EsP.form {w : World} {v : Value} {l : List Te} (h : EsP w v l) : ∃ a cap, v = .slice a l.length cap := by
  rcases h with ⟨rfl, rfl⟩ | ⟨ad, cap, rfl, _⟩
  · exact ⟨none, 0, rfl⟩
  · exact ⟨some ad, cap, rfl⟩
/-- A list of tests lent. -/
def LentE (X : World) (B : Nat) (v : Value) (l : List Te) : Prop := ∃ g cap, v = .slice (some ⟨g, 0, none⟩) l.length cap ∧ OwnE X B (.slice (some ⟨g, 0, none⟩) (l.length + 1) cap) (l ++ [bE])
theorem LentE.later {X X' : World} {B : Nat} {v : Value} {l : List Te} (h : LentE X B v l) (hb : Below X.heap.size X X') : LentE X' B v l := by
  obtain ⟨g, cap, e, ho⟩ := h
  exact ⟨g, cap, e, ho.later hb⟩
theorem LentE.row {X : World} {B g cap n : Nat} {l : List Te} {d : Te} (ho : OwnE X B (.slice (some ⟨g, 0, none⟩) n cap) (l ++ [d])) : ERow X g 0 l := by
  refine ⟨(ho.lt g rfl).2, fun i x hx => ?_⟩
  have hi := (List.getElem?_eq_some_iff.1 hx).1
  have hx' : (l ++ [d])[i]? = some x := by rw [List.getElem?_append_left hi]; exact hx
  rw [Nat.zero_add]
  exact ⟨ho.cells i x hx' 0 (by omega), ho.cells i x hx' 1 (by omega), ho.cells i x hx' 2 (by omega), ho.cells i x hx' 3 (by omega), ho.cells i x hx' 4 (by omega), ho.cells i x hx' 5 (by omega), ho.cells i x hx' 6 (by omega)⟩
theorem LentE.es {X : World} {B : Nat} {v : Value} {l : List Te} (h : LentE X B v l) (hl : l.length < 1000000000000000000) : Es X v l := by
  obtain ⟨g, cap, rfl, ho⟩ := h
  exact ⟨_, cap, rfl, hl, Or.inr ⟨g, 0, rfl, LentE.row ho⟩⟩
/-- A clause lent. -/
structure Lent (B : Nat) (X : World) (d : Cm) : Prop where
  h : LentT X B d.head.2 d.head.1.args
  b : LentA X B d.bv d.body
  t : LentE X B d.tv d.tests
theorem Lent.later {B : Nat} {X X' : World} {d : Cm} (h : Lent B X d) (hb : Below X.heap.size X X') : Lent B X' d := ⟨h.h.later hb, h.b.later hb, h.t.later hb⟩
theorem Lent.ok {B : Nat} {X : World} {d : Cm} (h : Lent B X d) (h1 : d.head.1.args.length < 1000000000000000000) (h2 : d.body.length < 1000000000000000000) (h3 : ∀ y ∈ d.body, y.1.args.length < 1000000000000000000) (h4 : d.tests.length < 1000000000000000000) : d.ok X :=
  ⟨h.h.ts h1, h.b.as h2 h3, h.t.es h4⟩
/-- Two worlds alike between two blocks but for one. -/
structure Ag (B G : Nat) (X0 X : World) : Prop where
  s : X0.heap.size ≤ X.heap.size
  e : ∀ k, B ≤ k → k < X0.heap.size → k ≠ G → X.heap[k]? = X0.heap[k]?
theorem Ag.refl (B G : Nat) (X : World) : Ag B G X X := ⟨Nat.le_refl _, fun _ _ _ _ => rfl⟩
theorem Ag.below {B G : Nat} {X0 X X' : World} (h : Ag B G X0 X) (hb : Below X0.heap.size X X') : Ag B G X0 X' := ⟨Nat.le_trans h.s hb.size, fun k h1 h2 h3 => (hb.block k h2).trans (h.e k h1 h2 h3)⟩
theorem Ag.set {B G i : Nat} {X0 X : World} {v : Value} (h : Ag B G X0 X) : Ag B G X0 (X.setCell ⟨G, i, none⟩ v) := ⟨by simpa [World.setCell] using h.s, fun k h1 h2 h3 => (heap_setCell_other _ _ _ _ (show k ≠ G from h3)).trans (h.e k h1 h2 h3)⟩
theorem Ag.low {B G D i : Nat} {X0 X : World} {v : Value} (h : Ag B G X0 X) (hD : D < B) : Ag B G X0 (X.setCell ⟨D, i, none⟩ v) := ⟨by simpa [World.setCell] using h.s, fun k h1 h2 h3 => (heap_setCell_other _ _ _ _ (show k ≠ D by omega)).trans (h.e k h1 h2 h3)⟩
end Go.Proofs.Ytelcoihmiglceaa
/-
  What Check answers to clauses broken in one way. (Plain.)
-/
namespace Go.Proofs.Ytelcoihmiglceaa
open Go.RowKit

theorem wf_of {c : Cm} (h : ∀ t ∈ Ck.terms c.key, t.var = true → t.n < 100000) (hl : (Ck.terms c.key).length ≤ 1000) : c.wf :=
  ⟨fun t ht hv => wf_small (var_nn hv) (h t (by rw [← key_terms]; exact ht) hv), by rw [key_terms]; omega⟩
end Go.Proofs.Ytelcoihmiglceaa
/-
  What the reference's Check answers is what Check answers (plain); lists of atoms, of terms appended.
-/
namespace Go.Proofs.Ytelcoihmiglceaa
open Go.RowKit

theorem err_vals (a : At) : a.err = 0 ∨ a.err = 21 ∨ a.err = 22 ∨ a.err = 23 ∨ a.err = 24 := by
  unfold At.err; split
  · exact Or.inr (Or.inl rfl)
  · split
    · exact Or.inr (Or.inr (Or.inl rfl))
    · split
      · exact Or.inr (Or.inr (Or.inr (Or.inl rfl)))
      · split
        · exact Or.inl rfl
        · exact Or.inr (Or.inr (Or.inr (Or.inr rfl)))
theorem aErr_vals : ∀ l : List (At × Value), aErr l = 0 ∨ aErr l = 21 ∨ aErr l = 22 ∨ aErr l = 23 ∨ aErr l = 24
  | [] => Or.inl rfl
  | x :: l => by
    unfold aErr
    split
    · exact aErr_vals l
    · exact err_vals x.1
theorem chk_1 {c : Cm} (h : long c = true) : c.chk = 31 := by simp [Cm.chk, Cm.rs, chkL, h]
theorem chk_2 {c : Cm} (h : long c = false) (h2 : aErr c.atoms ≠ 0) : c.chk = aErr c.atoms := by
  rcases aErr_vals c.atoms with e | e | e | e | e
  · exact absurd e h2
  all_goals simp [Cm.chk, Cm.rs, chkL, h, e]
theorem chk_3 {c : Cm} (h : long c = false) (h2 : aErr c.atoms = 0) (h3 : badT c = true) : c.chk = 32 := by simp [Cm.chk, Cm.rs, chkL, h, h2, h3]
theorem chk_4 {c : Cm} (h : long c = false) (h2 : aErr c.atoms = 0) (h3 : badT c = false) (h4 : c.head.1.by_.var = true) : c.chk = 33 := by simp [Cm.chk, Cm.rs, chkL, h, h2, h3, h4]
theorem aErr_all : ∀ {l : List (At × Value)}, aErr l = 0 → ∀ x ∈ l, x.1.err = 0
  | [], _, x, hx => by cases hx
  | y :: l, h, x, hx => by
    unfold aErr at h
    by_cases e : y.1.err = 0
    · rw [if_pos e] at h
      rcases List.mem_cons.1 hx with rfl | hx
      · exact e
      · exact aErr_all h x hx
    · rw [if_neg e] at h; exact absurd h e
/-- A list of atoms appended to one that was just made. -/
def AsP (w : World) (v : Value) (l : List (At × Value)) : Prop := (v = .slice none 0 0 ∧ l = []) ∨ ∃ ad cap, v = .slice (some ad) l.length cap ∧ (l = [] ∨ ∃ b o, ad = ⟨b, o, none⟩ ∧ ARow w b o l)
theorem AsP.later {w w' : World} {v : Value} {l : List (At × Value)} (h : AsP w v l) (hb : Below w.heap.size w w') : AsP w' v l := by
  rcases h with h | ⟨ad, cap, h1, h2⟩
  · exact Or.inl h
  · refine Or.inr ⟨ad, cap, h1, ?_⟩
    rcases h2 with h2 | ⟨b, o, h2, h3⟩
    · exact Or.inl h2
    · exact Or.inr ⟨b, o, h2, h3.later hb⟩
end Go.Proofs.Ytelcoihmiglceaa
