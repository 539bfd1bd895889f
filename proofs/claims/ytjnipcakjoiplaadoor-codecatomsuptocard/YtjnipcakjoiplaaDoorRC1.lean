import Derived.Test.YtjnipcakjoiplaaDoorLD2
import Derived.Test.YtjnipcakjoiplaaDoorLE2
import Derived.Test.YtjnipcakjoiplaaDoorCL27
import Derived.Test.YtjnipcakjoiplaaDoorMP1
/-
  Clauses lent, and looked at. (Written by LD3.py.)
-/
namespace Go.Proofs.YtjnipcakjoiplaaDoor
open Go.RowKit
attribute [local go_sem ↓] Go.wp_at_zero Go.wp_at_succ

def EsP (w : World) (v : Value) (l : List Te) : Prop := (v = .slice none 0 0 ∧ l = []) ∨ ∃ ad cap, v = .slice (some ad) l.length cap ∧ (l = [] ∨ ∃ b o, ad = ⟨b, o, none⟩ ∧ ERow w b o l)
theorem EsP.later {w w' : World} {v : Value} {l : List Te} (h : EsP w v l) (hb : Below w.heap.size w w') : EsP w' v l := by
  rcases h with h | ⟨ad, cap, h1, h2⟩
  · exact Or.inl h
  · refine Or.inr ⟨ad, cap, h1, ?_⟩
    rcases h2 with h2 | ⟨b, o, h2, h3⟩
    · exact Or.inl h2
    · exact Or.inr ⟨b, o, h2, h3.later hb⟩
theorem EsP.form {w : World} {v : Value} {l : List Te} (h : EsP w v l) : ∃ a cap, v = .slice a l.length cap := by
  rcases h with ⟨rfl, rfl⟩ | ⟨ad, cap, rfl, _⟩
  · exact ⟨none, 0, rfl⟩
  · exact ⟨some ad, cap, rfl⟩
/-- Two worlds alike between two blocks but for one. -/
structure Ag (B G : Nat) (X0 X : World) : Prop where
  s : X0.heap.size ≤ X.heap.size
  e : ∀ k, B ≤ k → k < X0.heap.size → k ≠ G → X.heap[k]? = X0.heap[k]?
theorem Ag.refl (B G : Nat) (X : World) : Ag B G X X := ⟨Nat.le_refl _, fun _ _ _ _ => rfl⟩
theorem Ag.below {B G : Nat} {X0 X X' : World} (h : Ag B G X0 X) (hb : Below X0.heap.size X X') : Ag B G X0 X' := ⟨Nat.le_trans h.s hb.size, fun k h1 h2 h3 => (hb.block k h2).trans (h.e k h1 h2 h3)⟩
theorem Ag.set {B G i : Nat} {X0 X : World} {v : Value} (h : Ag B G X0 X) : Ag B G X0 (X.setCell ⟨G, i, none⟩ v) := ⟨by simpa [World.setCell] using h.s, fun k h1 h2 h3 => (heap_setCell_other _ _ _ _ (show k ≠ G from h3)).trans (h.e k h1 h2 h3)⟩
theorem Ag.low {B G D i : Nat} {X0 X : World} {v : Value} (h : Ag B G X0 X) (hD : D < B) : Ag B G X0 (X.setCell ⟨D, i, none⟩ v) := ⟨by simpa [World.setCell] using h.s, fun k h1 h2 h3 => (heap_setCell_other _ _ _ _ (show k ≠ D by omega)).trans (h.e k h1 h2 h3)⟩
end Go.Proofs.YtjnipcakjoiplaaDoor
/-
  What the reference's Check answers is what Check answers (plain); lists of atoms, of terms appended.
-/
namespace Go.Proofs.YtjnipcakjoiplaaDoor
open Go.RowKit

/-- A list of atoms appended to one that was just made. -/
def AsP (w : World) (v : Value) (l : List (At × Value)) : Prop := (v = .slice none 0 0 ∧ l = []) ∨ ∃ ad cap, v = .slice (some ad) l.length cap ∧ (l = [] ∨ ∃ b o, ad = ⟨b, o, none⟩ ∧ ARow w b o l)
theorem AsP.later {w w' : World} {v : Value} {l : List (At × Value)} (h : AsP w v l) (hb : Below w.heap.size w w') : AsP w' v l := by
  rcases h with h | ⟨ad, cap, h1, h2⟩
  · exact Or.inl h
  · refine Or.inr ⟨ad, cap, h1, ?_⟩
    rcases h2 with h2 | ⟨b, o, h2, h3⟩
    · exact Or.inl h2
    · exact Or.inr ⟨b, o, h2, h3.later hb⟩
end Go.Proofs.YtjnipcakjoiplaaDoor
