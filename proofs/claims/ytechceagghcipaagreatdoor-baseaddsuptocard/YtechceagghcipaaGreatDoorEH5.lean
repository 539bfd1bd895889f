import Derived.Test.YtechceagghcipaaGreatDoorEH3
namespace Go.Proofs.YtechceagghcipaaGreatDoor
open Go.RowKit

theorem row8_same {X X' : World} {B K n : Nat} {ty : TypeId} {v : Value} {cs : List Value} (h : X.ownsRow B ty K v n cs) (hs : ∀ b, v.ownBlock = some b -> X'.heap[b]? = X.heap[b]?) : X'.ownsRow B ty K v n cs := by
 refine ⟨h.1, ?_⟩
 rcases h.2 with hn | ⟨g, cap, cur, hv, hb, hg, rest⟩
 ·exact Or.inl hn
 ·exact Or.inr ⟨g, cap, cur, hv, hb, (hs g (by rw [hv]; rfl)).trans hg, rest⟩
def Ib (fv : Value) (Q : List It8) (b : Nat) : Prop := fv.ownBlock = some b ∨ ∃ x ∈ Q, x.1.2.ownBlock = some b
section
variable {V V' : World} {base : Nat} {fv : Value} {Q : List It8}
end
def Ei (l : List It8) : List (At × Int) := l.map fun x => (x.1.1, x.2)
def tI8 (x : It8) : It8 := (x.1, tE8 x.2)
theorem Ei_turn (l : List It8) : (Ei l).map (fun x => (x.1, tE8 x.2)) = Ei (l.map tI8) := by simp [Ei, tI8, Function.comp_def]
theorem Ei_len (l : List It8) : (Ei l).length = l.length := by simp [Ei]
theorem Ei_app (l m : List It8) : Ei (l ++ m) = Ei l ++ Ei m := by simp [Ei]
end Go.Proofs.YtechceagghcipaaGreatDoor
