/-
  says and rising of the laws.
-/
import Derived.Test.YtlojgaigbdnjjabDoorD2
namespace Go.Proofs.YtlojgaigbdnjjabDoor
open Go.RowKit

def sayT (l : List Bd) (x : Int) : Tm := (look l x).getD ⟨3, x, ⟨#[]⟩⟩
theorem sayT_t {l : List Bd} {x : Int} (h : lookB l x = true) : sayT l x = lookT l x := by
  unfold lookB at h; unfold sayT lookT
  cases e : look l x with
  | none => rw [e] at h; cases h
  | some t => rfl
theorem sayT_f {l : List Bd} {x : Int} (h : lookB l x = false) : sayT l x = ⟨3, x, ⟨#[]⟩⟩ := by
  unfold lookB at h; unfold sayT
  cases e : look l x with
  | none => rfl
  | some t => rw [e] at h; cases h
end Go.Proofs.YtlojgaigbdnjjabDoor
