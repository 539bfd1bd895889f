import Derived.Test.YtechceagghcipaaGreatDoorCL4
import Derived.Test.YtechceagghcipaaGreatDoorW2
namespace Go.Proofs.YtechceagghcipaaGreatDoor
open Go.RowKit Go.Shelf
attribute [local go_sem] Oper.semAt_some

theorem CBlk.off {W : World} {B G i : Nat} {c : Array Value} {t : TypeId} {v : Value} (h : CBlk W B c t) (hne : B ≠ G) : CBlk (W.setCell ⟨G, i, none⟩ v) B c t := by
 unfold CBlk; rw [heap_setCell_other _ _ _ _ hne]; exact h
end Go.Proofs.YtechceagghcipaaGreatDoor
