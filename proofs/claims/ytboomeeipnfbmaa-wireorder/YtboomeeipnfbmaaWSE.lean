/-
  wire: what turns back (plain).
-/
import Derived.Test.YtboomeeipnfbmaaWRS
namespace Go.Proofs.Ytboomeeipnfbmaa
open Go.RowKit

theorem swpE_two {s : WrW} {n m : Int} {i j : Nat} (hp : plW s n = some i) (hq : plW s m = some j) : swpE s n m = 0 := by unfold swpE; rw [hp, hq]
end Go.Proofs.Ytboomeeipnfbmaa
