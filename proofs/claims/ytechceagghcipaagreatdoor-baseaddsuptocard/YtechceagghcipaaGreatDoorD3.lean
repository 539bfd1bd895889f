/-
  hearsaylaw02.TermDecides, for every two terms.
-/
import Derived.Test.YtechceagghcipaaGreatDoorD2
import Derived.Test.YtechceagghcipaaGreatDoorB8
namespace Go.Proofs.YtechceagghcipaaGreatDoor
open Go.RowKit
attribute [local go_sem ↓] Go.wp_at_zero Go.wp_at_succ

theorem sgI_neg (a b : Int) : M.sgI b a = - M.sgI a b := by unfold M.sgI; repeat' split
                                                            all_goals omega
def x4 : Tm := ⟨3, 4, ⟨#[]⟩⟩
end Go.Proofs.YtechceagghcipaaGreatDoor
