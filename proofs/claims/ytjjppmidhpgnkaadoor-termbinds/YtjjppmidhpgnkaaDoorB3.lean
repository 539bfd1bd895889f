/-
  The reference's Const, Principal, Variable, Compare.
-/
import Derived.Test.YtjjppmidhpgnkaaDoorB2
namespace Go.Proofs.YtjjppmidhpgnkaaDoor
open Go.RowKit

set_option maxHeartbeats 400000 in
theorem rvar_any (t : Tm) (w : World) :
    Calls Tryd.prog 20 #[t.v] w fun e w' => e = .returned (.bool t.var) ∧ Below w.heap.size w w' := by
  obtain ⟨k, n, s⟩ := t
  unfold Tm.var
  go_enter Tryd.func20, Tryd.ntmps20
  go_wp2
  all_goals
    go_ret
    refine ⟨ret_b ?_, below1 _ _⟩
    simp_all [isE]
    try omega
end Go.Proofs.YtjjppmidhpgnkaaDoor
