import Derived.Test.YtechceagghcipaaGreatDoorB5
namespace Go.Proofs.YtechceagghcipaaGreatDoor
open Go.RowKit
attribute [local go_sem ↓] Go.wp_at_zero Go.wp_at_succ

def Tm.cov (t : Tm) : Bool := t.con || t.var
set_option maxHeartbeats 400000 in
theorem cov_any (t : Tm) (w : World) :
  Calls Tryz.prog 82 #[t.v] w fun e w' => e = .returned (.bool t.cov) /\ Below w.heap.size w w' := by
 obtain ⟨k, n, s⟩ := t
 cases h : Tm.con ⟨k, n, s⟩
 ·have HC : Hid (Tm.con ⟨k, n, s⟩ = false) := h
  clear h
  go_enter Tryz.func82, Tryz.ntmps82
  go_wp2_with (first
   | (go_at_call 118; refine (con_any ⟨k, n, s⟩ _).mono ?_; rw [HC.out]; rintro e w1 ⟨rfl, hb1⟩; obtain ⟨hcl, hfr⟩ := bcell hb1)
   | (go_at_call 51; refine (var_any ⟨k, n, s⟩ _).mono ?_; rintro e w2 ⟨rfl, hb2⟩))
  go_ret
  exact ⟨ret_b (by unfold Tm.cov; rw [HC.out]; simp), below_step (below_step (below1 _ _) hb1) hb2⟩
 ·have HC : Hid (Tm.con ⟨k, n, s⟩ = true) := h
  clear h
  go_enter Tryz.func82, Tryz.ntmps82
  go_wp2_with (first
   | (go_at_call 118; refine (con_any ⟨k, n, s⟩ _).mono ?_; rw [HC.out]; rintro e w1 ⟨rfl, hb1⟩; obtain ⟨hcl, hfr⟩ := bcell hb1))
  go_ret
  exact ⟨ret_b (by unfold Tm.cov; rw [HC.out]; simp), below_step (below1 _ _) hb1⟩
structure Te where
 op : Int
 l : Tm
 r : Tm
deriving DecidableEq
end Go.Proofs.YtechceagghcipaaGreatDoor
