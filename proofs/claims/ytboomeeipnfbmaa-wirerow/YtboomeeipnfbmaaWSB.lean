/-
  wire: law 23: WireLong.
-/
import Derived.Test.YtboomeeipnfbmaaWSA
namespace Go.Proofs.Ytboomeeipnfbmaa
open Go.RowKit
attribute [local go_sem ↓] Go.wp_at_zero Go.wp_at_succ

theorem sndE_ok {s : WrW} {b : List Int} (h1 : b.length ≤ 1048576) (h2 : s.gv < 4096) : sndE s b = 0 := by
  unfold sndE; rw [if_neg (by omega), if_neg (by omega)]
theorem sndS_ok {s : WrW} {b : List Int} (h : sndE s b = 0) : sndS s b = putW s b := by unfold sndS; rw [if_pos h]
theorem sndN_ok {s : WrW} {b : List Int} (h : sndE s b = 0) : sndN s b = ((s.gv + 1 : Nat) : Int) := by unfold sndN; rw [if_pos h]
end Go.Proofs.Ytboomeeipnfbmaa
