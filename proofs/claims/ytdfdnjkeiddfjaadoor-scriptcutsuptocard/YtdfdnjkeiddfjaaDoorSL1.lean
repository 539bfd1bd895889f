/-
  hearsaylaw25: first.
-/
import Derived.Test.YtdfdnjkeiddfjaaDoorSMX
import Derived.Test.YtdfdnjkeiddfjaaDoorSML
import Derived.Test.YtdfdnjkeiddfjaaDoorSMQ
namespace Go.Proofs.YtdfdnjkeiddfjaaDoor
open Go.RowKit
attribute [local go_sem ↓] Go.wp_at_zero Go.wp_at_succ

def fiB : ByteArray := ⟨#[113, 117, 101, 114, 121, 32, 98, 111, 98, 32, 34, 109, 97, 121, 40, 88, 41, 63, 34, 32, 57, 32, 37, 32, 110, 111, 119]⟩
def fiD : SdO := ⟨7, ⟨#[98, 111, 98]⟩, ⟨#[]⟩, ⟨#[109, 97, 121, 40, 88, 41, 63]⟩, 9, 0, 0⟩
def fiP : ByteArray := ⟨#[113, 117, 101, 114, 121, 32, 98, 111, 98, 32, 34, 109, 97, 121, 40, 88, 41, 63, 34, 32, 57]⟩
def swB : ByteArray := ⟨#[115, 119, 97, 112, 32, 49]⟩
theorem fi_rd : rdS fiB = ⟨fiD, ⟨#[]⟩, 0, 0⟩ := by kernel_rfl
theorem fi_pr : prS fiD ⟨#[]⟩ = some fiP := by kernel_rfl
theorem sw_rd : rdS swB = ⟨zdS, ⟨#[]⟩, 253, 6⟩ := by kernel_rfl
theorem fi_ok : OkS fiD ⟨#[]⟩ := ⟨by decide, by decide, by decide, by decide, by unfold N64S; decide, by unfold N64S; decide, by unfold N64S; decide, by unfold N64S; decide⟩
theorem run_eql_ftS (e p e' p' : Int) (w : World) : (binOp .eql 27 (.agg #[.int .i64 e, .int .i64 p]) (.agg #[.int .i64 e', .int .i64 p'])).run Tryd.prog w = .ok (.bool (decide (e = e' ∧ p = p'))) w := run_eql_ft e p e' p' w
set_option maxRecDepth 20000 in
set_option maxHeartbeats 2000000 in
theorem first_any (w : World) (hE : EnS w) : Calls Tryd.prog 12 #[] w fun e w' => e = .returned (.bool true) ∧ Below w.heap.size w w' := by
  have HE := hm7 hE
  have HR1 : Hid (Calls Tryd.prog 9 #[.string fiB] w (RdQ w ⟨fiD, ⟨#[]⟩, 0, 0⟩)) := by rw [← fi_rd]; exact aSRead_any fiB (by decide) w hE
  have HR2 : Hid (∀ X, EnS X → Calls Tryd.prog 9 #[.string swB] X (RdQ X ⟨zdS, ⟨#[]⟩, 253, 6⟩)) := fun X h => by rw [← sw_rd]; exact aSRead_any swB (by decide) X h
  have HP : Hid (∀ (X : World) a c, EnS X → LbW (fun _ => True) X (.slice a 0 c) [] → Calls Tryd.prog 10 #[fiD.v a 0 c] X fun e w' => e = .returned (.tuple #[.string fiP, .bool true]) ∧ Below X.heap.size X w') := fun X a c h hl => by
    have := aSPrint_any fiD ⟨#[]⟩ a c fi_ok X h hl
    rw [fi_pr] at this
    exact this
  clear hE
  go_enter Tryd.func12, Tryd.ntmps12
  go_upto_region 2 with (go_at_call 9; refine HR1.out.mono ?_; rintro e w1 ⟨a, c, rfl, ho, hb1⟩; simp only [RsS.v])
  obtain ⟨hB, hF, -, hb⟩ := boxR hb1 ho
  simp only [SdO.cs, show (⟨#[]⟩ : ByteArray).size = 0 from rfl] at hB hF hb
  revert hB hF hb
  generalize (w1.alloc _).alloc _ = W1
  intro hB hF hb
  have HB1 := hm7 hB
  have HF1 := hm7 hF
  have HW1 := hm7 hb
  have HE1 := hm7 (HE.out.later hb)
  have HP1 := hm7 (HP.out W1 a c HE1.out hB.lb)
  obtain ⟨c0, c1, c2, c3, c4, c5, c6, c7⟩ := hB.cells
  clear hB hF hb ho hb1 HP
  go_upto_region 3 with (go_at_call 10; refine HP1.out.mono ?_; rintro e w2 ⟨rfl, hb2⟩)
  have HE2 := hm7 (HE1.out.later hb2)
  have HF2 := hm7 (HF1.out.later hb2)
  have HW2 := hm7 (below_stepK HW1.out hb2)
  clear hb2 c0 c1 c2 c3 c4 c5 c6 c7
  go_upto_region 4 with (go_at_call 9; refine (HR2.out _ HE2.out).mono ?_; rintro e w3 ⟨a3, c3, rfl, ho, hb3⟩; simp only [RsS.v])
  have hF3 := HF2.out.later hb3
  have hs3 := hb3.size
  obtain ⟨hB, hF, -, hb⟩ := boxR hb3 ho
  have hF4 := HF2.out.later hb
  revert hB hF hb hF4
  simp only [SdO.cs, show (⟨#[]⟩ : ByteArray).size = 0 from rfl]
  generalize (w3.alloc _).alloc _ = W4
  intro hB hF hb hF4
  obtain ⟨x0, x1⟩ := ft_cells hF
  obtain ⟨y0, y1⟩ := ft_cells hF4
  have e1 := fun W => run_eql_ftS 0 0 0 0 W
  have e2 := fun W => run_eql_ftS 253 6 253 6 W
  have h5 : fiP.toList = [113, 117, 101, 114, 121, 32, 98, 111, 98, 32, 34, 109, 97, 121, 40, 88, 41, 63, 34, 32, 57] := by kernel_rfl
  have HW4 := hm7 (below_stepK HW2.out hb)
  clear hB hF hb hF4 hF3 ho hb3
  go_wp2
  go_ret
  exact ⟨rfl, HW4.out⟩
end Go.Proofs.YtdfdnjkeiddfjaaDoor
