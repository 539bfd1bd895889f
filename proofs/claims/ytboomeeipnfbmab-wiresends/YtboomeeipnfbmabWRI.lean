/-
  wire: law 23: WireSends, WireTakes, WireSpoils, WireLooks, WireAll. (Written by WRI.py.)
-/
import Derived.Test.YtboomeeipnfbmabWRH
namespace Go.Proofs.Ytboomeeipnfbmab
open Go.RowKit
attribute [local go_sem ↓] Go.wp_at_zero Go.wp_at_succ

set_option maxRecDepth 20000 in
theorem wireSendsW_any {sv : Value} {L : List (OvW × Value)} {Y : World} (h : ScW (fun x => x < Y.heap.size) Y sv L) :
    Calls Try.prog 4 #[sv] Y fun e Y' => e = .returned (.bool true) ∧ Below Y.heap.size Y Y' := by
  have HP := hm7 (playsW_any 1 1 h)
  obtain ⟨⟨sa, sc, rfl, -⟩, -⟩ := h
  go_enter Try.func4, Try.ntmps4
  go_wp2_with (first
    | (go_at_call 17; refine HP.out.mono ?_; rintro e Y1 ⟨T, R, v, u, s, rfl, hbo, hb⟩; obtain ⟨g, rfl⟩ := hbo.a.ptr; obtain ⟨g', rfl⟩ := hbo.r.ptr; have HE := hm7 (endsW_any hbo.a hbo.r); have HB := hm7 hb; clear hbo hb)
    | (go_at_call 18; refine HE.out.mono ?_; rintro e Y2 ⟨rfl, hb2⟩; have HB2 := hm7 hb2; clear hb2))
  go_ret
  exact ⟨rfl, HB.out.trans (HB2.out.mono HB.out.size)⟩
end Go.Proofs.Ytboomeeipnfbmab
