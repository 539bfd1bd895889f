/-
  wire: law 23: WireNames. (Written by WSA.py.)
-/
import Derived.Test.YtboomeeipnfbmaaWP1
namespace Go.Proofs.Ytboomeeipnfbmaa
open Go.RowKit
attribute [local go_sem ↓] Go.wp_at_zero Go.wp_at_succ

/-- What a call may change, and what the wire has behind it. -/
structure StW (T T' : Nat → Prop) (Y Y' : World) : Prop where
  f : Fr T Y Y'
  s : ∀ x, T' x → T x ∨ Y.heap.size ≤ x
theorem StW.of {T : Nat → Prop} {Y Y' : World} (hb : Below Y.heap.size Y Y') : StW T T Y Y' := ⟨Fr.of hb, fun _ h => Or.inl h⟩
theorem WqW.st {B : Nat} {T : Nat → Prop} {v : Value} {s : WrW} {Y Y' : World} (h : WqW B T v s Y Y') : ∃ T', WzW B T' v s Y' ∧ StW T T' Y Y' := by
  obtain ⟨hf, T', h1, h2⟩ := h
  exact ⟨T', h1, hf, h2⟩
theorem WzW.go {B : Nat} {T T' : Nat → Prop} {v : Value} {s : WrW} {Y0 Y Y' : World} (h : WzW B T v s Y) (hs : StW T T' Y Y') (hb : Below B Y0 Y) (hB : B ≤ Y.heap.size) : Below B Y0 Y' := hb.trans ((hs.f.mono fun x _ hx => (h.t x hx).1).low hB)
set_option maxRecDepth 20000 in
set_option maxHeartbeats 8000000 in
theorem wireNamesW_any (Y : World) : Calls Try.prog 5 #[] Y fun e Y' => e = .returned (.bool true) ∧ Below Y.heap.size Y Y' := by
  have e231 : lokE ⟨[], 0⟩ 1 = 231 := rfl
  have e231' : lokE ⟨[], 0⟩ 0 = 231 := rfl
  have e231d : lokE ⟨[], 0⟩ (-1) = 231 := rfl
  have ecp : cpyE ⟨[], 0⟩ 1 = 231 := rfl
  have esw : swpE ⟨[], 0⟩ 1 1 = 231 := rfl
  have efl : flpE ⟨[], 0⟩ 1 0 = 231 := rfl
  have ecu : cutE ⟨[], 0⟩ 1 0 = 231 := rfl
  have et : takS ⟨[], 0⟩ 0 = ⟨[], 0⟩ := rfl
  have etd : takS ⟨[], 0⟩ (-1) = ⟨[], 0⟩ := rfl
  have ecs : cpyS ⟨[], 0⟩ 1 = ⟨[], 0⟩ := rfl
  have ess : swpS ⟨[], 0⟩ 1 1 = ⟨[], 0⟩ := rfl
  have efs : flpS ⟨[], 0⟩ 1 0 0 = ⟨[], 0⟩ := rfl
  have eus : cutS ⟨[], 0⟩ 1 0 = ⟨[], 0⟩ := rfl
  have esn : sndN ⟨[], 0⟩ [] = 1 := rfl
  have ese : sndE ⟨[], 0⟩ [] = 0 := rfl
  have e232 : flpE (sndS ⟨[], 0⟩ []) 1 0 = 232 := rfl
  have ecn : cpyN ⟨[], 0⟩ 1 = 0 := rfl
  go_enter Try.func5, Try.ntmps5
  go_upto_region 4 with (go_at_call 9; refine (wnewW_any Y.heap.size Y (Nat.le_refl _)).mono ?_; rintro e Y0 ⟨T0, v, rfl, hw, ht, hb⟩; obtain ⟨g, rfl⟩ := hw.ptr; have HW0 := hm7 hw; have HB0 := hm7 hb; clear hw ht hb)
  go_upto_region 5 with (go_at_call 15; refine (wlookW_any HW0.out 1).mono ?_; rintro e Y1 ⟨u, hret, hu, hb⟩; rw [e231] at hret; subst hret; obtain ⟨ua, uc, rfl, -⟩ : ∃ a c, u = .slice a (byW ⟨[], 0⟩ 1).length c ∧ True := (by rcases hu.2 with h | ⟨-, a, h⟩; (obtain ⟨a, c, h, -⟩ := row7_form h; exact ⟨a, c, h, trivial⟩); exact ⟨a, 0, h, trivial⟩); clear hu; have hw := HW0.out.below hb; have hs := StW.of (T := T0) hb; clear hb; have HW1 := hm7 hw; have HB1 := hm7 (HW0.out.go hs HB0.out HB0.out.size); have HS1 := hm7 hs; clear hw hs)
  go_upto_region 6 with (go_at_call 11; refine (wtakeW_any HW1.out 0).mono ?_; rintro e Y2 ⟨u, T2, hret, hw, h1, h2, h3⟩; rw [e231'] at hret; rw [et] at hw; subst hret; obtain ⟨ua2, uc2, rfl, -⟩ := h3.form; have hs : StW T0 T2 Y1 Y2 := ⟨h2, h1⟩; clear h1 h2 h3; have HW2 := hm7 hw; have HB2 := hm7 (HW1.out.go hs HB1.out HB1.out.size); have HS2 := hm7 hs; clear hw hs)
  go_upto_region 7 with (go_at_call 14; refine (wdropW_any HW2.out (-1)).mono ?_; rintro e Y3 ⟨hret, hq⟩; obtain ⟨T3, hw, hs⟩ := hq.st; clear hq; rw [e231d] at hret; rw [etd] at hw; subst hret; have HW3 := hm7 hw; have HB3 := hm7 (HW2.out.go hs HB2.out HB2.out.size); have HS3 := hm7 hs; clear hw hs)
  go_upto_region 8 with (go_at_call 13; refine (wcpyW_any HW3.out 1).mono ?_; rintro e Y4 ⟨hret, hq⟩; obtain ⟨T4, hw, hs⟩ := hq.st; clear hq; rw [ecn, ecp] at hret; rw [ecs] at hw; subst hret; have HW4 := hm7 hw; have HB4 := hm7 (HW3.out.go hs HB3.out HB3.out.size); have HS4 := hm7 hs; clear hw hs)
  go_upto_region 9 with (go_at_call 16; refine (wswpW_any HW4.out 1 1).mono ?_; rintro e Y5 ⟨hret, hq⟩; obtain ⟨T5, hw, hs⟩ := hq.st; clear hq; rw [esw] at hret; rw [ess] at hw; subst hret; have HW5 := hm7 hw; have HB5 := hm7 (HW4.out.go hs HB4.out HB4.out.size); have HS5 := hm7 hs; clear hw hs)
  go_upto_region 10 with (go_at_call 17; refine (wflpW_any HW5.out 1 0 0).mono ?_; rintro e Y6 ⟨hret, hq⟩; obtain ⟨T6, hw, hs⟩ := hq.st; clear hq; rw [efl] at hret; rw [efs] at hw; subst hret; have HW6 := hm7 hw; have HB6 := hm7 (HW5.out.go hs HB5.out HB5.out.size); have HS6 := hm7 hs; clear hw hs)
  go_upto_region 11 with (go_at_call 18; refine (wcutW_any HW6.out 1 0).mono ?_; rintro e Y7 ⟨hret, hq⟩; obtain ⟨T7, hw, hs⟩ := hq.st; clear hq; rw [ecu] at hret; rw [eus] at hw; subst hret; have HW7 := hm7 hw; have HB7 := hm7 (HW6.out.go hs HB6.out HB6.out.size); have HS7 := hm7 hs; clear hw hs)
  go_upto_region 12 with (go_at_call 10; refine (wsendW_any HW7.out (LbW.nil (fun _ => False) _) (fun _ _ h => h)).mono ?_; rintro e Y8 ⟨hret, hq⟩; obtain ⟨T8, hw, hs⟩ := hq.st; clear hq; rw [esn, ese] at hret; subst hret; have HW8 := hm7 hw; have HB8 := hm7 (HW7.out.go hs HB7.out HB7.out.size); have HS8 := hm7 hs; clear hw hs)
  go_upto_region 13 with (go_at_call 17; refine (wflpW_any HW8.out 1 0 0).mono ?_; rintro e Y9 ⟨hret, hq⟩; obtain ⟨T9, hw, hs⟩ := hq.st; clear hq; rw [e232] at hret; subst hret; have HW9 := hm7 hw; have HB9 := hm7 (HW8.out.go hs HB8.out HB8.out.size); have HS9 := hm7 hs; clear hw hs)
  go_wp2
  go_ret
  exact ⟨rfl, HB9.out⟩
end Go.Proofs.Ytboomeeipnfbmaa
