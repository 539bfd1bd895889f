import Derived.Test.YtechceagghcipaaGreatDoorD2
import Derived.Test.YtechceagghcipaaGreatDoorT1
import Derived.Test.YtechceagghcipaaGreatDoorB3
namespace Go.Proofs.YtechceagghcipaaGreatDoor
open Go.RowKit
attribute [local go_sem ↓] Go.wp_at_zero Go.wp_at_succ

set_option maxHeartbeats 1000000 in
theorem rbecome_any (s : List Bd) (v : Value) (t : Tm) (w : World) (h : Bs w v s) :
  Calls Tryz.prog 168 #[v, t.v] w fun e w' => e = .returned (become s t).v /\ Below w.heap.size w w' := by
 have HS : Hid (Bs w v s) := h
 clear h
 obtain ⟨k, n, ss⟩ := t
 cases hv : Tm.var ⟨k, n, ss⟩
 ·have HV : Hid (Tm.var ⟨k, n, ss⟩ = false) := hv
  have HB : Hid (become s ⟨k, n, ss⟩ = ⟨k, n, ss⟩) := by show become s _ = _; unfold become; rw [hv]; rfl
  clear hv
  go_enter Tryz.func168, Tryz.ntmps168
  go_wp2_with (go_at_call 149; refine (rvar_any ⟨k, n, ss⟩ _).mono ?_; rw [HV.out]; rintro e w1 ⟨rfl, hb1⟩; have C1 := (BoxB.start _ _ _ _ _).later hb1; obtain ⟨p0, p1, p2, -, -, -⟩ := three C1.1; obtain ⟨q0, q1, q2, f0, f1, f2⟩ := three C1.2.1; have B1 : Hid (BoxB _ _ _ _ _ _) := C1; clear C1)
  refine bodyPost_ret (v := Tm.v ⟨k, n, ss⟩) (by simp [results, Tryz.results168, go_sem, q0, q1, q2]) rfl ⟨?_, ?_⟩
  ·rw [HB.out]
  ·exact bset (bset (bset (Hid.out B1).2.2 (Nat.le_succ _)) (Nat.le_succ _)) (Nat.le_succ _)
 ·have HV : Hid (Tm.var ⟨k, n, ss⟩ = true) := hv
  cases hl : look s n with
  | none =>
   have HB : Hid (become s ⟨k, n, ss⟩ = ⟨k, n, ss⟩) := by show become s _ = _; unfold become; rw [hv, if_pos rfl, hl]; rfl
   have LT : Hid (lookT s n = zt) := by show lookT s n = zt; unfold lookT; rw [hl]; rfl
   have LB : Hid (lookB s n = false) := by show lookB s n = false; unfold lookB; rw [hl]; rfl
   clear hv hl
   go_enter Tryz.func168, Tryz.ntmps168
   go_wp2_with (first
    | (go_at_call 149; refine (rvar_any ⟨k, n, ss⟩ _).mono ?_; rw [HV.out]; rintro e w1 ⟨rfl, hb1⟩; have C1 := (BoxB.start _ _ _ _ _).later hb1; obtain ⟨p0, p1, p2, -, -, -⟩ := three C1.1; have B1 : Hid (BoxB _ _ _ _ _ _) := C1; clear C1)
    | (go_at_call 151; refine (rlook_any s v n _ (HS.out.later (Hid.out B1).2.2)).mono ?_; rw [LT.out, LB.out]; rintro e w2 ⟨rfl, hb2⟩; clear p0 p1 p2; have C2 := (Hid.out B1).later hb2; obtain ⟨p0, p1, p2, -, -, -⟩ := three C2.1; obtain ⟨q0, q1, q2, f0, f1, f2⟩ := three C2.2.1; have zz := C2.lt; have zz0 : w.heap.size < w2.heap.size := Nat.lt_of_succ_lt zz; have B2 : Hid (BoxB _ _ _ _ _ _) := C2; clear C2))
   refine bodyPost_ret (v := Tm.v ⟨k, n, ss⟩) (by simp [results, Tryz.results168, go_sem, q0, q1, q2, zz]) rfl ⟨?_, ?_⟩
   ·rw [HB.out]
   ·exact balloc (bset (bset (bset (Hid.out B2).2.2 (Nat.le_succ _)) (Nat.le_succ _)) (Nat.le_succ _))
  | some q =>
   have HB : Hid (become s ⟨k, n, ss⟩ = q) := by show become s _ = _; unfold become; rw [hv, if_pos rfl, hl]; rfl
   have LT : Hid (lookT s n = q) := by show lookT s n = q; unfold lookT; rw [hl]; rfl
   have LB : Hid (lookB s n = true) := by show lookB s n = true; unfold lookB; rw [hl]; rfl
   obtain ⟨qk, qn, qs⟩ := q
   clear hv hl
   go_enter Tryz.func168, Tryz.ntmps168
   go_wp2_with (first
    | (go_at_call 149; refine (rvar_any ⟨k, n, ss⟩ _).mono ?_; rw [HV.out]; rintro e w1 ⟨rfl, hb1⟩; have C1 := (BoxB.start _ _ _ _ _).later hb1; obtain ⟨p0, p1, p2, -, -, -⟩ := three C1.1; have B1 : Hid (BoxB _ _ _ _ _ _) := C1; clear C1)
    | (go_at_call 151; refine (rlook_any s v n _ (HS.out.later (Hid.out B1).2.2)).mono ?_; rw [LT.out, LB.out]; rintro e w2 ⟨rfl, hb2⟩; clear p0 p1 p2; have C2 := (Hid.out B1).later hb2; obtain ⟨p0, p1, p2, -, -, -⟩ := three C2.1; obtain ⟨q0, q1, q2, f0, f1, f2⟩ := three C2.2.1; have zz := C2.lt; have zz0 : w.heap.size < w2.heap.size := Nat.lt_of_succ_lt zz; have B2 : Hid (BoxB _ _ _ _ _ _) := C2; clear C2))
   refine bodyPost_ret (v := Tm.v ⟨qk, qn, qs⟩) (by simp [results, Tryz.results168, go_sem, q0, q1, q2, zz]) rfl ⟨?_, ?_⟩
   ·rw [HB.out]
   ·exact balloc (bset (bset (bset (Hid.out B2).2.2 (Nat.le_succ _)) (Nat.le_succ _)) (Nat.le_succ _))
end Go.Proofs.YtechceagghcipaaGreatDoor
