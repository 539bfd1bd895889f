/-
  The reference's Become, ApplyTest.
-/
import Derived.Test.YtlojgaigbdnjjabDoorD2
import Derived.Test.YtlojgaigbdnjjabDoorT1
import Derived.Test.YtlojgaigbdnjjabDoorB3
namespace Go.Proofs.YtlojgaigbdnjjabDoor
open Go.RowKit
attribute [local go_sem ↓] Go.wp_at_zero Go.wp_at_succ

set_option maxHeartbeats 1000000 in
theorem rbecome_any (s : List Bd) (v : Value) (t : Tm) (w : World) (h : Bs w v s) :
    Calls Tryd.prog 61 #[v, t.v] w fun e w' => e = .returned (become s t).v ∧ Below w.heap.size w w' := by
  have HS : Hid (Bs w v s) := h
  clear h
  obtain ⟨k, n, ss⟩ := t
  cases hv : Tm.var ⟨k, n, ss⟩
  · have HV : Hid (Tm.var ⟨k, n, ss⟩ = false) := hv
    have HB : Hid (become s ⟨k, n, ss⟩ = ⟨k, n, ss⟩) := by show become s _ = _; unfold become; rw [hv]; rfl
    clear hv
    go_enter Tryd.func61, Tryd.ntmps61
    go_wp2_with (go_at_call 44; refine (rvar_any ⟨k, n, ss⟩ _).mono ?_; rw [HV.out]; rintro e w1 ⟨rfl, hb1⟩; have C1 := (BoxB.start _ _ _ _ _).later hb1; obtain ⟨p0, p1, p2, -, -, -⟩ := three C1.1; obtain ⟨q0, q1, q2, f0, f1, f2⟩ := three C1.2.1; have B1 : Hid (BoxB _ _ _ _ _ _) := C1; clear C1)
    refine bodyPost_ret (v := Tm.v ⟨k, n, ss⟩) (by simp [results, Tryd.results61, go_sem, q0, q1, q2]) rfl ⟨?_, ?_⟩
    · rw [HB.out]
    · exact bset (bset (bset (Hid.out B1).2.2 (Nat.le_succ _)) (Nat.le_succ _)) (Nat.le_succ _)
  · have HV : Hid (Tm.var ⟨k, n, ss⟩ = true) := hv
    cases hl : look s n with
    | none =>
      have HB : Hid (become s ⟨k, n, ss⟩ = ⟨k, n, ss⟩) := by show become s _ = _; unfold become; rw [hv, if_pos rfl, hl]; rfl
      have LT : Hid (lookT s n = zt) := by show lookT s n = zt; unfold lookT; rw [hl]; rfl
      have LB : Hid (lookB s n = false) := by show lookB s n = false; unfold lookB; rw [hl]; rfl
      clear hv hl
      go_enter Tryd.func61, Tryd.ntmps61
      go_wp2_with (first
        | (go_at_call 44; refine (rvar_any ⟨k, n, ss⟩ _).mono ?_; rw [HV.out]; rintro e w1 ⟨rfl, hb1⟩; have C1 := (BoxB.start _ _ _ _ _).later hb1; obtain ⟨p0, p1, p2, -, -, -⟩ := three C1.1; have B1 : Hid (BoxB _ _ _ _ _ _) := C1; clear C1)
        | (go_at_call 46; refine (rlook_any s v n _ (HS.out.later (Hid.out B1).2.2)).mono ?_; rw [LT.out, LB.out]; rintro e w2 ⟨rfl, hb2⟩; clear p0 p1 p2; have C2 := (Hid.out B1).later hb2; obtain ⟨p0, p1, p2, -, -, -⟩ := three C2.1; obtain ⟨q0, q1, q2, f0, f1, f2⟩ := three C2.2.1; have zz := C2.lt; have zz0 : w.heap.size < w2.heap.size := Nat.lt_of_succ_lt zz; have B2 : Hid (BoxB _ _ _ _ _ _) := C2; clear C2))
      refine bodyPost_ret (v := Tm.v ⟨k, n, ss⟩) (by simp [results, Tryd.results61, go_sem, q0, q1, q2, zz]) rfl ⟨?_, ?_⟩
      · rw [HB.out]
      · exact balloc (bset (bset (bset (Hid.out B2).2.2 (Nat.le_succ _)) (Nat.le_succ _)) (Nat.le_succ _))
    | some q =>
      have HB : Hid (become s ⟨k, n, ss⟩ = q) := by show become s _ = _; unfold become; rw [hv, if_pos rfl, hl]; rfl
      have LT : Hid (lookT s n = q) := by show lookT s n = q; unfold lookT; rw [hl]; rfl
      have LB : Hid (lookB s n = true) := by show lookB s n = true; unfold lookB; rw [hl]; rfl
      obtain ⟨qk, qn, qs⟩ := q
      clear hv hl
      go_enter Tryd.func61, Tryd.ntmps61
      go_wp2_with (first
        | (go_at_call 44; refine (rvar_any ⟨k, n, ss⟩ _).mono ?_; rw [HV.out]; rintro e w1 ⟨rfl, hb1⟩; have C1 := (BoxB.start _ _ _ _ _).later hb1; obtain ⟨p0, p1, p2, -, -, -⟩ := three C1.1; have B1 : Hid (BoxB _ _ _ _ _ _) := C1; clear C1)
        | (go_at_call 46; refine (rlook_any s v n _ (HS.out.later (Hid.out B1).2.2)).mono ?_; rw [LT.out, LB.out]; rintro e w2 ⟨rfl, hb2⟩; clear p0 p1 p2; have C2 := (Hid.out B1).later hb2; obtain ⟨p0, p1, p2, -, -, -⟩ := three C2.1; obtain ⟨q0, q1, q2, f0, f1, f2⟩ := three C2.2.1; have zz := C2.lt; have zz0 : w.heap.size < w2.heap.size := Nat.lt_of_succ_lt zz; have B2 : Hid (BoxB _ _ _ _ _ _) := C2; clear C2))
      refine bodyPost_ret (v := Tm.v ⟨qk, qn, qs⟩) (by simp [results, Tryd.results61, go_sem, q0, q1, q2, zz]) rfl ⟨?_, ?_⟩
      · rw [HB.out]
      · exact balloc (bset (bset (bset (Hid.out B2).2.2 (Nat.le_succ _)) (Nat.le_succ _)) (Nat.le_succ _))
set_option maxHeartbeats 2000000 in
theorem rapplyTest_any (s : List Bd) (v : Value) (t : Te) (w : World) (h : Bs w v s) :
    Calls Tryd.prog 21 #[v, t.v] w fun e w' => e = .returned (applyTe s t).v ∧ Below w.heap.size w w' := by
  have HS : Hid (Bs w v s) := h
  clear h
  obtain ⟨op, ⟨k, n, ss⟩, ⟨k', n', ss'⟩⟩ := t
  obtain ⟨⟨ak, an, az⟩, ha⟩ : ∃ a, become s ⟨k, n, ss⟩ = a := ⟨_, rfl⟩
  obtain ⟨⟨bk, bn, bz⟩, hb⟩ : ∃ a, become s ⟨k', n', ss'⟩ = a := ⟨_, rfl⟩
  have HR : Hid (applyTe s ⟨op, ⟨k, n, ss⟩, ⟨k', n', ss'⟩⟩ = ⟨op, ⟨ak, an, az⟩, ⟨bk, bn, bz⟩⟩) := by show applyTe s _ = _; unfold applyTe; rw [ha, hb]
  have HA : Hid (become s ⟨k, n, ss⟩ = ⟨ak, an, az⟩) := ha
  have HB : Hid (become s ⟨k', n', ss'⟩ = ⟨bk, bn, bz⟩) := hb
  clear ha hb
  go_enter Tryd.func21, Tryd.ntmps21
  go_wp2
  have C := BoxB.start w #[.int .i64 op, .int .i64 k, .int .i64 n, .string ss, .int .i64 k', .int .i64 n', .string ss'] #[.int .i64 0, .int .i64 0, .int .i64 0, .string ⟨#[]⟩, .int .i64 0, .int .i64 0, .string ⟨#[]⟩] 39 39
  revert C
  generalize (w.alloc (.cells #[.int .i64 op, .int .i64 k, .int .i64 n, .string ss, .int .i64 k', .int .i64 n', .string ss'] 39)).alloc _ = W
  intro C
  obtain ⟨⟨p0, p1, p2, p3, p4, p5, p6⟩, -⟩ := seven C.1
  have zz := C.lt
  have zz0 : w.heap.size < W.heap.size := Nat.lt_of_succ_lt zz
  have HC : Hid (BoxB w W _ _ _ _) := C
  clear C
  refine wp_region_held_drew (S := fun w' => Below (w.heap.size + 1) W w') (by kernel_rfl) (Below.refl _ _).drew (fun hH => ?_)
  have zb : W.drew.heap[w.heap.size + 1]? = some (.cells #[.int .i64 0, .int .i64 0, .int .i64 0, .string ⟨#[]⟩, .int .i64 0, .int .i64 0, .string ⟨#[]⟩] 39 (0, 0)) := (Hid.out HC).2.1
  have zs : w.heap.size + 1 < W.drew.heap.size := zz
  revert hH zb zs
  generalize W.drew = W0
  intro hH zb zs
  refine wpAnyH_take (i := 0) (oi := ⟨_, _, _, _, _, _⟩) (v := .pointer (some ⟨w.heap.size, 0, none⟩)) rfl (by kernel_rfl) (by kernel_rfl) (by kernel_rfl) (fun _ _ _ h => h) (Or.inl ⟨by rfl, fun w' _ => by go_simp⟩) hH ?_
  simp only [Act.put, List.setIfInBounds_toArray, List.set_cons_zero, List.set_cons_succ]
  refine wpAnyH_take (i := 1) (oi := ⟨_, _, _, _, _, _⟩) (v := .int .i64 op) rfl (by kernel_rfl) (by kernel_rfl) (by kernel_rfl) (fun _ _ _ h => h) (Or.inl ⟨by rfl, fun w' h => by have a0 := cell_stepB h (Nat.lt_succ_self _) p0; clear p0 p1 p2 p3 p4 p5 p6; go_simp⟩) hH ?_
  simp only [Act.put, List.setIfInBounds_toArray, List.set_cons_zero, List.set_cons_succ]
  refine wpAnyH_take (i := 2) (oi := ⟨_, _, _, _, _, _⟩) (v := v) rfl (by kernel_rfl) (by kernel_rfl) (by kernel_rfl) (fun _ _ _ h => h) (Or.inl ⟨by rfl, fun w' _ => by go_simp⟩) hH ?_
  simp only [Act.put, List.setIfInBounds_toArray, List.set_cons_zero, List.set_cons_succ]
  refine wpAnyH_take (i := 3) (oi := ⟨_, _, _, _, _, _⟩) (v := .pointer (some ⟨w.heap.size, 1, none⟩)) rfl (by kernel_rfl) (by kernel_rfl) (by kernel_rfl) (fun _ _ _ h => h) (Or.inl ⟨by rfl, fun w' _ => by go_simp⟩) hH ?_
  simp only [Act.put, List.setIfInBounds_toArray, List.set_cons_zero, List.set_cons_succ]
  refine wpAnyH_take (i := 4) (oi := ⟨_, _, _, _, _, _⟩) (v := Tm.v ⟨k, n, ss⟩) rfl (by kernel_rfl) (by kernel_rfl) (by kernel_rfl) (fun _ _ _ h => h) (Or.inl ⟨by rfl, fun w' h => by have a1 := cell_stepB h (Nat.lt_succ_self _) p1; have a2 := cell_stepB h (Nat.lt_succ_self _) p2; have a3 := cell_stepB h (Nat.lt_succ_self _) p3; clear p0 p1 p2 p3 p4 p5 p6; go_simp⟩) hH ?_
  simp only [Act.put, List.setIfInBounds_toArray, List.set_cons_zero, List.set_cons_succ]
  refine wpAnyH_take (i := 6) (oi := ⟨_, _, _, _, _, _⟩) (v := v) rfl (by kernel_rfl) (by kernel_rfl) (by kernel_rfl) (fun _ _ _ h => h) (Or.inl ⟨by rfl, fun w' _ => by go_simp⟩) hH ?_
  simp only [Act.put, List.setIfInBounds_toArray, List.set_cons_zero, List.set_cons_succ]
  refine wpAnyH_take (i := 7) (oi := ⟨_, _, _, _, _, _⟩) (v := .pointer (some ⟨w.heap.size, 4, none⟩)) rfl (by kernel_rfl) (by kernel_rfl) (by kernel_rfl) (fun _ _ _ h => h) (Or.inl ⟨by rfl, fun w' _ => by go_simp⟩) hH ?_
  simp only [Act.put, List.setIfInBounds_toArray, List.set_cons_zero, List.set_cons_succ]
  refine wpAnyH_take (i := 8) (oi := ⟨_, _, _, _, _, _⟩) (v := Tm.v ⟨k', n', ss'⟩) rfl (by kernel_rfl) (by kernel_rfl) (by kernel_rfl) (fun _ _ _ h => h) (Or.inl ⟨by rfl, fun w' h => by have a4 := cell_stepB h (Nat.lt_succ_self _) p4; have a5 := cell_stepB h (Nat.lt_succ_self _) p5; have a6 := cell_stepB h (Nat.lt_succ_self _) p6; clear p0 p1 p2 p3 p4 p5 p6; go_simp⟩) hH ?_
  simp only [Act.put, List.setIfInBounds_toArray, List.set_cons_zero, List.set_cons_succ]
  clear p0 p1 p2 p3 p4 p5 p6
  refine wpAnyH_ready (rs := [5]) (by kernel_rfl) (by simp) ?_
  refine (AllReadyH.cons (o := ⟨_, _, _, _, _, _⟩) rfl (fun K hK => ?_) AllReadyH.nil)
  go_simp
  refine (rbecome_any s v ⟨k, n, ss⟩ _ (HS.out.later ((Hid.out HC).2.2.trans (hH.mono (Nat.le_succ _))))).mono ?_
  rw [HA.out]
  rintro e w3 ⟨rfl, hb3⟩
  refine hK.out _ _ (hH.trans (hb3.mono (Nat.le_of_lt zs))) (fun hH => ?_)
  have zb := (hb3.block _ zs).trans zb
  have zs := lt_step hb3 zs
  clear hK K hb3
  refine wpAnyH_ready (rs := [9]) (by kernel_rfl) (by simp) ?_
  refine (AllReadyH.cons (o := ⟨_, _, _, _, _, _⟩) rfl (fun K hK => ?_) AllReadyH.nil)
  go_simp
  refine (rbecome_any s v ⟨k', n', ss'⟩ _ (HS.out.later ((Hid.out HC).2.2.trans (hH.mono (Nat.le_succ _))))).mono ?_
  rw [HB.out]
  rintro e w4 ⟨rfl, hb4⟩
  refine hK.out _ _ (hH.trans (hb4.mono (Nat.le_of_lt zs))) (fun hH => ?_)
  have zb := (hb4.block _ zs).trans zb
  have zs := lt_step hb4 zs
  clear hK K hb4
  refine wpAnyH_take (i := 10) (oi := ⟨_, _, _, _, _, _⟩) (v := Te.v ⟨op, ⟨ak, an, az⟩, ⟨bk, bn, bz⟩⟩) rfl (by kernel_rfl) (by kernel_rfl) (by kernel_rfl) (fun _ _ _ h => h) (Or.inl ⟨by rfl, fun w' _ => by go_simp⟩) hH ?_
  simp only [Act.put, List.setIfInBounds_toArray, List.set_cons_zero, List.set_cons_succ]
  have q0 := (seven zb).1.1; have q1 := (seven zb).1.2.1; have q2 := (seven zb).1.2.2.1; have q3 := (seven zb).1.2.2.2.1; have q4 := (seven zb).1.2.2.2.2.1; have q5 := (seven zb).1.2.2.2.2.2.1; have q6 := (seven zb).1.2.2.2.2.2.2
  have f0 := (seven zb).2.1; have f1 := (seven zb).2.2.1; have f2 := (seven zb).2.2.2.1; have f3 := (seven zb).2.2.2.2.1; have f4 := (seven zb).2.2.2.2.2.1; have f5 := (seven zb).2.2.2.2.2.2.1; have f6 := (seven zb).2.2.2.2.2.2.2
  refine wpAnyH_ready (rs := [11]) (by kernel_rfl) (by simp) ?_
  refine (AllReadyH.cons (o := ⟨_, _, _, _, _, _⟩) rfl (fun K hK => ?_) AllReadyH.nil)
  go_simp
  have hbs : ∀ {V : World} {i : Nat} {a : Value}, Below (w.heap.size + 1) W V → Below (w.heap.size + 1) W (V.setCell ⟨w.heap.size + 1, i, none⟩ a) := fun h => h.setCell (Nat.le_refl _) _
  refine hK.out _ _ (hbs (hbs (hbs (hbs (hbs (hbs (hbs hH))))))) (fun hH => ?_)
  clear hK K
  refine wpAnyH_done (by kernel_rfl) ?_ _
  go_wp2
  refine bodyPost_ret (v := Te.v ⟨op, ⟨ak, an, az⟩, ⟨bk, bn, bz⟩⟩) (by simp [results, Tryd.results21, go_sem, q0, q1, q2, q3, q4, q5, q6]) rfl ⟨?_, ?_⟩
  · rw [HR.out]
  · exact (Hid.out HC).2.2.trans (hH.mono (Nat.le_succ _))
end Go.Proofs.YtlojgaigbdnjjabDoor
