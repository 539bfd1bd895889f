/-
  growTogether, Spell.
-/
import Derived.Test.YtcpjiahdaplhlaaGreatDoorJ4
namespace Go.Proofs.YtcpjiahdaplhlaaGreatDoor
open Go.RowKit

theorem cell_stepK {w' w3 : World} {b o : Nat} {v : Value} (h3 : Below w'.heap.size w' w3) (hb : b < w'.heap.size) (hc : w'.cell? ⟨b, o, none⟩ = some v) : w3.cell? ⟨b, o, none⟩ = some v := by
  rw [h3.cell (p := ⟨b, o, none⟩) hb]; exact hc
def itB (n : Int) : ByteArray := ⟨(Lib.itoa n).toArray⟩
/-- What a token is spelled as. -/
def spl (t : Tk) : Option ByteArray :=
  if t.k = 1 then (if wrd t.x = true ∧ t.n = 0 then some t.x else none)
  else if t.k = 2 then (if vrb t.x = true ∧ t.n = 0 then some t.x else none)
  else if t.k = 3 then (if t.n = 0 then some (qtB t.x) else none)
  else if t.k = 4 then (if t.x = ⟨#[]⟩ then some (itB t.n) else none)
  else if ¬ sgo t.k = ⟨#[]⟩ ∧ t.x = ⟨#[]⟩ ∧ t.n = 0 then some (sgo t.k) else none
theorem strE (x : ByteArray) : (x.toList == []) = decide (x = ⟨#[]⟩) := by rw [← str_dec, emptyL]
theorem isEK (x : ByteArray) : x.toList.isEmpty = decide (x = ⟨#[]⟩) := by
  rw [← strE]; cases x.toList <;> rfl
set_option maxRecDepth 20000 in
set_option maxHeartbeats 2000000 in
theorem spell_any (t : Tk) (hx : t.x.size ≤ 2000000) (h0 : -9223372036854775808 ≤ t.n) (h1 : t.n ≤ 9223372036854775807) (w : World) (hE : EnvOk w) :
    Calls Tryz.prog 37 #[t.v] w fun e w' => e = .returned (.tuple #[.string ((spl t).getD ⟨#[]⟩), .bool (spl t).isSome]) ∧ Below w.heap.size w w' := by
  have cw := fun X h => word_any t.x (by omega) X h
  have cv := variable_any t.x (by omega)
  have cq := quote_any t.x hx
  have ci := fun X h => itoa_any t.n h0 h1 X h
  have co := fun X h => signOf_any t.k X h
  have HE : Hid (EnvOk w) := hE
  obtain ⟨k, x, n, a, e⟩ := t
  simp only at cw cv cq ci co
  clear hx h0 h1 hE
  obtain ⟨R, hR⟩ : ∃ R, spl ⟨k, x, n, a, e⟩ = R := ⟨_, rfl⟩
  have HR : Hid (spl ⟨k, x, n, a, e⟩ = R) := hR
  rw [hR]
  clear hR
  go_enter Tryz.func37, Tryz.ntmps37
  go_upto_region 1 with fail
  have hb1 := below1K w (.cells #[.int .i64 k, .string x, .int .i64 n, .int .i64 a, .int .i64 e] 64)
  have B1 := BlkK.new w #[.int .i64 k, .string x, .int .i64 n, .int .i64 a, .int .i64 e] 64
  revert hb1 B1
  generalize w.alloc (.cells #[.int .i64 k, .string x, .int .i64 n, .int .i64 a, .int .i64 e] 64) = W
  intro hb1 B1
  have HB : Hid (Below w.heap.size w W) := hb1
  have BT : Hid (BlkK W w.heap.size #[.int .i64 k, .string x, .int .i64 n, .int .i64 a, .int .i64 e] 64) := B1
  have HEW : Hid (EnvOk W) := HE.out.later hb1
  obtain ⟨a0, a1, a2, a3, a4⟩ := fiveK B1
  clear hb1 B1
  by_cases q1 : k = 1
  · subst q1
    cases o : wrd x
    · have E : spl ⟨1, x, n, a, e⟩ = none := by unfold spl; rw [if_pos rfl]; rw [if_neg (by simp [o])]
      obtain rfl := HR.out.symm.trans E
      rw [o] at cw
      clear E o HR
      go_upto_region 7 with fail
      refine wp_region_held_drew (S := fun w' => Below W.heap.size W w') (by kernel_rfl) (Below.refl _ _).drew (fun hH => ?_)
      revert hH
      generalize W.drew = V
      intro hH
      refine wpAnyH_take (i := 0) (oi := ⟨_, _, _, _, _, _⟩) (v := .pointer (some ⟨w.heap.size, 1, none⟩)) rfl (by kernel_rfl) (by kernel_rfl) (by kernel_rfl) (fun _ _ _ h => h) (Or.inl ⟨by rfl, fun w' _ => by go_simp⟩) hH ?_
      simp only [Act.put, List.setIfInBounds_toArray, List.set_cons_zero, List.set_cons_succ]
      refine wpAnyH_take (i := 1) (oi := ⟨_, _, _, _, _, _⟩) (v := .string x) rfl (by kernel_rfl) (by kernel_rfl) (by kernel_rfl) (fun _ _ _ h => h) (Or.inl ⟨by rfl, fun w' h => by obtain ⟨p0, p1, p2, p3, p4⟩ := fiveK (Hid.out BT); have z := BlkK.lt (Hid.out BT); have a0 := cell_stepK h z p0; have a1 := cell_stepK h z p1; have a2 := cell_stepK h z p2; have a3 := cell_stepK h z p3; have a4 := cell_stepK h z p4; clear p0 p1 p2 p3 p4; go_simp⟩) hH ?_
      simp only [Act.put, List.setIfInBounds_toArray, List.set_cons_zero, List.set_cons_succ]
      refine wpAnyH_take (i := 2) (oi := ⟨_, _, _, _, _, _⟩) (v := .pointer (some ⟨w.heap.size, 1, none⟩)) rfl (by kernel_rfl) (by kernel_rfl) (by kernel_rfl) (fun _ _ _ h => h) (Or.inl ⟨by rfl, fun w' _ => by go_simp⟩) hH ?_
      simp only [Act.put, List.setIfInBounds_toArray, List.set_cons_zero, List.set_cons_succ]
      refine wpAnyH_take (i := 3) (oi := ⟨_, _, _, _, _, _⟩) (v := .string x) rfl (by kernel_rfl) (by kernel_rfl) (by kernel_rfl) (fun _ _ _ h => h) (Or.inl ⟨by rfl, fun w' h => by obtain ⟨p0, p1, p2, p3, p4⟩ := fiveK (Hid.out BT); have z := BlkK.lt (Hid.out BT); have a0 := cell_stepK h z p0; have a1 := cell_stepK h z p1; have a2 := cell_stepK h z p2; have a3 := cell_stepK h z p3; have a4 := cell_stepK h z p4; clear p0 p1 p2 p3 p4; go_simp⟩) hH ?_
      simp only [Act.put, List.setIfInBounds_toArray, List.set_cons_zero, List.set_cons_succ]
      refine wpAnyH_ready (rs := [4]) (by kernel_rfl) (by simp) ?_
      refine (AllReadyH.cons (o := ⟨_, _, _, _, _, _⟩) rfl (fun K hK => ?_) AllReadyH.nil)
      go_simp
      refine (cw _ (HEW.out.later hH).signs.says).mono ?_
      rintro e V1 ⟨rfl, rfl⟩
      refine hK.out _ _ hH (fun hH => ?_)
      clear hK K
      refine wpAnyH_take (i := 5) (oi := ⟨_, _, _, _, _, _⟩) (v := .bool false) rfl (by kernel_rfl) (by kernel_rfl) (by kernel_rfl) (fun _ _ _ h => h) (Or.inl ⟨by rfl, fun w' _ => by go_simp⟩) hH ?_
      simp only [Act.put, List.setIfInBounds_toArray, List.set_cons_zero, List.set_cons_succ]
      refine wpAnyH_take (i := 6) (oi := ⟨_, _, _, _, _, _⟩) (v := undef) rfl (by kernel_rfl) (by kernel_rfl) (by kernel_rfl) (fun _ _ _ h => h) (Or.inr ⟨by rfl, rfl⟩) hH ?_
      simp only [Act.put, List.setIfInBounds_toArray, List.set_cons_zero, List.set_cons_succ]
      refine wpAnyH_take (i := 7) (oi := ⟨_, _, _, _, _, _⟩) (v := undef) rfl (by kernel_rfl) (by kernel_rfl) (by kernel_rfl) (fun _ _ _ h => h) (Or.inr ⟨by rfl, rfl⟩) hH ?_
      simp only [Act.put, List.setIfInBounds_toArray, List.set_cons_zero, List.set_cons_succ]
      refine wpAnyH_take (i := 8) (oi := ⟨_, _, _, _, _, _⟩) (v := undef) rfl (by kernel_rfl) (by kernel_rfl) (by kernel_rfl) (fun _ _ _ h => h) (Or.inr ⟨by rfl, rfl⟩) hH ?_
      simp only [Act.put, List.setIfInBounds_toArray, List.set_cons_zero, List.set_cons_succ]
      refine wpAnyH_take (i := 9) (oi := ⟨_, _, _, _, _, _⟩) (v := .bool false) rfl (by kernel_rfl) (by kernel_rfl) (by kernel_rfl) (fun _ _ _ h => h) (Or.inl ⟨by rfl, fun w' _ => by go_simp⟩) hH ?_
      simp only [Act.put, List.setIfInBounds_toArray, List.set_cons_zero, List.set_cons_succ]
      refine wpAnyH_take (i := 10) (oi := ⟨_, _, _, _, _, _⟩) (v := .string x) rfl (by kernel_rfl) (by kernel_rfl) (by kernel_rfl) (fun _ _ _ h => h) (Or.inl ⟨by rfl, fun w' _ => by go_simp⟩) hH ?_
      simp only [Act.put, List.setIfInBounds_toArray, List.set_cons_zero, List.set_cons_succ]
      refine wpAnyH_take (i := 11) (oi := ⟨_, _, _, _, _, _⟩) (v := .bool false) rfl (by kernel_rfl) (by kernel_rfl) (by kernel_rfl) (fun _ _ _ h => h) (Or.inl ⟨by rfl, fun w' _ => by go_simp⟩) hH ?_
      simp only [Act.put, List.setIfInBounds_toArray, List.set_cons_zero, List.set_cons_succ]
      refine wpAnyH_done (by kernel_rfl) ?_ _
      clear a0 a1 a2 a3 a4
      go_wp2
      go_ret2
      exact ⟨ret_2 rfl rfl, below_stepK HB.out hH⟩
    · rw [o] at cw
      by_cases q : n = 0
      · have E : spl ⟨1, x, n, a, e⟩ = some x := by unfold spl; rw [if_pos rfl]; rw [if_pos ⟨o, q⟩]
        obtain rfl := HR.out.symm.trans E
        have m1 : (n == 0) = true := by simp [q]
        clear E o q HR
        go_upto_region 7 with fail
        refine wp_region_held_drew (S := fun w' => Below W.heap.size W w') (by kernel_rfl) (Below.refl _ _).drew (fun hH => ?_)
        revert hH
        generalize W.drew = V
        intro hH
        refine wpAnyH_take (i := 0) (oi := ⟨_, _, _, _, _, _⟩) (v := .pointer (some ⟨w.heap.size, 1, none⟩)) rfl (by kernel_rfl) (by kernel_rfl) (by kernel_rfl) (fun _ _ _ h => h) (Or.inl ⟨by rfl, fun w' _ => by go_simp⟩) hH ?_
        simp only [Act.put, List.setIfInBounds_toArray, List.set_cons_zero, List.set_cons_succ]
        refine wpAnyH_take (i := 1) (oi := ⟨_, _, _, _, _, _⟩) (v := .string x) rfl (by kernel_rfl) (by kernel_rfl) (by kernel_rfl) (fun _ _ _ h => h) (Or.inl ⟨by rfl, fun w' h => by obtain ⟨p0, p1, p2, p3, p4⟩ := fiveK (Hid.out BT); have z := BlkK.lt (Hid.out BT); have a0 := cell_stepK h z p0; have a1 := cell_stepK h z p1; have a2 := cell_stepK h z p2; have a3 := cell_stepK h z p3; have a4 := cell_stepK h z p4; clear p0 p1 p2 p3 p4; go_simp⟩) hH ?_
        simp only [Act.put, List.setIfInBounds_toArray, List.set_cons_zero, List.set_cons_succ]
        refine wpAnyH_take (i := 2) (oi := ⟨_, _, _, _, _, _⟩) (v := .pointer (some ⟨w.heap.size, 1, none⟩)) rfl (by kernel_rfl) (by kernel_rfl) (by kernel_rfl) (fun _ _ _ h => h) (Or.inl ⟨by rfl, fun w' _ => by go_simp⟩) hH ?_
        simp only [Act.put, List.setIfInBounds_toArray, List.set_cons_zero, List.set_cons_succ]
        refine wpAnyH_take (i := 3) (oi := ⟨_, _, _, _, _, _⟩) (v := .string x) rfl (by kernel_rfl) (by kernel_rfl) (by kernel_rfl) (fun _ _ _ h => h) (Or.inl ⟨by rfl, fun w' h => by obtain ⟨p0, p1, p2, p3, p4⟩ := fiveK (Hid.out BT); have z := BlkK.lt (Hid.out BT); have a0 := cell_stepK h z p0; have a1 := cell_stepK h z p1; have a2 := cell_stepK h z p2; have a3 := cell_stepK h z p3; have a4 := cell_stepK h z p4; clear p0 p1 p2 p3 p4; go_simp⟩) hH ?_
        simp only [Act.put, List.setIfInBounds_toArray, List.set_cons_zero, List.set_cons_succ]
        refine wpAnyH_ready (rs := [4]) (by kernel_rfl) (by simp) ?_
        refine (AllReadyH.cons (o := ⟨_, _, _, _, _, _⟩) rfl (fun K hK => ?_) AllReadyH.nil)
        go_simp
        refine (cw _ (HEW.out.later hH).signs.says).mono ?_
        rintro e V1 ⟨rfl, rfl⟩
        refine hK.out _ _ hH (fun hH => ?_)
        clear hK K
        refine wpAnyH_take (i := 5) (oi := ⟨_, _, _, _, _, _⟩) (v := .bool true) rfl (by kernel_rfl) (by kernel_rfl) (by kernel_rfl) (fun _ _ _ h => h) (Or.inl ⟨by rfl, fun w' _ => by go_simp⟩) hH ?_
        simp only [Act.put, List.setIfInBounds_toArray, List.set_cons_zero, List.set_cons_succ]
        refine wpAnyH_take (i := 6) (oi := ⟨_, _, _, _, _, _⟩) (v := .pointer (some ⟨w.heap.size, 2, none⟩)) rfl (by kernel_rfl) (by kernel_rfl) (by kernel_rfl) (fun _ _ _ h => h) (Or.inl ⟨by rfl, fun w' _ => by go_simp⟩) hH ?_
        simp only [Act.put, List.setIfInBounds_toArray, List.set_cons_zero, List.set_cons_succ]
        refine wpAnyH_take (i := 7) (oi := ⟨_, _, _, _, _, _⟩) (v := .int .i64 n) rfl (by kernel_rfl) (by kernel_rfl) (by kernel_rfl) (fun _ _ _ h => h) (Or.inl ⟨by rfl, fun w' h => by obtain ⟨p0, p1, p2, p3, p4⟩ := fiveK (Hid.out BT); have z := BlkK.lt (Hid.out BT); have a0 := cell_stepK h z p0; have a1 := cell_stepK h z p1; have a2 := cell_stepK h z p2; have a3 := cell_stepK h z p3; have a4 := cell_stepK h z p4; clear p0 p1 p2 p3 p4; go_simp⟩) hH ?_
        simp only [Act.put, List.setIfInBounds_toArray, List.set_cons_zero, List.set_cons_succ]
        refine wpAnyH_take (i := 8) (oi := ⟨_, _, _, _, _, _⟩) (v := .bool true) rfl (by kernel_rfl) (by kernel_rfl) (by kernel_rfl) (fun _ _ _ h => h) (Or.inl ⟨by rfl, fun w' _ => by go_simp⟩) hH ?_
        simp only [Act.put, List.setIfInBounds_toArray, List.set_cons_zero, List.set_cons_succ]
        refine wpAnyH_take (i := 9) (oi := ⟨_, _, _, _, _, _⟩) (v := .bool true) rfl (by kernel_rfl) (by kernel_rfl) (by kernel_rfl) (fun _ _ _ h => h) (Or.inl ⟨by rfl, fun w' _ => by go_simp⟩) hH ?_
        simp only [Act.put, List.setIfInBounds_toArray, List.set_cons_zero, List.set_cons_succ]
        refine wpAnyH_take (i := 10) (oi := ⟨_, _, _, _, _, _⟩) (v := .string x) rfl (by kernel_rfl) (by kernel_rfl) (by kernel_rfl) (fun _ _ _ h => h) (Or.inl ⟨by rfl, fun w' _ => by go_simp⟩) hH ?_
        simp only [Act.put, List.setIfInBounds_toArray, List.set_cons_zero, List.set_cons_succ]
        refine wpAnyH_take (i := 11) (oi := ⟨_, _, _, _, _, _⟩) (v := .bool true) rfl (by kernel_rfl) (by kernel_rfl) (by kernel_rfl) (fun _ _ _ h => h) (Or.inl ⟨by rfl, fun w' _ => by go_simp⟩) hH ?_
        simp only [Act.put, List.setIfInBounds_toArray, List.set_cons_zero, List.set_cons_succ]
        refine wpAnyH_done (by kernel_rfl) ?_ _
        clear a0 a1 a2 a3 a4
        go_wp2
        go_ret2
        exact ⟨ret_2 rfl rfl, below_stepK HB.out hH⟩
      · have E : spl ⟨1, x, n, a, e⟩ = none := by unfold spl; rw [if_pos rfl]; rw [if_neg (fun h => q h.2)]
        obtain rfl := HR.out.symm.trans E
        have m1 : (n == 0) = false := beq_eq_false_iff_ne.2 q
        clear E o q HR
        go_upto_region 7 with fail
        refine wp_region_held_drew (S := fun w' => Below W.heap.size W w') (by kernel_rfl) (Below.refl _ _).drew (fun hH => ?_)
        revert hH
        generalize W.drew = V
        intro hH
        refine wpAnyH_take (i := 0) (oi := ⟨_, _, _, _, _, _⟩) (v := .pointer (some ⟨w.heap.size, 1, none⟩)) rfl (by kernel_rfl) (by kernel_rfl) (by kernel_rfl) (fun _ _ _ h => h) (Or.inl ⟨by rfl, fun w' _ => by go_simp⟩) hH ?_
        simp only [Act.put, List.setIfInBounds_toArray, List.set_cons_zero, List.set_cons_succ]
        refine wpAnyH_take (i := 1) (oi := ⟨_, _, _, _, _, _⟩) (v := .string x) rfl (by kernel_rfl) (by kernel_rfl) (by kernel_rfl) (fun _ _ _ h => h) (Or.inl ⟨by rfl, fun w' h => by obtain ⟨p0, p1, p2, p3, p4⟩ := fiveK (Hid.out BT); have z := BlkK.lt (Hid.out BT); have a0 := cell_stepK h z p0; have a1 := cell_stepK h z p1; have a2 := cell_stepK h z p2; have a3 := cell_stepK h z p3; have a4 := cell_stepK h z p4; clear p0 p1 p2 p3 p4; go_simp⟩) hH ?_
        simp only [Act.put, List.setIfInBounds_toArray, List.set_cons_zero, List.set_cons_succ]
        refine wpAnyH_take (i := 2) (oi := ⟨_, _, _, _, _, _⟩) (v := .pointer (some ⟨w.heap.size, 1, none⟩)) rfl (by kernel_rfl) (by kernel_rfl) (by kernel_rfl) (fun _ _ _ h => h) (Or.inl ⟨by rfl, fun w' _ => by go_simp⟩) hH ?_
        simp only [Act.put, List.setIfInBounds_toArray, List.set_cons_zero, List.set_cons_succ]
        refine wpAnyH_take (i := 3) (oi := ⟨_, _, _, _, _, _⟩) (v := .string x) rfl (by kernel_rfl) (by kernel_rfl) (by kernel_rfl) (fun _ _ _ h => h) (Or.inl ⟨by rfl, fun w' h => by obtain ⟨p0, p1, p2, p3, p4⟩ := fiveK (Hid.out BT); have z := BlkK.lt (Hid.out BT); have a0 := cell_stepK h z p0; have a1 := cell_stepK h z p1; have a2 := cell_stepK h z p2; have a3 := cell_stepK h z p3; have a4 := cell_stepK h z p4; clear p0 p1 p2 p3 p4; go_simp⟩) hH ?_
        simp only [Act.put, List.setIfInBounds_toArray, List.set_cons_zero, List.set_cons_succ]
        refine wpAnyH_ready (rs := [4]) (by kernel_rfl) (by simp) ?_
        refine (AllReadyH.cons (o := ⟨_, _, _, _, _, _⟩) rfl (fun K hK => ?_) AllReadyH.nil)
        go_simp
        refine (cw _ (HEW.out.later hH).signs.says).mono ?_
        rintro e V1 ⟨rfl, rfl⟩
        refine hK.out _ _ hH (fun hH => ?_)
        clear hK K
        refine wpAnyH_take (i := 5) (oi := ⟨_, _, _, _, _, _⟩) (v := .bool true) rfl (by kernel_rfl) (by kernel_rfl) (by kernel_rfl) (fun _ _ _ h => h) (Or.inl ⟨by rfl, fun w' _ => by go_simp⟩) hH ?_
        simp only [Act.put, List.setIfInBounds_toArray, List.set_cons_zero, List.set_cons_succ]
        refine wpAnyH_take (i := 6) (oi := ⟨_, _, _, _, _, _⟩) (v := .pointer (some ⟨w.heap.size, 2, none⟩)) rfl (by kernel_rfl) (by kernel_rfl) (by kernel_rfl) (fun _ _ _ h => h) (Or.inl ⟨by rfl, fun w' _ => by go_simp⟩) hH ?_
        simp only [Act.put, List.setIfInBounds_toArray, List.set_cons_zero, List.set_cons_succ]
        refine wpAnyH_take (i := 7) (oi := ⟨_, _, _, _, _, _⟩) (v := .int .i64 n) rfl (by kernel_rfl) (by kernel_rfl) (by kernel_rfl) (fun _ _ _ h => h) (Or.inl ⟨by rfl, fun w' h => by obtain ⟨p0, p1, p2, p3, p4⟩ := fiveK (Hid.out BT); have z := BlkK.lt (Hid.out BT); have a0 := cell_stepK h z p0; have a1 := cell_stepK h z p1; have a2 := cell_stepK h z p2; have a3 := cell_stepK h z p3; have a4 := cell_stepK h z p4; clear p0 p1 p2 p3 p4; go_simp⟩) hH ?_
        simp only [Act.put, List.setIfInBounds_toArray, List.set_cons_zero, List.set_cons_succ]
        refine wpAnyH_take (i := 8) (oi := ⟨_, _, _, _, _, _⟩) (v := .bool false) rfl (by kernel_rfl) (by kernel_rfl) (by kernel_rfl) (fun _ _ _ h => h) (Or.inl ⟨by rfl, fun w' _ => by go_simp⟩) hH ?_
        simp only [Act.put, List.setIfInBounds_toArray, List.set_cons_zero, List.set_cons_succ]
        refine wpAnyH_take (i := 9) (oi := ⟨_, _, _, _, _, _⟩) (v := .bool false) rfl (by kernel_rfl) (by kernel_rfl) (by kernel_rfl) (fun _ _ _ h => h) (Or.inl ⟨by rfl, fun w' _ => by go_simp⟩) hH ?_
        simp only [Act.put, List.setIfInBounds_toArray, List.set_cons_zero, List.set_cons_succ]
        refine wpAnyH_take (i := 10) (oi := ⟨_, _, _, _, _, _⟩) (v := .string x) rfl (by kernel_rfl) (by kernel_rfl) (by kernel_rfl) (fun _ _ _ h => h) (Or.inl ⟨by rfl, fun w' _ => by go_simp⟩) hH ?_
        simp only [Act.put, List.setIfInBounds_toArray, List.set_cons_zero, List.set_cons_succ]
        refine wpAnyH_take (i := 11) (oi := ⟨_, _, _, _, _, _⟩) (v := .bool false) rfl (by kernel_rfl) (by kernel_rfl) (by kernel_rfl) (fun _ _ _ h => h) (Or.inl ⟨by rfl, fun w' _ => by go_simp⟩) hH ?_
        simp only [Act.put, List.setIfInBounds_toArray, List.set_cons_zero, List.set_cons_succ]
        refine wpAnyH_done (by kernel_rfl) ?_ _
        clear a0 a1 a2 a3 a4
        go_wp2
        go_ret2
        exact ⟨ret_2 rfl rfl, below_stepK HB.out hH⟩
  · have n1 : (k == 1) = false := beq_eq_false_iff_ne.2 q1
    by_cases q2 : k = 2
    · clear q1 n1
      subst q2
      cases o : vrb x
      · have E : spl ⟨2, x, n, a, e⟩ = none := by unfold spl; rw [if_neg (by simp), if_pos rfl]; rw [if_neg (by simp [o])]
        obtain rfl := HR.out.symm.trans E
        rw [o] at cv
        clear E o HR
        go_upto_region 9 with fail
        refine wp_region_held_drew (S := fun w' => Below W.heap.size W w') (by kernel_rfl) (Below.refl _ _).drew (fun hH => ?_)
        revert hH
        generalize W.drew = V
        intro hH
        refine wpAnyH_take (i := 0) (oi := ⟨_, _, _, _, _, _⟩) (v := .pointer (some ⟨w.heap.size, 1, none⟩)) rfl (by kernel_rfl) (by kernel_rfl) (by kernel_rfl) (fun _ _ _ h => h) (Or.inl ⟨by rfl, fun w' _ => by go_simp⟩) hH ?_
        simp only [Act.put, List.setIfInBounds_toArray, List.set_cons_zero, List.set_cons_succ]
        refine wpAnyH_take (i := 1) (oi := ⟨_, _, _, _, _, _⟩) (v := .string x) rfl (by kernel_rfl) (by kernel_rfl) (by kernel_rfl) (fun _ _ _ h => h) (Or.inl ⟨by rfl, fun w' h => by obtain ⟨p0, p1, p2, p3, p4⟩ := fiveK (Hid.out BT); have z := BlkK.lt (Hid.out BT); have a0 := cell_stepK h z p0; have a1 := cell_stepK h z p1; have a2 := cell_stepK h z p2; have a3 := cell_stepK h z p3; have a4 := cell_stepK h z p4; clear p0 p1 p2 p3 p4; go_simp⟩) hH ?_
        simp only [Act.put, List.setIfInBounds_toArray, List.set_cons_zero, List.set_cons_succ]
        refine wpAnyH_take (i := 2) (oi := ⟨_, _, _, _, _, _⟩) (v := .pointer (some ⟨w.heap.size, 1, none⟩)) rfl (by kernel_rfl) (by kernel_rfl) (by kernel_rfl) (fun _ _ _ h => h) (Or.inl ⟨by rfl, fun w' _ => by go_simp⟩) hH ?_
        simp only [Act.put, List.setIfInBounds_toArray, List.set_cons_zero, List.set_cons_succ]
        refine wpAnyH_take (i := 3) (oi := ⟨_, _, _, _, _, _⟩) (v := .string x) rfl (by kernel_rfl) (by kernel_rfl) (by kernel_rfl) (fun _ _ _ h => h) (Or.inl ⟨by rfl, fun w' h => by obtain ⟨p0, p1, p2, p3, p4⟩ := fiveK (Hid.out BT); have z := BlkK.lt (Hid.out BT); have a0 := cell_stepK h z p0; have a1 := cell_stepK h z p1; have a2 := cell_stepK h z p2; have a3 := cell_stepK h z p3; have a4 := cell_stepK h z p4; clear p0 p1 p2 p3 p4; go_simp⟩) hH ?_
        simp only [Act.put, List.setIfInBounds_toArray, List.set_cons_zero, List.set_cons_succ]
        refine wpAnyH_ready (rs := [4]) (by kernel_rfl) (by simp) ?_
        refine (AllReadyH.cons (o := ⟨_, _, _, _, _, _⟩) rfl (fun K hK => ?_) AllReadyH.nil)
        go_simp
        refine (cv _).mono ?_
        rintro e V1 ⟨rfl, rfl⟩
        refine hK.out _ _ hH (fun hH => ?_)
        clear hK K
        refine wpAnyH_take (i := 5) (oi := ⟨_, _, _, _, _, _⟩) (v := .bool false) rfl (by kernel_rfl) (by kernel_rfl) (by kernel_rfl) (fun _ _ _ h => h) (Or.inl ⟨by rfl, fun w' _ => by go_simp⟩) hH ?_
        simp only [Act.put, List.setIfInBounds_toArray, List.set_cons_zero, List.set_cons_succ]
        refine wpAnyH_take (i := 6) (oi := ⟨_, _, _, _, _, _⟩) (v := undef) rfl (by kernel_rfl) (by kernel_rfl) (by kernel_rfl) (fun _ _ _ h => h) (Or.inr ⟨by rfl, rfl⟩) hH ?_
        simp only [Act.put, List.setIfInBounds_toArray, List.set_cons_zero, List.set_cons_succ]
        refine wpAnyH_take (i := 7) (oi := ⟨_, _, _, _, _, _⟩) (v := undef) rfl (by kernel_rfl) (by kernel_rfl) (by kernel_rfl) (fun _ _ _ h => h) (Or.inr ⟨by rfl, rfl⟩) hH ?_
        simp only [Act.put, List.setIfInBounds_toArray, List.set_cons_zero, List.set_cons_succ]
        refine wpAnyH_take (i := 8) (oi := ⟨_, _, _, _, _, _⟩) (v := undef) rfl (by kernel_rfl) (by kernel_rfl) (by kernel_rfl) (fun _ _ _ h => h) (Or.inr ⟨by rfl, rfl⟩) hH ?_
        simp only [Act.put, List.setIfInBounds_toArray, List.set_cons_zero, List.set_cons_succ]
        refine wpAnyH_take (i := 9) (oi := ⟨_, _, _, _, _, _⟩) (v := .bool false) rfl (by kernel_rfl) (by kernel_rfl) (by kernel_rfl) (fun _ _ _ h => h) (Or.inl ⟨by rfl, fun w' _ => by go_simp⟩) hH ?_
        simp only [Act.put, List.setIfInBounds_toArray, List.set_cons_zero, List.set_cons_succ]
        refine wpAnyH_take (i := 10) (oi := ⟨_, _, _, _, _, _⟩) (v := .string x) rfl (by kernel_rfl) (by kernel_rfl) (by kernel_rfl) (fun _ _ _ h => h) (Or.inl ⟨by rfl, fun w' _ => by go_simp⟩) hH ?_
        simp only [Act.put, List.setIfInBounds_toArray, List.set_cons_zero, List.set_cons_succ]
        refine wpAnyH_take (i := 11) (oi := ⟨_, _, _, _, _, _⟩) (v := .bool false) rfl (by kernel_rfl) (by kernel_rfl) (by kernel_rfl) (fun _ _ _ h => h) (Or.inl ⟨by rfl, fun w' _ => by go_simp⟩) hH ?_
        simp only [Act.put, List.setIfInBounds_toArray, List.set_cons_zero, List.set_cons_succ]
        refine wpAnyH_done (by kernel_rfl) ?_ _
        clear a0 a1 a2 a3 a4
        go_wp2
        go_ret2
        exact ⟨ret_2 rfl rfl, below_stepK HB.out hH⟩
      · rw [o] at cv
        by_cases q : n = 0
        · have E : spl ⟨2, x, n, a, e⟩ = some x := by unfold spl; rw [if_neg (by simp), if_pos rfl]; rw [if_pos ⟨o, q⟩]
          obtain rfl := HR.out.symm.trans E
          have m1 : (n == 0) = true := by simp [q]
          clear E o q HR
          go_upto_region 9 with fail
          refine wp_region_held_drew (S := fun w' => Below W.heap.size W w') (by kernel_rfl) (Below.refl _ _).drew (fun hH => ?_)
          revert hH
          generalize W.drew = V
          intro hH
          refine wpAnyH_take (i := 0) (oi := ⟨_, _, _, _, _, _⟩) (v := .pointer (some ⟨w.heap.size, 1, none⟩)) rfl (by kernel_rfl) (by kernel_rfl) (by kernel_rfl) (fun _ _ _ h => h) (Or.inl ⟨by rfl, fun w' _ => by go_simp⟩) hH ?_
          simp only [Act.put, List.setIfInBounds_toArray, List.set_cons_zero, List.set_cons_succ]
          refine wpAnyH_take (i := 1) (oi := ⟨_, _, _, _, _, _⟩) (v := .string x) rfl (by kernel_rfl) (by kernel_rfl) (by kernel_rfl) (fun _ _ _ h => h) (Or.inl ⟨by rfl, fun w' h => by obtain ⟨p0, p1, p2, p3, p4⟩ := fiveK (Hid.out BT); have z := BlkK.lt (Hid.out BT); have a0 := cell_stepK h z p0; have a1 := cell_stepK h z p1; have a2 := cell_stepK h z p2; have a3 := cell_stepK h z p3; have a4 := cell_stepK h z p4; clear p0 p1 p2 p3 p4; go_simp⟩) hH ?_
          simp only [Act.put, List.setIfInBounds_toArray, List.set_cons_zero, List.set_cons_succ]
          refine wpAnyH_take (i := 2) (oi := ⟨_, _, _, _, _, _⟩) (v := .pointer (some ⟨w.heap.size, 1, none⟩)) rfl (by kernel_rfl) (by kernel_rfl) (by kernel_rfl) (fun _ _ _ h => h) (Or.inl ⟨by rfl, fun w' _ => by go_simp⟩) hH ?_
          simp only [Act.put, List.setIfInBounds_toArray, List.set_cons_zero, List.set_cons_succ]
          refine wpAnyH_take (i := 3) (oi := ⟨_, _, _, _, _, _⟩) (v := .string x) rfl (by kernel_rfl) (by kernel_rfl) (by kernel_rfl) (fun _ _ _ h => h) (Or.inl ⟨by rfl, fun w' h => by obtain ⟨p0, p1, p2, p3, p4⟩ := fiveK (Hid.out BT); have z := BlkK.lt (Hid.out BT); have a0 := cell_stepK h z p0; have a1 := cell_stepK h z p1; have a2 := cell_stepK h z p2; have a3 := cell_stepK h z p3; have a4 := cell_stepK h z p4; clear p0 p1 p2 p3 p4; go_simp⟩) hH ?_
          simp only [Act.put, List.setIfInBounds_toArray, List.set_cons_zero, List.set_cons_succ]
          refine wpAnyH_ready (rs := [4]) (by kernel_rfl) (by simp) ?_
          refine (AllReadyH.cons (o := ⟨_, _, _, _, _, _⟩) rfl (fun K hK => ?_) AllReadyH.nil)
          go_simp
          refine (cv _).mono ?_
          rintro e V1 ⟨rfl, rfl⟩
          refine hK.out _ _ hH (fun hH => ?_)
          clear hK K
          refine wpAnyH_take (i := 5) (oi := ⟨_, _, _, _, _, _⟩) (v := .bool true) rfl (by kernel_rfl) (by kernel_rfl) (by kernel_rfl) (fun _ _ _ h => h) (Or.inl ⟨by rfl, fun w' _ => by go_simp⟩) hH ?_
          simp only [Act.put, List.setIfInBounds_toArray, List.set_cons_zero, List.set_cons_succ]
          refine wpAnyH_take (i := 6) (oi := ⟨_, _, _, _, _, _⟩) (v := .pointer (some ⟨w.heap.size, 2, none⟩)) rfl (by kernel_rfl) (by kernel_rfl) (by kernel_rfl) (fun _ _ _ h => h) (Or.inl ⟨by rfl, fun w' _ => by go_simp⟩) hH ?_
          simp only [Act.put, List.setIfInBounds_toArray, List.set_cons_zero, List.set_cons_succ]
          refine wpAnyH_take (i := 7) (oi := ⟨_, _, _, _, _, _⟩) (v := .int .i64 n) rfl (by kernel_rfl) (by kernel_rfl) (by kernel_rfl) (fun _ _ _ h => h) (Or.inl ⟨by rfl, fun w' h => by obtain ⟨p0, p1, p2, p3, p4⟩ := fiveK (Hid.out BT); have z := BlkK.lt (Hid.out BT); have a0 := cell_stepK h z p0; have a1 := cell_stepK h z p1; have a2 := cell_stepK h z p2; have a3 := cell_stepK h z p3; have a4 := cell_stepK h z p4; clear p0 p1 p2 p3 p4; go_simp⟩) hH ?_
          simp only [Act.put, List.setIfInBounds_toArray, List.set_cons_zero, List.set_cons_succ]
          refine wpAnyH_take (i := 8) (oi := ⟨_, _, _, _, _, _⟩) (v := .bool true) rfl (by kernel_rfl) (by kernel_rfl) (by kernel_rfl) (fun _ _ _ h => h) (Or.inl ⟨by rfl, fun w' _ => by go_simp⟩) hH ?_
          simp only [Act.put, List.setIfInBounds_toArray, List.set_cons_zero, List.set_cons_succ]
          refine wpAnyH_take (i := 9) (oi := ⟨_, _, _, _, _, _⟩) (v := .bool true) rfl (by kernel_rfl) (by kernel_rfl) (by kernel_rfl) (fun _ _ _ h => h) (Or.inl ⟨by rfl, fun w' _ => by go_simp⟩) hH ?_
          simp only [Act.put, List.setIfInBounds_toArray, List.set_cons_zero, List.set_cons_succ]
          refine wpAnyH_take (i := 10) (oi := ⟨_, _, _, _, _, _⟩) (v := .string x) rfl (by kernel_rfl) (by kernel_rfl) (by kernel_rfl) (fun _ _ _ h => h) (Or.inl ⟨by rfl, fun w' _ => by go_simp⟩) hH ?_
          simp only [Act.put, List.setIfInBounds_toArray, List.set_cons_zero, List.set_cons_succ]
          refine wpAnyH_take (i := 11) (oi := ⟨_, _, _, _, _, _⟩) (v := .bool true) rfl (by kernel_rfl) (by kernel_rfl) (by kernel_rfl) (fun _ _ _ h => h) (Or.inl ⟨by rfl, fun w' _ => by go_simp⟩) hH ?_
          simp only [Act.put, List.setIfInBounds_toArray, List.set_cons_zero, List.set_cons_succ]
          refine wpAnyH_done (by kernel_rfl) ?_ _
          clear a0 a1 a2 a3 a4
          go_wp2
          go_ret2
          exact ⟨ret_2 rfl rfl, below_stepK HB.out hH⟩
        · have E : spl ⟨2, x, n, a, e⟩ = none := by unfold spl; rw [if_neg (by simp), if_pos rfl]; rw [if_neg (fun h => q h.2)]
          obtain rfl := HR.out.symm.trans E
          have m1 : (n == 0) = false := beq_eq_false_iff_ne.2 q
          clear E o q HR
          go_upto_region 9 with fail
          refine wp_region_held_drew (S := fun w' => Below W.heap.size W w') (by kernel_rfl) (Below.refl _ _).drew (fun hH => ?_)
          revert hH
          generalize W.drew = V
          intro hH
          refine wpAnyH_take (i := 0) (oi := ⟨_, _, _, _, _, _⟩) (v := .pointer (some ⟨w.heap.size, 1, none⟩)) rfl (by kernel_rfl) (by kernel_rfl) (by kernel_rfl) (fun _ _ _ h => h) (Or.inl ⟨by rfl, fun w' _ => by go_simp⟩) hH ?_
          simp only [Act.put, List.setIfInBounds_toArray, List.set_cons_zero, List.set_cons_succ]
          refine wpAnyH_take (i := 1) (oi := ⟨_, _, _, _, _, _⟩) (v := .string x) rfl (by kernel_rfl) (by kernel_rfl) (by kernel_rfl) (fun _ _ _ h => h) (Or.inl ⟨by rfl, fun w' h => by obtain ⟨p0, p1, p2, p3, p4⟩ := fiveK (Hid.out BT); have z := BlkK.lt (Hid.out BT); have a0 := cell_stepK h z p0; have a1 := cell_stepK h z p1; have a2 := cell_stepK h z p2; have a3 := cell_stepK h z p3; have a4 := cell_stepK h z p4; clear p0 p1 p2 p3 p4; go_simp⟩) hH ?_
          simp only [Act.put, List.setIfInBounds_toArray, List.set_cons_zero, List.set_cons_succ]
          refine wpAnyH_take (i := 2) (oi := ⟨_, _, _, _, _, _⟩) (v := .pointer (some ⟨w.heap.size, 1, none⟩)) rfl (by kernel_rfl) (by kernel_rfl) (by kernel_rfl) (fun _ _ _ h => h) (Or.inl ⟨by rfl, fun w' _ => by go_simp⟩) hH ?_
          simp only [Act.put, List.setIfInBounds_toArray, List.set_cons_zero, List.set_cons_succ]
          refine wpAnyH_take (i := 3) (oi := ⟨_, _, _, _, _, _⟩) (v := .string x) rfl (by kernel_rfl) (by kernel_rfl) (by kernel_rfl) (fun _ _ _ h => h) (Or.inl ⟨by rfl, fun w' h => by obtain ⟨p0, p1, p2, p3, p4⟩ := fiveK (Hid.out BT); have z := BlkK.lt (Hid.out BT); have a0 := cell_stepK h z p0; have a1 := cell_stepK h z p1; have a2 := cell_stepK h z p2; have a3 := cell_stepK h z p3; have a4 := cell_stepK h z p4; clear p0 p1 p2 p3 p4; go_simp⟩) hH ?_
          simp only [Act.put, List.setIfInBounds_toArray, List.set_cons_zero, List.set_cons_succ]
          refine wpAnyH_ready (rs := [4]) (by kernel_rfl) (by simp) ?_
          refine (AllReadyH.cons (o := ⟨_, _, _, _, _, _⟩) rfl (fun K hK => ?_) AllReadyH.nil)
          go_simp
          refine (cv _).mono ?_
          rintro e V1 ⟨rfl, rfl⟩
          refine hK.out _ _ hH (fun hH => ?_)
          clear hK K
          refine wpAnyH_take (i := 5) (oi := ⟨_, _, _, _, _, _⟩) (v := .bool true) rfl (by kernel_rfl) (by kernel_rfl) (by kernel_rfl) (fun _ _ _ h => h) (Or.inl ⟨by rfl, fun w' _ => by go_simp⟩) hH ?_
          simp only [Act.put, List.setIfInBounds_toArray, List.set_cons_zero, List.set_cons_succ]
          refine wpAnyH_take (i := 6) (oi := ⟨_, _, _, _, _, _⟩) (v := .pointer (some ⟨w.heap.size, 2, none⟩)) rfl (by kernel_rfl) (by kernel_rfl) (by kernel_rfl) (fun _ _ _ h => h) (Or.inl ⟨by rfl, fun w' _ => by go_simp⟩) hH ?_
          simp only [Act.put, List.setIfInBounds_toArray, List.set_cons_zero, List.set_cons_succ]
          refine wpAnyH_take (i := 7) (oi := ⟨_, _, _, _, _, _⟩) (v := .int .i64 n) rfl (by kernel_rfl) (by kernel_rfl) (by kernel_rfl) (fun _ _ _ h => h) (Or.inl ⟨by rfl, fun w' h => by obtain ⟨p0, p1, p2, p3, p4⟩ := fiveK (Hid.out BT); have z := BlkK.lt (Hid.out BT); have a0 := cell_stepK h z p0; have a1 := cell_stepK h z p1; have a2 := cell_stepK h z p2; have a3 := cell_stepK h z p3; have a4 := cell_stepK h z p4; clear p0 p1 p2 p3 p4; go_simp⟩) hH ?_
          simp only [Act.put, List.setIfInBounds_toArray, List.set_cons_zero, List.set_cons_succ]
          refine wpAnyH_take (i := 8) (oi := ⟨_, _, _, _, _, _⟩) (v := .bool false) rfl (by kernel_rfl) (by kernel_rfl) (by kernel_rfl) (fun _ _ _ h => h) (Or.inl ⟨by rfl, fun w' _ => by go_simp⟩) hH ?_
          simp only [Act.put, List.setIfInBounds_toArray, List.set_cons_zero, List.set_cons_succ]
          refine wpAnyH_take (i := 9) (oi := ⟨_, _, _, _, _, _⟩) (v := .bool false) rfl (by kernel_rfl) (by kernel_rfl) (by kernel_rfl) (fun _ _ _ h => h) (Or.inl ⟨by rfl, fun w' _ => by go_simp⟩) hH ?_
          simp only [Act.put, List.setIfInBounds_toArray, List.set_cons_zero, List.set_cons_succ]
          refine wpAnyH_take (i := 10) (oi := ⟨_, _, _, _, _, _⟩) (v := .string x) rfl (by kernel_rfl) (by kernel_rfl) (by kernel_rfl) (fun _ _ _ h => h) (Or.inl ⟨by rfl, fun w' _ => by go_simp⟩) hH ?_
          simp only [Act.put, List.setIfInBounds_toArray, List.set_cons_zero, List.set_cons_succ]
          refine wpAnyH_take (i := 11) (oi := ⟨_, _, _, _, _, _⟩) (v := .bool false) rfl (by kernel_rfl) (by kernel_rfl) (by kernel_rfl) (fun _ _ _ h => h) (Or.inl ⟨by rfl, fun w' _ => by go_simp⟩) hH ?_
          simp only [Act.put, List.setIfInBounds_toArray, List.set_cons_zero, List.set_cons_succ]
          refine wpAnyH_done (by kernel_rfl) ?_ _
          clear a0 a1 a2 a3 a4
          go_wp2
          go_ret2
          exact ⟨ret_2 rfl rfl, below_stepK HB.out hH⟩
    · have n2 : (k == 2) = false := beq_eq_false_iff_ne.2 q2
      by_cases q3 : k = 3
      · subst q3
        clear q1 q2 n1 n2
        obtain ⟨Q, hQ⟩ : ∃ Q, qtB x = Q := ⟨_, rfl⟩
        rw [hQ] at cq
        by_cases q : n = 0
        · have E : spl ⟨3, x, n, a, e⟩ = some Q := by unfold spl; rw [if_neg (by simp), if_neg (by simp), if_pos rfl, if_pos q, hQ]
          obtain rfl := HR.out.symm.trans E
          have m1 : (n == 0) = true := by simp [q]
          clear E q HR
          clear hQ
          go_upto_region 11 with fail
          refine wp_region_held_drew (S := fun w' => Below W.heap.size W w') (by kernel_rfl) (Below.refl _ _).drew (fun hH => ?_)
          revert hH
          generalize W.drew = V
          intro hH
          refine wpAnyH_take (i := 0) (oi := ⟨_, _, _, _, _, _⟩) (v := .pointer (some ⟨w.heap.size, 1, none⟩)) rfl (by kernel_rfl) (by kernel_rfl) (by kernel_rfl) (fun _ _ _ h => h) (Or.inl ⟨by rfl, fun w' _ => by go_simp⟩) hH ?_
          simp only [Act.put, List.setIfInBounds_toArray, List.set_cons_zero, List.set_cons_succ]
          refine wpAnyH_take (i := 1) (oi := ⟨_, _, _, _, _, _⟩) (v := .string x) rfl (by kernel_rfl) (by kernel_rfl) (by kernel_rfl) (fun _ _ _ h => h) (Or.inl ⟨by rfl, fun w' h => by obtain ⟨p0, p1, p2, p3, p4⟩ := fiveK (Hid.out BT); have z := BlkK.lt (Hid.out BT); have a0 := cell_stepK h z p0; have a1 := cell_stepK h z p1; have a2 := cell_stepK h z p2; have a3 := cell_stepK h z p3; have a4 := cell_stepK h z p4; clear p0 p1 p2 p3 p4; go_simp⟩) hH ?_
          simp only [Act.put, List.setIfInBounds_toArray, List.set_cons_zero, List.set_cons_succ]
          refine wpAnyH_take (i := 3) (oi := ⟨_, _, _, _, _, _⟩) (v := .pointer (some ⟨w.heap.size, 2, none⟩)) rfl (by kernel_rfl) (by kernel_rfl) (by kernel_rfl) (fun _ _ _ h => h) (Or.inl ⟨by rfl, fun w' _ => by go_simp⟩) hH ?_
          simp only [Act.put, List.setIfInBounds_toArray, List.set_cons_zero, List.set_cons_succ]
          refine wpAnyH_take (i := 4) (oi := ⟨_, _, _, _, _, _⟩) (v := .int .i64 n) rfl (by kernel_rfl) (by kernel_rfl) (by kernel_rfl) (fun _ _ _ h => h) (Or.inl ⟨by rfl, fun w' h => by obtain ⟨p0, p1, p2, p3, p4⟩ := fiveK (Hid.out BT); have z := BlkK.lt (Hid.out BT); have a0 := cell_stepK h z p0; have a1 := cell_stepK h z p1; have a2 := cell_stepK h z p2; have a3 := cell_stepK h z p3; have a4 := cell_stepK h z p4; clear p0 p1 p2 p3 p4; go_simp⟩) hH ?_
          simp only [Act.put, List.setIfInBounds_toArray, List.set_cons_zero, List.set_cons_succ]
          refine wpAnyH_take (i := 5) (oi := ⟨_, _, _, _, _, _⟩) (v := .bool true) rfl (by kernel_rfl) (by kernel_rfl) (by kernel_rfl) (fun _ _ _ h => h) (Or.inl ⟨by rfl, fun w' _ => by go_simp⟩) hH ?_
          simp only [Act.put, List.setIfInBounds_toArray, List.set_cons_zero, List.set_cons_succ]
          refine wpAnyH_ready (rs := [2]) (by kernel_rfl) (by simp) ?_
          refine (AllReadyH.cons (o := ⟨_, _, _, _, _, _⟩) rfl (fun K hK => ?_) AllReadyH.nil)
          go_simp
          refine (cq _).mono ?_
          rintro e V1 ⟨rfl, hb⟩
          refine hK.out _ _ (below_stepK hH hb) (fun hH => ?_)
          clear hK K
          refine wpAnyH_take (i := 6) (oi := ⟨_, _, _, _, _, _⟩) (v := .string Q) rfl (by kernel_rfl) (by kernel_rfl) (by kernel_rfl) (fun _ _ _ h => h) (Or.inl ⟨by rfl, fun w' _ => by go_simp⟩) hH ?_
          simp only [Act.put, List.setIfInBounds_toArray, List.set_cons_zero, List.set_cons_succ]
          refine wpAnyH_take (i := 7) (oi := ⟨_, _, _, _, _, _⟩) (v := .bool true) rfl (by kernel_rfl) (by kernel_rfl) (by kernel_rfl) (fun _ _ _ h => h) (Or.inl ⟨by rfl, fun w' _ => by go_simp⟩) hH ?_
          simp only [Act.put, List.setIfInBounds_toArray, List.set_cons_zero, List.set_cons_succ]
          refine wpAnyH_done (by kernel_rfl) ?_ _
          clear a0 a1 a2 a3 a4
          go_wp2
          go_ret2
          exact ⟨ret_2 rfl rfl, below_stepK HB.out hH⟩
        · have E : spl ⟨3, x, n, a, e⟩ = none := by unfold spl; rw [if_neg (by simp), if_neg (by simp), if_pos rfl, if_neg q]
          obtain rfl := HR.out.symm.trans E
          have m1 : (n == 0) = false := beq_eq_false_iff_ne.2 q
          clear E q HR
          clear hQ
          go_upto_region 11 with fail
          refine wp_region_held_drew (S := fun w' => Below W.heap.size W w') (by kernel_rfl) (Below.refl _ _).drew (fun hH => ?_)
          revert hH
          generalize W.drew = V
          intro hH
          refine wpAnyH_take (i := 0) (oi := ⟨_, _, _, _, _, _⟩) (v := .pointer (some ⟨w.heap.size, 1, none⟩)) rfl (by kernel_rfl) (by kernel_rfl) (by kernel_rfl) (fun _ _ _ h => h) (Or.inl ⟨by rfl, fun w' _ => by go_simp⟩) hH ?_
          simp only [Act.put, List.setIfInBounds_toArray, List.set_cons_zero, List.set_cons_succ]
          refine wpAnyH_take (i := 1) (oi := ⟨_, _, _, _, _, _⟩) (v := .string x) rfl (by kernel_rfl) (by kernel_rfl) (by kernel_rfl) (fun _ _ _ h => h) (Or.inl ⟨by rfl, fun w' h => by obtain ⟨p0, p1, p2, p3, p4⟩ := fiveK (Hid.out BT); have z := BlkK.lt (Hid.out BT); have a0 := cell_stepK h z p0; have a1 := cell_stepK h z p1; have a2 := cell_stepK h z p2; have a3 := cell_stepK h z p3; have a4 := cell_stepK h z p4; clear p0 p1 p2 p3 p4; go_simp⟩) hH ?_
          simp only [Act.put, List.setIfInBounds_toArray, List.set_cons_zero, List.set_cons_succ]
          refine wpAnyH_take (i := 3) (oi := ⟨_, _, _, _, _, _⟩) (v := .pointer (some ⟨w.heap.size, 2, none⟩)) rfl (by kernel_rfl) (by kernel_rfl) (by kernel_rfl) (fun _ _ _ h => h) (Or.inl ⟨by rfl, fun w' _ => by go_simp⟩) hH ?_
          simp only [Act.put, List.setIfInBounds_toArray, List.set_cons_zero, List.set_cons_succ]
          refine wpAnyH_take (i := 4) (oi := ⟨_, _, _, _, _, _⟩) (v := .int .i64 n) rfl (by kernel_rfl) (by kernel_rfl) (by kernel_rfl) (fun _ _ _ h => h) (Or.inl ⟨by rfl, fun w' h => by obtain ⟨p0, p1, p2, p3, p4⟩ := fiveK (Hid.out BT); have z := BlkK.lt (Hid.out BT); have a0 := cell_stepK h z p0; have a1 := cell_stepK h z p1; have a2 := cell_stepK h z p2; have a3 := cell_stepK h z p3; have a4 := cell_stepK h z p4; clear p0 p1 p2 p3 p4; go_simp⟩) hH ?_
          simp only [Act.put, List.setIfInBounds_toArray, List.set_cons_zero, List.set_cons_succ]
          refine wpAnyH_take (i := 5) (oi := ⟨_, _, _, _, _, _⟩) (v := .bool false) rfl (by kernel_rfl) (by kernel_rfl) (by kernel_rfl) (fun _ _ _ h => h) (Or.inl ⟨by rfl, fun w' _ => by go_simp⟩) hH ?_
          simp only [Act.put, List.setIfInBounds_toArray, List.set_cons_zero, List.set_cons_succ]
          refine wpAnyH_ready (rs := [2]) (by kernel_rfl) (by simp) ?_
          refine (AllReadyH.cons (o := ⟨_, _, _, _, _, _⟩) rfl (fun K hK => ?_) AllReadyH.nil)
          go_simp
          refine (cq _).mono ?_
          rintro e V1 ⟨rfl, hb⟩
          refine hK.out _ _ (below_stepK hH hb) (fun hH => ?_)
          clear hK K
          refine wpAnyH_take (i := 6) (oi := ⟨_, _, _, _, _, _⟩) (v := .string Q) rfl (by kernel_rfl) (by kernel_rfl) (by kernel_rfl) (fun _ _ _ h => h) (Or.inl ⟨by rfl, fun w' _ => by go_simp⟩) hH ?_
          simp only [Act.put, List.setIfInBounds_toArray, List.set_cons_zero, List.set_cons_succ]
          refine wpAnyH_take (i := 7) (oi := ⟨_, _, _, _, _, _⟩) (v := .bool false) rfl (by kernel_rfl) (by kernel_rfl) (by kernel_rfl) (fun _ _ _ h => h) (Or.inl ⟨by rfl, fun w' _ => by go_simp⟩) hH ?_
          simp only [Act.put, List.setIfInBounds_toArray, List.set_cons_zero, List.set_cons_succ]
          refine wpAnyH_done (by kernel_rfl) ?_ _
          clear a0 a1 a2 a3 a4
          go_wp2
          go_ret2
          exact ⟨ret_2 rfl rfl, below_stepK HB.out hH⟩
      · have n3 : (k == 3) = false := beq_eq_false_iff_ne.2 q3
        by_cases q4 : k = 4
        · subst q4
          clear q1 q2 q3 n1 n2 n3
          obtain ⟨Q, HQ⟩ : ∃ Q, itB n = Q := ⟨_, rfl⟩
          have HQ2 : (⟨(Lib.itoa n).toArray⟩ : ByteArray) = Q := HQ
          simp only [HQ2] at ci
          clear HQ2
          by_cases q : x = ⟨#[]⟩
          · have E : spl ⟨4, x, n, a, e⟩ = some Q := by unfold spl; rw [if_neg (by simp), if_neg (by simp), if_neg (by simp), if_pos rfl, if_pos q, HQ]
            obtain rfl := HR.out.symm.trans E
            have m1 : x.toList = [] := by rw [q]; exact emptyL
            clear E q HQ HR
            go_upto_region 13 with fail
            refine wp_region_held_drew (S := fun w' => Below W.heap.size W w') (by kernel_rfl) (Below.refl _ _).drew (fun hH => ?_)
            revert hH
            generalize W.drew = V
            intro hH
            refine wpAnyH_take (i := 0) (oi := ⟨_, _, _, _, _, _⟩) (v := .pointer (some ⟨w.heap.size, 2, none⟩)) rfl (by kernel_rfl) (by kernel_rfl) (by kernel_rfl) (fun _ _ _ h => h) (Or.inl ⟨by rfl, fun w' _ => by go_simp⟩) hH ?_
            simp only [Act.put, List.setIfInBounds_toArray, List.set_cons_zero, List.set_cons_succ]
            refine wpAnyH_take (i := 1) (oi := ⟨_, _, _, _, _, _⟩) (v := .int .i64 n) rfl (by kernel_rfl) (by kernel_rfl) (by kernel_rfl) (fun _ _ _ h => h) (Or.inl ⟨by rfl, fun w' h => by obtain ⟨p0, p1, p2, p3, p4⟩ := fiveK (Hid.out BT); have z := BlkK.lt (Hid.out BT); have a0 := cell_stepK h z p0; have a1 := cell_stepK h z p1; have a2 := cell_stepK h z p2; have a3 := cell_stepK h z p3; have a4 := cell_stepK h z p4; clear p0 p1 p2 p3 p4; go_simp⟩) hH ?_
            simp only [Act.put, List.setIfInBounds_toArray, List.set_cons_zero, List.set_cons_succ]
            refine wpAnyH_take (i := 3) (oi := ⟨_, _, _, _, _, _⟩) (v := .pointer (some ⟨w.heap.size, 1, none⟩)) rfl (by kernel_rfl) (by kernel_rfl) (by kernel_rfl) (fun _ _ _ h => h) (Or.inl ⟨by rfl, fun w' _ => by go_simp⟩) hH ?_
            simp only [Act.put, List.setIfInBounds_toArray, List.set_cons_zero, List.set_cons_succ]
            refine wpAnyH_take (i := 4) (oi := ⟨_, _, _, _, _, _⟩) (v := .string x) rfl (by kernel_rfl) (by kernel_rfl) (by kernel_rfl) (fun _ _ _ h => h) (Or.inl ⟨by rfl, fun w' h => by obtain ⟨p0, p1, p2, p3, p4⟩ := fiveK (Hid.out BT); have z := BlkK.lt (Hid.out BT); have a0 := cell_stepK h z p0; have a1 := cell_stepK h z p1; have a2 := cell_stepK h z p2; have a3 := cell_stepK h z p3; have a4 := cell_stepK h z p4; clear p0 p1 p2 p3 p4; go_simp⟩) hH ?_
            simp only [Act.put, List.setIfInBounds_toArray, List.set_cons_zero, List.set_cons_succ]
            refine wpAnyH_take (i := 5) (oi := ⟨_, _, _, _, _, _⟩) (v := .bool true) rfl (by kernel_rfl) (by kernel_rfl) (by kernel_rfl) (fun _ _ _ h => h) (Or.inl ⟨by rfl, fun w' _ => by go_simp⟩) hH ?_
            simp only [Act.put, List.setIfInBounds_toArray, List.set_cons_zero, List.set_cons_succ]
            refine wpAnyH_ready (rs := [2]) (by kernel_rfl) (by simp) ?_
            refine (AllReadyH.cons (o := ⟨_, _, _, _, _, _⟩) rfl (fun K hK => ?_) AllReadyH.nil)
            go_simp
            refine (ci _ (HEW.out.later hH)).mono ?_
            rintro e V1 ⟨rfl, hb⟩
            refine hK.out _ _ (below_stepK hH hb) (fun hH => ?_)
            clear hK K
            refine wpAnyH_take (i := 6) (oi := ⟨_, _, _, _, _, _⟩) (v := .string Q) rfl (by kernel_rfl) (by kernel_rfl) (by kernel_rfl) (fun _ _ _ h => h) (Or.inl ⟨by rfl, fun w' _ => by go_simp⟩) hH ?_
            simp only [Act.put, List.setIfInBounds_toArray, List.set_cons_zero, List.set_cons_succ]
            refine wpAnyH_take (i := 7) (oi := ⟨_, _, _, _, _, _⟩) (v := .bool true) rfl (by kernel_rfl) (by kernel_rfl) (by kernel_rfl) (fun _ _ _ h => h) (Or.inl ⟨by rfl, fun w' _ => by go_simp⟩) hH ?_
            simp only [Act.put, List.setIfInBounds_toArray, List.set_cons_zero, List.set_cons_succ]
            refine wpAnyH_done (by kernel_rfl) ?_ _
            clear a0 a1 a2 a3 a4
            go_wp2
            go_ret2
            exact ⟨ret_2 rfl rfl, below_stepK HB.out hH⟩
          · have E : spl ⟨4, x, n, a, e⟩ = none := by unfold spl; rw [if_neg (by simp), if_neg (by simp), if_neg (by simp), if_pos rfl, if_neg q]
            obtain rfl := HR.out.symm.trans E
            have m1 : ¬ x.toList = [] := fun h => q (toList_injK (h.trans emptyL.symm))
            clear E q HQ HR
            go_upto_region 13 with fail
            refine wp_region_held_drew (S := fun w' => Below W.heap.size W w') (by kernel_rfl) (Below.refl _ _).drew (fun hH => ?_)
            revert hH
            generalize W.drew = V
            intro hH
            refine wpAnyH_take (i := 0) (oi := ⟨_, _, _, _, _, _⟩) (v := .pointer (some ⟨w.heap.size, 2, none⟩)) rfl (by kernel_rfl) (by kernel_rfl) (by kernel_rfl) (fun _ _ _ h => h) (Or.inl ⟨by rfl, fun w' _ => by go_simp⟩) hH ?_
            simp only [Act.put, List.setIfInBounds_toArray, List.set_cons_zero, List.set_cons_succ]
            refine wpAnyH_take (i := 1) (oi := ⟨_, _, _, _, _, _⟩) (v := .int .i64 n) rfl (by kernel_rfl) (by kernel_rfl) (by kernel_rfl) (fun _ _ _ h => h) (Or.inl ⟨by rfl, fun w' h => by obtain ⟨p0, p1, p2, p3, p4⟩ := fiveK (Hid.out BT); have z := BlkK.lt (Hid.out BT); have a0 := cell_stepK h z p0; have a1 := cell_stepK h z p1; have a2 := cell_stepK h z p2; have a3 := cell_stepK h z p3; have a4 := cell_stepK h z p4; clear p0 p1 p2 p3 p4; go_simp⟩) hH ?_
            simp only [Act.put, List.setIfInBounds_toArray, List.set_cons_zero, List.set_cons_succ]
            refine wpAnyH_take (i := 3) (oi := ⟨_, _, _, _, _, _⟩) (v := .pointer (some ⟨w.heap.size, 1, none⟩)) rfl (by kernel_rfl) (by kernel_rfl) (by kernel_rfl) (fun _ _ _ h => h) (Or.inl ⟨by rfl, fun w' _ => by go_simp⟩) hH ?_
            simp only [Act.put, List.setIfInBounds_toArray, List.set_cons_zero, List.set_cons_succ]
            refine wpAnyH_take (i := 4) (oi := ⟨_, _, _, _, _, _⟩) (v := .string x) rfl (by kernel_rfl) (by kernel_rfl) (by kernel_rfl) (fun _ _ _ h => h) (Or.inl ⟨by rfl, fun w' h => by obtain ⟨p0, p1, p2, p3, p4⟩ := fiveK (Hid.out BT); have z := BlkK.lt (Hid.out BT); have a0 := cell_stepK h z p0; have a1 := cell_stepK h z p1; have a2 := cell_stepK h z p2; have a3 := cell_stepK h z p3; have a4 := cell_stepK h z p4; clear p0 p1 p2 p3 p4; go_simp⟩) hH ?_
            simp only [Act.put, List.setIfInBounds_toArray, List.set_cons_zero, List.set_cons_succ]
            refine wpAnyH_take (i := 5) (oi := ⟨_, _, _, _, _, _⟩) (v := .bool false) rfl (by kernel_rfl) (by kernel_rfl) (by kernel_rfl) (fun _ _ _ h => h) (Or.inl ⟨by rfl, fun w' _ => by go_simp⟩) hH ?_
            simp only [Act.put, List.setIfInBounds_toArray, List.set_cons_zero, List.set_cons_succ]
            refine wpAnyH_ready (rs := [2]) (by kernel_rfl) (by simp) ?_
            refine (AllReadyH.cons (o := ⟨_, _, _, _, _, _⟩) rfl (fun K hK => ?_) AllReadyH.nil)
            go_simp
            refine (ci _ (HEW.out.later hH)).mono ?_
            rintro e V1 ⟨rfl, hb⟩
            refine hK.out _ _ (below_stepK hH hb) (fun hH => ?_)
            clear hK K
            refine wpAnyH_take (i := 6) (oi := ⟨_, _, _, _, _, _⟩) (v := .string Q) rfl (by kernel_rfl) (by kernel_rfl) (by kernel_rfl) (fun _ _ _ h => h) (Or.inl ⟨by rfl, fun w' _ => by go_simp⟩) hH ?_
            simp only [Act.put, List.setIfInBounds_toArray, List.set_cons_zero, List.set_cons_succ]
            refine wpAnyH_take (i := 7) (oi := ⟨_, _, _, _, _, _⟩) (v := .bool false) rfl (by kernel_rfl) (by kernel_rfl) (by kernel_rfl) (fun _ _ _ h => h) (Or.inl ⟨by rfl, fun w' _ => by go_simp⟩) hH ?_
            simp only [Act.put, List.setIfInBounds_toArray, List.set_cons_zero, List.set_cons_succ]
            refine wpAnyH_done (by kernel_rfl) ?_ _
            clear a0 a1 a2 a3 a4
            go_wp2
            go_ret2
            exact ⟨ret_2 rfl rfl, below_stepK HB.out hH⟩
        · have n4 : (k == 4) = false := beq_eq_false_iff_ne.2 q4
          have E : spl ⟨k, x, n, a, e⟩ = if ¬ sgo k = ⟨#[]⟩ ∧ x = ⟨#[]⟩ ∧ n = 0 then some (sgo k) else none := by unfold spl; rw [if_neg q1, if_neg q2, if_neg q3, if_neg q4]
          have E2 := HR.out.symm.trans E
          clear HR E
          generalize sgo k = G at *
          clear q1 q2 q3 q4
          by_cases s1 : G = ⟨#[]⟩
          · rw [if_neg (fun h => h.1 s1)] at E2
            subst E2
            have m1 : G.toList = [] := by rw [s1]; exact emptyL
            have mE : G.toList.isEmpty = true := by rw [isEK]; exact decide_eq_true s1
            clear s1
            go_wp2_with (go_at_call 79; refine (co _ HEW.out.signs).mono ?_; rintro e w1 ⟨rfl, rfl⟩)
            go_ret2
            exact ⟨ret_2 rfl rfl, HB.out⟩
          · have m1 : ¬ G.toList = [] := fun h => s1 (toList_injK (h.trans emptyL.symm))
            have mE : G.toList.isEmpty = false := by rw [isEK]; exact decide_eq_false s1
            by_cases s2 : x = ⟨#[]⟩
            · have m2 : x.toList = [] := by rw [s2]; exact emptyL
              by_cases s3 : n = 0
              · rw [if_pos ⟨s1, s2, s3⟩] at E2
                subst E2
                have m3 : (n == 0) = true := by simp [s3]
                clear s1 s2 s3
                go_wp2_with (go_at_call 79; refine (co _ HEW.out.signs).mono ?_; rintro e w1 ⟨rfl, rfl⟩)
                go_ret2
                exact ⟨ret_2 rfl rfl, HB.out⟩
              · rw [if_neg (fun h => s3 h.2.2)] at E2
                subst E2
                have m3 : (n == 0) = false := beq_eq_false_iff_ne.2 s3
                clear s1 s2 s3
                go_wp2_with (go_at_call 79; refine (co _ HEW.out.signs).mono ?_; rintro e w1 ⟨rfl, rfl⟩)
                go_ret2
                exact ⟨ret_2 rfl rfl, HB.out⟩
            · rw [if_neg (fun h => s2 h.2.1)] at E2
              subst E2
              have m2 : ¬ x.toList = [] := fun h => s2 (toList_injK (h.trans emptyL.symm))
              clear s1 s2
              go_wp2_with (go_at_call 79; refine (co _ HEW.out.signs).mono ?_; rintro e w1 ⟨rfl, rfl⟩)
              go_ret2
              exact ⟨ret_2 rfl rfl, HB.out⟩
end Go.Proofs.YtcpjiahdaplhlaaGreatDoor
