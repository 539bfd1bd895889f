/-
  ref's decimal.
-/
import Derived.Test.YtekjicklbgpdcabDoorKR5
import Derived.Test.YtekjicklbgpdcabDoorK18
import Derived.Deep.RegionWith
namespace Go.Proofs.YtekjicklbgpdcabDoor
open Go.RowKit

theorem conv_one (W : World) (c : Int) (h0 : 0 ≤ c) (h1 : c ≤ 255) : (convert 50 9 (.slice (some ⟨W.heap.size, 0, none⟩) 1 1)).run Tryd.prog (W.alloc (.cells #[.int .u8 c] 5)) = .ok (.string (ofL [c])) (W.alloc (.cells #[.int .u8 c] 5)) :=
  conv_bytes (OwnB.lit W [c] (by simp)) (by simp) (fun x hx => by simp at hx; omega)
theorem itB_small (n : Nat) (h : n < 10) : itB (n : Int) = ofL [48 + (n : Int)] := by
  rw [← ofL_bl (itB (n : Int)), bl_pos, dcs_small h]
theorem itB_big (n : Nat) (h : ¬ n < 10) : itB ((n / 10 : Nat) : Int) ++ ofL [48 + ((n % 10 : Nat) : Int)] = itB (n : Int) := by
  rw [← ofL_bl (itB (n : Int)), bl_pos, dcs_big h, ← bl_pos, ← ofL_bl (_ ++ _), bl_append, bl_ofL (fun x hx => by simp at hx; omega)]
theorem itB_neg (n : Nat) (h : 1 ≤ n) : (⟨#[45]⟩ : ByteArray) ++ itB (n : Int) = itB (-(n : Int)) := by
  rw [← ofL_bl (itB (-(n : Int))), bl_neg n h, ← bl_pos, ← ofL_bl (_ ++ _), bl_append]; rfl
theorem itB_size (n : Int) (h0 : -9223372036854775808 ≤ n) (h1 : n ≤ 9223372036854775807) : (itB n).size ≤ 21 := by
  have hi := Lib.itoa_length_le n h0 h1
  have e : (itB n).size = (Lib.itoa n).length := by show (Lib.itoa n).toArray.size = _; simp
  rw [e]; exact hi
theorem itB_min : itB (-9223372036854775808) = ⟨#[45, 57, 50, 50, 51, 51, 55, 50, 48, 51, 54, 56, 53, 52, 55, 55, 53, 56, 48, 56]⟩ := by
  have h1 := (canon 18 [57, 50, 50, 51, 51, 55, 50, 48, 51, 54, 56, 53, 52, 55, 55, 53, 56, 48, 56] rfl (by decide) (by decide)).1
  have h2 : dv [57, 50, 50, 51, 51, 55, 50, 48, 51, 54, 56, 53, 52, 55, 55, 53, 56, 48, 56] 0 = 9223372036854775808 := by decide
  rw [h2] at h1
  have h3 := bl_neg 9223372036854775808 (by omega)
  rw [h1] at h3
  rw [← ofL_bl (itB (-9223372036854775808))]
  have h4 : bl (itB (-9223372036854775808)) = 45 :: [57, 50, 50, 51, 51, 55, 50, 48, 51, 54, 56, 53, 52, 55, 55, 53, 56, 48, 56] := h3
  rw [h4]; rfl
set_option maxRecDepth 20000 in
set_option maxHeartbeats 2000000 in
theorem qdec_pos : ∀ (f n : Nat), n < f → n < 9223372036854775808 → ∀ (w : World), Calls Tryd.prog 49 #[.int .i64 (n : Int)] w fun e w' => e = .returned (.string (itB (n : Int))) ∧ Below w.heap.size w w'
  | 0, n, h, _, _ => by omega
  | f + 1, n, h, hb, w => by
    have c1 := conv_one
    have i0 : ¬ (n : Int) < 0 := by omega
    by_cases q : n < 10
    · have i1 : (n : Int) < 10 := by omega
      have HI : Hid (itB (n : Int) = ofL [48 + (n : Int)]) := itB_small n q
      have hw1 : IntKind.i64.wrap (48 + (n : Int)) = 48 + (n : Int) := by rw [IntKind.wrap_i64]; omega
      have hw2 : IntKind.u8.wrap (48 + (n : Int)) = 48 + (n : Int) := by rw [IntKind.wrap_u8]; omega
      have c2 := fun W => c1 W (48 + (n : Int)) (by omega) (by omega)
      rw [HI.out]
      clear c1 q
      go_enter Tryd.func49, Tryd.ntmps49
      go_wp2
      go_ret
      exact ⟨rfl, below1 _ _⟩
    · have i1 : ¬ (n : Int) < 10 := by omega
      have ih := qdec_pos f (n / 10) (by omega) (by omega)
      have HI : Hid (itB ((n / 10 : Nat) : Int) ++ ofL [48 + ((n % 10 : Nat) : Int)] = itB (n : Int)) := itB_big n q
      have hq : Int.tdiv (n : Int) 10 = ((n / 10 : Nat) : Int) := by rw [Int.tdiv_eq_ediv_of_nonneg (by omega)]; omega
      have hr : Int.tmod (n : Int) 10 = ((n % 10 : Nat) : Int) := by rw [Int.tmod_eq_emod_of_nonneg (by omega)]; omega
      have hw0 : IntKind.i64.wrap ((n / 10 : Nat) : Int) = ((n / 10 : Nat) : Int) := by rw [IntKind.wrap_i64]; omega
      have hw1 : IntKind.i64.wrap ((n % 10 : Nat) : Int) = ((n % 10 : Nat) : Int) := by rw [IntKind.wrap_i64]; omega
      have hw2 : IntKind.i64.wrap (48 + ((n % 10 : Nat) : Int)) = 48 + ((n % 10 : Nat) : Int) := by rw [IntKind.wrap_i64]; omega
      have hw3 : IntKind.u8.wrap (48 + ((n % 10 : Nat) : Int)) = 48 + ((n % 10 : Nat) : Int) := by rw [IntKind.wrap_u8]; omega
      have c2 := fun W => c1 W (48 + ((n % 10 : Nat) : Int)) (by omega) (by omega)
      obtain ⟨Q, hQ⟩ : ∃ Q : Int, ((n / 10 : Nat) : Int) = Q := ⟨_, rfl⟩
      obtain ⟨M, hM⟩ : ∃ M : Int, ((n % 10 : Nat) : Int) = M := ⟨_, rfl⟩
      obtain ⟨I, hI⟩ : ∃ I, itB (n : Int) = I := ⟨_, rfl⟩
      rw [hQ] at ih HI hq hw0
      rw [hM] at HI hr hw1 hw2 hw3 c2
      rw [hI] at HI ⊢
      have c3 : ∀ V V2 : World, Below (V.alloc (.cells #[.int .u8 (48 + M)] 5)).heap.size (V.alloc (.cells #[.int .u8 (48 + M)] 5)) V2 → (convert 50 9 (.slice (some ⟨V.heap.size, 0, none⟩) 1 1)).run Tryd.prog V2 = .ok (.string (ofL [48 + M])) V2 := fun V V2 hb => conv_bytes ((OwnB.lit V [48 + M] (by simp)).later hb) (by simp) (fun x hx => by simp at hx; omega)
      have hJL : (itB Q).size + (ofL [48 + M]).size ≤ 9223372036854775807 := by
        have h1 := itB_size Q (by omega) (by omega)
        rw [ofL_size]; simp only [List.length_cons, List.length_nil]; omega
      obtain ⟨J, hJ⟩ : ∃ J, itB Q = J := ⟨_, rfl⟩
      obtain ⟨L, hL⟩ : ∃ L, ofL [48 + M] = L := ⟨_, rfl⟩
      rw [hJ] at HI ih hJL
      rw [hL] at HI hJL
      simp only [hL] at c2 c3
      clear c1 q hQ hM hI hJ hL
      go_enter Tryd.func49, Tryd.ntmps49
      go_upto_region 7 with fail
      refine wp_region_held_drew (S := fun w' => Below w.heap.size w w') (by kernel_rfl) (Below.refl _ _).drew (fun hH => ?_)
      revert hH
      generalize w.drew = V
      intro hH
      refine wpAnyH_take (i := 0) (oi := ⟨_, _, _, _, _, _⟩) (v := .int .i64 (n : Int)) rfl (by kernel_rfl) (by kernel_rfl) (by kernel_rfl) (fun _ _ _ h => h) (Or.inl ⟨by rfl, fun w' _ => by go_simp⟩) hH ?_
      simp only [Act.put, List.setIfInBounds_toArray, List.set_cons_zero, List.set_cons_succ]
      refine wpAnyH_take (i := 1) (oi := ⟨_, _, _, _, _, _⟩) (v := .int .i64 Q) rfl (by kernel_rfl) (by kernel_rfl) (by kernel_rfl) (fun _ _ _ h => h) (Or.inl ⟨by rfl, fun w' _ => by go_simp⟩) hH ?_
      simp only [Act.put, List.setIfInBounds_toArray, List.set_cons_zero, List.set_cons_succ]
      refine wpAnyH_take (i := 3) (oi := ⟨_, _, _, _, _, _⟩) (v := .int .i64 (n : Int)) rfl (by kernel_rfl) (by kernel_rfl) (by kernel_rfl) (fun _ _ _ h => h) (Or.inl ⟨by rfl, fun w' _ => by go_simp⟩) hH ?_
      simp only [Act.put, List.setIfInBounds_toArray, List.set_cons_zero, List.set_cons_succ]
      refine wpAnyH_take (i := 4) (oi := ⟨_, _, _, _, _, _⟩) (v := .int .i64 M) rfl (by kernel_rfl) (by kernel_rfl) (by kernel_rfl) (fun _ _ _ h => h) (Or.inl ⟨by rfl, fun w' _ => by go_simp⟩) hH ?_
      simp only [Act.put, List.setIfInBounds_toArray, List.set_cons_zero, List.set_cons_succ]
      refine wpAnyH_take (i := 5) (oi := ⟨_, _, _, _, _, _⟩) (v := .int .i64 (48 + M)) rfl (by kernel_rfl) (by kernel_rfl) (by kernel_rfl) (fun _ _ _ h => h) (Or.inl ⟨by rfl, fun w' _ => by go_simp⟩) hH ?_
      simp only [Act.put, List.setIfInBounds_toArray, List.set_cons_zero, List.set_cons_succ]
      refine wpAnyH_take (i := 6) (oi := ⟨_, _, _, _, _, _⟩) (v := .int .u8 (48 + M)) rfl (by kernel_rfl) (by kernel_rfl) (by kernel_rfl) (fun _ _ _ h => h) (Or.inl ⟨by rfl, fun w' _ => by go_simp⟩) hH ?_
      simp only [Act.put, List.setIfInBounds_toArray, List.set_cons_zero, List.set_cons_succ]
      refine wpAnyH_ready (rs := [2, 7]) (by kernel_rfl) (by simp) ?_
      refine (AllReadyH.cons (o := ⟨_, _, _, _, _, _⟩) rfl (fun K hK => ?_) (AllReadyH.cons (o := ⟨_, _, _, _, _, _⟩) rfl (fun K hK => ?_) AllReadyH.nil))
      · go_simp
        refine (ih _).mono ?_
        rintro e V1 ⟨rfl, hb⟩
        refine hK.out _ _ (below_step hH hb) (fun hH => ?_)
        clear hK K
        clear hb
        refine wpAnyH_ready (rs := [7]) (by kernel_rfl) (by simp) ?_
        refine (AllReadyH.cons (o := ⟨_, _, _, _, _, _⟩) rfl (fun K hK => ?_) AllReadyH.nil)
        go_simp
        refine hK.out _ _ (hH.alloc hH.size _) (fun hH => ?_)
        clear hK K
        have hcv := c2 V1
        refine wpAnyH_ready (rs := [8]) (by kernel_rfl) (by simp) ?_
        refine (AllReadyH.cons (o := ⟨_, _, _, _, _, _⟩) rfl (fun K hK => ?_) AllReadyH.nil)
        go_simp
        refine hK.out _ _ hH (fun hH => ?_)
        clear hK K
        refine wpAnyH_take (i := 9) (oi := ⟨_, _, _, _, _, _⟩) (v := .string (J ++ L)) rfl (by kernel_rfl) (by kernel_rfl) (by kernel_rfl) (fun _ _ _ h => h) (Or.inl ⟨by rfl, fun w' _ => by go_simp⟩) hH ?_
        simp only [Act.put, List.setIfInBounds_toArray, List.set_cons_zero, List.set_cons_succ]
        refine wpAnyH_take (i := 10) (oi := ⟨_, _, _, _, _, _⟩) (v := .string (J ++ L)) rfl (by kernel_rfl) (by kernel_rfl) (by kernel_rfl) (fun _ _ _ h => h) (Or.inl ⟨by rfl, fun w' _ => by go_simp⟩) hH ?_
        simp only [Act.put, List.setIfInBounds_toArray, List.set_cons_zero, List.set_cons_succ]
        refine wpAnyH_done (by kernel_rfl) ?_ _
        go_wp2
        go_ret
        exact ⟨by rw [HI.out]; rfl, hH⟩
      · go_simp
        refine hK.out _ _ (hH.alloc hH.size _) (fun hH => ?_)
        clear hK K
        refine wpAnyH_ready (rs := [2, 8]) (by kernel_rfl) (by simp) ?_
        refine (AllReadyH.cons (o := ⟨_, _, _, _, _, _⟩) rfl (fun K hK => ?_) (AllReadyH.cons (o := ⟨_, _, _, _, _, _⟩) rfl (fun K hK => ?_) AllReadyH.nil))
        · go_simp
          refine (ih _).mono ?_
          rintro e V2 ⟨rfl, hb⟩
          refine hK.out _ _ (below_step hH hb) (fun hH => ?_)
          clear hK K
          have hcv : (convert 50 9 (.slice (some ⟨V.heap.size, 0, none⟩) 1 1)).run Tryd.prog V2 = .ok (.string L) V2 := c3 V V2 hb
          clear hb
          refine wpAnyH_ready (rs := [8]) (by kernel_rfl) (by simp) ?_
          refine (AllReadyH.cons (o := ⟨_, _, _, _, _, _⟩) rfl (fun K hK => ?_) AllReadyH.nil)
          go_simp
          refine hK.out _ _ hH (fun hH => ?_)
          clear hK K
          refine wpAnyH_take (i := 9) (oi := ⟨_, _, _, _, _, _⟩) (v := .string (J ++ L)) rfl (by kernel_rfl) (by kernel_rfl) (by kernel_rfl) (fun _ _ _ h => h) (Or.inl ⟨by rfl, fun w' _ => by go_simp⟩) hH ?_
          simp only [Act.put, List.setIfInBounds_toArray, List.set_cons_zero, List.set_cons_succ]
          refine wpAnyH_take (i := 10) (oi := ⟨_, _, _, _, _, _⟩) (v := .string (J ++ L)) rfl (by kernel_rfl) (by kernel_rfl) (by kernel_rfl) (fun _ _ _ h => h) (Or.inl ⟨by rfl, fun w' _ => by go_simp⟩) hH ?_
          simp only [Act.put, List.setIfInBounds_toArray, List.set_cons_zero, List.set_cons_succ]
          refine wpAnyH_done (by kernel_rfl) ?_ _
          go_wp2
          go_ret
          exact ⟨by rw [HI.out]; rfl, hH⟩
        · have hcv := c2 V
          go_simp
          refine hK.out _ _ hH (fun hH => ?_)
          clear hK K
          refine wpAnyH_ready (rs := [2]) (by kernel_rfl) (by simp) ?_
          refine (AllReadyH.cons (o := ⟨_, _, _, _, _, _⟩) rfl (fun K hK => ?_) AllReadyH.nil)
          go_simp
          refine (ih _).mono ?_
          rintro e V2 ⟨rfl, hb⟩
          refine hK.out _ _ (below_step hH hb) (fun hH => ?_)
          clear hK K
          clear hb
          refine wpAnyH_take (i := 9) (oi := ⟨_, _, _, _, _, _⟩) (v := .string (J ++ L)) rfl (by kernel_rfl) (by kernel_rfl) (by kernel_rfl) (fun _ _ _ h => h) (Or.inl ⟨by rfl, fun w' _ => by go_simp⟩) hH ?_
          simp only [Act.put, List.setIfInBounds_toArray, List.set_cons_zero, List.set_cons_succ]
          refine wpAnyH_take (i := 10) (oi := ⟨_, _, _, _, _, _⟩) (v := .string (J ++ L)) rfl (by kernel_rfl) (by kernel_rfl) (by kernel_rfl) (fun _ _ _ h => h) (Or.inl ⟨by rfl, fun w' _ => by go_simp⟩) hH ?_
          simp only [Act.put, List.setIfInBounds_toArray, List.set_cons_zero, List.set_cons_succ]
          refine wpAnyH_done (by kernel_rfl) ?_ _
          go_wp2
          go_ret
          exact ⟨by rw [HI.out]; rfl, hH⟩
theorem qdecimal_any (n : Int) (h0 : -9223372036854775808 ≤ n) (h1 : n ≤ 9223372036854775807) (w : World) : Calls Tryd.prog 49 #[.int .i64 n] w fun e w' => e = .returned (.string (itB n)) ∧ Below w.heap.size w w' := by
  by_cases q : n < 0
  · by_cases q2 : n = -9223372036854775808
    · subst q2
      rw [itB_min]
      go_enter Tryd.func49, Tryd.ntmps49
      go_wp2
      go_ret
      exact ⟨rfl, Below.refl _ _⟩
    · obtain ⟨u, rfl⟩ : ∃ u : Nat, n = -(u : Int) := ⟨n.natAbs, by omega⟩
      have n1 : ((-(u : Int)) == -9223372036854775808) = false := beq_eq_false_iff_ne.2 q2
      have ih := qdec_pos (u + 1) u (by omega) (by omega)
      have HI : Hid ((⟨#[45]⟩ : ByteArray) ++ itB (u : Int) = itB (-(u : Int))) := itB_neg u (by omega)
      have hJL := itB_size (u : Int) (by omega) (by omega)
      have hw : IntKind.i64.wrap (-(-(u : Int))) = (u : Int) := by rw [IntKind.wrap_i64]; omega
      obtain ⟨I, hI⟩ : ∃ I, itB (-(u : Int)) = I := ⟨_, rfl⟩
      obtain ⟨J, hJ⟩ : ∃ J, itB (u : Int) = J := ⟨_, rfl⟩
      obtain ⟨m, hm⟩ : ∃ m : Int, -(u : Int) = m := ⟨_, rfl⟩
      rw [hI] at HI ⊢
      rw [hJ] at HI ih hJL
      have hJ1 : (⟨#[45]⟩ : ByteArray).size + J.size ≤ 9223372036854775807 := by have : (⟨#[45]⟩ : ByteArray).size = 1 := rfl; omega
      have hw2 : IntKind.i64.wrap (-m) = (u : Int) := by rw [← hm]; exact hw
      rw [hm] at n1 q ⊢
      clear hw hI hJ hm q2 h0 h1
      go_enter Tryd.func49, Tryd.ntmps49
      go_wp2_with (go_at_call 49; refine (ih _).mono ?_; rintro e w1 ⟨rfl, hb1⟩)
      go_ret
      exact ⟨by rw [HI.out]; rfl, hb1⟩
  · obtain ⟨u, rfl⟩ : ∃ u : Nat, n = (u : Int) := ⟨n.toNat, by omega⟩
    exact qdec_pos (u + 1) u (by omega) (by omega) w
end Go.Proofs.YtekjicklbgpdcabDoor
