/-
  replacedInAtom, with what Instance makes of a term. (Written by CL28.py.)
-/
import Derived.Test.YtgbiicmkhlnniaaGreatDoorFA1
namespace Go.Proofs.YtgbiicmkhlnniaaGreatDoor
open Go.RowKit
attribute [local go_sem ↓] Go.wp_at_zero Go.wp_at_succ

set_option maxRecDepth 20000 in
set_option maxHeartbeats 20000000 in
theorem repIn_inst (vs : List Tm) (v : Value) (P : Nat) (a : At) (x : Value) (w : World) (hP : VB w P v vs) (hx : Ts w x a.args) (hl : a.args.length ≤ 4398046511104) :
    Calls Tryz.prog 116 #[a.v x, (.func (.func 83) #[] #[.pointer (some ⟨P, 0, none⟩)])] w fun e w' => ∃ M, e = .returned ((At.mk (ins vs a.by_) a.name (a.args.map (ins vs))).v (.slice (some ⟨M, 0, none⟩) a.args.length a.args.length)) ∧ Ts w' (.slice (some ⟨M, 0, none⟩) a.args.length a.args.length) (a.args.map (ins vs)) ∧ w.heap.size ≤ M ∧ M < w'.heap.size ∧ Below w.heap.size w w' := by
  obtain ⟨⟨k, n, ss⟩, nm, l⟩ := a
  simp only at hx hl ⊢
  have HP : Hid (VB w P v vs) := hP
  clear hP
  have HX : Hid (Ts w x l) := hx
  obtain ⟨ad, cap, rfl, -, -⟩ := hx
  obtain ⟨⟨bk, bn, bz⟩, hb⟩ : ∃ b, ins vs ⟨k, n, ss⟩ = b := ⟨_, rfl⟩
  have HB : Hid (ins vs ⟨k, n, ss⟩ = ⟨bk, bn, bz⟩) := hb
  have hmk := mk_terms l.length hl
  clear hb
  go_enter Tryz.func116, Tryz.ntmps116
  go_wp2
  have C := BoxB.start w #[.int .i64 k, .int .i64 n, .string ss, .string nm, .slice ad l.length cap] #[.int .i64 0, .int .i64 0, .string ⟨#[]⟩, .string ⟨#[]⟩, .slice none 0 0] 26 26
  revert C
  generalize (w.alloc (.cells #[.int .i64 k, .int .i64 n, .string ss, .string nm, .slice ad l.length cap] 26)).alloc _ = W
  intro C
  have HW : Hid (BoxB w W _ _ _ _) := C
  clear C
  go_cut [5] from 5 (fun s5 wx => ∃ G M : Nat, s5 = .pointer (some ⟨G, 0, none⟩) ∧ wx.heap[G]? = some (.cells #[.int .i64 bk, .int .i64 bn, .string bz, .string nm, .slice (some ⟨M, 0, none⟩) l.length l.length] 26 (0, 0)) ∧ wx.heap[M]? = some (.cells (MC l.length) 23 (0, 0)) ∧ G ≠ M ∧ W.heap.size ≤ G ∧ W.heap.size ≤ M ∧ Below W.heap.size W wx)
  case first =>
    obtain ⟨p0, p1, p2, p3, p4⟩ := five (Hid.out HW).1
    have zz := (Hid.out HW).lt
    have zz0 : w.heap.size < W.heap.size := Nat.lt_of_succ_lt zz
    have hc := fun (X : World) (h : Below W.heap.size W X) => ins1_any vs v P ⟨k, n, ss⟩ X (HP.out.later (below_step (Hid.out HW).2.2 h))
    rw [HB.out] at hc
    have HC : Hid (∀ X, Below W.heap.size W X → Calls Tryz.prog 83 #[Tm.v ⟨k, n, ss⟩, .pointer (some ⟨P, 0, none⟩)] X fun e w' => e = .returned (Tm.v ⟨bk, bn, bz⟩) ∧ Below X.heap.size X w') := hc
    clear hc
    refine wp_region_held_drew (S := fun w' => Below W.heap.size W w') (by kernel_rfl) (Below.refl _ _).drew (fun hH => ?_)
    revert hH
    generalize W.drew = V
    intro hH
    refine wpAnyH_take (i := 0) (oi := ⟨_, _, _, _, _, _⟩) (v := (.func (.func 83) #[] #[.pointer (some ⟨P, 0, none⟩)])) rfl (by kernel_rfl) (by kernel_rfl) (by kernel_rfl) (fun _ _ _ h => h) (Or.inl ⟨by rfl, fun w' _ => by go_simp⟩) hH ?_
    simp only [Act.put, List.setIfInBounds_toArray, List.set_cons_zero, List.set_cons_succ]
    refine wpAnyH_take (i := 1) (oi := ⟨_, _, _, _, _, _⟩) (v := .pointer (some ⟨w.heap.size, 0, none⟩)) rfl (by kernel_rfl) (by kernel_rfl) (by kernel_rfl) (fun _ _ _ h => h) (Or.inl ⟨by rfl, fun w' _ => by go_simp⟩) hH ?_
    simp only [Act.put, List.setIfInBounds_toArray, List.set_cons_zero, List.set_cons_succ]
    refine wpAnyH_take (i := 2) (oi := ⟨_, _, _, _, _, _⟩) (v := Tm.v ⟨k, n, ss⟩) rfl (by kernel_rfl) (by kernel_rfl) (by kernel_rfl) (fun _ _ _ h => h) (Or.inl ⟨by rfl, fun w' h => by have a0 := cell_step h zz0 p0; have a1 := cell_step h zz0 p1; have a2 := cell_step h zz0 p2; clear p0 p1 p2 p3 p4; go_simp⟩) hH ?_
    simp only [Act.put, List.setIfInBounds_toArray, List.set_cons_zero, List.set_cons_succ]
    refine wpAnyH_take (i := 4) (oi := ⟨_, _, _, _, _, _⟩) (v := .pointer (some ⟨w.heap.size, 3, none⟩)) rfl (by kernel_rfl) (by kernel_rfl) (by kernel_rfl) (fun _ _ _ h => h) (Or.inl ⟨by rfl, fun w' _ => by go_simp⟩) hH ?_
    simp only [Act.put, List.setIfInBounds_toArray, List.set_cons_zero, List.set_cons_succ]
    refine wpAnyH_take (i := 5) (oi := ⟨_, _, _, _, _, _⟩) (v := .string nm) rfl (by kernel_rfl) (by kernel_rfl) (by kernel_rfl) (fun _ _ _ h => h) (Or.inl ⟨by rfl, fun w' h => by have a3 := cell_step h zz0 p3; clear p0 p1 p2 p3 p4; go_simp⟩) hH ?_
    simp only [Act.put, List.setIfInBounds_toArray, List.set_cons_zero, List.set_cons_succ]
    refine wpAnyH_take (i := 6) (oi := ⟨_, _, _, _, _, _⟩) (v := .pointer (some ⟨w.heap.size, 4, none⟩)) rfl (by kernel_rfl) (by kernel_rfl) (by kernel_rfl) (fun _ _ _ h => h) (Or.inl ⟨by rfl, fun w' _ => by go_simp⟩) hH ?_
    simp only [Act.put, List.setIfInBounds_toArray, List.set_cons_zero, List.set_cons_succ]
    refine wpAnyH_take (i := 7) (oi := ⟨_, _, _, _, _, _⟩) (v := .slice ad l.length cap) rfl (by kernel_rfl) (by kernel_rfl) (by kernel_rfl) (fun _ _ _ h => h) (Or.inl ⟨by rfl, fun w' h => by have a4 := cell_step h zz0 p4; clear p0 p1 p2 p3 p4; go_simp⟩) hH ?_
    simp only [Act.put, List.setIfInBounds_toArray, List.set_cons_zero, List.set_cons_succ]
    refine wpAnyH_take (i := 8) (oi := ⟨_, _, _, _, _, _⟩) (v := .int .i64 l.length) rfl (by kernel_rfl) (by kernel_rfl) (by kernel_rfl) (fun _ _ _ h => h) (Or.inl ⟨by rfl, fun w' _ => by go_simp⟩) hH ?_
    simp only [Act.put, List.setIfInBounds_toArray, List.set_cons_zero, List.set_cons_succ]
    clear p0 p1 p2 p3 p4
    refine wpAnyH_ready (rs := [3, 9, 11]) (by kernel_rfl) (by simp) ?_
    refine (AllReadyH.cons (o := ⟨_, _, _, _, _, _⟩) rfl (fun K hK => ?_) (AllReadyH.cons (o := ⟨_, _, _, _, _, _⟩) rfl (fun K hK => ?_) (AllReadyH.cons (o := ⟨_, _, _, _, _, _⟩) rfl (fun K hK => ?_) AllReadyH.nil)))
    · go_simp
      refine (HC.out _ hH).mono ?_
      rintro e Vc ⟨rfl, hb⟩
      refine hK.out _ _ (below_step hH hb) (fun hH => ?_)
      clear hb hK K
      refine wpAnyH_ready (rs := [9, 11]) (by kernel_rfl) (by simp) ?_
      refine (AllReadyH.cons (o := ⟨_, _, _, _, _, _⟩) rfl (fun K hK => ?_) (AllReadyH.cons (o := ⟨_, _, _, _, _, _⟩) rfl (fun K hK => ?_) AllReadyH.nil))
      · go_simp
        have gM := hH.size
        refine hK.out _ _ (balloc hH) (fun hH => ?_)
        clear hK K
        have fM := heap_alloc_new Vc (.cells (MC l.length) 23)
        have lM : Vc.heap.size < (Vc.alloc (.cells (MC l.length) 23)).heap.size := by simp
        revert hH fM lM
        generalize Vc.alloc (.cells (MC l.length) 23) = Vcm
        intro hH fM lM
        refine wpAnyH_take (i := 10) (oi := ⟨_, _, _, _, _, _⟩) (v := .agg #[.int .i64 bk, .int .i64 bn, .string bz, .string nm, .slice (some ⟨Vc.heap.size, 0, none⟩) l.length l.length]) rfl (by kernel_rfl) (by kernel_rfl) (by kernel_rfl) (fun _ _ _ h => h) (Or.inl ⟨by rfl, fun w' _ => by go_simp⟩) hH ?_
        simp only [Act.put, List.setIfInBounds_toArray, List.set_cons_zero, List.set_cons_succ]
        refine wpAnyH_ready (rs := [11]) (by kernel_rfl) (by simp) ?_
        refine (AllReadyH.cons (o := ⟨_, _, _, _, _, _⟩) rfl (fun K hK => ?_) AllReadyH.nil)
        · go_simp
          have gG := hH.size
          refine hK.out _ _ (balloc hH) (fun hH => ?_)
          clear hK K
          have hne := Nat.ne_of_lt lM
          have fM := (Below.heap_alloc _ (.cells #[.int .i64 0, .int .i64 0, .string ⟨#[]⟩, .string ⟨#[]⟩, .slice none 0 0] 26) _ lM).trans fM
          have lM := lt_step (below1 Vcm (.cells #[.int .i64 0, .int .i64 0, .string ⟨#[]⟩, .string ⟨#[]⟩, .slice none 0 0] 26)) lM
          have fG := heap_alloc_new Vcm (.cells #[.int .i64 0, .int .i64 0, .string ⟨#[]⟩, .string ⟨#[]⟩, .slice none 0 0] 26)
          have lG : Vcm.heap.size < (Vcm.alloc (.cells #[.int .i64 0, .int .i64 0, .string ⟨#[]⟩, .string ⟨#[]⟩, .slice none 0 0] 26)).heap.size := by simp
          revert hH fM lM fG lG
          generalize Vcm.alloc (.cells #[.int .i64 0, .int .i64 0, .string ⟨#[]⟩, .string ⟨#[]⟩, .slice none 0 0] 26) = Vcmg
          intro hH fM lM fG lG
          refine wpAnyH_ready (rs := [12]) (by kernel_rfl) (by simp) ?_
          refine (AllReadyH.cons (o := ⟨_, _, _, _, _, _⟩) rfl (fun K hK => ?_) AllReadyH.nil)
          obtain ⟨⟨c0, c1, c2, c3, c4⟩, f0, f1, f2, f3, f4⟩ := fiveF fG
          go_simp
          clear c0 c1 c2 c3 c4 f0 f1 f2 f3 f4
          refine hK.out _ _ (bset (bset (bset (bset (bset hH gG) gG) gG) gG) gG) (fun hH => ?_)
          clear hK K
          have fG := store5 (a' := .int .i64 bk) (b' := .int .i64 bn) (c' := .string bz) (d' := .string nm) (e' := .slice (some ⟨Vc.heap.size, 0, none⟩) l.length l.length) fG
          have fM := store5_other (.int .i64 bk) (.int .i64 bn) (.string bz) (.string nm) (.slice (some ⟨Vc.heap.size, 0, none⟩) l.length l.length) (G := Vcm.heap.size) (k := Vc.heap.size) (by omega) fM
          refine wpAnyH_done (by kernel_rfl) ?_ _
          go_wp2_with fail
          go_meet
          case rel => exact ⟨Vcm.heap.size, Vc.heap.size, rfl, fG, fM, by omega, gG, gM, hH⟩
      · go_simp
        have gG := hH.size
        refine hK.out _ _ (balloc hH) (fun hH => ?_)
        clear hK K
        have fG := heap_alloc_new Vc (.cells #[.int .i64 0, .int .i64 0, .string ⟨#[]⟩, .string ⟨#[]⟩, .slice none 0 0] 26)
        have lG : Vc.heap.size < (Vc.alloc (.cells #[.int .i64 0, .int .i64 0, .string ⟨#[]⟩, .string ⟨#[]⟩, .slice none 0 0] 26)).heap.size := by simp
        revert hH fG lG
        generalize Vc.alloc (.cells #[.int .i64 0, .int .i64 0, .string ⟨#[]⟩, .string ⟨#[]⟩, .slice none 0 0] 26) = Vcg
        intro hH fG lG
        refine wpAnyH_ready (rs := [9]) (by kernel_rfl) (by simp) ?_
        refine (AllReadyH.cons (o := ⟨_, _, _, _, _, _⟩) rfl (fun K hK => ?_) AllReadyH.nil)
        · go_simp
          have gM := hH.size
          refine hK.out _ _ (balloc hH) (fun hH => ?_)
          clear hK K
          have hne := Nat.ne_of_lt lG
          have fG := (Below.heap_alloc _ (.cells (MC l.length) 23) _ lG).trans fG
          have lG := lt_step (below1 Vcg (.cells (MC l.length) 23)) lG
          have fM := heap_alloc_new Vcg (.cells (MC l.length) 23)
          have lM : Vcg.heap.size < (Vcg.alloc (.cells (MC l.length) 23)).heap.size := by simp
          revert hH fG lG fM lM
          generalize Vcg.alloc (.cells (MC l.length) 23) = Vcgm
          intro hH fG lG fM lM
          refine wpAnyH_take (i := 10) (oi := ⟨_, _, _, _, _, _⟩) (v := .agg #[.int .i64 bk, .int .i64 bn, .string bz, .string nm, .slice (some ⟨Vcg.heap.size, 0, none⟩) l.length l.length]) rfl (by kernel_rfl) (by kernel_rfl) (by kernel_rfl) (fun _ _ _ h => h) (Or.inl ⟨by rfl, fun w' _ => by go_simp⟩) hH ?_
          simp only [Act.put, List.setIfInBounds_toArray, List.set_cons_zero, List.set_cons_succ]
          refine wpAnyH_ready (rs := [12]) (by kernel_rfl) (by simp) ?_
          refine (AllReadyH.cons (o := ⟨_, _, _, _, _, _⟩) rfl (fun K hK => ?_) AllReadyH.nil)
          obtain ⟨⟨c0, c1, c2, c3, c4⟩, f0, f1, f2, f3, f4⟩ := fiveF fG
          go_simp
          clear c0 c1 c2 c3 c4 f0 f1 f2 f3 f4
          refine hK.out _ _ (bset (bset (bset (bset (bset hH gG) gG) gG) gG) gG) (fun hH => ?_)
          clear hK K
          have fG := store5 (a' := .int .i64 bk) (b' := .int .i64 bn) (c' := .string bz) (d' := .string nm) (e' := .slice (some ⟨Vcg.heap.size, 0, none⟩) l.length l.length) fG
          have fM := store5_other (.int .i64 bk) (.int .i64 bn) (.string bz) (.string nm) (.slice (some ⟨Vcg.heap.size, 0, none⟩) l.length l.length) (G := Vc.heap.size) (k := Vcg.heap.size) (by omega) fM
          refine wpAnyH_done (by kernel_rfl) ?_ _
          go_wp2_with fail
          go_meet
          case rel => exact ⟨Vc.heap.size, Vcg.heap.size, rfl, fG, fM, by omega, gG, gM, hH⟩
    · go_simp
      have gM := hH.size
      refine hK.out _ _ (balloc hH) (fun hH => ?_)
      clear hK K
      have fM := heap_alloc_new V (.cells (MC l.length) 23)
      have lM : V.heap.size < (V.alloc (.cells (MC l.length) 23)).heap.size := by simp
      revert hH fM lM
      generalize V.alloc (.cells (MC l.length) 23) = Vm
      intro hH fM lM
      refine wpAnyH_ready (rs := [3, 11]) (by kernel_rfl) (by simp) ?_
      refine (AllReadyH.cons (o := ⟨_, _, _, _, _, _⟩) rfl (fun K hK => ?_) (AllReadyH.cons (o := ⟨_, _, _, _, _, _⟩) rfl (fun K hK => ?_) AllReadyH.nil))
      · go_simp
        refine (HC.out _ hH).mono ?_
        rintro e Vmc ⟨rfl, hb⟩
        refine hK.out _ _ (below_step hH hb) (fun hH => ?_)
        have fM := (hb.block _ lM).trans fM
        have lM := lt_step hb lM
        clear hb hK K
        refine wpAnyH_take (i := 10) (oi := ⟨_, _, _, _, _, _⟩) (v := .agg #[.int .i64 bk, .int .i64 bn, .string bz, .string nm, .slice (some ⟨V.heap.size, 0, none⟩) l.length l.length]) rfl (by kernel_rfl) (by kernel_rfl) (by kernel_rfl) (fun _ _ _ h => h) (Or.inl ⟨by rfl, fun w' _ => by go_simp⟩) hH ?_
        simp only [Act.put, List.setIfInBounds_toArray, List.set_cons_zero, List.set_cons_succ]
        refine wpAnyH_ready (rs := [11]) (by kernel_rfl) (by simp) ?_
        refine (AllReadyH.cons (o := ⟨_, _, _, _, _, _⟩) rfl (fun K hK => ?_) AllReadyH.nil)
        · go_simp
          have gG := hH.size
          refine hK.out _ _ (balloc hH) (fun hH => ?_)
          clear hK K
          have hne := Nat.ne_of_lt lM
          have fM := (Below.heap_alloc _ (.cells #[.int .i64 0, .int .i64 0, .string ⟨#[]⟩, .string ⟨#[]⟩, .slice none 0 0] 26) _ lM).trans fM
          have lM := lt_step (below1 Vmc (.cells #[.int .i64 0, .int .i64 0, .string ⟨#[]⟩, .string ⟨#[]⟩, .slice none 0 0] 26)) lM
          have fG := heap_alloc_new Vmc (.cells #[.int .i64 0, .int .i64 0, .string ⟨#[]⟩, .string ⟨#[]⟩, .slice none 0 0] 26)
          have lG : Vmc.heap.size < (Vmc.alloc (.cells #[.int .i64 0, .int .i64 0, .string ⟨#[]⟩, .string ⟨#[]⟩, .slice none 0 0] 26)).heap.size := by simp
          revert hH fM lM fG lG
          generalize Vmc.alloc (.cells #[.int .i64 0, .int .i64 0, .string ⟨#[]⟩, .string ⟨#[]⟩, .slice none 0 0] 26) = Vmcg
          intro hH fM lM fG lG
          refine wpAnyH_ready (rs := [12]) (by kernel_rfl) (by simp) ?_
          refine (AllReadyH.cons (o := ⟨_, _, _, _, _, _⟩) rfl (fun K hK => ?_) AllReadyH.nil)
          obtain ⟨⟨c0, c1, c2, c3, c4⟩, f0, f1, f2, f3, f4⟩ := fiveF fG
          go_simp
          clear c0 c1 c2 c3 c4 f0 f1 f2 f3 f4
          refine hK.out _ _ (bset (bset (bset (bset (bset hH gG) gG) gG) gG) gG) (fun hH => ?_)
          clear hK K
          have fG := store5 (a' := .int .i64 bk) (b' := .int .i64 bn) (c' := .string bz) (d' := .string nm) (e' := .slice (some ⟨V.heap.size, 0, none⟩) l.length l.length) fG
          have fM := store5_other (.int .i64 bk) (.int .i64 bn) (.string bz) (.string nm) (.slice (some ⟨V.heap.size, 0, none⟩) l.length l.length) (G := Vmc.heap.size) (k := V.heap.size) (by omega) fM
          refine wpAnyH_done (by kernel_rfl) ?_ _
          go_wp2_with fail
          go_meet
          case rel => exact ⟨Vmc.heap.size, V.heap.size, rfl, fG, fM, by omega, gG, gM, hH⟩
      · go_simp
        have gG := hH.size
        refine hK.out _ _ (balloc hH) (fun hH => ?_)
        clear hK K
        have hne := Nat.ne_of_lt lM
        have fM := (Below.heap_alloc _ (.cells #[.int .i64 0, .int .i64 0, .string ⟨#[]⟩, .string ⟨#[]⟩, .slice none 0 0] 26) _ lM).trans fM
        have lM := lt_step (below1 Vm (.cells #[.int .i64 0, .int .i64 0, .string ⟨#[]⟩, .string ⟨#[]⟩, .slice none 0 0] 26)) lM
        have fG := heap_alloc_new Vm (.cells #[.int .i64 0, .int .i64 0, .string ⟨#[]⟩, .string ⟨#[]⟩, .slice none 0 0] 26)
        have lG : Vm.heap.size < (Vm.alloc (.cells #[.int .i64 0, .int .i64 0, .string ⟨#[]⟩, .string ⟨#[]⟩, .slice none 0 0] 26)).heap.size := by simp
        revert hH fM lM fG lG
        generalize Vm.alloc (.cells #[.int .i64 0, .int .i64 0, .string ⟨#[]⟩, .string ⟨#[]⟩, .slice none 0 0] 26) = Vmg
        intro hH fM lM fG lG
        refine wpAnyH_ready (rs := [3]) (by kernel_rfl) (by simp) ?_
        refine (AllReadyH.cons (o := ⟨_, _, _, _, _, _⟩) rfl (fun K hK => ?_) AllReadyH.nil)
        · go_simp
          refine (HC.out _ hH).mono ?_
          rintro e Vmgc ⟨rfl, hb⟩
          refine hK.out _ _ (below_step hH hb) (fun hH => ?_)
          have fM := (hb.block _ lM).trans fM
          have lM := lt_step hb lM
          have fG := (hb.block _ lG).trans fG
          have lG := lt_step hb lG
          clear hb hK K
          refine wpAnyH_take (i := 10) (oi := ⟨_, _, _, _, _, _⟩) (v := .agg #[.int .i64 bk, .int .i64 bn, .string bz, .string nm, .slice (some ⟨V.heap.size, 0, none⟩) l.length l.length]) rfl (by kernel_rfl) (by kernel_rfl) (by kernel_rfl) (fun _ _ _ h => h) (Or.inl ⟨by rfl, fun w' _ => by go_simp⟩) hH ?_
          simp only [Act.put, List.setIfInBounds_toArray, List.set_cons_zero, List.set_cons_succ]
          refine wpAnyH_ready (rs := [12]) (by kernel_rfl) (by simp) ?_
          refine (AllReadyH.cons (o := ⟨_, _, _, _, _, _⟩) rfl (fun K hK => ?_) AllReadyH.nil)
          obtain ⟨⟨c0, c1, c2, c3, c4⟩, f0, f1, f2, f3, f4⟩ := fiveF fG
          go_simp
          clear c0 c1 c2 c3 c4 f0 f1 f2 f3 f4
          refine hK.out _ _ (bset (bset (bset (bset (bset hH gG) gG) gG) gG) gG) (fun hH => ?_)
          clear hK K
          have fG := store5 (a' := .int .i64 bk) (b' := .int .i64 bn) (c' := .string bz) (d' := .string nm) (e' := .slice (some ⟨V.heap.size, 0, none⟩) l.length l.length) fG
          have fM := store5_other (.int .i64 bk) (.int .i64 bn) (.string bz) (.string nm) (.slice (some ⟨V.heap.size, 0, none⟩) l.length l.length) (G := Vm.heap.size) (k := V.heap.size) (by omega) fM
          refine wpAnyH_done (by kernel_rfl) ?_ _
          go_wp2_with fail
          go_meet
          case rel => exact ⟨Vm.heap.size, V.heap.size, rfl, fG, fM, by omega, gG, gM, hH⟩
    · go_simp
      have gG := hH.size
      refine hK.out _ _ (balloc hH) (fun hH => ?_)
      clear hK K
      have fG := heap_alloc_new V (.cells #[.int .i64 0, .int .i64 0, .string ⟨#[]⟩, .string ⟨#[]⟩, .slice none 0 0] 26)
      have lG : V.heap.size < (V.alloc (.cells #[.int .i64 0, .int .i64 0, .string ⟨#[]⟩, .string ⟨#[]⟩, .slice none 0 0] 26)).heap.size := by simp
      revert hH fG lG
      generalize V.alloc (.cells #[.int .i64 0, .int .i64 0, .string ⟨#[]⟩, .string ⟨#[]⟩, .slice none 0 0] 26) = Vg
      intro hH fG lG
      refine wpAnyH_ready (rs := [3, 9]) (by kernel_rfl) (by simp) ?_
      refine (AllReadyH.cons (o := ⟨_, _, _, _, _, _⟩) rfl (fun K hK => ?_) (AllReadyH.cons (o := ⟨_, _, _, _, _, _⟩) rfl (fun K hK => ?_) AllReadyH.nil))
      · go_simp
        refine (HC.out _ hH).mono ?_
        rintro e Vgc ⟨rfl, hb⟩
        refine hK.out _ _ (below_step hH hb) (fun hH => ?_)
        have fG := (hb.block _ lG).trans fG
        have lG := lt_step hb lG
        clear hb hK K
        refine wpAnyH_ready (rs := [9]) (by kernel_rfl) (by simp) ?_
        refine (AllReadyH.cons (o := ⟨_, _, _, _, _, _⟩) rfl (fun K hK => ?_) AllReadyH.nil)
        · go_simp
          have gM := hH.size
          refine hK.out _ _ (balloc hH) (fun hH => ?_)
          clear hK K
          have hne := Nat.ne_of_lt lG
          have fG := (Below.heap_alloc _ (.cells (MC l.length) 23) _ lG).trans fG
          have lG := lt_step (below1 Vgc (.cells (MC l.length) 23)) lG
          have fM := heap_alloc_new Vgc (.cells (MC l.length) 23)
          have lM : Vgc.heap.size < (Vgc.alloc (.cells (MC l.length) 23)).heap.size := by simp
          revert hH fG lG fM lM
          generalize Vgc.alloc (.cells (MC l.length) 23) = Vgcm
          intro hH fG lG fM lM
          refine wpAnyH_take (i := 10) (oi := ⟨_, _, _, _, _, _⟩) (v := .agg #[.int .i64 bk, .int .i64 bn, .string bz, .string nm, .slice (some ⟨Vgc.heap.size, 0, none⟩) l.length l.length]) rfl (by kernel_rfl) (by kernel_rfl) (by kernel_rfl) (fun _ _ _ h => h) (Or.inl ⟨by rfl, fun w' _ => by go_simp⟩) hH ?_
          simp only [Act.put, List.setIfInBounds_toArray, List.set_cons_zero, List.set_cons_succ]
          refine wpAnyH_ready (rs := [12]) (by kernel_rfl) (by simp) ?_
          refine (AllReadyH.cons (o := ⟨_, _, _, _, _, _⟩) rfl (fun K hK => ?_) AllReadyH.nil)
          obtain ⟨⟨c0, c1, c2, c3, c4⟩, f0, f1, f2, f3, f4⟩ := fiveF fG
          go_simp
          clear c0 c1 c2 c3 c4 f0 f1 f2 f3 f4
          refine hK.out _ _ (bset (bset (bset (bset (bset hH gG) gG) gG) gG) gG) (fun hH => ?_)
          clear hK K
          have fG := store5 (a' := .int .i64 bk) (b' := .int .i64 bn) (c' := .string bz) (d' := .string nm) (e' := .slice (some ⟨Vgc.heap.size, 0, none⟩) l.length l.length) fG
          have fM := store5_other (.int .i64 bk) (.int .i64 bn) (.string bz) (.string nm) (.slice (some ⟨Vgc.heap.size, 0, none⟩) l.length l.length) (G := V.heap.size) (k := Vgc.heap.size) (by omega) fM
          refine wpAnyH_done (by kernel_rfl) ?_ _
          go_wp2_with fail
          go_meet
          case rel => exact ⟨V.heap.size, Vgc.heap.size, rfl, fG, fM, by omega, gG, gM, hH⟩
      · go_simp
        have gM := hH.size
        refine hK.out _ _ (balloc hH) (fun hH => ?_)
        clear hK K
        have hne := Nat.ne_of_lt lG
        have fG := (Below.heap_alloc _ (.cells (MC l.length) 23) _ lG).trans fG
        have lG := lt_step (below1 Vg (.cells (MC l.length) 23)) lG
        have fM := heap_alloc_new Vg (.cells (MC l.length) 23)
        have lM : Vg.heap.size < (Vg.alloc (.cells (MC l.length) 23)).heap.size := by simp
        revert hH fG lG fM lM
        generalize Vg.alloc (.cells (MC l.length) 23) = Vgm
        intro hH fG lG fM lM
        refine wpAnyH_ready (rs := [3]) (by kernel_rfl) (by simp) ?_
        refine (AllReadyH.cons (o := ⟨_, _, _, _, _, _⟩) rfl (fun K hK => ?_) AllReadyH.nil)
        · go_simp
          refine (HC.out _ hH).mono ?_
          rintro e Vgmc ⟨rfl, hb⟩
          refine hK.out _ _ (below_step hH hb) (fun hH => ?_)
          have fM := (hb.block _ lM).trans fM
          have lM := lt_step hb lM
          have fG := (hb.block _ lG).trans fG
          have lG := lt_step hb lG
          clear hb hK K
          refine wpAnyH_take (i := 10) (oi := ⟨_, _, _, _, _, _⟩) (v := .agg #[.int .i64 bk, .int .i64 bn, .string bz, .string nm, .slice (some ⟨Vg.heap.size, 0, none⟩) l.length l.length]) rfl (by kernel_rfl) (by kernel_rfl) (by kernel_rfl) (fun _ _ _ h => h) (Or.inl ⟨by rfl, fun w' _ => by go_simp⟩) hH ?_
          simp only [Act.put, List.setIfInBounds_toArray, List.set_cons_zero, List.set_cons_succ]
          refine wpAnyH_ready (rs := [12]) (by kernel_rfl) (by simp) ?_
          refine (AllReadyH.cons (o := ⟨_, _, _, _, _, _⟩) rfl (fun K hK => ?_) AllReadyH.nil)
          obtain ⟨⟨c0, c1, c2, c3, c4⟩, f0, f1, f2, f3, f4⟩ := fiveF fG
          go_simp
          clear c0 c1 c2 c3 c4 f0 f1 f2 f3 f4
          refine hK.out _ _ (bset (bset (bset (bset (bset hH gG) gG) gG) gG) gG) (fun hH => ?_)
          clear hK K
          have fG := store5 (a' := .int .i64 bk) (b' := .int .i64 bn) (c' := .string bz) (d' := .string nm) (e' := .slice (some ⟨Vg.heap.size, 0, none⟩) l.length l.length) fG
          have fM := store5_other (.int .i64 bk) (.int .i64 bn) (.string bz) (.string nm) (.slice (some ⟨Vg.heap.size, 0, none⟩) l.length l.length) (G := V.heap.size) (k := Vg.heap.size) (by omega) fM
          refine wpAnyH_done (by kernel_rfl) ?_ _
          go_wp2_with fail
          go_meet
          case rel => exact ⟨V.heap.size, Vg.heap.size, rfl, fG, fM, by omega, gG, gM, hH⟩
  case rest =>
    obtain ⟨G, M, rfl, hG, hM, hne, hgG, hgM, hbW⟩ := hcut
    clear hmk
    have zz := (Hid.out HW).lt
    have B0 := (Hid.out HW).later hbW
    have lM : M < wc.heap.size := (Array.getElem?_eq_some_iff.1 hM).1
    have lG : G < wc.heap.size := (Array.getElem?_eq_some_iff.1 hG).1
    obtain ⟨L, hL⟩ : ∃ L, L = l.map (ins vs) := ⟨_, rfl⟩
    have HL : Hid (L = l.map (ins vs)) := hL
    have hLl : l.length = L.length := by rw [hL]; simp
    have hT := TBlk.start hLl hM
    have HLL : Hid (l.length = L.length) := hLl
    clear hLl
    obtain ⟨p0, p1, p2, p3, p4⟩ := five B0.1
    have g1 : w.heap.size + 1 < G := by omega
    have g2 : w.heap.size + 1 < M := by omega
    have zw : w.heap.size + 1 < wc.heap.size := by omega
    clear hM hL HW hbW hgG hgM
    go_wp2
    clear p0 p1 p2 p3 p4
    go_loopg [22] l.length (fun g i wr => ∃ j : Nat, j + g = l.length ∧ i = .int .i64 j ∧ BoxB w wr #[.int .i64 k, .int .i64 n, .string ss, .string nm, .slice ad l.length cap] #[.int .i64 0, .int .i64 0, .string ⟨#[]⟩, .string ⟨#[]⟩, .slice none 0 0] 26 26 ∧ TBlk wr M L j ∧ wr.heap[G]? = some (.cells #[.int .i64 bk, .int .i64 bn, .string bz, .string nm, .slice (some ⟨M, 0, none⟩) l.length l.length] 26 (0, 0)))
    case atStart => exact ⟨0, by omega, rfl, B0, hT, hG⟩
    case round =>
      clear B0 hT hG lM lG zw
      obtain ⟨j, hj, rfl, hB, hT, hG⟩ := hrel
      have lG : G < wr.heap.size := (Array.getElem?_eq_some_iff.1 hG).1
      have lM : M < wr.heap.size := by obtain ⟨_, h, _⟩ := hT; exact (Array.getElem?_eq_some_iff.1 h).1
      have HBX : Hid (BoxB w wr #[.int .i64 k, .int .i64 n, .string ss, .string nm, .slice ad l.length cap] #[.int .i64 0, .int .i64 0, .string ⟨#[]⟩, .string ⟨#[]⟩, .slice none 0 0] 26 26) := hB
      have HT : Hid (TBlk wr M L j) := hT
      have HG : Hid (wr.heap[G]? = some (.cells #[.int .i64 bk, .int .i64 bn, .string bz, .string nm, .slice (some ⟨M, 0, none⟩) l.length l.length] 26 (0, 0))) := hG
      clear hB hT hG
      cases gk with
      | succ g =>
        have hlt : j < l.length := by omega
        obtain ⟨t, ht⟩ : ∃ t, l[j]? = some t := ⟨_, List.getElem?_eq_getElem hlt⟩
        obtain ⟨⟨uk, un, us⟩, hu⟩ : ∃ u, ins vs t = u := ⟨_, rfl⟩
        have HU : Hid (ins vs t = ⟨uk, un, us⟩) := hu
        have HLu : Hid (L[j]? = some ⟨uk, un, us⟩) := by show L[j]? = _; rw [HL.out, List.getElem?_map, ht, ← hu]; rfl
        obtain ⟨tk, tn, ts⟩ := t
        obtain ⟨ad', cap', hx, -, hxx⟩ := HX.out.later (Hid.out HBX).2.2
        simp only [Value.slice.injEq] at hx
        obtain ⟨rfl, -, rfl⟩ := hx
        rcases hxx with hxx | ⟨b, o, rfl, hbs, hxx⟩
        · subst hxx; simp at hlt
        · obtain ⟨c0, c1, c2⟩ := hxx j _ ht
          simp only at c0 c1 c2
          clear hxx ht hu
          have i1 : (0 : Int) ≤ (j : Int) := by omega
          have i2 : (j : Int) < (l.length : Int) := by omega
          go_wp2
          clear c0 c1 c2
          have hbX : Below wr.heap.size wr (wr.alloc (.cells #[.int .i64 tk, .int .i64 tn, .string ts] 23)) := below1 _ _
          have g6 := heap_alloc_new wr (.cells #[.int .i64 tk, .int .i64 tn, .string ts] 23)
          have l6 : wr.heap.size < (wr.alloc (.cells #[.int .i64 tk, .int .i64 tn, .string ts] 23)).heap.size := by simp
          revert hbX g6 l6
          generalize wr.alloc (.cells #[.int .i64 tk, .int .i64 tn, .string ts] 23) = X
          intro hbX g6 l6
          have hGX := (hbX.block _ lG).trans HG.out
          have hTX := HT.out.later hbX
          have zX : w.heap.size + 2 ≤ wr.heap.size := (Hid.out HBX).lt
          have zX2 : wr.heap.size ≤ X.heap.size := hbX.size
          obtain ⟨T, hTe⟩ : ∃ T, T = wr.heap.size := ⟨_, rfl⟩
          rw [← hTe] at g6 l6 zX ⊢
          have hMT : M < T := by rw [hTe]; exact lM
          have hGT : G < T := by rw [hTe]; exact lG
          have HBX2 : Hid (Below T wr X) := by rw [hTe]; exact hbX
          clear hbX hTe
          refine wp_region_held_drew (S := fun w' => Below (w.heap.size + 2) X w' ∧ w'.heap[G]? = some (.cells #[.int .i64 bk, .int .i64 bn, .string bz, .string nm, .slice (some ⟨M, 0, none⟩) l.length l.length] 26 (0, 0)) ∧ w'.heap[T]? = some (.cells #[.int .i64 tk, .int .i64 tn, .string ts] 23 (0, 0))) (by kernel_rfl) ⟨(Below.refl _ _).drew, hGX, g6⟩ (fun hH => ?_)
          have hTV : TBlk X.drew M L j := hTX
          have lV : T < X.drew.heap.size := l6
          revert hH hTV lV
          generalize X.drew = V
          intro hH hTV lV
          clear hGX hTX g6 l6
          have HTV : Hid (TBlk V M L j) := hTV
          clear hTV
          refine wpAnyH_take (i := 0) (oi := ⟨_, _, _, _, _, _⟩) (v := .pointer (some ⟨G, 4, none⟩)) rfl (by kernel_rfl) (by kernel_rfl) (by kernel_rfl) (fun _ _ _ h => h) (Or.inl ⟨by rfl, fun w' h => by clear h; go_simp⟩) hH ?_
          simp only [Act.put, List.setIfInBounds_toArray, List.set_cons_zero, List.set_cons_succ]
          refine wpAnyH_take (i := 1) (oi := ⟨_, _, _, _, _, _⟩) (v := .slice (some ⟨M, 0, none⟩) l.length l.length) rfl (by kernel_rfl) (by kernel_rfl) (by kernel_rfl) (fun _ _ _ h => h) (Or.inl ⟨by rfl, fun w' h => by have a4 := (five h.2.1).2.2.2.2; clear h; go_simp⟩) hH ?_
          simp only [Act.put, List.setIfInBounds_toArray, List.set_cons_zero, List.set_cons_succ]
          refine wpAnyH_take (i := 2) (oi := ⟨_, _, _, _, _, _⟩) (v := .int .i64 j) rfl (by kernel_rfl) (by kernel_rfl) (by kernel_rfl) (fun _ _ _ h => h) (Or.inl ⟨by rfl, fun w' h => by clear h; go_simp⟩) hH ?_
          simp only [Act.put, List.setIfInBounds_toArray, List.set_cons_zero, List.set_cons_succ]
          refine wpAnyH_take (i := 3) (oi := ⟨_, _, _, _, _, _⟩) (v := (.func (.func 83) #[] #[.pointer (some ⟨P, 0, none⟩)])) rfl (by kernel_rfl) (by kernel_rfl) (by kernel_rfl) (fun _ _ _ h => h) (Or.inl ⟨by rfl, fun w' h => by clear h; go_simp⟩) hH ?_
          simp only [Act.put, List.setIfInBounds_toArray, List.set_cons_zero, List.set_cons_succ]
          refine wpAnyH_take (i := 4) (oi := ⟨_, _, _, _, _, _⟩) (v := Tm.v ⟨tk, tn, ts⟩) rfl (by kernel_rfl) (by kernel_rfl) (by kernel_rfl) (fun _ _ _ h => h) (Or.inl ⟨by rfl, fun w' h => by obtain ⟨a0, a1, a2, -, -, -⟩ := three h.2.2; clear h; go_simp⟩) hH ?_
          simp only [Act.put, List.setIfInBounds_toArray, List.set_cons_zero, List.set_cons_succ]
          refine wpAnyH_ready (rs := [5]) (by kernel_rfl) (by simp) ?_
          refine (AllReadyH.cons (o := ⟨_, _, _, _, _, _⟩) rfl (fun K hK => ?_) AllReadyH.nil)
          go_simp
          refine (ins1_any vs v P ⟨tk, tn, ts⟩ _ (HP.out.later ((Hid.out HBX).2.2.trans ((HBX2.out.mono (by omega)).trans (hH.1.mono (by omega)))))).mono ?_
          rw [HU.out]
          rintro e w3 ⟨rfl, hb3⟩
          have hT3 := HTV.out.later hb3
          refine hK.out _ _ ⟨hH.1.trans (hb3.mono (by omega)), (hb3.block _ (by omega)).trans hH.2.1, (hb3.block _ lV).trans hH.2.2⟩ (fun hH => ?_)
          have l3 := lt_step hb3 lV
          clear hK K hb3 lV HTV
          refine wpAnyH_take (i := 6) (oi := ⟨_, _, _, _, _, _⟩) (v := .pointer (some ⟨M, j * 3, none⟩)) rfl (by kernel_rfl) (by kernel_rfl) (by kernel_rfl) (fun _ _ _ h => h) (Or.inl ⟨by rfl, fun w' h => by clear h hT3; go_simp⟩) hH ?_
          simp only [Act.put, List.setIfInBounds_toArray, List.set_cons_zero, List.set_cons_succ]
          obtain ⟨⟨d0, e0⟩, f0⟩ := hT3.cells (j := j * 3) (by have := HLL.out; omega)
          obtain ⟨⟨d1, e1⟩, f1⟩ := hT3.cells (j := j * 3 + 1) (by have := HLL.out; omega)
          obtain ⟨⟨d2, e2⟩, f2⟩ := hT3.cells (j := j * 3 + 2) (by have := HLL.out; omega)
          have HT3 : Hid (TBlk w3 M L j) := hT3
          clear hT3
          refine wpAnyH_ready (rs := [7]) (by kernel_rfl) (by simp) ?_
          refine (AllReadyH.cons (o := ⟨_, _, _, _, _, _⟩) rfl (fun K hK => ?_) AllReadyH.nil)
          go_simp
          clear e0 e1 e2 f0 f1 f2
          have hput := TBlk.put HT3.out HLu.out
          have hP : Hid (TBlk _ M L (j + 1)) := hput
          clear hput HT3
          refine hK.out _ _ ⟨bset3 hH.1 g2, putO _ _ _ (by omega) hH.2.1, putO _ _ _ (by omega) hH.2.2⟩ (fun hH => ?_)
          clear hK K
          refine wpAnyH_done (by kernel_rfl) ?_ _
          have RB := BoxB.later2 (Hid.out HBX) ((HBX2.out.mono (by omega)).trans hH.1)
          have RG := hH.2.1
          clear hH
          go_wp2
          go_roundg g
          case measure => omega
          case rel => exact ⟨j + 1, by omega, by go_num, RB, Hid.out hP, RG⟩
      | zero =>
        have hjl : j = l.length := by omega
        subst hjl
        obtain ⟨⟨q0, q1, q2, q3, q4⟩, f0, f1, f2, f3, f4⟩ := fiveF (Hid.out HBX).2.1
        obtain ⟨r0, r1, r2, r3, r4⟩ := five HG.out
        have hz : ¬ ((l.length : Int) < (l.length : Int)) := by omega
        have lz := (Hid.out HBX).lt
        go_wp2
        refine bodyPost_ret (v := (At.mk ⟨bk, bn, bz⟩ nm L).v (.slice (some ⟨M, 0, none⟩) l.length l.length)) (by simp [results, Tryz.results116, go_sem, q0, q1, q2, q3, q4]) rfl ⟨M, ?_, ?_, by omega, by simpa [World.setCell] using lM, ?_⟩
        · rw [HB.out, ← HL.out]
        · rw [← HL.out]
          exact TBlk.ts HLL.out hl (TBlk.other (TBlk.other (TBlk.other (TBlk.other (TBlk.other HT.out (by omega)) (by omega)) (by omega)) (by omega)) (by omega))
        · exact bset (bset (bset (bset (bset (Hid.out HBX).2.2 (by omega)) (by omega)) (by omega)) (by omega)) (by omega)
end Go.Proofs.YtgbiicmkhlnniaaGreatDoor
