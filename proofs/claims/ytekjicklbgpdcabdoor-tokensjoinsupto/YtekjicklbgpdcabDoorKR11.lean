/-
  ref's Spell.
-/
import Derived.Test.YtekjicklbgpdcabDoorKR10
namespace Go.Proofs.YtekjicklbgpdcabDoor
open Go.RowKit

set_option maxRecDepth 20000 in
set_option maxHeartbeats 2000000 in
theorem qspell_any (t : Tk) (ho : okt t) (w : World) (hQ : QOk w) : Calls Tryd.prog 18 #[t.v] w fun e w' => e = .returned (.tuple #[.string ((spl t).getD ⟨#[]⟩), .bool (spl t).isSome]) ∧ Below w.heap.size w w' := by
  have hsz := spd_size t ho
  have ways := spell_ways t ho (by omega)
  have cs := fun (X : World) (h : QOk X) => qspelled_any t ho X h
  have cc := fun (X : World) (h : QOk X) => qcut_any (spd t) (spd t).size (by omega) X h
  have HQ : Hid (QOk w) := hQ
  obtain ⟨O, hO⟩ : ∃ O, spl t = O := ⟨_, rfl⟩
  rw [hO] at ways ⊢
  obtain ⟨S, hS⟩ : ∃ S, spd t = S := ⟨_, rfl⟩
  rw [hS] at ways cs cc hsz
  have HW : Hid _ := ways
  obtain ⟨k, x, n, a, e⟩ := t

  clear ho hQ ways hO hS
  go_enter Tryd.func18, Tryd.ntmps18
  go_upto_region 1 with fail
  have hb1 := below1 w (.cells #[.int .i64 k, .string x, .int .i64 n, .int .i64 a, .int .i64 e] 37)
  have B1 := Blk.new w #[.int .i64 k, .string x, .int .i64 n, .int .i64 a, .int .i64 e] 37
  revert hb1 B1
  generalize w.alloc (.cells #[.int .i64 k, .string x, .int .i64 n, .int .i64 a, .int .i64 e] 37) = W
  intro hb1 B1
  have HB : Hid (Below w.heap.size w W) := hb1
  have BT : Hid (Blk W w.heap.size #[.int .i64 k, .string x, .int .i64 n, .int .i64 a, .int .i64 e] 37) := B1
  have HQW : Hid (QOk W) := HQ.out.later hb1
  obtain ⟨c0, c1, c2, c3, c4⟩ := five B1
  clear hb1 B1 HQ
  go_upto_region 2 with (go_at_call 30; refine (cs _ HQW.out).mono ?_; rintro y w1 ⟨rfl, hb1⟩)
  have HB1 : Hid (Below w.heap.size w w1) := below_step HB.out hb1
  have BT1 : Hid (Blk w1 w.heap.size #[.int .i64 k, .string x, .int .i64 n, .int .i64 a, .int .i64 e] 37) := BT.out.later hb1
  have HQ1 : Hid (QOk w1) := HQW.out.later hb1
  clear c0 c1 c2 c3 c4 hb1 cs BT HQW HB
  rcases HW.out with ⟨T, er, p, hR, rfl, hbad⟩ | ⟨u, p, hR, hne, rfl⟩ | ⟨u, p, hR, heq, rfl⟩
  · rw [hR] at cc
    clear hR HW
    go_upto_region 3 with (go_at_call 16; refine (cc _ HQ1.out).mono ?_; rintro y w2 ⟨v2, rfl, ho2, hb2⟩)
    have bx := below1 w2 (.cells #[.int .i64 er, .int .i64 p] 25)
    have fx := Blk.new w2 #[.int .i64 er, .int .i64 p] 25
    obtain ⟨va, vc, rfl, -⟩ := ho2.ks
    revert bx fx
    generalize w2.alloc (.cells #[.int .i64 er, .int .i64 p] 25) = Y
    intro bx fx
    have HBY : Hid (Below w.heap.size w Y) := below_step (below_step HB1.out hb2) bx
    obtain ⟨b0, b1, -, -⟩ := two fx
    clear bx fx ho2 hb2 cc
    rcases hbad with he | ⟨rfl, hl⟩
    · have n1 : (er == 0) = false := beq_eq_false_iff_ne.2 he
      have n2 : (er != 0) = true := by rw [bne, n1]; rfl
      clear he
      go_quiet (fail)
      go_wp2
      go_ret2
      exact ⟨ret_2 rfl rfl, below_drewN HBY.out _⟩
    · obtain ⟨L, hL⟩ : ∃ L : Int, (T.length : Int) = L := ⟨_, rfl⟩
      have n1 : (L == 1) = false := beq_eq_false_iff_ne.2 (by omega)
      have n2 : (L != 1) = true := by rw [bne, n1]; rfl
      have n3 : ((T.length : Int) == 1) = false := by rw [hL]; exact n1
      have n4 : ((T.length : Int) != 1) = true := by rw [hL]; exact n2
      clear hl
      go_quiet (fail)
      go_wp2
      go_ret2
      exact ⟨ret_2 rfl rfl, below_drewN HBY.out _⟩
  all_goals
    rw [hR] at cc
    clear hR HW
    go_upto_region 3 with (go_at_call 16; refine (cc _ HQ1.out).mono ?_; rintro y w2 ⟨v2, rfl, ho2, hb2⟩)
    have bx := below1 w2 (.cells #[.int .i64 0, .int .i64 p] 25)
    have fx := Blk.new w2 #[.int .i64 0, .int .i64 p] 25
    have hks := (ho2.later bx).ks
    obtain ⟨F, hF⟩ : ∃ F, w2.heap.size = F := ⟨_, rfl⟩
    rw [hF] at fx ⊢
    revert bx hks fx
    generalize w2.alloc (.cells #[.int .i64 0, .int .i64 p] 25) = Y
    intro bx hks fx
    have h2Y := below_step hb2 bx
    have HBY : Hid (Below w.heap.size w Y) := below_step HB1.out h2Y
    have BTY := BT1.out.later h2Y
    obtain ⟨va, cap, hva, hm⟩ := hks
    simp only [List.length_cons, List.length_nil, Nat.zero_add] at hva
    subst hva
    rcases hm with hm | ⟨g, o, rfl, hg, hm⟩
    · cases hm
    have hu0 := hm 0 u rfl
    simp only [Nat.zero_mul, Nat.add_zero] at hu0
    obtain ⟨uk, ux, un, ua, ue⟩ := u
    simp only at hu0
    have HUc : Hid (Y.cell? ⟨g, o, none⟩ = some (.int .i64 uk) ∧ Y.cell? ⟨g, o + 1, none⟩ = some (.string ux) ∧ Y.cell? ⟨g, o + 2, none⟩ = some (.int .i64 un) ∧ Y.cell? ⟨g, o + 3, none⟩ = some (.int .i64 ua) ∧ Y.cell? ⟨g, o + 4, none⟩ = some (.int .i64 ue)) := hu0
    have HUz : Hid (g < Y.heap.size) := hg
    have HTc : Hid (Y.cell? ⟨w.heap.size, 0, none⟩ = some (.int .i64 k) ∧ Y.cell? ⟨w.heap.size, 1, none⟩ = some (.string x) ∧ Y.cell? ⟨w.heap.size, 2, none⟩ = some (.int .i64 n) ∧ Y.cell? ⟨w.heap.size, 3, none⟩ = some (.int .i64 a) ∧ Y.cell? ⟨w.heap.size, 4, none⟩ = some (.int .i64 e)) := five BTY
    have HTz : Hid (w.heap.size < Y.heap.size) := BTY.lt
    have HFc : Hid (Y.cell? ⟨F, 0, none⟩ = some (.int .i64 0)) := (two fx).1
    have HFz : Hid (F < Y.heap.size) := fx.lt
    clear hu0 hg hm BTY fx bx h2Y hb2 ho2 hF cc
  · have HNE : Hid (uk = k → ux.toList = x.toList → ¬ un = n) := fun h1 h2 h3 => hne (by subst h1; subst h3; rw [toList_inj h2]; rfl)
    clear hne
    refine wp_region_held_drew (S := fun w' => Below Y.heap.size Y w') (by kernel_rfl) (Below.refl _ _).drew (fun hH => ?_)
    revert hH
    generalize Y.drew = V
    intro hH
    refine wpAnyH_take (i := 0) (oi := ⟨_, _, _, _, _, _⟩) (v := .pointer (some ⟨F, 0, none⟩)) rfl (by kernel_rfl) (by kernel_rfl) (by kernel_rfl) (fun _ _ _ h => h) (Or.inl ⟨by rfl, fun w' _ => by go_simp⟩) hH ?_
    simp only [Act.put, List.setIfInBounds_toArray, List.set_cons_zero, List.set_cons_succ]
    refine wpAnyH_take (i := 1) (oi := ⟨_, _, _, _, _, _⟩) (v := .int .i64 0) rfl (by kernel_rfl) (by kernel_rfl) (by kernel_rfl) (fun _ _ _ h => h) (Or.inl ⟨by rfl, fun w' h => by have a0 := cell_step h HFz.out HFc.out; go_simp⟩) hH ?_
    simp only [Act.put, List.setIfInBounds_toArray, List.set_cons_zero, List.set_cons_succ]
    refine wpAnyH_take (i := 2) (oi := ⟨_, _, _, _, _, _⟩) (v := .bool false) rfl (by kernel_rfl) (by kernel_rfl) (by kernel_rfl) (fun _ _ _ h => h) (Or.inl ⟨by rfl, fun w' _ => by go_simp⟩) hH ?_
    simp only [Act.put, List.setIfInBounds_toArray, List.set_cons_zero, List.set_cons_succ]
    refine wpAnyH_take (i := 3) (oi := ⟨_, _, _, _, _, _⟩) (v := .bool false) rfl (by kernel_rfl) (by kernel_rfl) (by kernel_rfl) (fun _ _ _ h => h) (Or.inl ⟨by rfl, fun w' _ => by go_simp⟩) hH ?_
    simp only [Act.put, List.setIfInBounds_toArray, List.set_cons_zero, List.set_cons_succ]
    refine wpAnyH_take (i := 4) (oi := ⟨_, _, _, _, _, _⟩) (v := .slice (some ⟨g, o, none⟩) 1 cap) rfl (by kernel_rfl) (by kernel_rfl) (by kernel_rfl) (fun _ _ _ h => h) (Or.inl ⟨by rfl, fun w' _ => by go_simp⟩) hH ?_
    simp only [Act.put, List.setIfInBounds_toArray, List.set_cons_zero, List.set_cons_succ]
    refine wpAnyH_take (i := 5) (oi := ⟨_, _, _, _, _, _⟩) (v := .int .i64 1) rfl (by kernel_rfl) (by kernel_rfl) (by kernel_rfl) (fun _ _ _ h => h) (Or.inl ⟨by rfl, fun w' _ => by go_simp⟩) hH ?_
    simp only [Act.put, List.setIfInBounds_toArray, List.set_cons_zero, List.set_cons_succ]
    refine wpAnyH_take (i := 6) (oi := ⟨_, _, _, _, _, _⟩) (v := .bool false) rfl (by kernel_rfl) (by kernel_rfl) (by kernel_rfl) (fun _ _ _ h => h) (Or.inl ⟨by rfl, fun w' _ => by go_simp⟩) hH ?_
    simp only [Act.put, List.setIfInBounds_toArray, List.set_cons_zero, List.set_cons_succ]
    refine wpAnyH_take (i := 7) (oi := ⟨_, _, _, _, _, _⟩) (v := .bool false) rfl (by kernel_rfl) (by kernel_rfl) (by kernel_rfl) (fun _ _ _ h => h) (Or.inl ⟨by rfl, fun w' _ => by go_simp⟩) hH ?_
    simp only [Act.put, List.setIfInBounds_toArray, List.set_cons_zero, List.set_cons_succ]
    refine wpAnyH_take (i := 8) (oi := ⟨_, _, _, _, _, _⟩) (v := .bool false) rfl (by kernel_rfl) (by kernel_rfl) (by kernel_rfl) (fun _ _ _ h => h) (Or.inl ⟨by rfl, fun w' _ => by go_simp⟩) hH ?_
    simp only [Act.put, List.setIfInBounds_toArray, List.set_cons_zero, List.set_cons_succ]
    refine wpAnyH_take (i := 9) (oi := ⟨_, _, _, _, _, _⟩) (v := .slice (some ⟨g, o, none⟩) 1 cap) rfl (by kernel_rfl) (by kernel_rfl) (by kernel_rfl) (fun _ _ _ h => h) (Or.inl ⟨by rfl, fun w' _ => by go_simp⟩) hH ?_
    simp only [Act.put, List.setIfInBounds_toArray, List.set_cons_zero, List.set_cons_succ]
    refine wpAnyH_take (i := 10) (oi := ⟨_, _, _, _, _, _⟩) (v := .pointer (some ⟨g, o, none⟩)) rfl (by kernel_rfl) (by kernel_rfl) (by kernel_rfl) (fun _ _ _ h => h) (Or.inl ⟨by rfl, fun w' _ => by go_simp⟩) hH ?_
    simp only [Act.put, List.setIfInBounds_toArray, List.set_cons_zero, List.set_cons_succ]
    refine wpAnyH_take (i := 11) (oi := ⟨_, _, _, _, _, _⟩) (v := Tk.v ⟨uk, ux, un, ua, ue⟩) rfl (by kernel_rfl) (by kernel_rfl) (by kernel_rfl) (fun _ _ _ h => h) (Or.inl ⟨by rfl, fun w' h => by obtain ⟨p0, p1, p2, p3, p4⟩ := HUc.out; have z := HUz.out; have a0 := cell_step h z p0; have a1 := cell_step h z p1; have a2 := cell_step h z p2; have a3 := cell_step h z p3; have a4 := cell_step h z p4; clear p0 p1 p2 p3 p4; go_simp⟩) hH ?_
    simp only [Act.put, List.setIfInBounds_toArray, List.set_cons_zero, List.set_cons_succ]
    refine wpAnyH_take (i := 13) (oi := ⟨_, _, _, _, _, _⟩) (v := Tk.v ⟨k, x, n, a, e⟩) rfl (by kernel_rfl) (by kernel_rfl) (by kernel_rfl) (fun _ _ _ h => h) (Or.inl ⟨by rfl, fun w' h => by obtain ⟨p0, p1, p2, p3, p4⟩ := HTc.out; have z := HTz.out; have a0 := cell_step h z p0; have a1 := cell_step h z p1; have a2 := cell_step h z p2; have a3 := cell_step h z p3; have a4 := cell_step h z p4; clear p0 p1 p2 p3 p4; go_simp⟩) hH ?_
    simp only [Act.put, List.setIfInBounds_toArray, List.set_cons_zero, List.set_cons_succ]
    refine wpAnyH_ready (rs := [12]) (by kernel_rfl) (by simp) ?_
    refine (AllReadyH.cons (o := ⟨_, _, _, _, _, _⟩) rfl (fun K hK => ?_) AllReadyH.nil)
    go_simp
    refine (qbare_any ⟨uk, ux, un, ua, ue⟩ _).mono ?_
    rintro x1 V1 ⟨rfl, hb⟩
    refine hK.out _ _ (below_step hH hb) (fun hH => ?_)
    clear hK K
    refine wpAnyH_ready (rs := [14]) (by kernel_rfl) (by simp) ?_
    refine (AllReadyH.cons (o := ⟨_, _, _, _, _, _⟩) rfl (fun K hK => ?_) AllReadyH.nil)
    go_simp
    refine (qbare_any ⟨k, x, n, a, e⟩ _).mono ?_
    rintro x1 V2 ⟨rfl, hb⟩
    refine hK.out _ _ (below_step hH hb) (fun hH => ?_)
    clear hK K
    refine wpAnyH_take (i := 15) (oi := ⟨_, _, _, _, _, _⟩) (v := .bool true) rfl (by kernel_rfl) (by kernel_rfl) (by kernel_rfl) (fun _ _ _ h => h) (Or.inl ⟨by rfl, fun w' _ => by go_simp; exact HNE.out⟩) hH ?_
    simp only [Act.put, List.setIfInBounds_toArray, List.set_cons_zero, List.set_cons_succ]
    refine wpAnyH_take (i := 16) (oi := ⟨_, _, _, _, _, _⟩) (v := .bool true) rfl (by kernel_rfl) (by kernel_rfl) (by kernel_rfl) (fun _ _ _ h => h) (Or.inl ⟨by rfl, fun w' _ => by go_simp⟩) hH ?_
    simp only [Act.put, List.setIfInBounds_toArray, List.set_cons_zero, List.set_cons_succ]
    refine wpAnyH_done (by kernel_rfl) ?_ _
    have HV : Hid (Below Y.heap.size Y V2) := hH
    clear hH hb
    go_wp2
    go_ret2
    exact ⟨ret_2 rfl rfl, below_step HBY.out HV.out⟩
  · simp only [Tk.bar, Tk.mk.injEq, and_true] at heq
    obtain ⟨rfl, rfl, rfl⟩ := heq
    refine wp_region_held_drew (S := fun w' => Below Y.heap.size Y w') (by kernel_rfl) (Below.refl _ _).drew (fun hH => ?_)
    revert hH
    generalize Y.drew = V
    intro hH
    refine wpAnyH_take (i := 0) (oi := ⟨_, _, _, _, _, _⟩) (v := .pointer (some ⟨F, 0, none⟩)) rfl (by kernel_rfl) (by kernel_rfl) (by kernel_rfl) (fun _ _ _ h => h) (Or.inl ⟨by rfl, fun w' _ => by go_simp⟩) hH ?_
    simp only [Act.put, List.setIfInBounds_toArray, List.set_cons_zero, List.set_cons_succ]
    refine wpAnyH_take (i := 1) (oi := ⟨_, _, _, _, _, _⟩) (v := .int .i64 0) rfl (by kernel_rfl) (by kernel_rfl) (by kernel_rfl) (fun _ _ _ h => h) (Or.inl ⟨by rfl, fun w' h => by have a0 := cell_step h HFz.out HFc.out; go_simp⟩) hH ?_
    simp only [Act.put, List.setIfInBounds_toArray, List.set_cons_zero, List.set_cons_succ]
    refine wpAnyH_take (i := 2) (oi := ⟨_, _, _, _, _, _⟩) (v := .bool false) rfl (by kernel_rfl) (by kernel_rfl) (by kernel_rfl) (fun _ _ _ h => h) (Or.inl ⟨by rfl, fun w' _ => by go_simp⟩) hH ?_
    simp only [Act.put, List.setIfInBounds_toArray, List.set_cons_zero, List.set_cons_succ]
    refine wpAnyH_take (i := 3) (oi := ⟨_, _, _, _, _, _⟩) (v := .bool false) rfl (by kernel_rfl) (by kernel_rfl) (by kernel_rfl) (fun _ _ _ h => h) (Or.inl ⟨by rfl, fun w' _ => by go_simp⟩) hH ?_
    simp only [Act.put, List.setIfInBounds_toArray, List.set_cons_zero, List.set_cons_succ]
    refine wpAnyH_take (i := 4) (oi := ⟨_, _, _, _, _, _⟩) (v := .slice (some ⟨g, o, none⟩) 1 cap) rfl (by kernel_rfl) (by kernel_rfl) (by kernel_rfl) (fun _ _ _ h => h) (Or.inl ⟨by rfl, fun w' _ => by go_simp⟩) hH ?_
    simp only [Act.put, List.setIfInBounds_toArray, List.set_cons_zero, List.set_cons_succ]
    refine wpAnyH_take (i := 5) (oi := ⟨_, _, _, _, _, _⟩) (v := .int .i64 1) rfl (by kernel_rfl) (by kernel_rfl) (by kernel_rfl) (fun _ _ _ h => h) (Or.inl ⟨by rfl, fun w' _ => by go_simp⟩) hH ?_
    simp only [Act.put, List.setIfInBounds_toArray, List.set_cons_zero, List.set_cons_succ]
    refine wpAnyH_take (i := 6) (oi := ⟨_, _, _, _, _, _⟩) (v := .bool false) rfl (by kernel_rfl) (by kernel_rfl) (by kernel_rfl) (fun _ _ _ h => h) (Or.inl ⟨by rfl, fun w' _ => by go_simp⟩) hH ?_
    simp only [Act.put, List.setIfInBounds_toArray, List.set_cons_zero, List.set_cons_succ]
    refine wpAnyH_take (i := 7) (oi := ⟨_, _, _, _, _, _⟩) (v := .bool false) rfl (by kernel_rfl) (by kernel_rfl) (by kernel_rfl) (fun _ _ _ h => h) (Or.inl ⟨by rfl, fun w' _ => by go_simp⟩) hH ?_
    simp only [Act.put, List.setIfInBounds_toArray, List.set_cons_zero, List.set_cons_succ]
    refine wpAnyH_take (i := 8) (oi := ⟨_, _, _, _, _, _⟩) (v := .bool false) rfl (by kernel_rfl) (by kernel_rfl) (by kernel_rfl) (fun _ _ _ h => h) (Or.inl ⟨by rfl, fun w' _ => by go_simp⟩) hH ?_
    simp only [Act.put, List.setIfInBounds_toArray, List.set_cons_zero, List.set_cons_succ]
    refine wpAnyH_take (i := 9) (oi := ⟨_, _, _, _, _, _⟩) (v := .slice (some ⟨g, o, none⟩) 1 cap) rfl (by kernel_rfl) (by kernel_rfl) (by kernel_rfl) (fun _ _ _ h => h) (Or.inl ⟨by rfl, fun w' _ => by go_simp⟩) hH ?_
    simp only [Act.put, List.setIfInBounds_toArray, List.set_cons_zero, List.set_cons_succ]
    refine wpAnyH_take (i := 10) (oi := ⟨_, _, _, _, _, _⟩) (v := .pointer (some ⟨g, o, none⟩)) rfl (by kernel_rfl) (by kernel_rfl) (by kernel_rfl) (fun _ _ _ h => h) (Or.inl ⟨by rfl, fun w' _ => by go_simp⟩) hH ?_
    simp only [Act.put, List.setIfInBounds_toArray, List.set_cons_zero, List.set_cons_succ]
    refine wpAnyH_take (i := 11) (oi := ⟨_, _, _, _, _, _⟩) (v := Tk.v ⟨uk, ux, un, ua, ue⟩) rfl (by kernel_rfl) (by kernel_rfl) (by kernel_rfl) (fun _ _ _ h => h) (Or.inl ⟨by rfl, fun w' h => by obtain ⟨p0, p1, p2, p3, p4⟩ := HUc.out; have z := HUz.out; have a0 := cell_step h z p0; have a1 := cell_step h z p1; have a2 := cell_step h z p2; have a3 := cell_step h z p3; have a4 := cell_step h z p4; clear p0 p1 p2 p3 p4; go_simp⟩) hH ?_
    simp only [Act.put, List.setIfInBounds_toArray, List.set_cons_zero, List.set_cons_succ]
    refine wpAnyH_take (i := 13) (oi := ⟨_, _, _, _, _, _⟩) (v := Tk.v ⟨uk, ux, un, a, e⟩) rfl (by kernel_rfl) (by kernel_rfl) (by kernel_rfl) (fun _ _ _ h => h) (Or.inl ⟨by rfl, fun w' h => by obtain ⟨p0, p1, p2, p3, p4⟩ := HTc.out; have z := HTz.out; have a0 := cell_step h z p0; have a1 := cell_step h z p1; have a2 := cell_step h z p2; have a3 := cell_step h z p3; have a4 := cell_step h z p4; clear p0 p1 p2 p3 p4; go_simp⟩) hH ?_
    simp only [Act.put, List.setIfInBounds_toArray, List.set_cons_zero, List.set_cons_succ]
    refine wpAnyH_ready (rs := [12]) (by kernel_rfl) (by simp) ?_
    refine (AllReadyH.cons (o := ⟨_, _, _, _, _, _⟩) rfl (fun K hK => ?_) AllReadyH.nil)
    go_simp
    refine (qbare_any ⟨uk, ux, un, ua, ue⟩ _).mono ?_
    rintro x1 V1 ⟨rfl, hb⟩
    refine hK.out _ _ (below_step hH hb) (fun hH => ?_)
    clear hK K
    refine wpAnyH_ready (rs := [14]) (by kernel_rfl) (by simp) ?_
    refine (AllReadyH.cons (o := ⟨_, _, _, _, _, _⟩) rfl (fun K hK => ?_) AllReadyH.nil)
    go_simp
    refine (qbare_any ⟨uk, ux, un, a, e⟩ _).mono ?_
    rintro x1 V2 ⟨rfl, hb⟩
    refine hK.out _ _ (below_step hH hb) (fun hH => ?_)
    clear hK K
    refine wpAnyH_take (i := 15) (oi := ⟨_, _, _, _, _, _⟩) (v := .bool false) rfl (by kernel_rfl) (by kernel_rfl) (by kernel_rfl) (fun _ _ _ h => h) (Or.inl ⟨by rfl, fun w' _ => by go_simp⟩) hH ?_
    simp only [Act.put, List.setIfInBounds_toArray, List.set_cons_zero, List.set_cons_succ]
    refine wpAnyH_take (i := 16) (oi := ⟨_, _, _, _, _, _⟩) (v := .bool false) rfl (by kernel_rfl) (by kernel_rfl) (by kernel_rfl) (fun _ _ _ h => h) (Or.inl ⟨by rfl, fun w' _ => by go_simp⟩) hH ?_
    simp only [Act.put, List.setIfInBounds_toArray, List.set_cons_zero, List.set_cons_succ]
    refine wpAnyH_done (by kernel_rfl) ?_ _
    have HV : Hid (Below Y.heap.size Y V2) := hH
    clear hH hb
    go_wp2
    go_ret2
    exact ⟨ret_2 rfl rfl, below_step HBY.out HV.out⟩
end Go.Proofs.YtekjicklbgpdcabDoor
