/-
  ClauseLeaves: the walk. (Written by LE3.py.)
-/
import Derived.Test.YtaiblofbdfbjcaaLE2
import Derived.Test.YtaiblofbdfbjcaaCL21
import Derived.Deep.RegionHeld3
namespace Go.Proofs.Ytaiblofbdfbjcaa
open Go.RowKit
attribute [local go_sem ↓] Go.wp_at_zero Go.wp_at_succ

theorem ok_len {X : World} {hd : At × Value} {b : List (At × Value)} {a : Option Addr} {n cap : Nat} {t : List Te} {tv : Value} (h : Cm.ok X ⟨hd, b, .slice a n cap, t, tv⟩) : n = b.length := by
  obtain ⟨_, _, e, -⟩ := h.b
  simp only [Value.slice.injEq] at e
  exact e.2.1
set_option maxRecDepth 20000 in
set_option maxHeartbeats 4000000 in
theorem leaves_any (raw : Cm) (ll : List Tm) (lv : Value) (few : Int) (w : World) (h : raw.ok w) (hv : Ts w lv ll) :
    Calls Try.prog 6 #[raw.v, lv, .int .i64 few] w fun e w' => e = .returned (.bool true) ∧ Below w.heap.size w w' := by
  obtain ⟨⟨a, hn, cap, h1⟩, ⟨a', cap', h2⟩, ⟨a'', cap'', h3⟩, hbl, htl⟩ := h.shape
  have HMD : Hid (∀ X : World, Below w.heap.size w X → Calls Try.prog 10 #[raw.v] X fun e w' => ∃ d : Cm, e = .returned d.v ∧ d.key = madeK raw.key ∧ MCl X.heap.size w' d ∧ Below X.heap.size X w') := fun X hX => made_any raw X (h.later hX)
  have hval := made_val nmP_ok raw.key
  have hmis : mis 0 (vrs (Ck.terms (madeK raw.key))) = false := norm_mis _
  generalize madeK raw.key = KK at HMD hval hmis
  have hks := hval.ks
  obtain ⟨m, hd, hvn⟩ := num_vars hmis
  have hm72 := num_le hval hd
  have hdl : (dis (vrs (Ck.terms KK))).length = m := by rw [hd, ints_len]
  have HVC : Hid (∀ (X : World) (c : Cm), c.key = KK → c.ok X → Calls Try.prog 14 #[c.v] X fun e w' => e = .returned (.int .i64 ((m : Nat) : Int)) ∧ Below X.heap.size X w') := fun X c hk ho => by
    have := vars3_any c X ho (by rw [hk]; exact hks) (by rw [hk]; exact fun t ht hv => by have := hvn t ht hv; omega)
    rw [hk, hdl] at this; exact this
  have HCO : Hid (∀ (N : Nat) (X : World), N ≤ 72 → Below w.heap.size w X → Calls Try.prog 18 #[lv, .int .i64 (N : Int)] X fun e w' => ∃ v', e = .returned v' ∧ OwnT w' X.heap.size v' (csts ll N) ∧ Below X.heap.size X w') := fun N X hN hX => consts_any ll lv N X (hv.later hX) (by omega)
  have HIN : Hid (∀ (N : Nat) (X : World) (c : Cm) (y : Value), N ≤ 72 → KS c.key → c.ok X → OwnT X 0 y (csts ll N) → Calls Try.prog 17 #[c.v, y] X fun e w' => ∃ d : Cm, e = .returned d.v ∧ d.key = mapC (ins (csts ll N)) c.key ∧ Kp X.heap.size w' d ∧ Below X.heap.size X w') := fun N X c y hN hk ho hy => inst4_any c _ y X ho (hy.tsP.ts (by rw [csts_len]; omega)) hk
  have HBR : Hid (Bx (w.alloc (.cells raw.cs 30)) w.heap.size raw) := Bx.new h
  obtain ⟨⟨⟨⟨k, m', s⟩, nm, ls⟩, hx⟩, body, bv, tests, tv⟩ := raw
  simp only at h1 h2 h3 hbl htl
  subst h1 h2 h3
  obtain ⟨la, lc, rfl, hll, -⟩ := hv
  clear h
  go_enter Try.func6, Try.ntmps6
  go_upto_region 2 with (go_at_call 10; refine (HMD.out _ (below1 _ _)).mono ?_; clear HMD; rintro e w1 ⟨d, rfl, hdk, hmc, hb⟩; have hok := hmc.ok8 (by rw [hdk]; exact hks); obtain ⟨⟨d1, d2, d3, tz1⟩, ⟨d4, d6, tz2⟩, ⟨d7, d9, tz3⟩, -, -⟩ := (hok).shape; obtain ⟨d5, tz4⟩ : ∃ n, n = d.body.length := ⟨_, rfl⟩; obtain ⟨d8, tz5⟩ : ∃ n, n = d.tests.length := ⟨_, rfl⟩; rw [← tz4] at tz2; rw [← tz5] at tz3; obtain ⟨⟨⟨⟨dk, dn, ds⟩, dm, da⟩, dv⟩, db, dbv, dt, dtv⟩ := d; simp only at tz1 tz2 tz3; subst tz1 tz2 tz3; clear tz4 tz5; have HDK : Hid (Cm.key ⟨(⟨⟨dk, dn, ds⟩, dm, da⟩, .slice d1 d2 d3), db, .slice d4 d5 d6, dt, .slice d7 d8 d9⟩ = KK) := hdk; have HBD : Hid (Bx (w1.alloc (.cells (Cm.cs ⟨(⟨⟨dk, dn, ds⟩, dm, da⟩, .slice d1 d2 d3), db, .slice d4 d5 d6, dt, .slice d7 d8 d9⟩) 30)) w1.heap.size ⟨(⟨⟨dk, dn, ds⟩, dm, da⟩, .slice d1 d2 d3), db, .slice d4 d5 d6, dt, .slice d7 d8 d9⟩) := Bx.new hok; have HW1 : Hid (Below w.heap.size w (w1.alloc (.cells (Cm.cs ⟨(⟨⟨dk, dn, ds⟩, dm, da⟩, .slice d1 d2 d3), db, .slice d4 d5 d6, dt, .slice d7 d8 d9⟩) 30))) := below_step (below_step (below1 _ _) hb) (below1 _ _); clear hb hok hmc hdk)
  revert HBD HW1
  generalize w1.alloc (.cells #[.int .i64 dk, .int .i64 dn, .string ds, .string dm, .slice d1 d2 d3, .slice d4 d5 d6, .slice d7 d8 d9] 30) = X1
  generalize w1.heap.size = G1
  intro HBD HW1
  obtain ⟨c0, c1, c2, c3, c4, c5, c6⟩ := cseven HBD.out.b
  go_upto_region 3 with (go_at_call 14; refine (HVC.out _ ⟨(⟨⟨dk, dn, ds⟩, dm, da⟩, .slice d1 d2 d3), db, .slice d4 d5 d6, dt, .slice d7 d8 d9⟩ HDK.out HBD.out.o).mono ?_; rintro e w2 ⟨rfl, hb⟩; have HB2 : Hid (Bx w2 G1 ⟨(⟨⟨dk, dn, ds⟩, dm, da⟩, .slice d1 d2 d3), db, .slice d4 d5 d6, dt, .slice d7 d8 d9⟩) := HBD.out.later hb; have HW2 : Hid (Below w.heap.size w w2) := below_step HW1.out hb; clear hb HBD HW1 c0 c1 c2 c3 c4 c5 c6)
  have z1 : ¬ ((m : Int) < 0) := by omega
  have z2 : ¬ ((72 : Int) < (m : Int)) := by omega
  go_upto_region 5 with fail
  have HCO1 : Hid (∀ X : World, Below w2.heap.size w2 X → Calls Try.prog 18 #[.slice la ll.length lc, .int .i64 (m : Int)] X fun e w' => ∃ v', e = .returned v' ∧ OwnT w' X.heap.size v' (csts ll m) ∧ Below X.heap.size X w') := fun X hX => HCO.out m X hm72 (below_step HW2.out hX)
  have HIN1 : Hid (∀ X : World, Below w2.heap.size w2 X → ∀ y : Value, OwnT X 0 y (csts ll m) → Calls Try.prog 17 #[Cm.v ⟨(⟨⟨dk, dn, ds⟩, dm, da⟩, .slice d1 d2 d3), db, .slice d4 d5 d6, dt, .slice d7 d8 d9⟩, y] X fun e w' => ∃ x : Cm, e = .returned x.v ∧ x.key = mapC (ins (csts ll m)) KK ∧ Kp X.heap.size w' x ∧ Below X.heap.size X w') := fun X hX y hy => by have := HIN.out m X ⟨(⟨⟨dk, dn, ds⟩, dm, da⟩, .slice d1 d2 d3), db, .slice d4 d5 d6, dt, .slice d7 d8 d9⟩ y hm72 (by rw [HDK.out]; exact hks) (HB2.out.later hX).o hy; rw [HDK.out] at this; exact this
  go_cut [9] from 22 (fun s9 wx => ∃ (G : Nat) (x : Cm), s9 = .pointer (some ⟨G, 0, none⟩) ∧ Bx wx G x ∧ x.key = mapC (ins (csts ll m)) KK ∧ Below w2.heap.size w2 wx)
  case first =>
    refine wp_region_held_drew (S := fun w' => Below w2.heap.size w2 w') (by kernel_rfl) (Below.refl _ _).drew (fun hH => ?_)
    revert hH
    generalize w2.drew = V1_0
    intro hH
    refine wpAnyH_take (i := 0) (oi := ⟨_, _, _, _, _, _⟩) (v := .agg #[.int .i64 dk, .int .i64 dn, .string ds, .string dm, .slice d1 d2 d3, .slice d4 d5 d6, .slice d7 d8 d9]) rfl (by kernel_rfl) (by kernel_rfl) (by kernel_rfl) (fun _ _ _ h => h) (Or.inl ⟨by rfl, fun w' h => by obtain ⟨c0, c1, c2, c3, c4, c5, c6⟩ := cseven (CBlk.later (Hid.out HB2).b h); clear h; go_simp⟩) hH ?_
    simp only [Act.put, List.setIfInBounds_toArray, List.set_cons_zero, List.set_cons_succ]
    refine wpAnyH_take (i := 1) (oi := ⟨_, _, _, _, _, _⟩) (v := .slice la ll.length lc) rfl (by kernel_rfl) (by kernel_rfl) (by kernel_rfl) (fun _ _ _ h => h) (Or.inl ⟨by rfl, fun w' h => by clear h; go_simp⟩) hH ?_
    simp only [Act.put, List.setIfInBounds_toArray, List.set_cons_zero, List.set_cons_succ]
    refine wpAnyH_take (i := 2) (oi := ⟨_, _, _, _, _, _⟩) (v := .int .i64 (m : Int)) rfl (by kernel_rfl) (by kernel_rfl) (by kernel_rfl) (fun _ _ _ h => h) (Or.inl ⟨by rfl, fun w' h => by clear h; go_simp⟩) hH ?_
    simp only [Act.put, List.setIfInBounds_toArray, List.set_cons_zero, List.set_cons_succ]
    refine wpAnyH_ready (rs := [3, 5]) (by kernel_rfl) (by simp) ?_
    refine (AllReadyH.cons (o := ⟨_, _, _, _, _, _⟩) rfl (fun K hK => ?_) (AllReadyH.cons (o := ⟨_, _, _, _, _, _⟩) rfl (fun K hK => ?_) AllReadyH.nil))
    · go_simp
      refine (HCO1.out _ hH).mono ?_
      rintro e C1_1 ⟨y, rfl, hy, hb⟩
      have HY : Hid (OwnT C1_1 0 y (csts ll m)) := hy.mono (Nat.zero_le _)
      refine hK.out _ _ (below_step hH hb) (fun hH => ?_)
      clear hK K hb hy
      refine wpAnyH_ready (rs := [4, 5]) (by kernel_rfl) (by simp) ?_
      refine (AllReadyH.cons (o := ⟨_, _, _, _, _, _⟩) rfl (fun K hK => ?_) (AllReadyH.cons (o := ⟨_, _, _, _, _, _⟩) rfl (fun K hK => ?_) AllReadyH.nil))
      · go_simp
        refine (HIN1.out _ hH _ HY.out).mono ?_
        rintro e C1_2 ⟨xx, rfl, hxk, hxp, hb⟩
        obtain ⟨⟨x1, x2, x3, tz1⟩, ⟨x4, x6, tz2⟩, ⟨x7, x9, tz3⟩, -, -⟩ := (hxp.ok).shape
        obtain ⟨x5, tz4⟩ : ∃ n, n = xx.body.length := ⟨_, rfl⟩
        obtain ⟨x8, tz5⟩ : ∃ n, n = xx.tests.length := ⟨_, rfl⟩
        rw [← tz4] at tz2
        rw [← tz5] at tz3
        obtain ⟨⟨⟨⟨xk, xn, xs⟩, xm, xa⟩, xv⟩, xb, xbv, xt, xtv⟩ := xx
        simp only at tz1 tz2 tz3
        subst tz1 tz2 tz3
        clear tz4 tz5
        have HXK : Hid (Cm.key ⟨(⟨⟨xk, xn, xs⟩, xm, xa⟩, .slice x1 x2 x3), xb, .slice x4 x5 x6, xt, .slice x7 x8 x9⟩ = mapC (ins (csts ll m)) KK) := hxk
        have HXP : Hid (Kp _ C1_2 ⟨(⟨⟨xk, xn, xs⟩, xm, xa⟩, .slice x1 x2 x3), xb, .slice x4 x5 x6, xt, .slice x7 x8 x9⟩) := hxp
        refine hK.out _ _ (below_step hH hb) (fun hH => ?_)
        clear hK K hb hxk hxp HY
        refine wpAnyH_ready (rs := [5]) (by kernel_rfl) (by simp) ?_
        refine (AllReadyH.cons (o := ⟨_, _, _, _, _, _⟩) rfl (fun K hK => ?_) AllReadyH.nil)
        go_simp
        obtain ⟨G, hG⟩ : ∃ G, C1_2.heap.size = G := ⟨_, rfl⟩
        have FG : Hid (CBlk (C1_2.alloc (.cells #[.int .i64 0, .int .i64 0, .string ⟨#[]⟩, .string ⟨#[]⟩, .slice none 0 0, .slice none 0 0, .slice none 0 0] 30)) G zcs 30) := by have := CBlk.new C1_2 zcs 30; rw [hG] at this; exact this
        have LG : Hid (G < (C1_2.alloc (.cells #[.int .i64 0, .int .i64 0, .string ⟨#[]⟩, .string ⟨#[]⟩, .slice none 0 0, .slice none 0 0, .slice none 0 0] 30)).heap.size) := FG.out.lt
        have GG : Hid (w2.heap.size ≤ G) := by show _ ≤ _; rw [← hG]; exact hH.size
        have HXQ : Hid (Below C1_2.heap.size C1_2 (C1_2.alloc (.cells #[.int .i64 0, .int .i64 0, .string ⟨#[]⟩, .string ⟨#[]⟩, .slice none 0 0, .slice none 0 0, .slice none 0 0] 30)) ∧ C1_2.heap.size ≤ G) := ⟨below1 _ _, Nat.le_of_eq hG⟩
        rw [hG]
        refine hK.out _ _ (below_step hH (below1 _ _)) (fun hH => ?_)
        clear hK K
        revert HXQ FG LG hH
        generalize C1_2.alloc (.cells #[.int .i64 0, .int .i64 0, .string ⟨#[]⟩, .string ⟨#[]⟩, .slice none 0 0, .slice none 0 0, .slice none 0 0] 30) = U1_1
        intro FG LG HXQ hH
        clear hG
        refine wpAnyH_ready (rs := [6]) (by kernel_rfl) (by simp) ?_
        refine (AllReadyH.cons (o := ⟨_, _, _, _, _, _⟩) rfl (fun K hK => ?_) AllReadyH.nil)
        obtain ⟨c0, c1, c2, c3, c4, c5, c6⟩ := cseven FG.out
        try simp only [zcs] at c0 c1 c2 c3 c4 c5 c6
        have f0 : U1_1.frozen? ⟨G, 0, none⟩ = false := FG.out.froz
        have f1 : U1_1.frozen? ⟨G, 1, none⟩ = false := FG.out.froz
        have f2 : U1_1.frozen? ⟨G, 2, none⟩ = false := FG.out.froz
        have f3 : U1_1.frozen? ⟨G, 3, none⟩ = false := FG.out.froz
        have f4 : U1_1.frozen? ⟨G, 4, none⟩ = false := FG.out.froz
        have f5 : U1_1.frozen? ⟨G, 5, none⟩ = false := FG.out.froz
        have f6 : U1_1.frozen? ⟨G, 6, none⟩ = false := FG.out.froz
        go_simp
        clear c0 c1 c2 c3 c4 c5 c6 f0 f1 f2 f3 f4 f5 f6
        have HF : Hid (CBlk (Cput U1_1 G (.int .i64 xk) (.int .i64 xn) (.string xs) (.string xm) (.slice x1 x2 x3) (.slice x4 x5 x6) (.slice x7 x8 x9)) G #[.int .i64 xk, .int .i64 xn, .string xs, .string xm, .slice x1 x2 x3, .slice x4 x5 x6, .slice x7 x8 x9] 30) := FG.out.put7 _ _ _ _ _ _ _
        have HO : Hid (Cm.ok (Cput U1_1 G (.int .i64 xk) (.int .i64 xn) (.string xs) (.string xm) (.slice x1 x2 x3) (.slice x4 x5 x6) (.slice x7 x8 x9)) ⟨(⟨⟨xk, xn, xs⟩, xm, xa⟩, .slice x1 x2 x3), xb, .slice x4 x5 x6, xt, .slice x7 x8 x9⟩) := HXP.out.ok.later (bput7 HXQ.out.1 HXQ.out.2 _ _ _ _ _ _ _)
        refine hK.out _ _ (bput7 hH GG.out _ _ _ _ _ _ _) (fun hH => ?_)
        clear hK K
        refine wpAnyH_done (by kernel_rfl) ?_ _
        go_wp2_with fail
        go_meet
        case rel => exact ⟨G, _, rfl, ⟨HF.out, HO.out⟩, HXK.out, hH⟩
      · go_simp
        obtain ⟨G, hG⟩ : ∃ G, C1_1.heap.size = G := ⟨_, rfl⟩
        have FG : Hid (CBlk (C1_1.alloc (.cells #[.int .i64 0, .int .i64 0, .string ⟨#[]⟩, .string ⟨#[]⟩, .slice none 0 0, .slice none 0 0, .slice none 0 0] 30)) G zcs 30) := by have := CBlk.new C1_1 zcs 30; rw [hG] at this; exact this
        have LG : Hid (G < (C1_1.alloc (.cells #[.int .i64 0, .int .i64 0, .string ⟨#[]⟩, .string ⟨#[]⟩, .slice none 0 0, .slice none 0 0, .slice none 0 0] 30)).heap.size) := FG.out.lt
        have GG : Hid (w2.heap.size ≤ G) := by show _ ≤ _; rw [← hG]; exact hH.size
        have HY : Hid (OwnT (C1_1.alloc (.cells #[.int .i64 0, .int .i64 0, .string ⟨#[]⟩, .string ⟨#[]⟩, .slice none 0 0, .slice none 0 0, .slice none 0 0] 30)) 0 y (csts ll m)) := HY.out.later (below1 _ _)
        rw [hG]
        refine hK.out _ _ (below_step hH (below1 _ _)) (fun hH => ?_)
        clear hK K
        revert HY FG LG hH
        generalize C1_1.alloc (.cells #[.int .i64 0, .int .i64 0, .string ⟨#[]⟩, .string ⟨#[]⟩, .slice none 0 0, .slice none 0 0, .slice none 0 0] 30) = U2_1
        intro FG LG HY hH
        clear hG
        refine wpAnyH_ready (rs := [4]) (by kernel_rfl) (by simp) ?_
        refine (AllReadyH.cons (o := ⟨_, _, _, _, _, _⟩) rfl (fun K hK => ?_) AllReadyH.nil)
        go_simp
        refine (HIN1.out _ hH _ HY.out).mono ?_
        rintro e C1_3 ⟨xx, rfl, hxk, hxp, hb⟩
        obtain ⟨⟨x1, x2, x3, tz1⟩, ⟨x4, x6, tz2⟩, ⟨x7, x9, tz3⟩, -, -⟩ := (hxp.ok).shape
        obtain ⟨x5, tz4⟩ : ∃ n, n = xx.body.length := ⟨_, rfl⟩
        obtain ⟨x8, tz5⟩ : ∃ n, n = xx.tests.length := ⟨_, rfl⟩
        rw [← tz4] at tz2
        rw [← tz5] at tz3
        obtain ⟨⟨⟨⟨xk, xn, xs⟩, xm, xa⟩, xv⟩, xb, xbv, xt, xtv⟩ := xx
        simp only at tz1 tz2 tz3
        subst tz1 tz2 tz3
        clear tz4 tz5
        have HXK : Hid (Cm.key ⟨(⟨⟨xk, xn, xs⟩, xm, xa⟩, .slice x1 x2 x3), xb, .slice x4 x5 x6, xt, .slice x7 x8 x9⟩ = mapC (ins (csts ll m)) KK) := hxk
        have HXP : Hid (Kp _ C1_3 ⟨(⟨⟨xk, xn, xs⟩, xm, xa⟩, .slice x1 x2 x3), xb, .slice x4 x5 x6, xt, .slice x7 x8 x9⟩) := hxp
        have HLT : Hid (G < U2_1.heap.size) := LG.out
        have FG : Hid (CBlk C1_3 G zcs 30) := FG.out.later hb
        have LG : Hid (G < C1_3.heap.size) := Nat.lt_of_lt_of_le LG.out hb.size
        refine hK.out _ _ (below_step hH hb) (fun hH => ?_)
        clear hK K hb hxk hxp HY
        refine wpAnyH_ready (rs := [6]) (by kernel_rfl) (by simp) ?_
        refine (AllReadyH.cons (o := ⟨_, _, _, _, _, _⟩) rfl (fun K hK => ?_) AllReadyH.nil)
        obtain ⟨c0, c1, c2, c3, c4, c5, c6⟩ := cseven FG.out
        try simp only [zcs] at c0 c1 c2 c3 c4 c5 c6
        have f0 : C1_3.frozen? ⟨G, 0, none⟩ = false := FG.out.froz
        have f1 : C1_3.frozen? ⟨G, 1, none⟩ = false := FG.out.froz
        have f2 : C1_3.frozen? ⟨G, 2, none⟩ = false := FG.out.froz
        have f3 : C1_3.frozen? ⟨G, 3, none⟩ = false := FG.out.froz
        have f4 : C1_3.frozen? ⟨G, 4, none⟩ = false := FG.out.froz
        have f5 : C1_3.frozen? ⟨G, 5, none⟩ = false := FG.out.froz
        have f6 : C1_3.frozen? ⟨G, 6, none⟩ = false := FG.out.froz
        go_simp
        clear c0 c1 c2 c3 c4 c5 c6 f0 f1 f2 f3 f4 f5 f6
        have HF : Hid (CBlk (Cput C1_3 G (.int .i64 xk) (.int .i64 xn) (.string xs) (.string xm) (.slice x1 x2 x3) (.slice x4 x5 x6) (.slice x7 x8 x9)) G #[.int .i64 xk, .int .i64 xn, .string xs, .string xm, .slice x1 x2 x3, .slice x4 x5 x6, .slice x7 x8 x9] 30) := FG.out.put7 _ _ _ _ _ _ _
        have HO : Hid (Cm.ok (Cput C1_3 G (.int .i64 xk) (.int .i64 xn) (.string xs) (.string xm) (.slice x1 x2 x3) (.slice x4 x5 x6) (.slice x7 x8 x9)) ⟨(⟨⟨xk, xn, xs⟩, xm, xa⟩, .slice x1 x2 x3), xb, .slice x4 x5 x6, xt, .slice x7 x8 x9⟩) := (HXP.out.put7 HLT.out _ _ _ _ _ _ _).ok
        refine hK.out _ _ (bput7 hH GG.out _ _ _ _ _ _ _) (fun hH => ?_)
        clear hK K
        refine wpAnyH_done (by kernel_rfl) ?_ _
        go_wp2_with fail
        go_meet
        case rel => exact ⟨G, _, rfl, ⟨HF.out, HO.out⟩, HXK.out, hH⟩
    · go_simp
      obtain ⟨G, hG⟩ : ∃ G, V1_0.heap.size = G := ⟨_, rfl⟩
      have FG : Hid (CBlk (V1_0.alloc (.cells #[.int .i64 0, .int .i64 0, .string ⟨#[]⟩, .string ⟨#[]⟩, .slice none 0 0, .slice none 0 0, .slice none 0 0] 30)) G zcs 30) := by have := CBlk.new V1_0 zcs 30; rw [hG] at this; exact this
      have LG : Hid (G < (V1_0.alloc (.cells #[.int .i64 0, .int .i64 0, .string ⟨#[]⟩, .string ⟨#[]⟩, .slice none 0 0, .slice none 0 0, .slice none 0 0] 30)).heap.size) := FG.out.lt
      have GG : Hid (w2.heap.size ≤ G) := by show _ ≤ _; rw [← hG]; exact hH.size
      rw [hG]
      refine hK.out _ _ (below_step hH (below1 _ _)) (fun hH => ?_)
      clear hK K
      revert FG LG hH
      generalize V1_0.alloc (.cells #[.int .i64 0, .int .i64 0, .string ⟨#[]⟩, .string ⟨#[]⟩, .slice none 0 0, .slice none 0 0, .slice none 0 0] 30) = U3_1
      intro FG LG hH
      clear hG
      refine wpAnyH_ready (rs := [3]) (by kernel_rfl) (by simp) ?_
      refine (AllReadyH.cons (o := ⟨_, _, _, _, _, _⟩) rfl (fun K hK => ?_) AllReadyH.nil)
      go_simp
      refine (HCO1.out _ hH).mono ?_
      rintro e C1_4 ⟨y, rfl, hy, hb⟩
      have HY : Hid (OwnT C1_4 0 y (csts ll m)) := hy.mono (Nat.zero_le _)
      have FG : Hid (CBlk C1_4 G zcs 30) := FG.out.later hb
      have LG : Hid (G < C1_4.heap.size) := Nat.lt_of_lt_of_le LG.out hb.size
      refine hK.out _ _ (below_step hH hb) (fun hH => ?_)
      clear hK K hb hy
      refine wpAnyH_ready (rs := [4]) (by kernel_rfl) (by simp) ?_
      refine (AllReadyH.cons (o := ⟨_, _, _, _, _, _⟩) rfl (fun K hK => ?_) AllReadyH.nil)
      go_simp
      refine (HIN1.out _ hH _ HY.out).mono ?_
      rintro e C1_5 ⟨xx, rfl, hxk, hxp, hb⟩
      obtain ⟨⟨x1, x2, x3, tz1⟩, ⟨x4, x6, tz2⟩, ⟨x7, x9, tz3⟩, -, -⟩ := (hxp.ok).shape
      obtain ⟨x5, tz4⟩ : ∃ n, n = xx.body.length := ⟨_, rfl⟩
      obtain ⟨x8, tz5⟩ : ∃ n, n = xx.tests.length := ⟨_, rfl⟩
      rw [← tz4] at tz2
      rw [← tz5] at tz3
      obtain ⟨⟨⟨⟨xk, xn, xs⟩, xm, xa⟩, xv⟩, xb, xbv, xt, xtv⟩ := xx
      simp only at tz1 tz2 tz3
      subst tz1 tz2 tz3
      clear tz4 tz5
      have HXK : Hid (Cm.key ⟨(⟨⟨xk, xn, xs⟩, xm, xa⟩, .slice x1 x2 x3), xb, .slice x4 x5 x6, xt, .slice x7 x8 x9⟩ = mapC (ins (csts ll m)) KK) := hxk
      have HXP : Hid (Kp _ C1_5 ⟨(⟨⟨xk, xn, xs⟩, xm, xa⟩, .slice x1 x2 x3), xb, .slice x4 x5 x6, xt, .slice x7 x8 x9⟩) := hxp
      have HLT : Hid (G < C1_4.heap.size) := LG.out
      have FG : Hid (CBlk C1_5 G zcs 30) := FG.out.later hb
      have LG : Hid (G < C1_5.heap.size) := Nat.lt_of_lt_of_le LG.out hb.size
      refine hK.out _ _ (below_step hH hb) (fun hH => ?_)
      clear hK K hb hxk hxp HY
      refine wpAnyH_ready (rs := [6]) (by kernel_rfl) (by simp) ?_
      refine (AllReadyH.cons (o := ⟨_, _, _, _, _, _⟩) rfl (fun K hK => ?_) AllReadyH.nil)
      obtain ⟨c0, c1, c2, c3, c4, c5, c6⟩ := cseven FG.out
      try simp only [zcs] at c0 c1 c2 c3 c4 c5 c6
      have f0 : C1_5.frozen? ⟨G, 0, none⟩ = false := FG.out.froz
      have f1 : C1_5.frozen? ⟨G, 1, none⟩ = false := FG.out.froz
      have f2 : C1_5.frozen? ⟨G, 2, none⟩ = false := FG.out.froz
      have f3 : C1_5.frozen? ⟨G, 3, none⟩ = false := FG.out.froz
      have f4 : C1_5.frozen? ⟨G, 4, none⟩ = false := FG.out.froz
      have f5 : C1_5.frozen? ⟨G, 5, none⟩ = false := FG.out.froz
      have f6 : C1_5.frozen? ⟨G, 6, none⟩ = false := FG.out.froz
      go_simp
      clear c0 c1 c2 c3 c4 c5 c6 f0 f1 f2 f3 f4 f5 f6
      have HF : Hid (CBlk (Cput C1_5 G (.int .i64 xk) (.int .i64 xn) (.string xs) (.string xm) (.slice x1 x2 x3) (.slice x4 x5 x6) (.slice x7 x8 x9)) G #[.int .i64 xk, .int .i64 xn, .string xs, .string xm, .slice x1 x2 x3, .slice x4 x5 x6, .slice x7 x8 x9] 30) := FG.out.put7 _ _ _ _ _ _ _
      have HO : Hid (Cm.ok (Cput C1_5 G (.int .i64 xk) (.int .i64 xn) (.string xs) (.string xm) (.slice x1 x2 x3) (.slice x4 x5 x6) (.slice x7 x8 x9)) ⟨(⟨⟨xk, xn, xs⟩, xm, xa⟩, .slice x1 x2 x3), xb, .slice x4 x5 x6, xt, .slice x7 x8 x9⟩) := (HXP.out.put7 HLT.out _ _ _ _ _ _ _).ok
      refine hK.out _ _ (bput7 hH GG.out _ _ _ _ _ _ _) (fun hH => ?_)
      clear hK K
      refine wpAnyH_done (by kernel_rfl) ?_ _
      go_wp2_with fail
      go_meet
      case rel => exact ⟨G, _, rfl, ⟨HF.out, HO.out⟩, HXK.out, hH⟩
  case rest =>
  obtain ⟨G2, xx, rfl, hbx, hxk, hb⟩ := hcut
  rename World => w3
  obtain ⟨⟨x1, x2, x3, tz1⟩, ⟨x4, x6, tz2⟩, ⟨x7, x9, tz3⟩, -, -⟩ := (hbx.o).shape
  obtain ⟨x5, tz4⟩ : ∃ n, n = xx.body.length := ⟨_, rfl⟩
  obtain ⟨x8, tz5⟩ : ∃ n, n = xx.tests.length := ⟨_, rfl⟩
  rw [← tz4] at tz2
  rw [← tz5] at tz3
  obtain ⟨⟨⟨⟨xk, xn, xs⟩, xm, xa⟩, xv⟩, xb, xbv, xt, xtv⟩ := xx
  simp only at tz1 tz2 tz3
  subst tz1 tz2 tz3
  clear tz4 tz5
  have HXK : Hid (Cm.key ⟨(⟨⟨xk, xn, xs⟩, xm, xa⟩, .slice x1 x2 x3), xb, .slice x4 x5 x6, xt, .slice x7 x8 x9⟩ = mapC (ins (csts ll m)) KK) := hxk
  have HBX : Hid (Bx w3 G2 ⟨(⟨⟨xk, xn, xs⟩, xm, xa⟩, .slice x1 x2 x3), xb, .slice x4 x5 x6, xt, .slice x7 x8 x9⟩) := hbx
  have HB3 : Hid (Bx w3 G1 ⟨(⟨⟨dk, dn, ds⟩, dm, da⟩, .slice d1 d2 d3), db, .slice d4 d5 d6, dt, .slice d7 d8 d9⟩) := HB2.out.later hb
  have HW3 : Hid (Below w.heap.size w w3) := below_step HW2.out hb
  clear hb hxk hbx HB2 HW2 HCO1 HIN1
  have hlen : x5 = d5 := by
    have e1 := ok_len HBX.out.o
    have e2 := ok_len HB3.out.o
    have e3 : (fsts xb).length = (mapC (ins (csts ll m)) KK).2.1.length := by rw [← HXK.out]; rfl
    have e4 : (fsts db).length = KK.2.1.length := by rw [← HDK.out]; rfl
    simp [fsts, mapC] at e3 e4
    omega
  have HLEN : Hid (x5 = d5) := hlen
  have nq : ((x5 : Int) != (d5 : Int)) = false := by rw [hlen]; simp
  clear hlen
  have HVX : Hid (∀ X : World, Below w3.heap.size w3 X → Calls Try.prog 14 #[Cm.v ⟨(⟨⟨xk, xn, xs⟩, xm, xa⟩, .slice x1 x2 x3), xb, .slice x4 x5 x6, xt, .slice x7 x8 x9⟩] X fun e w' => e = .returned (.int .i64 0) ∧ Below X.heap.size X w') := fun X hX => by
    have e : vrs (Ck.terms (Cm.key ⟨(⟨⟨xk, xn, xs⟩, xm, xa⟩, .slice x1 x2 x3), xb, .slice x4 x5 x6, xt, .slice x7 x8 x9⟩)) = [] := by rw [HXK.out]; exact leaves_none ll hvn
    have := vars3_any ⟨(⟨⟨xk, xn, xs⟩, xm, xa⟩, .slice x1 x2 x3), xb, .slice x4 x5 x6, xt, .slice x7 x8 x9⟩ X (HBX.out.later hX).o (by rw [HXK.out]; exact hks.map _) (fun t ht hv => by
      have : t.n ∈ vrs (Ck.terms (Cm.key ⟨(⟨⟨xk, xn, xs⟩, xm, xa⟩, .slice x1 x2 x3), xb, .slice x4 x5 x6, xt, .slice x7 x8 x9⟩)) := List.mem_map.2 ⟨t, List.mem_filter.2 ⟨ht, hv⟩, rfl⟩
      rw [e] at this; simp at this)
    rw [e] at this; exact this
  have HSX : Hid (m = 0 → ∀ X : World, Below w3.heap.size w3 X → Calls Try.prog 12 #[Cm.v ⟨(⟨⟨xk, xn, xs⟩, xm, xa⟩, .slice x1 x2 x3), xb, .slice x4 x5 x6, xt, .slice x7 x8 x9⟩, Cm.v ⟨(⟨⟨dk, dn, ds⟩, dm, da⟩, .slice d1 d2 d3), db, .slice d4 d5 d6, dt, .slice d7 d8 d9⟩] X fun e w' => e = .returned (.bool true) ∧ Below X.heap.size X w') := fun h0 X hX => by
    have hk : Cm.key ⟨(⟨⟨xk, xn, xs⟩, xm, xa⟩, .slice x1 x2 x3), xb, .slice x4 x5 x6, xt, .slice x7 x8 x9⟩ = Cm.key ⟨(⟨⟨dk, dn, ds⟩, dm, da⟩, .slice d1 d2 d3), db, .slice d4 d5 d6, dt, .slice d7 d8 d9⟩ := by rw [HXK.out, HDK.out, h0]; exact leaves_same ll (by rw [h0] at hvn; exact hvn)
    have := sameC_any ⟨(⟨⟨xk, xn, xs⟩, xm, xa⟩, .slice x1 x2 x3), xb, .slice x4 x5 x6, xt, .slice x7 x8 x9⟩ ⟨(⟨⟨dk, dn, ds⟩, dm, da⟩, .slice d1 d2 d3), db, .slice d4 d5 d6, dt, .slice d7 d8 d9⟩ X (HBX.out.later hX).o (HB3.out.later hX).o
    rw [same_of_key hk] at this; exact this
  go_upto_region 6 with fail
  go_cut [48] from 27 (fun s48 wx => s48 = .bool false ∧ Below w3.heap.size w3 wx)
  case first =>
    obtain ⟨c0, c1, c2, c3, c4, c5, c6⟩ := cseven HBX.out.b
    obtain ⟨e0, e1, e2, e3, e4, e5, e6⟩ := cseven HB3.out.b
    by_cases hm0 : m = 0
    · have z3 : ((m : Int) == 0) = true := beq_iff_eq.2 (by omega)
      have HM0 : Hid (m = 0) := hm0
      clear hm0
      go_wp2_with (first
        | (go_at_call 14; refine (HVX.out _ (Below.refl _ _)).mono ?_; rintro e w4 ⟨rfl, hb⟩; have HQ : Hid (Below w3.heap.size w3 w4) := hb; clear c0 c1 c2 c3 c4 c5 c6 e0 e1 e2 e3 e4 e5 e6; obtain ⟨c0, c1, c2, c3, c4, c5, c6⟩ := cseven (HBX.out.b.later hb); obtain ⟨e0, e1, e2, e3, e4, e5, e6⟩ := cseven (HB3.out.b.later hb); clear hb)
        | (go_at_call 12; refine (HSX.out HM0.out _ HQ.out).mono ?_; rintro e w5 ⟨rfl, hb⟩; have HQ2 : Hid (Below w3.heap.size w3 w5) := below_step HQ.out hb; clear c0 c1 c2 c3 c4 c5 c6 e0 e1 e2 e3 e4 e5 e6; obtain ⟨c0, c1, c2, c3, c4, c5, c6⟩ := cseven (HBX.out.b.later HQ2.out); obtain ⟨e0, e1, e2, e3, e4, e5, e6⟩ := cseven (HB3.out.b.later HQ2.out); clear hb HQ))
      go_meet
      case rel => exact ⟨rfl, HQ2.out⟩
    · have z3 : ((m : Int) == 0) = false := beq_eq_false_iff_ne.2 (by omega)
      go_wp2_with (go_at_call 14; refine (HVX.out _ (Below.refl _ _)).mono ?_; rintro e w4 ⟨rfl, hb⟩; have HQ : Hid (Below w3.heap.size w3 w4) := hb; clear c0 c1 c2 c3 c4 c5 c6 e0 e1 e2 e3 e4 e5 e6; obtain ⟨c0, c1, c2, c3, c4, c5, c6⟩ := cseven (HBX.out.b.later hb); obtain ⟨e0, e1, e2, e3, e4, e5, e6⟩ := cseven (HB3.out.b.later hb); clear hb)
      go_meet
      case rel => exact ⟨rfl, HQ.out⟩
  case rest =>
  obtain ⟨rfl, hb⟩ := hcut
  rename World => w4
  have HBX4 : Hid (Bx w4 G2 ⟨(⟨⟨xk, xn, xs⟩, xm, xa⟩, .slice x1 x2 x3), xb, .slice x4 x5 x6, xt, .slice x7 x8 x9⟩) := HBX.out.later hb
  have HBD4 : Hid (Bx w4 G1 ⟨(⟨⟨dk, dn, ds⟩, dm, da⟩, .slice d1 d2 d3), db, .slice d4 d5 d6, dt, .slice d7 d8 d9⟩) := HB3.out.later hb
  have HW4 : Hid (Below w.heap.size w w4) := below_step HW3.out hb
  clear hb HBX HB3 HW3 HVX HSX
  obtain ⟨f1, hf1⟩ : ∃ f, (if 0 < m then few.tmod ((m : Int) + 1) else few) = f := ⟨_, rfl⟩
  have HF1 : Hid ((if 0 < m then few.tmod ((m : Int) + 1) else few) = f1) := hf1
  have HB1 : Hid (0 < m → -(m : Int) ≤ f1 ∧ f1 ≤ m) := fun h0 => by
    rw [if_pos h0] at hf1
    have h1 := Int.tmod_lt_of_pos few (show (0 : Int) < (m : Int) + 1 by omega)
    have h2 := Int.lt_tmod_of_pos few (show (0 : Int) < (m : Int) + 1 by omega)
    omega
  clear hf1
  go_upto_if 50 with fail
  go_cut [2] from 50 (fun s2 wx => s2 = .int .i64 f1 ∧ wx = w4)
  case first =>
    by_cases hm0 : 0 < m
    · have z3 : (0 : Int) < (m : Int) := by omega
      have z4 : ¬ ((m : Int) + 1 = 0) := by omega
      have e1 : few.tmod ((m : Int) + 1) = f1 := by have := HF1.out; rw [if_pos hm0] at this; exact this
      have HE : Hid (few.tmod ((m : Int) + 1) = f1) := e1
      have hb1 := HB1.out hm0
      clear e1
      go_wp2
      go_meet
      case rel => exact ⟨by first | rw [HE.out] | (rw [HE.out, wrap64_in _ (by omega)]) | trace_state, rfl⟩
    · have z3 : ¬ ((0 : Int) < (m : Int)) := by omega
      obtain rfl : few = f1 := by have := HF1.out; rw [if_neg hm0] at this; exact this
      go_wp2
      go_meet
      case rel => exact ⟨rfl, rfl⟩
  case rest =>
  obtain ⟨rfl, hwx⟩ := hcut
  have hwx' := hwx.symm
  clear hwx
  subst hwx'
  obtain ⟨bz, hbz⟩ : ∃ b, decide (f1 < 0 ∨ m = 0) = b := ⟨_, rfl⟩
  have HBZ : Hid (decide (f1 < 0 ∨ m = 0) = bz) := hbz
  clear hbz
  go_upto_region 10 with fail
  go_cut [60] from 55 (fun s60 wx => s60 = .bool bz ∧ wx = w4)
  case first =>
    by_cases hf0 : f1 < 0
    · obtain rfl : true = bz := by rw [← HBZ.out, decide_eq_true (Or.inl hf0)]
      go_wp2
      go_meet
      case rel => exact ⟨rfl, rfl⟩
    · by_cases hm0 : m = 0
      · obtain rfl : true = bz := by rw [← HBZ.out, decide_eq_true (Or.inr hm0)]
        have z3 : ((m : Int) == 0) = true := beq_iff_eq.2 (by omega)
        clear hm0
        go_wp2
        go_meet
        case rel => exact ⟨rfl, rfl⟩
      · obtain rfl : false = bz := by rw [← HBZ.out, decide_eq_false (by omega)]
        have z3 : ((m : Int) == 0) = false := beq_eq_false_iff_ne.2 (by omega)
        go_wp2
        go_meet
        case rel => exact ⟨rfl, rfl⟩
  case rest =>
  obtain ⟨rfl, hwx⟩ := hcut
  have hwx' := hwx.symm
  clear hwx
  subst hwx'
  obtain ⟨F, hFm, hF⟩ : ∃ F : Nat, F ≤ m ∧ (F : Int) = if bz = true then 0 else f1 := by
    have hz := HBZ.out
    cases bz
    · have := of_decide_eq_false hz
      have hb1 := HB1.out (by omega)
      exact ⟨f1.toNat, by omega, by simp; omega⟩
    · exact ⟨0, by omega, by simp⟩
  have HF : Hid ((F : Int) = if bz = true then 0 else f1) := hF
  clear hF
  go_upto_if 60 with fail
  go_cut [2] from 60 (fun s2 wx => s2 = .int .i64 (F : Int) ∧ wx = w4)
  case first =>
    cases bz
    · have e1 : (F : Int) = f1 := HF.out
      have HE : Hid ((F : Int) = f1) := e1
      clear e1
      go_wp2
      go_meet
      case rel => exact ⟨by rw [HE.out], rfl⟩
    · have e1 : (F : Int) = 0 := HF.out
      have HE : Hid ((F : Int) = 0) := e1
      clear e1
      go_wp2
      go_meet
      case rel => exact ⟨by rw [HE.out], rfl⟩
  case rest =>
  obtain ⟨rfl, hwx⟩ := hcut
  have hwx' := hwx.symm
  clear hwx
  subst hwx'
  clear HF HBZ HB1 HF1
  have HCO2 : Hid (∀ X : World, Below w4.heap.size w4 X → Calls Try.prog 18 #[.slice la ll.length lc, .int .i64 (F : Int)] X fun e w' => ∃ v', e = .returned v' ∧ OwnT w' X.heap.size v' (csts ll F) ∧ Below X.heap.size X w') := fun X hX => HCO.out F X (by omega) (below_step HW4.out hX)
  have HIN2 : Hid (∀ X : World, Below w4.heap.size w4 X → ∀ y : Value, OwnT X 0 y (csts ll F) → Calls Try.prog 17 #[Cm.v ⟨(⟨⟨dk, dn, ds⟩, dm, da⟩, .slice d1 d2 d3), db, .slice d4 d5 d6, dt, .slice d7 d8 d9⟩, y] X fun e w' => ∃ x : Cm, e = .returned x.v ∧ x.key = mapC (ins (csts ll F)) KK ∧ Kp X.heap.size w' x ∧ Below X.heap.size X w') := fun X hX y hy => by have := HIN.out F X ⟨(⟨⟨dk, dn, ds⟩, dm, da⟩, .slice d1 d2 d3), db, .slice d4 d5 d6, dt, .slice d7 d8 d9⟩ y (by omega) (by rw [HDK.out]; exact hks) (HBD4.out.later hX).o hy; rw [HDK.out] at this; exact this
  go_wp2_with fail
  go_cut [10] from 61 (fun s10 wx => ∃ (G : Nat) (x : Cm), s10 = .pointer (some ⟨G, 0, none⟩) ∧ Bx wx G x ∧ x.key = mapC (ins (csts ll F)) KK ∧ Below w4.heap.size w4 wx)
  case first =>
    refine wp_region_held_drew (S := fun w' => Below w4.heap.size w4 w') (by kernel_rfl) (Below.refl _ _).drew (fun hH => ?_)
    revert hH
    generalize w4.drew = V2_0
    intro hH
    refine wpAnyH_take (i := 0) (oi := ⟨_, _, _, _, _, _⟩) (v := .agg #[.int .i64 dk, .int .i64 dn, .string ds, .string dm, .slice d1 d2 d3, .slice d4 d5 d6, .slice d7 d8 d9]) rfl (by kernel_rfl) (by kernel_rfl) (by kernel_rfl) (fun _ _ _ h => h) (Or.inl ⟨by rfl, fun w' h => by obtain ⟨c0, c1, c2, c3, c4, c5, c6⟩ := cseven (CBlk.later (Hid.out HBD4).b h); clear h; go_simp⟩) hH ?_
    simp only [Act.put, List.setIfInBounds_toArray, List.set_cons_zero, List.set_cons_succ]
    refine wpAnyH_take (i := 1) (oi := ⟨_, _, _, _, _, _⟩) (v := .slice la ll.length lc) rfl (by kernel_rfl) (by kernel_rfl) (by kernel_rfl) (fun _ _ _ h => h) (Or.inl ⟨by rfl, fun w' h => by clear h; go_simp⟩) hH ?_
    simp only [Act.put, List.setIfInBounds_toArray, List.set_cons_zero, List.set_cons_succ]
    refine wpAnyH_take (i := 2) (oi := ⟨_, _, _, _, _, _⟩) (v := .int .i64 (F : Int)) rfl (by kernel_rfl) (by kernel_rfl) (by kernel_rfl) (fun _ _ _ h => h) (Or.inl ⟨by rfl, fun w' h => by clear h; go_simp⟩) hH ?_
    simp only [Act.put, List.setIfInBounds_toArray, List.set_cons_zero, List.set_cons_succ]
    refine wpAnyH_ready (rs := [3, 5]) (by kernel_rfl) (by simp) ?_
    refine (AllReadyH.cons (o := ⟨_, _, _, _, _, _⟩) rfl (fun K hK => ?_) (AllReadyH.cons (o := ⟨_, _, _, _, _, _⟩) rfl (fun K hK => ?_) AllReadyH.nil))
    · go_simp
      refine (HCO2.out _ hH).mono ?_
      rintro e C2_1 ⟨y, rfl, hy, hb⟩
      have HY : Hid (OwnT C2_1 0 y (csts ll F)) := hy.mono (Nat.zero_le _)
      refine hK.out _ _ (below_step hH hb) (fun hH => ?_)
      clear hK K hb hy
      refine wpAnyH_ready (rs := [4, 5]) (by kernel_rfl) (by simp) ?_
      refine (AllReadyH.cons (o := ⟨_, _, _, _, _, _⟩) rfl (fun K hK => ?_) (AllReadyH.cons (o := ⟨_, _, _, _, _, _⟩) rfl (fun K hK => ?_) AllReadyH.nil))
      · go_simp
        refine (HIN2.out _ hH _ HY.out).mono ?_
        rintro e C2_2 ⟨xx, rfl, hxk, hxp, hb⟩
        obtain ⟨⟨y1, y2, y3, tz1⟩, ⟨y4, y6, tz2⟩, ⟨y7, y9, tz3⟩, -, -⟩ := (hxp.ok).shape
        obtain ⟨y5, tz4⟩ : ∃ n, n = xx.body.length := ⟨_, rfl⟩
        obtain ⟨y8, tz5⟩ : ∃ n, n = xx.tests.length := ⟨_, rfl⟩
        rw [← tz4] at tz2
        rw [← tz5] at tz3
        obtain ⟨⟨⟨⟨yk, yn, ys⟩, ym, ya⟩, yv⟩, yb, ybv, yt, ytv⟩ := xx
        simp only at tz1 tz2 tz3
        subst tz1 tz2 tz3
        clear tz4 tz5
        have HXK : Hid (Cm.key ⟨(⟨⟨yk, yn, ys⟩, ym, ya⟩, .slice y1 y2 y3), yb, .slice y4 y5 y6, yt, .slice y7 y8 y9⟩ = mapC (ins (csts ll F)) KK) := hxk
        have HXP : Hid (Kp _ C2_2 ⟨(⟨⟨yk, yn, ys⟩, ym, ya⟩, .slice y1 y2 y3), yb, .slice y4 y5 y6, yt, .slice y7 y8 y9⟩) := hxp
        refine hK.out _ _ (below_step hH hb) (fun hH => ?_)
        clear hK K hb hxk hxp HY
        refine wpAnyH_ready (rs := [5]) (by kernel_rfl) (by simp) ?_
        refine (AllReadyH.cons (o := ⟨_, _, _, _, _, _⟩) rfl (fun K hK => ?_) AllReadyH.nil)
        go_simp
        obtain ⟨G, hG⟩ : ∃ G, C2_2.heap.size = G := ⟨_, rfl⟩
        have FG : Hid (CBlk (C2_2.alloc (.cells #[.int .i64 0, .int .i64 0, .string ⟨#[]⟩, .string ⟨#[]⟩, .slice none 0 0, .slice none 0 0, .slice none 0 0] 30)) G zcs 30) := by have := CBlk.new C2_2 zcs 30; rw [hG] at this; exact this
        have LG : Hid (G < (C2_2.alloc (.cells #[.int .i64 0, .int .i64 0, .string ⟨#[]⟩, .string ⟨#[]⟩, .slice none 0 0, .slice none 0 0, .slice none 0 0] 30)).heap.size) := FG.out.lt
        have GG : Hid (w4.heap.size ≤ G) := by show _ ≤ _; rw [← hG]; exact hH.size
        have HXQ : Hid (Below C2_2.heap.size C2_2 (C2_2.alloc (.cells #[.int .i64 0, .int .i64 0, .string ⟨#[]⟩, .string ⟨#[]⟩, .slice none 0 0, .slice none 0 0, .slice none 0 0] 30)) ∧ C2_2.heap.size ≤ G) := ⟨below1 _ _, Nat.le_of_eq hG⟩
        rw [hG]
        refine hK.out _ _ (below_step hH (below1 _ _)) (fun hH => ?_)
        clear hK K
        revert HXQ FG LG hH
        generalize C2_2.alloc (.cells #[.int .i64 0, .int .i64 0, .string ⟨#[]⟩, .string ⟨#[]⟩, .slice none 0 0, .slice none 0 0, .slice none 0 0] 30) = U1_2
        intro FG LG HXQ hH
        clear hG
        refine wpAnyH_ready (rs := [6]) (by kernel_rfl) (by simp) ?_
        refine (AllReadyH.cons (o := ⟨_, _, _, _, _, _⟩) rfl (fun K hK => ?_) AllReadyH.nil)
        obtain ⟨c0, c1, c2, c3, c4, c5, c6⟩ := cseven FG.out
        try simp only [zcs] at c0 c1 c2 c3 c4 c5 c6
        have f0 : U1_2.frozen? ⟨G, 0, none⟩ = false := FG.out.froz
        have f1 : U1_2.frozen? ⟨G, 1, none⟩ = false := FG.out.froz
        have f2 : U1_2.frozen? ⟨G, 2, none⟩ = false := FG.out.froz
        have f3 : U1_2.frozen? ⟨G, 3, none⟩ = false := FG.out.froz
        have f4 : U1_2.frozen? ⟨G, 4, none⟩ = false := FG.out.froz
        have f5 : U1_2.frozen? ⟨G, 5, none⟩ = false := FG.out.froz
        have f6 : U1_2.frozen? ⟨G, 6, none⟩ = false := FG.out.froz
        go_simp
        clear c0 c1 c2 c3 c4 c5 c6 f0 f1 f2 f3 f4 f5 f6
        have HF : Hid (CBlk (Cput U1_2 G (.int .i64 yk) (.int .i64 yn) (.string ys) (.string ym) (.slice y1 y2 y3) (.slice y4 y5 y6) (.slice y7 y8 y9)) G #[.int .i64 yk, .int .i64 yn, .string ys, .string ym, .slice y1 y2 y3, .slice y4 y5 y6, .slice y7 y8 y9] 30) := FG.out.put7 _ _ _ _ _ _ _
        have HO : Hid (Cm.ok (Cput U1_2 G (.int .i64 yk) (.int .i64 yn) (.string ys) (.string ym) (.slice y1 y2 y3) (.slice y4 y5 y6) (.slice y7 y8 y9)) ⟨(⟨⟨yk, yn, ys⟩, ym, ya⟩, .slice y1 y2 y3), yb, .slice y4 y5 y6, yt, .slice y7 y8 y9⟩) := HXP.out.ok.later (bput7 HXQ.out.1 HXQ.out.2 _ _ _ _ _ _ _)
        refine hK.out _ _ (bput7 hH GG.out _ _ _ _ _ _ _) (fun hH => ?_)
        clear hK K
        refine wpAnyH_done (by kernel_rfl) ?_ _
        go_wp2_with fail
        go_meet
        case rel => exact ⟨G, _, rfl, ⟨HF.out, HO.out⟩, HXK.out, hH⟩
      · go_simp
        obtain ⟨G, hG⟩ : ∃ G, C2_1.heap.size = G := ⟨_, rfl⟩
        have FG : Hid (CBlk (C2_1.alloc (.cells #[.int .i64 0, .int .i64 0, .string ⟨#[]⟩, .string ⟨#[]⟩, .slice none 0 0, .slice none 0 0, .slice none 0 0] 30)) G zcs 30) := by have := CBlk.new C2_1 zcs 30; rw [hG] at this; exact this
        have LG : Hid (G < (C2_1.alloc (.cells #[.int .i64 0, .int .i64 0, .string ⟨#[]⟩, .string ⟨#[]⟩, .slice none 0 0, .slice none 0 0, .slice none 0 0] 30)).heap.size) := FG.out.lt
        have GG : Hid (w4.heap.size ≤ G) := by show _ ≤ _; rw [← hG]; exact hH.size
        have HY : Hid (OwnT (C2_1.alloc (.cells #[.int .i64 0, .int .i64 0, .string ⟨#[]⟩, .string ⟨#[]⟩, .slice none 0 0, .slice none 0 0, .slice none 0 0] 30)) 0 y (csts ll F)) := HY.out.later (below1 _ _)
        rw [hG]
        refine hK.out _ _ (below_step hH (below1 _ _)) (fun hH => ?_)
        clear hK K
        revert HY FG LG hH
        generalize C2_1.alloc (.cells #[.int .i64 0, .int .i64 0, .string ⟨#[]⟩, .string ⟨#[]⟩, .slice none 0 0, .slice none 0 0, .slice none 0 0] 30) = U2_2
        intro FG LG HY hH
        clear hG
        refine wpAnyH_ready (rs := [4]) (by kernel_rfl) (by simp) ?_
        refine (AllReadyH.cons (o := ⟨_, _, _, _, _, _⟩) rfl (fun K hK => ?_) AllReadyH.nil)
        go_simp
        refine (HIN2.out _ hH _ HY.out).mono ?_
        rintro e C2_3 ⟨xx, rfl, hxk, hxp, hb⟩
        obtain ⟨⟨y1, y2, y3, tz1⟩, ⟨y4, y6, tz2⟩, ⟨y7, y9, tz3⟩, -, -⟩ := (hxp.ok).shape
        obtain ⟨y5, tz4⟩ : ∃ n, n = xx.body.length := ⟨_, rfl⟩
        obtain ⟨y8, tz5⟩ : ∃ n, n = xx.tests.length := ⟨_, rfl⟩
        rw [← tz4] at tz2
        rw [← tz5] at tz3
        obtain ⟨⟨⟨⟨yk, yn, ys⟩, ym, ya⟩, yv⟩, yb, ybv, yt, ytv⟩ := xx
        simp only at tz1 tz2 tz3
        subst tz1 tz2 tz3
        clear tz4 tz5
        have HXK : Hid (Cm.key ⟨(⟨⟨yk, yn, ys⟩, ym, ya⟩, .slice y1 y2 y3), yb, .slice y4 y5 y6, yt, .slice y7 y8 y9⟩ = mapC (ins (csts ll F)) KK) := hxk
        have HXP : Hid (Kp _ C2_3 ⟨(⟨⟨yk, yn, ys⟩, ym, ya⟩, .slice y1 y2 y3), yb, .slice y4 y5 y6, yt, .slice y7 y8 y9⟩) := hxp
        have HLT : Hid (G < U2_2.heap.size) := LG.out
        have FG : Hid (CBlk C2_3 G zcs 30) := FG.out.later hb
        have LG : Hid (G < C2_3.heap.size) := Nat.lt_of_lt_of_le LG.out hb.size
        refine hK.out _ _ (below_step hH hb) (fun hH => ?_)
        clear hK K hb hxk hxp HY
        refine wpAnyH_ready (rs := [6]) (by kernel_rfl) (by simp) ?_
        refine (AllReadyH.cons (o := ⟨_, _, _, _, _, _⟩) rfl (fun K hK => ?_) AllReadyH.nil)
        obtain ⟨c0, c1, c2, c3, c4, c5, c6⟩ := cseven FG.out
        try simp only [zcs] at c0 c1 c2 c3 c4 c5 c6
        have f0 : C2_3.frozen? ⟨G, 0, none⟩ = false := FG.out.froz
        have f1 : C2_3.frozen? ⟨G, 1, none⟩ = false := FG.out.froz
        have f2 : C2_3.frozen? ⟨G, 2, none⟩ = false := FG.out.froz
        have f3 : C2_3.frozen? ⟨G, 3, none⟩ = false := FG.out.froz
        have f4 : C2_3.frozen? ⟨G, 4, none⟩ = false := FG.out.froz
        have f5 : C2_3.frozen? ⟨G, 5, none⟩ = false := FG.out.froz
        have f6 : C2_3.frozen? ⟨G, 6, none⟩ = false := FG.out.froz
        go_simp
        clear c0 c1 c2 c3 c4 c5 c6 f0 f1 f2 f3 f4 f5 f6
        have HF : Hid (CBlk (Cput C2_3 G (.int .i64 yk) (.int .i64 yn) (.string ys) (.string ym) (.slice y1 y2 y3) (.slice y4 y5 y6) (.slice y7 y8 y9)) G #[.int .i64 yk, .int .i64 yn, .string ys, .string ym, .slice y1 y2 y3, .slice y4 y5 y6, .slice y7 y8 y9] 30) := FG.out.put7 _ _ _ _ _ _ _
        have HO : Hid (Cm.ok (Cput C2_3 G (.int .i64 yk) (.int .i64 yn) (.string ys) (.string ym) (.slice y1 y2 y3) (.slice y4 y5 y6) (.slice y7 y8 y9)) ⟨(⟨⟨yk, yn, ys⟩, ym, ya⟩, .slice y1 y2 y3), yb, .slice y4 y5 y6, yt, .slice y7 y8 y9⟩) := (HXP.out.put7 HLT.out _ _ _ _ _ _ _).ok
        refine hK.out _ _ (bput7 hH GG.out _ _ _ _ _ _ _) (fun hH => ?_)
        clear hK K
        refine wpAnyH_done (by kernel_rfl) ?_ _
        go_wp2_with fail
        go_meet
        case rel => exact ⟨G, _, rfl, ⟨HF.out, HO.out⟩, HXK.out, hH⟩
    · go_simp
      obtain ⟨G, hG⟩ : ∃ G, V2_0.heap.size = G := ⟨_, rfl⟩
      have FG : Hid (CBlk (V2_0.alloc (.cells #[.int .i64 0, .int .i64 0, .string ⟨#[]⟩, .string ⟨#[]⟩, .slice none 0 0, .slice none 0 0, .slice none 0 0] 30)) G zcs 30) := by have := CBlk.new V2_0 zcs 30; rw [hG] at this; exact this
      have LG : Hid (G < (V2_0.alloc (.cells #[.int .i64 0, .int .i64 0, .string ⟨#[]⟩, .string ⟨#[]⟩, .slice none 0 0, .slice none 0 0, .slice none 0 0] 30)).heap.size) := FG.out.lt
      have GG : Hid (w4.heap.size ≤ G) := by show _ ≤ _; rw [← hG]; exact hH.size
      rw [hG]
      refine hK.out _ _ (below_step hH (below1 _ _)) (fun hH => ?_)
      clear hK K
      revert FG LG hH
      generalize V2_0.alloc (.cells #[.int .i64 0, .int .i64 0, .string ⟨#[]⟩, .string ⟨#[]⟩, .slice none 0 0, .slice none 0 0, .slice none 0 0] 30) = U3_2
      intro FG LG hH
      clear hG
      refine wpAnyH_ready (rs := [3]) (by kernel_rfl) (by simp) ?_
      refine (AllReadyH.cons (o := ⟨_, _, _, _, _, _⟩) rfl (fun K hK => ?_) AllReadyH.nil)
      go_simp
      refine (HCO2.out _ hH).mono ?_
      rintro e C2_4 ⟨y, rfl, hy, hb⟩
      have HY : Hid (OwnT C2_4 0 y (csts ll F)) := hy.mono (Nat.zero_le _)
      have FG : Hid (CBlk C2_4 G zcs 30) := FG.out.later hb
      have LG : Hid (G < C2_4.heap.size) := Nat.lt_of_lt_of_le LG.out hb.size
      refine hK.out _ _ (below_step hH hb) (fun hH => ?_)
      clear hK K hb hy
      refine wpAnyH_ready (rs := [4]) (by kernel_rfl) (by simp) ?_
      refine (AllReadyH.cons (o := ⟨_, _, _, _, _, _⟩) rfl (fun K hK => ?_) AllReadyH.nil)
      go_simp
      refine (HIN2.out _ hH _ HY.out).mono ?_
      rintro e C2_5 ⟨xx, rfl, hxk, hxp, hb⟩
      obtain ⟨⟨y1, y2, y3, tz1⟩, ⟨y4, y6, tz2⟩, ⟨y7, y9, tz3⟩, -, -⟩ := (hxp.ok).shape
      obtain ⟨y5, tz4⟩ : ∃ n, n = xx.body.length := ⟨_, rfl⟩
      obtain ⟨y8, tz5⟩ : ∃ n, n = xx.tests.length := ⟨_, rfl⟩
      rw [← tz4] at tz2
      rw [← tz5] at tz3
      obtain ⟨⟨⟨⟨yk, yn, ys⟩, ym, ya⟩, yv⟩, yb, ybv, yt, ytv⟩ := xx
      simp only at tz1 tz2 tz3
      subst tz1 tz2 tz3
      clear tz4 tz5
      have HXK : Hid (Cm.key ⟨(⟨⟨yk, yn, ys⟩, ym, ya⟩, .slice y1 y2 y3), yb, .slice y4 y5 y6, yt, .slice y7 y8 y9⟩ = mapC (ins (csts ll F)) KK) := hxk
      have HXP : Hid (Kp _ C2_5 ⟨(⟨⟨yk, yn, ys⟩, ym, ya⟩, .slice y1 y2 y3), yb, .slice y4 y5 y6, yt, .slice y7 y8 y9⟩) := hxp
      have HLT : Hid (G < C2_4.heap.size) := LG.out
      have FG : Hid (CBlk C2_5 G zcs 30) := FG.out.later hb
      have LG : Hid (G < C2_5.heap.size) := Nat.lt_of_lt_of_le LG.out hb.size
      refine hK.out _ _ (below_step hH hb) (fun hH => ?_)
      clear hK K hb hxk hxp HY
      refine wpAnyH_ready (rs := [6]) (by kernel_rfl) (by simp) ?_
      refine (AllReadyH.cons (o := ⟨_, _, _, _, _, _⟩) rfl (fun K hK => ?_) AllReadyH.nil)
      obtain ⟨c0, c1, c2, c3, c4, c5, c6⟩ := cseven FG.out
      try simp only [zcs] at c0 c1 c2 c3 c4 c5 c6
      have f0 : C2_5.frozen? ⟨G, 0, none⟩ = false := FG.out.froz
      have f1 : C2_5.frozen? ⟨G, 1, none⟩ = false := FG.out.froz
      have f2 : C2_5.frozen? ⟨G, 2, none⟩ = false := FG.out.froz
      have f3 : C2_5.frozen? ⟨G, 3, none⟩ = false := FG.out.froz
      have f4 : C2_5.frozen? ⟨G, 4, none⟩ = false := FG.out.froz
      have f5 : C2_5.frozen? ⟨G, 5, none⟩ = false := FG.out.froz
      have f6 : C2_5.frozen? ⟨G, 6, none⟩ = false := FG.out.froz
      go_simp
      clear c0 c1 c2 c3 c4 c5 c6 f0 f1 f2 f3 f4 f5 f6
      have HF : Hid (CBlk (Cput C2_5 G (.int .i64 yk) (.int .i64 yn) (.string ys) (.string ym) (.slice y1 y2 y3) (.slice y4 y5 y6) (.slice y7 y8 y9)) G #[.int .i64 yk, .int .i64 yn, .string ys, .string ym, .slice y1 y2 y3, .slice y4 y5 y6, .slice y7 y8 y9] 30) := FG.out.put7 _ _ _ _ _ _ _
      have HO : Hid (Cm.ok (Cput C2_5 G (.int .i64 yk) (.int .i64 yn) (.string ys) (.string ym) (.slice y1 y2 y3) (.slice y4 y5 y6) (.slice y7 y8 y9)) ⟨(⟨⟨yk, yn, ys⟩, ym, ya⟩, .slice y1 y2 y3), yb, .slice y4 y5 y6, yt, .slice y7 y8 y9⟩) := (HXP.out.put7 HLT.out _ _ _ _ _ _ _).ok
      refine hK.out _ _ (bput7 hH GG.out _ _ _ _ _ _ _) (fun hH => ?_)
      clear hK K
      refine wpAnyH_done (by kernel_rfl) ?_ _
      go_wp2_with fail
      go_meet
      case rel => exact ⟨G, _, rfl, ⟨HF.out, HO.out⟩, HXK.out, hH⟩
  case rest =>
  obtain ⟨G3, yy, rfl, hby, hyk, hb⟩ := hcut
  rename World => w5
  obtain ⟨⟨y1, y2, y3, tz1⟩, ⟨y4, y6, tz2⟩, ⟨y7, y9, tz3⟩, -, -⟩ := (hby.o).shape
  obtain ⟨y5, tz4⟩ : ∃ n, n = yy.body.length := ⟨_, rfl⟩
  obtain ⟨y8, tz5⟩ : ∃ n, n = yy.tests.length := ⟨_, rfl⟩
  rw [← tz4] at tz2
  rw [← tz5] at tz3
  obtain ⟨⟨⟨⟨yk, yn, ys⟩, ym, ya⟩, yv⟩, yb, ybv, yt, ytv⟩ := yy
  simp only at tz1 tz2 tz3
  subst tz1 tz2 tz3
  clear tz4 tz5
  have HYK : Hid (Cm.key ⟨(⟨⟨yk, yn, ys⟩, ym, ya⟩, .slice y1 y2 y3), yb, .slice y4 y5 y6, yt, .slice y7 y8 y9⟩ = mapC (ins (csts ll F)) KK) := hyk
  have HBY : Hid (Bx w5 G3 ⟨(⟨⟨yk, yn, ys⟩, ym, ya⟩, .slice y1 y2 y3), yb, .slice y4 y5 y6, yt, .slice y7 y8 y9⟩) := hby
  have HBX5 : Hid (Bx w5 G2 ⟨(⟨⟨xk, xn, xs⟩, xm, xa⟩, .slice x1 x2 x3), xb, .slice x4 x5 x6, xt, .slice x7 x8 x9⟩) := HBX4.out.later hb
  have HW5 : Hid (Below w.heap.size w w5) := below_step HW4.out hb
  clear hb hyk hby HBX4 HBD4 HW4 HCO2 HIN2
  have HCO3 : Hid (∀ X : World, Below w5.heap.size w5 X → Calls Try.prog 18 #[.slice la ll.length lc, .int .i64 (m : Int)] X fun e w' => ∃ v', e = .returned v' ∧ OwnT w' X.heap.size v' (csts ll m) ∧ Below X.heap.size X w') := fun X hX => HCO.out m X hm72 (below_step HW5.out hX)
  have HIN3 : Hid (∀ X : World, Below w5.heap.size w5 X → ∀ y : Value, OwnT X 0 y (csts ll m) → Calls Try.prog 17 #[Cm.v ⟨(⟨⟨yk, yn, ys⟩, ym, ya⟩, .slice y1 y2 y3), yb, .slice y4 y5 y6, yt, .slice y7 y8 y9⟩, y] X fun e w' => ∃ x : Cm, e = .returned x.v ∧ x.key = mapC (ins (csts ll m)) KK ∧ Kp X.heap.size w' x ∧ Below X.heap.size X w') := fun X hX y hy => by have := HIN.out m X ⟨(⟨⟨yk, yn, ys⟩, ym, ya⟩, .slice y1 y2 y3), yb, .slice y4 y5 y6, yt, .slice y7 y8 y9⟩ y hm72 (by rw [HYK.out]; exact hks.map _) (HBY.out.later hX).o hy; rw [HYK.out, leaves_twice ll hFm] at this; exact this
  go_wp2_with fail
  go_cut [11] from 66 (fun s11 wx => ∃ (G : Nat) (x : Cm), s11 = .pointer (some ⟨G, 0, none⟩) ∧ Bx wx G x ∧ x.key = mapC (ins (csts ll m)) KK ∧ Below w5.heap.size w5 wx)
  case first =>
    refine wp_region_held_drew (S := fun w' => Below w5.heap.size w5 w') (by kernel_rfl) (Below.refl _ _).drew (fun hH => ?_)
    revert hH
    generalize w5.drew = V3_0
    intro hH
    refine wpAnyH_take (i := 0) (oi := ⟨_, _, _, _, _, _⟩) (v := .agg #[.int .i64 yk, .int .i64 yn, .string ys, .string ym, .slice y1 y2 y3, .slice y4 y5 y6, .slice y7 y8 y9]) rfl (by kernel_rfl) (by kernel_rfl) (by kernel_rfl) (fun _ _ _ h => h) (Or.inl ⟨by rfl, fun w' h => by obtain ⟨c0, c1, c2, c3, c4, c5, c6⟩ := cseven (CBlk.later (Hid.out HBY).b h); clear h; go_simp⟩) hH ?_
    simp only [Act.put, List.setIfInBounds_toArray, List.set_cons_zero, List.set_cons_succ]
    refine wpAnyH_take (i := 1) (oi := ⟨_, _, _, _, _, _⟩) (v := .slice la ll.length lc) rfl (by kernel_rfl) (by kernel_rfl) (by kernel_rfl) (fun _ _ _ h => h) (Or.inl ⟨by rfl, fun w' h => by clear h; go_simp⟩) hH ?_
    simp only [Act.put, List.setIfInBounds_toArray, List.set_cons_zero, List.set_cons_succ]
    refine wpAnyH_take (i := 2) (oi := ⟨_, _, _, _, _, _⟩) (v := .int .i64 (m : Int)) rfl (by kernel_rfl) (by kernel_rfl) (by kernel_rfl) (fun _ _ _ h => h) (Or.inl ⟨by rfl, fun w' h => by clear h; go_simp⟩) hH ?_
    simp only [Act.put, List.setIfInBounds_toArray, List.set_cons_zero, List.set_cons_succ]
    refine wpAnyH_ready (rs := [3, 5]) (by kernel_rfl) (by simp) ?_
    refine (AllReadyH.cons (o := ⟨_, _, _, _, _, _⟩) rfl (fun K hK => ?_) (AllReadyH.cons (o := ⟨_, _, _, _, _, _⟩) rfl (fun K hK => ?_) AllReadyH.nil))
    · go_simp
      refine (HCO3.out _ hH).mono ?_
      rintro e C3_1 ⟨y, rfl, hy, hb⟩
      have HY : Hid (OwnT C3_1 0 y (csts ll m)) := hy.mono (Nat.zero_le _)
      refine hK.out _ _ (below_step hH hb) (fun hH => ?_)
      clear hK K hb hy
      refine wpAnyH_ready (rs := [4, 5]) (by kernel_rfl) (by simp) ?_
      refine (AllReadyH.cons (o := ⟨_, _, _, _, _, _⟩) rfl (fun K hK => ?_) (AllReadyH.cons (o := ⟨_, _, _, _, _, _⟩) rfl (fun K hK => ?_) AllReadyH.nil))
      · go_simp
        refine (HIN3.out _ hH _ HY.out).mono ?_
        rintro e C3_2 ⟨xx, rfl, hxk, hxp, hb⟩
        obtain ⟨⟨z1, z2, z3, tz1⟩, ⟨z4, z6, tz2⟩, ⟨z7, z9, tz3⟩, -, -⟩ := (hxp.ok).shape
        obtain ⟨z5, tz4⟩ : ∃ n, n = xx.body.length := ⟨_, rfl⟩
        obtain ⟨z8, tz5⟩ : ∃ n, n = xx.tests.length := ⟨_, rfl⟩
        rw [← tz4] at tz2
        rw [← tz5] at tz3
        obtain ⟨⟨⟨⟨zk, zn, zs⟩, zm, za⟩, zv⟩, zb, zbv, zt, ztv⟩ := xx
        simp only at tz1 tz2 tz3
        subst tz1 tz2 tz3
        clear tz4 tz5
        have HXK : Hid (Cm.key ⟨(⟨⟨zk, zn, zs⟩, zm, za⟩, .slice z1 z2 z3), zb, .slice z4 z5 z6, zt, .slice z7 z8 z9⟩ = mapC (ins (csts ll m)) KK) := hxk
        have HXP : Hid (Kp _ C3_2 ⟨(⟨⟨zk, zn, zs⟩, zm, za⟩, .slice z1 z2 z3), zb, .slice z4 z5 z6, zt, .slice z7 z8 z9⟩) := hxp
        refine hK.out _ _ (below_step hH hb) (fun hH => ?_)
        clear hK K hb hxk hxp HY
        refine wpAnyH_ready (rs := [5]) (by kernel_rfl) (by simp) ?_
        refine (AllReadyH.cons (o := ⟨_, _, _, _, _, _⟩) rfl (fun K hK => ?_) AllReadyH.nil)
        go_simp
        obtain ⟨G, hG⟩ : ∃ G, C3_2.heap.size = G := ⟨_, rfl⟩
        have FG : Hid (CBlk (C3_2.alloc (.cells #[.int .i64 0, .int .i64 0, .string ⟨#[]⟩, .string ⟨#[]⟩, .slice none 0 0, .slice none 0 0, .slice none 0 0] 30)) G zcs 30) := by have := CBlk.new C3_2 zcs 30; rw [hG] at this; exact this
        have LG : Hid (G < (C3_2.alloc (.cells #[.int .i64 0, .int .i64 0, .string ⟨#[]⟩, .string ⟨#[]⟩, .slice none 0 0, .slice none 0 0, .slice none 0 0] 30)).heap.size) := FG.out.lt
        have GG : Hid (w5.heap.size ≤ G) := by show _ ≤ _; rw [← hG]; exact hH.size
        have HXQ : Hid (Below C3_2.heap.size C3_2 (C3_2.alloc (.cells #[.int .i64 0, .int .i64 0, .string ⟨#[]⟩, .string ⟨#[]⟩, .slice none 0 0, .slice none 0 0, .slice none 0 0] 30)) ∧ C3_2.heap.size ≤ G) := ⟨below1 _ _, Nat.le_of_eq hG⟩
        rw [hG]
        refine hK.out _ _ (below_step hH (below1 _ _)) (fun hH => ?_)
        clear hK K
        revert HXQ FG LG hH
        generalize C3_2.alloc (.cells #[.int .i64 0, .int .i64 0, .string ⟨#[]⟩, .string ⟨#[]⟩, .slice none 0 0, .slice none 0 0, .slice none 0 0] 30) = U1_3
        intro FG LG HXQ hH
        clear hG
        refine wpAnyH_ready (rs := [6]) (by kernel_rfl) (by simp) ?_
        refine (AllReadyH.cons (o := ⟨_, _, _, _, _, _⟩) rfl (fun K hK => ?_) AllReadyH.nil)
        obtain ⟨c0, c1, c2, c3, c4, c5, c6⟩ := cseven FG.out
        try simp only [zcs] at c0 c1 c2 c3 c4 c5 c6
        have f0 : U1_3.frozen? ⟨G, 0, none⟩ = false := FG.out.froz
        have f1 : U1_3.frozen? ⟨G, 1, none⟩ = false := FG.out.froz
        have f2 : U1_3.frozen? ⟨G, 2, none⟩ = false := FG.out.froz
        have f3 : U1_3.frozen? ⟨G, 3, none⟩ = false := FG.out.froz
        have f4 : U1_3.frozen? ⟨G, 4, none⟩ = false := FG.out.froz
        have f5 : U1_3.frozen? ⟨G, 5, none⟩ = false := FG.out.froz
        have f6 : U1_3.frozen? ⟨G, 6, none⟩ = false := FG.out.froz
        go_simp
        clear c0 c1 c2 c3 c4 c5 c6 f0 f1 f2 f3 f4 f5 f6
        have HF : Hid (CBlk (Cput U1_3 G (.int .i64 zk) (.int .i64 zn) (.string zs) (.string zm) (.slice z1 z2 z3) (.slice z4 z5 z6) (.slice z7 z8 z9)) G #[.int .i64 zk, .int .i64 zn, .string zs, .string zm, .slice z1 z2 z3, .slice z4 z5 z6, .slice z7 z8 z9] 30) := FG.out.put7 _ _ _ _ _ _ _
        have HO : Hid (Cm.ok (Cput U1_3 G (.int .i64 zk) (.int .i64 zn) (.string zs) (.string zm) (.slice z1 z2 z3) (.slice z4 z5 z6) (.slice z7 z8 z9)) ⟨(⟨⟨zk, zn, zs⟩, zm, za⟩, .slice z1 z2 z3), zb, .slice z4 z5 z6, zt, .slice z7 z8 z9⟩) := HXP.out.ok.later (bput7 HXQ.out.1 HXQ.out.2 _ _ _ _ _ _ _)
        refine hK.out _ _ (bput7 hH GG.out _ _ _ _ _ _ _) (fun hH => ?_)
        clear hK K
        refine wpAnyH_done (by kernel_rfl) ?_ _
        go_wp2_with fail
        go_meet
        case rel => exact ⟨G, _, rfl, ⟨HF.out, HO.out⟩, HXK.out, hH⟩
      · go_simp
        obtain ⟨G, hG⟩ : ∃ G, C3_1.heap.size = G := ⟨_, rfl⟩
        have FG : Hid (CBlk (C3_1.alloc (.cells #[.int .i64 0, .int .i64 0, .string ⟨#[]⟩, .string ⟨#[]⟩, .slice none 0 0, .slice none 0 0, .slice none 0 0] 30)) G zcs 30) := by have := CBlk.new C3_1 zcs 30; rw [hG] at this; exact this
        have LG : Hid (G < (C3_1.alloc (.cells #[.int .i64 0, .int .i64 0, .string ⟨#[]⟩, .string ⟨#[]⟩, .slice none 0 0, .slice none 0 0, .slice none 0 0] 30)).heap.size) := FG.out.lt
        have GG : Hid (w5.heap.size ≤ G) := by show _ ≤ _; rw [← hG]; exact hH.size
        have HY : Hid (OwnT (C3_1.alloc (.cells #[.int .i64 0, .int .i64 0, .string ⟨#[]⟩, .string ⟨#[]⟩, .slice none 0 0, .slice none 0 0, .slice none 0 0] 30)) 0 y (csts ll m)) := HY.out.later (below1 _ _)
        rw [hG]
        refine hK.out _ _ (below_step hH (below1 _ _)) (fun hH => ?_)
        clear hK K
        revert HY FG LG hH
        generalize C3_1.alloc (.cells #[.int .i64 0, .int .i64 0, .string ⟨#[]⟩, .string ⟨#[]⟩, .slice none 0 0, .slice none 0 0, .slice none 0 0] 30) = U2_3
        intro FG LG HY hH
        clear hG
        refine wpAnyH_ready (rs := [4]) (by kernel_rfl) (by simp) ?_
        refine (AllReadyH.cons (o := ⟨_, _, _, _, _, _⟩) rfl (fun K hK => ?_) AllReadyH.nil)
        go_simp
        refine (HIN3.out _ hH _ HY.out).mono ?_
        rintro e C3_3 ⟨xx, rfl, hxk, hxp, hb⟩
        obtain ⟨⟨z1, z2, z3, tz1⟩, ⟨z4, z6, tz2⟩, ⟨z7, z9, tz3⟩, -, -⟩ := (hxp.ok).shape
        obtain ⟨z5, tz4⟩ : ∃ n, n = xx.body.length := ⟨_, rfl⟩
        obtain ⟨z8, tz5⟩ : ∃ n, n = xx.tests.length := ⟨_, rfl⟩
        rw [← tz4] at tz2
        rw [← tz5] at tz3
        obtain ⟨⟨⟨⟨zk, zn, zs⟩, zm, za⟩, zv⟩, zb, zbv, zt, ztv⟩ := xx
        simp only at tz1 tz2 tz3
        subst tz1 tz2 tz3
        clear tz4 tz5
        have HXK : Hid (Cm.key ⟨(⟨⟨zk, zn, zs⟩, zm, za⟩, .slice z1 z2 z3), zb, .slice z4 z5 z6, zt, .slice z7 z8 z9⟩ = mapC (ins (csts ll m)) KK) := hxk
        have HXP : Hid (Kp _ C3_3 ⟨(⟨⟨zk, zn, zs⟩, zm, za⟩, .slice z1 z2 z3), zb, .slice z4 z5 z6, zt, .slice z7 z8 z9⟩) := hxp
        have HLT : Hid (G < U2_3.heap.size) := LG.out
        have FG : Hid (CBlk C3_3 G zcs 30) := FG.out.later hb
        have LG : Hid (G < C3_3.heap.size) := Nat.lt_of_lt_of_le LG.out hb.size
        refine hK.out _ _ (below_step hH hb) (fun hH => ?_)
        clear hK K hb hxk hxp HY
        refine wpAnyH_ready (rs := [6]) (by kernel_rfl) (by simp) ?_
        refine (AllReadyH.cons (o := ⟨_, _, _, _, _, _⟩) rfl (fun K hK => ?_) AllReadyH.nil)
        obtain ⟨c0, c1, c2, c3, c4, c5, c6⟩ := cseven FG.out
        try simp only [zcs] at c0 c1 c2 c3 c4 c5 c6
        have f0 : C3_3.frozen? ⟨G, 0, none⟩ = false := FG.out.froz
        have f1 : C3_3.frozen? ⟨G, 1, none⟩ = false := FG.out.froz
        have f2 : C3_3.frozen? ⟨G, 2, none⟩ = false := FG.out.froz
        have f3 : C3_3.frozen? ⟨G, 3, none⟩ = false := FG.out.froz
        have f4 : C3_3.frozen? ⟨G, 4, none⟩ = false := FG.out.froz
        have f5 : C3_3.frozen? ⟨G, 5, none⟩ = false := FG.out.froz
        have f6 : C3_3.frozen? ⟨G, 6, none⟩ = false := FG.out.froz
        go_simp
        clear c0 c1 c2 c3 c4 c5 c6 f0 f1 f2 f3 f4 f5 f6
        have HF : Hid (CBlk (Cput C3_3 G (.int .i64 zk) (.int .i64 zn) (.string zs) (.string zm) (.slice z1 z2 z3) (.slice z4 z5 z6) (.slice z7 z8 z9)) G #[.int .i64 zk, .int .i64 zn, .string zs, .string zm, .slice z1 z2 z3, .slice z4 z5 z6, .slice z7 z8 z9] 30) := FG.out.put7 _ _ _ _ _ _ _
        have HO : Hid (Cm.ok (Cput C3_3 G (.int .i64 zk) (.int .i64 zn) (.string zs) (.string zm) (.slice z1 z2 z3) (.slice z4 z5 z6) (.slice z7 z8 z9)) ⟨(⟨⟨zk, zn, zs⟩, zm, za⟩, .slice z1 z2 z3), zb, .slice z4 z5 z6, zt, .slice z7 z8 z9⟩) := (HXP.out.put7 HLT.out _ _ _ _ _ _ _).ok
        refine hK.out _ _ (bput7 hH GG.out _ _ _ _ _ _ _) (fun hH => ?_)
        clear hK K
        refine wpAnyH_done (by kernel_rfl) ?_ _
        go_wp2_with fail
        go_meet
        case rel => exact ⟨G, _, rfl, ⟨HF.out, HO.out⟩, HXK.out, hH⟩
    · go_simp
      obtain ⟨G, hG⟩ : ∃ G, V3_0.heap.size = G := ⟨_, rfl⟩
      have FG : Hid (CBlk (V3_0.alloc (.cells #[.int .i64 0, .int .i64 0, .string ⟨#[]⟩, .string ⟨#[]⟩, .slice none 0 0, .slice none 0 0, .slice none 0 0] 30)) G zcs 30) := by have := CBlk.new V3_0 zcs 30; rw [hG] at this; exact this
      have LG : Hid (G < (V3_0.alloc (.cells #[.int .i64 0, .int .i64 0, .string ⟨#[]⟩, .string ⟨#[]⟩, .slice none 0 0, .slice none 0 0, .slice none 0 0] 30)).heap.size) := FG.out.lt
      have GG : Hid (w5.heap.size ≤ G) := by show _ ≤ _; rw [← hG]; exact hH.size
      rw [hG]
      refine hK.out _ _ (below_step hH (below1 _ _)) (fun hH => ?_)
      clear hK K
      revert FG LG hH
      generalize V3_0.alloc (.cells #[.int .i64 0, .int .i64 0, .string ⟨#[]⟩, .string ⟨#[]⟩, .slice none 0 0, .slice none 0 0, .slice none 0 0] 30) = U3_3
      intro FG LG hH
      clear hG
      refine wpAnyH_ready (rs := [3]) (by kernel_rfl) (by simp) ?_
      refine (AllReadyH.cons (o := ⟨_, _, _, _, _, _⟩) rfl (fun K hK => ?_) AllReadyH.nil)
      go_simp
      refine (HCO3.out _ hH).mono ?_
      rintro e C3_4 ⟨y, rfl, hy, hb⟩
      have HY : Hid (OwnT C3_4 0 y (csts ll m)) := hy.mono (Nat.zero_le _)
      have FG : Hid (CBlk C3_4 G zcs 30) := FG.out.later hb
      have LG : Hid (G < C3_4.heap.size) := Nat.lt_of_lt_of_le LG.out hb.size
      refine hK.out _ _ (below_step hH hb) (fun hH => ?_)
      clear hK K hb hy
      refine wpAnyH_ready (rs := [4]) (by kernel_rfl) (by simp) ?_
      refine (AllReadyH.cons (o := ⟨_, _, _, _, _, _⟩) rfl (fun K hK => ?_) AllReadyH.nil)
      go_simp
      refine (HIN3.out _ hH _ HY.out).mono ?_
      rintro e C3_5 ⟨xx, rfl, hxk, hxp, hb⟩
      obtain ⟨⟨z1, z2, z3, tz1⟩, ⟨z4, z6, tz2⟩, ⟨z7, z9, tz3⟩, -, -⟩ := (hxp.ok).shape
      obtain ⟨z5, tz4⟩ : ∃ n, n = xx.body.length := ⟨_, rfl⟩
      obtain ⟨z8, tz5⟩ : ∃ n, n = xx.tests.length := ⟨_, rfl⟩
      rw [← tz4] at tz2
      rw [← tz5] at tz3
      obtain ⟨⟨⟨⟨zk, zn, zs⟩, zm, za⟩, zv⟩, zb, zbv, zt, ztv⟩ := xx
      simp only at tz1 tz2 tz3
      subst tz1 tz2 tz3
      clear tz4 tz5
      have HXK : Hid (Cm.key ⟨(⟨⟨zk, zn, zs⟩, zm, za⟩, .slice z1 z2 z3), zb, .slice z4 z5 z6, zt, .slice z7 z8 z9⟩ = mapC (ins (csts ll m)) KK) := hxk
      have HXP : Hid (Kp _ C3_5 ⟨(⟨⟨zk, zn, zs⟩, zm, za⟩, .slice z1 z2 z3), zb, .slice z4 z5 z6, zt, .slice z7 z8 z9⟩) := hxp
      have HLT : Hid (G < C3_4.heap.size) := LG.out
      have FG : Hid (CBlk C3_5 G zcs 30) := FG.out.later hb
      have LG : Hid (G < C3_5.heap.size) := Nat.lt_of_lt_of_le LG.out hb.size
      refine hK.out _ _ (below_step hH hb) (fun hH => ?_)
      clear hK K hb hxk hxp HY
      refine wpAnyH_ready (rs := [6]) (by kernel_rfl) (by simp) ?_
      refine (AllReadyH.cons (o := ⟨_, _, _, _, _, _⟩) rfl (fun K hK => ?_) AllReadyH.nil)
      obtain ⟨c0, c1, c2, c3, c4, c5, c6⟩ := cseven FG.out
      try simp only [zcs] at c0 c1 c2 c3 c4 c5 c6
      have f0 : C3_5.frozen? ⟨G, 0, none⟩ = false := FG.out.froz
      have f1 : C3_5.frozen? ⟨G, 1, none⟩ = false := FG.out.froz
      have f2 : C3_5.frozen? ⟨G, 2, none⟩ = false := FG.out.froz
      have f3 : C3_5.frozen? ⟨G, 3, none⟩ = false := FG.out.froz
      have f4 : C3_5.frozen? ⟨G, 4, none⟩ = false := FG.out.froz
      have f5 : C3_5.frozen? ⟨G, 5, none⟩ = false := FG.out.froz
      have f6 : C3_5.frozen? ⟨G, 6, none⟩ = false := FG.out.froz
      go_simp
      clear c0 c1 c2 c3 c4 c5 c6 f0 f1 f2 f3 f4 f5 f6
      have HF : Hid (CBlk (Cput C3_5 G (.int .i64 zk) (.int .i64 zn) (.string zs) (.string zm) (.slice z1 z2 z3) (.slice z4 z5 z6) (.slice z7 z8 z9)) G #[.int .i64 zk, .int .i64 zn, .string zs, .string zm, .slice z1 z2 z3, .slice z4 z5 z6, .slice z7 z8 z9] 30) := FG.out.put7 _ _ _ _ _ _ _
      have HO : Hid (Cm.ok (Cput C3_5 G (.int .i64 zk) (.int .i64 zn) (.string zs) (.string zm) (.slice z1 z2 z3) (.slice z4 z5 z6) (.slice z7 z8 z9)) ⟨(⟨⟨zk, zn, zs⟩, zm, za⟩, .slice z1 z2 z3), zb, .slice z4 z5 z6, zt, .slice z7 z8 z9⟩) := (HXP.out.put7 HLT.out _ _ _ _ _ _ _).ok
      refine hK.out _ _ (bput7 hH GG.out _ _ _ _ _ _ _) (fun hH => ?_)
      clear hK K
      refine wpAnyH_done (by kernel_rfl) ?_ _
      go_wp2_with fail
      go_meet
      case rel => exact ⟨G, _, rfl, ⟨HF.out, HO.out⟩, HXK.out, hH⟩
  case rest =>
  obtain ⟨G4, zz, rfl, hbz, hzk, hb⟩ := hcut
  rename World => w6
  obtain ⟨⟨z1, z2, z3, tz1⟩, ⟨z4, z6, tz2⟩, ⟨z7, z9, tz3⟩, -, -⟩ := (hbz.o).shape
  obtain ⟨z5, tz4⟩ : ∃ n, n = zz.body.length := ⟨_, rfl⟩
  obtain ⟨z8, tz5⟩ : ∃ n, n = zz.tests.length := ⟨_, rfl⟩
  rw [← tz4] at tz2
  rw [← tz5] at tz3
  obtain ⟨⟨⟨⟨zk, zn, zs⟩, zm, za⟩, zv⟩, zb, zbv, zt, ztv⟩ := zz
  simp only at tz1 tz2 tz3
  subst tz1 tz2 tz3
  clear tz4 tz5
  have HZK : Hid (Cm.key ⟨(⟨⟨zk, zn, zs⟩, zm, za⟩, .slice z1 z2 z3), zb, .slice z4 z5 z6, zt, .slice z7 z8 z9⟩ = mapC (ins (csts ll m)) KK) := hzk
  have HBZ : Hid (Bx w6 G4 ⟨(⟨⟨zk, zn, zs⟩, zm, za⟩, .slice z1 z2 z3), zb, .slice z4 z5 z6, zt, .slice z7 z8 z9⟩) := hbz
  have HBX6 : Hid (Bx w6 G2 ⟨(⟨⟨xk, xn, xs⟩, xm, xa⟩, .slice x1 x2 x3), xb, .slice x4 x5 x6, xt, .slice x7 x8 x9⟩) := HBX5.out.later hb
  have HBY6 : Hid (Bx w6 G3 ⟨(⟨⟨yk, yn, ys⟩, ym, ya⟩, .slice y1 y2 y3), yb, .slice y4 y5 y6, yt, .slice y7 y8 y9⟩) := HBY.out.later hb
  have HW6 : Hid (Below w.heap.size w w6) := below_step HW5.out hb
  clear hb hzk hbz HBX5 HBY HW5 HCO3 HIN3
  have HVY : Hid (∀ X : World, Below w6.heap.size w6 X → Calls Try.prog 14 #[Cm.v ⟨(⟨⟨yk, yn, ys⟩, ym, ya⟩, .slice y1 y2 y3), yb, .slice y4 y5 y6, yt, .slice y7 y8 y9⟩] X fun e w' => e = .returned (.int .i64 ((m - F : Nat) : Int)) ∧ Below X.heap.size X w') := fun X hX => by
    have e : (dis (vrs (Ck.terms (Cm.key ⟨(⟨⟨yk, yn, ys⟩, ym, ya⟩, .slice y1 y2 y3), yb, .slice y4 y5 y6, yt, .slice y7 y8 y9⟩)))).length = m - F := by rw [HYK.out]; exact leaves_some ll hd
    have := vars3_any ⟨(⟨⟨yk, yn, ys⟩, ym, ya⟩, .slice y1 y2 y3), yb, .slice y4 y5 y6, yt, .slice y7 y8 y9⟩ X (HBY6.out.later hX).o (by rw [HYK.out]; exact hks.map _) (fun t ht hv => by
      rw [HYK.out, mapC_terms] at ht
      obtain ⟨u, hu, rfl⟩ := List.mem_map.1 ht
      cases hv' : u.var
      · rw [ins_non hv', hv'] at hv; cases hv
      · by_cases hn : u.n < F
        · rw [ins_in hv' hn, con_novar (cst_con _ _)] at hv; cases hv
        · rw [ins_out hv' (by omega)]; have := hvn u hu hv'; omega)
    rw [e] at this; exact this
  have HSZ : Hid (∀ X : World, Below w6.heap.size w6 X → Calls Try.prog 12 #[Cm.v ⟨(⟨⟨zk, zn, zs⟩, zm, za⟩, .slice z1 z2 z3), zb, .slice z4 z5 z6, zt, .slice z7 z8 z9⟩, Cm.v ⟨(⟨⟨xk, xn, xs⟩, xm, xa⟩, .slice x1 x2 x3), xb, .slice x4 x5 x6, xt, .slice x7 x8 x9⟩] X fun e w' => e = .returned (.bool true) ∧ Below X.heap.size X w') := fun X hX => by
    have := sameC_any ⟨(⟨⟨zk, zn, zs⟩, zm, za⟩, .slice z1 z2 z3), zb, .slice z4 z5 z6, zt, .slice z7 z8 z9⟩ ⟨(⟨⟨xk, xn, xs⟩, xm, xa⟩, .slice x1 x2 x3), xb, .slice x4 x5 x6, xt, .slice x7 x8 x9⟩ X (HBZ.out.later hX).o (HBX6.out.later hX).o
    rw [same_of_key (HZK.out.trans HXK.out.symm)] at this; exact this
  obtain ⟨c0, c1, c2, c3, c4, c5, c6⟩ := cseven HBY6.out.b
  have hsub : ((m - F : Nat) : Int) = (m : Int) - (F : Int) := by omega
  rw [hsub] at HVY
  have z5 : (m : Int) - (F : Int) ≤ 72 := by omega
  have z6 : 0 ≤ (m : Int) - (F : Int) := by omega
  clear hsub
  go_wp2_with (first
    | (go_at_call 14; refine (HVY.out _ (Below.refl _ _)).mono ?_; rintro e w7 ⟨rfl, hb⟩; have HQ : Hid (Below w6.heap.size w6 w7) := hb; clear c0 c1 c2 c3 c4 c5 c6; obtain ⟨c0, c1, c2, c3, c4, c5, c6⟩ := cseven (HBZ.out.b.later hb); obtain ⟨e0, e1, e2, e3, e4, e5, e6⟩ := cseven (HBX6.out.b.later hb); clear hb)
    | (go_at_call 12; refine (HSZ.out _ HQ.out).mono ?_; rintro e w8 ⟨rfl, hb⟩; have HQ2 : Hid (Below w6.heap.size w6 w8) := below_step HQ.out hb; clear hb HQ c0 c1 c2 c3 c4 c5 c6 e0 e1 e2 e3 e4 e5 e6)
    | (go_at_call 13; refine (first3_any _).mono ?_; rintro e w9 ⟨rfl, hb9⟩; have HQ3 : Hid (Below w6.heap.size w6 w9) := below_step HQ2.out hb9; clear hb9 HQ2))
  go_ret
  exact ⟨rfl, below_step HW6.out HQ3.out⟩
end Go.Proofs.Ytaiblofbdfbjcaa
