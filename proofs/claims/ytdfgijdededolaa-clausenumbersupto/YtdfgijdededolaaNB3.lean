/-
  ClauseNumbers: the walk. (Written by NB3.py.)
-/
import Derived.Test.YtdfgijdededolaaNB2
import Derived.Test.YtdfgijdededolaaCL22
import Derived.Deep.RegionHeld3
import Derived.Deep.CutRange
namespace Go.Proofs.Ytdfgijdededolaa
open Go.RowKit
attribute [local go_sem ↓] Go.wp_at_zero Go.wp_at_succ

set_option maxRecDepth 20000 in
set_option maxHeartbeats 4000000 in
theorem numbers_any (ca : Cm) (up : Int) (w : World) (ha : ca.ok w) (hs : (Ck.terms ca.key).length ≤ 4000000) (hw : ∀ t ∈ Ck.terms ca.key, t.var = true → (Lit.int .i64 t.n).wf = true) :
    Calls Try.prog 5 #[ca.v, .int .i64 up] w fun e w' => e = .returned (.bool true) ∧ Below w.heap.size w w' := by
  have HM1 : Hid (∀ X : World, Below w.heap.size w X → Calls Try.prog 10 #[ca.v] X fun e w' => ∃ d : Cm, e = .returned d.v ∧ d.key = madeK ca.key ∧ MCl X.heap.size w' d ∧ Below X.heap.size X w') := fun X hX => made_any ca X (ha.later hX)
  have va := made_val nmP_ok ca.key
  have ma : mis 0 (vrs (Ck.terms (madeK ca.key))) = false := norm_mis _
  generalize madeK ca.key = KA at HM1 va ma
  have HKS : Hid (KS KA) := va.ks
  obtain ⟨m, hd, hvn⟩ := num_vars ma
  have hm72 := num_le va hd
  have hdl : (dis (vrs (Ck.terms KA))).length = m := by rw [hd, ints_len]
  obtain ⟨UP, hUP⟩ : ∃ u, (if up.tmod 73 < 0 then up.tmod 73 + 73 else up.tmod 73) = u := ⟨_, rfl⟩
  have hu1 := Int.tmod_lt_of_pos up (show (0 : Int) < 73 by omega)
  have hu2 := Int.lt_tmod_of_pos up (show (0 : Int) < 73 by omega)
  have hu3 : 0 ≤ UP ∧ UP < 73 := by rw [← hUP]; split <;> omega
  have HUP : Hid ((if up.tmod 73 < 0 then up.tmod 73 + 73 else up.tmod 73) = UP) := hUP
  have hr := rn_ren (up := UP) hm72 hvn
  have hnb : ∀ t ∈ Ck.terms (mapC (ins (rnvs UP m)) KA), t.var = true → t.n < 2000 := fun t ht hv => by
    rw [mapC_terms] at ht
    obtain ⟨u, hu, rfl⟩ := List.mem_map.1 ht
    rw [hr.var hu] at hv
    rw [ins_rn hv (hvn u hu hv)]
    have := (rnv_rng UP u.n.toNat).2
    omega
  have hksP : KS (mapC (ins (rnvs UP m)) KA) := va.ks.map _
  have HVC : Hid (∀ (X : World) (c : Cm), c.key = KA → c.ok X → Calls Try.prog 14 #[c.v] X fun e w' => e = .returned (.int .i64 (m : Int)) ∧ Below X.heap.size X w') := fun X c hK ho => by
    have := vars3_any c X ho (by rw [hK]; exact va.ks) (by rw [hK]; exact fun t ht hv => by have := hvn t ht hv; omega)
    rw [hK, hdl] at this; exact this
  have HCH : Hid (∀ (X : World) (c : Cm), c.key = KA → c.ok X → Calls Try.prog 9 #[c.v] X fun e w' => e = .returned (.int .i64 0) ∧ Below X.heap.size X w') := fun X c hK ho => by
    have := check9_any c X ho (wf_of (fun t ht hvt => by rw [hK] at ht; have := hvn t ht hvt; omega) (by rw [hK]; exact Nat.le_trans va.ks.len (by omega)))
    rw [show c.chk = 0 by rw [← hK] at va ma; exact chk_zero va.e va.t va.bl va.tl va.h va.s ma] at this
    exact this
  have HRN : Hid (∀ (X : World) (c : Cm), c.key = KA → c.ok X → Calls Try.prog 15 #[c.v, .int .i64 (m : Int), .int .i64 UP] X fun e w' => ∃ d : Cm, e = .returned d.v ∧ d.key = mapC (ins (rnvs UP m)) KA ∧ d.ok w' ∧ Below X.heap.size X w') := fun X c hK ho => by
    have := renamed_any c m UP X ho (by rw [hK]; exact va.ks) hm72 hu3.1 hu3.2
    rw [hK] at this; exact this
  have HVD : Hid (∀ (X : World) (c : Cm), c.key = mapC (ins (rnvs UP m)) KA → c.ok X → Calls Try.prog 14 #[c.v] X fun e w' => e = .returned (.int .i64 (m : Int)) ∧ Below X.heap.size X w') := fun X c hK ho => by
    have := vars3_any c X ho (by rw [hK]; exact hksP) (by rw [hK]; exact fun t ht hv => by have := hnb t ht hv; omega)
    rw [hK, ren_len hr, hdl] at this; exact this
  have HCD : Hid (0 < m → ∀ (X : World) (c : Cm), c.key = mapC (ins (rnvs UP m)) KA → c.ok X → Calls Try.prog 9 #[c.v] X fun e w' => e = .returned (.int .i64 35) ∧ Below X.heap.size X w') := fun h0 X c hK ho => by
    have := check9_any c X ho (wf_of (fun t ht hvt => by rw [hK] at ht; have := hnb t ht hvt; omega) (by rw [hK]; exact Nat.le_trans hksP.len (by omega)))
    rw [rn_chk va hd hm72 h0 hvn hK] at this
    exact this
  have HND : Hid (∀ (X : World) (c : Cm), c.key = mapC (ins (rnvs UP m)) KA → c.ok X → Calls Try.prog 16 #[c.v] X fun e w' => ∃ d : Cm, e = .returned d.v ∧ d.key = KA ∧ d.ok w' ∧ Below X.heap.size X w') := fun X c hK ho => by
    have := normal5_any c X ho (by rw [hK]; exact Nat.le_trans hksP.len (by omega)) (by rw [hK]; exact fun t ht hv => wf_small (var_nn hv) (by have := hnb t ht hv; omega))
    rw [hK, ren_norm hr, norm_id ma] at this; exact this
  obtain ⟨KN, hKN⟩ : ∃ K, normC ca.key = K := ⟨_, rfl⟩
  obtain ⟨NV, hNV⟩ : ∃ n, (dis (vrs (Ck.terms ca.key))).length = n := ⟨_, rfl⟩
  have hns : (Ck.terms KN).length ≤ 4000000 := by rw [← hKN, norm_terms]; exact hs
  have hnn : ∀ t ∈ Ck.terms KN, t.var = true → t.n < 4000000 := fun t ht hv => by rw [← hKN] at ht; exact norm_small hs ht hv
  have hnw : ∀ t ∈ Ck.terms KN, t.var = true → (Lit.int .i64 t.n).wf = true := fun t ht hv => by
    have h1 := hnn t ht hv
    have h2 := var_nn hv
    simp only [Lit.wf, IntKind.min, IntKind.max, IntKind.signed, IntKind.bits, Bool.and_eq_true, decide_eq_true_eq, if_true]
    omega
  have varsG : ∀ (K : Ck) (X : World) (c : Cm), c.key = K → (Ck.terms K).length ≤ 4000000 → (∀ t ∈ Ck.terms K, t.var = true → (Lit.int .i64 t.n).wf = true) → c.ok X → Calls Try.prog 14 #[c.v] X fun e w' => e = .returned (.int .i64 ((dis (vrs (Ck.terms K))).length : Nat)) ∧ Below X.heap.size X w' := fun K X c hK hl hwf ho => by
    have e : c.vars = vrs (Ck.terms K) := by rw [← hK, ← key_terms]; rfl
    rw [← e]
    refine vars_any c X ho (fun v hv => ?_) ?_
    · rw [e] at hv
      obtain ⟨t, ht, rfl⟩ := List.mem_map.1 hv
      obtain ⟨ht, hvt⟩ := List.mem_filter.1 ht
      exact hwf t ht hvt
    · rw [e]
      have := vrs_len (Ck.terms K)
      omega
  have HNR : Hid (∀ (X : World) (c : Cm), c.key = ca.key → c.ok X → Calls Try.prog 16 #[c.v] X fun e w' => ∃ d : Cm, e = .returned d.v ∧ d.key = KN ∧ d.ok w' ∧ Below X.heap.size X w') := fun X c hK ho => by
    have := normal5_any c X ho (by rw [hK]; exact hs) (by rw [hK]; exact hw)
    rw [hK, hKN] at this; exact this
  have HNN : Hid (∀ (X : World) (c : Cm), c.key = KN → c.ok X → Calls Try.prog 16 #[c.v] X fun e w' => ∃ d : Cm, e = .returned d.v ∧ d.key = KN ∧ d.ok w' ∧ Below X.heap.size X w') := fun X c hK ho => by
    have := normal5_any c X ho (by rw [hK]; exact hns) (by rw [hK]; exact hnw)
    have e2 : normC KN = KN := by rw [← hKN]; exact norm_twice _
    rw [hK, e2] at this; exact this
  have HVN : Hid (∀ (X : World) (c : Cm), c.key = KN → c.ok X → Calls Try.prog 14 #[c.v] X fun e w' => e = .returned (.int .i64 (NV : Int)) ∧ Below X.heap.size X w') := fun X c hK ho => by
    have := varsG KN X c hK hns hnw ho
    have e2 : (dis (vrs (Ck.terms KN))).length = NV := by rw [← hKN, norm_len]; exact hNV
    rw [e2] at this; exact this
  have HVW : Hid (∀ (X : World) (c : Cm), c.key = ca.key → c.ok X → Calls Try.prog 14 #[c.v] X fun e w' => e = .returned (.int .i64 (NV : Int)) ∧ Below X.heap.size X w') := fun X c hK ho => by
    have := varsG ca.key X c hK hs hw ho
    rw [hNV] at this; exact this
  obtain ⟨KR, hKR⟩ : ∃ K, ca.key = K := ⟨_, rfl⟩
  rw [hKR] at HNR HVW
  have HRK : Hid (ca.key = KR) := hKR
  have HBR : Hid (Bx (w.alloc (.cells ca.cs 30)) w.heap.size ca) := Bx.new ha
  have hok0 := ha
  clear hKN hNV hns hnn hnw varsG hKR hs hw va ma hd hvn hdl hu3 hUP hr hnb hksP ha
  obtain ⟨⟨r1, r2, r3, tz1⟩, ⟨r4, r6, tz2⟩, ⟨r7, r9, tz3⟩, -, -⟩ := (hok0).shape
  obtain ⟨r5, tz4⟩ : ∃ n, n = ca.body.length := ⟨_, rfl⟩
  obtain ⟨r8, tz5⟩ : ∃ n, n = ca.tests.length := ⟨_, rfl⟩
  rw [← tz4] at tz2
  rw [← tz5] at tz3
  obtain ⟨⟨⟨⟨rk, rn, rs⟩, rm, ra⟩, rv⟩, rb, rbv, rt, rtv⟩ := ca
  simp only at tz1 tz2 tz3
  subst tz1 tz2 tz3
  clear tz4 tz5
  have HRK : Hid (Cm.key ⟨(⟨⟨rk, rn, rs⟩, rm, ra⟩, .slice r1 r2 r3), rb, .slice r4 r5 r6, rt, .slice r7 r8 r9⟩ = KR) := HRK
  clear hok0
  have z1 : ¬ ((m : Int) < 0) := by omega
  have z2 : ¬ ((72 : Int) < (m : Int)) := by omega
  go_enter Try.func5, Try.ntmps5
  go_upto_region 2 with (go_at_call 10; refine (HM1.out _ (below1 _ _)).mono ?_; clear HM1; rintro x wq ⟨dd, rfl, hqk, hmc, hb⟩; have hqo := hmc.ok8 (by rw [hqk]; exact HKS.out); obtain ⟨⟨d1, d2, d3, tz1⟩, ⟨d4, d6, tz2⟩, ⟨d7, d9, tz3⟩, -, -⟩ := (hqo).shape; obtain ⟨d5, tz4⟩ : ∃ n, n = dd.body.length := ⟨_, rfl⟩; obtain ⟨d8, tz5⟩ : ∃ n, n = dd.tests.length := ⟨_, rfl⟩; rw [← tz4] at tz2; rw [← tz5] at tz3; obtain ⟨⟨⟨⟨dk, dn, ds⟩, dm, da⟩, dv⟩, db, dbv, dt, dtv⟩ := dd; simp only at tz1 tz2 tz3; subst tz1 tz2 tz3; clear tz4 tz5; have N0 : Hid (Bx (wq.alloc (.cells (Cm.cs ⟨(⟨⟨dk, dn, ds⟩, dm, da⟩, .slice d1 d2 d3), db, .slice d4 d5 d6, dt, .slice d7 d8 d9⟩) 30)) wq.heap.size ⟨(⟨⟨dk, dn, ds⟩, dm, da⟩, .slice d1 d2 d3), db, .slice d4 d5 d6, dt, .slice d7 d8 d9⟩) := Bx.new hqo; have N1 : Hid (Cm.key ⟨(⟨⟨dk, dn, ds⟩, dm, da⟩, .slice d1 d2 d3), db, .slice d4 d5 d6, dt, .slice d7 d8 d9⟩ = KA) := hqk; have K0 : Hid (Bx (wq.alloc (.cells (Cm.cs ⟨(⟨⟨dk, dn, ds⟩, dm, da⟩, .slice d1 d2 d3), db, .slice d4 d5 d6, dt, .slice d7 d8 d9⟩) 30)) w.heap.size ⟨(⟨⟨rk, rn, rs⟩, rm, ra⟩, .slice r1 r2 r3), rb, .slice r4 r5 r6, rt, .slice r7 r8 r9⟩) := (HBR.out.later hb).later (below1 _ _); have KW : Hid (Below w.heap.size w (wq.alloc (.cells (Cm.cs ⟨(⟨⟨dk, dn, ds⟩, dm, da⟩, .slice d1 d2 d3), db, .slice d4 d5 d6, dt, .slice d7 d8 d9⟩) 30))) := below_step (below_step (below1 _ _) hb) (below1 _ _); clear hb hmc hqo hqk HBR)
  revert N0 K0 KW
  generalize wq.alloc (.cells #[.int .i64 dk, .int .i64 dn, .string ds, .string dm, .slice d1 d2 d3, .slice d4 d5 d6, .slice d7 d8 d9] 30) = w1
  obtain ⟨Gr, hGr⟩ : ∃ G, w.heap.size = G := ⟨_, rfl⟩
  generalize wq.heap.size = Gd
  rw [hGr]
  intro N0 K0 KW
  have HD := N0
  have HDK := N1
  have HR := K0
  have HW : Hid (Below w.heap.size w w1) := by rw [hGr]; exact KW.out
  clear N0 N1 K0 KW hGr
  go_upto_if 14 with fail
  go_cut [1] from 14 (fun s1 wx => s1 = .int .i64 UP ∧ wx = w1)
  case first =>
    by_cases hu0 : up.tmod 73 < 0
    · have HE : Hid (up.tmod 73 + 73 = UP) := by have := HUP.out; rw [if_pos hu0] at this; exact this
      go_wp2
      go_meet
      case rel => exact ⟨by rw [HE.out], rfl⟩
    · have HE : Hid (up.tmod 73 = UP) := by have := HUP.out; rw [if_neg hu0] at this; exact this
      go_wp2
      go_meet
      case rel => exact ⟨by rw [HE.out], rfl⟩
  case rest =>
  obtain ⟨rfl, hwx⟩ := hcut
  have hwx' := hwx.symm
  clear hwx
  subst hwx'
  clear HUP hu1 hu2
  obtain ⟨c0, c1, c2, c3, c4, c5, c6⟩ := cseven HD.out.b
  go_upto_region 6 with (go_at_call 14; refine (HVC.out _ ⟨(⟨⟨dk, dn, ds⟩, dm, da⟩, .slice d1 d2 d3), db, .slice d4 d5 d6, dt, .slice d7 d8 d9⟩ HDK.out HD.out.o).mono ?_; clear HVC; rintro e w2 ⟨rfl, hb⟩; have KR0 : Hid (Bx w2 Gr ⟨(⟨⟨rk, rn, rs⟩, rm, ra⟩, .slice r1 r2 r3), rb, .slice r4 r5 r6, rt, .slice r7 r8 r9⟩) := HR.out.later hb; have KD0 : Hid (Bx w2 Gd ⟨(⟨⟨dk, dn, ds⟩, dm, da⟩, .slice d1 d2 d3), db, .slice d4 d5 d6, dt, .slice d7 d8 d9⟩) := HD.out.later hb; have KW : Hid (Below w.heap.size w w2) := below_step HW.out hb; clear hb HR HD HW c0 c1 c2 c3 c4 c5 c6)
  have HR := KR0
  have HD := KD0
  have HW := KW
  clear KR0 KD0 KW
  obtain ⟨c0, c1, c2, c3, c4, c5, c6⟩ := cseven HD.out.b
  go_upto_region 8 with (go_at_call 9; refine (HCH.out _ ⟨(⟨⟨dk, dn, ds⟩, dm, da⟩, .slice d1 d2 d3), db, .slice d4 d5 d6, dt, .slice d7 d8 d9⟩ HDK.out HD.out.o).mono ?_; clear HCH; rintro e w3 ⟨rfl, hb⟩; have KR0 : Hid (Bx w3 Gr ⟨(⟨⟨rk, rn, rs⟩, rm, ra⟩, .slice r1 r2 r3), rb, .slice r4 r5 r6, rt, .slice r7 r8 r9⟩) := HR.out.later hb; have KD0 : Hid (Bx w3 Gd ⟨(⟨⟨dk, dn, ds⟩, dm, da⟩, .slice d1 d2 d3), db, .slice d4 d5 d6, dt, .slice d7 d8 d9⟩) := HD.out.later hb; have KW : Hid (Below w.heap.size w w3) := below_step HW.out hb; clear hb HR HD HW c0 c1 c2 c3 c4 c5 c6)
  have HR := KR0
  have HD := KD0
  have HW := KW
  clear KR0 KD0 KW
  obtain ⟨c0, c1, c2, c3, c4, c5, c6⟩ := cseven HD.out.b
  go_upto_region 9 with (go_at_call 15; refine (HRN.out _ ⟨(⟨⟨dk, dn, ds⟩, dm, da⟩, .slice d1 d2 d3), db, .slice d4 d5 d6, dt, .slice d7 d8 d9⟩ HDK.out HD.out.o).mono ?_; rintro x wq ⟨dd, rfl, hqk, hqo, hb⟩; obtain ⟨⟨p1, p2, p3, tz1⟩, ⟨p4, p6, tz2⟩, ⟨p7, p9, tz3⟩, -, -⟩ := (hqo).shape; obtain ⟨p5, tz4⟩ : ∃ n, n = dd.body.length := ⟨_, rfl⟩; obtain ⟨p8, tz5⟩ : ∃ n, n = dd.tests.length := ⟨_, rfl⟩; rw [← tz4] at tz2; rw [← tz5] at tz3; obtain ⟨⟨⟨⟨pk, pn, ps⟩, pm, pa⟩, pv⟩, pb, pbv, pt, ptv⟩ := dd; simp only at tz1 tz2 tz3; subst tz1 tz2 tz3; clear tz4 tz5; have N0 : Hid (Bx (wq.alloc (.cells (Cm.cs ⟨(⟨⟨pk, pn, ps⟩, pm, pa⟩, .slice p1 p2 p3), pb, .slice p4 p5 p6, pt, .slice p7 p8 p9⟩) 30)) wq.heap.size ⟨(⟨⟨pk, pn, ps⟩, pm, pa⟩, .slice p1 p2 p3), pb, .slice p4 p5 p6, pt, .slice p7 p8 p9⟩) := Bx.new hqo; have N1 : Hid (Cm.key ⟨(⟨⟨pk, pn, ps⟩, pm, pa⟩, .slice p1 p2 p3), pb, .slice p4 p5 p6, pt, .slice p7 p8 p9⟩ = mapC (ins (rnvs UP m)) KA) := hqk; have K0 : Hid (Bx (wq.alloc (.cells (Cm.cs ⟨(⟨⟨pk, pn, ps⟩, pm, pa⟩, .slice p1 p2 p3), pb, .slice p4 p5 p6, pt, .slice p7 p8 p9⟩) 30)) Gr ⟨(⟨⟨rk, rn, rs⟩, rm, ra⟩, .slice r1 r2 r3), rb, .slice r4 r5 r6, rt, .slice r7 r8 r9⟩) := (HR.out.later hb).later (below1 _ _); have K1 : Hid (Bx (wq.alloc (.cells (Cm.cs ⟨(⟨⟨pk, pn, ps⟩, pm, pa⟩, .slice p1 p2 p3), pb, .slice p4 p5 p6, pt, .slice p7 p8 p9⟩) 30)) Gd ⟨(⟨⟨dk, dn, ds⟩, dm, da⟩, .slice d1 d2 d3), db, .slice d4 d5 d6, dt, .slice d7 d8 d9⟩) := (HD.out.later hb).later (below1 _ _); have KW : Hid (Below w.heap.size w (wq.alloc (.cells (Cm.cs ⟨(⟨⟨pk, pn, ps⟩, pm, pa⟩, .slice p1 p2 p3), pb, .slice p4 p5 p6, pt, .slice p7 p8 p9⟩) 30))) := below_step (below_step HW.out hb) (below1 _ _); clear hb hqk hqo HW HR HD)
  revert N0 K0 K1 KW
  generalize wq.alloc (.cells #[.int .i64 pk, .int .i64 pn, .string ps, .string pm, .slice p1 p2 p3, .slice p4 p5 p6, .slice p7 p8 p9] 30) = w5
  generalize wq.heap.size = Gp
  intro N0 K0 K1 KW
  have HP := N0
  have HPK := N1
  have HW := KW
  have HR := K0
  have HD := K1
  clear N0 N1 KW K0 K1
  clear c0 c1 c2 c3 c4 c5 c6
  have HVP : Hid (∀ X : World, Below w5.heap.size w5 X → Calls Try.prog 14 #[Cm.v ⟨(⟨⟨pk, pn, ps⟩, pm, pa⟩, .slice p1 p2 p3), pb, .slice p4 p5 p6, pt, .slice p7 p8 p9⟩] X fun e w' => e = .returned (.int .i64 (m : Int)) ∧ Below X.heap.size X w') := fun X hX => HVD.out X ⟨(⟨⟨pk, pn, ps⟩, pm, pa⟩, .slice p1 p2 p3), pb, .slice p4 p5 p6, pt, .slice p7 p8 p9⟩ HPK.out (HP.out.later hX).o
  have HNP : Hid (∀ X : World, Below w5.heap.size w5 X → Calls Try.prog 16 #[Cm.v ⟨(⟨⟨pk, pn, ps⟩, pm, pa⟩, .slice p1 p2 p3), pb, .slice p4 p5 p6, pt, .slice p7 p8 p9⟩] X fun e w' => ∃ d : Cm, e = .returned d.v ∧ d.key = KA ∧ d.ok w' ∧ Below X.heap.size X w') := fun X hX => HND.out X ⟨(⟨⟨pk, pn, ps⟩, pm, pa⟩, .slice p1 p2 p3), pb, .slice p4 p5 p6, pt, .slice p7 p8 p9⟩ HPK.out (HP.out.later hX).o
  clear HVD HND
  go_cut [53] from 34 (fun s53 wx => s53 = .bool false ∧ Below w5.heap.size w5 wx)
  case first =>
    by_cases hm0 : 0 < m
    · have z3 : (0 : Int) < (m : Int) := by omega
      have HCP : Hid (∀ X : World, Below w5.heap.size w5 X → Calls Try.prog 9 #[Cm.v ⟨(⟨⟨pk, pn, ps⟩, pm, pa⟩, .slice p1 p2 p3), pb, .slice p4 p5 p6, pt, .slice p7 p8 p9⟩] X fun e w' => e = .returned (.int .i64 35) ∧ Below X.heap.size X w') := fun X hX => HCD.out hm0 X ⟨(⟨⟨pk, pn, ps⟩, pm, pa⟩, .slice p1 p2 p3), pb, .slice p4 p5 p6, pt, .slice p7 p8 p9⟩ HPK.out (HP.out.later hX).o
      clear hm0 HCD
      refine wp_region_held_drew (S := fun w' => Below w5.heap.size w5 w') (by kernel_rfl) (Below.refl _ _).drew (fun hH => ?_)
      revert hH
      generalize w5.drew = V0
      intro hH
      refine wpAnyH_take (i := 0) (oi := ⟨_, _, _, _, _, _⟩) (v := .agg #[.int .i64 pk, .int .i64 pn, .string ps, .string pm, .slice p1 p2 p3, .slice p4 p5 p6, .slice p7 p8 p9]) rfl (by kernel_rfl) (by kernel_rfl) (by kernel_rfl) (fun _ _ _ h => h) (Or.inl ⟨by rfl, fun w' h => by obtain ⟨c0, c1, c2, c3, c4, c5, c6⟩ := cseven (CBlk.later (Hid.out HP).b h); clear h; go_simp⟩) hH ?_
      simp only [Act.put, List.setIfInBounds_toArray, List.set_cons_zero, List.set_cons_succ]
      refine wpAnyH_take (i := 2) (oi := ⟨_, _, _, _, _, _⟩) (v := .int .i64 (m : Int)) rfl (by kernel_rfl) (by kernel_rfl) (by kernel_rfl) (fun _ _ _ h => h) (Or.inl ⟨by rfl, fun w' h => by clear h; go_simp⟩) hH ?_
      simp only [Act.put, List.setIfInBounds_toArray, List.set_cons_zero, List.set_cons_succ]
      refine wpAnyH_ready (rs := [1]) (by kernel_rfl) (by simp) ?_
      refine (AllReadyH.cons (o := ⟨_, _, _, _, _, _⟩) rfl (fun K hK => ?_) AllReadyH.nil)
      go_simp
      refine (HVP.out _ hH).mono ?_
      rintro x V1 ⟨rfl, hb⟩
      refine hK.out _ _ (below_step hH hb) (fun hH => ?_)
      clear hK K hb
      try simp only [Act.put, List.setIfInBounds_toArray, List.set_cons_zero, List.set_cons_succ]
      refine wpAnyH_take (i := 3) (oi := ⟨_, _, _, _, _, _⟩) (v := .bool false) rfl (by kernel_rfl) (by kernel_rfl) (by kernel_rfl) (fun _ _ _ h => h) (Or.inl ⟨by rfl, fun w' h => by clear h; go_simp⟩) hH ?_
      simp only [Act.put, List.setIfInBounds_toArray, List.set_cons_zero, List.set_cons_succ]
      refine wpAnyH_take (i := 4) (oi := ⟨_, _, _, _, _, _⟩) (v := .bool false) rfl (by kernel_rfl) (by kernel_rfl) (by kernel_rfl) (fun _ _ _ h => h) (Or.inl ⟨by rfl, fun w' h => by clear h; go_simp⟩) hH ?_
      simp only [Act.put, List.setIfInBounds_toArray, List.set_cons_zero, List.set_cons_succ]
      refine wpAnyH_take (i := 5) (oi := ⟨_, _, _, _, _, _⟩) (v := .int .i64 (m : Int)) rfl (by kernel_rfl) (by kernel_rfl) (by kernel_rfl) (fun _ _ _ h => h) (Or.inl ⟨by rfl, fun w' h => by clear h; go_simp⟩) hH ?_
      simp only [Act.put, List.setIfInBounds_toArray, List.set_cons_zero, List.set_cons_succ]
      refine wpAnyH_take (i := 6) (oi := ⟨_, _, _, _, _, _⟩) (v := .bool true) rfl (by kernel_rfl) (by kernel_rfl) (by kernel_rfl) (fun _ _ _ h => h) (Or.inl ⟨by rfl, fun w' h => by clear h; go_simp; omega⟩) hH ?_
      simp only [Act.put, List.setIfInBounds_toArray, List.set_cons_zero, List.set_cons_succ]
      refine wpAnyH_take (i := 7) (oi := ⟨_, _, _, _, _, _⟩) (v := .bool true) rfl (by kernel_rfl) (by kernel_rfl) (by kernel_rfl) (fun _ _ _ h => h) (Or.inl ⟨by rfl, fun w' h => by clear h; go_simp⟩) hH ?_
      simp only [Act.put, List.setIfInBounds_toArray, List.set_cons_zero, List.set_cons_succ]
      refine wpAnyH_take (i := 8) (oi := ⟨_, _, _, _, _, _⟩) (v := .agg #[.int .i64 pk, .int .i64 pn, .string ps, .string pm, .slice p1 p2 p3, .slice p4 p5 p6, .slice p7 p8 p9]) rfl (by kernel_rfl) (by kernel_rfl) (by kernel_rfl) (fun _ _ _ h => h) (Or.inl ⟨by rfl, fun w' h => by obtain ⟨c0, c1, c2, c3, c4, c5, c6⟩ := cseven (CBlk.later (Hid.out HP).b h); clear h; go_simp⟩) hH ?_
      simp only [Act.put, List.setIfInBounds_toArray, List.set_cons_zero, List.set_cons_succ]
      refine wpAnyH_ready (rs := [9]) (by kernel_rfl) (by simp) ?_
      refine (AllReadyH.cons (o := ⟨_, _, _, _, _, _⟩) rfl (fun K hK => ?_) AllReadyH.nil)
      go_simp
      refine (HCP.out _ hH).mono ?_
      rintro x V2 ⟨rfl, hb⟩
      refine hK.out _ _ (below_step hH hb) (fun hH => ?_)
      clear hK K hb
      try simp only [Act.put, List.setIfInBounds_toArray, List.set_cons_zero, List.set_cons_succ]
      refine wpAnyH_take (i := 10) (oi := ⟨_, _, _, _, _, _⟩) (v := .bool false) rfl (by kernel_rfl) (by kernel_rfl) (by kernel_rfl) (fun _ _ _ h => h) (Or.inl ⟨by rfl, fun w' h => by clear h; go_simp⟩) hH ?_
      simp only [Act.put, List.setIfInBounds_toArray, List.set_cons_zero, List.set_cons_succ]
      refine wpAnyH_take (i := 11) (oi := ⟨_, _, _, _, _, _⟩) (v := .bool false) rfl (by kernel_rfl) (by kernel_rfl) (by kernel_rfl) (fun _ _ _ h => h) (Or.inl ⟨by rfl, fun w' h => by clear h; go_simp⟩) hH ?_
      simp only [Act.put, List.setIfInBounds_toArray, List.set_cons_zero, List.set_cons_succ]
      refine wpAnyH_take (i := 12) (oi := ⟨_, _, _, _, _, _⟩) (v := .bool false) rfl (by kernel_rfl) (by kernel_rfl) (by kernel_rfl) (fun _ _ _ h => h) (Or.inl ⟨by rfl, fun w' h => by clear h; go_simp⟩) hH ?_
      simp only [Act.put, List.setIfInBounds_toArray, List.set_cons_zero, List.set_cons_succ]
      refine wpAnyH_take (i := 13) (oi := ⟨_, _, _, _, _, _⟩) (v := .bool false) rfl (by kernel_rfl) (by kernel_rfl) (by kernel_rfl) (fun _ _ _ h => h) (Or.inl ⟨by rfl, fun w' h => by clear h; go_simp⟩) hH ?_
      simp only [Act.put, List.setIfInBounds_toArray, List.set_cons_zero, List.set_cons_succ]
      refine wpAnyH_take (i := 14) (oi := ⟨_, _, _, _, _, _⟩) (v := .agg #[.int .i64 pk, .int .i64 pn, .string ps, .string pm, .slice p1 p2 p3, .slice p4 p5 p6, .slice p7 p8 p9]) rfl (by kernel_rfl) (by kernel_rfl) (by kernel_rfl) (fun _ _ _ h => h) (Or.inl ⟨by rfl, fun w' h => by obtain ⟨c0, c1, c2, c3, c4, c5, c6⟩ := cseven (CBlk.later (Hid.out HP).b h); clear h; go_simp⟩) hH ?_
      simp only [Act.put, List.setIfInBounds_toArray, List.set_cons_zero, List.set_cons_succ]
      refine wpAnyH_take (i := 16) (oi := ⟨_, _, _, _, _, _⟩) (v := .agg #[.int .i64 dk, .int .i64 dn, .string ds, .string dm, .slice d1 d2 d3, .slice d4 d5 d6, .slice d7 d8 d9]) rfl (by kernel_rfl) (by kernel_rfl) (by kernel_rfl) (fun _ _ _ h => h) (Or.inl ⟨by rfl, fun w' h => by obtain ⟨c0, c1, c2, c3, c4, c5, c6⟩ := cseven (CBlk.later (Hid.out HD).b h); clear h; go_simp⟩) hH ?_
      simp only [Act.put, List.setIfInBounds_toArray, List.set_cons_zero, List.set_cons_succ]
      refine wpAnyH_ready (rs := [15]) (by kernel_rfl) (by simp) ?_
      refine (AllReadyH.cons (o := ⟨_, _, _, _, _, _⟩) rfl (fun K hK => ?_) AllReadyH.nil)
      go_simp
      refine (HNP.out _ hH).mono ?_
      rintro x V3 ⟨nx, rfl, hnk, hno, hb⟩
      obtain ⟨⟨f1, f2, f3, tz1⟩, ⟨f4, f6, tz2⟩, ⟨f7, f9, tz3⟩, -, -⟩ := (hno).shape
      obtain ⟨f5, tz4⟩ : ∃ n, n = nx.body.length := ⟨_, rfl⟩
      obtain ⟨f8, tz5⟩ : ∃ n, n = nx.tests.length := ⟨_, rfl⟩
      rw [← tz4] at tz2
      rw [← tz5] at tz3
      obtain ⟨⟨⟨⟨fk, fn, fs⟩, fm, fa⟩, fv⟩, fb, fbv, ft, ftv⟩ := nx
      simp only at tz1 tz2 tz3
      subst tz1 tz2 tz3
      clear tz4 tz5
      have HF : Hid (Cm.ok V3 ⟨(⟨⟨fk, fn, fs⟩, fm, fa⟩, .slice f1 f2 f3), fb, .slice f4 f5 f6, ft, .slice f7 f8 f9⟩ ∧ Cm.key ⟨(⟨⟨fk, fn, fs⟩, fm, fa⟩, .slice f1 f2 f3), fb, .slice f4 f5 f6, ft, .slice f7 f8 f9⟩ = KA) := ⟨hno, hnk⟩
      refine hK.out _ _ (below_step hH hb) (fun hH => ?_)
      clear hK K hb hnk hno
      try simp only [Act.put, List.setIfInBounds_toArray, List.set_cons_zero, List.set_cons_succ]
      refine wpAnyH_ready (rs := [17]) (by kernel_rfl) (by simp) ?_
      refine (AllReadyH.cons (o := ⟨_, _, _, _, _, _⟩) rfl (fun K hK => ?_) AllReadyH.nil)
      go_simp
      refine (sameC_any ⟨(⟨⟨fk, fn, fs⟩, fm, fa⟩, .slice f1 f2 f3), fb, .slice f4 f5 f6, ft, .slice f7 f8 f9⟩ ⟨(⟨⟨dk, dn, ds⟩, dm, da⟩, .slice d1 d2 d3), db, .slice d4 d5 d6, dt, .slice d7 d8 d9⟩ _ HF.out.1 (HD.out.later hH).o).mono ?_
      have hsm : Cm.same ⟨(⟨⟨fk, fn, fs⟩, fm, fa⟩, .slice f1 f2 f3), fb, .slice f4 f5 f6, ft, .slice f7 f8 f9⟩ ⟨(⟨⟨dk, dn, ds⟩, dm, da⟩, .slice d1 d2 d3), db, .slice d4 d5 d6, dt, .slice d7 d8 d9⟩ = true := same_of_key (HF.out.2.trans HDK.out.symm)
      rw [hsm]
      clear hsm
      rintro x V4 ⟨rfl, hb⟩
      refine hK.out _ _ (below_step hH hb) (fun hH => ?_)
      clear hK K hb
      try simp only [Act.put, List.setIfInBounds_toArray, List.set_cons_zero, List.set_cons_succ]
      refine wpAnyH_take (i := 18) (oi := ⟨_, _, _, _, _, _⟩) (v := .bool false) rfl (by kernel_rfl) (by kernel_rfl) (by kernel_rfl) (fun _ _ _ h => h) (Or.inl ⟨by rfl, fun w' h => by clear h; go_simp⟩) hH ?_
      simp only [Act.put, List.setIfInBounds_toArray, List.set_cons_zero, List.set_cons_succ]
      refine wpAnyH_take (i := 19) (oi := ⟨_, _, _, _, _, _⟩) (v := .bool false) rfl (by kernel_rfl) (by kernel_rfl) (by kernel_rfl) (fun _ _ _ h => h) (Or.inl ⟨by rfl, fun w' h => by clear h; go_simp⟩) hH ?_
      simp only [Act.put, List.setIfInBounds_toArray, List.set_cons_zero, List.set_cons_succ]
      refine wpAnyH_done (by kernel_rfl) ?_ _
      go_wp2_with fail
      go_meet
      case rel => exact ⟨rfl, hH⟩
    · have z3 : ¬ ((0 : Int) < (m : Int)) := by omega
      clear hm0 HCD
      refine wp_region_held_drew (S := fun w' => Below w5.heap.size w5 w') (by kernel_rfl) (Below.refl _ _).drew (fun hH => ?_)
      revert hH
      generalize w5.drew = V0
      intro hH
      refine wpAnyH_take (i := 0) (oi := ⟨_, _, _, _, _, _⟩) (v := .agg #[.int .i64 pk, .int .i64 pn, .string ps, .string pm, .slice p1 p2 p3, .slice p4 p5 p6, .slice p7 p8 p9]) rfl (by kernel_rfl) (by kernel_rfl) (by kernel_rfl) (fun _ _ _ h => h) (Or.inl ⟨by rfl, fun w' h => by obtain ⟨c0, c1, c2, c3, c4, c5, c6⟩ := cseven (CBlk.later (Hid.out HP).b h); clear h; go_simp⟩) hH ?_
      simp only [Act.put, List.setIfInBounds_toArray, List.set_cons_zero, List.set_cons_succ]
      refine wpAnyH_take (i := 2) (oi := ⟨_, _, _, _, _, _⟩) (v := .int .i64 (m : Int)) rfl (by kernel_rfl) (by kernel_rfl) (by kernel_rfl) (fun _ _ _ h => h) (Or.inl ⟨by rfl, fun w' h => by clear h; go_simp⟩) hH ?_
      simp only [Act.put, List.setIfInBounds_toArray, List.set_cons_zero, List.set_cons_succ]
      refine wpAnyH_ready (rs := [1]) (by kernel_rfl) (by simp) ?_
      refine (AllReadyH.cons (o := ⟨_, _, _, _, _, _⟩) rfl (fun K hK => ?_) AllReadyH.nil)
      go_simp
      refine (HVP.out _ hH).mono ?_
      rintro x V1 ⟨rfl, hb⟩
      refine hK.out _ _ (below_step hH hb) (fun hH => ?_)
      clear hK K hb
      try simp only [Act.put, List.setIfInBounds_toArray, List.set_cons_zero, List.set_cons_succ]
      refine wpAnyH_take (i := 3) (oi := ⟨_, _, _, _, _, _⟩) (v := .bool false) rfl (by kernel_rfl) (by kernel_rfl) (by kernel_rfl) (fun _ _ _ h => h) (Or.inl ⟨by rfl, fun w' h => by clear h; go_simp⟩) hH ?_
      simp only [Act.put, List.setIfInBounds_toArray, List.set_cons_zero, List.set_cons_succ]
      refine wpAnyH_take (i := 4) (oi := ⟨_, _, _, _, _, _⟩) (v := .bool false) rfl (by kernel_rfl) (by kernel_rfl) (by kernel_rfl) (fun _ _ _ h => h) (Or.inl ⟨by rfl, fun w' h => by clear h; go_simp⟩) hH ?_
      simp only [Act.put, List.setIfInBounds_toArray, List.set_cons_zero, List.set_cons_succ]
      refine wpAnyH_take (i := 5) (oi := ⟨_, _, _, _, _, _⟩) (v := .int .i64 (m : Int)) rfl (by kernel_rfl) (by kernel_rfl) (by kernel_rfl) (fun _ _ _ h => h) (Or.inl ⟨by rfl, fun w' h => by clear h; go_simp⟩) hH ?_
      simp only [Act.put, List.setIfInBounds_toArray, List.set_cons_zero, List.set_cons_succ]
      refine wpAnyH_take (i := 6) (oi := ⟨_, _, _, _, _, _⟩) (v := .bool false) rfl (by kernel_rfl) (by kernel_rfl) (by kernel_rfl) (fun _ _ _ h => h) (Or.inl ⟨by rfl, fun w' h => by clear h; go_simp; omega⟩) hH ?_
      simp only [Act.put, List.setIfInBounds_toArray, List.set_cons_zero, List.set_cons_succ]
      refine wpAnyH_take (i := 7) (oi := ⟨_, _, _, _, _, _⟩) (v := .bool false) rfl (by kernel_rfl) (by kernel_rfl) (by kernel_rfl) (fun _ _ _ h => h) (Or.inl ⟨by rfl, fun w' h => by clear h; go_simp⟩) hH ?_
      simp only [Act.put, List.setIfInBounds_toArray, List.set_cons_zero, List.set_cons_succ]
      refine wpAnyH_take (i := 8) (oi := ⟨_, _, _, _, _, _⟩) (v := undef) rfl (by kernel_rfl) (by kernel_rfl) (by kernel_rfl) (fun _ _ _ h => h) (Or.inr ⟨by rfl, rfl⟩) hH ?_
      simp only [Act.put, List.setIfInBounds_toArray, List.set_cons_zero, List.set_cons_succ]
      refine wpAnyH_take (i := 9) (oi := ⟨_, _, _, _, _, _⟩) (v := undef) rfl (by kernel_rfl) (by kernel_rfl) (by kernel_rfl) (fun _ _ _ h => h) (Or.inr ⟨by rfl, rfl⟩) hH ?_
      simp only [Act.put, List.setIfInBounds_toArray, List.set_cons_zero, List.set_cons_succ]
      refine wpAnyH_take (i := 10) (oi := ⟨_, _, _, _, _, _⟩) (v := undef) rfl (by kernel_rfl) (by kernel_rfl) (by kernel_rfl) (fun _ _ _ h => h) (Or.inr ⟨by rfl, rfl⟩) hH ?_
      simp only [Act.put, List.setIfInBounds_toArray, List.set_cons_zero, List.set_cons_succ]
      refine wpAnyH_take (i := 11) (oi := ⟨_, _, _, _, _, _⟩) (v := .bool false) rfl (by kernel_rfl) (by kernel_rfl) (by kernel_rfl) (fun _ _ _ h => h) (Or.inl ⟨by rfl, fun w' h => by clear h; go_simp⟩) hH ?_
      simp only [Act.put, List.setIfInBounds_toArray, List.set_cons_zero, List.set_cons_succ]
      refine wpAnyH_take (i := 12) (oi := ⟨_, _, _, _, _, _⟩) (v := .bool false) rfl (by kernel_rfl) (by kernel_rfl) (by kernel_rfl) (fun _ _ _ h => h) (Or.inl ⟨by rfl, fun w' h => by clear h; go_simp⟩) hH ?_
      simp only [Act.put, List.setIfInBounds_toArray, List.set_cons_zero, List.set_cons_succ]
      refine wpAnyH_take (i := 13) (oi := ⟨_, _, _, _, _, _⟩) (v := .bool false) rfl (by kernel_rfl) (by kernel_rfl) (by kernel_rfl) (fun _ _ _ h => h) (Or.inl ⟨by rfl, fun w' h => by clear h; go_simp⟩) hH ?_
      simp only [Act.put, List.setIfInBounds_toArray, List.set_cons_zero, List.set_cons_succ]
      refine wpAnyH_take (i := 14) (oi := ⟨_, _, _, _, _, _⟩) (v := .agg #[.int .i64 pk, .int .i64 pn, .string ps, .string pm, .slice p1 p2 p3, .slice p4 p5 p6, .slice p7 p8 p9]) rfl (by kernel_rfl) (by kernel_rfl) (by kernel_rfl) (fun _ _ _ h => h) (Or.inl ⟨by rfl, fun w' h => by obtain ⟨c0, c1, c2, c3, c4, c5, c6⟩ := cseven (CBlk.later (Hid.out HP).b h); clear h; go_simp⟩) hH ?_
      simp only [Act.put, List.setIfInBounds_toArray, List.set_cons_zero, List.set_cons_succ]
      refine wpAnyH_take (i := 16) (oi := ⟨_, _, _, _, _, _⟩) (v := .agg #[.int .i64 dk, .int .i64 dn, .string ds, .string dm, .slice d1 d2 d3, .slice d4 d5 d6, .slice d7 d8 d9]) rfl (by kernel_rfl) (by kernel_rfl) (by kernel_rfl) (fun _ _ _ h => h) (Or.inl ⟨by rfl, fun w' h => by obtain ⟨c0, c1, c2, c3, c4, c5, c6⟩ := cseven (CBlk.later (Hid.out HD).b h); clear h; go_simp⟩) hH ?_
      simp only [Act.put, List.setIfInBounds_toArray, List.set_cons_zero, List.set_cons_succ]
      refine wpAnyH_ready (rs := [15]) (by kernel_rfl) (by simp) ?_
      refine (AllReadyH.cons (o := ⟨_, _, _, _, _, _⟩) rfl (fun K hK => ?_) AllReadyH.nil)
      go_simp
      refine (HNP.out _ hH).mono ?_
      rintro x V3 ⟨nx, rfl, hnk, hno, hb⟩
      obtain ⟨⟨f1, f2, f3, tz1⟩, ⟨f4, f6, tz2⟩, ⟨f7, f9, tz3⟩, -, -⟩ := (hno).shape
      obtain ⟨f5, tz4⟩ : ∃ n, n = nx.body.length := ⟨_, rfl⟩
      obtain ⟨f8, tz5⟩ : ∃ n, n = nx.tests.length := ⟨_, rfl⟩
      rw [← tz4] at tz2
      rw [← tz5] at tz3
      obtain ⟨⟨⟨⟨fk, fn, fs⟩, fm, fa⟩, fv⟩, fb, fbv, ft, ftv⟩ := nx
      simp only at tz1 tz2 tz3
      subst tz1 tz2 tz3
      clear tz4 tz5
      have HF : Hid (Cm.ok V3 ⟨(⟨⟨fk, fn, fs⟩, fm, fa⟩, .slice f1 f2 f3), fb, .slice f4 f5 f6, ft, .slice f7 f8 f9⟩ ∧ Cm.key ⟨(⟨⟨fk, fn, fs⟩, fm, fa⟩, .slice f1 f2 f3), fb, .slice f4 f5 f6, ft, .slice f7 f8 f9⟩ = KA) := ⟨hno, hnk⟩
      refine hK.out _ _ (below_step hH hb) (fun hH => ?_)
      clear hK K hb hnk hno
      try simp only [Act.put, List.setIfInBounds_toArray, List.set_cons_zero, List.set_cons_succ]
      refine wpAnyH_ready (rs := [17]) (by kernel_rfl) (by simp) ?_
      refine (AllReadyH.cons (o := ⟨_, _, _, _, _, _⟩) rfl (fun K hK => ?_) AllReadyH.nil)
      go_simp
      refine (sameC_any ⟨(⟨⟨fk, fn, fs⟩, fm, fa⟩, .slice f1 f2 f3), fb, .slice f4 f5 f6, ft, .slice f7 f8 f9⟩ ⟨(⟨⟨dk, dn, ds⟩, dm, da⟩, .slice d1 d2 d3), db, .slice d4 d5 d6, dt, .slice d7 d8 d9⟩ _ HF.out.1 (HD.out.later hH).o).mono ?_
      have hsm : Cm.same ⟨(⟨⟨fk, fn, fs⟩, fm, fa⟩, .slice f1 f2 f3), fb, .slice f4 f5 f6, ft, .slice f7 f8 f9⟩ ⟨(⟨⟨dk, dn, ds⟩, dm, da⟩, .slice d1 d2 d3), db, .slice d4 d5 d6, dt, .slice d7 d8 d9⟩ = true := same_of_key (HF.out.2.trans HDK.out.symm)
      rw [hsm]
      clear hsm
      rintro x V4 ⟨rfl, hb⟩
      refine hK.out _ _ (below_step hH hb) (fun hH => ?_)
      clear hK K hb
      try simp only [Act.put, List.setIfInBounds_toArray, List.set_cons_zero, List.set_cons_succ]
      refine wpAnyH_take (i := 18) (oi := ⟨_, _, _, _, _, _⟩) (v := .bool false) rfl (by kernel_rfl) (by kernel_rfl) (by kernel_rfl) (fun _ _ _ h => h) (Or.inl ⟨by rfl, fun w' h => by clear h; go_simp⟩) hH ?_
      simp only [Act.put, List.setIfInBounds_toArray, List.set_cons_zero, List.set_cons_succ]
      refine wpAnyH_take (i := 19) (oi := ⟨_, _, _, _, _, _⟩) (v := .bool false) rfl (by kernel_rfl) (by kernel_rfl) (by kernel_rfl) (fun _ _ _ h => h) (Or.inl ⟨by rfl, fun w' h => by clear h; go_simp⟩) hH ?_
      simp only [Act.put, List.setIfInBounds_toArray, List.set_cons_zero, List.set_cons_succ]
      refine wpAnyH_done (by kernel_rfl) ?_ _
      go_wp2_with fail
      go_meet
      case rel => exact ⟨rfl, hH⟩
  case rest =>
  obtain ⟨rfl, hb⟩ := hcut
  rename World => w6
  have KR0 : Hid (Bx w6 Gr ⟨(⟨⟨rk, rn, rs⟩, rm, ra⟩, .slice r1 r2 r3), rb, .slice r4 r5 r6, rt, .slice r7 r8 r9⟩) := HR.out.later hb
  have KW : Hid (Below w.heap.size w w6) := below_step HW.out hb
  clear hb HR HD HP HW HVP HNP HCD
  have HR := KR0
  have HW := KW
  clear KR0 KW
  obtain ⟨c0, c1, c2, c3, c4, c5, c6⟩ := cseven HR.out.b
  go_upto_region 12 with (go_at_call 16; refine (HNR.out _ ⟨(⟨⟨rk, rn, rs⟩, rm, ra⟩, .slice r1 r2 r3), rb, .slice r4 r5 r6, rt, .slice r7 r8 r9⟩ HRK.out HR.out.o).mono ?_; rintro x wq ⟨dd, rfl, hqk, hqo, hb⟩; obtain ⟨⟨q1, q2, q3, tz1⟩, ⟨q4, q6, tz2⟩, ⟨q7, q9, tz3⟩, -, -⟩ := (hqo).shape; obtain ⟨q5, tz4⟩ : ∃ n, n = dd.body.length := ⟨_, rfl⟩; obtain ⟨q8, tz5⟩ : ∃ n, n = dd.tests.length := ⟨_, rfl⟩; rw [← tz4] at tz2; rw [← tz5] at tz3; obtain ⟨⟨⟨⟨qk, qn, qs⟩, qm, qa⟩, qv⟩, qb, qbv, qt, qtv⟩ := dd; simp only at tz1 tz2 tz3; subst tz1 tz2 tz3; clear tz4 tz5; have N0 : Hid (Bx (wq.alloc (.cells (Cm.cs ⟨(⟨⟨qk, qn, qs⟩, qm, qa⟩, .slice q1 q2 q3), qb, .slice q4 q5 q6, qt, .slice q7 q8 q9⟩) 30)) wq.heap.size ⟨(⟨⟨qk, qn, qs⟩, qm, qa⟩, .slice q1 q2 q3), qb, .slice q4 q5 q6, qt, .slice q7 q8 q9⟩) := Bx.new hqo; have N1 : Hid (Cm.key ⟨(⟨⟨qk, qn, qs⟩, qm, qa⟩, .slice q1 q2 q3), qb, .slice q4 q5 q6, qt, .slice q7 q8 q9⟩ = KN) := hqk; have K0 : Hid (Bx (wq.alloc (.cells (Cm.cs ⟨(⟨⟨qk, qn, qs⟩, qm, qa⟩, .slice q1 q2 q3), qb, .slice q4 q5 q6, qt, .slice q7 q8 q9⟩) 30)) Gr ⟨(⟨⟨rk, rn, rs⟩, rm, ra⟩, .slice r1 r2 r3), rb, .slice r4 r5 r6, rt, .slice r7 r8 r9⟩) := (HR.out.later hb).later (below1 _ _); have KW : Hid (Below w.heap.size w (wq.alloc (.cells (Cm.cs ⟨(⟨⟨qk, qn, qs⟩, qm, qa⟩, .slice q1 q2 q3), qb, .slice q4 q5 q6, qt, .slice q7 q8 q9⟩) 30))) := below_step (below_step HW.out hb) (below1 _ _); clear hb hqk hqo HW HR)
  revert N0 K0 KW
  generalize wq.alloc (.cells #[.int .i64 qk, .int .i64 qn, .string qs, .string qm, .slice q1 q2 q3, .slice q4 q5 q6, .slice q7 q8 q9] 30) = w7
  generalize wq.heap.size = Gq
  intro N0 K0 KW
  have HQ := N0
  have HQK := N1
  have HW := KW
  have HR := K0
  clear N0 N1 KW K0
  clear c0 c1 c2 c3 c4 c5 c6
  have HNQ : Hid (∀ X : World, Below w7.heap.size w7 X → Calls Try.prog 16 #[Cm.v ⟨(⟨⟨qk, qn, qs⟩, qm, qa⟩, .slice q1 q2 q3), qb, .slice q4 q5 q6, qt, .slice q7 q8 q9⟩] X fun e w' => ∃ d : Cm, e = .returned d.v ∧ d.key = KN ∧ d.ok w' ∧ Below X.heap.size X w') := fun X hX => HNN.out X ⟨(⟨⟨qk, qn, qs⟩, qm, qa⟩, .slice q1 q2 q3), qb, .slice q4 q5 q6, qt, .slice q7 q8 q9⟩ HQK.out (HQ.out.later hX).o
  have HVQ : Hid (∀ X : World, Below w7.heap.size w7 X → Calls Try.prog 14 #[Cm.v ⟨(⟨⟨qk, qn, qs⟩, qm, qa⟩, .slice q1 q2 q3), qb, .slice q4 q5 q6, qt, .slice q7 q8 q9⟩] X fun e w' => e = .returned (.int .i64 (NV : Int)) ∧ Below X.heap.size X w') := fun X hX => HVN.out X ⟨(⟨⟨qk, qn, qs⟩, qm, qa⟩, .slice q1 q2 q3), qb, .slice q4 q5 q6, qt, .slice q7 q8 q9⟩ HQK.out (HQ.out.later hX).o
  have HVR : Hid (∀ X : World, Below w7.heap.size w7 X → Calls Try.prog 14 #[Cm.v ⟨(⟨⟨rk, rn, rs⟩, rm, ra⟩, .slice r1 r2 r3), rb, .slice r4 r5 r6, rt, .slice r7 r8 r9⟩] X fun e w' => e = .returned (.int .i64 (NV : Int)) ∧ Below X.heap.size X w') := fun X hX => HVW.out X ⟨(⟨⟨rk, rn, rs⟩, rm, ra⟩, .slice r1 r2 r3), rb, .slice r4 r5 r6, rt, .slice r7 r8 r9⟩ HRK.out (HR.out.later hX).o
  clear HNN HVN HVW
  refine wp_region_held_drew (S := fun w' => Below w7.heap.size w7 w') (by kernel_rfl) (Below.refl _ _).drew (fun hH => ?_)
  revert hH
  generalize w7.drew = V0
  intro hH
  refine wpAnyH_take (i := 0) (oi := ⟨_, _, _, _, _, _⟩) (v := .agg #[.int .i64 qk, .int .i64 qn, .string qs, .string qm, .slice q1 q2 q3, .slice q4 q5 q6, .slice q7 q8 q9]) rfl (by kernel_rfl) (by kernel_rfl) (by kernel_rfl) (fun _ _ _ h => h) (Or.inl ⟨by rfl, fun w' h => by obtain ⟨c0, c1, c2, c3, c4, c5, c6⟩ := cseven (CBlk.later (Hid.out HQ).b h); clear h; go_simp⟩) hH ?_
  simp only [Act.put, List.setIfInBounds_toArray, List.set_cons_zero, List.set_cons_succ]
  refine wpAnyH_take (i := 2) (oi := ⟨_, _, _, _, _, _⟩) (v := .agg #[.int .i64 qk, .int .i64 qn, .string qs, .string qm, .slice q1 q2 q3, .slice q4 q5 q6, .slice q7 q8 q9]) rfl (by kernel_rfl) (by kernel_rfl) (by kernel_rfl) (fun _ _ _ h => h) (Or.inl ⟨by rfl, fun w' h => by obtain ⟨c0, c1, c2, c3, c4, c5, c6⟩ := cseven (CBlk.later (Hid.out HQ).b h); clear h; go_simp⟩) hH ?_
  simp only [Act.put, List.setIfInBounds_toArray, List.set_cons_zero, List.set_cons_succ]
  refine wpAnyH_ready (rs := [1]) (by kernel_rfl) (by simp) ?_
  refine (AllReadyH.cons (o := ⟨_, _, _, _, _, _⟩) rfl (fun K hK => ?_) AllReadyH.nil)
  go_simp
  refine (HNQ.out _ hH).mono ?_
  rintro x V1 ⟨nx, rfl, hnk, hno, hb⟩
  obtain ⟨⟨f1, f2, f3, tz1⟩, ⟨f4, f6, tz2⟩, ⟨f7, f9, tz3⟩, -, -⟩ := (hno).shape
  obtain ⟨f5, tz4⟩ : ∃ n, n = nx.body.length := ⟨_, rfl⟩
  obtain ⟨f8, tz5⟩ : ∃ n, n = nx.tests.length := ⟨_, rfl⟩
  rw [← tz4] at tz2
  rw [← tz5] at tz3
  obtain ⟨⟨⟨⟨fk, fn, fs⟩, fm, fa⟩, fv⟩, fb, fbv, ft, ftv⟩ := nx
  simp only at tz1 tz2 tz3
  subst tz1 tz2 tz3
  clear tz4 tz5
  have HF : Hid (Cm.ok V1 ⟨(⟨⟨fk, fn, fs⟩, fm, fa⟩, .slice f1 f2 f3), fb, .slice f4 f5 f6, ft, .slice f7 f8 f9⟩ ∧ Cm.key ⟨(⟨⟨fk, fn, fs⟩, fm, fa⟩, .slice f1 f2 f3), fb, .slice f4 f5 f6, ft, .slice f7 f8 f9⟩ = KN) := ⟨hno, hnk⟩
  refine hK.out _ _ (below_step hH hb) (fun hH => ?_)
  clear hK K hb hnk hno
  try simp only [Act.put, List.setIfInBounds_toArray, List.set_cons_zero, List.set_cons_succ]
  refine wpAnyH_ready (rs := [3]) (by kernel_rfl) (by simp) ?_
  refine (AllReadyH.cons (o := ⟨_, _, _, _, _, _⟩) rfl (fun K hK => ?_) AllReadyH.nil)
  go_simp
  refine (sameC_any ⟨(⟨⟨fk, fn, fs⟩, fm, fa⟩, .slice f1 f2 f3), fb, .slice f4 f5 f6, ft, .slice f7 f8 f9⟩ ⟨(⟨⟨qk, qn, qs⟩, qm, qa⟩, .slice q1 q2 q3), qb, .slice q4 q5 q6, qt, .slice q7 q8 q9⟩ _ HF.out.1 (HQ.out.later hH).o).mono ?_
  have hsm : Cm.same ⟨(⟨⟨fk, fn, fs⟩, fm, fa⟩, .slice f1 f2 f3), fb, .slice f4 f5 f6, ft, .slice f7 f8 f9⟩ ⟨(⟨⟨qk, qn, qs⟩, qm, qa⟩, .slice q1 q2 q3), qb, .slice q4 q5 q6, qt, .slice q7 q8 q9⟩ = true := same_of_key (HF.out.2.trans HQK.out.symm)
  rw [hsm]
  clear hsm
  rintro x V2 ⟨rfl, hb⟩
  refine hK.out _ _ (below_step hH hb) (fun hH => ?_)
  clear hK K hb HF
  try simp only [Act.put, List.setIfInBounds_toArray, List.set_cons_zero, List.set_cons_succ]
  refine wpAnyH_take (i := 4) (oi := ⟨_, _, _, _, _, _⟩) (v := .bool true) rfl (by kernel_rfl) (by kernel_rfl) (by kernel_rfl) (fun _ _ _ h => h) (Or.inl ⟨by rfl, fun w' h => by clear h; go_simp⟩) hH ?_
  simp only [Act.put, List.setIfInBounds_toArray, List.set_cons_zero, List.set_cons_succ]
  refine wpAnyH_take (i := 5) (oi := ⟨_, _, _, _, _, _⟩) (v := .agg #[.int .i64 qk, .int .i64 qn, .string qs, .string qm, .slice q1 q2 q3, .slice q4 q5 q6, .slice q7 q8 q9]) rfl (by kernel_rfl) (by kernel_rfl) (by kernel_rfl) (fun _ _ _ h => h) (Or.inl ⟨by rfl, fun w' h => by obtain ⟨c0, c1, c2, c3, c4, c5, c6⟩ := cseven (CBlk.later (Hid.out HQ).b h); clear h; go_simp⟩) hH ?_
  simp only [Act.put, List.setIfInBounds_toArray, List.set_cons_zero, List.set_cons_succ]
  refine wpAnyH_take (i := 7) (oi := ⟨_, _, _, _, _, _⟩) (v := .agg #[.int .i64 rk, .int .i64 rn, .string rs, .string rm, .slice r1 r2 r3, .slice r4 r5 r6, .slice r7 r8 r9]) rfl (by kernel_rfl) (by kernel_rfl) (by kernel_rfl) (fun _ _ _ h => h) (Or.inl ⟨by rfl, fun w' h => by obtain ⟨c0, c1, c2, c3, c4, c5, c6⟩ := cseven (CBlk.later (Hid.out HR).b h); clear h; go_simp⟩) hH ?_
  simp only [Act.put, List.setIfInBounds_toArray, List.set_cons_zero, List.set_cons_succ]
  refine wpAnyH_ready (rs := [6]) (by kernel_rfl) (by simp) ?_
  refine (AllReadyH.cons (o := ⟨_, _, _, _, _, _⟩) rfl (fun K hK => ?_) AllReadyH.nil)
  go_simp
  refine (HVQ.out _ hH).mono ?_
  rintro x V3 ⟨rfl, hb⟩
  refine hK.out _ _ (below_step hH hb) (fun hH => ?_)
  clear hK K hb
  try simp only [Act.put, List.setIfInBounds_toArray, List.set_cons_zero, List.set_cons_succ]
  refine wpAnyH_ready (rs := [8]) (by kernel_rfl) (by simp) ?_
  refine (AllReadyH.cons (o := ⟨_, _, _, _, _, _⟩) rfl (fun K hK => ?_) AllReadyH.nil)
  go_simp
  refine (HVR.out _ hH).mono ?_
  rintro x V4 ⟨rfl, hb⟩
  refine hK.out _ _ (below_step hH hb) (fun hH => ?_)
  clear hK K hb
  try simp only [Act.put, List.setIfInBounds_toArray, List.set_cons_zero, List.set_cons_succ]
  refine wpAnyH_take (i := 9) (oi := ⟨_, _, _, _, _, _⟩) (v := .bool true) rfl (by kernel_rfl) (by kernel_rfl) (by kernel_rfl) (fun _ _ _ h => h) (Or.inl ⟨by rfl, fun w' h => by clear h; go_simp⟩) hH ?_
  simp only [Act.put, List.setIfInBounds_toArray, List.set_cons_zero, List.set_cons_succ]
  refine wpAnyH_take (i := 10) (oi := ⟨_, _, _, _, _, _⟩) (v := .bool true) rfl (by kernel_rfl) (by kernel_rfl) (by kernel_rfl) (fun _ _ _ h => h) (Or.inl ⟨by rfl, fun w' h => by clear h; go_simp⟩) hH ?_
  simp only [Act.put, List.setIfInBounds_toArray, List.set_cons_zero, List.set_cons_succ]
  refine wpAnyH_take (i := 11) (oi := ⟨_, _, _, _, _, _⟩) (v := .bool true) rfl (by kernel_rfl) (by kernel_rfl) (by kernel_rfl) (fun _ _ _ h => h) (Or.inl ⟨by rfl, fun w' h => by clear h; go_simp⟩) hH ?_
  simp only [Act.put, List.setIfInBounds_toArray, List.set_cons_zero, List.set_cons_succ]
  refine wpAnyH_done (by kernel_rfl) ?_ _
  have HV : Hid (Below w7.heap.size w7 V4) := hH
  clear hH
  go_wp2
  go_ret
  exact ⟨rfl, below_step HW.out HV.out⟩
end Go.Proofs.Ytdfgijdededolaa
