/-
  ClauseQuotes: the walk. (Written by QT3.py.)
-/
import Derived.Test.YtdfgijdededolaaNR1
import Derived.Test.YtdfgijdededolaaNR10
import Derived.Test.YtdfgijdededolaaCL22
import Derived.Deep.RegionHeld3
import Derived.BigQuiet
namespace Go.Proofs.Ytdfgijdededolaa
open Go.RowKit
attribute [local go_sem ↓] Go.wp_at_zero Go.wp_at_succ

set_option maxRecDepth 20000 in
set_option maxHeartbeats 4000000 in
theorem quotes_any (ca : Cm) (tx : ByteArray) (ll : List Tm) (lv : Value) (w : World) (ha : ca.ok w) (hv : Ts w lv ll) :
    Calls Try.prog 7 #[ca.v, .string tx, lv] w fun e w' => e = .returned (.bool true) ∧ Below w.heap.size w w' := by
  obtain ⟨⟨a, hn, cap, h1⟩, ⟨a', cap', h2⟩, ⟨a'', cap'', h3⟩, -, -⟩ := ha.shape
  have HM1 : Hid (∀ X : World, Below w.heap.size w X → Calls Try.prog 10 #[ca.v] X fun e w' => ∃ d : Cm, e = .returned d.v ∧ d.key = madeK ca.key ∧ MCl X.heap.size w' d ∧ Below X.heap.size X w') := fun X hX => made_any ca X (ha.later hX)
  have hva := made_val nmP_ok ca.key
  have hma : mis 0 (vrs (Ck.terms (madeK ca.key))) = false := norm_mis _
  generalize madeK ca.key = MA at HM1 hva hma
  have va := unq_val hva
  have ma : mis 0 (vrs (Ck.terms (unq MA))) = false := by rw [unq_vars hva]; exact hma
  have HKS : Hid (KS MA) := hva.ks
  obtain ⟨KA, hKA⟩ : ∃ K, unq MA = K := ⟨_, rfl⟩
  have HKA : Hid (unq MA = KA) := hKA
  have hza : KA.1.by_ = zt := by rw [← hKA]; rfl
  rw [hKA] at va ma
  obtain ⟨m, hd, hvn⟩ := num_vars ma
  have hm72 := num_le va hd
  have hdl : (dis (vrs (Ck.terms KA))).length = m := by rw [hd, ints_len]
  have hpu := nmU_prin tx
  have HN1 : Hid (∀ X : World, Calls Try.prog 19 #[.string tx] X fun e w' => e = .returned (.string (nmU tx)) ∧ Below X.heap.size X w') := fun X => name3_any tx X
  generalize nmU tx = U at hpu HN1
  have vq := quo_val (u := U) hpu va
  have qv := quo_vars (u := U) hza
  have mq : mis 0 (vrs (Ck.terms (quoK U KA))) = false := by rw [qv]; exact ma
  have hqn : ∀ t ∈ Ck.terms (quoK U KA), t.var = true → t.n < m := fun t ht hvt => by
    have h1 : t.n ∈ vrs (Ck.terms (quoK U KA)) := List.mem_map.2 ⟨t, List.mem_filter.2 ⟨ht, hvt⟩, rfl⟩
    rw [qv] at h1
    obtain ⟨s, hs, e⟩ := List.mem_map.1 h1
    obtain ⟨hs, hvs⟩ := List.mem_filter.1 hs
    rw [← e]; exact hvn s hs hvs
  have HQU : Hid (∀ (X : World) (c : Cm), c.key = KA → c.ok X → Calls Try.prog 20 #[.string U, c.v] X fun e w' => ∃ d : Cm, e = .returned (.tuple #[d.v, .int .i64 0]) ∧ d.key = quoK U KA ∧ d.ok w' ∧ Below X.heap.size X w') := fun X c hK ho => by
    have hcz : c.head.1.by_ = zt := (congrArg (fun k : Ck => k.1.by_) hK).trans hza
    have := quo4_any c U X ho (by rw [hK]; exact va.ks) (wf_of (fun t ht hvt => by rw [hK] at ht; have := hvn t ht hvt; omega) (by rw [hK]; exact Nat.le_trans va.ks.len (by omega))) hpu (by rw [← hK] at va ma; exact chk_zero va.e va.t va.bl va.tl va.h va.s ma) hcz
    rw [hK] at this; exact this
  have HQA : Hid (∀ (X : World) (c : Cm), c.key = quoK U KA → c.ok X → Calls Try.prog 20 #[.string U, c.v] X fun e w' => e = .returned (.tuple #[.agg #[.int .i64 0, .int .i64 0, .string ⟨#[]⟩, .string ⟨#[]⟩, .slice none 0 0, .slice none 0 0, .slice none 0 0], .int .i64 37]) ∧ Below X.heap.size X w') := fun X c hK ho => by
    refine quote_no3 c U X ho (wf_of (fun t ht hvt => by rw [hK] at ht; have := hqn t ht hvt; omega) (by rw [hK]; exact Nat.le_trans vq.ks.len (by omega))) hpu (by rw [← hK] at vq mq; exact chk_zero vq.e vq.t vq.bl vq.tl vq.h vq.s mq) ?_
    have e : c.key.1.by_ = ⟨2, 0, U⟩ := by rw [hK]; rfl
    intro e2
    have : (c.key.1.by_ : Tm) = zt := e2
    rw [e] at this
    exact zt_ne U this.symm
  have HCH : Hid (∀ (X : World) (c : Cm), c.key = quoK U KA → c.ok X → Calls Try.prog 9 #[c.v] X fun e w' => e = .returned (.int .i64 0) ∧ Below X.heap.size X w') := fun X c hK ho => by
    have := check9_any c X ho (wf_of (fun t ht hvt => by rw [hK] at ht; have := hqn t ht hvt; omega) (by rw [hK]; exact Nat.le_trans vq.ks.len (by omega)))
    rw [show c.chk = 0 by rw [← hK] at vq mq; exact chk_zero vq.e vq.t vq.bl vq.tl vq.h vq.s mq] at this
    exact this
  have HVC : Hid (∀ (X : World) (c : Cm), c.key = KA ∨ c.key = quoK U KA → c.ok X → Calls Try.prog 14 #[c.v] X fun e w' => e = .returned (.int .i64 (m : Int)) ∧ Below X.heap.size X w') := fun X c hK ho => by
    rcases hK with hK | hK
    · have := vars3_any c X ho (by rw [hK]; exact va.ks) (by rw [hK]; exact fun t ht hv => by have := hvn t ht hv; omega)
      rw [hK, hdl] at this; exact this
    · have := vars3_any c X ho (by rw [hK]; exact vq.ks) (by rw [hK]; exact fun t ht hv => by have := hqn t ht hv; omega)
      rw [hK, qv, hdl] at this; exact this
  have HNO : Hid (∀ (X : World) (c : Cm), c.key = quoK U KA → c.ok X → Calls Try.prog 16 #[c.v] X fun e w' => ∃ d : Cm, e = .returned d.v ∧ d.key = quoK U KA ∧ Kp X.heap.size w' d ∧ Below X.heap.size X w') := fun X c hK ho => by
    have := normal4_any c X ho (by rw [hK]; exact vq.ks) (by rw [hK]; exact fun t ht hv => wf_small (var_nn hv) (by have := hqn t ht hv; omega))
    rw [hK, norm_id mq] at this; exact this
  have HIN : Hid (∀ (X : World) (c : Cm) (y : Value), KS c.key → c.ok X → Ts X y (csts ll m) → Calls Try.prog 17 #[c.v, y] X fun e w' => ∃ d : Cm, e = .returned d.v ∧ d.key = mapC (ins (csts ll m)) c.key ∧ Kp X.heap.size w' d ∧ Below X.heap.size X w') := fun X c y hk ho hy => inst4_any c _ y X ho hy hk
  have HIX : Hid (∀ (X : World) (c : Cm) (y : Value), c.key = quoK U KA → c.ok X → Ts X y (csts ll m) → Calls Try.prog 17 #[c.v, y] X fun e w' => ∃ d : Cm, e = .returned d.v ∧ d.key = mapC (ins (csts ll m)) (quoK U KA) ∧ Kp X.heap.size w' d ∧ Below X.heap.size X w') := fun X c y hK ho hy => by
    have := HIN.out X c y (by rw [hK]; exact vq.ks) ho hy
    rw [hK] at this; exact this
  have HIY : Hid (∀ (X : World) (c : Cm) (y : Value), c.key = KA → c.ok X → Ts X y (csts ll m) → Calls Try.prog 17 #[c.v, y] X fun e w' => ∃ d : Cm, e = .returned d.v ∧ d.key = mapC (ins (csts ll m)) KA ∧ Kp X.heap.size w' d ∧ Below X.heap.size X w') := fun X c y hK ho hy => by
    have := HIN.out X c y (by rw [hK]; exact va.ks) ho hy
    rw [hK] at this; exact this
  have HCO : Hid (∀ X : World, Below w.heap.size w X → Calls Try.prog 18 #[lv, .int .i64 (m : Int)] X fun e w' => ∃ v', e = .returned v' ∧ OwnT w' X.heap.size v' (csts ll m) ∧ Below X.heap.size X w') := fun X hX => consts_any ll lv m X (hv.later hX) (by omega)
  have hl100 : (csts ll m).length ≤ 1000 := by rw [csts_len]; omega
  have HL100 : Hid ((csts ll m).length ≤ 1000) := hl100
  have HBL : Hid (KA.2.1.length ≤ 8 ∧ KA.2.2.length ≤ 8) := ⟨va.bl, va.tl⟩
  have z1 : ¬ ((m : Int) < 0) := by omega
  have z2 : ¬ ((72 : Int) < (m : Int)) := by omega
  obtain ⟨⟨⟨⟨k, m', s⟩, nm, ls⟩, hx⟩, body, bv, tests, tv⟩ := ca
  simp only at h1 h2 h3
  subst h1 h2 h3
  obtain ⟨la, lc, rfl, hll, -⟩ := hv
  clear ha hKA hva hma va ma hd hvn hm72 hdl hpu vq qv mq hqn HIN hl100 hza
  go_enter Try.func7, Try.ntmps7
  go_upto_region 3 with (go_at_call 10; refine (HM1.out _ (below1 _ _)).mono ?_; clear HM1; rintro x w1 ⟨d, rfl, hdk, hmc, hb1⟩; have hok := hmc.ok8 (by rw [hdk]; exact HKS.out); obtain ⟨⟨d1, d2, d3, tz1⟩, ⟨d4, d6, tz2⟩, ⟨d7, d9, tz3⟩, -, -⟩ := (hok).shape; obtain ⟨d5, tz4⟩ : ∃ n, n = d.body.length := ⟨_, rfl⟩; obtain ⟨d8, tz5⟩ : ∃ n, n = d.tests.length := ⟨_, rfl⟩; rw [← tz4] at tz2; rw [← tz5] at tz3; obtain ⟨⟨⟨⟨dk, dn, ds⟩, dm, da⟩, dv⟩, db, dbv, dt, dtv⟩ := d; simp only at tz1 tz2 tz3; subst tz1 tz2 tz3; clear tz4 tz5; have HD : Hid (Cm.key ⟨(⟨⟨dk, dn, ds⟩, dm, da⟩, .slice d1 d2 d3), db, .slice d4 d5 d6, dt, .slice d7 d8 d9⟩ = MA) := hdk; have HT : Hid (Cm.ok w1 ⟨(⟨⟨dk, dn, ds⟩, dm, da⟩, .slice d1 d2 d3), db, .slice d4 d5 d6, dt, .slice d7 d8 d9⟩) := hok; have HW1 : Hid (Below w.heap.size w w1) := below_step (below1 _ _) hb1; clear hb1 hok hmc hdk)
  have HX : Hid (Bx (w1.alloc (.cells #[.int .i64 0, .int .i64 0, .string ⟨#[]⟩, .string dm, .slice d1 d2 d3, .slice d4 d5 d6, .slice d7 d8 d9] 30)) w1.heap.size ⟨(⟨⟨0, 0, ⟨#[]⟩⟩, dm, da⟩, .slice d1 d2 d3), db, .slice d4 d5 d6, dt, .slice d7 d8 d9⟩) := Bx.new (d := ⟨(⟨⟨0, 0, ⟨#[]⟩⟩, dm, da⟩, .slice d1 d2 d3), db, .slice d4 d5 d6, dt, .slice d7 d8 d9⟩) ⟨HT.out.h, HT.out.b, HT.out.t⟩
  have HW : Hid (Below w.heap.size w (w1.alloc (.cells #[.int .i64 0, .int .i64 0, .string ⟨#[]⟩, .string dm, .slice d1 d2 d3, .slice d4 d5 d6, .slice d7 d8 d9] 30))) := below_step HW1.out (below1 _ _)
  have HXK : Hid (Cm.key ⟨(⟨⟨0, 0, ⟨#[]⟩⟩, dm, da⟩, .slice d1 d2 d3), db, .slice d4 d5 d6, dt, .slice d7 d8 d9⟩ = KA) := by show _ = _; rw [← HKA.out, ← HD.out]; rfl
  clear HT HW1 HD HKS
  revert HX HW
  generalize (w1.alloc (.cells #[.int .i64 0, .int .i64 0, .string ⟨#[]⟩, .string dm, .slice d1 d2 d3, .slice d4 d5 d6, .slice d7 d8 d9] 30)) = X5
  generalize w1.heap.size = Gd
  intro HX HW
  go_upto_region 4 with (go_at_call 19; refine (HN1.out _).mono ?_; clear HN1; rintro x w3 ⟨rfl, hb⟩; have HX3 : Hid (Bx w3 Gd ⟨(⟨⟨0, 0, ⟨#[]⟩⟩, dm, da⟩, .slice d1 d2 d3), db, .slice d4 d5 d6, dt, .slice d7 d8 d9⟩) := HX.out.later hb; have HW3 : Hid (Below w.heap.size w w3) := below_step HW.out hb; clear hb HX HW)
  have HX := HX3
  have HW := HW3
  clear HX3 HW3
  obtain ⟨c0, c1, c2, c3, c4, c5, c6⟩ := cseven HX.out.b
  go_upto_region 5 with (go_at_call 20; refine (HQU.out _ ⟨(⟨⟨0, 0, ⟨#[]⟩⟩, dm, da⟩, .slice d1 d2 d3), db, .slice d4 d5 d6, dt, .slice d7 d8 d9⟩ HXK.out HX.out.o).mono ?_; rintro x wq ⟨dd, rfl, hqk, hqo, hb⟩; obtain ⟨⟨p1, p2, p3, tz1⟩, ⟨p4, p6, tz2⟩, ⟨p7, p9, tz3⟩, -, -⟩ := (hqo).shape; obtain ⟨p5, tz4⟩ : ∃ n, n = dd.body.length := ⟨_, rfl⟩; obtain ⟨p8, tz5⟩ : ∃ n, n = dd.tests.length := ⟨_, rfl⟩; rw [← tz4] at tz2; rw [← tz5] at tz3; obtain ⟨⟨⟨⟨pk, pn, ps⟩, pm, pa⟩, pv⟩, pb, pbv, pt, ptv⟩ := dd; simp only at tz1 tz2 tz3; subst tz1 tz2 tz3; clear tz4 tz5; have N0 : Hid (Bx (wq.alloc (.cells (Cm.cs ⟨(⟨⟨pk, pn, ps⟩, pm, pa⟩, .slice p1 p2 p3), pb, .slice p4 p5 p6, pt, .slice p7 p8 p9⟩) 30)) wq.heap.size ⟨(⟨⟨pk, pn, ps⟩, pm, pa⟩, .slice p1 p2 p3), pb, .slice p4 p5 p6, pt, .slice p7 p8 p9⟩) := Bx.new hqo; have N1 : Hid (Cm.key ⟨(⟨⟨pk, pn, ps⟩, pm, pa⟩, .slice p1 p2 p3), pb, .slice p4 p5 p6, pt, .slice p7 p8 p9⟩ = quoK U KA) := hqk; have K0 : Hid (Bx (wq.alloc (.cells (Cm.cs ⟨(⟨⟨pk, pn, ps⟩, pm, pa⟩, .slice p1 p2 p3), pb, .slice p4 p5 p6, pt, .slice p7 p8 p9⟩) 30)) Gd ⟨(⟨⟨0, 0, ⟨#[]⟩⟩, dm, da⟩, .slice d1 d2 d3), db, .slice d4 d5 d6, dt, .slice d7 d8 d9⟩) := (HX.out.later hb).later (below1 _ _); have KW : Hid (Below w.heap.size w (wq.alloc (.cells (Cm.cs ⟨(⟨⟨pk, pn, ps⟩, pm, pa⟩, .slice p1 p2 p3), pb, .slice p4 p5 p6, pt, .slice p7 p8 p9⟩) 30))) := below_step (below_step HW.out hb) (below1 _ _); clear hb hqo hqk HW HX c0 c1 c2 c3 c4 c5 c6)
  revert N0 K0 KW
  generalize wq.alloc (.cells #[.int .i64 pk, .int .i64 pn, .string ps, .string pm, .slice p1 p2 p3, .slice p4 p5 p6, .slice p7 p8 p9] 30) = w4
  generalize wq.heap.size = Gp
  intro N0 K0 KW
  have HP := N0
  have HPK := N1
  have HW := KW
  have HX := K0
  clear N0 N1 KW K0
  obtain ⟨c0, c1, c2, c3, c4, c5, c6⟩ := cseven HX.out.b
  go_upto_region 6 with (go_at_call 14; refine (HVC.out _ ⟨(⟨⟨0, 0, ⟨#[]⟩⟩, dm, da⟩, .slice d1 d2 d3), db, .slice d4 d5 d6, dt, .slice d7 d8 d9⟩ (Or.inl HXK.out) HX.out.o).mono ?_; rintro e w5 ⟨rfl, hb⟩; have KX : Hid (Bx w5 Gd ⟨(⟨⟨0, 0, ⟨#[]⟩⟩, dm, da⟩, .slice d1 d2 d3), db, .slice d4 d5 d6, dt, .slice d7 d8 d9⟩) := HX.out.later hb; have KP : Hid (Bx w5 Gp ⟨(⟨⟨pk, pn, ps⟩, pm, pa⟩, .slice p1 p2 p3), pb, .slice p4 p5 p6, pt, .slice p7 p8 p9⟩) := HP.out.later hb; have KW : Hid (Below w.heap.size w w5) := below_step HW.out hb; clear hb HX HP HW c0 c1 c2 c3 c4 c5 c6)
  have HX := KX
  have HP := KP
  have HW := KW
  clear KX KP KW
  have HCK : Hid (∀ X : World, Below w5.heap.size w5 X → Calls Try.prog 9 #[Cm.v ⟨(⟨⟨pk, pn, ps⟩, pm, pa⟩, .slice p1 p2 p3), pb, .slice p4 p5 p6, pt, .slice p7 p8 p9⟩] X fun e w' => e = .returned (.int .i64 0) ∧ Below X.heap.size X w') := fun X hX => HCH.out X ⟨(⟨⟨pk, pn, ps⟩, pm, pa⟩, .slice p1 p2 p3), pb, .slice p4 p5 p6, pt, .slice p7 p8 p9⟩ HPK.out (HP.out.later hX).o
  have HVQ : Hid (∀ X : World, Below w5.heap.size w5 X → Calls Try.prog 14 #[Cm.v ⟨(⟨⟨pk, pn, ps⟩, pm, pa⟩, .slice p1 p2 p3), pb, .slice p4 p5 p6, pt, .slice p7 p8 p9⟩] X fun e w' => e = .returned (.int .i64 (m : Int)) ∧ Below X.heap.size X w') := fun X hX => HVC.out X ⟨(⟨⟨pk, pn, ps⟩, pm, pa⟩, .slice p1 p2 p3), pb, .slice p4 p5 p6, pt, .slice p7 p8 p9⟩ (Or.inr HPK.out) (HP.out.later hX).o
  have HNM : Hid (∀ X : World, Below w5.heap.size w5 X → Calls Try.prog 16 #[Cm.v ⟨(⟨⟨pk, pn, ps⟩, pm, pa⟩, .slice p1 p2 p3), pb, .slice p4 p5 p6, pt, .slice p7 p8 p9⟩] X fun e w' => ∃ d : Cm, e = .returned d.v ∧ d.key = quoK U KA ∧ Kp X.heap.size w' d ∧ Below X.heap.size X w') := fun X hX => HNO.out X ⟨(⟨⟨pk, pn, ps⟩, pm, pa⟩, .slice p1 p2 p3), pb, .slice p4 p5 p6, pt, .slice p7 p8 p9⟩ HPK.out (HP.out.later hX).o
  clear HCH HVC HNO
  go_cut [59] from 32 (fun s59 wx => s59 = .bool false ∧ Below w5.heap.size w5 wx)
  case first =>
    refine wp_region_held_drew (S := fun w' => Below w5.heap.size w5 w') (by kernel_rfl) (Below.refl _ _).drew (fun hH => ?_)
    revert hH
    generalize w5.drew = V0
    intro hH
    refine wpAnyH_take (i := 0) (oi := ⟨_, _, _, _, _, _⟩) (v := .int .i64 0) rfl (by kernel_rfl) (by kernel_rfl) (by kernel_rfl) (fun _ _ _ h => h) (Or.inl ⟨by rfl, fun w' h => by clear h; go_simp⟩) hH ?_
    simp only [Act.put, List.setIfInBounds_toArray, List.set_cons_zero, List.set_cons_succ]
    refine wpAnyH_take (i := 1) (oi := ⟨_, _, _, _, _, _⟩) (v := .bool false) rfl (by kernel_rfl) (by kernel_rfl) (by kernel_rfl) (fun _ _ _ h => h) (Or.inl ⟨by rfl, fun w' h => by clear h; go_simp⟩) hH ?_
    simp only [Act.put, List.setIfInBounds_toArray, List.set_cons_zero, List.set_cons_succ]
    refine wpAnyH_take (i := 2) (oi := ⟨_, _, _, _, _, _⟩) (v := .bool false) rfl (by kernel_rfl) (by kernel_rfl) (by kernel_rfl) (fun _ _ _ h => h) (Or.inl ⟨by rfl, fun w' h => by clear h; go_simp⟩) hH ?_
    simp only [Act.put, List.setIfInBounds_toArray, List.set_cons_zero, List.set_cons_succ]
    refine wpAnyH_take (i := 3) (oi := ⟨_, _, _, _, _, _⟩) (v := .agg #[.int .i64 pk, .int .i64 pn, .string ps, .string pm, .slice p1 p2 p3, .slice p4 p5 p6, .slice p7 p8 p9]) rfl (by kernel_rfl) (by kernel_rfl) (by kernel_rfl) (fun _ _ _ h => h) (Or.inl ⟨by rfl, fun w' h => by obtain ⟨c0, c1, c2, c3, c4, c5, c6⟩ := cseven (CBlk.later (Hid.out HP).b h); clear h; go_simp⟩) hH ?_
    simp only [Act.put, List.setIfInBounds_toArray, List.set_cons_zero, List.set_cons_succ]
    refine wpAnyH_ready (rs := [4]) (by kernel_rfl) (by simp) ?_
    refine (AllReadyH.cons (o := ⟨_, _, _, _, _, _⟩) rfl (fun K hK => ?_) AllReadyH.nil)
    go_simp
    refine (HCK.out _ hH).mono ?_
    rintro x V1 ⟨rfl, hb⟩
    refine hK.out _ _ (below_step hH hb) (fun hH => ?_)
    clear hK K hb
    try simp only [Act.put, List.setIfInBounds_toArray, List.set_cons_zero, List.set_cons_succ]
    refine wpAnyH_take (i := 5) (oi := ⟨_, _, _, _, _, _⟩) (v := .bool false) rfl (by kernel_rfl) (by kernel_rfl) (by kernel_rfl) (fun _ _ _ h => h) (Or.inl ⟨by rfl, fun w' h => by clear h; go_simp⟩) hH ?_
    simp only [Act.put, List.setIfInBounds_toArray, List.set_cons_zero, List.set_cons_succ]
    refine wpAnyH_take (i := 6) (oi := ⟨_, _, _, _, _, _⟩) (v := .bool false) rfl (by kernel_rfl) (by kernel_rfl) (by kernel_rfl) (fun _ _ _ h => h) (Or.inl ⟨by rfl, fun w' h => by clear h; go_simp⟩) hH ?_
    simp only [Act.put, List.setIfInBounds_toArray, List.set_cons_zero, List.set_cons_succ]
    refine wpAnyH_take (i := 7) (oi := ⟨_, _, _, _, _, _⟩) (v := .bool false) rfl (by kernel_rfl) (by kernel_rfl) (by kernel_rfl) (fun _ _ _ h => h) (Or.inl ⟨by rfl, fun w' h => by clear h; go_simp⟩) hH ?_
    simp only [Act.put, List.setIfInBounds_toArray, List.set_cons_zero, List.set_cons_succ]
    refine wpAnyH_take (i := 8) (oi := ⟨_, _, _, _, _, _⟩) (v := .agg #[.int .i64 pk, .int .i64 pn, .string ps, .string pm, .slice p1 p2 p3, .slice p4 p5 p6, .slice p7 p8 p9]) rfl (by kernel_rfl) (by kernel_rfl) (by kernel_rfl) (fun _ _ _ h => h) (Or.inl ⟨by rfl, fun w' h => by obtain ⟨c0, c1, c2, c3, c4, c5, c6⟩ := cseven (CBlk.later (Hid.out HP).b h); clear h; go_simp⟩) hH ?_
    simp only [Act.put, List.setIfInBounds_toArray, List.set_cons_zero, List.set_cons_succ]
    refine wpAnyH_take (i := 10) (oi := ⟨_, _, _, _, _, _⟩) (v := .int .i64 (m : Int)) rfl (by kernel_rfl) (by kernel_rfl) (by kernel_rfl) (fun _ _ _ h => h) (Or.inl ⟨by rfl, fun w' h => by clear h; go_simp⟩) hH ?_
    simp only [Act.put, List.setIfInBounds_toArray, List.set_cons_zero, List.set_cons_succ]
    refine wpAnyH_ready (rs := [9]) (by kernel_rfl) (by simp) ?_
    refine (AllReadyH.cons (o := ⟨_, _, _, _, _, _⟩) rfl (fun K hK => ?_) AllReadyH.nil)
    go_simp
    refine (HVQ.out _ hH).mono ?_
    rintro x V2 ⟨rfl, hb⟩
    refine hK.out _ _ (below_step hH hb) (fun hH => ?_)
    clear hK K hb
    try simp only [Act.put, List.setIfInBounds_toArray, List.set_cons_zero, List.set_cons_succ]
    refine wpAnyH_take (i := 11) (oi := ⟨_, _, _, _, _, _⟩) (v := .bool false) rfl (by kernel_rfl) (by kernel_rfl) (by kernel_rfl) (fun _ _ _ h => h) (Or.inl ⟨by rfl, fun w' h => by clear h; go_simp⟩) hH ?_
    simp only [Act.put, List.setIfInBounds_toArray, List.set_cons_zero, List.set_cons_succ]
    refine wpAnyH_take (i := 12) (oi := ⟨_, _, _, _, _, _⟩) (v := .bool false) rfl (by kernel_rfl) (by kernel_rfl) (by kernel_rfl) (fun _ _ _ h => h) (Or.inl ⟨by rfl, fun w' h => by clear h; go_simp⟩) hH ?_
    simp only [Act.put, List.setIfInBounds_toArray, List.set_cons_zero, List.set_cons_succ]
    refine wpAnyH_take (i := 13) (oi := ⟨_, _, _, _, _, _⟩) (v := .bool false) rfl (by kernel_rfl) (by kernel_rfl) (by kernel_rfl) (fun _ _ _ h => h) (Or.inl ⟨by rfl, fun w' h => by clear h; go_simp⟩) hH ?_
    simp only [Act.put, List.setIfInBounds_toArray, List.set_cons_zero, List.set_cons_succ]
    refine wpAnyH_take (i := 14) (oi := ⟨_, _, _, _, _, _⟩) (v := .int .i64 (m : Int)) rfl (by kernel_rfl) (by kernel_rfl) (by kernel_rfl) (fun _ _ _ h => h) (Or.inl ⟨by rfl, fun w' h => by clear h; go_simp⟩) hH ?_
    simp only [Act.put, List.setIfInBounds_toArray, List.set_cons_zero, List.set_cons_succ]
    refine wpAnyH_take (i := 15) (oi := ⟨_, _, _, _, _, _⟩) (v := .bool false) rfl (by kernel_rfl) (by kernel_rfl) (by kernel_rfl) (fun _ _ _ h => h) (Or.inl ⟨by rfl, fun w' h => by clear h; go_simp⟩) hH ?_
    simp only [Act.put, List.setIfInBounds_toArray, List.set_cons_zero, List.set_cons_succ]
    refine wpAnyH_take (i := 16) (oi := ⟨_, _, _, _, _, _⟩) (v := .bool false) rfl (by kernel_rfl) (by kernel_rfl) (by kernel_rfl) (fun _ _ _ h => h) (Or.inl ⟨by rfl, fun w' h => by clear h; go_simp⟩) hH ?_
    simp only [Act.put, List.setIfInBounds_toArray, List.set_cons_zero, List.set_cons_succ]
    refine wpAnyH_take (i := 17) (oi := ⟨_, _, _, _, _, _⟩) (v := .bool false) rfl (by kernel_rfl) (by kernel_rfl) (by kernel_rfl) (fun _ _ _ h => h) (Or.inl ⟨by rfl, fun w' h => by clear h; go_simp⟩) hH ?_
    simp only [Act.put, List.setIfInBounds_toArray, List.set_cons_zero, List.set_cons_succ]
    refine wpAnyH_take (i := 18) (oi := ⟨_, _, _, _, _, _⟩) (v := .int .i64 (m : Int)) rfl (by kernel_rfl) (by kernel_rfl) (by kernel_rfl) (fun _ _ _ h => h) (Or.inl ⟨by rfl, fun w' h => by clear h; go_simp⟩) hH ?_
    simp only [Act.put, List.setIfInBounds_toArray, List.set_cons_zero, List.set_cons_succ]
    refine wpAnyH_take (i := 19) (oi := ⟨_, _, _, _, _, _⟩) (v := .bool false) rfl (by kernel_rfl) (by kernel_rfl) (by kernel_rfl) (fun _ _ _ h => h) (Or.inl ⟨by rfl, fun w' h => by clear h; go_simp⟩) hH ?_
    simp only [Act.put, List.setIfInBounds_toArray, List.set_cons_zero, List.set_cons_succ]
    refine wpAnyH_take (i := 20) (oi := ⟨_, _, _, _, _, _⟩) (v := .bool false) rfl (by kernel_rfl) (by kernel_rfl) (by kernel_rfl) (fun _ _ _ h => h) (Or.inl ⟨by rfl, fun w' h => by clear h; go_simp⟩) hH ?_
    simp only [Act.put, List.setIfInBounds_toArray, List.set_cons_zero, List.set_cons_succ]
    refine wpAnyH_take (i := 21) (oi := ⟨_, _, _, _, _, _⟩) (v := .bool false) rfl (by kernel_rfl) (by kernel_rfl) (by kernel_rfl) (fun _ _ _ h => h) (Or.inl ⟨by rfl, fun w' h => by clear h; go_simp⟩) hH ?_
    simp only [Act.put, List.setIfInBounds_toArray, List.set_cons_zero, List.set_cons_succ]
    refine wpAnyH_take (i := 22) (oi := ⟨_, _, _, _, _, _⟩) (v := .agg #[.int .i64 pk, .int .i64 pn, .string ps, .string pm, .slice p1 p2 p3, .slice p4 p5 p6, .slice p7 p8 p9]) rfl (by kernel_rfl) (by kernel_rfl) (by kernel_rfl) (fun _ _ _ h => h) (Or.inl ⟨by rfl, fun w' h => by obtain ⟨c0, c1, c2, c3, c4, c5, c6⟩ := cseven (CBlk.later (Hid.out HP).b h); clear h; go_simp⟩) hH ?_
    simp only [Act.put, List.setIfInBounds_toArray, List.set_cons_zero, List.set_cons_succ]
    refine wpAnyH_take (i := 24) (oi := ⟨_, _, _, _, _, _⟩) (v := .agg #[.int .i64 pk, .int .i64 pn, .string ps, .string pm, .slice p1 p2 p3, .slice p4 p5 p6, .slice p7 p8 p9]) rfl (by kernel_rfl) (by kernel_rfl) (by kernel_rfl) (fun _ _ _ h => h) (Or.inl ⟨by rfl, fun w' h => by obtain ⟨c0, c1, c2, c3, c4, c5, c6⟩ := cseven (CBlk.later (Hid.out HP).b h); clear h; go_simp⟩) hH ?_
    simp only [Act.put, List.setIfInBounds_toArray, List.set_cons_zero, List.set_cons_succ]
    refine wpAnyH_ready (rs := [23]) (by kernel_rfl) (by simp) ?_
    refine (AllReadyH.cons (o := ⟨_, _, _, _, _, _⟩) rfl (fun K hK => ?_) AllReadyH.nil)
    go_simp
    refine (HNM.out _ hH).mono ?_
    rintro x V3 ⟨nx, rfl, hnk, hnp, hb⟩
    obtain ⟨⟨f1, f2, f3, tz1⟩, ⟨f4, f6, tz2⟩, ⟨f7, f9, tz3⟩, -, -⟩ := (hnp.ok).shape
    obtain ⟨f5, tz4⟩ : ∃ n, n = nx.body.length := ⟨_, rfl⟩
    obtain ⟨f8, tz5⟩ : ∃ n, n = nx.tests.length := ⟨_, rfl⟩
    rw [← tz4] at tz2
    rw [← tz5] at tz3
    obtain ⟨⟨⟨⟨fk, fn, fs⟩, fm, fa⟩, fv⟩, fb, fbv, ft, ftv⟩ := nx
    simp only at tz1 tz2 tz3
    subst tz1 tz2 tz3
    clear tz4 tz5
    have HF : Hid (Cm.ok V3 ⟨(⟨⟨fk, fn, fs⟩, fm, fa⟩, .slice f1 f2 f3), fb, .slice f4 f5 f6, ft, .slice f7 f8 f9⟩ ∧ Cm.key ⟨(⟨⟨fk, fn, fs⟩, fm, fa⟩, .slice f1 f2 f3), fb, .slice f4 f5 f6, ft, .slice f7 f8 f9⟩ = quoK U KA) := ⟨hnp.ok, hnk⟩
    refine hK.out _ _ (below_step hH hb) (fun hH => ?_)
    clear hK K hb hnk hnp
    try simp only [Act.put, List.setIfInBounds_toArray, List.set_cons_zero, List.set_cons_succ]
    refine wpAnyH_ready (rs := [25]) (by kernel_rfl) (by simp) ?_
    refine (AllReadyH.cons (o := ⟨_, _, _, _, _, _⟩) rfl (fun K hK => ?_) AllReadyH.nil)
    go_simp
    refine (sameC_any ⟨(⟨⟨fk, fn, fs⟩, fm, fa⟩, .slice f1 f2 f3), fb, .slice f4 f5 f6, ft, .slice f7 f8 f9⟩ ⟨(⟨⟨pk, pn, ps⟩, pm, pa⟩, .slice p1 p2 p3), pb, .slice p4 p5 p6, pt, .slice p7 p8 p9⟩ _ HF.out.1 (HP.out.later hH).o).mono ?_
    have hsm : Cm.same ⟨(⟨⟨fk, fn, fs⟩, fm, fa⟩, .slice f1 f2 f3), fb, .slice f4 f5 f6, ft, .slice f7 f8 f9⟩ ⟨(⟨⟨pk, pn, ps⟩, pm, pa⟩, .slice p1 p2 p3), pb, .slice p4 p5 p6, pt, .slice p7 p8 p9⟩ = true := same_of_key (HF.out.2.trans HPK.out.symm)
    rw [hsm]
    clear hsm
    rintro x V4 ⟨rfl, hb⟩
    refine hK.out _ _ (below_step hH hb) (fun hH => ?_)
    clear hK K hb
    try simp only [Act.put, List.setIfInBounds_toArray, List.set_cons_zero, List.set_cons_succ]
    refine wpAnyH_take (i := 26) (oi := ⟨_, _, _, _, _, _⟩) (v := .bool false) rfl (by kernel_rfl) (by kernel_rfl) (by kernel_rfl) (fun _ _ _ h => h) (Or.inl ⟨by rfl, fun w' h => by clear h; go_simp⟩) hH ?_
    simp only [Act.put, List.setIfInBounds_toArray, List.set_cons_zero, List.set_cons_succ]
    refine wpAnyH_take (i := 27) (oi := ⟨_, _, _, _, _, _⟩) (v := .bool false) rfl (by kernel_rfl) (by kernel_rfl) (by kernel_rfl) (fun _ _ _ h => h) (Or.inl ⟨by rfl, fun w' h => by clear h; go_simp⟩) hH ?_
    simp only [Act.put, List.setIfInBounds_toArray, List.set_cons_zero, List.set_cons_succ]
    refine wpAnyH_done (by kernel_rfl) ?_ _
    go_wp2_with fail
    go_meet
    case rel => exact ⟨rfl, hH⟩
  case rest =>
  obtain ⟨rfl, hb⟩ := hcut
  rename World => w6
  have KX : Hid (Bx w6 Gd ⟨(⟨⟨0, 0, ⟨#[]⟩⟩, dm, da⟩, .slice d1 d2 d3), db, .slice d4 d5 d6, dt, .slice d7 d8 d9⟩) := HX.out.later hb
  have KP : Hid (Bx w6 Gp ⟨(⟨⟨pk, pn, ps⟩, pm, pa⟩, .slice p1 p2 p3), pb, .slice p4 p5 p6, pt, .slice p7 p8 p9⟩) := HP.out.later hb
  have KW : Hid (Below w.heap.size w w6) := below_step HW.out hb
  clear hb HX HP HW HCK HVQ HNM
  have HX := KX
  have HP := KP
  have HW := KW
  clear KX KP KW
  go_upto_region 9 with (go_at_call 18; refine (HCO.out _ HW.out).mono ?_; clear HCO; rintro e w7 ⟨vv, rfl, hown, hb⟩; have HVV : Hid (Ts w7 vv (csts ll m)) := hown.tsP.ts (by have := HL100.out; omega); have KX : Hid (Bx w7 Gd ⟨(⟨⟨0, 0, ⟨#[]⟩⟩, dm, da⟩, .slice d1 d2 d3), db, .slice d4 d5 d6, dt, .slice d7 d8 d9⟩) := HX.out.later hb; have KP : Hid (Bx w7 Gp ⟨(⟨⟨pk, pn, ps⟩, pm, pa⟩, .slice p1 p2 p3), pb, .slice p4 p5 p6, pt, .slice p7 p8 p9⟩) := HP.out.later hb; have KW : Hid (Below w.heap.size w w7) := below_step HW.out hb; clear hown hb HX HP HW)
  have HX := KX
  have HP := KP
  have HW := KW
  clear KX KP KW
  obtain ⟨c0, c1, c2, c3, c4, c5, c6⟩ := cseven HP.out.b
  go_upto_region 10 with (go_at_call 17; go_loud (refine (HIX.out _ ⟨(⟨⟨pk, pn, ps⟩, pm, pa⟩, .slice p1 p2 p3), pb, .slice p4 p5 p6, pt, .slice p7 p8 p9⟩ _ HPK.out HP.out.o HVV.out).mono ?_; rintro x wq ⟨dd, rfl, hqk, hqp, hb⟩; obtain ⟨⟨x1, x2, x3, tz1⟩, ⟨x4, x6, tz2⟩, ⟨x7, x9, tz3⟩, -, -⟩ := (hqp.ok).shape; obtain ⟨x5, tz4⟩ : ∃ n, n = dd.body.length := ⟨_, rfl⟩; obtain ⟨x8, tz5⟩ : ∃ n, n = dd.tests.length := ⟨_, rfl⟩; rw [← tz4] at tz2; rw [← tz5] at tz3; obtain ⟨⟨⟨⟨xk, xn, xs⟩, xm, xa⟩, xv⟩, xb, xbv, xt, xtv⟩ := dd; simp only at tz1 tz2 tz3; subst tz1 tz2 tz3; clear tz4 tz5; have N0 : Hid (Bx (wq.alloc (.cells (Cm.cs ⟨(⟨⟨xk, xn, xs⟩, xm, xa⟩, .slice x1 x2 x3), xb, .slice x4 x5 x6, xt, .slice x7 x8 x9⟩) 30)) wq.heap.size ⟨(⟨⟨xk, xn, xs⟩, xm, xa⟩, .slice x1 x2 x3), xb, .slice x4 x5 x6, xt, .slice x7 x8 x9⟩) := Bx.new hqp.ok; have N1 : Hid (Cm.key ⟨(⟨⟨xk, xn, xs⟩, xm, xa⟩, .slice x1 x2 x3), xb, .slice x4 x5 x6, xt, .slice x7 x8 x9⟩ = mapC (ins (csts ll m)) (quoK U KA)) := hqk; have K0 : Hid (Bx (wq.alloc (.cells (Cm.cs ⟨(⟨⟨xk, xn, xs⟩, xm, xa⟩, .slice x1 x2 x3), xb, .slice x4 x5 x6, xt, .slice x7 x8 x9⟩) 30)) Gd ⟨(⟨⟨0, 0, ⟨#[]⟩⟩, dm, da⟩, .slice d1 d2 d3), db, .slice d4 d5 d6, dt, .slice d7 d8 d9⟩) := (HX.out.later hb).later (below1 _ _); have K1 : Hid (Bx (wq.alloc (.cells (Cm.cs ⟨(⟨⟨xk, xn, xs⟩, xm, xa⟩, .slice x1 x2 x3), xb, .slice x4 x5 x6, xt, .slice x7 x8 x9⟩) 30)) Gp ⟨(⟨⟨pk, pn, ps⟩, pm, pa⟩, .slice p1 p2 p3), pb, .slice p4 p5 p6, pt, .slice p7 p8 p9⟩) := (HP.out.later hb).later (below1 _ _); have KW : Hid (Below w.heap.size w (wq.alloc (.cells (Cm.cs ⟨(⟨⟨xk, xn, xs⟩, xm, xa⟩, .slice x1 x2 x3), xb, .slice x4 x5 x6, xt, .slice x7 x8 x9⟩) 30))) := below_step (below_step HW.out hb) (below1 _ _); have KV : Hid (Ts (wq.alloc (.cells (Cm.cs ⟨(⟨⟨xk, xn, xs⟩, xm, xa⟩, .slice x1 x2 x3), xb, .slice x4 x5 x6, xt, .slice x7 x8 x9⟩) 30)) vv (csts ll m)) := (HVV.out.later hb).later (below1 _ _); clear hb hqp hqk HVV HW HX HP c0 c1 c2 c3 c4 c5 c6))
  revert N0 K0 K1 KW KV
  generalize wq.alloc (.cells #[.int .i64 xk, .int .i64 xn, .string xs, .string xm, .slice x1 x2 x3, .slice x4 x5 x6, .slice x7 x8 x9] 30) = w8
  generalize wq.heap.size = Gx
  intro N0 K0 K1 KW KV
  have HQ := N0
  have HQK := N1
  have HW := KW
  have HX := K0
  have HP := K1
  clear N0 N1 KW K0 K1
  have HVV := KV
  clear KV
  obtain ⟨c0, c1, c2, c3, c4, c5, c6⟩ := cseven HX.out.b
  go_upto_region 11 with (go_at_call 17; go_loud (refine (HIY.out _ ⟨(⟨⟨0, 0, ⟨#[]⟩⟩, dm, da⟩, .slice d1 d2 d3), db, .slice d4 d5 d6, dt, .slice d7 d8 d9⟩ _ HXK.out HX.out.o HVV.out).mono ?_; rintro x wq ⟨dd, rfl, hqk, hqp, hb⟩; obtain ⟨⟨y1, y2, y3, tz1⟩, ⟨y4, y6, tz2⟩, ⟨y7, y9, tz3⟩, -, -⟩ := (hqp.ok).shape; obtain ⟨y5, tz4⟩ : ∃ n, n = dd.body.length := ⟨_, rfl⟩; obtain ⟨y8, tz5⟩ : ∃ n, n = dd.tests.length := ⟨_, rfl⟩; rw [← tz4] at tz2; rw [← tz5] at tz3; obtain ⟨⟨⟨⟨yk, yn, ys⟩, ym, ya⟩, yv⟩, yb, ybv, yt, ytv⟩ := dd; simp only at tz1 tz2 tz3; subst tz1 tz2 tz3; clear tz4 tz5; have N0 : Hid (Bx (wq.alloc (.cells (Cm.cs ⟨(⟨⟨yk, yn, ys⟩, ym, ya⟩, .slice y1 y2 y3), yb, .slice y4 y5 y6, yt, .slice y7 y8 y9⟩) 30)) wq.heap.size ⟨(⟨⟨yk, yn, ys⟩, ym, ya⟩, .slice y1 y2 y3), yb, .slice y4 y5 y6, yt, .slice y7 y8 y9⟩) := Bx.new hqp.ok; have N1 : Hid (Cm.key ⟨(⟨⟨yk, yn, ys⟩, ym, ya⟩, .slice y1 y2 y3), yb, .slice y4 y5 y6, yt, .slice y7 y8 y9⟩ = mapC (ins (csts ll m)) KA) := hqk; have K0 : Hid (Bx (wq.alloc (.cells (Cm.cs ⟨(⟨⟨yk, yn, ys⟩, ym, ya⟩, .slice y1 y2 y3), yb, .slice y4 y5 y6, yt, .slice y7 y8 y9⟩) 30)) Gd ⟨(⟨⟨0, 0, ⟨#[]⟩⟩, dm, da⟩, .slice d1 d2 d3), db, .slice d4 d5 d6, dt, .slice d7 d8 d9⟩) := (HX.out.later hb).later (below1 _ _); have K1 : Hid (Bx (wq.alloc (.cells (Cm.cs ⟨(⟨⟨yk, yn, ys⟩, ym, ya⟩, .slice y1 y2 y3), yb, .slice y4 y5 y6, yt, .slice y7 y8 y9⟩) 30)) Gp ⟨(⟨⟨pk, pn, ps⟩, pm, pa⟩, .slice p1 p2 p3), pb, .slice p4 p5 p6, pt, .slice p7 p8 p9⟩) := (HP.out.later hb).later (below1 _ _); have K2 : Hid (Bx (wq.alloc (.cells (Cm.cs ⟨(⟨⟨yk, yn, ys⟩, ym, ya⟩, .slice y1 y2 y3), yb, .slice y4 y5 y6, yt, .slice y7 y8 y9⟩) 30)) Gx ⟨(⟨⟨xk, xn, xs⟩, xm, xa⟩, .slice x1 x2 x3), xb, .slice x4 x5 x6, xt, .slice x7 x8 x9⟩) := (HQ.out.later hb).later (below1 _ _); have KW : Hid (Below w.heap.size w (wq.alloc (.cells (Cm.cs ⟨(⟨⟨yk, yn, ys⟩, ym, ya⟩, .slice y1 y2 y3), yb, .slice y4 y5 y6, yt, .slice y7 y8 y9⟩) 30))) := below_step (below_step HW.out hb) (below1 _ _); have KV : Hid (Ts (wq.alloc (.cells (Cm.cs ⟨(⟨⟨yk, yn, ys⟩, ym, ya⟩, .slice y1 y2 y3), yb, .slice y4 y5 y6, yt, .slice y7 y8 y9⟩) 30)) vv (csts ll m)) := (HVV.out.later hb).later (below1 _ _); clear hb hqp hqk HVV HW HX HP HQ c0 c1 c2 c3 c4 c5 c6))
  revert N0 K0 K1 K2 KW KV
  generalize wq.alloc (.cells #[.int .i64 yk, .int .i64 yn, .string ys, .string ym, .slice y1 y2 y3, .slice y4 y5 y6, .slice y7 y8 y9] 30) = w9
  generalize wq.heap.size = Gy
  intro N0 K0 K1 K2 KW KV
  have HR := N0
  have HRK := N1
  have HW := KW
  have HX := K0
  have HP := K1
  have HQ := K2
  clear N0 N1 KW K0 K1 K2
  have HVV := KV
  clear KV
  have HSH : Hid (∀ X : World, Below w9.heap.size w9 X → Calls Try.prog 21 #[.string U, .agg #[.int .i64 xk, .int .i64 xn, .string xs, .string xm, .slice x1 x2 x3], .agg #[.int .i64 yk, .int .i64 yn, .string ys, .string ym, .slice y1 y2 y3], .bool true] X fun e w' => e = .returned (.bool true) ∧ Below X.heap.size X w') := fun X hX => by
    have := said_any U ⟨⟨xk, xn, xs⟩, xm, xa⟩ ⟨⟨yk, yn, ys⟩, ym, ya⟩ (.slice x1 x2 x3) (.slice y1 y2 y3) true X (HQ.out.later hX).o.h (HR.out.later hX).o.h
    have e := sd_head U (csts ll m) KA
    rw [← HQK.out, ← HRK.out] at e
    rw [show sdB U ⟨⟨xk, xn, xs⟩, xm, xa⟩ ⟨⟨yk, yn, ys⟩, ym, ya⟩ true = true from e] at this
    exact this
  have hx5 : x5 = d5 := by
    have e1 := ok_lenB HQ.out.o
    have e2 := ok_lenB HX.out.o
    have e3 : (fsts xb).length = (mapC (ins (csts ll m)) (quoK U KA)).2.1.length := by rw [← HQK.out]; rfl
    have e4 : (fsts db).length = KA.2.1.length := by rw [← HXK.out]; rfl
    simp [fsts, mapC, quoK] at e3 e4
    omega
  have hy5 : y5 = d5 := by
    have e1 := ok_lenB HR.out.o
    have e2 := ok_lenB HX.out.o
    have e3 : (fsts yb).length = (mapC (ins (csts ll m)) KA).2.1.length := by rw [← HRK.out]; rfl
    have e4 : (fsts db).length = KA.2.1.length := by rw [← HXK.out]; rfl
    simp [fsts, mapC] at e3 e4
    omega
  have hx8 : x8 = d8 := by
    have e1 := ok_lenT HQ.out.o
    have e2 := ok_lenT HX.out.o
    have e3 : xt.length = (mapC (ins (csts ll m)) (quoK U KA)).2.2.length := by rw [← HQK.out]; rfl
    have e4 : dt.length = KA.2.2.length := by rw [← HXK.out]; rfl
    simp [mapC, quoK] at e3 e4
    omega
  have hy8 : y8 = d8 := by
    have e1 := ok_lenT HR.out.o
    have e2 := ok_lenT HX.out.o
    have e3 : yt.length = (mapC (ins (csts ll m)) KA).2.2.length := by rw [← HRK.out]; rfl
    have e4 : dt.length = KA.2.2.length := by rw [← HXK.out]; rfl
    simp [mapC] at e3 e4
    omega
  have hd5 : d5 ≤ 8 := by
    have e2 := ok_lenB HX.out.o
    have e4 : (fsts db).length = KA.2.1.length := by rw [← HXK.out]; rfl
    have := HBL.out.1
    simp [fsts] at e4
    omega
  have hd8 : d8 ≤ 8 := by
    have e2 := ok_lenT HX.out.o
    have e4 : dt.length = KA.2.2.length := by rw [← HXK.out]; rfl
    have := HBL.out.2
    omega
  have htt : xt = yt := by
    have e3 : xt = (mapC (ins (csts ll m)) (quoK U KA)).2.2 := by rw [← HQK.out]; rfl
    have e4 : yt = (mapC (ins (csts ll m)) KA).2.2 := by rw [← HRK.out]; rfl
    rw [e3, e4]; rfl
  have HTT : Hid (xt = yt) := htt
  have HLN : Hid (x5 = d5 ∧ y5 = d5 ∧ x8 = d8 ∧ y8 = d8) := ⟨hx5, hy5, hx8, hy8⟩
  have nq1 : ((x5 : Int) != (d5 : Int)) = false := by rw [hx5]; simp
  have nq2 : ((y5 : Int) != (d5 : Int)) = false := by rw [hy5]; simp
  have nq3 : ((x8 : Int) != (d8 : Int)) = false := by rw [hx8]; simp
  have nq4 : ((y8 : Int) != (d8 : Int)) = false := by rw [hy8]; simp
  clear hx5 hy5 hx8 hy8 htt HVV HL100
  obtain ⟨c0, c1, c2, c3, c4, c5, c6⟩ := cseven HQ.out.b
  obtain ⟨e0, e1, e2, e3, e4, e5, e6⟩ := cseven HR.out.b
  obtain ⟨g0, g1, g2, g3, g4, g5, g6⟩ := cseven HX.out.b
  go_wp2_with (go_at_call 21; refine (HSH.out _ (Below.refl _ _)).mono ?_; clear HSH; rintro e wL ⟨rfl, hb⟩; have KX : Hid (Bx wL Gd ⟨(⟨⟨0, 0, ⟨#[]⟩⟩, dm, da⟩, .slice d1 d2 d3), db, .slice d4 d5 d6, dt, .slice d7 d8 d9⟩) := HX.out.later hb; have KP : Hid (Bx wL Gp ⟨(⟨⟨pk, pn, ps⟩, pm, pa⟩, .slice p1 p2 p3), pb, .slice p4 p5 p6, pt, .slice p7 p8 p9⟩) := HP.out.later hb; have KQ : Hid (Bx wL Gx ⟨(⟨⟨xk, xn, xs⟩, xm, xa⟩, .slice x1 x2 x3), xb, .slice x4 x5 x6, xt, .slice x7 x8 x9⟩) := HQ.out.later hb; have KR : Hid (Bx wL Gy ⟨(⟨⟨yk, yn, ys⟩, ym, ya⟩, .slice y1 y2 y3), yb, .slice y4 y5 y6, yt, .slice y7 y8 y9⟩) := HR.out.later hb; have KW : Hid (Below w.heap.size w wL) := below_step HW.out hb; clear hb HX HP HQ HR HW c0 c1 c2 c3 c4 c5 c6 e0 e1 e2 e3 e4 e5 e6 g0 g1 g2 g3 g4 g5 g6; obtain ⟨c0, c1, c2, c3, c4, c5, c6⟩ := cseven KQ.out.b; obtain ⟨e0, e1, e2, e3, e4, e5, e6⟩ := cseven KR.out.b; obtain ⟨g0, g1, g2, g3, g4, g5, g6⟩ := cseven KX.out.b)
  clear c0 c1 c2 c3 c4 c5 c6 e0 e1 e2 e3 e4 e5 e6 g0 g1 g2 g3 g4 g5 g6 nq1 nq2 nq3 nq4
  go_loopg [15] d5 (fun g i wr => ∃ j : Nat, j + g = d5 ∧ i = .int .i64 j ∧ Below wL.heap.size wL wr)
  case atStart => exact ⟨0, by omega, rfl, Below.refl _ _⟩
  case round =>
  obtain ⟨j, hj, rfl, hb⟩ := hrel
  have HBr : Hid (Below wL.heap.size wL wr) := hb
  have RX : Hid (Bx wr Gx ⟨(⟨⟨xk, xn, xs⟩, xm, xa⟩, .slice x1 x2 x3), xb, .slice x4 x5 x6, xt, .slice x7 x8 x9⟩) := KQ.out.later hb
  have RY : Hid (Bx wr Gy ⟨(⟨⟨yk, yn, ys⟩, ym, ya⟩, .slice y1 y2 y3), yb, .slice y4 y5 y6, yt, .slice y7 y8 y9⟩) := KR.out.later hb
  have RD : Hid (Bx wr Gd ⟨(⟨⟨0, 0, ⟨#[]⟩⟩, dm, da⟩, .slice d1 d2 d3), db, .slice d4 d5 d6, dt, .slice d7 d8 d9⟩) := KX.out.later hb
  clear hb
  cases gk with
  | succ g =>
    have hlt : (j : Int) < (d5 : Int) := by omega
    have hltx : (j : Int) < (x5 : Int) := by have := HLN.out.1; omega
    have hlty : (j : Int) < (y5 : Int) := by have := HLN.out.2.1; omega
    have j0 : (0 : Int) ≤ (j : Int) := by omega
    obtain ⟨b1, o1, t1, ex, ht1, hz1, hc1, hs1⟩ := RX.out.o.b.at_ (j := j) (by omega)
    obtain ⟨b2, o2, t2, ey, ht2, hz2, hc2, hs2⟩ := RY.out.o.b.at_ (j := j) (by omega)
    obtain ⟨b3, o3, t3, ed, ht3, hz3, hc3, -⟩ := RD.out.o.b.at_ (j := j) (by omega)
    have hsd := sd_body U (csts ll m) KA j t1.1 t2.1 t3.1 (key_at HQK.out ht1) (key_at HRK.out ht2) (key_at HXK.out ht3)
    obtain ⟨BB, hBB⟩ : ∃ B, decide (t3.1.by_ = zt) = B := ⟨_, rfl⟩
    rw [hBB] at hsd
    have hB3 : BB = (decide (t3.1.by_.k = 0) && (decide (t3.1.by_.n = 0) && decide (t3.1.by_.s.toList = []))) := by
      rw [← hBB]; exact zt_dec _
    have HSD0 := fun (X : World) (hX : Below wr.heap.size wr X) => said_any U t1.1 t2.1 t1.2 t2.2 BB X (hs1.later hX) (hs2.later hX)
    rw [hsd] at HSD0
    obtain ⟨ax, cx, hax, -⟩ := hs1
    obtain ⟨ay, cy, hay, -⟩ := hs2
    clear ht1 ht2 ht3 hsd hBB
    obtain ⟨⟨⟨kx, mx, sx⟩, nx, lx⟩, vx⟩ := t1
    obtain ⟨⟨⟨ky, my, sy⟩, ny, ly⟩, vy⟩ := t2
    obtain ⟨⟨⟨kz, mz, sz⟩, nz, lz⟩, vz⟩ := t3
    simp only at hax hay hc1 hc2 hc3 HSD0 hB3
    have HB3 : Hid (BB = (decide (kz = 0) && (decide (mz = 0) && decide (sz.toList = [])))) := hB3
    clear hB3
    subst hax hay
    have HSD : Hid (∀ X : World, Below wr.heap.size wr X → Calls Try.prog 21 #[.string U, .agg #[.int .i64 kx, .int .i64 mx, .string sx, .string nx, .slice ax lx.length cx], .agg #[.int .i64 ky, .int .i64 my, .string sy, .string ny, .slice ay ly.length cy], .bool BB] X fun e w' => e = .returned (.bool true) ∧ Below X.heap.size X w') := HSD0
    have HE1 : Hid _ := hc1
    have HE2 : Hid _ := hc2
    have HE3 : Hid _ := hc3
    have HZ1 : Hid (b1 < wr.heap.size) := hz1
    have HZ2 : Hid (b2 < wr.heap.size) := hz2
    have HZ3 : Hid (b3 < wr.heap.size) := hz3
    clear hc1 hc2 hc3 hz1 hz2 hz3 HSD0 HQK HRK HXK HPK KX KP KQ KR HIX HIY HQA HQU HTT
    subst ex ey ed
    obtain ⟨g0, g1, g2, g3, g4, g5, g6⟩ := cseven RD.out.b
    go_upto_region 16 with fail
    clear g0 g1 g2 g3 g4 g5 g6
    refine wp_region_held_drew (S := fun w' => Below wr.heap.size wr w') (by kernel_rfl) (Below.refl _ _).drew (fun hH => ?_)
    revert hH
    generalize wr.drew = V0
    intro hH
    refine wpAnyH_take (i := 0) (oi := ⟨_, _, _, _, _, _⟩) (v := .string U) rfl (by kernel_rfl) (by kernel_rfl) (by kernel_rfl) (fun _ _ _ h => h) (Or.inl ⟨by rfl, fun w' h => by clear h; go_simp⟩) hH ?_
    simp only [Act.put, List.setIfInBounds_toArray, List.set_cons_zero, List.set_cons_succ]
    refine wpAnyH_take (i := 1) (oi := ⟨_, _, _, _, _, _⟩) (v := .pointer (some ⟨Gx, 5, none⟩)) rfl (by kernel_rfl) (by kernel_rfl) (by kernel_rfl) (fun _ _ _ h => h) (Or.inl ⟨by rfl, fun w' h => by clear h; go_simp⟩) hH ?_
    simp only [Act.put, List.setIfInBounds_toArray, List.set_cons_zero, List.set_cons_succ]
    refine wpAnyH_take (i := 2) (oi := ⟨_, _, _, _, _, _⟩) (v := .slice (some ⟨b1, o1, none⟩) x5 x6) rfl (by kernel_rfl) (by kernel_rfl) (by kernel_rfl) (fun _ _ _ h => h) (Or.inl ⟨by rfl, fun w' h => by obtain ⟨c0, c1, c2, c3, c4, c5, c6⟩ := cseven (CBlk.later (Hid.out RX).b h); clear h; go_simp⟩) hH ?_
    simp only [Act.put, List.setIfInBounds_toArray, List.set_cons_zero, List.set_cons_succ]
    refine wpAnyH_take (i := 3) (oi := ⟨_, _, _, _, _, _⟩) (v := .int .i64 (j : Int)) rfl (by kernel_rfl) (by kernel_rfl) (by kernel_rfl) (fun _ _ _ h => h) (Or.inl ⟨by rfl, fun w' h => by clear h; go_simp⟩) hH ?_
    simp only [Act.put, List.setIfInBounds_toArray, List.set_cons_zero, List.set_cons_succ]
    refine wpAnyH_take (i := 4) (oi := ⟨_, _, _, _, _, _⟩) (v := .pointer (some ⟨b1, o1 + j * 5, none⟩)) rfl (by kernel_rfl) (by kernel_rfl) (by kernel_rfl) (fun _ _ _ h => h) (Or.inl ⟨by rfl, fun w' h => by clear h; go_simp⟩) hH ?_
    simp only [Act.put, List.setIfInBounds_toArray, List.set_cons_zero, List.set_cons_succ]
    refine wpAnyH_take (i := 5) (oi := ⟨_, _, _, _, _, _⟩) (v := .agg #[.int .i64 kx, .int .i64 mx, .string sx, .string nx, .slice ax lx.length cx]) rfl (by kernel_rfl) (by kernel_rfl) (by kernel_rfl) (fun _ _ _ h => h) (Or.inl ⟨by rfl, fun w' h => by obtain ⟨p0, p1, p2, p3, p4⟩ := HE1.out; have z := HZ1.out; have a0 := cell_step h z p0; have a1 := cell_step h z p1; have a2 := cell_step h z p2; have a3 := cell_step h z p3; have a4 := cell_step h z p4; clear h p0 p1 p2 p3 p4; go_simp⟩) hH ?_
    simp only [Act.put, List.setIfInBounds_toArray, List.set_cons_zero, List.set_cons_succ]
    refine wpAnyH_take (i := 6) (oi := ⟨_, _, _, _, _, _⟩) (v := .pointer (some ⟨Gy, 5, none⟩)) rfl (by kernel_rfl) (by kernel_rfl) (by kernel_rfl) (fun _ _ _ h => h) (Or.inl ⟨by rfl, fun w' h => by clear h; go_simp⟩) hH ?_
    simp only [Act.put, List.setIfInBounds_toArray, List.set_cons_zero, List.set_cons_succ]
    refine wpAnyH_take (i := 7) (oi := ⟨_, _, _, _, _, _⟩) (v := .slice (some ⟨b2, o2, none⟩) y5 y6) rfl (by kernel_rfl) (by kernel_rfl) (by kernel_rfl) (fun _ _ _ h => h) (Or.inl ⟨by rfl, fun w' h => by obtain ⟨c0, c1, c2, c3, c4, c5, c6⟩ := cseven (CBlk.later (Hid.out RY).b h); clear h; go_simp⟩) hH ?_
    simp only [Act.put, List.setIfInBounds_toArray, List.set_cons_zero, List.set_cons_succ]
    refine wpAnyH_take (i := 8) (oi := ⟨_, _, _, _, _, _⟩) (v := .int .i64 (j : Int)) rfl (by kernel_rfl) (by kernel_rfl) (by kernel_rfl) (fun _ _ _ h => h) (Or.inl ⟨by rfl, fun w' h => by clear h; go_simp⟩) hH ?_
    simp only [Act.put, List.setIfInBounds_toArray, List.set_cons_zero, List.set_cons_succ]
    refine wpAnyH_take (i := 9) (oi := ⟨_, _, _, _, _, _⟩) (v := .pointer (some ⟨b2, o2 + j * 5, none⟩)) rfl (by kernel_rfl) (by kernel_rfl) (by kernel_rfl) (fun _ _ _ h => h) (Or.inl ⟨by rfl, fun w' h => by clear h; go_simp⟩) hH ?_
    simp only [Act.put, List.setIfInBounds_toArray, List.set_cons_zero, List.set_cons_succ]
    refine wpAnyH_take (i := 10) (oi := ⟨_, _, _, _, _, _⟩) (v := .agg #[.int .i64 ky, .int .i64 my, .string sy, .string ny, .slice ay ly.length cy]) rfl (by kernel_rfl) (by kernel_rfl) (by kernel_rfl) (fun _ _ _ h => h) (Or.inl ⟨by rfl, fun w' h => by obtain ⟨p0, p1, p2, p3, p4⟩ := HE2.out; have z := HZ2.out; have a0 := cell_step h z p0; have a1 := cell_step h z p1; have a2 := cell_step h z p2; have a3 := cell_step h z p3; have a4 := cell_step h z p4; clear h p0 p1 p2 p3 p4; go_simp⟩) hH ?_
    simp only [Act.put, List.setIfInBounds_toArray, List.set_cons_zero, List.set_cons_succ]
    refine wpAnyH_take (i := 11) (oi := ⟨_, _, _, _, _, _⟩) (v := .pointer (some ⟨Gd, 5, none⟩)) rfl (by kernel_rfl) (by kernel_rfl) (by kernel_rfl) (fun _ _ _ h => h) (Or.inl ⟨by rfl, fun w' h => by clear h; go_simp⟩) hH ?_
    simp only [Act.put, List.setIfInBounds_toArray, List.set_cons_zero, List.set_cons_succ]
    refine wpAnyH_take (i := 12) (oi := ⟨_, _, _, _, _, _⟩) (v := .slice (some ⟨b3, o3, none⟩) d5 d6) rfl (by kernel_rfl) (by kernel_rfl) (by kernel_rfl) (fun _ _ _ h => h) (Or.inl ⟨by rfl, fun w' h => by obtain ⟨c0, c1, c2, c3, c4, c5, c6⟩ := cseven (CBlk.later (Hid.out RD).b h); clear h; go_simp⟩) hH ?_
    simp only [Act.put, List.setIfInBounds_toArray, List.set_cons_zero, List.set_cons_succ]
    refine wpAnyH_take (i := 13) (oi := ⟨_, _, _, _, _, _⟩) (v := .int .i64 (j : Int)) rfl (by kernel_rfl) (by kernel_rfl) (by kernel_rfl) (fun _ _ _ h => h) (Or.inl ⟨by rfl, fun w' h => by clear h; go_simp⟩) hH ?_
    simp only [Act.put, List.setIfInBounds_toArray, List.set_cons_zero, List.set_cons_succ]
    refine wpAnyH_take (i := 14) (oi := ⟨_, _, _, _, _, _⟩) (v := .pointer (some ⟨b3, o3 + j * 5, none⟩)) rfl (by kernel_rfl) (by kernel_rfl) (by kernel_rfl) (fun _ _ _ h => h) (Or.inl ⟨by rfl, fun w' h => by clear h; go_simp⟩) hH ?_
    simp only [Act.put, List.setIfInBounds_toArray, List.set_cons_zero, List.set_cons_succ]
    refine wpAnyH_take (i := 15) (oi := ⟨_, _, _, _, _, _⟩) (v := .pointer (some ⟨b3, o3 + j * 5, none⟩)) rfl (by kernel_rfl) (by kernel_rfl) (by kernel_rfl) (fun _ _ _ h => h) (Or.inl ⟨by rfl, fun w' h => by clear h; go_simp⟩) hH ?_
    simp only [Act.put, List.setIfInBounds_toArray, List.set_cons_zero, List.set_cons_succ]
    refine wpAnyH_take (i := 16) (oi := ⟨_, _, _, _, _, _⟩) (v := .agg #[.int .i64 kz, .int .i64 mz, .string sz]) rfl (by kernel_rfl) (by kernel_rfl) (by kernel_rfl) (fun _ _ _ h => h) (Or.inl ⟨by rfl, fun w' h => by obtain ⟨p0, p1, p2, p3, p4⟩ := HE3.out; have z := HZ3.out; have a0 := cell_step h z p0; have a1 := cell_step h z p1; have a2 := cell_step h z p2; have a3 := cell_step h z p3; have a4 := cell_step h z p4; clear h p0 p1 p2 p3 p4; go_simp⟩) hH ?_
    simp only [Act.put, List.setIfInBounds_toArray, List.set_cons_zero, List.set_cons_succ]
    refine wpAnyH_take (i := 17) (oi := ⟨_, _, _, _, _, _⟩) (v := .agg #[.int .i64 0, .int .i64 0, .string ⟨#[]⟩]) rfl (by kernel_rfl) (by kernel_rfl) (by kernel_rfl) (fun _ _ _ h => h) (Or.inl ⟨by rfl, fun w' h => by clear h; go_simp⟩) hH ?_
    simp only [Act.put, List.setIfInBounds_toArray, List.set_cons_zero, List.set_cons_succ]
    refine wpAnyH_take (i := 18) (oi := ⟨_, _, _, _, _, _⟩) (v := .bool BB) rfl (by kernel_rfl) (by kernel_rfl) (by kernel_rfl) (fun _ _ _ h => h) (Or.inl ⟨by rfl, fun w' h => by clear h; go_simp; rw [HB3.out]; by_cases k0 : kz = 0 <;> by_cases m0 : mz = 0 <;> by_cases s0 : sz.toList = [] <;> simp [k0, m0, s0]⟩) hH ?_
    simp only [Act.put, List.setIfInBounds_toArray, List.set_cons_zero, List.set_cons_succ]
    refine wpAnyH_ready (rs := [19]) (by kernel_rfl) (by simp) ?_
    refine (AllReadyH.cons (o := ⟨_, _, _, _, _, _⟩) rfl (fun K hK => ?_) AllReadyH.nil)
    go_simp
    refine (HSD.out _ hH).mono ?_
    rintro x V1 ⟨rfl, hb⟩
    refine hK.out _ _ (below_step hH hb) (fun hH => ?_)
    clear hK K hb
    try simp only [Act.put, List.setIfInBounds_toArray, List.set_cons_zero, List.set_cons_succ]
    refine wpAnyH_take (i := 20) (oi := ⟨_, _, _, _, _, _⟩) (v := .bool false) rfl (by kernel_rfl) (by kernel_rfl) (by kernel_rfl) (fun _ _ _ h => h) (Or.inl ⟨by rfl, fun w' h => by clear h; go_simp⟩) hH ?_
    simp only [Act.put, List.setIfInBounds_toArray, List.set_cons_zero, List.set_cons_succ]
    refine wpAnyH_done (by kernel_rfl) ?_ _
    have HV : Hid (Below wr.heap.size wr V1) := hH
    clear hH
    go_wp2
    go_roundg g
    case measure => omega
    case rel => exact ⟨j + 1, by omega, by go_num, below_step HBr.out HV.out⟩
  | zero =>
  have hz : ¬ ((j : Int) < (d5 : Int)) := by omega
  obtain ⟨g0, g1, g2, g3, g4, g5, g6⟩ := cseven RD.out.b
  go_wp2
  clear hz g0 g1 g2 g3 g4 g5 g6 RX RY RD
  go_loopg [16] d8 (fun g i wr => ∃ i' : Nat, i' + g = d8 ∧ i = .int .i64 i' ∧ Below wL.heap.size wL wr)
  case atStart => exact ⟨0, by omega, rfl, HBr.out⟩
  case round =>
  obtain ⟨i', hi', rfl, hb⟩ := hrel
  clear HBr
  have HBz : Hid (Below wL.heap.size wL wr) := hb
  have RX : Hid (Bx wr Gx ⟨(⟨⟨xk, xn, xs⟩, xm, xa⟩, .slice x1 x2 x3), xb, .slice x4 x5 x6, xt, .slice x7 x8 x9⟩) := KQ.out.later hb
  have RY : Hid (Bx wr Gy ⟨(⟨⟨yk, yn, ys⟩, ym, ya⟩, .slice y1 y2 y3), yb, .slice y4 y5 y6, yt, .slice y7 y8 y9⟩) := KR.out.later hb
  have RD : Hid (Bx wr Gd ⟨(⟨⟨0, 0, ⟨#[]⟩⟩, dm, da⟩, .slice d1 d2 d3), db, .slice d4 d5 d6, dt, .slice d7 d8 d9⟩) := KX.out.later hb
  clear hb
  obtain ⟨g0, g1, g2, g3, g4, g5, g6⟩ := cseven RD.out.b
  cases gk with
  | succ g =>
    have hlt : (i' : Int) < (d8 : Int) := by omega
    have hltx : (i' : Int) < (x8 : Int) := by have := HLN.out.2.2.1; omega
    have hlty : (i' : Int) < (y8 : Int) := by have := HLN.out.2.2.2; omega
    have j0 : (0 : Int) ≤ (i' : Int) := by omega
    obtain ⟨b1, o1, t1, ex, ht1, -, p0, p1, p2, p3, p4, p5, p6⟩ := RX.out.o.t.at_ (j := i') (by omega)
    obtain ⟨b2, o2, t2, ey, ht2, -, q0, q1, q2, q3, q4, q5, q6⟩ := RY.out.o.t.at_ (j := i') (by omega)
    have htu : t1 = t2 := by
      simp only at ht1 ht2
      rw [HTT.out, ht2] at ht1
      exact (Option.some.inj ht1).symm
    subst htu
    have he := run_neq_te t1 t1
    rw [decide_eq_true rfl] at he
    clear ht1 ht2
    obtain ⟨op, ⟨kl, ml, sl⟩, ⟨kr, mr, sr⟩⟩ := t1
    simp only at p0 p1 p2 p3 p4 p5 p6 q0 q1 q2 q3 q4 q5 q6
    obtain ⟨c0, c1, c2, c3, c4, c5, c6⟩ := cseven RX.out.b
    obtain ⟨e0, e1, e2, e3, e4, e5, e6⟩ := cseven RY.out.b
    clear HQK HRK HXK HPK KX KP KQ KR HIX HIY HQA HQU HTT RX RY RD
    subst ex ey
    go_wp2
    go_quiet (fail)
    go_wp2
    go_roundg g
    case measure => omega
    case rel => exact ⟨i' + 1, by omega, by go_num, below_drewN HBz.out _⟩
  | zero =>
    have hz : ¬ ((i' : Int) < (d8 : Int)) := by omega
    have RP : Hid (Bx wr Gp ⟨(⟨⟨pk, pn, ps⟩, pm, pa⟩, .slice p1 p2 p3), pb, .slice p4 p5 p6, pt, .slice p7 p8 p9⟩) := KP.out.later HBz.out
    obtain ⟨c0, c1, c2, c3, c4, c5, c6⟩ := cseven RP.out.b
    go_wp2_with (go_at_call 20; refine (HQA.out _ ⟨(⟨⟨pk, pn, ps⟩, pm, pa⟩, .slice p1 p2 p3), pb, .slice p4 p5 p6, pt, .slice p7 p8 p9⟩ HPK.out RP.out.o).mono ?_; clear HQA; rintro x w10 ⟨rfl, hb⟩; have HQ : Hid (Below wr.heap.size wr w10) := hb; clear hb)
    go_ret
    exact ⟨rfl, below_step (below_step KW.out HBz.out) HQ.out⟩
end Go.Proofs.Ytdfgijdededolaa
