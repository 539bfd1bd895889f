/-
  ClauseChecks: the walk. (Written by CK1.py.)
-/
import Derived.Test.YtdfgijdededolaaDoorRC2
import Derived.Test.YtdfgijdededolaaDoorLD4
import Derived.Test.YtdfgijdededolaaDoorNB1
import Derived.Test.YtdfgijdededolaaDoorNB2
import Derived.Test.YtdfgijdededolaaDoorMD12
import Derived.Test.YtdfgijdededolaaDoorCL21
import Derived.Test.YtdfgijdededolaaDoorCL22
import Derived.Deep.RegionHeld3
import Derived.Deep.CutRange
namespace Go.Proofs.YtdfgijdededolaaDoor
open Go.RowKit
attribute [local go_sem ↓] Go.wp_at_zero Go.wp_at_succ

theorem aErr_fst : ∀ {l l' : List (At × Value)}, fsts l = fsts l' → aErr l = aErr l'
  | [], [], _ => rfl
  | [], _ :: _, h => by simp [fsts] at h
  | _ :: _, [], h => by simp [fsts] at h
  | x :: l, y :: l', h => by
    simp only [fsts, List.map_cons, List.cons.injEq] at h
    have ih := aErr_fst (l := l) (l' := l') h.2
    unfold aErr
    rw [h.1, ih]
theorem chk_key {c d : Cm} (h : d.key = c.key) : d.chk = c.chk := by
  have k1 : d.head.1 = c.head.1 := congrArg (fun k : Ck => k.1) h
  have k2 : fsts d.body = fsts c.body := congrArg (fun k : Ck => k.2.1) h
  have k3 : d.tests = c.tests := congrArg (fun k : Ck => k.2.2) h
  have e1 : long d = long c := by unfold long; rw [(key_len d).1, (key_len d).2, (key_len c).1, (key_len c).2, h]
  have e2 : aErr d.atoms = aErr c.atoms := aErr_fst (by unfold Cm.atoms; simp only [fsts, List.map_cons]; rw [k1]; congr 1)
  have e3 : badT d = badT c := by unfold badT; rw [k3]
  have e4 : unb d = unb c := by rw [unb_key, unb_key, h]
  have e5 : mis 0 d.vars = mis 0 c.vars := by rw [mis_key, mis_key, h]
  unfold Cm.chk Cm.rs
  rw [e1, e2, e3, e4, e5, k1]
theorem ok_of_mc {B : Nat} {X : World} {d : Cm} (h : MCl B X d) (hs : (Ck.terms d.key).length ≤ 4000000) : d.ok X := by
  obtain ⟨s1, s2, s3, s4⟩ := cm_sizes hs
  exact h.ok (by omega) (by omega) (fun y hy => by have := s4 y hy; omega) (by omega)
theorem ok_of_lent {B : Nat} {X : World} {d : Cm} (h : Lent B X d) (hs : (Ck.terms d.key).length ≤ 4000000) : d.ok X := by
  obtain ⟨s1, s2, s3, s4⟩ := cm_sizes hs
  exact h.ok (by omega) (by omega) (fun y hy => by have := s4 y hy; omega) (by omega)
set_option maxRecDepth 20000 in
set_option maxHeartbeats 4000000 in
theorem checksLaw_any (ca : Cm) (w : World) (ha : ca.ok w) (hh : TsP w ca.head.2 ca.head.1.args) (hp : ∀ x ∈ ca.body, TsP w x.2 x.1.args) (hbp : AsP w ca.bv ca.body) (htp : EsP w ca.tv ca.tests) (hs : (Ck.terms ca.key).length ≤ 4000000)
    (hw : ∀ t ∈ Ck.terms ca.key, t.var = true → (Lit.int .i64 t.n).wf = true) (hB : BehOk w) :
    Calls Tryd.prog 3 #[ca.v] w fun e w' => e = .returned (.bool true) ∧ Below w.heap.size w w' := by
  obtain ⟨KR, hKR⟩ : ∃ K, ca.key = K := ⟨_, rfl⟩
  obtain ⟨RC, hRC⟩ : ∃ r, ca.chk = r := ⟨_, rfl⟩
  obtain ⟨NV, hNV⟩ : ∃ n, (dis (vrs (Ck.terms ca.key))).length = n := ⟨_, rfl⟩
  obtain ⟨KN, hKN⟩ : ∃ K, normC ca.key = K := ⟨_, rfl⟩
  have HLD : Hid (∀ X : World, Below w.heap.size w X → Calls Tryd.prog 4 #[ca.v] X fun e w' => ∃ d : Cm, e = .returned d.v ∧ d.key = KR ∧ Lent X.heap.size w' d ∧ Below X.heap.size X w') := fun X hX => by
    have := lendC_any ca X (ha.later hX) (hh.later hX) (fun x hx => (hp x hx).later hX) (htp.later hX) hs (hB.later hX)
    rw [hKR] at this; exact this
  have HCD : Hid (∀ (X : World) (d : Cm), d.key = KR → d.ok X → Calls Tryd.prog 5 #[d.v] X fun e w' => e = .returned (.int .i64 RC) ∧ Below X.heap.size X w') := fun X d hK ho => by
    rw [← hKR] at hK
    have := check9_any d X ho ⟨fun t ht hv => hw t (by rw [← hK, ← key_terms]; exact ht) hv, by rw [key_terms, hK]; omega⟩
    rw [chk_key hK, hRC] at this; exact this
  have varsG : ∀ (X : World) (d : Cm), d.key = KR → d.ok X → Calls Tryd.prog 6 #[d.v] X fun e w' => e = .returned (.int .i64 (NV : Int)) ∧ Below X.heap.size X w' := fun X d hK ho => by
    rw [← hKR] at hK
    have e : d.vars = vrs (Ck.terms ca.key) := by rw [← hK, ← key_terms]; rfl
    have := vars_any d X ho (fun v hv => by
      rw [e] at hv
      obtain ⟨t, ht, rfl⟩ := List.mem_map.1 hv
      obtain ⟨ht, hvt⟩ := List.mem_filter.1 ht
      exact hw t ht hvt) (by rw [e]; have := vrs_len (Ck.terms ca.key); omega)
    rw [e, hNV] at this; exact this
  have HVD : Hid (∀ (X : World) (d : Cm), d.key = KR → d.ok X → Calls Tryd.prog 6 #[d.v] X fun e w' => e = .returned (.int .i64 (NV : Int)) ∧ Below X.heap.size X w') := varsG
  have HND : Hid (∀ (X : World) (d : Cm), d.key = KR → d.ok X → Calls Tryd.prog 7 #[d.v] X fun e w' => ∃ q : Cm, e = .returned q.v ∧ q.key = KN ∧ q.ok w' ∧ Below X.heap.size X w') := fun X d hK ho => by
    rw [← hKR] at hK
    have := normal5_any d X ho (by rw [hK]; exact hs) (by rw [hK]; exact hw)
    rw [hK, hKN] at this; exact this
  have HCR0 : Hid (∀ X : World, Below w.heap.size w X → Calls Tryd.prog 8 #[ca.v] X fun e w' => e = .returned (.int .i64 RC) ∧ Below X.heap.size X w') := fun X hX => by
    have := rcheckC_any ca X (ha.later hX) (hh.later hX) (fun x hx => (hp x hx).later hX) (hbp.later hX)
    rw [hRC] at this; exact this
  have HVR0 : Hid (∀ X : World, Below w.heap.size w X → Calls Tryd.prog 9 #[ca.v] X fun e w' => e = .returned (.int .i64 (NV : Int)) ∧ Below X.heap.size X w') := fun X hX => by
    have := rvars_any ca X (ha.later hX) (hh.later hX) (fun x hx => (hp x hx).later hX) (by rw [key_terms]; omega)
    rw [key_terms, ← dis_lenT, hNV] at this; exact this
  have HNR0 : Hid (∀ X : World, Below w.heap.size w X → Calls Tryd.prog 11 #[ca.v] X fun e w' => ∃ q : Cm, e = .returned q.v ∧ q.key = KN ∧ q.ok w' ∧ Below X.heap.size X w') := fun X hX => by
    obtain ⟨s1, s2, s3, s4⟩ := cm_sizes hs
    refine (normal3_any ca X (ha.later hX) (hh.later hX) (fun x hx => (hp x hx).later hX) (by rw [key_terms]; omega) (by omega) (by omega)).mono fun e w' he => ?_
    obtain ⟨d, e1, e2, e3, e4⟩ := he
    exact ⟨d, e1, e2.trans hKN, ok_of_mc e3 (by rw [e2, norm_terms]; exact hs), e4⟩
  have HKC : Hid (∀ (X : World) (d : Cm) (B : Nat), Below w.heap.size w X → d.key = KR → Lent B X d → Calls Tryd.prog 12 #[d.v, ca.v] X fun e w' => e = .returned (.bool true) ∧ Below X.heap.size X w') := fun X d B hX hK hl => keptC_any d ca B X (ha.later hX) hl (hK.trans hKR.symm) hs (hB.later hX)
  have HRS : Hid ((Ck.terms KR).length ≤ 4000000) := by show _ ≤ _; rw [← hKR]; exact hs
  have HBR : Hid (Bx (w.alloc (.cells ca.cs 30)) w.heap.size ca) := Bx.new ha
  have hok0 := ha
  clear hKR hRC hNV hKN varsG hs hw hB hh hp hbp htp ha
  obtain ⟨⟨r1, r2, r3, tz1⟩, ⟨r4, r6, tz2⟩, ⟨r7, r9, tz3⟩, -, -⟩ := (hok0).shape
  obtain ⟨r5, tz4⟩ : ∃ n, n = ca.body.length := ⟨_, rfl⟩
  obtain ⟨r8, tz5⟩ : ∃ n, n = ca.tests.length := ⟨_, rfl⟩
  rw [← tz4] at tz2
  rw [← tz5] at tz3
  obtain ⟨⟨⟨⟨rk, rn, rs⟩, rm, ra⟩, rv⟩, rb, rbv, rt, rtv⟩ := ca
  simp only at tz1 tz2 tz3
  subst tz1 tz2 tz3
  clear tz4 tz5
  clear hok0
  go_enter Tryd.func3, Tryd.ntmps3
  go_upto_region 2 with (go_at_call 4; refine (HLD.out _ (below1 _ _)).mono ?_; clear HLD; rintro x wq ⟨dd, rfl, hqk, hlt, hb⟩; have hqo := ok_of_lent hlt (by rw [hqk]; exact HRS.out); obtain ⟨⟨d1, d2, d3, tz1⟩, ⟨d4, d6, tz2⟩, ⟨d7, d9, tz3⟩, -, -⟩ := (hqo).shape; obtain ⟨d5, tz4⟩ : ∃ n, n = dd.body.length := ⟨_, rfl⟩; obtain ⟨d8, tz5⟩ : ∃ n, n = dd.tests.length := ⟨_, rfl⟩; rw [← tz4] at tz2; rw [← tz5] at tz3; obtain ⟨⟨⟨⟨dk, dn, ds⟩, dm, da⟩, dv⟩, db, dbv, dt, dtv⟩ := dd; simp only at tz1 tz2 tz3; subst tz1 tz2 tz3; clear tz4 tz5; have N0 : Hid (Bx (wq.alloc (.cells (Cm.cs ⟨(⟨⟨dk, dn, ds⟩, dm, da⟩, .slice d1 d2 d3), db, .slice d4 d5 d6, dt, .slice d7 d8 d9⟩) 30)) wq.heap.size ⟨(⟨⟨dk, dn, ds⟩, dm, da⟩, .slice d1 d2 d3), db, .slice d4 d5 d6, dt, .slice d7 d8 d9⟩) := Bx.new hqo; have N1 : Hid (Cm.key ⟨(⟨⟨dk, dn, ds⟩, dm, da⟩, .slice d1 d2 d3), db, .slice d4 d5 d6, dt, .slice d7 d8 d9⟩ = KR) := hqk; have NL : Hid (Lent (w.heap.size + 1) (wq.alloc (.cells (Cm.cs ⟨(⟨⟨dk, dn, ds⟩, dm, da⟩, .slice d1 d2 d3), db, .slice d4 d5 d6, dt, .slice d7 d8 d9⟩) 30)) ⟨(⟨⟨dk, dn, ds⟩, dm, da⟩, .slice d1 d2 d3), db, .slice d4 d5 d6, dt, .slice d7 d8 d9⟩) := (by have := hlt.later (below1 wq (.cells (Cm.cs ⟨(⟨⟨dk, dn, ds⟩, dm, da⟩, .slice d1 d2 d3), db, .slice d4 d5 d6, dt, .slice d7 d8 d9⟩) 30)); rw [show (w.alloc (.cells #[.int .i64 rk, .int .i64 rn, .string rs, .string rm, .slice r1 r2 r3, .slice r4 r5 r6, .slice r7 r8 r9] 30)).heap.size = w.heap.size + 1 by simp] at this; exact this); have K0 : Hid (Bx (wq.alloc (.cells (Cm.cs ⟨(⟨⟨dk, dn, ds⟩, dm, da⟩, .slice d1 d2 d3), db, .slice d4 d5 d6, dt, .slice d7 d8 d9⟩) 30)) w.heap.size ⟨(⟨⟨rk, rn, rs⟩, rm, ra⟩, .slice r1 r2 r3), rb, .slice r4 r5 r6, rt, .slice r7 r8 r9⟩) := (HBR.out.later hb).later (below1 _ _); have KW : Hid (Below w.heap.size w (wq.alloc (.cells (Cm.cs ⟨(⟨⟨dk, dn, ds⟩, dm, da⟩, .slice d1 d2 d3), db, .slice d4 d5 d6, dt, .slice d7 d8 d9⟩) 30))) := below_step (below_step (below1 _ _) hb) (below1 _ _); clear hb hlt hqo hqk HBR)
  revert N0 NL K0 KW
  generalize wq.alloc (.cells #[.int .i64 dk, .int .i64 dn, .string ds, .string dm, .slice d1 d2 d3, .slice d4 d5 d6, .slice d7 d8 d9] 30) = w1
  obtain ⟨Gr, hGr⟩ : ∃ G, w.heap.size = G := ⟨_, rfl⟩
  generalize wq.heap.size = Gd
  rw [hGr]
  generalize Gr + 1 = Bl
  intro N0 NL K0 KW
  have HD := N0
  have HDK := N1
  have HL := NL
  have HR := K0
  have HW : Hid (Below w.heap.size w w1) := by rw [hGr]; exact KW.out
  clear N0 N1 NL K0 KW hGr
  obtain ⟨c0, c1, c2, c3, c4, c5, c6⟩ := cseven HD.out.b
  go_upto_region 3 with (go_at_call 5; refine (HCD.out _ ⟨(⟨⟨dk, dn, ds⟩, dm, da⟩, .slice d1 d2 d3), db, .slice d4 d5 d6, dt, .slice d7 d8 d9⟩ HDK.out HD.out.o).mono ?_; clear HCD; rintro e w2 ⟨rfl, hb⟩; have KR0 : Hid (Bx w2 Gr ⟨(⟨⟨rk, rn, rs⟩, rm, ra⟩, .slice r1 r2 r3), rb, .slice r4 r5 r6, rt, .slice r7 r8 r9⟩) := HR.out.later hb; have KD0 : Hid (Bx w2 Gd ⟨(⟨⟨dk, dn, ds⟩, dm, da⟩, .slice d1 d2 d3), db, .slice d4 d5 d6, dt, .slice d7 d8 d9⟩) := HD.out.later hb; have KL0 : Hid (Lent Bl w2 ⟨(⟨⟨dk, dn, ds⟩, dm, da⟩, .slice d1 d2 d3), db, .slice d4 d5 d6, dt, .slice d7 d8 d9⟩) := HL.out.later hb; have KW : Hid (Below w.heap.size w w2) := below_step HW.out hb; clear hb HR HD HL HW c0 c1 c2 c3 c4 c5 c6)
  have HR := KR0
  have HD := KD0
  have HL := KL0
  have HW := KW
  clear KR0 KD0 KL0 KW
  obtain ⟨c0, c1, c2, c3, c4, c5, c6⟩ := cseven HD.out.b
  go_upto_region 4 with (go_at_call 6; refine (HVD.out _ ⟨(⟨⟨dk, dn, ds⟩, dm, da⟩, .slice d1 d2 d3), db, .slice d4 d5 d6, dt, .slice d7 d8 d9⟩ HDK.out HD.out.o).mono ?_; clear HVD; rintro e w3 ⟨rfl, hb⟩; have KR0 : Hid (Bx w3 Gr ⟨(⟨⟨rk, rn, rs⟩, rm, ra⟩, .slice r1 r2 r3), rb, .slice r4 r5 r6, rt, .slice r7 r8 r9⟩) := HR.out.later hb; have KD0 : Hid (Bx w3 Gd ⟨(⟨⟨dk, dn, ds⟩, dm, da⟩, .slice d1 d2 d3), db, .slice d4 d5 d6, dt, .slice d7 d8 d9⟩) := HD.out.later hb; have KL0 : Hid (Lent Bl w3 ⟨(⟨⟨dk, dn, ds⟩, dm, da⟩, .slice d1 d2 d3), db, .slice d4 d5 d6, dt, .slice d7 d8 d9⟩) := HL.out.later hb; have KW : Hid (Below w.heap.size w w3) := below_step HW.out hb; clear hb HR HD HL HW c0 c1 c2 c3 c4 c5 c6)
  have HR := KR0
  have HD := KD0
  have HL := KL0
  have HW := KW
  clear KR0 KD0 KL0 KW
  obtain ⟨c0, c1, c2, c3, c4, c5, c6⟩ := cseven HD.out.b
  go_upto_region 5 with (go_at_call 7; refine (HND.out _ ⟨(⟨⟨dk, dn, ds⟩, dm, da⟩, .slice d1 d2 d3), db, .slice d4 d5 d6, dt, .slice d7 d8 d9⟩ HDK.out HD.out.o).mono ?_; clear HND; rintro x wq ⟨dd, rfl, hqk, hqo, hb⟩; obtain ⟨⟨q1, q2, q3, tz1⟩, ⟨q4, q6, tz2⟩, ⟨q7, q9, tz3⟩, -, -⟩ := (hqo).shape; obtain ⟨q5, tz4⟩ : ∃ n, n = dd.body.length := ⟨_, rfl⟩; obtain ⟨q8, tz5⟩ : ∃ n, n = dd.tests.length := ⟨_, rfl⟩; rw [← tz4] at tz2; rw [← tz5] at tz3; obtain ⟨⟨⟨⟨qk, qn, qs⟩, qm, qa⟩, qv⟩, qb, qbv, qt, qtv⟩ := dd; simp only at tz1 tz2 tz3; subst tz1 tz2 tz3; clear tz4 tz5; have N0 : Hid (Bx (wq.alloc (.cells (Cm.cs ⟨(⟨⟨qk, qn, qs⟩, qm, qa⟩, .slice q1 q2 q3), qb, .slice q4 q5 q6, qt, .slice q7 q8 q9⟩) 30)) wq.heap.size ⟨(⟨⟨qk, qn, qs⟩, qm, qa⟩, .slice q1 q2 q3), qb, .slice q4 q5 q6, qt, .slice q7 q8 q9⟩) := Bx.new hqo; have N1 : Hid (Cm.key ⟨(⟨⟨qk, qn, qs⟩, qm, qa⟩, .slice q1 q2 q3), qb, .slice q4 q5 q6, qt, .slice q7 q8 q9⟩ = KN) := hqk; have K0 : Hid (Bx (wq.alloc (.cells (Cm.cs ⟨(⟨⟨qk, qn, qs⟩, qm, qa⟩, .slice q1 q2 q3), qb, .slice q4 q5 q6, qt, .slice q7 q8 q9⟩) 30)) Gr ⟨(⟨⟨rk, rn, rs⟩, rm, ra⟩, .slice r1 r2 r3), rb, .slice r4 r5 r6, rt, .slice r7 r8 r9⟩) := (HR.out.later hb).later (below1 _ _); have K1 : Hid (Bx (wq.alloc (.cells (Cm.cs ⟨(⟨⟨qk, qn, qs⟩, qm, qa⟩, .slice q1 q2 q3), qb, .slice q4 q5 q6, qt, .slice q7 q8 q9⟩) 30)) Gd ⟨(⟨⟨dk, dn, ds⟩, dm, da⟩, .slice d1 d2 d3), db, .slice d4 d5 d6, dt, .slice d7 d8 d9⟩) := (HD.out.later hb).later (below1 _ _); have K2 : Hid (Lent Bl (wq.alloc (.cells (Cm.cs ⟨(⟨⟨qk, qn, qs⟩, qm, qa⟩, .slice q1 q2 q3), qb, .slice q4 q5 q6, qt, .slice q7 q8 q9⟩) 30)) ⟨(⟨⟨dk, dn, ds⟩, dm, da⟩, .slice d1 d2 d3), db, .slice d4 d5 d6, dt, .slice d7 d8 d9⟩) := (HL.out.later hb).later (below1 _ _); have KW : Hid (Below w.heap.size w (wq.alloc (.cells (Cm.cs ⟨(⟨⟨qk, qn, qs⟩, qm, qa⟩, .slice q1 q2 q3), qb, .slice q4 q5 q6, qt, .slice q7 q8 q9⟩) 30))) := below_step (below_step HW.out hb) (below1 _ _); clear hb hqo hqk HR HD HL HW c0 c1 c2 c3 c4 c5 c6)
  revert N0 K0 K1 K2 KW
  generalize wq.alloc (.cells #[.int .i64 qk, .int .i64 qn, .string qs, .string qm, .slice q1 q2 q3, .slice q4 q5 q6, .slice q7 q8 q9] 30) = w4
  generalize wq.heap.size = Gq
  intro N0 K0 K1 K2 KW
  have HQ := N0
  have HQK := N1
  have HR := K0
  have HD := K1
  have HL := K2
  have HW := KW
  clear N0 N1 K0 K1 K2 KW
  have HCR : Hid (∀ X : World, Below w4.heap.size w4 X → Calls Tryd.prog 8 #[Cm.v ⟨(⟨⟨rk, rn, rs⟩, rm, ra⟩, .slice r1 r2 r3), rb, .slice r4 r5 r6, rt, .slice r7 r8 r9⟩] X fun e w' => e = .returned (.int .i64 RC) ∧ Below X.heap.size X w') := fun X hX => HCR0.out X (below_step HW.out hX)
  have HVR : Hid (∀ X : World, Below w4.heap.size w4 X → Calls Tryd.prog 9 #[Cm.v ⟨(⟨⟨rk, rn, rs⟩, rm, ra⟩, .slice r1 r2 r3), rb, .slice r4 r5 r6, rt, .slice r7 r8 r9⟩] X fun e w' => e = .returned (.int .i64 (NV : Int)) ∧ Below X.heap.size X w') := fun X hX => HVR0.out X (below_step HW.out hX)
  have HNR : Hid (∀ X : World, Below w4.heap.size w4 X → Calls Tryd.prog 11 #[Cm.v ⟨(⟨⟨rk, rn, rs⟩, rm, ra⟩, .slice r1 r2 r3), rb, .slice r4 r5 r6, rt, .slice r7 r8 r9⟩] X fun e w' => ∃ q : Cm, e = .returned q.v ∧ q.key = KN ∧ q.ok w' ∧ Below X.heap.size X w') := fun X hX => HNR0.out X (below_step HW.out hX)
  clear HCR0 HVR0 HNR0
  go_cut [31] from 15 (fun s31 wx => s31 = .bool false ∧ Below w4.heap.size w4 wx)
  case first =>
    refine wp_region_held_drew (S := fun w' => Below w4.heap.size w4 w') (by kernel_rfl) (Below.refl _ _).drew (fun hH => ?_)
    revert hH
    generalize w4.drew = V0
    intro hH
    refine wpAnyH_take (i := 0) (oi := ⟨_, _, _, _, _, _⟩) (v := .int .i64 RC) rfl (by kernel_rfl) (by kernel_rfl) (by kernel_rfl) (fun _ _ _ h => h) (Or.inl ⟨by rfl, fun w' h => by clear h; go_simp⟩) hH ?_
    simp only [Act.put, List.setIfInBounds_toArray, List.set_cons_zero, List.set_cons_succ]
    refine wpAnyH_take (i := 1) (oi := ⟨_, _, _, _, _, _⟩) (v := .agg #[.int .i64 rk, .int .i64 rn, .string rs, .string rm, .slice r1 r2 r3, .slice r4 r5 r6, .slice r7 r8 r9]) rfl (by kernel_rfl) (by kernel_rfl) (by kernel_rfl) (fun _ _ _ h => h) (Or.inl ⟨by rfl, fun w' h => by obtain ⟨c0, c1, c2, c3, c4, c5, c6⟩ := cseven (CBlk.later (Hid.out HR).b h); clear h; go_simp⟩) hH ?_
    simp only [Act.put, List.setIfInBounds_toArray, List.set_cons_zero, List.set_cons_succ]
    refine wpAnyH_ready (rs := [2]) (by kernel_rfl) (by simp) ?_
    refine (AllReadyH.cons (o := ⟨_, _, _, _, _, _⟩) rfl (fun K hK => ?_) AllReadyH.nil)
    go_simp
    refine (HCR.out _ hH).mono ?_
    rintro x V1 ⟨rfl, hb⟩
    refine hK.out _ _ (below_step hH hb) (fun hH => ?_)
    clear hK K hb
    try simp only [Act.put, List.setIfInBounds_toArray, List.set_cons_zero, List.set_cons_succ]
    refine wpAnyH_take (i := 3) (oi := ⟨_, _, _, _, _, _⟩) (v := .bool false) rfl (by kernel_rfl) (by kernel_rfl) (by kernel_rfl) (fun _ _ _ h => h) (Or.inl ⟨by rfl, fun w' h => by clear h; go_simp⟩) hH ?_
    simp only [Act.put, List.setIfInBounds_toArray, List.set_cons_zero, List.set_cons_succ]
    refine wpAnyH_take (i := 4) (oi := ⟨_, _, _, _, _, _⟩) (v := .bool false) rfl (by kernel_rfl) (by kernel_rfl) (by kernel_rfl) (fun _ _ _ h => h) (Or.inl ⟨by rfl, fun w' h => by clear h; go_simp⟩) hH ?_
    simp only [Act.put, List.setIfInBounds_toArray, List.set_cons_zero, List.set_cons_succ]
    refine wpAnyH_take (i := 5) (oi := ⟨_, _, _, _, _, _⟩) (v := .int .i64 (NV : Int)) rfl (by kernel_rfl) (by kernel_rfl) (by kernel_rfl) (fun _ _ _ h => h) (Or.inl ⟨by rfl, fun w' h => by clear h; go_simp⟩) hH ?_
    simp only [Act.put, List.setIfInBounds_toArray, List.set_cons_zero, List.set_cons_succ]
    refine wpAnyH_take (i := 6) (oi := ⟨_, _, _, _, _, _⟩) (v := .agg #[.int .i64 rk, .int .i64 rn, .string rs, .string rm, .slice r1 r2 r3, .slice r4 r5 r6, .slice r7 r8 r9]) rfl (by kernel_rfl) (by kernel_rfl) (by kernel_rfl) (fun _ _ _ h => h) (Or.inl ⟨by rfl, fun w' h => by obtain ⟨c0, c1, c2, c3, c4, c5, c6⟩ := cseven (CBlk.later (Hid.out HR).b h); clear h; go_simp⟩) hH ?_
    simp only [Act.put, List.setIfInBounds_toArray, List.set_cons_zero, List.set_cons_succ]
    refine wpAnyH_ready (rs := [7]) (by kernel_rfl) (by simp) ?_
    refine (AllReadyH.cons (o := ⟨_, _, _, _, _, _⟩) rfl (fun K hK => ?_) AllReadyH.nil)
    go_simp
    refine (HVR.out _ hH).mono ?_
    rintro x V2 ⟨rfl, hb⟩
    refine hK.out _ _ (below_step hH hb) (fun hH => ?_)
    clear hK K hb
    try simp only [Act.put, List.setIfInBounds_toArray, List.set_cons_zero, List.set_cons_succ]
    refine wpAnyH_take (i := 8) (oi := ⟨_, _, _, _, _, _⟩) (v := .bool false) rfl (by kernel_rfl) (by kernel_rfl) (by kernel_rfl) (fun _ _ _ h => h) (Or.inl ⟨by rfl, fun w' h => by clear h; go_simp⟩) hH ?_
    simp only [Act.put, List.setIfInBounds_toArray, List.set_cons_zero, List.set_cons_succ]
    refine wpAnyH_take (i := 9) (oi := ⟨_, _, _, _, _, _⟩) (v := .bool false) rfl (by kernel_rfl) (by kernel_rfl) (by kernel_rfl) (fun _ _ _ h => h) (Or.inl ⟨by rfl, fun w' h => by clear h; go_simp⟩) hH ?_
    simp only [Act.put, List.setIfInBounds_toArray, List.set_cons_zero, List.set_cons_succ]
    refine wpAnyH_take (i := 10) (oi := ⟨_, _, _, _, _, _⟩) (v := .bool false) rfl (by kernel_rfl) (by kernel_rfl) (by kernel_rfl) (fun _ _ _ h => h) (Or.inl ⟨by rfl, fun w' h => by clear h; go_simp⟩) hH ?_
    simp only [Act.put, List.setIfInBounds_toArray, List.set_cons_zero, List.set_cons_succ]
    refine wpAnyH_take (i := 11) (oi := ⟨_, _, _, _, _, _⟩) (v := .agg #[.int .i64 qk, .int .i64 qn, .string qs, .string qm, .slice q1 q2 q3, .slice q4 q5 q6, .slice q7 q8 q9]) rfl (by kernel_rfl) (by kernel_rfl) (by kernel_rfl) (fun _ _ _ h => h) (Or.inl ⟨by rfl, fun w' h => by obtain ⟨c0, c1, c2, c3, c4, c5, c6⟩ := cseven (CBlk.later (Hid.out HQ).b h); clear h; go_simp⟩) hH ?_
    simp only [Act.put, List.setIfInBounds_toArray, List.set_cons_zero, List.set_cons_succ]
    refine wpAnyH_take (i := 12) (oi := ⟨_, _, _, _, _, _⟩) (v := .agg #[.int .i64 rk, .int .i64 rn, .string rs, .string rm, .slice r1 r2 r3, .slice r4 r5 r6, .slice r7 r8 r9]) rfl (by kernel_rfl) (by kernel_rfl) (by kernel_rfl) (fun _ _ _ h => h) (Or.inl ⟨by rfl, fun w' h => by obtain ⟨c0, c1, c2, c3, c4, c5, c6⟩ := cseven (CBlk.later (Hid.out HR).b h); clear h; go_simp⟩) hH ?_
    simp only [Act.put, List.setIfInBounds_toArray, List.set_cons_zero, List.set_cons_succ]
    refine wpAnyH_ready (rs := [13]) (by kernel_rfl) (by simp) ?_
    refine (AllReadyH.cons (o := ⟨_, _, _, _, _, _⟩) rfl (fun K hK => ?_) AllReadyH.nil)
    go_simp
    refine (HNR.out _ hH).mono ?_
    rintro x V3 ⟨nx, rfl, hnk, hno, hb⟩
    obtain ⟨⟨f1, f2, f3, tz1⟩, ⟨f4, f6, tz2⟩, ⟨f7, f9, tz3⟩, -, -⟩ := (hno).shape
    obtain ⟨f5, tz4⟩ : ∃ n, n = nx.body.length := ⟨_, rfl⟩
    obtain ⟨f8, tz5⟩ : ∃ n, n = nx.tests.length := ⟨_, rfl⟩
    rw [← tz4] at tz2
    rw [← tz5] at tz3
    obtain ⟨⟨⟨⟨fk, fn, fs⟩, fm, fa⟩, fv⟩, fb, fbv, ft, ftv⟩ := nx
    simp only at tz1 tz2 tz3
    subst tz1 tz2 tz3
    clear tz4 tz5
    have HF : Hid (Cm.ok V3 ⟨(⟨⟨fk, fn, fs⟩, fm, fa⟩, .slice f1 f2 f3), fb, .slice f4 f5 f6, ft, .slice f7 f8 f9⟩ ∧ Cm.key ⟨(⟨⟨fk, fn, fs⟩, fm, fa⟩, .slice f1 f2 f3), fb, .slice f4 f5 f6, ft, .slice f7 f8 f9⟩ = KN) := ⟨hno, hnk⟩
    refine hK.out _ _ (below_step hH hb) (fun hH => ?_)
    clear hK K hb hnk hno
    try simp only [Act.put, List.setIfInBounds_toArray, List.set_cons_zero, List.set_cons_succ]
    refine wpAnyH_ready (rs := [14]) (by kernel_rfl) (by simp) ?_
    refine (AllReadyH.cons (o := ⟨_, _, _, _, _, _⟩) rfl (fun K hK => ?_) AllReadyH.nil)
    go_simp
    refine (sameC_any ⟨(⟨⟨qk, qn, qs⟩, qm, qa⟩, .slice q1 q2 q3), qb, .slice q4 q5 q6, qt, .slice q7 q8 q9⟩ ⟨(⟨⟨fk, fn, fs⟩, fm, fa⟩, .slice f1 f2 f3), fb, .slice f4 f5 f6, ft, .slice f7 f8 f9⟩ _ (HQ.out.later hH).o HF.out.1).mono ?_
    have hsm : Cm.same ⟨(⟨⟨qk, qn, qs⟩, qm, qa⟩, .slice q1 q2 q3), qb, .slice q4 q5 q6, qt, .slice q7 q8 q9⟩ ⟨(⟨⟨fk, fn, fs⟩, fm, fa⟩, .slice f1 f2 f3), fb, .slice f4 f5 f6, ft, .slice f7 f8 f9⟩ = true := same_of_key (HQK.out.trans HF.out.2.symm)
    rw [hsm]
    clear hsm
    rintro x V4 ⟨rfl, hb⟩
    refine hK.out _ _ (below_step hH hb) (fun hH => ?_)
    clear hK K hb
    try simp only [Act.put, List.setIfInBounds_toArray, List.set_cons_zero, List.set_cons_succ]
    refine wpAnyH_take (i := 15) (oi := ⟨_, _, _, _, _, _⟩) (v := .bool false) rfl (by kernel_rfl) (by kernel_rfl) (by kernel_rfl) (fun _ _ _ h => h) (Or.inl ⟨by rfl, fun w' h => by clear h; go_simp⟩) hH ?_
    simp only [Act.put, List.setIfInBounds_toArray, List.set_cons_zero, List.set_cons_succ]
    refine wpAnyH_take (i := 16) (oi := ⟨_, _, _, _, _, _⟩) (v := .bool false) rfl (by kernel_rfl) (by kernel_rfl) (by kernel_rfl) (fun _ _ _ h => h) (Or.inl ⟨by rfl, fun w' h => by clear h; go_simp⟩) hH ?_
    simp only [Act.put, List.setIfInBounds_toArray, List.set_cons_zero, List.set_cons_succ]
    refine wpAnyH_done (by kernel_rfl) ?_ _
    go_wp2_with fail
    go_meet
    case rel => exact ⟨rfl, hH⟩
  case rest =>
  obtain ⟨rfl, hb⟩ := hcut
  rename World => w5
  have KR0 : Hid (Bx w5 Gr ⟨(⟨⟨rk, rn, rs⟩, rm, ra⟩, .slice r1 r2 r3), rb, .slice r4 r5 r6, rt, .slice r7 r8 r9⟩) := HR.out.later hb
  have KD0 : Hid (Bx w5 Gd ⟨(⟨⟨dk, dn, ds⟩, dm, da⟩, .slice d1 d2 d3), db, .slice d4 d5 d6, dt, .slice d7 d8 d9⟩) := HD.out.later hb
  have KL0 : Hid (Lent Bl w5 ⟨(⟨⟨dk, dn, ds⟩, dm, da⟩, .slice d1 d2 d3), db, .slice d4 d5 d6, dt, .slice d7 d8 d9⟩) := HL.out.later hb
  have KW : Hid (Below w.heap.size w w5) := below_step HW.out hb
  clear hb HR HD HL HQ HW HCR HVR HNR
  have HKD : Hid (Calls Tryd.prog 12 #[Cm.v ⟨(⟨⟨dk, dn, ds⟩, dm, da⟩, .slice d1 d2 d3), db, .slice d4 d5 d6, dt, .slice d7 d8 d9⟩, Cm.v ⟨(⟨⟨rk, rn, rs⟩, rm, ra⟩, .slice r1 r2 r3), rb, .slice r4 r5 r6, rt, .slice r7 r8 r9⟩] w5 fun e w' => e = .returned (.bool true) ∧ Below w5.heap.size w5 w') := HKC.out w5 ⟨(⟨⟨dk, dn, ds⟩, dm, da⟩, .slice d1 d2 d3), db, .slice d4 d5 d6, dt, .slice d7 d8 d9⟩ Bl KW.out HDK.out KL0.out
  clear HKC
  obtain ⟨c0, c1, c2, c3, c4, c5, c6⟩ := cseven KD0.out.b
  obtain ⟨e0, e1, e2, e3, e4, e5, e6⟩ := cseven KR0.out.b
  go_wp2_with (first
    | (go_at_call 12; refine HKD.out.mono ?_; clear HKD; rintro e w6 ⟨rfl, hb⟩; have HW6 : Hid (Below w.heap.size w w6) := below_step KW.out hb; clear hb c0 c1 c2 c3 c4 c5 c6 e0 e1 e2 e3 e4 e5 e6)
    | (go_at_call 13; refine (first3_any _).mono ?_; rintro e w7 ⟨rfl, hb⟩; have HW7 : Hid (Below w.heap.size w w7) := below_step HW6.out hb; clear hb))
  go_ret
  exact ⟨rfl, HW7.out⟩
end Go.Proofs.YtdfgijdededolaaDoor
