/-
  ClauseReplaces: the walk. (Written by RP1.py.)
-/
import Derived.Test.YtdfgijdededolabDoorRQ1
import Derived.Test.YtdfgijdededolabDoorRI1
import Derived.Test.YtdfgijdededolabDoorLD4
import Derived.Test.YtdfgijdededolabDoorLD5
import Derived.Test.YtdfgijdededolabDoorCL21
import Derived.Test.YtdfgijdededolabDoorCL22
import Derived.Deep.RegionHeld3
import Derived.Deep.CutRange
namespace Go.Proofs.YtdfgijdededolabDoor
open Go.RowKit
attribute [local go_sem ↓] Go.wp_at_zero Go.wp_at_succ

theorem aErr_fstP : ∀ {l l' : List (At × Value)}, fsts l = fsts l' → aErr l = aErr l'
  | [], [], _ => rfl
  | [], _ :: _, h => by simp [fsts] at h
  | _ :: _, [], h => by simp [fsts] at h
  | x :: l, y :: l', h => by
    simp only [fsts, List.map_cons, List.cons.injEq] at h
    have ih := aErr_fstP (l := l) (l' := l') h.2
    unfold aErr
    rw [h.1, ih]
theorem chk_keyP {c d : Cm} (h : d.key = c.key) : d.chk = c.chk := by
  have k1 : d.head.1 = c.head.1 := congrArg (fun k : Ck => k.1) h
  have k2 : fsts d.body = fsts c.body := congrArg (fun k : Ck => k.2.1) h
  have k3 : d.tests = c.tests := congrArg (fun k : Ck => k.2.2) h
  have e1 : long d = long c := by unfold long; rw [(key_len d).1, (key_len d).2, (key_len c).1, (key_len c).2, h]
  have e2 : aErr d.atoms = aErr c.atoms := aErr_fstP (by unfold Cm.atoms; simp only [fsts, List.map_cons]; rw [k1]; congr 1)
  have e3 : badT d = badT c := by unfold badT; rw [k3]
  have e4 : unb d = unb c := by rw [unb_key, unb_key, h]
  have e5 : mis 0 d.vars = mis 0 c.vars := by rw [mis_key, mis_key, h]
  unfold Cm.chk Cm.rs
  rw [e1, e2, e3, e4, e5, k1]
theorem ok_of_lentP {B : Nat} {X : World} {d : Cm} (h : Lent B X d) (hs : (Ck.terms d.key).length ≤ 4000000) : d.ok X := by
  obtain ⟨s1, s2, s3, s4⟩ := cm_sizes hs
  exact h.ok (by omega) (by omega) (fun y hy => by have := s4 y hy; omega) (by omega)
/-- What Quote answers. -/
def zCm : Cm := ⟨(⟨zt, ⟨#[]⟩, []⟩, .slice none 0 0), [], .slice none 0 0, [], .slice none 0 0⟩
theorem zCm_ok (w : World) : zCm.ok w := ⟨⟨none, 0, rfl, by simp [zCm], Or.inl rfl⟩, ⟨none, 0, rfl, by simp [zCm], Or.inl rfl, fun x hx => by simp [zCm] at hx⟩, ⟨none, 0, rfl, by simp [zCm], Or.inl rfl⟩⟩
def quoR (u : ByteArray) (c : Cm) : Ck × Int := if Tm.prin ⟨2, 0, u⟩ = false then (zCm.key, 36) else if c.chk ≠ 0 then (zCm.key, c.chk) else if c.head.1.by_ = zt then (quoK u c.key, 0) else (zCm.key, 37)
theorem quoR_key {u : ByteArray} {c d : Cm} (h : d.key = c.key) : quoR u d = quoR u c := by
  have k1 : d.head.1 = c.head.1 := congrArg (fun k : Ck => k.1) h
  unfold quoR; rw [chk_keyP h, h, k1]
theorem quoP_any (c : Cm) (u : ByteArray) (w : World) (h : c.ok w) (hwf : c.wf) (hs : (Ck.terms c.key).length ≤ 4000000) :
    Calls Tryd.prog 10 #[.string u, c.v] w fun e w' => ∃ d : Cm, e = .returned (.tuple #[d.v, .int .i64 (quoR u c).2]) ∧ d.key = (quoR u c).1 ∧ d.ok w' ∧ Below w.heap.size w w' := by
  obtain ⟨s1, s2, s3, s4⟩ := cm_sizes hs
  cases hp : Tm.prin ⟨2, 0, u⟩ with
  | false =>
    have e : quoR u c = (zCm.key, 36) := by unfold quoR; rw [if_pos hp]
    rw [e]
    exact (quote_no1 c u w h hp).mono fun e w' ⟨he, hb⟩ => ⟨zCm, he, rfl, zCm_ok _, hb⟩
  | true =>
    have hnp : ¬ Tm.prin ⟨2, 0, u⟩ = false := by rw [hp]; simp
    by_cases hk : c.chk = 0
    · by_cases hu : c.head.1.by_ = zt
      · have e : quoR u c = (quoK u c.key, 0) := by unfold quoR; rw [if_neg hnp, if_neg (by rw [hk]; simp), if_pos hu]
        rw [e]
        refine (quote_ok c u w h hwf hp hk hu (by omega) (by omega) (by omega) (fun x hx => by have := s4 x hx; omega)).mono fun e w' he => ?_
        obtain ⟨M1, M2, M3, lb, rfl, hr, hb⟩ := he
        have hl : lb.length = c.body.length := by have := congrArg List.length hr.f; simpa [fsts, Cm.quo] using this
        have hbl : (c.quo u).body.length = c.body.length := by simp [Cm.quo]
        refine ⟨_, rfl, ?_, ⟨hr.t1, ?_, ?_⟩, hb⟩
        · have hf := hr.f
          rw [fsts_quo] at hf
          unfold Cm.key quoK Cm.cp
          simp only
          rw [hf]
          rfl
        · exact hr.a.as (by rw [hbl]; exact hl) (by rw [hbl]; omega) fun x hx => (hr.ts x hx).1.1
        · exact hr.e.es rfl (by show c.tests.length < _; omega)
      · have e : quoR u c = (zCm.key, 37) := by unfold quoR; rw [if_neg hnp, if_neg (by rw [hk]; simp), if_neg hu]
        rw [e]
        exact (quote_no3 c u w h hwf hp hk hu).mono fun e w' ⟨he, hb⟩ => ⟨zCm, he, rfl, zCm_ok _, hb⟩
    · have e : quoR u c = (zCm.key, c.chk) := by unfold quoR; rw [if_neg hnp, if_pos hk]
      rw [e]
      exact (quote_no2 c u w h hwf hp c.chk rfl hk).mono fun e w' ⟨he, hb⟩ => ⟨zCm, he, rfl, zCm_ok _, hb⟩
theorem quoS_any (c : Cm) (u : ByteArray) (w : World) (hP : OKP w c) (hs : (Ck.terms c.key).length ≤ 4000000) :
    Calls Tryd.prog 11 #[.string u, c.v] w fun e w' => ∃ d : Cm, e = .returned (.tuple #[d.v, .int .i64 (quoR u c).2]) ∧ d.key = (quoR u c).1 ∧ d.ok w' ∧ Below w.heap.size w w' := by
  cases hp : Tm.prin ⟨2, 0, u⟩ with
  | false =>
    have e : quoR u c = (zCm.key, 36) := by unfold quoR; rw [if_pos hp]
    rw [e]
    exact (rquote_no1 c u w hP.ok hp).mono fun e w' ⟨he, hb⟩ => ⟨zCm, he, rfl, zCm_ok _, hb⟩
  | true =>
    have hnp : ¬ Tm.prin ⟨2, 0, u⟩ = false := by rw [hp]; simp
    by_cases hk : c.chk = 0
    · by_cases hu : c.head.1.by_ = zt
      · have e : quoR u c = (quoK u c.key, 0) := by unfold quoR; rw [if_neg hnp, if_neg (by rw [hk]; simp), if_pos hu]
        rw [e]
        exact rquote_ok c u w hP hp hk hu hs
      · have e : quoR u c = (zCm.key, 37) := by unfold quoR; rw [if_neg hnp, if_neg (by rw [hk]; simp), if_neg hu]
        rw [e]
        have hq := (err_zero' (chk_err hk c.head.1 List.mem_cons_self)).2.2.1
        exact (rquote_no3 c u w hP hp hk (fun h0 => hu (qual_zero hq h0))).mono fun e w' ⟨he, hb⟩ => ⟨zCm, he, rfl, zCm_ok _, hb⟩
    · have e : quoR u c = (zCm.key, c.chk) := by unfold quoR; rw [if_neg hnp, if_pos hk]
      rw [e]
      exact (rquote_no2 c u w hP hp c.chk rfl hk).mono fun e w' ⟨he, hb⟩ => ⟨zCm, he, rfl, zCm_ok _, hb⟩
set_option maxRecDepth 20000 in
set_option maxHeartbeats 4000000 in
theorem replaces_any (ca : Cm) (vs : List Tm) (vv : Value) (u : ByteArray) (w : World) (hP : OKP w ca) (htp : EsP w ca.tv ca.tests) (hv : Ts w vv vs) (hvp : TsP w vv vs) (hvl : vs.length ≤ 4000000) (hs : (Ck.terms ca.key).length ≤ 4000000)
    (hw : ∀ t ∈ Ck.terms ca.key, t.var = true → (Lit.int .i64 t.n).wf = true) (hB : BehOk w) :
    Calls Tryd.prog 3 #[ca.v, vv, .string u] w fun e w' => e = .returned (.bool true) ∧ Below w.heap.size w w' := by
  obtain ⟨KR, hKR⟩ : ∃ K, ca.key = K := ⟨_, rfl⟩
  obtain ⟨KI, hKI⟩ : ∃ K, mapC (ins vs) ca.key = K := ⟨_, rfl⟩
  obtain ⟨⟨KQ, EQ⟩, hQR⟩ : ∃ r, quoR u ca = r := ⟨_, rfl⟩
  have HLD : Hid (∀ X : World, Below w.heap.size w X → Calls Tryd.prog 4 #[ca.v] X fun e w' => ∃ d : Cm, e = .returned d.v ∧ d.key = KR ∧ Lent X.heap.size w' d ∧ Below X.heap.size X w') := fun X hX => by
    have := lendC_any ca X (hP.ok.later hX) (hP.hh.later hX) (fun x hx => (hP.hp x hx).later hX) (htp.later hX) hs (hB.later hX)
    rw [hKR] at this; exact this
  have HLT : Hid (∀ X : World, Below w.heap.size w X → Calls Tryd.prog 5 #[vv] X fun e w' => ∃ g cap, e = .returned (.slice (some ⟨g, 0, none⟩) vs.length cap) ∧ OwnT w' X.heap.size (.slice (some ⟨g, 0, none⟩) (vs.length + 1) cap) (vs ++ [bT]) ∧ Below X.heap.size X w') := fun X hX => lendT_any vs vv X (hvp.later hX) (by omega) (hB.later hX)
  have HID : Hid (∀ (X : World) (d : Cm) (y : Value), d.key = KR → d.ok X → Ts X y vs → Calls Tryd.prog 6 #[d.v, y] X fun e w' => ∃ q : Cm, e = .returned q.v ∧ q.key = KI ∧ q.ok w' ∧ Below X.heap.size X w') := fun X d y hK ho hy => by
    rw [← hKR] at hK
    have := inst5_any d vs y X ho hy (by rw [hK]; exact hs)
    rw [hK, hKI] at this; exact this
  have HIR0 : Hid (∀ X : World, Below w.heap.size w X → Calls Tryd.prog 8 #[ca.v, vv] X fun e w' => ∃ q : Cm, e = .returned q.v ∧ q.key = KI ∧ q.ok w' ∧ Below X.heap.size X w') := fun X hX => by
    refine (rinst_any ca vs vv X (hP.ok.later hX) (hv.later hX) (hP.hh.later hX) (fun x hx => (hP.hp x hx).later hX) hs).mono fun e w' he => ?_
    obtain ⟨d, e1, e2, e3, e4⟩ := he
    exact ⟨d, e1, e2.trans hKI, ok_of_mc3k e3 (by rw [e2, mapC_terms, List.length_map]; exact hs), e4⟩
  have HKT0 : Hid (∀ (X : World) (B : Nat) (y : Value), Below w.heap.size w X → LentT X B y vs → Calls Tryd.prog 9 #[y, vv] X fun e w' => e = .returned (.bool true) ∧ Below X.heap.size X w') := fun X B y hX hy => keptT_any vs y vv B X (hv.later hX) hy (hB.later hX)
  have HQD : Hid (∀ (X : World) (d : Cm), d.key = KR → d.ok X → Calls Tryd.prog 10 #[.string u, d.v] X fun e w' => ∃ q : Cm, e = .returned (.tuple #[q.v, .int .i64 EQ]) ∧ q.key = KQ ∧ q.ok w' ∧ Below X.heap.size X w') := fun X d hK ho => by
    rw [← hKR] at hK
    have := quoP_any d u X ho ⟨fun t ht hv => hw t (by rw [← hK, ← key_terms]; exact ht) hv, by rw [key_terms, hK]; omega⟩ (by rw [hK]; exact hs)
    rw [quoR_key hK, hQR] at this; exact this
  have HQR : Hid (∀ X : World, Below w.heap.size w X → Calls Tryd.prog 11 #[.string u, ca.v] X fun e w' => ∃ q : Cm, e = .returned (.tuple #[q.v, .int .i64 EQ]) ∧ q.key = KQ ∧ q.ok w' ∧ Below X.heap.size X w') := fun X hX => by
    have := quoS_any ca u X (hP.later hX) hs
    rw [hQR] at this; exact this
  have HKC : Hid (∀ (X : World) (d : Cm) (B : Nat), Below w.heap.size w X → d.key = KR → Lent B X d → Calls Tryd.prog 12 #[d.v, ca.v] X fun e w' => e = .returned (.bool true) ∧ Below X.heap.size X w') := fun X d B hX hK hl => keptC_any d ca B X (hP.ok.later hX) hl (hK.trans hKR.symm) hs (hB.later hX)
  have HRS : Hid ((Ck.terms KR).length ≤ 4000000) := by show _ ≤ _; rw [← hKR]; exact hs
  have HBR : Hid (Bx (w.alloc (.cells ca.cs 30)) w.heap.size ca) := Bx.new hP.ok
  have hok0 := hP.ok
  clear hKR hKI hQR hs hw hB hP htp hvp
  obtain ⟨⟨r1, r2, r3, tz1⟩, ⟨r4, r6, tz2⟩, ⟨r7, r9, tz3⟩, -, -⟩ := (hok0).shape
  obtain ⟨r5, tz4⟩ : ∃ n, n = ca.body.length := ⟨_, rfl⟩
  obtain ⟨r8, tz5⟩ : ∃ n, n = ca.tests.length := ⟨_, rfl⟩
  rw [← tz4] at tz2
  rw [← tz5] at tz3
  obtain ⟨⟨⟨⟨rk, rn, rs⟩, rm, ra⟩, rv⟩, rb, rbv, rt, rtv⟩ := ca
  simp only at tz1 tz2 tz3
  subst tz1 tz2 tz3
  clear tz4 tz5
  clear hok0
  obtain ⟨va, vc, rfl, -, -⟩ := hv
  go_enter Tryd.func3, Tryd.ntmps3
  go_upto_region 2 with (go_at_call 4; refine (HLD.out _ (below1 _ _)).mono ?_; clear HLD; rintro x wq ⟨dd, rfl, hqk, hlt, hb⟩; have hqo := ok_of_lentP hlt (by rw [hqk]; exact HRS.out); obtain ⟨⟨d1, d2, d3, tz1⟩, ⟨d4, d6, tz2⟩, ⟨d7, d9, tz3⟩, -, -⟩ := (hqo).shape; obtain ⟨d5, tz4⟩ : ∃ n, n = dd.body.length := ⟨_, rfl⟩; obtain ⟨d8, tz5⟩ : ∃ n, n = dd.tests.length := ⟨_, rfl⟩; rw [← tz4] at tz2; rw [← tz5] at tz3; obtain ⟨⟨⟨⟨dk, dn, ds⟩, dm, da⟩, dv⟩, db, dbv, dt, dtv⟩ := dd; simp only at tz1 tz2 tz3; subst tz1 tz2 tz3; clear tz4 tz5; have N0 : Hid (Bx (wq.alloc (.cells (Cm.cs ⟨(⟨⟨dk, dn, ds⟩, dm, da⟩, .slice d1 d2 d3), db, .slice d4 d5 d6, dt, .slice d7 d8 d9⟩) 30)) wq.heap.size ⟨(⟨⟨dk, dn, ds⟩, dm, da⟩, .slice d1 d2 d3), db, .slice d4 d5 d6, dt, .slice d7 d8 d9⟩) := Bx.new hqo; have N1 : Hid (Cm.key ⟨(⟨⟨dk, dn, ds⟩, dm, da⟩, .slice d1 d2 d3), db, .slice d4 d5 d6, dt, .slice d7 d8 d9⟩ = KR) := hqk; have NL : Hid (Lent (w.heap.size + 1) (wq.alloc (.cells (Cm.cs ⟨(⟨⟨dk, dn, ds⟩, dm, da⟩, .slice d1 d2 d3), db, .slice d4 d5 d6, dt, .slice d7 d8 d9⟩) 30)) ⟨(⟨⟨dk, dn, ds⟩, dm, da⟩, .slice d1 d2 d3), db, .slice d4 d5 d6, dt, .slice d7 d8 d9⟩) := (by have := hlt.later (below1 wq (.cells (Cm.cs ⟨(⟨⟨dk, dn, ds⟩, dm, da⟩, .slice d1 d2 d3), db, .slice d4 d5 d6, dt, .slice d7 d8 d9⟩) 30)); rw [show (w.alloc (.cells #[.int .i64 rk, .int .i64 rn, .string rs, .string rm, .slice r1 r2 r3, .slice r4 r5 r6, .slice r7 r8 r9] 30)).heap.size = w.heap.size + 1 by simp] at this; exact this); have K0 : Hid (Bx (wq.alloc (.cells (Cm.cs ⟨(⟨⟨dk, dn, ds⟩, dm, da⟩, .slice d1 d2 d3), db, .slice d4 d5 d6, dt, .slice d7 d8 d9⟩) 30)) w.heap.size ⟨(⟨⟨rk, rn, rs⟩, rm, ra⟩, .slice r1 r2 r3), rb, .slice r4 r5 r6, rt, .slice r7 r8 r9⟩) := (HBR.out.later hb).later (below1 _ _); have KW : Hid (Below w.heap.size w (wq.alloc (.cells (Cm.cs ⟨(⟨⟨dk, dn, ds⟩, dm, da⟩, .slice d1 d2 d3), db, .slice d4 d5 d6, dt, .slice d7 d8 d9⟩) 30))) := below_step (below_step (below1 _ _) hb) (below1 _ _); clear hb hlt hqo hqk HBR)
  revert N0 NL K0 KW
  generalize wq.alloc (.cells #[.int .i64 dk, .int .i64 dn, .string ds, .string dm, .slice d1 d2 d3, .slice d4 d5 d6, .slice d7 d8 d9] 30) = w1
  obtain ⟨Gr, hGr⟩ : ∃ G, w.heap.size = G := ⟨_, rfl⟩
  generalize wq.heap.size = Gd
  rw [hGr]
  generalize Gr + 1 = Bl
  intro N0 NL K0 KW
  have HD := N0
  have HDK := N1
  have HL := NL
  have HR := K0
  have HW : Hid (Below w.heap.size w w1) := by rw [hGr]; exact KW.out
  clear N0 N1 NL K0 KW hGr
  go_upto_region 3 with (go_at_call 5; refine (HLT.out _ HW.out).mono ?_; clear HLT; rintro e w2 ⟨gl, cl, rfl, hown, hb⟩; have HLV : Hid (LentT w2 w1.heap.size (.slice (some ⟨gl, 0, none⟩) vs.length cl) vs) := ⟨gl, cl, rfl, hown⟩; have KR0 : Hid (Bx w2 Gr ⟨(⟨⟨rk, rn, rs⟩, rm, ra⟩, .slice r1 r2 r3), rb, .slice r4 r5 r6, rt, .slice r7 r8 r9⟩) := HR.out.later hb; have KD0 : Hid (Bx w2 Gd ⟨(⟨⟨dk, dn, ds⟩, dm, da⟩, .slice d1 d2 d3), db, .slice d4 d5 d6, dt, .slice d7 d8 d9⟩) := HD.out.later hb; have KL0 : Hid (Lent Bl w2 ⟨(⟨⟨dk, dn, ds⟩, dm, da⟩, .slice d1 d2 d3), db, .slice d4 d5 d6, dt, .slice d7 d8 d9⟩) := HL.out.later hb; have KW : Hid (Below w.heap.size w w2) := below_step HW.out hb; clear hown hb HR HD HL HW)
  have HR := KR0
  have HD := KD0
  have HL := KL0
  have HW := KW
  clear KR0 KD0 KL0 KW
  generalize w1.heap.size = Bv at HLV
  obtain ⟨c0, c1, c2, c3, c4, c5, c6⟩ := cseven HD.out.b
  go_upto_region 4 with (go_at_call 6; refine (HID.out _ ⟨(⟨⟨dk, dn, ds⟩, dm, da⟩, .slice d1 d2 d3), db, .slice d4 d5 d6, dt, .slice d7 d8 d9⟩ _ HDK.out HD.out.o (HLV.out.ts (by omega))).mono ?_; rintro x wq ⟨dd, rfl, hqk, hqo, hb⟩; obtain ⟨⟨q1, q2, q3, tz1⟩, ⟨q4, q6, tz2⟩, ⟨q7, q9, tz3⟩, -, -⟩ := (hqo).shape; obtain ⟨q5, tz4⟩ : ∃ n, n = dd.body.length := ⟨_, rfl⟩; obtain ⟨q8, tz5⟩ : ∃ n, n = dd.tests.length := ⟨_, rfl⟩; rw [← tz4] at tz2; rw [← tz5] at tz3; obtain ⟨⟨⟨⟨qk, qn, qs⟩, qm, qa⟩, qv⟩, qb, qbv, qt, qtv⟩ := dd; simp only at tz1 tz2 tz3; subst tz1 tz2 tz3; clear tz4 tz5; have N0 : Hid (Bx (wq.alloc (.cells (Cm.cs ⟨(⟨⟨qk, qn, qs⟩, qm, qa⟩, .slice q1 q2 q3), qb, .slice q4 q5 q6, qt, .slice q7 q8 q9⟩) 30)) wq.heap.size ⟨(⟨⟨qk, qn, qs⟩, qm, qa⟩, .slice q1 q2 q3), qb, .slice q4 q5 q6, qt, .slice q7 q8 q9⟩) := Bx.new hqo; have N1 : Hid (Cm.key ⟨(⟨⟨qk, qn, qs⟩, qm, qa⟩, .slice q1 q2 q3), qb, .slice q4 q5 q6, qt, .slice q7 q8 q9⟩ = KI) := hqk; have K0 : Hid (Bx (wq.alloc (.cells (Cm.cs ⟨(⟨⟨qk, qn, qs⟩, qm, qa⟩, .slice q1 q2 q3), qb, .slice q4 q5 q6, qt, .slice q7 q8 q9⟩) 30)) Gr ⟨(⟨⟨rk, rn, rs⟩, rm, ra⟩, .slice r1 r2 r3), rb, .slice r4 r5 r6, rt, .slice r7 r8 r9⟩) := (HR.out.later hb).later (below1 _ _); have K1 : Hid (Bx (wq.alloc (.cells (Cm.cs ⟨(⟨⟨qk, qn, qs⟩, qm, qa⟩, .slice q1 q2 q3), qb, .slice q4 q5 q6, qt, .slice q7 q8 q9⟩) 30)) Gd ⟨(⟨⟨dk, dn, ds⟩, dm, da⟩, .slice d1 d2 d3), db, .slice d4 d5 d6, dt, .slice d7 d8 d9⟩) := (HD.out.later hb).later (below1 _ _); have K2 : Hid (Lent Bl (wq.alloc (.cells (Cm.cs ⟨(⟨⟨qk, qn, qs⟩, qm, qa⟩, .slice q1 q2 q3), qb, .slice q4 q5 q6, qt, .slice q7 q8 q9⟩) 30)) ⟨(⟨⟨dk, dn, ds⟩, dm, da⟩, .slice d1 d2 d3), db, .slice d4 d5 d6, dt, .slice d7 d8 d9⟩) := (HL.out.later hb).later (below1 _ _); have K3 : Hid (LentT (wq.alloc (.cells (Cm.cs ⟨(⟨⟨qk, qn, qs⟩, qm, qa⟩, .slice q1 q2 q3), qb, .slice q4 q5 q6, qt, .slice q7 q8 q9⟩) 30)) Bv (.slice (some ⟨gl, 0, none⟩) vs.length cl) vs) := (HLV.out.later hb).later (below1 _ _); have KW : Hid (Below w.heap.size w (wq.alloc (.cells (Cm.cs ⟨(⟨⟨qk, qn, qs⟩, qm, qa⟩, .slice q1 q2 q3), qb, .slice q4 q5 q6, qt, .slice q7 q8 q9⟩) 30))) := below_step (below_step HW.out hb) (below1 _ _); clear hb hqk hqo HW HR HD HL HLV c0 c1 c2 c3 c4 c5 c6)
  revert N0 K0 K1 K2 K3 KW
  generalize wq.alloc (.cells #[.int .i64 qk, .int .i64 qn, .string qs, .string qm, .slice q1 q2 q3, .slice q4 q5 q6, .slice q7 q8 q9] 30) = w4
  generalize wq.heap.size = Gq
  intro N0 K0 K1 K2 K3 KW
  have HQ := N0
  have HQK := N1
  have HW := KW
  have HR := K0
  have HD := K1
  have HL := K2
  have HLV := K3
  clear N0 N1 KW K0 K1 K2 K3
  have HIR : Hid (∀ X : World, Below w4.heap.size w4 X → Calls Tryd.prog 8 #[Cm.v ⟨(⟨⟨rk, rn, rs⟩, rm, ra⟩, .slice r1 r2 r3), rb, .slice r4 r5 r6, rt, .slice r7 r8 r9⟩, .slice va vs.length vc] X fun e w' => ∃ q : Cm, e = .returned q.v ∧ q.key = KI ∧ q.ok w' ∧ Below X.heap.size X w') := fun X hX => HIR0.out X (below_step HW.out hX)
  have HKT : Hid (∀ X : World, Below w4.heap.size w4 X → Calls Tryd.prog 9 #[.slice (some ⟨gl, 0, none⟩) vs.length cl, .slice va vs.length vc] X fun e w' => e = .returned (.bool true) ∧ Below X.heap.size X w') := fun X hX => HKT0.out X Bv _ (below_step HW.out hX) (HLV.out.later hX)
  clear HIR0 HKT0
  go_cut [32] from 21 (fun s32 wx => s32 = .bool false ∧ Below w4.heap.size w4 wx)
  case first =>
    refine wp_region_held_drew (S := fun w' => Below w4.heap.size w4 w') (by kernel_rfl) (Below.refl _ _).drew (fun hH => ?_)
    revert hH
    generalize w4.drew = V0
    intro hH
    refine wpAnyH_take (i := 0) (oi := ⟨_, _, _, _, _, _⟩) (v := .agg #[.int .i64 qk, .int .i64 qn, .string qs, .string qm, .slice q1 q2 q3, .slice q4 q5 q6, .slice q7 q8 q9]) rfl (by kernel_rfl) (by kernel_rfl) (by kernel_rfl) (fun _ _ _ h => h) (Or.inl ⟨by rfl, fun w' h => by obtain ⟨c0, c1, c2, c3, c4, c5, c6⟩ := cseven (CBlk.later (Hid.out HQ).b h); clear h; go_simp⟩) hH ?_
    simp only [Act.put, List.setIfInBounds_toArray, List.set_cons_zero, List.set_cons_succ]
    refine wpAnyH_take (i := 1) (oi := ⟨_, _, _, _, _, _⟩) (v := .agg #[.int .i64 rk, .int .i64 rn, .string rs, .string rm, .slice r1 r2 r3, .slice r4 r5 r6, .slice r7 r8 r9]) rfl (by kernel_rfl) (by kernel_rfl) (by kernel_rfl) (fun _ _ _ h => h) (Or.inl ⟨by rfl, fun w' h => by obtain ⟨c0, c1, c2, c3, c4, c5, c6⟩ := cseven (CBlk.later (Hid.out HR).b h); clear h; go_simp⟩) hH ?_
    simp only [Act.put, List.setIfInBounds_toArray, List.set_cons_zero, List.set_cons_succ]
    refine wpAnyH_take (i := 2) (oi := ⟨_, _, _, _, _, _⟩) (v := .slice va vs.length vc) rfl (by kernel_rfl) (by kernel_rfl) (by kernel_rfl) (fun _ _ _ h => h) (Or.inl ⟨by rfl, fun w' h => by clear h; go_simp⟩) hH ?_
    simp only [Act.put, List.setIfInBounds_toArray, List.set_cons_zero, List.set_cons_succ]
    refine wpAnyH_ready (rs := [3]) (by kernel_rfl) (by simp) ?_
    refine (AllReadyH.cons (o := ⟨_, _, _, _, _, _⟩) rfl (fun K hK => ?_) AllReadyH.nil)
    go_simp
    refine (HIR.out _ hH).mono ?_
    rintro x V3 ⟨nx, rfl, hnk, hno, hb⟩
    obtain ⟨⟨g1, g2, g3, tz1⟩, ⟨g4, g6, tz2⟩, ⟨g7, g9, tz3⟩, -, -⟩ := (hno).shape
    obtain ⟨g5, tz4⟩ : ∃ n, n = nx.body.length := ⟨_, rfl⟩
    obtain ⟨g8, tz5⟩ : ∃ n, n = nx.tests.length := ⟨_, rfl⟩
    rw [← tz4] at tz2
    rw [← tz5] at tz3
    obtain ⟨⟨⟨⟨gk, gn, gs⟩, gm, ga⟩, gv⟩, gb, gbv, gt, gtv⟩ := nx
    simp only at tz1 tz2 tz3
    subst tz1 tz2 tz3
    clear tz4 tz5
    have HF : Hid (Cm.ok V3 ⟨(⟨⟨gk, gn, gs⟩, gm, ga⟩, .slice g1 g2 g3), gb, .slice g4 g5 g6, gt, .slice g7 g8 g9⟩ ∧ Cm.key ⟨(⟨⟨gk, gn, gs⟩, gm, ga⟩, .slice g1 g2 g3), gb, .slice g4 g5 g6, gt, .slice g7 g8 g9⟩ = KI) := ⟨hno, hnk⟩
    refine hK.out _ _ (below_step hH hb) (fun hH => ?_)
    clear hK K hb hnk hno
    try simp only [Act.put, List.setIfInBounds_toArray, List.set_cons_zero, List.set_cons_succ]
    refine wpAnyH_ready (rs := [4]) (by kernel_rfl) (by simp) ?_
    refine (AllReadyH.cons (o := ⟨_, _, _, _, _, _⟩) rfl (fun K hK => ?_) AllReadyH.nil)
    go_simp
    refine (sameC_any ⟨(⟨⟨qk, qn, qs⟩, qm, qa⟩, .slice q1 q2 q3), qb, .slice q4 q5 q6, qt, .slice q7 q8 q9⟩ ⟨(⟨⟨gk, gn, gs⟩, gm, ga⟩, .slice g1 g2 g3), gb, .slice g4 g5 g6, gt, .slice g7 g8 g9⟩ _ (HQ.out.later hH).o HF.out.1).mono ?_
    have hsm : Cm.same ⟨(⟨⟨qk, qn, qs⟩, qm, qa⟩, .slice q1 q2 q3), qb, .slice q4 q5 q6, qt, .slice q7 q8 q9⟩ ⟨(⟨⟨gk, gn, gs⟩, gm, ga⟩, .slice g1 g2 g3), gb, .slice g4 g5 g6, gt, .slice g7 g8 g9⟩ = true := same_of_key (HQK.out.trans HF.out.2.symm)
    rw [hsm]
    clear hsm
    rintro x V4 ⟨rfl, hb⟩
    refine hK.out _ _ (below_step hH hb) (fun hH => ?_)
    clear hK K hb
    try simp only [Act.put, List.setIfInBounds_toArray, List.set_cons_zero, List.set_cons_succ]
    refine wpAnyH_take (i := 5) (oi := ⟨_, _, _, _, _, _⟩) (v := .bool false) rfl (by kernel_rfl) (by kernel_rfl) (by kernel_rfl) (fun _ _ _ h => h) (Or.inl ⟨by rfl, fun w' h => by clear h; go_simp⟩) hH ?_
    simp only [Act.put, List.setIfInBounds_toArray, List.set_cons_zero, List.set_cons_succ]
    refine wpAnyH_take (i := 6) (oi := ⟨_, _, _, _, _, _⟩) (v := .bool false) rfl (by kernel_rfl) (by kernel_rfl) (by kernel_rfl) (fun _ _ _ h => h) (Or.inl ⟨by rfl, fun w' h => by clear h; go_simp⟩) hH ?_
    simp only [Act.put, List.setIfInBounds_toArray, List.set_cons_zero, List.set_cons_succ]
    refine wpAnyH_take (i := 7) (oi := ⟨_, _, _, _, _, _⟩) (v := .slice (some ⟨gl, 0, none⟩) vs.length cl) rfl (by kernel_rfl) (by kernel_rfl) (by kernel_rfl) (fun _ _ _ h => h) (Or.inl ⟨by rfl, fun w' h => by clear h; go_simp⟩) hH ?_
    simp only [Act.put, List.setIfInBounds_toArray, List.set_cons_zero, List.set_cons_succ]
    refine wpAnyH_take (i := 8) (oi := ⟨_, _, _, _, _, _⟩) (v := .slice va vs.length vc) rfl (by kernel_rfl) (by kernel_rfl) (by kernel_rfl) (fun _ _ _ h => h) (Or.inl ⟨by rfl, fun w' h => by clear h; go_simp⟩) hH ?_
    simp only [Act.put, List.setIfInBounds_toArray, List.set_cons_zero, List.set_cons_succ]
    refine wpAnyH_ready (rs := [9]) (by kernel_rfl) (by simp) ?_
    refine (AllReadyH.cons (o := ⟨_, _, _, _, _, _⟩) rfl (fun K hK => ?_) AllReadyH.nil)
    go_simp
    refine (HKT.out _ hH).mono ?_
    rintro x V5 ⟨rfl, hb⟩
    refine hK.out _ _ (below_step hH hb) (fun hH => ?_)
    clear hK K hb
    try simp only [Act.put, List.setIfInBounds_toArray, List.set_cons_zero, List.set_cons_succ]
    refine wpAnyH_take (i := 10) (oi := ⟨_, _, _, _, _, _⟩) (v := .bool false) rfl (by kernel_rfl) (by kernel_rfl) (by kernel_rfl) (fun _ _ _ h => h) (Or.inl ⟨by rfl, fun w' h => by clear h; go_simp⟩) hH ?_
    simp only [Act.put, List.setIfInBounds_toArray, List.set_cons_zero, List.set_cons_succ]
    refine wpAnyH_take (i := 11) (oi := ⟨_, _, _, _, _, _⟩) (v := .bool false) rfl (by kernel_rfl) (by kernel_rfl) (by kernel_rfl) (fun _ _ _ h => h) (Or.inl ⟨by rfl, fun w' h => by clear h; go_simp⟩) hH ?_
    simp only [Act.put, List.setIfInBounds_toArray, List.set_cons_zero, List.set_cons_succ]
    refine wpAnyH_done (by kernel_rfl) ?_ _
    go_wp2_with fail
    go_meet
    case rel => exact ⟨rfl, hH⟩
  case rest =>
  obtain ⟨rfl, hb⟩ := hcut
  rename World => w5
  have KR0 : Hid (Bx w5 Gr ⟨(⟨⟨rk, rn, rs⟩, rm, ra⟩, .slice r1 r2 r3), rb, .slice r4 r5 r6, rt, .slice r7 r8 r9⟩) := HR.out.later hb
  have KD0 : Hid (Bx w5 Gd ⟨(⟨⟨dk, dn, ds⟩, dm, da⟩, .slice d1 d2 d3), db, .slice d4 d5 d6, dt, .slice d7 d8 d9⟩) := HD.out.later hb
  have KL0 : Hid (Lent Bl w5 ⟨(⟨⟨dk, dn, ds⟩, dm, da⟩, .slice d1 d2 d3), db, .slice d4 d5 d6, dt, .slice d7 d8 d9⟩) := HL.out.later hb
  have KW : Hid (Below w.heap.size w w5) := below_step HW.out hb
  clear hb HR HD HL HQ HQK HW HIR HKT HLV
  have HR := KR0
  have HD := KD0
  have HL := KL0
  have HW := KW
  clear KR0 KD0 KL0 KW
  obtain ⟨c0, c1, c2, c3, c4, c5, c6⟩ := cseven HD.out.b
  go_upto_region 7 with (go_at_call 10; refine (HQD.out _ ⟨(⟨⟨dk, dn, ds⟩, dm, da⟩, .slice d1 d2 d3), db, .slice d4 d5 d6, dt, .slice d7 d8 d9⟩ HDK.out HD.out.o).mono ?_; rintro x wq ⟨dd, rfl, hqk, hqo, hb⟩; obtain ⟨⟨p1, p2, p3, tz1⟩, ⟨p4, p6, tz2⟩, ⟨p7, p9, tz3⟩, -, -⟩ := (hqo).shape; obtain ⟨p5, tz4⟩ : ∃ n, n = dd.body.length := ⟨_, rfl⟩; obtain ⟨p8, tz5⟩ : ∃ n, n = dd.tests.length := ⟨_, rfl⟩; rw [← tz4] at tz2; rw [← tz5] at tz3; obtain ⟨⟨⟨⟨pk, pn, ps⟩, pm, pa⟩, pv⟩, pb, pbv, pt, ptv⟩ := dd; simp only at tz1 tz2 tz3; subst tz1 tz2 tz3; clear tz4 tz5; have N0 : Hid (Bx (wq.alloc (.cells (Cm.cs ⟨(⟨⟨pk, pn, ps⟩, pm, pa⟩, .slice p1 p2 p3), pb, .slice p4 p5 p6, pt, .slice p7 p8 p9⟩) 30)) wq.heap.size ⟨(⟨⟨pk, pn, ps⟩, pm, pa⟩, .slice p1 p2 p3), pb, .slice p4 p5 p6, pt, .slice p7 p8 p9⟩) := Bx.new hqo; have N1 : Hid (Cm.key ⟨(⟨⟨pk, pn, ps⟩, pm, pa⟩, .slice p1 p2 p3), pb, .slice p4 p5 p6, pt, .slice p7 p8 p9⟩ = KQ) := hqk; have K0 : Hid (Bx (wq.alloc (.cells (Cm.cs ⟨(⟨⟨pk, pn, ps⟩, pm, pa⟩, .slice p1 p2 p3), pb, .slice p4 p5 p6, pt, .slice p7 p8 p9⟩) 30)) Gr ⟨(⟨⟨rk, rn, rs⟩, rm, ra⟩, .slice r1 r2 r3), rb, .slice r4 r5 r6, rt, .slice r7 r8 r9⟩) := (HR.out.later hb).later (below1 _ _); have K1 : Hid (Bx (wq.alloc (.cells (Cm.cs ⟨(⟨⟨pk, pn, ps⟩, pm, pa⟩, .slice p1 p2 p3), pb, .slice p4 p5 p6, pt, .slice p7 p8 p9⟩) 30)) Gd ⟨(⟨⟨dk, dn, ds⟩, dm, da⟩, .slice d1 d2 d3), db, .slice d4 d5 d6, dt, .slice d7 d8 d9⟩) := (HD.out.later hb).later (below1 _ _); have K2 : Hid (Lent Bl (wq.alloc (.cells (Cm.cs ⟨(⟨⟨pk, pn, ps⟩, pm, pa⟩, .slice p1 p2 p3), pb, .slice p4 p5 p6, pt, .slice p7 p8 p9⟩) 30)) ⟨(⟨⟨dk, dn, ds⟩, dm, da⟩, .slice d1 d2 d3), db, .slice d4 d5 d6, dt, .slice d7 d8 d9⟩) := (HL.out.later hb).later (below1 _ _); have KW : Hid (Below w.heap.size w (wq.alloc (.cells (Cm.cs ⟨(⟨⟨pk, pn, ps⟩, pm, pa⟩, .slice p1 p2 p3), pb, .slice p4 p5 p6, pt, .slice p7 p8 p9⟩) 30))) := below_step (below_step HW.out hb) (below1 _ _); clear hb hqk hqo HW HR HD HL c0 c1 c2 c3 c4 c5 c6)
  revert N0 K0 K1 K2 KW
  generalize wq.alloc (.cells #[.int .i64 pk, .int .i64 pn, .string ps, .string pm, .slice p1 p2 p3, .slice p4 p5 p6, .slice p7 p8 p9] 30) = w6
  generalize wq.heap.size = Gp
  intro N0 K0 K1 K2 KW
  have HP := N0
  have HPK := N1
  have HW := KW
  have HR := K0
  have HD := K1
  have HL := K2
  clear N0 N1 KW K0 K1 K2
  obtain ⟨c0, c1, c2, c3, c4, c5, c6⟩ := cseven HR.out.b
  go_upto_region 8 with (go_at_call 11; refine (HQR.out _ HW.out).mono ?_; rintro x wq ⟨dd, rfl, hqk, hqo, hb⟩; obtain ⟨⟨f1, f2, f3, tz1⟩, ⟨f4, f6, tz2⟩, ⟨f7, f9, tz3⟩, -, -⟩ := (hqo).shape; obtain ⟨f5, tz4⟩ : ∃ n, n = dd.body.length := ⟨_, rfl⟩; obtain ⟨f8, tz5⟩ : ∃ n, n = dd.tests.length := ⟨_, rfl⟩; rw [← tz4] at tz2; rw [← tz5] at tz3; obtain ⟨⟨⟨⟨fk, fn, fs⟩, fm, fa⟩, fv⟩, fb, fbv, ft, ftv⟩ := dd; simp only at tz1 tz2 tz3; subst tz1 tz2 tz3; clear tz4 tz5; have N0 : Hid (Bx (wq.alloc (.cells (Cm.cs ⟨(⟨⟨fk, fn, fs⟩, fm, fa⟩, .slice f1 f2 f3), fb, .slice f4 f5 f6, ft, .slice f7 f8 f9⟩) 30)) wq.heap.size ⟨(⟨⟨fk, fn, fs⟩, fm, fa⟩, .slice f1 f2 f3), fb, .slice f4 f5 f6, ft, .slice f7 f8 f9⟩) := Bx.new hqo; have N1 : Hid (Cm.key ⟨(⟨⟨fk, fn, fs⟩, fm, fa⟩, .slice f1 f2 f3), fb, .slice f4 f5 f6, ft, .slice f7 f8 f9⟩ = KQ) := hqk; have K0 : Hid (Bx (wq.alloc (.cells (Cm.cs ⟨(⟨⟨fk, fn, fs⟩, fm, fa⟩, .slice f1 f2 f3), fb, .slice f4 f5 f6, ft, .slice f7 f8 f9⟩) 30)) Gr ⟨(⟨⟨rk, rn, rs⟩, rm, ra⟩, .slice r1 r2 r3), rb, .slice r4 r5 r6, rt, .slice r7 r8 r9⟩) := (HR.out.later hb).later (below1 _ _); have K1 : Hid (Bx (wq.alloc (.cells (Cm.cs ⟨(⟨⟨fk, fn, fs⟩, fm, fa⟩, .slice f1 f2 f3), fb, .slice f4 f5 f6, ft, .slice f7 f8 f9⟩) 30)) Gd ⟨(⟨⟨dk, dn, ds⟩, dm, da⟩, .slice d1 d2 d3), db, .slice d4 d5 d6, dt, .slice d7 d8 d9⟩) := (HD.out.later hb).later (below1 _ _); have K2 : Hid (Lent Bl (wq.alloc (.cells (Cm.cs ⟨(⟨⟨fk, fn, fs⟩, fm, fa⟩, .slice f1 f2 f3), fb, .slice f4 f5 f6, ft, .slice f7 f8 f9⟩) 30)) ⟨(⟨⟨dk, dn, ds⟩, dm, da⟩, .slice d1 d2 d3), db, .slice d4 d5 d6, dt, .slice d7 d8 d9⟩) := (HL.out.later hb).later (below1 _ _); have K3 : Hid (Bx (wq.alloc (.cells (Cm.cs ⟨(⟨⟨fk, fn, fs⟩, fm, fa⟩, .slice f1 f2 f3), fb, .slice f4 f5 f6, ft, .slice f7 f8 f9⟩) 30)) Gp ⟨(⟨⟨pk, pn, ps⟩, pm, pa⟩, .slice p1 p2 p3), pb, .slice p4 p5 p6, pt, .slice p7 p8 p9⟩) := (HP.out.later hb).later (below1 _ _); have KW : Hid (Below w.heap.size w (wq.alloc (.cells (Cm.cs ⟨(⟨⟨fk, fn, fs⟩, fm, fa⟩, .slice f1 f2 f3), fb, .slice f4 f5 f6, ft, .slice f7 f8 f9⟩) 30))) := below_step (below_step HW.out hb) (below1 _ _); clear hb hqk hqo HW HR HD HL HP c0 c1 c2 c3 c4 c5 c6)
  revert N0 K0 K1 K2 K3 KW
  generalize wq.alloc (.cells #[.int .i64 fk, .int .i64 fn, .string fs, .string fm, .slice f1 f2 f3, .slice f4 f5 f6, .slice f7 f8 f9] 30) = w7
  generalize wq.heap.size = Gf
  intro N0 K0 K1 K2 K3 KW
  have HS := N0
  have HSK := N1
  have HW := KW
  have HR := K0
  have HD := K1
  have HL := K2
  have HP := K3
  clear N0 N1 KW K0 K1 K2 K3
  have HKD : Hid (∀ X : World, Below w7.heap.size w7 X → Calls Tryd.prog 12 #[Cm.v ⟨(⟨⟨dk, dn, ds⟩, dm, da⟩, .slice d1 d2 d3), db, .slice d4 d5 d6, dt, .slice d7 d8 d9⟩, Cm.v ⟨(⟨⟨rk, rn, rs⟩, rm, ra⟩, .slice r1 r2 r3), rb, .slice r4 r5 r6, rt, .slice r7 r8 r9⟩] X fun e w' => e = .returned (.bool true) ∧ Below X.heap.size X w') := fun X hX => HKC.out X ⟨(⟨⟨dk, dn, ds⟩, dm, da⟩, .slice d1 d2 d3), db, .slice d4 d5 d6, dt, .slice d7 d8 d9⟩ Bl (below_step HW.out hX) HDK.out (HL.out.later hX)
  have HSM : Hid (Calls Tryd.prog 7 #[Cm.v ⟨(⟨⟨pk, pn, ps⟩, pm, pa⟩, .slice p1 p2 p3), pb, .slice p4 p5 p6, pt, .slice p7 p8 p9⟩, Cm.v ⟨(⟨⟨fk, fn, fs⟩, fm, fa⟩, .slice f1 f2 f3), fb, .slice f4 f5 f6, ft, .slice f7 f8 f9⟩] w7 fun e w' => e = .returned (.bool true) ∧ Below w7.heap.size w7 w') := by
    have := sameC_any ⟨(⟨⟨pk, pn, ps⟩, pm, pa⟩, .slice p1 p2 p3), pb, .slice p4 p5 p6, pt, .slice p7 p8 p9⟩ ⟨(⟨⟨fk, fn, fs⟩, fm, fa⟩, .slice f1 f2 f3), fb, .slice f4 f5 f6, ft, .slice f7 f8 f9⟩ w7 HP.out.o HS.out.o
    rw [same_of_key (HPK.out.trans HSK.out.symm)] at this; exact this
  have heq : (EQ == EQ) = true := by simp
  clear HKC
  obtain ⟨c0, c1, c2, c3, c4, c5, c6⟩ := cseven HP.out.b
  obtain ⟨e0, e1, e2, e3, e4, e5, e6⟩ := cseven HS.out.b
  go_wp2_with (first
    | (go_at_call 7; refine HSM.out.mono ?_; clear HSM; rintro e w8 ⟨rfl, hb⟩; have HB8 : Hid (Below w7.heap.size w7 w8) := hb; clear c0 c1 c2 c3 c4 c5 c6 e0 e1 e2 e3 e4 e5 e6; obtain ⟨c0, c1, c2, c3, c4, c5, c6⟩ := cseven (HD.out.b.later hb); obtain ⟨e0, e1, e2, e3, e4, e5, e6⟩ := cseven (HR.out.b.later hb); clear hb)
    | (go_at_call 12; refine (HKD.out _ HB8.out).mono ?_; clear HKD; rintro e w9 ⟨rfl, hb⟩; have HW9 : Hid (Below w.heap.size w w9) := below_step (below_step HW.out HB8.out) hb; clear hb c0 c1 c2 c3 c4 c5 c6 e0 e1 e2 e3 e4 e5 e6)
    | (go_at_call 13; refine (first3_any _).mono ?_; rintro e w10 ⟨rfl, hb⟩; have HW10 : Hid (Below w.heap.size w w10) := below_step HW9.out hb; clear hb))
  go_ret
  exact ⟨rfl, HW10.out⟩
end Go.Proofs.YtdfgijdededolabDoor
