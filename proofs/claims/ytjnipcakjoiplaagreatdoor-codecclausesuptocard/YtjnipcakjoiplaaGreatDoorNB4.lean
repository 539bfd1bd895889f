import Derived.Test.YtjnipcakjoiplaaGreatDoorCH4
import Derived.Test.YtjnipcakjoiplaaGreatDoorCF1
import Derived.Test.YtjnipcakjoiplaaGreatDoorNR10
import Derived.Test.YtjnipcakjoiplaaGreatDoorCK1
import Derived.Test.YtjnipcakjoiplaaGreatDoorCL1
import Derived.ProofKit
import Derived.OpenShut
import Derived.ShutString
import Derived.ChangeOld
import Derived.Below
import Derived.Lib.SmallJoins
import Derived.Deep.Slices
import Derived.Deep.Strs
import Derived.SizedLaws
import Derived.Test.YtjnipcakjoiplaaGreatDoorL1
import Derived.Test.YtjnipcakjoiplaaGreatDoorRows
/-
  hearsaylaw06.CodecClauses: the walk. (Written by CI1.py.)
-/
namespace Go.Proofs.YtjnipcakjoiplaaGreatDoor
open Go.RowKit

theorem aB_byt8 {a : At} (h : Fit a) : byt (aB a) := by
  unfold aB
  refine (tB_byt h.by_).app ((sB_byt (by have := h.nm; omega)).app ?_)
  intro x hx
  rcases List.mem_cons.1 hx with rfl | hx
  · have := h.len; omega
  · obtain ⟨t, ht, hx⟩ := List.mem_flatMap.1 hx
    exact tB_byt (h.args t ht) x hx
theorem eB_byt {e : Te} (h : FitE e) : byt (eB e) := by
  intro x hx
  unfold eB at hx
  rcases List.mem_cons.1 hx with rfl | hx
  · have := h.op; omega
  · rcases List.mem_append.1 hx with hx | hx
    · exact tB_byt h.l x hx
    · exact tB_byt h.r x hx
theorem cB_byt {c : Cm} (h : c.chk = 0) : byt (cB c.key) := by
  obtain ⟨g1, g2, g3, g4⟩ := chk_fit h
  unfold cB
  refine (aB_byt8 (g1 _ (by simp))).app (byt.app ?_ ?_)
  · intro x hx
    rcases List.mem_cons.1 hx with rfl | hx
    · omega
    · obtain ⟨a, ha, hx⟩ := List.mem_flatMap.1 hx
      exact aB_byt8 (g1 a (List.mem_cons_of_mem _ ha)) x hx
  · intro x hx
    rcases List.mem_cons.1 hx with rfl | hx
    · omega
    · obtain ⟨a, ha, hx⟩ := List.mem_flatMap.1 hx
      exact eB_byt (g2 a ha) x hx
theorem bCl_byt (c : Cm) : byt (bCl c) := by
  unfold bCl
  split
  · rename_i h; exact cB_byt h
  · intro x hx; simp at hx
theorem bCl_key {c d : Cm} (h : d.key = c.key) : bCl d = bCl c := by unfold bCl; rw [chk_key h, h]
theorem Bn.form8 {w : World} {v : Value} {l : List Int} (h : Bn w v l) : ∃ a n cap, v = .slice a n cap := by
  obtain ⟨a, cap, rfl, -⟩ := h
  exact ⟨_, _, _, rfl⟩
set_option maxRecDepth 20000 in
set_option maxHeartbeats 8000000 in
theorem codecClauses_any (ca : Cm) (v : Value) (B : List Int) (W : World) (ha : ca.ok W) (hh : TsP W ca.head.2 ca.head.1.args) (hp : ∀ x ∈ ca.body, TsP W x.2 x.1.args) (hbp : AsP W ca.bv ca.body) (htp : EsP W ca.tv ca.tests) (hs : (Ck.terms ca.key).length ≤ 4000000)
    (hw : ∀ t ∈ Ck.terms ca.key, t.var = true → (Lit.int .i64 t.n).wf = true) (hb : Br W v B) (hlB : B.length ≤ 2000000) (hB : BehOk W) :
    Calls Tryz.prog 3 #[ca.v, v] W fun e w' => e = .returned (.bool true) ∧ Below W.heap.size W w' := by
  obtain ⟨KR, hKR⟩ : ∃ K, ca.key = K := ⟨_, rfl⟩
  obtain ⟨RC, hRC⟩ : ∃ r, ca.chk = r := ⟨_, rfl⟩
  obtain ⟨S, hS⟩ : ∃ S, bCl ca = S := ⟨_, rfl⟩
  have HBY : Hid (byt S) := by rw [← hS]; exact bCl_byt ca
  have HLD : Hid (∀ X : World, Below W.heap.size W X → Calls Tryz.prog 4 #[ca.v] X fun e w' => ∃ d : Cm, e = .returned d.v ∧ d.key = KR ∧ Lent X.heap.size w' d ∧ Below X.heap.size X w') := fun X hX => by
    have := lendC_any ca X (ha.later hX) (hh.later hX) (fun x hx => (hp x hx).later hX) (htp.later hX) hs (hB.later hX)
    rw [hKR] at this; exact this
  have HOK : Hid (∀ (X : World) (d : Cm) (base : Nat), d.key = KR → Lent base X d → d.ok X) := fun X d base hK hl => ok_of_lent hl (by rw [hK, ← hKR]; exact hs)
  have HKP : Hid (∀ (X : World) (d : Cm) (base : Nat), Below W.heap.size W X → d.key = KR → Lent base X d → Calls Tryz.prog 7 #[d.v, ca.v] X fun e w' => e = .returned (.bool true) ∧ Below X.heap.size X w') := fun X d base hX hK hl => keptC_any d ca base X (ha.later hX) hl (by rw [hK, hKR]) hs (hB.later hX)
  have HCW : Hid (∀ (X : World) (d : Cm) (base : Nat), d.key = KR → Lent base X d → Calls Tryz.prog 5 #[d.v] X fun e w' => ∃ v, e = .returned (.tuple #[v, .int .i64 RC]) ∧ Bn w' v S ∧ Below X.heap.size X w') := fun X d base hK hl => by
    have hkk : d.key = ca.key := by rw [hK, hKR]
    have := clauseW_any d X (HOK.out X d base hK hl) ⟨fun t ht hv => hw t (by rw [← hkk, ← key_terms]; exact ht) hv, by rw [key_terms, hkk]; omega⟩
    rw [chk_key hkk, hRC, bCl_key hkk, hS] at this; exact this
  have HRW : Hid (∀ X, Below W.heap.size W X → Calls Tryz.prog 6 #[ca.v] X fun e w' => ∃ v, e = .returned (.tuple #[v, .int .i64 RC]) ∧ Bn w' v S ∧ Below X.heap.size X w') := fun X hX => by
    have := rclauseW_any ca X (ha.later hX) (hh.later hX) (fun x hx => (hp x hx).later hX) (hbp.later hX)
    rw [hRC, hS] at this; exact this
  have HLB : Hid (∀ X, Below W.heap.size W X → Calls Tryz.prog 8 #[v] X fun e w' => ∃ u, e = .returned u ∧ LentB w' X.heap.size u B ∧ Below X.heap.size X w') := fun X hX => lendB_any v B X (hb.later hX) hlB
  have HKB : Hid (∀ (X : World) (u : Value) (base : Nat), Below W.heap.size W X → LentB X base u B → Calls Tryz.prog 12 #[u, v] X fun e w' => e = .returned (.bool true) ∧ Below X.heap.size X w') := fun X u base hX hu => keptB_any u v B base X hu (hb.later hX) hlB
  have HRA : Hid (∀ (X : World) (u : Value) (base : Nat), LentB X base u B → Calls Tryz.prog 9 #[u] X (RC8 X (rWhole rClause B))) := fun X u base hu => readClause_any u B X (hu.bh hb.1 (by omega))
  have HQA : Hid (∀ X, Below W.heap.size W X → Calls Tryz.prog 10 #[v] X (RQ8 X (rWhole rClause B))) := fun X hX => rreadClause_any v B X (hb.later hX)
  have HF : Hid (∀ X, Calls Tryz.prog 13 #[] X fun e w' => e = .returned (.bool true) ∧ Below X.heap.size X w') := fun X => first6_any X
  have HSC : Hid (∀ (X : World) (c d : Cm), c.ok X → d.ok X → c.key = d.key → Calls Tryz.prog 11 #[c.v, d.v] X fun e w' => e = .returned (.bool true) ∧ Below X.heap.size X w') := fun X c d h1 h2 h3 => by
    have := sameC_any c d X h1 h2
    rwa [same_key, decide_eq_true h3] at this
  have hsh := ha.shape
  obtain ⟨av, acap, rfl⟩ : ∃ a cap, v = .slice a B.length cap := by obtain ⟨-, a, cap, e, -⟩ := hb; exact ⟨a, cap, e⟩
  clear ha hh hp hbp htp hs hw hb hB hKR hRC hS
  obtain ⟨⟨⟨⟨uk, un, us⟩, um, ul⟩, uv⟩, uo, ubv, ut, utv⟩ := ca
  obtain ⟨⟨ua, ub, uc, u1⟩, ⟨ud, ue, u2⟩, ⟨uf, ug, u3⟩, -, -⟩ := hsh
  simp only at u1 u2 u3
  subst u1 u2 u3
  go_enter Tryz.func3, Tryz.ntmps3
  go_upto_region 4 with (first
    | (go_at_call 4; refine (HLD.out _ (below1 _ _)).mono ?_; rintro e w1 ⟨⟨⟨⟨⟨jk, jn, js⟩, jm, jl⟩, jv⟩, jo, jbv, jt, jtv⟩, rfl, hdk, hdl, hb⟩; obtain ⟨⟨ja, jb, jc, j1⟩, ⟨jd, je, j2⟩, ⟨jf, jg, j3⟩, -, -⟩ := (HOK.out _ _ _ hdk hdl).shape; simp only at j1 j2 j3; subst j1 j2 j3; have HDK : Hid (Cm.key (⟨(⟨⟨jk, jn, js⟩, jm, jl⟩, .slice ja jb jc), jo, .slice jd jo.length je, jt, .slice jf jt.length jg⟩ : Cm) = KR) := hdk; obtain ⟨bD, hbD⟩ : ∃ b, Lent b w1 (⟨(⟨⟨jk, jn, js⟩, jm, jl⟩, .slice ja jb jc), jo, .slice jd jo.length je, jt, .slice jf jt.length jg⟩ : Cm) := ⟨_, hdl⟩; have HD1 : Hid (Lent bD (w1.alloc (.cells #[.int .i64 jk, .int .i64 jn, .string js, .string jm, .slice ja jb jc, .slice jd jo.length je, .slice jf jt.length jg] 30)) (⟨(⟨⟨jk, jn, js⟩, jm, jl⟩, .slice ja jb jc), jo, .slice jd jo.length je, jt, .slice jf jt.length jg⟩ : Cm)) := hbD.later (below1 _ _); have HB1 : Hid (Below W.heap.size W (w1.alloc (.cells #[.int .i64 jk, .int .i64 jn, .string js, .string jm, .slice ja jb jc, .slice jd jo.length je, .slice jf jt.length jg] 30))) := below_step (below_step (below1 _ _) hb) (below1 _ _); have HX1 : Hid (Blk (w1.alloc (.cells #[.int .i64 jk, .int .i64 jn, .string js, .string jm, .slice ja jb jc, .slice jd jo.length je, .slice jf jt.length jg] 30)) W.heap.size #[.int .i64 uk, .int .i64 un, .string us, .string um, .slice ua ub uc, .slice ud uo.length ue, .slice uf ut.length ug] 30) := ((Blk.new W #[.int .i64 uk, .int .i64 un, .string us, .string um, .slice ua ub uc, .slice ud uo.length ue, .slice uf ut.length ug] 30).later hb).later (below1 _ _); have HY1 : Hid (Blk (w1.alloc (.cells #[.int .i64 jk, .int .i64 jn, .string js, .string jm, .slice ja jb jc, .slice jd jo.length je, .slice jf jt.length jg] 30)) w1.heap.size #[.int .i64 jk, .int .i64 jn, .string js, .string jm, .slice ja jb jc, .slice jd jo.length je, .slice jf jt.length jg] 30) := Blk.new _ _ _; obtain ⟨x0, x1, x2, x3, x4, x5, x6⟩ := cseven HX1.out; obtain ⟨y0, y1, y2, y3, y4, y5, y6⟩ := cseven HY1.out; clear hdk hdl hbD hb)
    | (go_at_call 5; refine (HCW.out _ _ _ HDK.out HD1.out).mono ?_; rintro e w2 ⟨v2, rfl, hn, hb⟩; have HN2 : Hid (Bn w2 v2 S) := hn; have HD2 : Hid (Lent _ w2 _) := HD1.out.later hb; have HB2 : Hid (Below W.heap.size W w2) := below_step HB1.out hb; have HX2 : Hid (Blk w2 _ _ _) := HX1.out.later hb; have HY2 : Hid (Blk w2 _ _ _) := HY1.out.later hb; clear x0 x1 x2 x3 x4 x5 x6 y0 y1 y2 y3 y4 y5 y6; obtain ⟨x0, x1, x2, x3, x4, x5, x6⟩ := cseven HX2.out; clear hn hb)
    | (go_at_call 6; refine (HRW.out _ HB2.out).mono ?_; rintro e w3 ⟨v3, rfl, hn, hb⟩; have HN3 : Hid (Bn w3 v3 S) := hn; have HM3 : Hid (Bn w3 v2 S) := HN2.out.later hb; have HD3 : Hid (Lent _ w3 _) := HD2.out.later hb; have HB3 : Hid (Below W.heap.size W w3) := below_step HB2.out hb; have HX3 : Hid (Blk w3 _ _ _) := HX2.out.later hb; have HY3 : Hid (Blk w3 _ _ _) := HY2.out.later hb; clear x0 x1 x2 x3 x4 x5 x6 hn hb))
  have hcv1 := conv_bn HM3.out HBY.out
  have hcv2 := conv_bn HN3.out HBY.out
  obtain ⟨x0, x1, x2, x3, x4, x5, x6⟩ := cseven HX3.out
  obtain ⟨y0, y1, y2, y3, y4, y5, y6⟩ := cseven HY3.out
  generalize ofL S = SS at *
  obtain ⟨a2, n2, c2, rfl⟩ := HM3.out.form8
  obtain ⟨a3, n3, c3, rfl⟩ := HN3.out.form8
  clear HX1 HY1 HX2 HY2 HD1 HD2 HB1 HB2 HN2 HM3 HN3
  go_upto_region 6 with (go_at_call 7; refine (HKP.out _ _ _ HB3.out HDK.out HD3.out).mono ?_; rintro e w4 ⟨rfl, hb⟩; have HB4 : Hid (Below W.heap.size W w4) := below_step HB3.out hb; clear hb x0 x1 x2 x3 x4 x5 x6 y0 y1 y2 y3 y4 y5 y6 hcv1 hcv2)
  go_upto_region 9 with (first
    | (go_at_call 8; refine (HLB.out _ HB4.out).mono ?_; rintro e w5 ⟨u5, rfl, hu, hb⟩; have HU5 : Hid (LentB w5 w4.heap.size u5 B) := hu; have HB5 : Hid (Below W.heap.size W w5) := below_step HB4.out hb; clear hu hb)
    | (go_at_call 9; refine (HRA.out _ _ _ HU5.out).mono ?_; rintro e w6 ⟨hb, ⟨⟨⟨⟨pk, pn, ps⟩, pm, pl⟩, pv⟩, po, pbv, pt, ptv⟩, per, rfl, hop, hgp, hmp⟩; obtain ⟨⟨pa, pb, pc, p1⟩, ⟨pd, pe, p2⟩, ⟨pf, pg, p3⟩, -, -⟩ := (hop.ok hgp).shape; simp only at p1 p2 p3; subst p1 p2 p3; have HP6 : Hid (Cm.ok (w6.alloc (.cells #[.int .i64 pk, .int .i64 pn, .string ps, .string pm, .slice pa pb pc, .slice pd po.length pe, .slice pf pt.length pg] 30)) (⟨(⟨⟨pk, pn, ps⟩, pm, pl⟩, .slice pa pb pc), po, .slice pd po.length pe, pt, .slice pf pt.length pg⟩ : Cm)) := (hop.ok hgp).later (below1 _ _); have HMP : Hid (match rWhole rClause B with | .ok x => Cm.key (⟨(⟨⟨pk, pn, ps⟩, pm, pl⟩, .slice pa pb pc), po, .slice pd po.length pe, pt, .slice pf pt.length pg⟩ : Cm) = x ∧ per = 0 | .error d => Cm.key (⟨(⟨⟨pk, pn, ps⟩, pm, pl⟩, .slice pa pb pc), po, .slice pd po.length pe, pt, .slice pf pt.length pg⟩ : Cm) = c0.key ∧ per = d) := hmp; have HB6 : Hid (Below W.heap.size W (w6.alloc (.cells #[.int .i64 pk, .int .i64 pn, .string ps, .string pm, .slice pa pb pc, .slice pd po.length pe, .slice pf pt.length pg] 30))) := below_step (below_step HB5.out hb) (below1 _ _); have HU6 : Hid (LentB (w6.alloc (.cells #[.int .i64 pk, .int .i64 pn, .string ps, .string pm, .slice pa pb pc, .slice pd po.length pe, .slice pf pt.length pg] 30)) w4.heap.size u5 B) := (HU5.out.later hb).later (below1 _ _); have HZ6 : Hid (Blk (w6.alloc (.cells #[.int .i64 pk, .int .i64 pn, .string ps, .string pm, .slice pa pb pc, .slice pd po.length pe, .slice pf pt.length pg] 30)) w6.heap.size #[.int .i64 pk, .int .i64 pn, .string ps, .string pm, .slice pa pb pc, .slice pd po.length pe, .slice pf pt.length pg] 30) := Blk.new _ _ _; clear hb hop hmp hgp)
    | (go_at_call 10; refine (HQA.out _ HB6.out).mono ?_; rintro e w7 ⟨hb, ⟨⟨⟨⟨qk, qn, qs⟩, qm, ql⟩, qv⟩, qo, qbv, qt, qtv⟩, qer, rfl, hoq, hgq, hmq⟩; obtain ⟨⟨qa, qb, qc, q1⟩, ⟨qd, qe, q2⟩, ⟨qf, qg, q3⟩, -, -⟩ := (hoq.okS hgq).shape; simp only at q1 q2 q3; subst q1 q2 q3; have HQ7 : Hid (Cm.ok (w7.alloc (.cells #[.int .i64 qk, .int .i64 qn, .string qs, .string qm, .slice qa qb qc, .slice qd qo.length qe, .slice qf qt.length qg] 30)) (⟨(⟨⟨qk, qn, qs⟩, qm, ql⟩, .slice qa qb qc), qo, .slice qd qo.length qe, qt, .slice qf qt.length qg⟩ : Cm)) := (hoq.okS hgq).later (below1 _ _); have HMQ : Hid (match rWhole rClause B with | .ok x => Cm.key (⟨(⟨⟨qk, qn, qs⟩, qm, ql⟩, .slice qa qb qc), qo, .slice qd qo.length qe, qt, .slice qf qt.length qg⟩ : Cm) = x ∧ qer = 0 | .error d => Cm.key (⟨(⟨⟨qk, qn, qs⟩, qm, ql⟩, .slice qa qb qc), qo, .slice qd qo.length qe, qt, .slice qf qt.length qg⟩ : Cm) = c0.key ∧ qer = d) := hmq; have HP7 : Hid (Cm.ok (w7.alloc (.cells #[.int .i64 qk, .int .i64 qn, .string qs, .string qm, .slice qa qb qc, .slice qd qo.length qe, .slice qf qt.length qg] 30)) (⟨(⟨⟨pk, pn, ps⟩, pm, pl⟩, .slice pa pb pc), po, .slice pd po.length pe, pt, .slice pf pt.length pg⟩ : Cm)) := (HP6.out.later hb).later (below1 _ _); have HB7 : Hid (Below W.heap.size W (w7.alloc (.cells #[.int .i64 qk, .int .i64 qn, .string qs, .string qm, .slice qa qb qc, .slice qd qo.length qe, .slice qf qt.length qg] 30))) := below_step (below_step HB6.out hb) (below1 _ _); have HU7 : Hid (LentB (w7.alloc (.cells #[.int .i64 qk, .int .i64 qn, .string qs, .string qm, .slice qa qb qc, .slice qd qo.length qe, .slice qf qt.length qg] 30)) w4.heap.size u5 B) := (HU6.out.later hb).later (below1 _ _); have HZ7 : Hid (Blk (w7.alloc (.cells #[.int .i64 qk, .int .i64 qn, .string qs, .string qm, .slice qa qb qc, .slice qd qo.length qe, .slice qf qt.length qg] 30)) w6.heap.size _ _) := (HZ6.out.later hb).later (below1 _ _); have HV7 : Hid (Blk (w7.alloc (.cells #[.int .i64 qk, .int .i64 qn, .string qs, .string qm, .slice qa qb qc, .slice qd qo.length qe, .slice qf qt.length qg] 30)) w7.heap.size #[.int .i64 qk, .int .i64 qn, .string qs, .string qm, .slice qa qb qc, .slice qd qo.length qe, .slice qf qt.length qg] 30) := Blk.new _ _ _; clear hb hoq hmq hgq))
  obtain ⟨he, rfl⟩ : Cm.key (⟨(⟨⟨pk, pn, ps⟩, pm, pl⟩, .slice pa pb pc), po, .slice pd po.length pe, pt, .slice pf pt.length pg⟩ : Cm) = Cm.key (⟨(⟨⟨qk, qn, qs⟩, qm, ql⟩, .slice qa qb qc), qo, .slice qd qo.length qe, qt, .slice qf qt.length qg⟩ : Cm) ∧ qer = per := by
    have h1 := HMP.out
    have h2 := HMQ.out
    cases hr : rWhole rClause B with
    | ok b => rw [hr] at h1 h2; exact ⟨h1.1.trans h2.1.symm, h2.2.trans h1.2.symm⟩
    | error d => rw [hr] at h1 h2; exact ⟨h1.1.trans h2.1.symm, h2.2.trans h1.2.symm⟩
  have HS8 : Hid (Calls Tryz.prog 11 #[Cm.v (⟨(⟨⟨pk, pn, ps⟩, pm, pl⟩, .slice pa pb pc), po, .slice pd po.length pe, pt, .slice pf pt.length pg⟩ : Cm), Cm.v (⟨(⟨⟨qk, qn, qs⟩, qm, ql⟩, .slice qa qb qc), qo, .slice qd qo.length qe, qt, .slice qf qt.length qg⟩ : Cm)] (w7.alloc (.cells #[.int .i64 qk, .int .i64 qn, .string qs, .string qm, .slice qa qb qc, .slice qd qo.length qe, .slice qf qt.length qg] 30)) fun e w' => e = .returned (.bool true) ∧ Below _ _ w') := HSC.out _ _ _ HP7.out HQ7.out he
  clear HMP HMQ he
  obtain ⟨z0, z1, z2, z3, z4, z5, z6⟩ := cseven HZ7.out
  obtain ⟨v0, v1, v2, v3, v4, v5, v6⟩ := cseven HV7.out
  go_wp2_with (first
    | (go_at_call 11; refine HS8.out.mono ?_; rintro e w8 ⟨rfl, hb⟩; have HB8 : Hid (Below W.heap.size W w8) := below_step HB7.out hb; have HU8 : Hid (LentB w8 w4.heap.size u5 B) := HU7.out.later hb; clear hb)
    | (go_at_call 12; refine (HKB.out _ _ _ HB8.out HU8.out).mono ?_; rintro e w9 ⟨rfl, hb⟩; have HB9 : Hid (Below W.heap.size W w9) := below_step HB8.out hb; clear hb)
    | (go_at_call 13; refine (HF.out _).mono ?_; rintro e w10 ⟨rfl, hb⟩; have HB10 : Hid (Below W.heap.size W w10) := below_step HB9.out hb; clear hb))
  go_ret
  exact ⟨rfl, HB10.out⟩
end Go.Proofs.YtjnipcakjoiplaaGreatDoor
/-
  Arguments opened: a term, a list of terms, an atom, a binding.
-/
namespace Go.Proofs.YtjnipcakjoiplaaGreatDoor
open Go.ChangeShapes Go.WideShapes Go.ChangeAt Go.RowKit Go.Joins
open Go.ChangeMaps (open_string shut_string)

theorem Tryz.own : ownKnob Tryz.prog.godebug = none := by kernel_rfl
theorem Tryz.laidOut : laidOutB Tryz.prog = true := by kernel_rfl
theorem Tryz.cellsTerm : Tryz.prog.cellsOf 23 = 3 := by kernel_rfl

end Go.Proofs.YtjnipcakjoiplaaGreatDoor
/-
  Arguments opened: a list of terms, an atom.
-/
namespace Go.Proofs.YtjnipcakjoiplaaGreatDoor
open Go.ChangeShapes Go.WideShapes Go.ChangeAt Go.RowKit Go.Joins Go.Deep

theorem Tryz.cellsAtom : Tryz.prog.cellsOf 26 = 5 := by kernel_rfl
theorem Tryz.cellsInt : Tryz.prog.cellsOf 3 = 1 := by kernel_rfl
theorem Tryz.cellsString : Tryz.prog.cellsOf 9 = 1 := by kernel_rfl
theorem Tryz.cellsTerms : Tryz.prog.cellsOf 24 = 1 := by kernel_rfl
theorem Tryz.bytesTerm : Tryz.prog.bytesOf 23 = 32 := by kernel_rfl
theorem list3 {α : Type} {l : List α} (h : l.length = 3) : ∃ a b c, l = [a, b, c] := by
  match l, h with
  | [a, b, c], _ => exact ⟨a, b, c, rfl⟩
theorem list5 {α : Type} {l : List α} (h : l.length = 5) : ∃ a b c d e, l = [a, b, c, d, e] := by
  match l, h with
  | [a, b, c, d, e], _ => exact ⟨a, b, c, d, e, rfl⟩
end Go.Proofs.YtjnipcakjoiplaaGreatDoor
/-
  Arguments opened: a clause.
-/
namespace Go.Proofs.YtjnipcakjoiplaaGreatDoor
open Go.ChangeShapes Go.WideShapes Go.ChangeAt Go.RowKit Go.Joins Go.Deep

theorem weights_mem_all {H : Type} {P : Program} {e : TypeId} {d : DataW H} {n : Nat} (hn : n ∈ d.weights P e) : ∀ {ds : List (DataW H)}, d ∈ ds → n ∈ DataW.weightsAll P e ds
  | x :: r, h => by
    rw [DataW.weightsAll, List.mem_append]
    rcases List.mem_cons.1 h with rfl | h
    · exact Or.inl hn
    · exact Or.inr (weights_mem_all hn h)
theorem Tryz.cellsTest3 : Tryz.prog.cellsOf 46 = 7 := by kernel_rfl
theorem Tryz.cellsClause : Tryz.prog.cellsOf 30 = 7 := by kernel_rfl
theorem Tryz.cellsAtoms : Tryz.prog.cellsOf 27 = 1 := by kernel_rfl
theorem Tryz.cellsTests : Tryz.prog.cellsOf 28 = 1 := by kernel_rfl
theorem Tryz.bytesAtom : Tryz.prog.bytesOf 26 = 72 := by kernel_rfl
theorem Tryz.bytesTest : Tryz.prog.bytesOf 46 = 72 := by kernel_rfl
theorem clist7 {α : Type} {l : List α} (h : l.length = 7) : ∃ a b c d e f g, l = [a, b, c, d, e, f, g] := by
  match l, h with
  | [a, b, c, d, e, f, g], _ => exact ⟨a, b, c, d, e, f, g, rfl⟩
end Go.Proofs.YtjnipcakjoiplaaGreatDoor
/-
  A clause opened, with its bulk and with the numbers of its terms. (Written by NB4.py, out of R2 and CL24.)
-/
namespace Go.Proofs.YtjnipcakjoiplaaGreatDoor
open Go.ChangeShapes Go.WideShapes Go.ChangeAt Go.RowKit Go.Joins Go.Deep

def WfT (t : Tm) : Prop := (Lit.int .i64 t.n).wf = true
theorem bulkN_pos {H : Type} (d : DataW H) : 1 ≤ Rows.uptoBulk d := by
  cases d with
  | lit l => cases l <;> simp [Rows.uptoBulk]
  | _ => simp [Rows.uptoBulk]
theorem bulkN_len {H : Type} (l : List (DataW H)) : l.length ≤ Rows.uptoBulkAll l := by
  induction l with
  | nil => simp
  | cons d r ih => have := bulkN_pos d; simp only [Rows.uptoBulkAll, List.length_cons]; omega
theorem bulkN_slice {H : Type} (l r : List (DataW H)) : l.length ≤ Rows.uptoBulk (.slice l r) := by
  have := bulkN_len l; simp only [Rows.uptoBulk]; omega
theorem bulkN_sum {H α : Type} (g : Nat → List α) (D : Nat → DataW H) : ∀ l : List Nat, (∀ i ∈ l, (g i).length ≤ Rows.uptoBulk (D i)) → (l.flatMap g).length ≤ Rows.uptoBulkAll (l.map D)
  | [], _ => by simp
  | i :: l, h => by
    have h1 := h i (by simp)
    have h2 := bulkN_sum g D l fun j hj => h j (by simp [hj])
    rw [List.flatMap_cons, List.length_append, List.map_cons]
    simp only [Rows.uptoBulkAll]
    omega
set_option maxRecDepth 100000 in
theorem term_of_cellsB {H : Type} {enc : TypeId × Value → H} {W : World} {base : Nat} {spare : Nat → Bool} {held : Bool} {fuel : Nat} {cs : List Value} {x : DataW H × List MemPlace}
    (h : DataW.trod enc Tryz.prog W base spare held fuel 23 cs = some x) (hl : cs.length = 3) : ∃ t : Tm, cs = [.int .i64 t.k, .int .i64 t.n, .string t.s] ∧ WfT t := by
  obtain ⟨c0, c1, c2, rfl⟩ := list3 hl
  obtain ⟨y0, y1, y2, n, -, -, h0, h1, h2⟩ := trod_struct3 Tryz.underlying23 h
  rw [Tryz.cellsInt] at h0 h1
  rw [Tryz.cellsString] at h2
  obtain ⟨k, e0, -, -⟩ := DataW.trod_int Tryz.underlying3 h0
  obtain ⟨m, e1, -, hwf⟩ := DataW.trod_int Tryz.underlying3 h1
  obtain ⟨s, e2, -, -⟩ := DataW.trod_string Tryz.underlying9 h2
  simp at e0 e1 e2
  subst e0 e1 e2
  exact ⟨⟨k, m, s⟩, rfl, hwf⟩
set_option maxRecDepth 100000 in
theorem test_of_cellsB {H : Type} {enc : TypeId × Value → H} {W : World} {base : Nat} {spare : Nat → Bool} {held : Bool} {fuel : Nat} {cs : List Value} {x : DataW H × List MemPlace}
    (hf : DataW.trod enc Tryz.prog W base spare held fuel 46 cs = some x) (hl : cs.length = 7) : ∃ t : Te, cs = [.int .i64 t.op, .int .i64 t.l.k, .int .i64 t.l.n, .string t.l.s, .int .i64 t.r.k, .int .i64 t.r.n, .string t.r.s] ∧ 2 ≤ Rows.uptoBulk x.1 ∧ WfT t.l ∧ WfT t.r := by
  obtain ⟨c0, c1, c2, c3, c4, c5, c6, rfl⟩ := clist7 hl
  obtain ⟨y0, y1, y2, n, hd, -, h0, h1, h2⟩ := trod_struct3 Tryz.underlying46 hf
  rw [Tryz.cellsInt] at h0
  rw [Tryz.cellsTerm] at h1 h2
  obtain ⟨k, e0, -, -⟩ := DataW.trod_int Tryz.underlying3 h0
  obtain ⟨t, e1, w1⟩ := term_of_cellsB h1 (by simp)
  obtain ⟨u, e2, w2⟩ := term_of_cellsB h2 (by simp)
  simp at e0 e1 e2
  subst e0
  obtain ⟨rfl, rfl, rfl⟩ := e1
  obtain ⟨rfl, rfl, rfl⟩ := e2
  refine ⟨⟨k, t, u⟩, rfl, ?_, w1, w2⟩
  rw [hd]
  have := bulkN_pos y1.1
  have := bulkN_pos y2.1
  simp only [Rows.uptoBulk, Rows.uptoBulkAll]
  omega
end Go.Proofs.YtjnipcakjoiplaaGreatDoor
