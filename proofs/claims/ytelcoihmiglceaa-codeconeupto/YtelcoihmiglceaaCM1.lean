/-
  CodecOne: the walk. (Written by CM1.py.)
-/
import Derived.Test.YtelcoihmiglceaaCM0
import Derived.Test.YtelcoihmiglceaaMD14
import Derived.Test.YtelcoihmiglceaaMP1
import Derived.Deep.RegionHeld3
namespace Go.Proofs.Ytelcoihmiglceaa
open Go.RowKit
attribute [local go_sem ↓] Go.wp_at_zero Go.wp_at_succ

theorem Bn.form9 {w : World} {v : Value} {l : List Int} (h : Bn w v l) : ∃ a n cap, v = .slice a n cap := by
  obtain ⟨a, cap, rfl, -⟩ := h
  exact ⟨_, _, _, rfl⟩
theorem ownT_n9 {X : World} {base n cap : Nat} {a : Option Addr} {l : List Tm} (h : OwnT X base (.slice a n cap) l) : n = l.length := ownT_n h
theorem ok_lens9 {X : World} {hd : At × Value} {b : List (At × Value)} {a a' : Option Addr} {n cap n' cap' : Nat} {t : List Te} (h : Cm.ok X ⟨hd, b, .slice a n cap, t, .slice a' n' cap'⟩) : n = b.length ∧ n' = t.length := by
  obtain ⟨_, _, e, -⟩ := h.b
  obtain ⟨_, _, e', -⟩ := h.t
  simp only [Value.slice.injEq] at e e'
  exact ⟨e.2.1, e'.2.1⟩
set_option maxRecDepth 20000 in
set_option maxHeartbeats 1500000 in
theorem codecOne_any (ca : Cm) (v : Value) (B : List Int) (W : World) (ha : ca.ok W) (hrg : Rng ca.key) (hb : Br W v B) (hlB : B.length ≤ 2000000) :
    Calls Try.prog 4 #[ca.v, v] W fun e w' => e = .returned (.bool true) ∧ Below W.heap.size W w' := by
  have hval := made_val nmP_ok ca.key
  have hrm := made_rng nmP_ok hrg
  have hMC : ∀ d : Cm, d.key = madeK ca.key → d.chk = 0 := fun d hd => made_chk nmP_ok hd
  have hae := mkA_err nmP_ok ca.head.1
  have har : ∀ t ∈ (mkA ca.head.1).pl, rng t := rng_mkA (hrg.a ca.key.1 (by simp))
  have HMD : Hid (∀ X : World, Below W.heap.size W X → Calls Try.prog 8 #[ca.v] X fun e w' => ∃ d : Cm, e = .returned d.v ∧ d.key = madeK ca.key ∧ d.ok w' ∧ Below X.heap.size X w') := fun X hX => (made_any ca X (ha.later hX)).mono (by rintro e w' ⟨d, rfl, hk, hm, hb⟩; exact ⟨d, rfl, hk, hm.ok8 (by rw [hk]; exact hval.ks), hb⟩)
  have HMA : Hid (∀ X : World, Below W.heap.size W X → Calls Try.prog 13 #[ca.head.1.v ca.head.2] X fun e w' => ∃ v', e = .returned ((mkA ca.head.1).v v') ∧ Ts w' v' (mkA ca.head.1).args ∧ Below X.heap.size X w') := fun X hX => (madeAtom_any _ _ X (ha.h.later hX)).mono (by rintro e w' ⟨v', rfl, ho, hb⟩; exact ⟨v', rfl, ho.tsP.ts (by have := (fit_of hae).len; omega), hb⟩)
  have HRD : Hid (∀ X u, Bh X u (cB (madeK ca.key)) → Calls Try.prog 10 #[u] X fun e w' => ∃ d : Cm, e = .returned (.tuple #[d.v, .int .i64 0]) ∧ d.key = madeK ca.key ∧ d.ok w' ∧ Below X.heap.size X w') := fun X u hu => (readClause_any u _ X hu).mono (by
    have hw : rWhole rClause (cB (madeK ca.key)) = .ok (madeK ca.key) := by
      have := rWhole_cB (c := kC (madeK ca.key)) (hMC _ (kC_key _)) (by rw [kC_key]; exact hrm)
      rwa [kC_key] at this
    rw [hw]
    rintro e w' ⟨hb, d, er, rfl, hm, hg, hk, rfl⟩
    exact ⟨d, rfl, hk, hm.ok hg, hb⟩)
  have HCW : Hid (∀ (X : World) (d : Cm), d.key = madeK ca.key → d.ok X → Calls Try.prog 9 #[d.v] X fun e w' => ∃ v, e = .returned (.tuple #[v, .int .i64 0]) ∧ Br w' v (cB (madeK ca.key)) ∧ Below X.heap.size X w') := fun X d hk ho => (clauseW_any d X ho ⟨fun t ht hv => by
      rw [key_terms, hk] at ht
      exact rng_wf hrm t ht, by rw [key_terms, hk]; have := val_terms hval; omega⟩).mono (by
    rintro e w' ⟨v, rfl, hn, hb⟩
    have h0 := hMC d hk
    have hby := cB_byt9 h0
    rw [h0]
    unfold bCl at hn
    rw [if_pos h0, hk] at hn
    rw [hk] at hby
    exact ⟨v, rfl, hn.br hby (cB_ne _), hb⟩)
  have hSl : (cB (madeK ca.key)).length ≤ 2000000 := by
    have := cB_len (c := kC (madeK ca.key)) (hMC _ (kC_key _))
    rw [kC_key] at this; omega
  have HSL : Hid ((cB (madeK ca.key)).length ≤ 2000000) := hSl
  generalize madeK ca.key = KM at HMD HRD HCW HSL
  generalize cB KM = S at HRD HCW HSL
  have HAW : Hid (∀ (X : World) (y : Value), Ts X y (mkA ca.head.1).args → Calls Try.prog 14 #[(mkA ca.head.1).v y] X fun e w' => ∃ v, e = .returned (.tuple #[v, .int .i64 0]) ∧ Br w' v (aB (mkA ca.head.1)) ∧ Below X.heap.size X w') := fun X y hy => (atomW_ok _ y X hy hae).mono (by rintro e w' ⟨v, rfl, ho, hb⟩; exact ⟨v, rfl, (ho.bn (by have := aB_len8 (fit_of hae); omega)).br (aB_byt9 (fit_of hae)) (aB_ne _), hb⟩)
  have HRA : Hid (∀ (X : World) (u : Value), Bh X u (aB (mkA ca.head.1)) → Calls Try.prog 15 #[u] X fun e w' => ∃ y, e = .returned (.tuple #[(mkA ca.head.1).v y, .int .i64 0]) ∧ Ts w' y (mkA ca.head.1).args ∧ Below X.heap.size X w') := fun X u hu => (readAtom_any u _ X hu).mono (by
    rw [rWhole_aB hae har]
    rintro e w' ⟨hb, a, y, c, rfl, ho, rfl, rfl⟩
    exact ⟨y, rfl, ho.tsP.ts (by have := (fit_of hae).len; omega), hb⟩)
  have HSA : Hid (∀ (X : World) (y z : Value), Ts X y (mkA ca.head.1).args → Ts X z (mkA ca.head.1).args → Calls Try.prog 16 #[(mkA ca.head.1).v y, (mkA ca.head.1).v z] X fun e w' => e = .returned (.bool true) ∧ Below X.heap.size X w') := fun X y z h1 h2 => by
    have := sameAtom_any (mkA ca.head.1) (mkA ca.head.1) y z X h1 h2
    rwa [decide_eq_true rfl] at this
  have HTL : Hid ((aB (mkA ca.head.1)).length ≤ 2000000) := by have := aB_len8 (fit_of hae); show _ ≤ _; omega
  generalize mkA ca.head.1 = A at HMA HAW HRA HSA HTL
  generalize aB A = T at HAW HRA HTL
  have HLB : Hid (∀ (X : World) (u : Value) (l : List Int), Br X u l → l.length ≤ 2000000 → Calls Try.prog 11 #[u] X fun e w' => ∃ u', e = .returned u' ∧ Bh w' u' l ∧ Below X.heap.size X w') := fun X u l hu hl => (lendB_any u l X hu hl).mono (by rintro e w' ⟨u', rfl, h1, h2⟩; exact ⟨u', rfl, h1.bh hu.1 (by omega), h2⟩)
  have HSC : Hid (∀ (X : World) (c d : Cm), c.ok X → d.ok X → c.key = d.key → Calls Try.prog 12 #[c.v, d.v] X fun e w' => e = .returned (.bool true) ∧ Below X.heap.size X w') := fun X c d h1 h2 h3 => by
    have := sameC_any c d X h1 h2
    rwa [same_key, decide_eq_true h3] at this
  have HV : Hid (Br W v B) := hb
  have HLBB : Hid (B.length ≤ 2000000) := hlB
  obtain ⟨av, acap, rfl⟩ : ∃ a cap, v = .slice a B.length cap := by obtain ⟨-, a, cap, e, -⟩ := hb; exact ⟨a, cap, e⟩
  have HX0 : Hid (CBlk (W.alloc (.cells ca.cs 38)) W.heap.size ca.cs 38) := CBlk.new _ _ _
  obtain ⟨⟨u1, u2, u3, tz1⟩, ⟨u4, u6, tz2⟩, ⟨u7, u9, tz3⟩, -, -⟩ := (ha).shape
  obtain ⟨u5, tz4⟩ : ∃ n, n = ca.body.length := ⟨_, rfl⟩
  obtain ⟨u8, tz5⟩ : ∃ n, n = ca.tests.length := ⟨_, rfl⟩
  rw [← tz4] at tz2
  rw [← tz5] at tz3
  obtain ⟨⟨⟨⟨uk, un, us⟩, um, ua⟩, uv⟩, ub, ubv, ut, utv⟩ := ca
  simp only at tz1 tz2 tz3
  subst tz1 tz2 tz3
  clear tz4 tz5
  clear ha hrg hb hlB hval hrm hMC hae har hSl
  go_enter Try.func4, Try.ntmps4
  go_upto_region 2 with (go_at_call 8; refine (HMD.out _ (below1 _ _)).mono ?_; clear HMD; rintro e w1 ⟨d, rfl, hdk, hdo, hb⟩; obtain ⟨⟨d1, d2, d3, tz1⟩, ⟨d4, d6, tz2⟩, ⟨d7, d9, tz3⟩, -, -⟩ := (hdo).shape; obtain ⟨d5, tz4⟩ : ∃ n, n = d.body.length := ⟨_, rfl⟩; obtain ⟨d8, tz5⟩ : ∃ n, n = d.tests.length := ⟨_, rfl⟩; rw [← tz4] at tz2; rw [← tz5] at tz3; obtain ⟨⟨⟨⟨dk, dn, ds⟩, dm, da⟩, dv⟩, db, dbv, dt, dtv⟩ := d; simp only at tz1 tz2 tz3; subst tz1 tz2 tz3; clear tz4 tz5; have HDK : Hid (Cm.key (⟨(⟨⟨dk, dn, ds⟩, dm, da⟩, .slice d1 d2 d3), db, .slice d4 d5 d6, dt, .slice d7 d8 d9⟩ : Cm) = KM) := hdk; have HD1 : Hid (Bx (w1.alloc (.cells #[.int .i64 dk, .int .i64 dn, .string ds, .string dm, .slice d1 d2 d3, .slice d4 d5 d6, .slice d7 d8 d9] 38)) w1.heap.size (⟨(⟨⟨dk, dn, ds⟩, dm, da⟩, .slice d1 d2 d3), db, .slice d4 d5 d6, dt, .slice d7 d8 d9⟩ : Cm)) := Bx.new hdo; have HX1 : Hid (CBlk (w1.alloc (.cells #[.int .i64 dk, .int .i64 dn, .string ds, .string dm, .slice d1 d2 d3, .slice d4 d5 d6, .slice d7 d8 d9] 38)) W.heap.size #[.int .i64 uk, .int .i64 un, .string us, .string um, .slice u1 u2 u3, .slice u4 u5 u6, .slice u7 u8 u9] 38) := (HX0.out.later hb).later (below1 _ _); have HW1 : Hid (Below W.heap.size W (w1.alloc (.cells #[.int .i64 dk, .int .i64 dn, .string ds, .string dm, .slice d1 d2 d3, .slice d4 d5 d6, .slice d7 d8 d9] 38))) := below_step (below_step (below1 _ _) hb) (below1 _ _); clear hb hdo hdk)
  revert HD1 HX1 HW1
  generalize (w1.alloc (.cells #[.int .i64 dk, .int .i64 dn, .string ds, .string dm, .slice d1 d2 d3, .slice d4 d5 d6, .slice d7 d8 d9] 38)) = X1
  generalize w1.heap.size = G1
  intro HD1 HX1 HW1
  obtain ⟨c0, c1, c2, c3, c4, c5, c6⟩ := cseven HD1.out.b
  go_upto_region 4 with (first
    | (go_at_call 9; refine (HCW.out _ (⟨(⟨⟨dk, dn, ds⟩, dm, da⟩, .slice d1 d2 d3), db, .slice d4 d5 d6, dt, .slice d7 d8 d9⟩ : Cm) HDK.out HD1.out.o).mono ?_; clear HCW; rintro e w2 ⟨v2, rfl, hn, hb⟩; have HN2 : Hid (Br w2 v2 S) := hn; have HD2 : Hid (Bx w2 G1 (⟨(⟨⟨dk, dn, ds⟩, dm, da⟩, .slice d1 d2 d3), db, .slice d4 d5 d6, dt, .slice d7 d8 d9⟩ : Cm)) := HD1.out.later hb; have HX2 : Hid (CBlk w2 W.heap.size #[.int .i64 uk, .int .i64 un, .string us, .string um, .slice u1 u2 u3, .slice u4 u5 u6, .slice u7 u8 u9] 38) := HX1.out.later hb; have HW2 : Hid (Below W.heap.size W w2) := below_step HW1.out hb; clear hn hb HD1 HX1 HW1 c0 c1 c2 c3 c4 c5 c6)
    | (go_at_call 11; refine (HLB.out _ _ S HN2.out HSL.out).mono ?_; rintro e w3 ⟨bz3, rfl, hu, hb⟩; have HU3 : Hid (Bh w3 bz3 S) := hu; have HD3 : Hid (Bx w3 G1 (⟨(⟨⟨dk, dn, ds⟩, dm, da⟩, .slice d1 d2 d3), db, .slice d4 d5 d6, dt, .slice d7 d8 d9⟩ : Cm)) := HD2.out.later hb; have HX3 : Hid (CBlk w3 W.heap.size #[.int .i64 uk, .int .i64 un, .string us, .string um, .slice u1 u2 u3, .slice u4 u5 u6, .slice u7 u8 u9] 38) := HX2.out.later hb; have HW3 : Hid (Below W.heap.size W w3) := below_step HW2.out hb; clear hu hb HD2 HX2 HW2 HN2)
    | (go_at_call 10; refine (HRD.out _ _ HU3.out).mono ?_; clear HRD; rintro e w4 ⟨qq, rfl, hqk, hqo, hb⟩; obtain ⟨⟨q1, q2, q3, tz1⟩, ⟨q4, q6, tz2⟩, ⟨q7, q9, tz3⟩, -, -⟩ := (hqo).shape; obtain ⟨q5, tz4⟩ : ∃ n, n = qq.body.length := ⟨_, rfl⟩; obtain ⟨q8, tz5⟩ : ∃ n, n = qq.tests.length := ⟨_, rfl⟩; rw [← tz4] at tz2; rw [← tz5] at tz3; obtain ⟨⟨⟨⟨qk, qn, qs⟩, qm, qa⟩, qv⟩, qb, qbv, qt, qtv⟩ := qq; simp only at tz1 tz2 tz3; subst tz1 tz2 tz3; clear tz4 tz5; have HQK : Hid (Cm.key (⟨(⟨⟨qk, qn, qs⟩, qm, qa⟩, .slice q1 q2 q3), qb, .slice q4 q5 q6, qt, .slice q7 q8 q9⟩ : Cm) = KM) := hqk; have HQ4 : Hid (Bx (w4.alloc (.cells #[.int .i64 qk, .int .i64 qn, .string qs, .string qm, .slice q1 q2 q3, .slice q4 q5 q6, .slice q7 q8 q9] 38)) w4.heap.size (⟨(⟨⟨qk, qn, qs⟩, qm, qa⟩, .slice q1 q2 q3), qb, .slice q4 q5 q6, qt, .slice q7 q8 q9⟩ : Cm)) := Bx.new hqo; have HD4 : Hid (Bx (w4.alloc (.cells #[.int .i64 qk, .int .i64 qn, .string qs, .string qm, .slice q1 q2 q3, .slice q4 q5 q6, .slice q7 q8 q9] 38)) G1 (⟨(⟨⟨dk, dn, ds⟩, dm, da⟩, .slice d1 d2 d3), db, .slice d4 d5 d6, dt, .slice d7 d8 d9⟩ : Cm)) := (HD3.out.later hb).later (below1 _ _); have HX4 : Hid (CBlk (w4.alloc (.cells #[.int .i64 qk, .int .i64 qn, .string qs, .string qm, .slice q1 q2 q3, .slice q4 q5 q6, .slice q7 q8 q9] 38)) W.heap.size #[.int .i64 uk, .int .i64 un, .string us, .string um, .slice u1 u2 u3, .slice u4 u5 u6, .slice u7 u8 u9] 38) := (HX3.out.later hb).later (below1 _ _); have HG2 : Hid (W.heap.size ≤ w4.heap.size) := Nat.le_trans HW3.out.size hb.size; have HW4 : Hid (Below W.heap.size W (w4.alloc (.cells #[.int .i64 qk, .int .i64 qn, .string qs, .string qm, .slice q1 q2 q3, .slice q4 q5 q6, .slice q7 q8 q9] 38))) := below_step (below_step HW3.out hb) (below1 _ _); clear hqk hqo hb HD3 HX3 HW3 HU3))
  revert HQ4 HD4 HX4 HW4 HG2
  generalize (w4.alloc (.cells #[.int .i64 qk, .int .i64 qn, .string qs, .string qm, .slice q1 q2 q3, .slice q4 q5 q6, .slice q7 q8 q9] 38)) = X4
  generalize w4.heap.size = G2
  intro HQ4 HD4 HX4 HG2 HW4
  obtain ⟨c0, c1, c2, c3, c4, c5, c6⟩ := cseven HD4.out.b
  obtain ⟨e0, e1, e2, e3, e4, e5, e6⟩ := cseven HQ4.out.b
  go_upto_region 6 with (go_at_call 12; refine (HSC.out _ (⟨(⟨⟨dk, dn, ds⟩, dm, da⟩, .slice d1 d2 d3), db, .slice d4 d5 d6, dt, .slice d7 d8 d9⟩ : Cm) (⟨(⟨⟨qk, qn, qs⟩, qm, qa⟩, .slice q1 q2 q3), qb, .slice q4 q5 q6, qt, .slice q7 q8 q9⟩ : Cm) HD4.out.o HQ4.out.o (HDK.out.trans HQK.out.symm)).mono ?_; rintro e w5 ⟨rfl, hb⟩; have HQ5 : Hid (CBlk w5 G2 #[.int .i64 qk, .int .i64 qn, .string qs, .string qm, .slice q1 q2 q3, .slice q4 q5 q6, .slice q7 q8 q9] 38) := HQ4.out.b.later hb; have HX5 : Hid (CBlk w5 W.heap.size #[.int .i64 uk, .int .i64 un, .string us, .string um, .slice u1 u2 u3, .slice u4 u5 u6, .slice u7 u8 u9] 38) := HX4.out.later hb; have HW5 : Hid (Below W.heap.size W w5) := below_step HW4.out hb; clear hb HQ4 HD4 HX4 HW4 HDK HQK c0 c1 c2 c3 c4 c5 c6 e0 e1 e2 e3 e4 e5 e6)
  obtain ⟨⟨jk, jn, js⟩, jm, ja⟩ := A
  simp only at HMA HAW HRA HSA
  obtain ⟨c0, c1, c2, c3, c4, c5, c6⟩ := cseven HX5.out
  go_upto_region 7 with (go_at_call 13; refine (HMA.out _ HW5.out).mono ?_; clear HMA; rintro e w6 ⟨v6, rfl, ht, hb⟩; obtain ⟨j1, j3, ej, -⟩ := id ht; obtain ⟨j2, hj2⟩ : ∃ n, n = ja.length := ⟨_, rfl⟩; rw [← hj2] at ej; subst ej; have HJ6 : Hid (CBlk (w6.alloc (.cells #[.int .i64 jk, .int .i64 jn, .string js, .string jm, .slice j1 j2 j3] 34)) w6.heap.size #[.int .i64 jk, .int .i64 jn, .string js, .string jm, .slice j1 j2 j3] 34) := CBlk.new _ _ _; have HJT6 : Hid (Ts (w6.alloc (.cells #[.int .i64 jk, .int .i64 jn, .string js, .string jm, .slice j1 j2 j3] 34)) (.slice j1 j2 j3) ja) := ht.later (below1 _ _); have HQ6 : Hid (CBlk (w6.alloc (.cells #[.int .i64 jk, .int .i64 jn, .string js, .string jm, .slice j1 j2 j3] 34)) G2 #[.int .i64 qk, .int .i64 qn, .string qs, .string qm, .slice q1 q2 q3, .slice q4 q5 q6, .slice q7 q8 q9] 38) := (HQ5.out.later hb).later (below1 _ _); have HW6 : Hid (Below W.heap.size W (w6.alloc (.cells #[.int .i64 jk, .int .i64 jn, .string js, .string jm, .slice j1 j2 j3] 34))) := below_step (below_step HW5.out hb) (below1 _ _); clear hb ht hj2 HX5 HQ5 HW5 c0 c1 c2 c3 c4 c5 c6)
  revert HJ6 HJT6 HQ6 HW6
  generalize (w6.alloc (.cells #[.int .i64 jk, .int .i64 jn, .string js, .string jm, .slice j1 j2 j3] 34)) = X6
  generalize w6.heap.size = G3
  intro HJ6 HJT6 HQ6 HW6
  obtain ⟨c0, c1, c2, c3, c4⟩ := five HJ6.out
  go_upto_region 9 with (first
    | (go_at_call 14; refine (HAW.out _ _ HJT6.out).mono ?_; clear HAW; rintro e w7 ⟨v7, rfl, hn, hb⟩; have HN7 : Hid (Br w7 v7 T) := hn; have HJ7 : Hid (CBlk w7 G3 #[.int .i64 jk, .int .i64 jn, .string js, .string jm, .slice j1 j2 j3] 34) := HJ6.out.later hb; have HJT7 : Hid (Ts w7 (.slice j1 j2 j3) ja) := HJT6.out.later hb; have HQ7 : Hid (CBlk w7 G2 #[.int .i64 qk, .int .i64 qn, .string qs, .string qm, .slice q1 q2 q3, .slice q4 q5 q6, .slice q7 q8 q9] 38) := HQ6.out.later hb; have HW7 : Hid (Below W.heap.size W w7) := below_step HW6.out hb; clear hn hb HJ6 HJT6 HQ6 HW6 c0 c1 c2 c3 c4)
    | (go_at_call 11; refine (HLB.out _ _ T HN7.out HTL.out).mono ?_; rintro e w8 ⟨bz8, rfl, hu, hb⟩; have HU8 : Hid (Bh w8 bz8 T) := hu; have HJ8 : Hid (CBlk w8 G3 #[.int .i64 jk, .int .i64 jn, .string js, .string jm, .slice j1 j2 j3] 34) := HJ7.out.later hb; have HJT8 : Hid (Ts w8 (.slice j1 j2 j3) ja) := HJT7.out.later hb; have HQ8 : Hid (CBlk w8 G2 #[.int .i64 qk, .int .i64 qn, .string qs, .string qm, .slice q1 q2 q3, .slice q4 q5 q6, .slice q7 q8 q9] 38) := HQ7.out.later hb; have HW8 : Hid (Below W.heap.size W w8) := below_step HW7.out hb; clear hu hb HJ7 HJT7 HQ7 HW7 HN7)
    | (go_at_call 15; refine (HRA.out _ _ HU8.out).mono ?_; clear HRA; rintro e w9 ⟨v9, rfl, ht, hb⟩; obtain ⟨z1, z3, ez, -⟩ := id ht; obtain ⟨z2, hz2⟩ : ∃ n, n = ja.length := ⟨_, rfl⟩; rw [← hz2] at ez; subst ez; have HZ9 : Hid (CBlk (w9.alloc (.cells #[.int .i64 jk, .int .i64 jn, .string js, .string jm, .slice z1 z2 z3] 34)) w9.heap.size #[.int .i64 jk, .int .i64 jn, .string js, .string jm, .slice z1 z2 z3] 34) := CBlk.new _ _ _; have HZT9 : Hid (Ts (w9.alloc (.cells #[.int .i64 jk, .int .i64 jn, .string js, .string jm, .slice z1 z2 z3] 34)) (.slice z1 z2 z3) ja) := ht.later (below1 _ _); have HJ9 : Hid (CBlk (w9.alloc (.cells #[.int .i64 jk, .int .i64 jn, .string js, .string jm, .slice z1 z2 z3] 34)) G3 #[.int .i64 jk, .int .i64 jn, .string js, .string jm, .slice j1 j2 j3] 34) := (HJ8.out.later hb).later (below1 _ _); have HJT9 : Hid (Ts (w9.alloc (.cells #[.int .i64 jk, .int .i64 jn, .string js, .string jm, .slice z1 z2 z3] 34)) (.slice j1 j2 j3) ja) := (HJT8.out.later hb).later (below1 _ _); have HQ9 : Hid (CBlk (w9.alloc (.cells #[.int .i64 jk, .int .i64 jn, .string js, .string jm, .slice z1 z2 z3] 34)) G2 #[.int .i64 qk, .int .i64 qn, .string qs, .string qm, .slice q1 q2 q3, .slice q4 q5 q6, .slice q7 q8 q9] 38) := (HQ8.out.later hb).later (below1 _ _); have HG4 : Hid (W.heap.size ≤ w9.heap.size ∧ w9.heap.size ≠ G2) := ⟨Nat.le_trans HW8.out.size hb.size, fun e => by have h1 := (HQ8.out.later hb).lt; omega⟩; have HW9 : Hid (Below W.heap.size W (w9.alloc (.cells #[.int .i64 jk, .int .i64 jn, .string js, .string jm, .slice z1 z2 z3] 34))) := below_step (below_step HW8.out hb) (below1 _ _); clear hb ht hz2 HJ8 HJT8 HQ8 HW8 HU8))
  revert HZ9 HZT9 HJ9 HJT9 HQ9 HG4 HW9
  generalize (w9.alloc (.cells #[.int .i64 jk, .int .i64 jn, .string js, .string jm, .slice z1 z2 z3] 34)) = X9
  generalize w9.heap.size = G4
  intro HZ9 HZT9 HJ9 HJT9 HQ9 HG4' HW9
  have HG4 : Hid (W.heap.size ≤ G4) := HG4'.out.1
  obtain ⟨c0, c1, c2, c3, c4⟩ := five HJ9.out
  obtain ⟨e0, e1, e2, e3, e4⟩ := five HZ9.out
  go_upto_region 11 with (go_at_call 16; refine (HSA.out _ _ _ HJT9.out HZT9.out).mono ?_; clear HSA; rintro e w10 ⟨rfl, hb⟩; have HZ10 : Hid (CBlk w10 G4 #[.int .i64 jk, .int .i64 jn, .string js, .string jm, .slice z1 z2 z3] 34) := HZ9.out.later hb; have HQ10 : Hid (CBlk w10 G2 #[.int .i64 qk, .int .i64 qn, .string qs, .string qm, .slice q1 q2 q3, .slice q4 q5 q6, .slice q7 q8 q9] 38) := HQ9.out.later hb; have HW10 : Hid (Below W.heap.size W w10) := below_step HW9.out hb; clear hb HZ9 HZT9 HJ9 HJT9 HQ9 HW9 c0 c1 c2 c3 c4 e0 e1 e2 e3 e4)
  have HRA2 : Hid (True) := trivial
  rcases hcl : rWhole rClause B with k1 | K1
  · have hnz := nz_whole nz_clause hcl
    have HBR : Hid (∀ (X : World) (u : Value), Bh X u B → Calls Try.prog 10 #[u] X fun e w' => ∃ d : Cm, e = .returned (.tuple #[d.v, .int .i64 k1]) ∧ d.key = c0.key ∧ MC8 X.heap.size w' d ∧ GC d.key ∧ Below X.heap.size X w') := fun X u hu => (readClause_any u B X hu).mono (by rw [hcl]; rintro e w' ⟨hb, d, er, rfl, hm, hg, hk, rfl⟩; exact ⟨d, rfl, hk, hm, hg, hb⟩)
    have hne : (k1 == 0) = false := by simpa using hnz
    have HCK : Hid True := trivial
    have HMR : Hid True := trivial
    clear hcl hnz
    go_upto_region 12 with (first
      | (go_at_call 11; refine (HLB.out _ _ B (HV.out.later HW10.out) HLBB.out).mono ?_; rintro e wl ⟨ul, rfl, hu, hb⟩; have HUl : Hid (Bh wl ul B) := hu; have HZl : Hid (CBlk wl G4 #[.int .i64 jk, .int .i64 jn, .string js, .string jm, .slice z1 z2 z3] 34) := HZ10.out.later hb; have HQl : Hid (CBlk wl G2 #[.int .i64 qk, .int .i64 qn, .string qs, .string qm, .slice q1 q2 q3, .slice q4 q5 q6, .slice q7 q8 q9] 38) := HQ10.out.later hb; have HWl : Hid (Below W.heap.size W wl) := below_step HW10.out hb; clear hu hb)
      | (go_at_call 10; refine (HBR.out _ _ HUl.out).mono ?_; rintro e w11 ⟨rr, rfl, hrk, hmc, hgc, hb⟩; obtain ⟨⟨r1, r2, r3, tz1⟩, ⟨r4, r6, tz2⟩, ⟨r7, r9, tz3⟩, -, -⟩ := ((hmc.ok hgc)).shape; obtain ⟨r5, tz4⟩ : ∃ n, n = rr.body.length := ⟨_, rfl⟩; obtain ⟨r8, tz5⟩ : ∃ n, n = rr.tests.length := ⟨_, rfl⟩; rw [← tz4] at tz2; rw [← tz5] at tz3; obtain ⟨⟨⟨⟨rk, rn, rs⟩, rm, ra⟩, rv⟩, rb, rbv, rt, rtv⟩ := rr; simp only at tz1 tz2 tz3; subst tz1 tz2 tz3; clear tz4 tz5; have HRK : Hid (Cm.key (⟨(⟨⟨rk, rn, rs⟩, rm, ra⟩, .slice r1 r2 r3), rb, .slice r4 r5 r6, rt, .slice r7 r8 r9⟩ : Cm) = _) := hrk; have HMC : Hid (MC8 wl.heap.size w11 (⟨(⟨⟨rk, rn, rs⟩, rm, ra⟩, .slice r1 r2 r3), rb, .slice r4 r5 r6, rt, .slice r7 r8 r9⟩ : Cm)) := hmc; have HGC : Hid (GC (Cm.key (⟨(⟨⟨rk, rn, rs⟩, rm, ra⟩, .slice r1 r2 r3), rb, .slice r4 r5 r6, rt, .slice r7 r8 r9⟩ : Cm))) := hgc; have HZ11 : Hid (CBlk w11 G4 #[.int .i64 jk, .int .i64 jn, .string js, .string jm, .slice z1 z2 z3] 34) := HZl.out.later hb; have HQ11 : Hid (CBlk w11 G2 #[.int .i64 qk, .int .i64 qn, .string qs, .string qm, .slice q1 q2 q3, .slice q4 q5 q6, .slice q7 q8 q9] 38) := HQl.out.later hb; have HLT : Hid (G2 < wl.heap.size) := HQl.out.lt; have HW11 : Hid (Below W.heap.size W w11) := below_step HWl.out hb; obtain ⟨c0, c1, c2, c3, c4, c5, c6⟩ := cseven HQ11.out; have f0 : w11.frozen? ⟨G2, 0, none⟩ = false := HQ11.out.froz; have f1 : w11.frozen? ⟨G2, 1, none⟩ = false := HQ11.out.froz; have f2 : w11.frozen? ⟨G2, 2, none⟩ = false := HQ11.out.froz; have f3 : w11.frozen? ⟨G2, 3, none⟩ = false := HQ11.out.froz; have f4 : w11.frozen? ⟨G2, 4, none⟩ = false := HQ11.out.froz; have f5 : w11.frozen? ⟨G2, 5, none⟩ = false := HQ11.out.froz; have f6 : w11.frozen? ⟨G2, 6, none⟩ = false := HQ11.out.froz; clear hrk hmc hgc hb))
    clear c0 c1 c2 c3 c4 c5 c6 f0 f1 f2 f3 f4 f5 f6
    have HR : Hid (Bx (((((((w11.setCell ⟨G2, 0, none⟩ (.int .i64 rk)).setCell ⟨G2, 1, none⟩ (.int .i64 rn)).setCell ⟨G2, 2, none⟩ (.string rs)).setCell ⟨G2, 3, none⟩ (.string rm)).setCell ⟨G2, 4, none⟩ (.slice r1 r2 r3)).setCell ⟨G2, 5, none⟩ (.slice r4 r5 r6)).setCell ⟨G2, 6, none⟩ (.slice r7 r8 r9)) G2 (⟨(⟨⟨rk, rn, rs⟩, rm, ra⟩, .slice r1 r2 r3), rb, .slice r4 r5 r6, rt, .slice r7 r8 r9⟩ : Cm)) := ⟨HQ11.out.put7g _ _ _ _ _ _ _, (HMC.out.put7 HLT.out _ _ _ _ _ _ _).ok HGC.out⟩
    have HZ12 : Hid (CBlk (((((((w11.setCell ⟨G2, 0, none⟩ (.int .i64 rk)).setCell ⟨G2, 1, none⟩ (.int .i64 rn)).setCell ⟨G2, 2, none⟩ (.string rs)).setCell ⟨G2, 3, none⟩ (.string rm)).setCell ⟨G2, 4, none⟩ (.slice r1 r2 r3)).setCell ⟨G2, 5, none⟩ (.slice r4 r5 r6)).setCell ⟨G2, 6, none⟩ (.slice r7 r8 r9)) G4 #[.int .i64 jk, .int .i64 jn, .string js, .string jm, .slice z1 z2 z3] 34) := HZ11.out.far7 HG4'.out.2 _ _ _ _ _ _ _
    have HW12 : Hid (Below W.heap.size W (((((((w11.setCell ⟨G2, 0, none⟩ (.int .i64 rk)).setCell ⟨G2, 1, none⟩ (.int .i64 rn)).setCell ⟨G2, 2, none⟩ (.string rs)).setCell ⟨G2, 3, none⟩ (.string rm)).setCell ⟨G2, 4, none⟩ (.slice r1 r2 r3)).setCell ⟨G2, 5, none⟩ (.slice r4 r5 r6)).setCell ⟨G2, 6, none⟩ (.slice r7 r8 r9))) := bput7 HW11.out HG2.out _ _ _ _ _ _ _
    clear HUl HZl HQl HWl HMC HZ11 HQ11 HLT HW11 HQ10 HZ10 HW10
    revert HR HZ12 HW12
    generalize (((((((w11.setCell ⟨G2, 0, none⟩ (.int .i64 rk)).setCell ⟨G2, 1, none⟩ (.int .i64 rn)).setCell ⟨G2, 2, none⟩ (.string rs)).setCell ⟨G2, 3, none⟩ (.string rm)).setCell ⟨G2, 4, none⟩ (.slice r1 r2 r3)).setCell ⟨G2, 5, none⟩ (.slice r4 r5 r6)).setCell ⟨G2, 6, none⟩ (.slice r7 r8 r9)) = X12
    intro HR HZ12 HW12
    have hz := ok_lens9 HR.out.o
    have z1 : rm.toList = [] := by rw [show rm = ⟨#[]⟩ from congrArg (fun k : Ck => k.1.name) HRK.out]; exact emptyL9
    have z2 : rm.toList.isEmpty = true := by rw [z1]; rfl
    have k2' : fsts rb = [] := congrArg (fun k : Ck => k.2.1) HRK.out
    have k3' : rt = [] := congrArg (fun k : Ck => k.2.2) HRK.out
    have n5 : ¬ ((0 : Int) < (r5 : Int)) := by have e := congrArg List.length k2'; have := hz.1; simp [fsts] at e; subst e; simp at this; omega
    have n8 : ¬ ((0 : Int) < (r8 : Int)) := by have := hz.2; rw [k3'] at this; simp at this; omega
    clear hz k2' k3'
    obtain ⟨c0, c1, c2, c3, c4, c5, c6⟩ := cseven HR.out.b
    go_upto_region 18 with fail
    clear c0 c1 c2 c3 c4 c5 c6 z1 z2
    clear HBR HCK HMR
    rcases hza : rWhole rAtom B with k2 | K2
    · have hnz := nz_whole nz_atom hza
      have HRZ : Hid (∀ (X : World) (u : Value), Bh X u B → Calls Try.prog 15 #[u] X fun e w' => ∃ y, e = .returned (.tuple #[At.v a0 y, .int .i64 k2]) ∧ OwnT w' X.heap.size y a0.args ∧ Below X.heap.size X w') := fun X u hu => (readAtom_any u B X hu).mono (by rw [hza]; rintro e w' ⟨hb, a, y, c, rfl, ho, rfl, rfl⟩; exact ⟨y, rfl, ho, hb⟩)
      have hne : (k2 == 0) = false := by simpa using hnz
      clear hza hnz HRA2
      obtain ⟨⟨⟨tk, tn, ts⟩, tm, ta⟩, hta⟩ : ∃ a, a0 = a := ⟨_, rfl⟩
      rw [hta] at HRZ
      simp only at HRZ
      go_upto_region 19 with (first
        | (go_at_call 11; refine (HLB.out _ _ B (HV.out.later HW12.out) HLBB.out).mono ?_; rintro e w14 ⟨u14, rfl, hu, hb⟩; have HU14 : Hid (Bh w14 u14 B) := hu; have HZ14 : Hid (CBlk w14 G4 #[.int .i64 jk, .int .i64 jn, .string js, .string jm, .slice z1 z2 z3] 34) := HZ12.out.later hb; have HW14 : Hid (Below W.heap.size W w14) := below_step HW12.out hb; clear hu hb)
        | (go_at_call 15; refine (HRZ.out _ _ HU14.out).mono ?_; rintro e w15 ⟨y15, rfl, ho15, hb⟩; obtain ⟨t1, t2, t3, rfl⟩ := ownT_form8 ho15; have HO15 : Hid (OwnT w15 w14.heap.size (.slice t1 t2 t3) ta) := ho15; have HZ15 : Hid (CBlk w15 G4 #[.int .i64 jk, .int .i64 jn, .string js, .string jm, .slice z1 z2 z3] 34) := HZ14.out.later hb; have HLT : Hid (G4 < w14.heap.size) := HZ14.out.lt; have HW15 : Hid (Below W.heap.size W w15) := below_step HW14.out hb; obtain ⟨c0, c1, c2, c3, c4⟩ := five HZ15.out; have f0 : w15.frozen? ⟨G4, 0, none⟩ = false := HZ15.out.froz; have f1 : w15.frozen? ⟨G4, 1, none⟩ = false := HZ15.out.froz; have f2 : w15.frozen? ⟨G4, 2, none⟩ = false := HZ15.out.froz; have f3 : w15.frozen? ⟨G4, 3, none⟩ = false := HZ15.out.froz; have f4 : w15.frozen? ⟨G4, 4, none⟩ = false := HZ15.out.froz; clear ho15 hb))
      clear c0 c1 c2 c3 c4 f0 f1 f2 f3 f4
      have HT : Hid (CBlk (((((w15.setCell ⟨G4, 0, none⟩ (.int .i64 tk)).setCell ⟨G4, 1, none⟩ (.int .i64 tn)).setCell ⟨G4, 2, none⟩ (.string ts)).setCell ⟨G4, 3, none⟩ (.string tm)).setCell ⟨G4, 4, none⟩ (.slice t1 t2 t3)) G4 #[.int .i64 tk, .int .i64 tn, .string ts, .string tm, .slice t1 t2 t3] 34) := HZ15.out.put5g _ _ _ _ _
      have HTO : Hid (OwnT (((((w15.setCell ⟨G4, 0, none⟩ (.int .i64 tk)).setCell ⟨G4, 1, none⟩ (.int .i64 tn)).setCell ⟨G4, 2, none⟩ (.string ts)).setCell ⟨G4, 3, none⟩ (.string tm)).setCell ⟨G4, 4, none⟩ (.slice t1 t2 t3)) w14.heap.size (.slice t1 t2 t3) ta) := HO15.out.put5 HLT.out _ _ _ _ _
      have HW16 : Hid (Below W.heap.size W (((((w15.setCell ⟨G4, 0, none⟩ (.int .i64 tk)).setCell ⟨G4, 1, none⟩ (.int .i64 tn)).setCell ⟨G4, 2, none⟩ (.string ts)).setCell ⟨G4, 3, none⟩ (.string tm)).setCell ⟨G4, 4, none⟩ (.slice t1 t2 t3))) := bput5 HW15.out HG4.out _ _ _ _ _
      clear HZ14 HZ15 HU14 HW14 HO15 HLT HW15
      revert HT HTO HW16
      generalize (((((w15.setCell ⟨G4, 0, none⟩ (.int .i64 tk)).setCell ⟨G4, 1, none⟩ (.int .i64 tn)).setCell ⟨G4, 2, none⟩ (.string ts)).setCell ⟨G4, 3, none⟩ (.string tm)).setCell ⟨G4, 4, none⟩ (.slice t1 t2 t3)) = X16
      intro HT HTO HW16
      obtain ⟨c0, c1, c2, c3, c4⟩ := five HT.out
      have e1 : tm.toList = [] := by rw [show tm = ⟨#[]⟩ from (congrArg At.name hta).symm]; exact emptyL9
      have e3 : tm.toList.isEmpty = true := by rw [e1]; rfl
      have e2 : ta = [] := (congrArg At.args hta).symm
      obtain rfl : t2 = 0 := by have := ownT_n9 HTO.out; rw [this, e2]; rfl
      clear e2 hta HTO
      go_wp2
      go_ret
      exact ⟨rfl, HW16.out⟩
    · obtain ⟨hB2, hQ2, hR2⟩ := iv_whole iv_atom HV.out.1 hza
      have HRZ : Hid (∀ (X : World) (u : Value), Bh X u B → Calls Try.prog 15 #[u] X fun e w' => ∃ y, e = .returned (.tuple #[At.v K2 y, .int .i64 0]) ∧ OwnT w' X.heap.size y K2.args ∧ Below X.heap.size X w') := fun X u hu => (readAtom_any u B X hu).mono (by rw [hza]; rintro e w' ⟨hb, a, y, c, rfl, ho, rfl, rfl⟩; exact ⟨y, rfl, ho, hb⟩)
      have HAZ : Hid (∀ (X : World) (y : Value), Ts X y K2.args → Calls Try.prog 14 #[At.v K2 y] X fun e w' => ∃ v, e = .returned (.tuple #[v, .int .i64 0]) ∧ Bn w' v B ∧ Below X.heap.size X w') := fun X y hy => (atomW_ok K2 y X hy hQ2).mono (by rintro e w' ⟨v, rfl, ho, hb⟩; rw [hB2]; exact ⟨v, rfl, ho.bn (by have := aB_len8 (fit_of hQ2); omega), hb⟩)
      have hln := (fit_of hQ2).len
      clear hza hB2 hQ2 hR2
      obtain ⟨⟨tk, tn, ts⟩, tm, ta⟩ := K2
      simp only at HRZ HAZ hln
      go_upto_region 19 with (first
        | (go_at_call 11; refine (HLB.out _ _ B (HV.out.later HW12.out) HLBB.out).mono ?_; rintro e w14 ⟨u14, rfl, hu, hb⟩; have HU14 : Hid (Bh w14 u14 B) := hu; have HZ14 : Hid (CBlk w14 G4 #[.int .i64 jk, .int .i64 jn, .string js, .string jm, .slice z1 z2 z3] 34) := HZ12.out.later hb; have HW14 : Hid (Below W.heap.size W w14) := below_step HW12.out hb; clear hu hb)
        | (go_at_call 15; refine (HRZ.out _ _ HU14.out).mono ?_; rintro e w15 ⟨y15, rfl, ho15, hb⟩; obtain ⟨t1, t2, t3, rfl⟩ := ownT_form8 ho15; have HO15 : Hid (OwnT w15 w14.heap.size (.slice t1 t2 t3) ta) := ho15; have HZ15 : Hid (CBlk w15 G4 #[.int .i64 jk, .int .i64 jn, .string js, .string jm, .slice z1 z2 z3] 34) := HZ14.out.later hb; have HLT : Hid (G4 < w14.heap.size) := HZ14.out.lt; have HW15 : Hid (Below W.heap.size W w15) := below_step HW14.out hb; obtain ⟨c0, c1, c2, c3, c4⟩ := five HZ15.out; have f0 : w15.frozen? ⟨G4, 0, none⟩ = false := HZ15.out.froz; have f1 : w15.frozen? ⟨G4, 1, none⟩ = false := HZ15.out.froz; have f2 : w15.frozen? ⟨G4, 2, none⟩ = false := HZ15.out.froz; have f3 : w15.frozen? ⟨G4, 3, none⟩ = false := HZ15.out.froz; have f4 : w15.frozen? ⟨G4, 4, none⟩ = false := HZ15.out.froz; clear ho15 hb))
      clear c0 c1 c2 c3 c4 f0 f1 f2 f3 f4
      have HT : Hid (CBlk (((((w15.setCell ⟨G4, 0, none⟩ (.int .i64 tk)).setCell ⟨G4, 1, none⟩ (.int .i64 tn)).setCell ⟨G4, 2, none⟩ (.string ts)).setCell ⟨G4, 3, none⟩ (.string tm)).setCell ⟨G4, 4, none⟩ (.slice t1 t2 t3)) G4 #[.int .i64 tk, .int .i64 tn, .string ts, .string tm, .slice t1 t2 t3] 34) := HZ15.out.put5g _ _ _ _ _
      have HTO : Hid (OwnT (((((w15.setCell ⟨G4, 0, none⟩ (.int .i64 tk)).setCell ⟨G4, 1, none⟩ (.int .i64 tn)).setCell ⟨G4, 2, none⟩ (.string ts)).setCell ⟨G4, 3, none⟩ (.string tm)).setCell ⟨G4, 4, none⟩ (.slice t1 t2 t3)) w14.heap.size (.slice t1 t2 t3) ta) := HO15.out.put5 HLT.out _ _ _ _ _
      have HW16 : Hid (Below W.heap.size W (((((w15.setCell ⟨G4, 0, none⟩ (.int .i64 tk)).setCell ⟨G4, 1, none⟩ (.int .i64 tn)).setCell ⟨G4, 2, none⟩ (.string ts)).setCell ⟨G4, 3, none⟩ (.string tm)).setCell ⟨G4, 4, none⟩ (.slice t1 t2 t3))) := bput5 HW15.out HG4.out _ _ _ _ _
      clear HZ14 HZ15 HU14 HW14 HO15 HLT HW15
      revert HT HTO HW16
      generalize (((((w15.setCell ⟨G4, 0, none⟩ (.int .i64 tk)).setCell ⟨G4, 1, none⟩ (.int .i64 tn)).setCell ⟨G4, 2, none⟩ (.string ts)).setCell ⟨G4, 3, none⟩ (.string tm)).setCell ⟨G4, 4, none⟩ (.slice t1 t2 t3)) = X16
      intro HT HTO HW16
      obtain ⟨c0, c1, c2, c3, c4⟩ := five HT.out
      go_upto_region 21 with (go_at_call 14; refine (HAZ.out _ _ (HTO.out.tsP.ts (by omega))).mono ?_; rintro e w17 ⟨v17, rfl, hn, hb⟩; obtain ⟨s1, s2, s3, rfl⟩ := Bn.form9 hn; have hcx := conv_bn hn HV.out.1; have hcb := conv_bn ((HV.out.later HW16.out).later hb).bn HV.out.1; have HW17 : Hid (Below W.heap.size W w17) := below_step HW16.out hb; clear hn hb)
      generalize ofL B = SS at *
      go_wp2
      go_ret
      exact ⟨rfl, HW17.out⟩
  · obtain ⟨hB1, hC1, hR1⟩ := iv_whole iv_clause HV.out.1 hcl
    have HBR : Hid (∀ (X : World) (u : Value), Bh X u B → Calls Try.prog 10 #[u] X fun e w' => ∃ d : Cm, e = .returned (.tuple #[d.v, .int .i64 0]) ∧ d.key = K1 ∧ MC8 X.heap.size w' d ∧ GC d.key ∧ Below X.heap.size X w') := fun X u hu => (readClause_any u B X hu).mono (by rw [hcl]; rintro e w' ⟨hb, d, er, rfl, hm, hg, hk, rfl⟩; exact ⟨d, rfl, hk, hm, hg, hb⟩)
    have HCK : Hid (∀ (X : World) (d : Cm), d.key = K1 → GC d.key → d.ok X → Calls Try.prog 9 #[d.v] X fun e w' => ∃ v, e = .returned (.tuple #[v, .int .i64 0]) ∧ Bn w' v B ∧ Below X.heap.size X w') := fun X d hk hg ho => by
      have := clauseW_any d X ho hg.wf
      have h0 : d.chk = 0 := by rw [chk_keyK, hk]; exact hC1
      unfold bCl at this
      rw [h0, if_pos rfl, hk, ← hB1] at this
      exact this
    have HMR0 : Hid (∀ (X : World) (d : Cm), d.key = K1 → d.ok X → Calls Try.prog 8 #[d.v] X fun e w' => ∃ m : Cm, e = .returned m.v ∧ m.key = K1 ∧ m.ok w' ∧ Below X.heap.size X w') := fun X d hk ho => (made_any d X ho).mono (by
      have h0 : d.chk = 0 := by rw [chk_keyK, hk]; exact hC1
      rintro e w' ⟨m, rfl, hmk, hm, hb⟩
      rw [made_same h0] at hmk
      exact ⟨m, rfl, hmk.trans hk, hm.ok8 (by rw [hmk]; exact (chk_val h0).1.ks), hb⟩)
    clear hcl hB1 hC1 hR1
    go_upto_region 12 with (first
      | (go_at_call 11; refine (HLB.out _ _ B (HV.out.later HW10.out) HLBB.out).mono ?_; rintro e wl ⟨ul, rfl, hu, hb⟩; have HUl : Hid (Bh wl ul B) := hu; have HZl : Hid (CBlk wl G4 #[.int .i64 jk, .int .i64 jn, .string js, .string jm, .slice z1 z2 z3] 34) := HZ10.out.later hb; have HQl : Hid (CBlk wl G2 #[.int .i64 qk, .int .i64 qn, .string qs, .string qm, .slice q1 q2 q3, .slice q4 q5 q6, .slice q7 q8 q9] 38) := HQ10.out.later hb; have HWl : Hid (Below W.heap.size W wl) := below_step HW10.out hb; clear hu hb)
      | (go_at_call 10; refine (HBR.out _ _ HUl.out).mono ?_; rintro e w11 ⟨rr, rfl, hrk, hmc, hgc, hb⟩; obtain ⟨⟨r1, r2, r3, tz1⟩, ⟨r4, r6, tz2⟩, ⟨r7, r9, tz3⟩, -, -⟩ := ((hmc.ok hgc)).shape; obtain ⟨r5, tz4⟩ : ∃ n, n = rr.body.length := ⟨_, rfl⟩; obtain ⟨r8, tz5⟩ : ∃ n, n = rr.tests.length := ⟨_, rfl⟩; rw [← tz4] at tz2; rw [← tz5] at tz3; obtain ⟨⟨⟨⟨rk, rn, rs⟩, rm, ra⟩, rv⟩, rb, rbv, rt, rtv⟩ := rr; simp only at tz1 tz2 tz3; subst tz1 tz2 tz3; clear tz4 tz5; have HRK : Hid (Cm.key (⟨(⟨⟨rk, rn, rs⟩, rm, ra⟩, .slice r1 r2 r3), rb, .slice r4 r5 r6, rt, .slice r7 r8 r9⟩ : Cm) = _) := hrk; have HMC : Hid (MC8 wl.heap.size w11 (⟨(⟨⟨rk, rn, rs⟩, rm, ra⟩, .slice r1 r2 r3), rb, .slice r4 r5 r6, rt, .slice r7 r8 r9⟩ : Cm)) := hmc; have HGC : Hid (GC (Cm.key (⟨(⟨⟨rk, rn, rs⟩, rm, ra⟩, .slice r1 r2 r3), rb, .slice r4 r5 r6, rt, .slice r7 r8 r9⟩ : Cm))) := hgc; have HZ11 : Hid (CBlk w11 G4 #[.int .i64 jk, .int .i64 jn, .string js, .string jm, .slice z1 z2 z3] 34) := HZl.out.later hb; have HQ11 : Hid (CBlk w11 G2 #[.int .i64 qk, .int .i64 qn, .string qs, .string qm, .slice q1 q2 q3, .slice q4 q5 q6, .slice q7 q8 q9] 38) := HQl.out.later hb; have HLT : Hid (G2 < wl.heap.size) := HQl.out.lt; have HW11 : Hid (Below W.heap.size W w11) := below_step HWl.out hb; obtain ⟨c0, c1, c2, c3, c4, c5, c6⟩ := cseven HQ11.out; have f0 : w11.frozen? ⟨G2, 0, none⟩ = false := HQ11.out.froz; have f1 : w11.frozen? ⟨G2, 1, none⟩ = false := HQ11.out.froz; have f2 : w11.frozen? ⟨G2, 2, none⟩ = false := HQ11.out.froz; have f3 : w11.frozen? ⟨G2, 3, none⟩ = false := HQ11.out.froz; have f4 : w11.frozen? ⟨G2, 4, none⟩ = false := HQ11.out.froz; have f5 : w11.frozen? ⟨G2, 5, none⟩ = false := HQ11.out.froz; have f6 : w11.frozen? ⟨G2, 6, none⟩ = false := HQ11.out.froz; clear hrk hmc hgc hb))
    clear c0 c1 c2 c3 c4 c5 c6 f0 f1 f2 f3 f4 f5 f6
    have HR : Hid (Bx (((((((w11.setCell ⟨G2, 0, none⟩ (.int .i64 rk)).setCell ⟨G2, 1, none⟩ (.int .i64 rn)).setCell ⟨G2, 2, none⟩ (.string rs)).setCell ⟨G2, 3, none⟩ (.string rm)).setCell ⟨G2, 4, none⟩ (.slice r1 r2 r3)).setCell ⟨G2, 5, none⟩ (.slice r4 r5 r6)).setCell ⟨G2, 6, none⟩ (.slice r7 r8 r9)) G2 (⟨(⟨⟨rk, rn, rs⟩, rm, ra⟩, .slice r1 r2 r3), rb, .slice r4 r5 r6, rt, .slice r7 r8 r9⟩ : Cm)) := ⟨HQ11.out.put7g _ _ _ _ _ _ _, (HMC.out.put7 HLT.out _ _ _ _ _ _ _).ok HGC.out⟩
    have HZ12 : Hid (CBlk (((((((w11.setCell ⟨G2, 0, none⟩ (.int .i64 rk)).setCell ⟨G2, 1, none⟩ (.int .i64 rn)).setCell ⟨G2, 2, none⟩ (.string rs)).setCell ⟨G2, 3, none⟩ (.string rm)).setCell ⟨G2, 4, none⟩ (.slice r1 r2 r3)).setCell ⟨G2, 5, none⟩ (.slice r4 r5 r6)).setCell ⟨G2, 6, none⟩ (.slice r7 r8 r9)) G4 #[.int .i64 jk, .int .i64 jn, .string js, .string jm, .slice z1 z2 z3] 34) := HZ11.out.far7 HG4'.out.2 _ _ _ _ _ _ _
    have HW12 : Hid (Below W.heap.size W (((((((w11.setCell ⟨G2, 0, none⟩ (.int .i64 rk)).setCell ⟨G2, 1, none⟩ (.int .i64 rn)).setCell ⟨G2, 2, none⟩ (.string rs)).setCell ⟨G2, 3, none⟩ (.string rm)).setCell ⟨G2, 4, none⟩ (.slice r1 r2 r3)).setCell ⟨G2, 5, none⟩ (.slice r4 r5 r6)).setCell ⟨G2, 6, none⟩ (.slice r7 r8 r9))) := bput7 HW11.out HG2.out _ _ _ _ _ _ _
    clear HUl HZl HQl HWl HMC HZ11 HQ11 HLT HW11 HQ10 HZ10 HW10
    revert HR HZ12 HW12
    generalize (((((((w11.setCell ⟨G2, 0, none⟩ (.int .i64 rk)).setCell ⟨G2, 1, none⟩ (.int .i64 rn)).setCell ⟨G2, 2, none⟩ (.string rs)).setCell ⟨G2, 3, none⟩ (.string rm)).setCell ⟨G2, 4, none⟩ (.slice r1 r2 r3)).setCell ⟨G2, 5, none⟩ (.slice r4 r5 r6)).setCell ⟨G2, 6, none⟩ (.slice r7 r8 r9)) = X12
    intro HR HZ12 HW12
    obtain ⟨c0, c1, c2, c3, c4, c5, c6⟩ := cseven HR.out.b
    go_upto_region 14 with (go_at_call 9; refine (HCK.out _ (⟨(⟨⟨rk, rn, rs⟩, rm, ra⟩, .slice r1 r2 r3), rb, .slice r4 r5 r6, rt, .slice r7 r8 r9⟩ : Cm) HRK.out HGC.out HR.out.o).mono ?_; rintro e w13 ⟨v13, rfl, hn, hb⟩; obtain ⟨y1, y2, y3, rfl⟩ := Bn.form9 hn; have HN13 : Hid (Bn w13 (.slice y1 y2 y3) B) := hn; have HR13 : Hid (Bx w13 G2 (⟨(⟨⟨rk, rn, rs⟩, rm, ra⟩, .slice r1 r2 r3), rb, .slice r4 r5 r6, rt, .slice r7 r8 r9⟩ : Cm)) := HR.out.later hb; have HZ13 : Hid (CBlk w13 G4 #[.int .i64 jk, .int .i64 jn, .string js, .string jm, .slice z1 z2 z3] 34) := HZ12.out.later hb; have HW13 : Hid (Below W.heap.size W w13) := below_step HW12.out hb; clear hn hb c0 c1 c2 c3 c4 c5 c6 HR HZ12 HW12)
    obtain ⟨SS, hSS⟩ : ∃ s, ofL B = s := ⟨_, rfl⟩
    have HCX : Hid (∀ w', Below w13.heap.size w13 w' → (convert 43 9 (.slice y1 y2 y3)).run Try.prog w' = .ok (.string SS) w') := fun w' h => by rw [← hSS]; exact conv_bn (HN13.out.later h) HV.out.1
    have HCB : Hid (∀ w', Below w13.heap.size w13 w' → (convert 43 9 (.slice av B.length acap)).run Try.prog w' = .ok (.string SS) w') := fun w' h => by rw [← hSS]; exact conv_bn ((HV.out.later HW13.out).later h).bn HV.out.1
    have HMR : Hid (∀ X : World, Below w13.heap.size w13 X → Calls Try.prog 8 #[Cm.v (⟨(⟨⟨rk, rn, rs⟩, rm, ra⟩, .slice r1 r2 r3), rb, .slice r4 r5 r6, rt, .slice r7 r8 r9⟩ : Cm)] X fun e w' => ∃ m : Cm, e = .returned m.v ∧ m.key = K1 ∧ m.ok w' ∧ Below X.heap.size X w') := fun X hX => HMR0.out X (⟨(⟨⟨rk, rn, rs⟩, rm, ra⟩, .slice r1 r2 r3), rb, .slice r4 r5 r6, rt, .slice r7 r8 r9⟩ : Cm) HRK.out (HR13.out.later hX).o
    clear hSS HMR0
    go_cut [94] from 79 (fun s94 wx => s94 = .bool false ∧ Below w13.heap.size w13 wx)
    case first =>
      refine wp_region_held_drew (S := fun w' => Below w13.heap.size w13 w') (by kernel_rfl) (Below.refl _ _).drew (fun hH => ?_)
      revert hH
      generalize w13.drew = V0
      intro hH
      refine wpAnyH_take (i := 0) (oi := ⟨_, _, _, _, _, _⟩) (v := .int .i64 0) rfl (by kernel_rfl) (by kernel_rfl) (by kernel_rfl) (fun _ _ _ h => h) (Or.inl ⟨by rfl, fun w' h => by clear h; go_simp⟩) hH ?_
      simp only [Act.put, List.setIfInBounds_toArray, List.set_cons_zero, List.set_cons_succ]
      refine wpAnyH_take (i := 1) (oi := ⟨_, _, _, _, _, _⟩) (v := .bool false) rfl (by kernel_rfl) (by kernel_rfl) (by kernel_rfl) (fun _ _ _ h => h) (Or.inl ⟨by rfl, fun w' h => by clear h; go_simp⟩) hH ?_
      simp only [Act.put, List.setIfInBounds_toArray, List.set_cons_zero, List.set_cons_succ]
      refine wpAnyH_take (i := 2) (oi := ⟨_, _, _, _, _, _⟩) (v := .bool false) rfl (by kernel_rfl) (by kernel_rfl) (by kernel_rfl) (fun _ _ _ h => h) (Or.inl ⟨by rfl, fun w' h => by clear h; go_simp⟩) hH ?_
      simp only [Act.put, List.setIfInBounds_toArray, List.set_cons_zero, List.set_cons_succ]
      refine wpAnyH_take (i := 3) (oi := ⟨_, _, _, _, _, _⟩) (v := .slice y1 y2 y3) rfl (by kernel_rfl) (by kernel_rfl) (by kernel_rfl) (fun _ _ _ h => h) (Or.inl ⟨by rfl, fun w' h => by clear h; go_simp⟩) hH ?_
      simp only [Act.put, List.setIfInBounds_toArray, List.set_cons_zero, List.set_cons_succ]
      refine wpAnyH_take (i := 4) (oi := ⟨_, _, _, _, _, _⟩) (v := .string SS) rfl (by kernel_rfl) (by kernel_rfl) (by kernel_rfl) (fun _ _ _ h => h) (Or.inl ⟨by rfl, fun w' h => by have hcv := HCX.out w' h; clear h; go_simp⟩) hH ?_
      simp only [Act.put, List.setIfInBounds_toArray, List.set_cons_zero, List.set_cons_succ]
      refine wpAnyH_take (i := 5) (oi := ⟨_, _, _, _, _, _⟩) (v := .slice av B.length acap) rfl (by kernel_rfl) (by kernel_rfl) (by kernel_rfl) (fun _ _ _ h => h) (Or.inl ⟨by rfl, fun w' h => by clear h; go_simp⟩) hH ?_
      simp only [Act.put, List.setIfInBounds_toArray, List.set_cons_zero, List.set_cons_succ]
      refine wpAnyH_take (i := 6) (oi := ⟨_, _, _, _, _, _⟩) (v := .string SS) rfl (by kernel_rfl) (by kernel_rfl) (by kernel_rfl) (fun _ _ _ h => h) (Or.inl ⟨by rfl, fun w' h => by have hcv := HCB.out w' h; clear h; go_simp⟩) hH ?_
      simp only [Act.put, List.setIfInBounds_toArray, List.set_cons_zero, List.set_cons_succ]
      refine wpAnyH_take (i := 7) (oi := ⟨_, _, _, _, _, _⟩) (v := .bool false) rfl (by kernel_rfl) (by kernel_rfl) (by kernel_rfl) (fun _ _ _ h => h) (Or.inl ⟨by rfl, fun w' h => by clear h; go_simp⟩) hH ?_
      simp only [Act.put, List.setIfInBounds_toArray, List.set_cons_zero, List.set_cons_succ]
      refine wpAnyH_take (i := 8) (oi := ⟨_, _, _, _, _, _⟩) (v := .bool false) rfl (by kernel_rfl) (by kernel_rfl) (by kernel_rfl) (fun _ _ _ h => h) (Or.inl ⟨by rfl, fun w' h => by clear h; go_simp⟩) hH ?_
      simp only [Act.put, List.setIfInBounds_toArray, List.set_cons_zero, List.set_cons_succ]
      refine wpAnyH_take (i := 9) (oi := ⟨_, _, _, _, _, _⟩) (v := .bool false) rfl (by kernel_rfl) (by kernel_rfl) (by kernel_rfl) (fun _ _ _ h => h) (Or.inl ⟨by rfl, fun w' h => by clear h; go_simp⟩) hH ?_
      simp only [Act.put, List.setIfInBounds_toArray, List.set_cons_zero, List.set_cons_succ]
      refine wpAnyH_take (i := 10) (oi := ⟨_, _, _, _, _, _⟩) (v := .agg #[.int .i64 rk, .int .i64 rn, .string rs, .string rm, .slice r1 r2 r3, .slice r4 r5 r6, .slice r7 r8 r9]) rfl (by kernel_rfl) (by kernel_rfl) (by kernel_rfl) (fun _ _ _ h => h) (Or.inl ⟨by rfl, fun w' h => by obtain ⟨c0, c1, c2, c3, c4, c5, c6⟩ := cseven (CBlk.later (Hid.out HR13).b h); clear h; go_simp⟩) hH ?_
      simp only [Act.put, List.setIfInBounds_toArray, List.set_cons_zero, List.set_cons_succ]
      refine wpAnyH_take (i := 12) (oi := ⟨_, _, _, _, _, _⟩) (v := .agg #[.int .i64 rk, .int .i64 rn, .string rs, .string rm, .slice r1 r2 r3, .slice r4 r5 r6, .slice r7 r8 r9]) rfl (by kernel_rfl) (by kernel_rfl) (by kernel_rfl) (fun _ _ _ h => h) (Or.inl ⟨by rfl, fun w' h => by obtain ⟨c0, c1, c2, c3, c4, c5, c6⟩ := cseven (CBlk.later (Hid.out HR13).b h); clear h; go_simp⟩) hH ?_
      simp only [Act.put, List.setIfInBounds_toArray, List.set_cons_zero, List.set_cons_succ]
      refine wpAnyH_ready (rs := [11]) (by kernel_rfl) (by simp) ?_
      refine (AllReadyH.cons (o := ⟨_, _, _, _, _, _⟩) rfl (fun K hK => ?_) AllReadyH.nil)
      go_simp
      refine (HMR.out _ hH).mono ?_
      rintro x V1 ⟨mm, rfl, hmk, hmo, hb⟩
      obtain ⟨⟨p1, p2, p3, tz1⟩, ⟨p4, p6, tz2⟩, ⟨p7, p9, tz3⟩, -, -⟩ := (hmo).shape
      obtain ⟨p5, tz4⟩ : ∃ n, n = mm.body.length := ⟨_, rfl⟩
      obtain ⟨p8, tz5⟩ : ∃ n, n = mm.tests.length := ⟨_, rfl⟩
      rw [← tz4] at tz2
      rw [← tz5] at tz3
      obtain ⟨⟨⟨⟨pk, pn, ps⟩, pm, pa⟩, pv⟩, pb, pbv, pt, ptv⟩ := mm
      simp only at tz1 tz2 tz3
      subst tz1 tz2 tz3
      clear tz4 tz5
      have HP : Hid (Cm.ok V1 (⟨(⟨⟨pk, pn, ps⟩, pm, pa⟩, .slice p1 p2 p3), pb, .slice p4 p5 p6, pt, .slice p7 p8 p9⟩ : Cm) ∧ Cm.key (⟨(⟨⟨pk, pn, ps⟩, pm, pa⟩, .slice p1 p2 p3), pb, .slice p4 p5 p6, pt, .slice p7 p8 p9⟩ : Cm) = K1) := ⟨hmo, hmk⟩
      refine hK.out _ _ (below_step hH hb) (fun hH => ?_)
      clear hK K hb hmo hmk
      try simp only [Act.put, List.setIfInBounds_toArray, List.set_cons_zero, List.set_cons_succ]
      refine wpAnyH_ready (rs := [13]) (by kernel_rfl) (by simp) ?_
      refine (AllReadyH.cons (o := ⟨_, _, _, _, _, _⟩) rfl (fun K hK => ?_) AllReadyH.nil)
      go_simp
      refine (HSC.out _ (⟨(⟨⟨pk, pn, ps⟩, pm, pa⟩, .slice p1 p2 p3), pb, .slice p4 p5 p6, pt, .slice p7 p8 p9⟩ : Cm) (⟨(⟨⟨rk, rn, rs⟩, rm, ra⟩, .slice r1 r2 r3), rb, .slice r4 r5 r6, rt, .slice r7 r8 r9⟩ : Cm) HP.out.1 (HR13.out.later hH).o (HP.out.2.trans HRK.out.symm)).mono ?_
      rintro x V2 ⟨rfl, hb⟩
      refine hK.out _ _ (below_step hH hb) (fun hH => ?_)
      clear hK K hb
      try simp only [Act.put, List.setIfInBounds_toArray, List.set_cons_zero, List.set_cons_succ]
      refine wpAnyH_take (i := 14) (oi := ⟨_, _, _, _, _, _⟩) (v := .bool false) rfl (by kernel_rfl) (by kernel_rfl) (by kernel_rfl) (fun _ _ _ h => h) (Or.inl ⟨by rfl, fun w' h => by clear h; go_simp⟩) hH ?_
      simp only [Act.put, List.setIfInBounds_toArray, List.set_cons_zero, List.set_cons_succ]
      refine wpAnyH_take (i := 15) (oi := ⟨_, _, _, _, _, _⟩) (v := .bool false) rfl (by kernel_rfl) (by kernel_rfl) (by kernel_rfl) (fun _ _ _ h => h) (Or.inl ⟨by rfl, fun w' h => by clear h; go_simp⟩) hH ?_
      simp only [Act.put, List.setIfInBounds_toArray, List.set_cons_zero, List.set_cons_succ]
      refine wpAnyH_done (by kernel_rfl) ?_ _
      go_wp2_with fail
      go_meet
      case rel => exact ⟨rfl, hH⟩
    case rest =>
    obtain ⟨rfl, hb⟩ := hcut
    rename World => w18
    have HZ18 : Hid (CBlk w18 G4 #[.int .i64 jk, .int .i64 jn, .string js, .string jm, .slice z1 z2 z3] 34) := HZ13.out.later hb
    have HW18 : Hid (Below W.heap.size W w18) := below_step HW13.out hb
    clear hb HZ13 HW13 HR13 HN13 HCX HCB HGC HRK
    go_upto_region 18 with fail
    clear HBR HCK HMR
    rcases hza : rWhole rAtom B with k2 | K2
    · have hnz := nz_whole nz_atom hza
      have HRZ : Hid (∀ (X : World) (u : Value), Bh X u B → Calls Try.prog 15 #[u] X fun e w' => ∃ y, e = .returned (.tuple #[At.v a0 y, .int .i64 k2]) ∧ OwnT w' X.heap.size y a0.args ∧ Below X.heap.size X w') := fun X u hu => (readAtom_any u B X hu).mono (by rw [hza]; rintro e w' ⟨hb, a, y, c, rfl, ho, rfl, rfl⟩; exact ⟨y, rfl, ho, hb⟩)
      have hne : (k2 == 0) = false := by simpa using hnz
      clear hza hnz HRA2
      obtain ⟨⟨⟨tk, tn, ts⟩, tm, ta⟩, hta⟩ : ∃ a, a0 = a := ⟨_, rfl⟩
      rw [hta] at HRZ
      simp only at HRZ
      go_upto_region 19 with (first
        | (go_at_call 11; refine (HLB.out _ _ B (HV.out.later HW18.out) HLBB.out).mono ?_; rintro e w14 ⟨u14, rfl, hu, hb⟩; have HU14 : Hid (Bh w14 u14 B) := hu; have HZ14 : Hid (CBlk w14 G4 #[.int .i64 jk, .int .i64 jn, .string js, .string jm, .slice z1 z2 z3] 34) := HZ18.out.later hb; have HW14 : Hid (Below W.heap.size W w14) := below_step HW18.out hb; clear hu hb)
        | (go_at_call 15; refine (HRZ.out _ _ HU14.out).mono ?_; rintro e w15 ⟨y15, rfl, ho15, hb⟩; obtain ⟨t1, t2, t3, rfl⟩ := ownT_form8 ho15; have HO15 : Hid (OwnT w15 w14.heap.size (.slice t1 t2 t3) ta) := ho15; have HZ15 : Hid (CBlk w15 G4 #[.int .i64 jk, .int .i64 jn, .string js, .string jm, .slice z1 z2 z3] 34) := HZ14.out.later hb; have HLT : Hid (G4 < w14.heap.size) := HZ14.out.lt; have HW15 : Hid (Below W.heap.size W w15) := below_step HW14.out hb; obtain ⟨c0, c1, c2, c3, c4⟩ := five HZ15.out; have f0 : w15.frozen? ⟨G4, 0, none⟩ = false := HZ15.out.froz; have f1 : w15.frozen? ⟨G4, 1, none⟩ = false := HZ15.out.froz; have f2 : w15.frozen? ⟨G4, 2, none⟩ = false := HZ15.out.froz; have f3 : w15.frozen? ⟨G4, 3, none⟩ = false := HZ15.out.froz; have f4 : w15.frozen? ⟨G4, 4, none⟩ = false := HZ15.out.froz; clear ho15 hb))
      clear c0 c1 c2 c3 c4 f0 f1 f2 f3 f4
      have HT : Hid (CBlk (((((w15.setCell ⟨G4, 0, none⟩ (.int .i64 tk)).setCell ⟨G4, 1, none⟩ (.int .i64 tn)).setCell ⟨G4, 2, none⟩ (.string ts)).setCell ⟨G4, 3, none⟩ (.string tm)).setCell ⟨G4, 4, none⟩ (.slice t1 t2 t3)) G4 #[.int .i64 tk, .int .i64 tn, .string ts, .string tm, .slice t1 t2 t3] 34) := HZ15.out.put5g _ _ _ _ _
      have HTO : Hid (OwnT (((((w15.setCell ⟨G4, 0, none⟩ (.int .i64 tk)).setCell ⟨G4, 1, none⟩ (.int .i64 tn)).setCell ⟨G4, 2, none⟩ (.string ts)).setCell ⟨G4, 3, none⟩ (.string tm)).setCell ⟨G4, 4, none⟩ (.slice t1 t2 t3)) w14.heap.size (.slice t1 t2 t3) ta) := HO15.out.put5 HLT.out _ _ _ _ _
      have HW16 : Hid (Below W.heap.size W (((((w15.setCell ⟨G4, 0, none⟩ (.int .i64 tk)).setCell ⟨G4, 1, none⟩ (.int .i64 tn)).setCell ⟨G4, 2, none⟩ (.string ts)).setCell ⟨G4, 3, none⟩ (.string tm)).setCell ⟨G4, 4, none⟩ (.slice t1 t2 t3))) := bput5 HW15.out HG4.out _ _ _ _ _
      clear HZ14 HZ15 HU14 HW14 HO15 HLT HW15
      revert HT HTO HW16
      generalize (((((w15.setCell ⟨G4, 0, none⟩ (.int .i64 tk)).setCell ⟨G4, 1, none⟩ (.int .i64 tn)).setCell ⟨G4, 2, none⟩ (.string ts)).setCell ⟨G4, 3, none⟩ (.string tm)).setCell ⟨G4, 4, none⟩ (.slice t1 t2 t3)) = X16
      intro HT HTO HW16
      obtain ⟨c0, c1, c2, c3, c4⟩ := five HT.out
      have e1 : tm.toList = [] := by rw [show tm = ⟨#[]⟩ from (congrArg At.name hta).symm]; exact emptyL9
      have e3 : tm.toList.isEmpty = true := by rw [e1]; rfl
      have e2 : ta = [] := (congrArg At.args hta).symm
      obtain rfl : t2 = 0 := by have := ownT_n9 HTO.out; rw [this, e2]; rfl
      clear e2 hta HTO
      go_wp2
      go_ret
      exact ⟨rfl, HW16.out⟩
    · obtain ⟨hB2, hQ2, hR2⟩ := iv_whole iv_atom HV.out.1 hza
      have HRZ : Hid (∀ (X : World) (u : Value), Bh X u B → Calls Try.prog 15 #[u] X fun e w' => ∃ y, e = .returned (.tuple #[At.v K2 y, .int .i64 0]) ∧ OwnT w' X.heap.size y K2.args ∧ Below X.heap.size X w') := fun X u hu => (readAtom_any u B X hu).mono (by rw [hza]; rintro e w' ⟨hb, a, y, c, rfl, ho, rfl, rfl⟩; exact ⟨y, rfl, ho, hb⟩)
      have HAZ : Hid (∀ (X : World) (y : Value), Ts X y K2.args → Calls Try.prog 14 #[At.v K2 y] X fun e w' => ∃ v, e = .returned (.tuple #[v, .int .i64 0]) ∧ Bn w' v B ∧ Below X.heap.size X w') := fun X y hy => (atomW_ok K2 y X hy hQ2).mono (by rintro e w' ⟨v, rfl, ho, hb⟩; rw [hB2]; exact ⟨v, rfl, ho.bn (by have := aB_len8 (fit_of hQ2); omega), hb⟩)
      have hln := (fit_of hQ2).len
      clear hza hB2 hQ2 hR2
      obtain ⟨⟨tk, tn, ts⟩, tm, ta⟩ := K2
      simp only at HRZ HAZ hln
      go_upto_region 19 with (first
        | (go_at_call 11; refine (HLB.out _ _ B (HV.out.later HW18.out) HLBB.out).mono ?_; rintro e w14 ⟨u14, rfl, hu, hb⟩; have HU14 : Hid (Bh w14 u14 B) := hu; have HZ14 : Hid (CBlk w14 G4 #[.int .i64 jk, .int .i64 jn, .string js, .string jm, .slice z1 z2 z3] 34) := HZ18.out.later hb; have HW14 : Hid (Below W.heap.size W w14) := below_step HW18.out hb; clear hu hb)
        | (go_at_call 15; refine (HRZ.out _ _ HU14.out).mono ?_; rintro e w15 ⟨y15, rfl, ho15, hb⟩; obtain ⟨t1, t2, t3, rfl⟩ := ownT_form8 ho15; have HO15 : Hid (OwnT w15 w14.heap.size (.slice t1 t2 t3) ta) := ho15; have HZ15 : Hid (CBlk w15 G4 #[.int .i64 jk, .int .i64 jn, .string js, .string jm, .slice z1 z2 z3] 34) := HZ14.out.later hb; have HLT : Hid (G4 < w14.heap.size) := HZ14.out.lt; have HW15 : Hid (Below W.heap.size W w15) := below_step HW14.out hb; obtain ⟨c0, c1, c2, c3, c4⟩ := five HZ15.out; have f0 : w15.frozen? ⟨G4, 0, none⟩ = false := HZ15.out.froz; have f1 : w15.frozen? ⟨G4, 1, none⟩ = false := HZ15.out.froz; have f2 : w15.frozen? ⟨G4, 2, none⟩ = false := HZ15.out.froz; have f3 : w15.frozen? ⟨G4, 3, none⟩ = false := HZ15.out.froz; have f4 : w15.frozen? ⟨G4, 4, none⟩ = false := HZ15.out.froz; clear ho15 hb))
      clear c0 c1 c2 c3 c4 f0 f1 f2 f3 f4
      have HT : Hid (CBlk (((((w15.setCell ⟨G4, 0, none⟩ (.int .i64 tk)).setCell ⟨G4, 1, none⟩ (.int .i64 tn)).setCell ⟨G4, 2, none⟩ (.string ts)).setCell ⟨G4, 3, none⟩ (.string tm)).setCell ⟨G4, 4, none⟩ (.slice t1 t2 t3)) G4 #[.int .i64 tk, .int .i64 tn, .string ts, .string tm, .slice t1 t2 t3] 34) := HZ15.out.put5g _ _ _ _ _
      have HTO : Hid (OwnT (((((w15.setCell ⟨G4, 0, none⟩ (.int .i64 tk)).setCell ⟨G4, 1, none⟩ (.int .i64 tn)).setCell ⟨G4, 2, none⟩ (.string ts)).setCell ⟨G4, 3, none⟩ (.string tm)).setCell ⟨G4, 4, none⟩ (.slice t1 t2 t3)) w14.heap.size (.slice t1 t2 t3) ta) := HO15.out.put5 HLT.out _ _ _ _ _
      have HW16 : Hid (Below W.heap.size W (((((w15.setCell ⟨G4, 0, none⟩ (.int .i64 tk)).setCell ⟨G4, 1, none⟩ (.int .i64 tn)).setCell ⟨G4, 2, none⟩ (.string ts)).setCell ⟨G4, 3, none⟩ (.string tm)).setCell ⟨G4, 4, none⟩ (.slice t1 t2 t3))) := bput5 HW15.out HG4.out _ _ _ _ _
      clear HZ14 HZ15 HU14 HW14 HO15 HLT HW15
      revert HT HTO HW16
      generalize (((((w15.setCell ⟨G4, 0, none⟩ (.int .i64 tk)).setCell ⟨G4, 1, none⟩ (.int .i64 tn)).setCell ⟨G4, 2, none⟩ (.string ts)).setCell ⟨G4, 3, none⟩ (.string tm)).setCell ⟨G4, 4, none⟩ (.slice t1 t2 t3)) = X16
      intro HT HTO HW16
      obtain ⟨c0, c1, c2, c3, c4⟩ := five HT.out
      go_upto_region 21 with (go_at_call 14; refine (HAZ.out _ _ (HTO.out.tsP.ts (by omega))).mono ?_; rintro e w17 ⟨v17, rfl, hn, hb⟩; obtain ⟨s1, s2, s3, rfl⟩ := Bn.form9 hn; have hcx := conv_bn hn HV.out.1; have hcb := conv_bn ((HV.out.later HW16.out).later hb).bn HV.out.1; have HW17 : Hid (Below W.heap.size W w17) := below_step HW16.out hb; clear hn hb)
      generalize ofL B = SS at *
      go_wp2
      go_ret
      exact ⟨rfl, HW17.out⟩
end Go.Proofs.Ytelcoihmiglceaa
