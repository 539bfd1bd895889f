/-
  CodecNames: the walk. (Written by CQ2.py.)
-/
import Derived.Test.YtelcoihmiglceaaGreatCQ1
import Derived.Test.YtelcoihmiglceaaGreatCP8
import Derived.Deep.RegionHeld3
namespace Go.Proofs.YtelcoihmiglceaaGreat
open Go.RowKit
attribute [local go_sem ↓] Go.wp_at_zero Go.wp_at_succ

theorem cstep_one {ops : Array Oper} {o : Oper} {a : Act} {K : Act → World → Prop} {Q : Exit → Act → World → Prop} {E : Prop} {w : World} (hgd : o.guard = none) (s x : Operand)
    (ho : o.op = .call { callee := .builtin .append, args := #[s, x], argTypes := #[31, 31] }) (base : Nat) (v : Value) (l : List Cm) (hs : a.eval s = v) (hown : OwnC w base v l)
    (b : Nat) (y : Cm) (hx : a.eval x = .slice (some ⟨b, 0, none⟩) 1 1) (hblk : CBlk w b y.cs 30) {W : World} (h1c : y.ok W) (hlen : l.length ≤ 1000000000000) (hbase : base ≤ w.heap.size)
    (h : ∀ v' w', OwnC w' base v' (l ++ [y]) → Below base w w' → K (a.put o.dst v') w') : if Region.wanted o (yielded ops a.tmps) = true then Oper.wp Tryz.prog o a w K Q else E := by
  obtain ⟨i0, hi0, hz0, hz1, hz2⟩ := info_parts Tryz.infoClause
  refine step_append_lies _ hgd s x 31 ho base 30 i0 _ 7 120 Tryz.underlying31 hi0 hz0 hz1 hz2 rfl (by omega) v l.length (ccs l) hs hown ⟨b, 0, none⟩ 1 1 (ccs [y]) hx (by rw [ccs_len]; rfl) ?_ (fun u hu => by obtain ⟨z, hz, hu⟩ := List.mem_flatMap.1 hu; rw [List.mem_singleton] at hz; subst hz; exact csl_one h1c u hu) (by omega) (by unfold maxLen; omega) (by omega) hbase _ rfl ?_
  · intro j u hj
    have := World.news_of_block (cs := y.cs) (t := 30) (fr := (0, 0)) hblk j u
    exact this (by simpa [ccs, Cm.csl] using hj)
  · intro g cap w' h1 h2 _ _
    refine h _ w' ?_ (grown_below3 h2 (fun k hk => (World.ownsRow.lt hown k hk).1) hbase)
    unfold OwnC
    rw [List.length_append, ccs_app]
    exact h1
theorem cstep_two9 {ops : Array Oper} {o : Oper} {a : Act} {K : Act → World → Prop} {Q : Exit → Act → World → Prop} {E : Prop} {w : World} (hgd : o.guard = none) (s x : Operand)
    (ho : o.op = .call { callee := .builtin .append, args := #[s, x], argTypes := #[31, 31] }) (base : Nat) (v : Value) (l : List Cm) (hs : a.eval s = v) (hown : OwnC w base v l)
    (b : Nat) (y z : Cm) (hx : a.eval x = .slice (some ⟨b, 0, none⟩) 2 2) (hblk : CBlk w b (ccs [y, z]).toArray 30) {W W' : World} (h1c : y.ok W) (h2c : z.ok W') (hlen : l.length ≤ 1000000000000) (hbase : base ≤ w.heap.size)
    (h : ∀ v' w', OwnC w' base v' (l ++ [y, z]) → Below base w w' → K (a.put o.dst v') w') : if Region.wanted o (yielded ops a.tmps) = true then Oper.wp Tryz.prog o a w K Q else E := by
  obtain ⟨i0, hi0, hz0, hz1, hz2⟩ := info_parts Tryz.infoClause
  have h1o : ∀ u ∈ ccs [y, z], u.oneCell' = true := fun u hu => by
    obtain ⟨q, hq, hv⟩ := List.mem_flatMap.1 hu
    simp only [List.mem_cons, List.not_mem_nil, or_false] at hq
    rcases hq with rfl | rfl
    · exact csl_one h1c u hv
    · exact csl_one h2c u hv
  refine step_append_lies _ hgd s x 31 ho base 30 i0 _ 7 120 Tryz.underlying31 hi0 hz0 hz1 hz2 rfl (by omega) v l.length (ccs l) hs hown ⟨b, 0, none⟩ 2 2 (ccs [y, z]) hx (by rw [ccs_len]; rfl) ?_ h1o (by omega) (by unfold maxLen; omega) (by omega) hbase _ rfl ?_
  · intro j u hj
    exact World.news_of_block (cs := (ccs [y, z]).toArray) (t := 30) (fr := (0, 0)) hblk j u (by simpa using hj)
  · intro g cap w' h1 h2 _ _
    refine h _ w' ?_ (grown_below3 h2 (fun k hk => (World.ownsRow.lt hown k hk).1) hbase)
    unfold OwnC
    rw [List.length_append, ccs_app]
    exact h1
theorem cstep_list {ops : Array Oper} {o : Oper} {a : Act} {K : Act → World → Prop} {Q : Exit → Act → World → Prop} {E : Prop} {w : World} (hgd : o.guard = none) (s x : Operand)
    (ho : o.op = .call { callee := .builtin .append, args := #[s, x], argTypes := #[31, 31] }) (base : Nat) (v : Value) (l : List Cm) (hs : a.eval s = v) (hown : OwnC w base v l)
    (y : Value) (m : List Cm) (hx : a.eval x = y) (hy : CsP w y m) (hlen : l.length + m.length ≤ 1000000000000) (hbase : base ≤ w.heap.size)
    (h : ∀ v' w', OwnC w' base v' (l ++ m) → Below base w w' → w.grownBy w' v.ownBlock → K (a.put o.dst v') w') : if Region.wanted o (yielded ops a.tmps) = true then Oper.wp Tryz.prog o a w K Q else E := by
  have hw : Region.wanted o (yielded ops a.tmps) = true := by simp [Region.wanted, hgd]
  rw [if_pos hw]
  obtain ⟨i0, hi0, hz0, hz1, hz2⟩ := info_parts Tryz.infoClause
  rcases hy.m with ⟨rfl, rfl⟩ | ⟨ad, cap, rfl, hm⟩
  · have hrun := run_append_owned_none (P := Tryz.prog) (w := w) base 31 o.type 30 i0 7 Tryz.underlying31 hi0 v l.length (ccs l) hown
    unfold Oper.wp
    simp [execOp, ho, resolve, invoke, builtin, hs, hx, hrun, Result.andThen]
    exact h v w (by rw [List.append_nil]; exact hown) (Below.refl _ _) (World.grownBy.refl _ _)
  · refine wp_append_own w s x 31 ho base 30 i0 _ 7 120 Tryz.underlying31 hi0 hz0 hz1 hz2 rfl (by omega) v l.length (ccs l) hs hown ad m.length cap (ccs m) hx (ccs_len m) ?_ (fun u hu => by obtain ⟨z, hz, hu⟩ := List.mem_flatMap.1 hu; exact csl_one (hy.ok z hz) u hu) (by unfold maxLen; omega) (by omega) hbase ?_
    · rcases hm with rfl | ⟨b, o', rfl, hm⟩
      · intro j u hu; simp [ccs] at hu
      · exact crow_get hm
    · intro v' w' h1 h2 _
      refine h v' w' ?_ (grown_below3 h2 (fun k hk => (World.ownsRow.lt hown k hk).1) hbase) h2
      unfold OwnC
      rw [List.length_append, ccs_app]
      exact h1
theorem own_ne {X : World} {B g : Nat} {c : Array Value} {t : TypeId} (h : OwnC X B (.slice (some ⟨g, 0, none⟩) 0 0) []) (h2 : CBlk X g c t) (hc : c.size ≠ 0) : False := by
  rcases h.2 with ⟨hv, -⟩ | ⟨g', cap, cur, hv, -, hg, -, -, hs, -⟩
  · cases hv
  · simp only [Value.slice.injEq, Option.some.injEq, Addr.mk.injEq, and_true] at hv
    obtain ⟨rfl, -, rfl⟩ := hv
    unfold CBlk at h2
    rw [hg] at h2
    cases h2
    exact hc (by simpa using hs)
theorem cblk_grown {X X' : World} {B g0 g1 : Nat} {c : Array Value} {t : TypeId} (_ : OwnC X B (.slice (some ⟨g0, 0, none⟩) 0 0) []) (h2 : CBlk X g1 c t) (hg : X.grownBy X' (Value.slice (some ⟨g0, 0, none⟩) 0 0).ownBlock) (hn : g0 ≠ g1) : CBlk X' g1 c t :=
  (hg.block g1 h2.lt (fun e => hn (Option.some.inj e).symm)).trans h2
/-- Clauses that Made made. -/
def Mk (k : Ck) : Prop := ∃ x, k = madeK x ∧ Rng x
theorem Mk.kw {k : Ck} (h : Mk k) : Kw k := by
  obtain ⟨x, rfl, hr⟩ := h
  have := made_chk nmP_ok (c := kC (madeK x)) (kC_key _)
  exact ⟨by rwa [chk_keyK, kC_key] at this, made_rng nmP_ok hr⟩
theorem Mk.ks {k : Ck} (h : Mk k) : KS k := by obtain ⟨x, rfl, -⟩ := h; exact (made_val nmP_ok x).ks
theorem setM_any (l : List Cm) (v : Value) (w : World) (h : CsP w v l) (hl : l.length ≤ 4000000) (hm : ∀ c ∈ l, Mk c.key) :
    Calls Tryz.prog 12 #[v] w fun e w' => ∃ v' K, e = .returned (.tuple #[v', .int .i64 0]) ∧ SetK K l ∧ K.length ≤ 4000000 ∧ OwnB w' 0 v' (sBy K) ∧ Below w.heap.size w w' :=
  setW_any l v w h hl (fun c hc => by
    obtain ⟨h1, h2, h3, h4⟩ := (hm c hc).ks.lens
    exact ⟨by omega, by omega, by omega, fun x hx => by have := h4 x hx; omega⟩) (fun c hc => (hm c hc).kw) (fun k ⟨c, hc, e⟩ d hd => by
    obtain ⟨x, ex, -⟩ := hm c hc
    exact made_wf (x := x) (by rw [hd, ← e, ex]))
theorem turn_all {n off m : Nat} (h : m < n) : ∃ i, i < n ∧ (i + off) % n = m := by
  have h0 : 0 < n := by omega
  have hr := Nat.mod_lt off h0
  have hd := Nat.div_add_mod off n
  refine ⟨(m + (n - off % n)) % n, Nat.mod_lt _ h0, ?_⟩
  rw [Nat.mod_add_mod]
  have e : m + (n - off % n) + off = m + n * (off / n + 1) := by rw [Nat.mul_add]; omega
  rw [e, Nat.add_mul_mod_self_left, Nat.mod_eq_of_lt h]
set_option maxRecDepth 20000 in
set_option maxHeartbeats 1500000 in
theorem codecNames_any (ca cb : Cm) (Lc : List Cm) (v : Value) (turn : Int) (w : World) (ha : ca.ok w) (hb : cb.ok w) (hra : Rng ca.key) (hrb : Rng cb.key) (hL : CsP w v Lc) (hlL : Lc.length ≤ 1100000) (hrL : ∀ c ∈ Lc, Rng c.key) :
    Calls Tryz.prog 3 #[ca.v, cb.v, v, .int .i64 turn] w fun e w' => e = .returned (.bool true) ∧ Below w.heap.size w w' := by
  have hMA : Mk (madeK ca.key) := ⟨_, rfl, hra⟩
  have hMB : Mk (madeK cb.key) := ⟨_, rfl, hrb⟩
  have HBY : Hid (∀ X : World, Below w.heap.size w X → Calls Tryz.prog 6 #[v, .agg #[.slice none 0 0, .slice none 0 0], .slice none 0 0] X fun e w' => YesNo e ∧ Below X.heap.size X w') := fun X hX => beyond_any Lc [] [] v _ _ none 0 0 X (hL.later hX) ⟨Or.inl ⟨rfl, rfl⟩, fun c hc => by simp at hc⟩ ⟨Or.inl ⟨rfl, rfl⟩, fun c hc => by simp at hc⟩ (by omega) (by simp) (by simp)
  have HMA : Hid (∀ X : World, Below w.heap.size w X → Calls Tryz.prog 7 #[ca.v] X fun e w' => ∃ d : Cm, e = .returned d.v ∧ d.key = madeK ca.key ∧ d.ok w' ∧ Below X.heap.size X w') := fun X hX => (made_any ca X (ha.later hX)).mono (by rintro e w' ⟨d, rfl, hk, hm, hb⟩; exact ⟨d, rfl, hk, hm.ok8 (by rw [hk]; exact hMA.ks), hb⟩)
  have HMB : Hid (∀ X : World, Below w.heap.size w X → Calls Tryz.prog 7 #[cb.v] X fun e w' => ∃ d : Cm, e = .returned d.v ∧ d.key = madeK cb.key ∧ d.ok w' ∧ Below X.heap.size X w') := fun X hX => (made_any cb X (hb.later hX)).mono (by rintro e w' ⟨d, rfl, hk, hm, hb⟩; exact ⟨d, rfl, hk, hm.ok8 (by rw [hk]; exact hMB.ks), hb⟩)
  have HML : Hid (∀ X : World, Below w.heap.size w X → Calls Tryz.prog 11 #[v] X (MAP X Lc)) := fun X hX => madeAll_any Lc v X (hL.later hX) (by omega)
  generalize madeK ca.key = KA at *
  generalize madeK cb.key = KB at *
  have HCW : Hid (∀ (X : World) (d : Cm) (k : Ck), Mk k → d.key = k → d.ok X → Calls Tryz.prog 8 #[d.v] X fun e w' => ∃ v, e = .returned (.tuple #[v, .int .i64 0]) ∧ Bn w' v (cB k) ∧ Below X.heap.size X w') := fun X d k hm hk ho => (clauseW_any d X ho (by obtain ⟨x, ex, -⟩ := hm; exact made_wf (x := x) (by rw [hk, ex]))).mono (by
    rintro e w' ⟨v, rfl, hn, hb⟩
    have h0 : d.chk = 0 := by rw [chk_keyK, hk]; exact hm.kw.c
    rw [h0]
    unfold bCl at hn
    rw [if_pos h0, hk] at hn
    exact ⟨v, rfl, hn, hb⟩)
  have HMK : Hid (Mk KA ∧ Mk KB) := ⟨hMA, hMB⟩
  have HRL : Hid (∀ c ∈ Lc, Rng c.key) := hrL
  have HX0 : Hid (CBlk ((w.alloc (.cells ca.cs 30)).alloc (.cells cb.cs 30)) w.heap.size ca.cs 30) := (CBlk.new _ _ _).later (below1 _ _)
  have HY0 : Hid (CBlk ((w.alloc (.cells ca.cs 30)).alloc (.cells cb.cs 30)) (w.heap.size + 1) cb.cs 30) := by
    have := CBlk.new (w.alloc (.cells ca.cs 30)) cb.cs 30
    rwa [show (w.alloc (.cells ca.cs 30)).heap.size = w.heap.size + 1 by simp] at this
  obtain ⟨la, lc, rfl⟩ := hL.form
  obtain ⟨⟨n1, n2, n3, tz1⟩, ⟨n4, n6, tz2⟩, ⟨n7, n9, tz3⟩, -, -⟩ := (ha).shape
  obtain ⟨n5, tz4⟩ : ∃ n, n = ca.body.length := ⟨_, rfl⟩
  obtain ⟨n8, tz5⟩ : ∃ n, n = ca.tests.length := ⟨_, rfl⟩
  rw [← tz4] at tz2
  rw [← tz5] at tz3
  obtain ⟨⟨⟨⟨nk, nn, ns⟩, nm, na⟩, nv⟩, nb, nbv, nt, ntv⟩ := ca
  simp only at tz1 tz2 tz3
  subst tz1 tz2 tz3
  clear tz4 tz5
  obtain ⟨⟨y1, y2, y3, tz1⟩, ⟨y4, y6, tz2⟩, ⟨y7, y9, tz3⟩, -, -⟩ := (hb).shape
  obtain ⟨y5, tz4⟩ : ∃ n, n = cb.body.length := ⟨_, rfl⟩
  obtain ⟨y8, tz5⟩ : ∃ n, n = cb.tests.length := ⟨_, rfl⟩
  rw [← tz4] at tz2
  rw [← tz5] at tz3
  obtain ⟨⟨⟨⟨yk, yn, ys⟩, ym, ya⟩, yv⟩, yb, ybv, yt, ytv⟩ := cb
  simp only at tz1 tz2 tz3
  subst tz1 tz2 tz3
  clear tz4 tz5
  clear ha hb hra hrb hL hrL hMA hMB
  go_enter Tryz.func3, Tryz.ntmps3
  go_upto_if 30 with (go_at_call 6; refine (HBY.out _ (below2 _ _ _)).mono ?_; clear HBY; rintro e w1 ⟨⟨bb, rfl⟩, hb⟩; have HX1 : Hid (CBlk w1 w.heap.size #[.int .i64 nk, .int .i64 nn, .string ns, .string nm, .slice n1 n2 n3, .slice n4 n5 n6, .slice n7 n8 n9] 30) := HX0.out.later hb; have HY1 : Hid (CBlk w1 (w.heap.size + 1) #[.int .i64 yk, .int .i64 yn, .string ys, .string ym, .slice y1 y2 y3, .slice y4 y5 y6, .slice y7 y8 y9] 30) := HY0.out.later hb; have HW1 : Hid (Below w.heap.size w w1) := below_step (below2 _ _ _) hb; clear hb)
  clear HX0 HY0
  cases bb
  case true =>
    go_wp2
    go_ret
    exact ⟨rfl, HW1.out⟩
  obtain ⟨c0, c1, c2, c3, c4, c5, c6⟩ := cseven HX1.out
  go_upto_region 4 with (go_at_call 7; refine (HMA.out _ HW1.out).mono ?_; clear HMA; rintro e w2 ⟨dd, rfl, hdk, hdo, hb⟩; obtain ⟨⟨d1, d2, d3, tz1⟩, ⟨d4, d6, tz2⟩, ⟨d7, d9, tz3⟩, -, -⟩ := (hdo).shape; obtain ⟨d5, tz4⟩ : ∃ n, n = dd.body.length := ⟨_, rfl⟩; obtain ⟨d8, tz5⟩ : ∃ n, n = dd.tests.length := ⟨_, rfl⟩; rw [← tz4] at tz2; rw [← tz5] at tz3; obtain ⟨⟨⟨⟨dk, dn, ds⟩, dm, da⟩, dv⟩, db, dbv, dt, dtv⟩ := dd; simp only at tz1 tz2 tz3; subst tz1 tz2 tz3; clear tz4 tz5; have HDK : Hid (Cm.key (⟨(⟨⟨dk, dn, ds⟩, dm, da⟩, .slice d1 d2 d3), db, .slice d4 d5 d6, dt, .slice d7 d8 d9⟩ : Cm) = KA) := hdk; have HD2 : Hid (Bx (w2.alloc (.cells #[.int .i64 dk, .int .i64 dn, .string ds, .string dm, .slice d1 d2 d3, .slice d4 d5 d6, .slice d7 d8 d9] 30)) w2.heap.size (⟨(⟨⟨dk, dn, ds⟩, dm, da⟩, .slice d1 d2 d3), db, .slice d4 d5 d6, dt, .slice d7 d8 d9⟩ : Cm)) := Bx.new hdo; have HY2 : Hid (CBlk (w2.alloc (.cells #[.int .i64 dk, .int .i64 dn, .string ds, .string dm, .slice d1 d2 d3, .slice d4 d5 d6, .slice d7 d8 d9] 30)) (w.heap.size + 1) #[.int .i64 yk, .int .i64 yn, .string ys, .string ym, .slice y1 y2 y3, .slice y4 y5 y6, .slice y7 y8 y9] 30) := (HY1.out.later hb).later (below1 _ _); have HW2 : Hid (Below w.heap.size w (w2.alloc (.cells #[.int .i64 dk, .int .i64 dn, .string ds, .string dm, .slice d1 d2 d3, .slice d4 d5 d6, .slice d7 d8 d9] 30))) := below_step (below_step HW1.out hb) (below1 _ _); clear hb hdo hdk c0 c1 c2 c3 c4 c5 c6)
  clear HX1 HY1 HW1
  revert HD2 HY2 HW2
  generalize (w2.alloc (.cells #[.int .i64 dk, .int .i64 dn, .string ds, .string dm, .slice d1 d2 d3, .slice d4 d5 d6, .slice d7 d8 d9] 30)) = X2
  generalize w2.heap.size = G1
  intro HD2 HY2 HW2
  obtain ⟨c0, c1, c2, c3, c4, c5, c6⟩ := cseven HY2.out
  go_upto_region 5 with (go_at_call 7; refine (HMB.out _ HW2.out).mono ?_; clear HMB; rintro e w3 ⟨qq, rfl, hqk, hqo, hb⟩; obtain ⟨⟨q1, q2, q3, tz1⟩, ⟨q4, q6, tz2⟩, ⟨q7, q9, tz3⟩, -, -⟩ := (hqo).shape; obtain ⟨q5, tz4⟩ : ∃ n, n = qq.body.length := ⟨_, rfl⟩; obtain ⟨q8, tz5⟩ : ∃ n, n = qq.tests.length := ⟨_, rfl⟩; rw [← tz4] at tz2; rw [← tz5] at tz3; obtain ⟨⟨⟨⟨qk, qn, qs⟩, qm, qa⟩, qv⟩, qb, qbv, qt, qtv⟩ := qq; simp only at tz1 tz2 tz3; subst tz1 tz2 tz3; clear tz4 tz5; have HQK : Hid (Cm.key (⟨(⟨⟨qk, qn, qs⟩, qm, qa⟩, .slice q1 q2 q3), qb, .slice q4 q5 q6, qt, .slice q7 q8 q9⟩ : Cm) = KB) := hqk; have HQ3 : Hid (Bx (w3.alloc (.cells #[.int .i64 qk, .int .i64 qn, .string qs, .string qm, .slice q1 q2 q3, .slice q4 q5 q6, .slice q7 q8 q9] 30)) w3.heap.size (⟨(⟨⟨qk, qn, qs⟩, qm, qa⟩, .slice q1 q2 q3), qb, .slice q4 q5 q6, qt, .slice q7 q8 q9⟩ : Cm)) := Bx.new hqo; have HD3 : Hid (Bx (w3.alloc (.cells #[.int .i64 qk, .int .i64 qn, .string qs, .string qm, .slice q1 q2 q3, .slice q4 q5 q6, .slice q7 q8 q9] 30)) G1 (⟨(⟨⟨dk, dn, ds⟩, dm, da⟩, .slice d1 d2 d3), db, .slice d4 d5 d6, dt, .slice d7 d8 d9⟩ : Cm)) := (HD2.out.later hb).later (below1 _ _); have HW3 : Hid (Below w.heap.size w (w3.alloc (.cells #[.int .i64 qk, .int .i64 qn, .string qs, .string qm, .slice q1 q2 q3, .slice q4 q5 q6, .slice q7 q8 q9] 30))) := below_step (below_step HW2.out hb) (below1 _ _); clear hb hqo hqk c0 c1 c2 c3 c4 c5 c6)
  clear HD2 HY2 HW2
  revert HQ3 HD3 HW3
  generalize (w3.alloc (.cells #[.int .i64 qk, .int .i64 qn, .string qs, .string qm, .slice q1 q2 q3, .slice q4 q5 q6, .slice q7 q8 q9] 30)) = X3
  generalize w3.heap.size = G2
  intro HQ3 HD3 HW3
  have HCA : Hid (∀ X : World, Cm.ok X (⟨(⟨⟨dk, dn, ds⟩, dm, da⟩, .slice d1 d2 d3), db, .slice d4 d5 d6, dt, .slice d7 d8 d9⟩ : Cm) → Calls Tryz.prog 8 #[Cm.v (⟨(⟨⟨dk, dn, ds⟩, dm, da⟩, .slice d1 d2 d3), db, .slice d4 d5 d6, dt, .slice d7 d8 d9⟩ : Cm)] X fun e w' => ∃ v, e = .returned (.tuple #[v, .int .i64 0]) ∧ Bn w' v (cB KA) ∧ Below X.heap.size X w') := fun X h => HCW.out X (⟨(⟨⟨dk, dn, ds⟩, dm, da⟩, .slice d1 d2 d3), db, .slice d4 d5 d6, dt, .slice d7 d8 d9⟩ : Cm) KA HMK.out.1 HDK.out h
  have HCQ : Hid (∀ X : World, Cm.ok X (⟨(⟨⟨qk, qn, qs⟩, qm, qa⟩, .slice q1 q2 q3), qb, .slice q4 q5 q6, qt, .slice q7 q8 q9⟩ : Cm) → Calls Tryz.prog 8 #[Cm.v (⟨(⟨⟨qk, qn, qs⟩, qm, qa⟩, .slice q1 q2 q3), qb, .slice q4 q5 q6, qt, .slice q7 q8 q9⟩ : Cm)] X fun e w' => ∃ v, e = .returned (.tuple #[v, .int .i64 0]) ∧ Bn w' v (cB KB) ∧ Below X.heap.size X w') := fun X h => HCW.out X (⟨(⟨⟨qk, qn, qs⟩, qm, qa⟩, .slice q1 q2 q3), qb, .slice q4 q5 q6, qt, .slice q7 q8 q9⟩ : Cm) KB HMK.out.2 HQK.out h
  clear HCW
  obtain ⟨c0, c1, c2, c3, c4, c5, c6⟩ := cseven HD3.out.b
  go_upto_region 7 with (first
    | (go_at_call 8; refine (HCA.out _ HD3.out.o).mono ?_; clear HCA; rintro e w4 ⟨v4, rfl, hn, hb⟩; obtain ⟨a1, a2, a3, rfl⟩ : ∃ a n c, v4 = .slice a n c := (by obtain ⟨a, cap, e, -⟩ := hn; exact ⟨_, _, _, e⟩); have HNA : Hid (Bn w4 (.slice a1 a2 a3) (cB KA)) := hn; have HD4 : Hid (Bx w4 G1 (⟨(⟨⟨dk, dn, ds⟩, dm, da⟩, .slice d1 d2 d3), db, .slice d4 d5 d6, dt, .slice d7 d8 d9⟩ : Cm)) := HD3.out.later hb; have HQ4 : Hid (Bx w4 G2 (⟨(⟨⟨qk, qn, qs⟩, qm, qa⟩, .slice q1 q2 q3), qb, .slice q4 q5 q6, qt, .slice q7 q8 q9⟩ : Cm)) := HQ3.out.later hb; have HW4 : Hid (Below w.heap.size w w4) := below_step HW3.out hb; clear hn hb HD3 HQ3 HW3 c0 c1 c2 c3 c4 c5 c6; obtain ⟨c0, c1, c2, c3, c4, c5, c6⟩ := cseven HQ4.out.b)
    | (go_at_call 8; refine (HCQ.out _ HQ4.out.o).mono ?_; clear HCQ; rintro e w5 ⟨v5, rfl, hn, hb⟩; obtain ⟨b1, b2, b3, rfl⟩ : ∃ a n c, v5 = .slice a n c := (by obtain ⟨a, cap, e, -⟩ := hn; exact ⟨_, _, _, e⟩); have HNB : Hid (Bn w5 (.slice b1 b2 b3) (cB KB)) := hn; have HNA5 : Hid (Bn w5 (.slice a1 a2 a3) (cB KA)) := HNA.out.later hb; have HD5 : Hid (Bx w5 G1 (⟨(⟨⟨dk, dn, ds⟩, dm, da⟩, .slice d1 d2 d3), db, .slice d4 d5 d6, dt, .slice d7 d8 d9⟩ : Cm)) := HD4.out.later hb; have HQ5 : Hid (Bx w5 G2 (⟨(⟨⟨qk, qn, qs⟩, qm, qa⟩, .slice q1 q2 q3), qb, .slice q4 q5 q6, qt, .slice q7 q8 q9⟩ : Cm)) := HQ4.out.later hb; have HW5 : Hid (Below w.heap.size w w5) := below_step HW4.out hb; clear hn hb HNA HD4 HQ4 HW4 c0 c1 c2 c3 c4 c5 c6))
  go_upto_region 9 with fail
  obtain ⟨SS, hSS⟩ : ∃ b, decide (KA = KB) = b := ⟨_, rfl⟩
  have HSS : Hid (decide (KA = KB) = SS) := hSS
  have HSC : Hid (Calls Tryz.prog 9 #[Cm.v (⟨(⟨⟨dk, dn, ds⟩, dm, da⟩, .slice d1 d2 d3), db, .slice d4 d5 d6, dt, .slice d7 d8 d9⟩ : Cm), Cm.v (⟨(⟨⟨qk, qn, qs⟩, qm, qa⟩, .slice q1 q2 q3), qb, .slice q4 q5 q6, qt, .slice q7 q8 q9⟩ : Cm)] w5 fun e w' => e = .returned (.bool SS) ∧ Below w5.heap.size w5 w') := by
    have := sameC_any (⟨(⟨⟨dk, dn, ds⟩, dm, da⟩, .slice d1 d2 d3), db, .slice d4 d5 d6, dt, .slice d7 d8 d9⟩ : Cm) (⟨(⟨⟨qk, qn, qs⟩, qm, qa⟩, .slice q1 q2 q3), qb, .slice q4 q5 q6, qt, .slice q7 q8 q9⟩ : Cm) w5 HD5.out.o HQ5.out.o
    rwa [same_key, HDK.out, HQK.out, hSS] at this
  clear hSS
  obtain ⟨c0, c1, c2, c3, c4, c5, c6⟩ := cseven HD5.out.b
  obtain ⟨e0, e1, e2, e3, e4, e5, e6⟩ := cseven HQ5.out.b
  go_upto_region 10 with (go_at_call 9; refine HSC.out.mono ?_; clear HSC; rintro e w6 ⟨rfl, hb⟩; have HNB6 : Hid (Bn w6 (.slice b1 b2 b3) (cB KB)) := HNB.out.later hb; have HNA6 : Hid (Bn w6 (.slice a1 a2 a3) (cB KA)) := HNA5.out.later hb; have HD6 : Hid (Bx w6 G1 (⟨(⟨⟨dk, dn, ds⟩, dm, da⟩, .slice d1 d2 d3), db, .slice d4 d5 d6, dt, .slice d7 d8 d9⟩ : Cm)) := HD5.out.later hb; have HQ6 : Hid (Bx w6 G2 (⟨(⟨⟨qk, qn, qs⟩, qm, qa⟩, .slice q1 q2 q3), qb, .slice q4 q5 q6, qt, .slice q7 q8 q9⟩ : Cm)) := HQ5.out.later hb; have HW6 : Hid (Below w.heap.size w w6) := below_step HW5.out hb; clear hb c0 c1 c2 c3 c4 c5 c6 e0 e1 e2 e3 e4 e5 e6)
  clear HNB HNA5 HD5 HQ5 HW5
  have hbyA : byt (cB KA) := by
    have := cB_byt9 (c := kC KA) (by rw [chk_keyK, kC_key]; exact HMK.out.1.kw.c)
    rwa [kC_key] at this
  have hbyB : byt (cB KB) := by
    have := cB_byt9 (c := kC KB) (by rw [chk_keyK, kC_key]; exact HMK.out.2.kw.c)
    rwa [kC_key] at this
  have hcA := conv_bn HNA6.out hbyA
  have hcB := conv_bn HNB6.out hbyB
  go_cut [74] from 54 (fun s74 wx => s74 = .bool false ∧ Below w6.heap.size w6 wx)
  case first =>
    by_cases hab : KA = KB
    · obtain rfl : true = SS := by rw [← HSS.out, decide_eq_true hab]
      rw [← hab] at hcB
      clear hab HSS
      generalize ofL (cB KA) = s1 at *
      go_wp2
      go_meet
      case rel => exact ⟨rfl, Below.refl _ _⟩
    · obtain rfl : false = SS := by rw [← HSS.out, decide_eq_false hab]
      have hs : ofL (cB KA) ≠ ofL (cB KB) := fun e => hab (by
        have := ofL_inj hbyA hbyB e
        exact cB_pre (r := []) HMK.out.2.kw HMK.out.1.kw (by rw [List.append_nil]; exact this))
      have hq1 : ¬ (ofL (cB KA)).toList = (ofL (cB KB)).toList := fun e => hs (toL_inj9 e)
      have hq2 : ((ofL (cB KA)).toList == (ofL (cB KB)).toList) = false := by simpa using hq1
      have HBG1 : Hid (∀ X : World, Below w6.heap.size w6 X → Calls Tryz.prog 10 #[.slice a1 a2 a3, .slice b1 b2 b3] X fun e w' => e = .returned (.bool false) ∧ Below X.heap.size X w') := fun X hX => begins_no (cB KA) (cB KB) _ _ X (HNA6.out.later hX) (HNB6.out.later hX) hbyA hbyB (fun r e => hab (cB_pre HMK.out.2.kw HMK.out.1.kw e))
      have HBG2 : Hid (∀ X : World, Below w6.heap.size w6 X → Calls Tryz.prog 10 #[.slice b1 b2 b3, .slice a1 a2 a3] X fun e w' => e = .returned (.bool false) ∧ Below X.heap.size X w') := fun X hX => begins_no (cB KB) (cB KA) _ _ X (HNB6.out.later hX) (HNA6.out.later hX) hbyB hbyA (fun r e => hab (cB_pre HMK.out.1.kw HMK.out.2.kw e).symm)
      clear hab HSS hs
      generalize ofL (cB KA) = s1 at *
      generalize ofL (cB KB) = s2 at *
      go_wp2_with (first
        | (go_at_call 10; refine (HBG1.out _ (Below.refl _ _)).mono ?_; clear HBG1; rintro e wa ⟨rfl, hb⟩; have HBa : Hid (Below w6.heap.size w6 wa) := hb; clear hb)
        | (go_at_call 10; refine (HBG2.out _ HBa.out).mono ?_; clear HBG2; rintro e wb ⟨rfl, hb⟩; have HBb : Hid (Below w6.heap.size w6 wb) := below_step HBa.out hb; clear hb))
      go_meet
      case rel => exact ⟨rfl, HBb.out⟩
  case rest =>
  obtain ⟨rfl, hb⟩ := hcut
  rename World => w7
  have HD7 : Hid (Bx w7 G1 (⟨(⟨⟨dk, dn, ds⟩, dm, da⟩, .slice d1 d2 d3), db, .slice d4 d5 d6, dt, .slice d7 d8 d9⟩ : Cm)) := HD6.out.later hb
  have HQ7 : Hid (Bx w7 G2 (⟨(⟨⟨qk, qn, qs⟩, qm, qa⟩, .slice q1 q2 q3), qb, .slice q4 q5 q6, qt, .slice q7 q8 q9⟩ : Cm)) := HQ6.out.later hb
  have HW7 : Hid (Below w.heap.size w w7) := below_step HW6.out hb
  clear hb HD6 HQ6 HW6 HNA6 HNB6 hcA hcB hbyA hbyB
  go_upto_region 13 with (go_at_call 11; refine (HML.out _ HW7.out).mono ?_; clear HML; rintro e w8 ⟨mv, R', rfl, hmk, hom, hb⟩; have HOM : Hid (OM w7.heap.size w8 mv R' ∧ R'.map Cm.key = Lc.map (fun c => madeK c.key)) := ⟨hom, hmk⟩; obtain ⟨ma, mc, e1⟩ := hom.o.form; have HD8 : Hid (Bx w8 G1 (⟨(⟨⟨dk, dn, ds⟩, dm, da⟩, .slice d1 d2 d3), db, .slice d4 d5 d6, dt, .slice d7 d8 d9⟩ : Cm)) := HD7.out.later hb; have HQ8 : Hid (Bx w8 G2 (⟨(⟨⟨qk, qn, qs⟩, qm, qa⟩, .slice q1 q2 q3), qb, .slice q4 q5 q6, qt, .slice q7 q8 q9⟩ : Cm)) := HQ7.out.later hb; have HW8 : Hid (Below w.heap.size w w8) := below_step HW7.out hb; subst e1; clear hmk hom hb HD7 HQ7 HW7)
  have hRm : ∀ c ∈ R', Mk c.key := fun c hc => by
    have : c.key ∈ R'.map Cm.key := List.mem_map_of_mem hc
    rw [HOM.out.2] at this
    obtain ⟨d, hd, e⟩ := List.mem_map.1 this
    exact ⟨_, e.symm, HRL.out d hd⟩
  have hRl : R'.length = Lc.length := by have := congrArg List.length HOM.out.2; simpa using this
  have HRM : Hid (∀ c ∈ R', Mk c.key) := hRm
  have HCR8 : Hid (∀ X : World, Below w8.heap.size w8 X → CsP X (.slice ma R'.length mc) R') := fun X hX => (HOM.out.1.later hX).csp (fun c hc => (hRm c hc).ks)
  obtain ⟨m1, hm1⟩ : ∃ m, R'.length = m := ⟨_, rfl⟩
  rw [hm1] at HCR8 ⊢
  have HM1 : Hid (R'.length = m1) := hm1
  have lm : m1 ≤ 1100000 := by omega
  have HLR : Hid (R'.length ≤ 1100000) := by show _ ≤ _; omega
  have HMD : Hid (Mk (Cm.key (⟨(⟨⟨dk, dn, ds⟩, dm, da⟩, .slice d1 d2 d3), db, .slice d4 d5 d6, dt, .slice d7 d8 d9⟩ : Cm))) := by show Mk _; rw [HDK.out]; exact HMK.out.1
  have HMQ : Hid (Mk (Cm.key (⟨(⟨⟨qk, qn, qs⟩, qm, qa⟩, .slice q1 q2 q3), qb, .slice q4 q5 q6, qt, .slice q7 q8 q9⟩ : Cm))) := by show Mk _; rw [HQK.out]; exact HMK.out.2
  clear hRm hRl hm1 HOM HRL
  obtain ⟨off, hoff⟩ : ∃ n : Nat, n = (turn.tmod (m1 : Int) + (m1 : Int)).toNat := ⟨_, rfl⟩
  have HOF : Hid (off = (turn.tmod (m1 : Int) + (m1 : Int)).toNat) := hoff
  clear hoff
  go_wp2_with fail
  go_loopg [17, 18] m1 (fun g u i wr => ∃ (j : Nat) (T : List Cm), j + g = m1 ∧ i = .int .i64 j ∧ T.length = 2 * j ∧ OwnC wr w8.heap.size u T ∧ (∀ c ∈ T, c ∈ R' ∨ c = (⟨(⟨⟨dk, dn, ds⟩, dm, da⟩, .slice d1 d2 d3), db, .slice d4 d5 d6, dt, .slice d7 d8 d9⟩ : Cm)) ∧ (∀ i, i < j → ∀ c, R'[(i + off) % m1]? = some c → c ∈ T) ∧ Below w8.heap.size w8 wr)
  case atStart => exact ⟨0, [], by omega, rfl, rfl, OwnC.nil _ _, fun c hc => by simp at hc, fun i hi => by omega, Below.refl _ _⟩
  case round =>
  obtain ⟨j, T, hj, rfl, htl, hot, ht1, ht2, hb⟩ := hrel
  have HTL : Hid (T.length = 2 * j) := htl
  have HOT : Hid (OwnC wr w8.heap.size u17 T) := hot
  have HT1 : Hid (∀ c ∈ T, c ∈ R' ∨ c = (⟨(⟨⟨dk, dn, ds⟩, dm, da⟩, .slice d1 d2 d3), db, .slice d4 d5 d6, dt, .slice d7 d8 d9⟩ : Cm)) := ht1
  have HT2 : Hid (∀ i, i < j → ∀ c, R'[(i + off) % m1]? = some c → c ∈ T) := ht2
  have HB : Hid (Below w8.heap.size w8 wr) := hb
  obtain ⟨k1, k2, k3, rfl⟩ : ∃ a n c, u17 = .slice a n c := by obtain ⟨a, cap, e⟩ := hot.form; exact ⟨_, _, _, e⟩
  clear htl hot ht1 ht2 hb
  cases gk with
  | succ g =>
    have hlt : (j : Int) < (m1 : Int) := by omega
    have hp : (0 : Int) < (m1 : Int) := by omega
    have nz : ¬ ((m1 : Int) = 0) := by omega
    have hb1 := Int.tmod_lt_of_pos turn hp
    have hb2 := Int.lt_tmod_of_pos turn hp
    obtain ⟨kk, hkk⟩ : ∃ k : Nat, k = (j + off) % m1 := ⟨_, rfl⟩
    have HKX : Hid (kk = (j + off) % m1) := hkk
    have hkl : kk < m1 := by rw [hkk]; exact Nat.mod_lt _ (by omega)
    have HKE : Hid (((j : Int) + turn.tmod (m1 : Int) + (m1 : Int)) % (m1 : Int) = (kk : Int)) := by
      show _ = _
      have e : (j : Int) + turn.tmod (m1 : Int) + (m1 : Int) = ((j + off : Nat) : Int) := by have := HOF.out; omega
      rw [e, hkk]
      rfl
    clear hkk
    go_upto_if 85 with fail
    go_cut [19] from 83 to 105 (fun s19 wx => s19 = .int .i64 (kk : Int) ∧ wx = wr)
    case first =>
      go_wp2
      go_meet
      case rel => exact ⟨by first | rw [HKE.out] | trace_state, rfl⟩
    case rest =>
    obtain ⟨rfl, hwx⟩ := hcut
    have hwx' := hwx.symm
    clear hwx
    subst hwx'
    clear HKE hb1 hb2 nz
    obtain ⟨t, ht⟩ : ∃ t, R'[kk]? = some t := ⟨_, List.getElem?_eq_getElem (by have := HM1.out; omega)⟩
    obtain ⟨b, o, rfl, hbs, hr, hok⟩ := (HCR8.out w8 (Below.refl _ _)).at_ ht
    obtain ⟨e0, e1, e2, e3, e4, e5, e6⟩ := hr.seven ht
    obtain ⟨⟨t1, t2, t3, x1⟩, ⟨t4, t6, x2⟩, ⟨t7, t9, x3⟩, -, -⟩ := hok.shape
    obtain ⟨⟨⟨⟨tk, tn, ts⟩, tm, tl⟩, tv⟩, tb, tbv, tt, ttv⟩ := t
    simp only at e0 e1 e2 e3 e4 e5 e6 x1 x2 x3
    subst x1 x2 x3
    have HTO : Hid (Cm.ok w8 (⟨(⟨⟨tk, tn, ts⟩, tm, tl⟩, .slice t1 t2 t3), tb, .slice t4 tb.length t6, tt, .slice t7 tt.length t9⟩ : Cm)) := hok
    have HTG : Hid (R'[kk]? = some (⟨(⟨⟨tk, tn, ts⟩, tm, tl⟩, .slice t1 t2 t3), tb, .slice t4 tb.length t6, tt, .slice t7 tt.length t9⟩ : Cm)) := ht
    have HTM : Hid ((⟨(⟨⟨tk, tn, ts⟩, tm, tl⟩, .slice t1 t2 t3), tb, .slice t4 tb.length t6, tt, .slice t7 tt.length t9⟩ : Cm) ∈ R') := List.mem_of_getElem? ht
    clear hr hok ht
    have i1 : (0 : Int) ≤ (kk : Int) := by omega
    have i2 : (kk : Int) < (m1 : Int) := by omega
    go_upto_region 20 with fail
    have hV0 : OwnC wr.drew w8.heap.size (.slice k1 k2 k3) T := HOT.out.later (Below.refl _ _).drew
    refine wp_region_held_drew (S := fun w' => Below w8.heap.size w8 w') (by kernel_rfl) HB.out.drew (fun hH => ?_)
    revert hH hV0
    generalize wr.drew = V0
    intro hV0 hH
    have HV0 : Hid (OwnC V0 w8.heap.size (.slice k1 k2 k3) T) := hV0
    clear hV0 HOT
    refine wpAnyH_take (i := 0) (oi := ⟨_, _, _, _, _, _⟩) (v := .slice k1 k2 k3) rfl (by kernel_rfl) (by kernel_rfl) (by kernel_rfl) (fun _ _ _ h => h) (Or.inl ⟨by rfl, fun w' h => by clear h; go_simp⟩) hH ?_
    simp only [Act.put, List.setIfInBounds_toArray, List.set_cons_zero, List.set_cons_succ]
    refine wpAnyH_take (i := 1) (oi := ⟨_, _, _, _, _, _⟩) (v := .slice (some ⟨b, o, none⟩) m1 mc) rfl (by kernel_rfl) (by kernel_rfl) (by kernel_rfl) (fun _ _ _ h => h) (Or.inl ⟨by rfl, fun w' h => by clear h; go_simp⟩) hH ?_
    simp only [Act.put, List.setIfInBounds_toArray, List.set_cons_zero, List.set_cons_succ]
    refine wpAnyH_take (i := 2) (oi := ⟨_, _, _, _, _, _⟩) (v := .int .i64 (kk : Int)) rfl (by kernel_rfl) (by kernel_rfl) (by kernel_rfl) (fun _ _ _ h => h) (Or.inl ⟨by rfl, fun w' h => by clear h; go_simp⟩) hH ?_
    simp only [Act.put, List.setIfInBounds_toArray, List.set_cons_zero, List.set_cons_succ]
    refine wpAnyH_take (i := 3) (oi := ⟨_, _, _, _, _, _⟩) (v := .pointer (some ⟨b, o + kk * 7, none⟩)) rfl (by kernel_rfl) (by kernel_rfl) (by kernel_rfl) (fun _ _ _ h => h) (Or.inl ⟨by rfl, fun w' h => by clear h; go_simp⟩) hH ?_
    simp only [Act.put, List.setIfInBounds_toArray, List.set_cons_zero, List.set_cons_succ]
    refine wpAnyH_take (i := 4) (oi := ⟨_, _, _, _, _, _⟩) (v := .agg #[.int .i64 tk, .int .i64 tn, .string ts, .string tm, .slice t1 t2 t3, .slice t4 tb.length t6, .slice t7 tt.length t9]) rfl (by kernel_rfl) (by kernel_rfl) (by kernel_rfl) (fun _ _ _ h => h) (Or.inl ⟨by rfl, fun w' h => by have z0 := cell_step h hbs e0; have z1 := cell_step h hbs e1; have z2 := cell_step h hbs e2; have z3 := cell_step h hbs e3; have z4 := cell_step h hbs e4; have z5 := cell_step h hbs e5; have z6 := cell_step h hbs e6; clear h; go_simp⟩) hH ?_
    simp only [Act.put, List.setIfInBounds_toArray, List.set_cons_zero, List.set_cons_succ]
    refine wpAnyH_take (i := 5) (oi := ⟨_, _, _, _, _, _⟩) (v := .agg #[.int .i64 dk, .int .i64 dn, .string ds, .string dm, .slice d1 d2 d3, .slice d4 d5 d6, .slice d7 d8 d9]) rfl (by kernel_rfl) (by kernel_rfl) (by kernel_rfl) (fun _ _ _ h => h) (Or.inl ⟨by rfl, fun w' h => by obtain ⟨z0, z1, z2, z3, z4, z5, z6⟩ := cseven (CBlk.later (Hid.out HD8).b h); clear h; go_simp⟩) hH ?_
    simp only [Act.put, List.setIfInBounds_toArray, List.set_cons_zero, List.set_cons_succ]
    refine wpAnyH_ready (rs := [6]) (by kernel_rfl) (by simp) ?_
    refine (AllReadyH.cons (o := ⟨_, _, _, _, _, _⟩) rfl (fun K hK => ?_) AllReadyH.nil)
    go_simp
    have HV1 : Hid (OwnC (V0.alloc (.cells #[.int .i64 tk, .int .i64 tn, .string ts, .string tm, .slice t1 t2 t3, .slice t4 tb.length t6, .slice t7 tt.length t9, .int .i64 dk, .int .i64 dn, .string ds, .string dm, .slice d1 d2 d3, .slice d4 d5 d6, .slice d7 d8 d9] 30)) w8.heap.size (.slice k1 k2 k3) T) := HV0.out.later (below1 _ _)
    have HG1 : Hid (CBlk (V0.alloc (.cells #[.int .i64 tk, .int .i64 tn, .string ts, .string tm, .slice t1 t2 t3, .slice t4 tb.length t6, .slice t7 tt.length t9, .int .i64 dk, .int .i64 dn, .string ds, .string dm, .slice d1 d2 d3, .slice d4 d5 d6, .slice d7 d8 d9] 30)) V0.heap.size #[.int .i64 tk, .int .i64 tn, .string ts, .string tm, .slice t1 t2 t3, .slice t4 tb.length t6, .slice t7 tt.length t9, .int .i64 dk, .int .i64 dn, .string ds, .string dm, .slice d1 d2 d3, .slice d4 d5 d6, .slice d7 d8 d9] 30) := CBlk.new _ _ _
    have HBV : Hid (Below w8.heap.size w8 (V0.alloc (.cells #[.int .i64 tk, .int .i64 tn, .string ts, .string tm, .slice t1 t2 t3, .slice t4 tb.length t6, .slice t7 tt.length t9, .int .i64 dk, .int .i64 dn, .string ds, .string dm, .slice d1 d2 d3, .slice d4 d5 d6, .slice d7 d8 d9] 30))) := hH.trans ((below1 _ _).mono hH.size)
    clear hH
    refine hK.out _ _ HBV.out (fun hH => ?_)
    clear hK K HV0
    revert hH HV1 HG1 HBV
    generalize V0.alloc (.cells #[.int .i64 tk, .int .i64 tn, .string ts, .string tm, .slice t1 t2 t3, .slice t4 tb.length t6, .slice t7 tt.length t9, .int .i64 dk, .int .i64 dn, .string ds, .string dm, .slice d1 d2 d3, .slice d4 d5 d6, .slice d7 d8 d9] 30) = V1
    generalize V0.heap.size = GG1
    intro HV1 HG1 HBV hH
    refine wpAnyH_ready (rs := [7]) (by kernel_rfl) (by simp) ?_
    refine (AllReadyH.cons (o := ⟨_, _, _, _, _, _⟩) rfl (fun K hK => ?_) AllReadyH.nil)
    refine cstep_two9 rfl _ _ rfl w8.heap.size (.slice k1 k2 k3) T (by rfl) HV1.out GG1 (⟨(⟨⟨tk, tn, ts⟩, tm, tl⟩, .slice t1 t2 t3), tb, .slice t4 tb.length t6, tt, .slice t7 tt.length t9⟩ : Cm) (⟨(⟨⟨dk, dn, ds⟩, dm, da⟩, .slice d1 d2 d3), db, .slice d4 d5 d6, dt, .slice d7 d8 d9⟩ : Cm) (by rfl) HG1.out HTO.out HD8.out.o (by have := HTL.out; omega) HBV.out.size ?_
    intro v' w3 hown hb3
    have HO3 : Hid (OwnC w3 w8.heap.size v' (T ++ [(⟨(⟨⟨tk, tn, ts⟩, tm, tl⟩, .slice t1 t2 t3), tb, .slice t4 tb.length t6, tt, .slice t7 tt.length t9⟩ : Cm), (⟨(⟨⟨dk, dn, ds⟩, dm, da⟩, .slice d1 d2 d3), db, .slice d4 d5 d6, dt, .slice d7 d8 d9⟩ : Cm)])) := hown
    have HB3 : Hid (Below w8.heap.size w8 w3) := HBV.out.trans hb3
    clear hown hb3 HV1 HG1 hH HBV
    refine hK.out _ _ HB3.out (fun hH => ?_)
    clear hK K
    simp only [Act.put, List.setIfInBounds_toArray, List.set_cons_zero, List.set_cons_succ]
    refine wpAnyH_take (i := 8) (oi := ⟨_, _, _, _, _, _⟩) (v := v') rfl (by kernel_rfl) (by kernel_rfl) (by kernel_rfl) (fun _ _ _ h => h) (Or.inl ⟨by rfl, fun w' h => by clear h; go_simp⟩) hH ?_
    simp only [Act.put, List.setIfInBounds_toArray, List.set_cons_zero, List.set_cons_succ]
    refine wpAnyH_done (by kernel_rfl) ?_ _
    clear hH
    go_wp2_with fail
    go_roundg g
    case measure => omega
    case rel => exact ⟨j + 1, T ++ [(⟨(⟨⟨tk, tn, ts⟩, tm, tl⟩, .slice t1 t2 t3), tb, .slice t4 tb.length t6, tt, .slice t7 tt.length t9⟩ : Cm), (⟨(⟨⟨dk, dn, ds⟩, dm, da⟩, .slice d1 d2 d3), db, .slice d4 d5 d6, dt, .slice d7 d8 d9⟩ : Cm)], by omega, by go_num, by have := HTL.out; simp only [List.length_append, List.length_cons, List.length_nil]; omega, HO3.out, (fun c hc => by rcases List.mem_append.1 hc with hc | hc; exact HT1.out c hc; simp only [List.mem_cons, List.not_mem_nil, or_false] at hc; rcases hc with rfl | rfl; exact Or.inl HTM.out; exact Or.inr rfl), (fun i hi c hc => by by_cases h' : i < j; exact List.mem_append_left _ (HT2.out i h' c hc); obtain rfl : i = j := (by omega); rw [← HKX.out] at hc; rw [HTG.out] at hc; cases hc; simp), HB3.out⟩
  | zero =>
  obtain rfl : m1 = j := by omega
  have hz : ¬ ((m1 : Int) < (m1 : Int)) := by omega
  have HD9 : Hid (Bx wr G1 (⟨(⟨⟨dk, dn, ds⟩, dm, da⟩, .slice d1 d2 d3), db, .slice d4 d5 d6, dt, .slice d7 d8 d9⟩ : Cm)) := HD8.out.later HB.out
  have HQ9 : Hid (Bx wr G2 (⟨(⟨⟨qk, qn, qs⟩, qm, qa⟩, .slice q1 q2 q3), qb, .slice q4 q5 q6, qt, .slice q7 q8 q9⟩ : Cm)) := HQ8.out.later HB.out
  have HW9 : Hid (Below w.heap.size w wr) := below_step HW8.out HB.out
  have HB9 : Hid (Below w8.heap.size w8 wr) := HB.out
  have HDO8 : Hid (∀ X : World, Below w8.heap.size w8 X → Cm.ok X (⟨(⟨⟨dk, dn, ds⟩, dm, da⟩, .slice d1 d2 d3), db, .slice d4 d5 d6, dt, .slice d7 d8 d9⟩ : Cm)) := fun X hX => HD8.out.o.later hX
  have HQO8 : Hid (∀ X : World, Below w8.heap.size w8 X → Cm.ok X (⟨(⟨⟨qk, qn, qs⟩, qm, qa⟩, .slice q1 q2 q3), qb, .slice q4 q5 q6, qt, .slice q7 q8 q9⟩ : Cm)) := fun X hX => HQ8.out.o.later hX
  clear HB hj
  generalize hwo : wr = w9 at *
  clear hwo
  go_upto_region 21 with fail
  clear hz
  have HOK9 : Hid (∀ c ∈ R' ++ [(⟨(⟨⟨dk, dn, ds⟩, dm, da⟩, .slice d1 d2 d3), db, .slice d4 d5 d6, dt, .slice d7 d8 d9⟩ : Cm)], c.ok w9) := fun c hc => by
    rcases List.mem_append.1 hc with hc | hc
    · exact (HCR8.out w9 HB9.out).ok c hc
    · rw [List.mem_singleton] at hc; subst hc; exact HD9.out.o
  have HCR : Hid (∀ X : World, Below w9.heap.size w9 X → CsP X (.slice ma m1 mc) R') := fun X hX => (HCR8.out w9 HB9.out).later hX
  have HST : Hid (∀ (X : World) (v : Value), CsP X v (R' ++ [(⟨(⟨⟨dk, dn, ds⟩, dm, da⟩, .slice d1 d2 d3), db, .slice d4 d5 d6, dt, .slice d7 d8 d9⟩ : Cm)]) → Calls Tryz.prog 12 #[v] X fun e w' => ∃ v' K, e = .returned (.tuple #[v', .int .i64 0]) ∧ SetK K (R' ++ [(⟨(⟨⟨dk, dn, ds⟩, dm, da⟩, .slice d1 d2 d3), db, .slice d4 d5 d6, dt, .slice d7 d8 d9⟩ : Cm)]) ∧ K.length ≤ 4000000 ∧ OwnB w' 0 v' (sBy K) ∧ Below X.heap.size X w') := fun X v h => setM_any _ v X h (by have := HLR.out; simp only [List.length_append, List.length_cons, List.length_nil]; omega) (fun c hc => by
    rcases List.mem_append.1 hc with hc | hc
    · exact HRM.out c hc
    · rw [List.mem_singleton] at hc; subst hc; exact HMD.out)
  go_cut [20, 21] from 106 (fun s20 s21 wx => ∃ (vs : Value) (K : List Ck), s20 = vs ∧ s21 = .int .i64 0 ∧ SetK K (R' ++ [(⟨(⟨⟨dk, dn, ds⟩, dm, da⟩, .slice d1 d2 d3), db, .slice d4 d5 d6, dt, .slice d7 d8 d9⟩ : Cm)]) ∧ K.length ≤ 4000000 ∧ OwnB wx 0 vs (sBy K) ∧ Below w9.heap.size w9 wx)
  case first =>
    refine wp_region_held_drew (S := fun w' => Below w9.heap.size w9 w') (by kernel_rfl) (Below.refl _ _).drew (fun hH => ?_)
    revert hH
    generalize w9.drew = V1_0
    intro hH
    refine wpAnyH_take (i := 1) (oi := ⟨_, _, _, _, _, _⟩) (v := .slice ma m1 mc) rfl (by kernel_rfl) (by kernel_rfl) (by kernel_rfl) (fun _ _ _ h => h) (Or.inl ⟨by rfl, fun w' h => by clear h; go_simp⟩) hH ?_
    simp only [Act.put, List.setIfInBounds_toArray, List.set_cons_zero, List.set_cons_succ]
    refine wpAnyH_take (i := 3) (oi := ⟨_, _, _, _, _, _⟩) (v := .agg #[.int .i64 dk, .int .i64 dn, .string ds, .string dm, .slice d1 d2 d3, .slice d4 d5 d6, .slice d7 d8 d9]) rfl (by kernel_rfl) (by kernel_rfl) (by kernel_rfl) (fun _ _ _ h => h) (Or.inl ⟨by rfl, fun w' h => by obtain ⟨z0, z1, z2, z3, z4, z5, z6⟩ := cseven (CBlk.later (Hid.out HD9).b h); clear h; go_simp⟩) hH ?_
    simp only [Act.put, List.setIfInBounds_toArray, List.set_cons_zero, List.set_cons_succ]
    refine wpAnyH_ready (rs := [0, 4]) (by kernel_rfl) (by simp) ?_
    refine (AllReadyH.cons (o := ⟨_, _, _, _, _, _⟩) rfl (fun K hK => ?_) (AllReadyH.cons (o := ⟨_, _, _, _, _, _⟩) rfl (fun K hK => ?_) AllReadyH.nil))
    · go_simp
      have HE : Hid (OwnC (V1_0.alloc (.cells #[] 30)) w9.heap.size (.slice (some ⟨V1_0.heap.size, 0, none⟩) 0 0) []) := OwnC.empty (CBlk.new _ _ _) hH.size
      refine hK.out _ _ (below_step hH (below1 _ _)) (fun hH => ?_)
      clear hK K
      revert hH HE 
      generalize V1_0.alloc (.cells #[] 30) = U1_1
      generalize V1_0.heap.size = g0
      intro HE  hH
      refine wpAnyH_ready (rs := [2, 4]) (by kernel_rfl) (by simp) ?_
      refine (AllReadyH.cons (o := ⟨_, _, _, _, _, _⟩) rfl (fun K hK => ?_) (AllReadyH.cons (o := ⟨_, _, _, _, _, _⟩) rfl (fun K hK => ?_) AllReadyH.nil))
      · refine cstep_list rfl _ _ rfl w9.heap.size (.slice (some ⟨g0, 0, none⟩) 0 0) [] (by rfl) HE.out (.slice ma m1 mc) R' (by rfl) (HCR.out _ hH) (by simp only [List.length_nil]; have := HLR.out; omega) hH.size ?_
        intro va U1_2 hown hb9 hg9
        rw [List.nil_append] at hown
        have HA : Hid (OwnC U1_2 w9.heap.size va R') := hown
        refine hK.out _ _ (hH.trans hb9) (fun hH => ?_)
        clear hK K hown hb9 hg9
        try simp only [Act.put, List.setIfInBounds_toArray, List.set_cons_zero, List.set_cons_succ]
        refine wpAnyH_ready (rs := [4]) (by kernel_rfl) (by simp) ?_
        refine (AllReadyH.cons (o := ⟨_, _, _, _, _, _⟩) rfl (fun K hK => ?_) AllReadyH.nil)
        go_simp
        have HN : Hid (CBlk (U1_2.alloc (.cells #[.int .i64 dk, .int .i64 dn, .string ds, .string dm, .slice d1 d2 d3, .slice d4 d5 d6, .slice d7 d8 d9] 30)) U1_2.heap.size #[.int .i64 dk, .int .i64 dn, .string ds, .string dm, .slice d1 d2 d3, .slice d4 d5 d6, .slice d7 d8 d9] 30) := CBlk.new _ _ _
        have HA : Hid (OwnC (U1_2.alloc (.cells #[.int .i64 dk, .int .i64 dn, .string ds, .string dm, .slice d1 d2 d3, .slice d4 d5 d6, .slice d7 d8 d9] 30)) w9.heap.size va R') := HA.out.later (below1 _ _)
        refine hK.out _ _ (below_step hH (below1 _ _)) (fun hH => ?_)
        clear hK K
        revert hH HN HA
        generalize U1_2.alloc (.cells #[.int .i64 dk, .int .i64 dn, .string ds, .string dm, .slice d1 d2 d3, .slice d4 d5 d6, .slice d7 d8 d9] 30) = U1_3
        generalize U1_2.heap.size = g1
        intro HN HA hH
        refine wpAnyH_ready (rs := [5]) (by kernel_rfl) (by simp) ?_
        refine (AllReadyH.cons (o := ⟨_, _, _, _, _, _⟩) rfl (fun K hK => ?_) AllReadyH.nil)
        refine cstep_one rfl _ _ rfl w9.heap.size va R' (by rfl) HA.out g1 (⟨(⟨⟨dk, dn, ds⟩, dm, da⟩, .slice d1 d2 d3), db, .slice d4 d5 d6, dt, .slice d7 d8 d9⟩ : Cm) (by rfl) (show CBlk _ _ (Cm.cs (⟨(⟨⟨dk, dn, ds⟩, dm, da⟩, .slice d1 d2 d3), db, .slice d4 d5 d6, dt, .slice d7 d8 d9⟩ : Cm)) _ from HN.out) (W := w9) HD9.out.o (by have := HLR.out; omega) hH.size ?_
        intro vb U1_6 hown hb9
        have HC9 : Hid (CsP U1_6 vb (R' ++ [(⟨(⟨⟨dk, dn, ds⟩, dm, da⟩, .slice d1 d2 d3), db, .slice d4 d5 d6, dt, .slice d7 d8 d9⟩ : Cm)])) := hown.csp (fun c hc => (HOK9.out c hc).later (hH.trans hb9))
        refine hK.out _ _ (hH.trans hb9) (fun hH => ?_)
        clear hK K hown hb9
        try simp only [Act.put, List.setIfInBounds_toArray, List.set_cons_zero, List.set_cons_succ]
        refine wpAnyH_ready (rs := [6]) (by kernel_rfl) (by simp) ?_
        refine (AllReadyH.cons (o := ⟨_, _, _, _, _, _⟩) rfl (fun K hK => ?_) AllReadyH.nil)
        go_simp
        refine (HST.out _ _ HC9.out).mono ?_
        rintro e U1_7 ⟨vs, K9, rfl, hk9, hl9, hn9, hb9⟩
        have HK9 : Hid (SetK K9 _ ∧ K9.length ≤ 4000000) := ⟨hk9, hl9⟩
        have HN9 : Hid (OwnB U1_7 0 vs (sBy K9)) := hn9
        refine hK.out _ _ (below_step hH hb9) (fun hH => ?_)
        clear hK K hk9 hl9 hn9 hb9
        try simp only [Act.put, List.setIfInBounds_toArray, List.set_cons_zero, List.set_cons_succ]
        refine wpAnyH_take (i := 7) (oi := ⟨_, _, _, _, _, _⟩) (v := .tuple #[vs, .int .i64 0]) rfl (by kernel_rfl) (by kernel_rfl) (by kernel_rfl) (fun _ _ _ h => h) (Or.inl ⟨by rfl, fun w' h => by clear h; go_simp⟩) hH ?_
        simp only [Act.put, List.setIfInBounds_toArray, List.set_cons_zero, List.set_cons_succ]
        refine wpAnyH_take (i := 8) (oi := ⟨_, _, _, _, _, _⟩) (v := vs) rfl (by kernel_rfl) (by kernel_rfl) (by kernel_rfl) (fun _ _ _ h => h) (Or.inl ⟨by rfl, fun w' h => by clear h; go_simp⟩) hH ?_
        simp only [Act.put, List.setIfInBounds_toArray, List.set_cons_zero, List.set_cons_succ]
        refine wpAnyH_take (i := 9) (oi := ⟨_, _, _, _, _, _⟩) (v := .int .i64 0) rfl (by kernel_rfl) (by kernel_rfl) (by kernel_rfl) (fun _ _ _ h => h) (Or.inl ⟨by rfl, fun w' h => by clear h; go_simp⟩) hH ?_
        simp only [Act.put, List.setIfInBounds_toArray, List.set_cons_zero, List.set_cons_succ]
        refine wpAnyH_take (i := 10) (oi := ⟨_, _, _, _, _, _⟩) (v := vs) rfl (by kernel_rfl) (by kernel_rfl) (by kernel_rfl) (fun _ _ _ h => h) (Or.inl ⟨by rfl, fun w' h => by clear h; go_simp⟩) hH ?_
        simp only [Act.put, List.setIfInBounds_toArray, List.set_cons_zero, List.set_cons_succ]
        refine wpAnyH_take (i := 11) (oi := ⟨_, _, _, _, _, _⟩) (v := .int .i64 0) rfl (by kernel_rfl) (by kernel_rfl) (by kernel_rfl) (fun _ _ _ h => h) (Or.inl ⟨by rfl, fun w' h => by clear h; go_simp⟩) hH ?_
        simp only [Act.put, List.setIfInBounds_toArray, List.set_cons_zero, List.set_cons_succ]
        refine wpAnyH_done (by kernel_rfl) ?_ _
        go_wp2_with fail
        go_meet
        case rel => exact ⟨vs, K9, rfl, rfl, HK9.out.1, HK9.out.2, HN9.out, hH⟩
      · go_simp
        have HN : Hid (CBlk (U1_1.alloc (.cells #[.int .i64 dk, .int .i64 dn, .string ds, .string dm, .slice d1 d2 d3, .slice d4 d5 d6, .slice d7 d8 d9] 30)) U1_1.heap.size #[.int .i64 dk, .int .i64 dn, .string ds, .string dm, .slice d1 d2 d3, .slice d4 d5 d6, .slice d7 d8 d9] 30) := CBlk.new _ _ _
        have HE : Hid (OwnC (U1_1.alloc (.cells #[.int .i64 dk, .int .i64 dn, .string ds, .string dm, .slice d1 d2 d3, .slice d4 d5 d6, .slice d7 d8 d9] 30)) w9.heap.size (.slice (some ⟨g0, 0, none⟩) 0 0) []) := HE.out.later (below1 _ _)
        refine hK.out _ _ (below_step hH (below1 _ _)) (fun hH => ?_)
        clear hK K
        revert hH HN HE
        generalize U1_1.alloc (.cells #[.int .i64 dk, .int .i64 dn, .string ds, .string dm, .slice d1 d2 d3, .slice d4 d5 d6, .slice d7 d8 d9] 30) = U1_4
        generalize U1_1.heap.size = g1
        intro HN HE hH
        have HNE : Hid (g0 ≠ g1) := fun ee => by have h1 := HE.out; have h2 := HN.out; rw [← ee] at h2; exact own_ne h1 h2 (by simp)
        refine wpAnyH_ready (rs := [2]) (by kernel_rfl) (by simp) ?_
        refine (AllReadyH.cons (o := ⟨_, _, _, _, _, _⟩) rfl (fun K hK => ?_) AllReadyH.nil)
        refine cstep_list rfl _ _ rfl w9.heap.size (.slice (some ⟨g0, 0, none⟩) 0 0) [] (by rfl) HE.out (.slice ma m1 mc) R' (by rfl) (HCR.out _ hH) (by simp only [List.length_nil]; have := HLR.out; omega) hH.size ?_
        intro va U1_5 hown hb9 hg9
        rw [List.nil_append] at hown
        have HA : Hid (OwnC U1_5 w9.heap.size va R') := hown
        have HN : Hid (CBlk U1_5 g1 #[.int .i64 dk, .int .i64 dn, .string ds, .string dm, .slice d1 d2 d3, .slice d4 d5 d6, .slice d7 d8 d9] 30) := cblk_grown HE.out HN.out hg9 HNE.out
        refine hK.out _ _ (hH.trans hb9) (fun hH => ?_)
        clear hK K hown hb9 hg9
        try simp only [Act.put, List.setIfInBounds_toArray, List.set_cons_zero, List.set_cons_succ]
        refine wpAnyH_ready (rs := [5]) (by kernel_rfl) (by simp) ?_
        refine (AllReadyH.cons (o := ⟨_, _, _, _, _, _⟩) rfl (fun K hK => ?_) AllReadyH.nil)
        refine cstep_one rfl _ _ rfl w9.heap.size va R' (by rfl) HA.out g1 (⟨(⟨⟨dk, dn, ds⟩, dm, da⟩, .slice d1 d2 d3), db, .slice d4 d5 d6, dt, .slice d7 d8 d9⟩ : Cm) (by rfl) (show CBlk _ _ (Cm.cs (⟨(⟨⟨dk, dn, ds⟩, dm, da⟩, .slice d1 d2 d3), db, .slice d4 d5 d6, dt, .slice d7 d8 d9⟩ : Cm)) _ from HN.out) (W := w9) HD9.out.o (by have := HLR.out; omega) hH.size ?_
        intro vb U1_8 hown hb9
        have HC9 : Hid (CsP U1_8 vb (R' ++ [(⟨(⟨⟨dk, dn, ds⟩, dm, da⟩, .slice d1 d2 d3), db, .slice d4 d5 d6, dt, .slice d7 d8 d9⟩ : Cm)])) := hown.csp (fun c hc => (HOK9.out c hc).later (hH.trans hb9))
        refine hK.out _ _ (hH.trans hb9) (fun hH => ?_)
        clear hK K hown hb9
        try simp only [Act.put, List.setIfInBounds_toArray, List.set_cons_zero, List.set_cons_succ]
        refine wpAnyH_ready (rs := [6]) (by kernel_rfl) (by simp) ?_
        refine (AllReadyH.cons (o := ⟨_, _, _, _, _, _⟩) rfl (fun K hK => ?_) AllReadyH.nil)
        go_simp
        refine (HST.out _ _ HC9.out).mono ?_
        rintro e U1_9 ⟨vs, K9, rfl, hk9, hl9, hn9, hb9⟩
        have HK9 : Hid (SetK K9 _ ∧ K9.length ≤ 4000000) := ⟨hk9, hl9⟩
        have HN9 : Hid (OwnB U1_9 0 vs (sBy K9)) := hn9
        refine hK.out _ _ (below_step hH hb9) (fun hH => ?_)
        clear hK K hk9 hl9 hn9 hb9
        try simp only [Act.put, List.setIfInBounds_toArray, List.set_cons_zero, List.set_cons_succ]
        refine wpAnyH_take (i := 7) (oi := ⟨_, _, _, _, _, _⟩) (v := .tuple #[vs, .int .i64 0]) rfl (by kernel_rfl) (by kernel_rfl) (by kernel_rfl) (fun _ _ _ h => h) (Or.inl ⟨by rfl, fun w' h => by clear h; go_simp⟩) hH ?_
        simp only [Act.put, List.setIfInBounds_toArray, List.set_cons_zero, List.set_cons_succ]
        refine wpAnyH_take (i := 8) (oi := ⟨_, _, _, _, _, _⟩) (v := vs) rfl (by kernel_rfl) (by kernel_rfl) (by kernel_rfl) (fun _ _ _ h => h) (Or.inl ⟨by rfl, fun w' h => by clear h; go_simp⟩) hH ?_
        simp only [Act.put, List.setIfInBounds_toArray, List.set_cons_zero, List.set_cons_succ]
        refine wpAnyH_take (i := 9) (oi := ⟨_, _, _, _, _, _⟩) (v := .int .i64 0) rfl (by kernel_rfl) (by kernel_rfl) (by kernel_rfl) (fun _ _ _ h => h) (Or.inl ⟨by rfl, fun w' h => by clear h; go_simp⟩) hH ?_
        simp only [Act.put, List.setIfInBounds_toArray, List.set_cons_zero, List.set_cons_succ]
        refine wpAnyH_take (i := 10) (oi := ⟨_, _, _, _, _, _⟩) (v := vs) rfl (by kernel_rfl) (by kernel_rfl) (by kernel_rfl) (fun _ _ _ h => h) (Or.inl ⟨by rfl, fun w' h => by clear h; go_simp⟩) hH ?_
        simp only [Act.put, List.setIfInBounds_toArray, List.set_cons_zero, List.set_cons_succ]
        refine wpAnyH_take (i := 11) (oi := ⟨_, _, _, _, _, _⟩) (v := .int .i64 0) rfl (by kernel_rfl) (by kernel_rfl) (by kernel_rfl) (fun _ _ _ h => h) (Or.inl ⟨by rfl, fun w' h => by clear h; go_simp⟩) hH ?_
        simp only [Act.put, List.setIfInBounds_toArray, List.set_cons_zero, List.set_cons_succ]
        refine wpAnyH_done (by kernel_rfl) ?_ _
        go_wp2_with fail
        go_meet
        case rel => exact ⟨vs, K9, rfl, rfl, HK9.out.1, HK9.out.2, HN9.out, hH⟩
    · go_simp
      have HN : Hid (CBlk (V1_0.alloc (.cells #[.int .i64 dk, .int .i64 dn, .string ds, .string dm, .slice d1 d2 d3, .slice d4 d5 d6, .slice d7 d8 d9] 30)) V1_0.heap.size #[.int .i64 dk, .int .i64 dn, .string ds, .string dm, .slice d1 d2 d3, .slice d4 d5 d6, .slice d7 d8 d9] 30) := CBlk.new _ _ _
      refine hK.out _ _ (below_step hH (below1 _ _)) (fun hH => ?_)
      clear hK K
      revert hH HN 
      generalize V1_0.alloc (.cells #[.int .i64 dk, .int .i64 dn, .string ds, .string dm, .slice d1 d2 d3, .slice d4 d5 d6, .slice d7 d8 d9] 30) = U1_10
      generalize V1_0.heap.size = g1
      intro HN  hH
      refine wpAnyH_ready (rs := [0]) (by kernel_rfl) (by simp) ?_
      refine (AllReadyH.cons (o := ⟨_, _, _, _, _, _⟩) rfl (fun K hK => ?_) AllReadyH.nil)
      go_simp
      have HE : Hid (OwnC (U1_10.alloc (.cells #[] 30)) w9.heap.size (.slice (some ⟨U1_10.heap.size, 0, none⟩) 0 0) []) := OwnC.empty (CBlk.new _ _ _) hH.size
      have HN : Hid (CBlk (U1_10.alloc (.cells #[] 30)) g1 #[.int .i64 dk, .int .i64 dn, .string ds, .string dm, .slice d1 d2 d3, .slice d4 d5 d6, .slice d7 d8 d9] 30) := HN.out.later (below1 _ _)
      refine hK.out _ _ (below_step hH (below1 _ _)) (fun hH => ?_)
      clear hK K
      revert hH HE HN
      generalize U1_10.alloc (.cells #[] 30) = U1_11
      generalize U1_10.heap.size = g0
      intro HE HN hH
      have HNE : Hid (g0 ≠ g1) := fun ee => by have h1 := HE.out; have h2 := HN.out; rw [← ee] at h2; exact own_ne h1 h2 (by simp)
      refine wpAnyH_ready (rs := [2]) (by kernel_rfl) (by simp) ?_
      refine (AllReadyH.cons (o := ⟨_, _, _, _, _, _⟩) rfl (fun K hK => ?_) AllReadyH.nil)
      refine cstep_list rfl _ _ rfl w9.heap.size (.slice (some ⟨g0, 0, none⟩) 0 0) [] (by rfl) HE.out (.slice ma m1 mc) R' (by rfl) (HCR.out _ hH) (by simp only [List.length_nil]; have := HLR.out; omega) hH.size ?_
      intro va U1_12 hown hb9 hg9
      rw [List.nil_append] at hown
      have HA : Hid (OwnC U1_12 w9.heap.size va R') := hown
      have HN : Hid (CBlk U1_12 g1 #[.int .i64 dk, .int .i64 dn, .string ds, .string dm, .slice d1 d2 d3, .slice d4 d5 d6, .slice d7 d8 d9] 30) := cblk_grown HE.out HN.out hg9 HNE.out
      refine hK.out _ _ (hH.trans hb9) (fun hH => ?_)
      clear hK K hown hb9 hg9
      try simp only [Act.put, List.setIfInBounds_toArray, List.set_cons_zero, List.set_cons_succ]
      refine wpAnyH_ready (rs := [5]) (by kernel_rfl) (by simp) ?_
      refine (AllReadyH.cons (o := ⟨_, _, _, _, _, _⟩) rfl (fun K hK => ?_) AllReadyH.nil)
      refine cstep_one rfl _ _ rfl w9.heap.size va R' (by rfl) HA.out g1 (⟨(⟨⟨dk, dn, ds⟩, dm, da⟩, .slice d1 d2 d3), db, .slice d4 d5 d6, dt, .slice d7 d8 d9⟩ : Cm) (by rfl) (show CBlk _ _ (Cm.cs (⟨(⟨⟨dk, dn, ds⟩, dm, da⟩, .slice d1 d2 d3), db, .slice d4 d5 d6, dt, .slice d7 d8 d9⟩ : Cm)) _ from HN.out) (W := w9) HD9.out.o (by have := HLR.out; omega) hH.size ?_
      intro vb U1_13 hown hb9
      have HC9 : Hid (CsP U1_13 vb (R' ++ [(⟨(⟨⟨dk, dn, ds⟩, dm, da⟩, .slice d1 d2 d3), db, .slice d4 d5 d6, dt, .slice d7 d8 d9⟩ : Cm)])) := hown.csp (fun c hc => (HOK9.out c hc).later (hH.trans hb9))
      refine hK.out _ _ (hH.trans hb9) (fun hH => ?_)
      clear hK K hown hb9
      try simp only [Act.put, List.setIfInBounds_toArray, List.set_cons_zero, List.set_cons_succ]
      refine wpAnyH_ready (rs := [6]) (by kernel_rfl) (by simp) ?_
      refine (AllReadyH.cons (o := ⟨_, _, _, _, _, _⟩) rfl (fun K hK => ?_) AllReadyH.nil)
      go_simp
      refine (HST.out _ _ HC9.out).mono ?_
      rintro e U1_14 ⟨vs, K9, rfl, hk9, hl9, hn9, hb9⟩
      have HK9 : Hid (SetK K9 _ ∧ K9.length ≤ 4000000) := ⟨hk9, hl9⟩
      have HN9 : Hid (OwnB U1_14 0 vs (sBy K9)) := hn9
      refine hK.out _ _ (below_step hH hb9) (fun hH => ?_)
      clear hK K hk9 hl9 hn9 hb9
      try simp only [Act.put, List.setIfInBounds_toArray, List.set_cons_zero, List.set_cons_succ]
      refine wpAnyH_take (i := 7) (oi := ⟨_, _, _, _, _, _⟩) (v := .tuple #[vs, .int .i64 0]) rfl (by kernel_rfl) (by kernel_rfl) (by kernel_rfl) (fun _ _ _ h => h) (Or.inl ⟨by rfl, fun w' h => by clear h; go_simp⟩) hH ?_
      simp only [Act.put, List.setIfInBounds_toArray, List.set_cons_zero, List.set_cons_succ]
      refine wpAnyH_take (i := 8) (oi := ⟨_, _, _, _, _, _⟩) (v := vs) rfl (by kernel_rfl) (by kernel_rfl) (by kernel_rfl) (fun _ _ _ h => h) (Or.inl ⟨by rfl, fun w' h => by clear h; go_simp⟩) hH ?_
      simp only [Act.put, List.setIfInBounds_toArray, List.set_cons_zero, List.set_cons_succ]
      refine wpAnyH_take (i := 9) (oi := ⟨_, _, _, _, _, _⟩) (v := .int .i64 0) rfl (by kernel_rfl) (by kernel_rfl) (by kernel_rfl) (fun _ _ _ h => h) (Or.inl ⟨by rfl, fun w' h => by clear h; go_simp⟩) hH ?_
      simp only [Act.put, List.setIfInBounds_toArray, List.set_cons_zero, List.set_cons_succ]
      refine wpAnyH_take (i := 10) (oi := ⟨_, _, _, _, _, _⟩) (v := vs) rfl (by kernel_rfl) (by kernel_rfl) (by kernel_rfl) (fun _ _ _ h => h) (Or.inl ⟨by rfl, fun w' h => by clear h; go_simp⟩) hH ?_
      simp only [Act.put, List.setIfInBounds_toArray, List.set_cons_zero, List.set_cons_succ]
      refine wpAnyH_take (i := 11) (oi := ⟨_, _, _, _, _, _⟩) (v := .int .i64 0) rfl (by kernel_rfl) (by kernel_rfl) (by kernel_rfl) (fun _ _ _ h => h) (Or.inl ⟨by rfl, fun w' h => by clear h; go_simp⟩) hH ?_
      simp only [Act.put, List.setIfInBounds_toArray, List.set_cons_zero, List.set_cons_succ]
      refine wpAnyH_done (by kernel_rfl) ?_ _
      go_wp2_with fail
      go_meet
      case rel => exact ⟨vs, K9, rfl, rfl, HK9.out.1, HK9.out.2, HN9.out, hH⟩
  case rest =>
  obtain ⟨vs1, K1, e20, rfl, hk1, hl1, hn1, hb⟩ := hcut
  rename World => w10
  obtain ⟨f1, f2, f3, rfl⟩ := ownB_form hn1
  subst e20
  have HK1 : Hid (SetK K1 (R' ++ [(⟨(⟨⟨dk, dn, ds⟩, dm, da⟩, .slice d1 d2 d3), db, .slice d4 d5 d6, dt, .slice d7 d8 d9⟩ : Cm)]) ∧ K1.length ≤ 4000000) := ⟨hk1, hl1⟩
  have HN1 : Hid (OwnB w10 0 (.slice f1 f2 f3) (sBy K1)) := hn1
  have HB10 : Hid (Below w8.heap.size w8 w10) := below_step HB9.out hb
  have HD10 : Hid (Bx w10 G1 (⟨(⟨⟨dk, dn, ds⟩, dm, da⟩, .slice d1 d2 d3), db, .slice d4 d5 d6, dt, .slice d7 d8 d9⟩ : Cm)) := HD8.out.later HB10.out
  have HOT10 : Hid (OwnC w10 w8.heap.size (.slice k1 k2 k3) T) := HOT.out.later hb
  clear hk1 hl1 hn1 hb HD9 HQ9 HW9 HB9 HOT HOK9 HCR HST
  have HST2 : Hid (∀ (X : World) (v : Value), CsP X v (T ++ [(⟨(⟨⟨dk, dn, ds⟩, dm, da⟩, .slice d1 d2 d3), db, .slice d4 d5 d6, dt, .slice d7 d8 d9⟩ : Cm)]) → Calls Tryz.prog 12 #[v] X fun e w' => ∃ v' K, e = .returned (.tuple #[v', .int .i64 0]) ∧ SetK K (T ++ [(⟨(⟨⟨dk, dn, ds⟩, dm, da⟩, .slice d1 d2 d3), db, .slice d4 d5 d6, dt, .slice d7 d8 d9⟩ : Cm)]) ∧ K.length ≤ 4000000 ∧ OwnB w' 0 v' (sBy K) ∧ Below X.heap.size X w') := fun X v h => setM_any _ v X h (by have := HTL.out; simp only [List.length_append, List.length_cons, List.length_nil]; omega) (fun c hc => by
    rcases List.mem_append.1 hc with hc | hc
    · rcases HT1.out c hc with hc | rfl
      · exact HRM.out c hc
      · exact HMD.out
    · rw [List.mem_singleton] at hc; subst hc; exact HMD.out)
  have hz10 := HB10.out.size
  obtain ⟨c0, c1, c2, c3, c4, c5, c6⟩ := cseven HD10.out.b
  go_upto_region 23 with (first
    | (at_builtin; refine capp_one rfl _ _ rfl w8.heap.size (.slice k1 k2 k3) T rfl (HOT10.out.later (below1 _ _)) w10.heap.size (⟨(⟨⟨dk, dn, ds⟩, dm, da⟩, .slice d1 d2 d3), db, .slice d4 d5 d6, dt, .slice d7 d8 d9⟩ : Cm) rfl (CBlk.new _ _ _) (W := w10) HD10.out.o (by have := HTL.out; omega) (by simp; omega) ?_; intro v11 w11 hown hb11 hg11 hv11; obtain ⟨g1, g2, g3, rfl⟩ : ∃ a n c, v11 = .slice a n c := (by obtain ⟨a, cap, e⟩ := hown.form; exact ⟨_, _, _, e⟩); have HG11 : Hid (w10.grownBy w11 (Value.slice k1 k2 k3).ownBlock) := (grown_of (below1 _ _) _).trans hg11; have HC11 : Hid (CsP w11 (.slice g1 g2 g3) (T ++ [(⟨(⟨⟨dk, dn, ds⟩, dm, da⟩, .slice d1 d2 d3), db, .slice d4 d5 d6, dt, .slice d7 d8 d9⟩ : Cm)])) := hown.csp (fun c hc => (by have hb' : Below w8.heap.size w8 w11 := HB10.out.trans (((below1 w10 _).mono hz10).trans hb11); rcases List.mem_append.1 hc with hc | hc; rcases HT1.out c hc with hc | rfl; exact (HCR8.out _ hb').ok c hc; exact HDO8.out _ hb'; rw [List.mem_singleton] at hc; subst hc; exact HDO8.out _ hb')); have HB11 : Hid (Below w8.heap.size w8 w11) := HB10.out.trans (((below1 w10 _).mono hz10).trans hb11); clear hown hb11 hg11 hv11 c0 c1 c2 c3 c4 c5 c6)
    | (go_at_call 12; refine (HST2.out _ _ HC11.out).mono ?_; clear HST2; rintro e w12 ⟨v12, K2, rfl, hk2, hl2, hn2, hb⟩; obtain ⟨h1, h2, h3, rfl⟩ := ownB_form hn2; have HK2 : Hid (SetK K2 (T ++ [(⟨(⟨⟨dk, dn, ds⟩, dm, da⟩, .slice d1 d2 d3), db, .slice d4 d5 d6, dt, .slice d7 d8 d9⟩ : Cm)])) := hk2; have HN2 : Hid (OwnB w12 0 (.slice h1 h2 h3) (sBy K2)) := hn2; have HN1b : Hid (OwnB w12 0 (.slice f1 f2 f3) (sBy K1)) := OwnB.later (row_kt HN1.out (row_grown HOT10.out HG11.out) (by decide)) hb; have HB12 : Hid (Below w8.heap.size w8 w12) := below_step HB11.out hb; clear hk2 hl2 hn2 hb HC11 HG11))
  clear HN1 HOT10 HB10 HB11 HD10 hz10
  have HK12 : Hid (K1 = K2) := by
    refine rise_uniq K1 K2 HK1.out.1.rise HK2.out.rise fun k => ?_
    rw [HK1.out.1.mem, HK2.out.mem]
    constructor
    · rintro ⟨c, hc, e⟩
      rcases List.mem_append.1 hc with hc | hc
      · obtain ⟨m, hm, ec⟩ := List.mem_iff_getElem.1 hc
        have hj' : m < m1 := by have := HM1.out; omega
        obtain ⟨i, hi, ei⟩ := turn_all (off := off) hj'
        exact ⟨c, List.mem_append_left _ (HT2.out i hi c (by rw [ei, List.getElem?_eq_getElem hm, ec])), e⟩
      · exact ⟨c, List.mem_append_right _ hc, e⟩
    · rintro ⟨c, hc, e⟩
      rcases List.mem_append.1 hc with hc | hc
      · rcases HT1.out c hc with hc | rfl
        · exact ⟨c, List.mem_append_left _ hc, e⟩
        · exact ⟨_, by simp, e⟩
      · exact ⟨c, List.mem_append_right _ hc, e⟩
  have HQ12 : Hid (Bx w12 G2 (⟨(⟨⟨qk, qn, qs⟩, qm, qa⟩, .slice q1 q2 q3), qb, .slice q4 q5 q6, qt, .slice q7 q8 q9⟩ : Cm)) := HQ8.out.later HB12.out
  have HOK9 : Hid (∀ c ∈ R' ++ [(⟨(⟨⟨qk, qn, qs⟩, qm, qa⟩, .slice q1 q2 q3), qb, .slice q4 q5 q6, qt, .slice q7 q8 q9⟩ : Cm)], c.ok w12) := fun c hc => by
    rcases List.mem_append.1 hc with hc | hc
    · exact (HCR8.out w12 HB12.out).ok c hc
    · rw [List.mem_singleton] at hc; subst hc; exact HQ12.out.o
  have HCR : Hid (∀ X : World, Below w12.heap.size w12 X → CsP X (.slice ma m1 mc) R') := fun X hX => (HCR8.out w12 HB12.out).later hX
  have HST : Hid (∀ (X : World) (v : Value), CsP X v (R' ++ [(⟨(⟨⟨qk, qn, qs⟩, qm, qa⟩, .slice q1 q2 q3), qb, .slice q4 q5 q6, qt, .slice q7 q8 q9⟩ : Cm)]) → Calls Tryz.prog 12 #[v] X fun e w' => ∃ v' K, e = .returned (.tuple #[v', .int .i64 0]) ∧ SetK K (R' ++ [(⟨(⟨⟨qk, qn, qs⟩, qm, qa⟩, .slice q1 q2 q3), qb, .slice q4 q5 q6, qt, .slice q7 q8 q9⟩ : Cm)]) ∧ K.length ≤ 4000000 ∧ OwnB w' 0 v' (sBy K) ∧ Below X.heap.size X w') := fun X v h => setM_any _ v X h (by have := HLR.out; simp only [List.length_append, List.length_cons, List.length_nil]; omega) (fun c hc => by
    rcases List.mem_append.1 hc with hc | hc
    · exact HRM.out c hc
    · rw [List.mem_singleton] at hc; subst hc; exact HMQ.out)
  go_cut [24, 25] from 124 (fun s24 s25 wx => ∃ (vs : Value) (K : List Ck), s24 = vs ∧ s25 = .int .i64 0 ∧ SetK K (R' ++ [(⟨(⟨⟨qk, qn, qs⟩, qm, qa⟩, .slice q1 q2 q3), qb, .slice q4 q5 q6, qt, .slice q7 q8 q9⟩ : Cm)]) ∧ K.length ≤ 4000000 ∧ OwnB wx 0 vs (sBy K) ∧ Below w12.heap.size w12 wx)
  case first =>
    refine wp_region_held_drew (S := fun w' => Below w12.heap.size w12 w') (by kernel_rfl) (Below.refl _ _).drew (fun hH => ?_)
    revert hH
    generalize w12.drew = V2_0
    intro hH
    refine wpAnyH_take (i := 1) (oi := ⟨_, _, _, _, _, _⟩) (v := .slice ma m1 mc) rfl (by kernel_rfl) (by kernel_rfl) (by kernel_rfl) (fun _ _ _ h => h) (Or.inl ⟨by rfl, fun w' h => by clear h; go_simp⟩) hH ?_
    simp only [Act.put, List.setIfInBounds_toArray, List.set_cons_zero, List.set_cons_succ]
    refine wpAnyH_take (i := 3) (oi := ⟨_, _, _, _, _, _⟩) (v := .agg #[.int .i64 qk, .int .i64 qn, .string qs, .string qm, .slice q1 q2 q3, .slice q4 q5 q6, .slice q7 q8 q9]) rfl (by kernel_rfl) (by kernel_rfl) (by kernel_rfl) (fun _ _ _ h => h) (Or.inl ⟨by rfl, fun w' h => by obtain ⟨z0, z1, z2, z3, z4, z5, z6⟩ := cseven (CBlk.later (Hid.out HQ12).b h); clear h; go_simp⟩) hH ?_
    simp only [Act.put, List.setIfInBounds_toArray, List.set_cons_zero, List.set_cons_succ]
    refine wpAnyH_ready (rs := [0, 4]) (by kernel_rfl) (by simp) ?_
    refine (AllReadyH.cons (o := ⟨_, _, _, _, _, _⟩) rfl (fun K hK => ?_) (AllReadyH.cons (o := ⟨_, _, _, _, _, _⟩) rfl (fun K hK => ?_) AllReadyH.nil))
    · go_simp
      have HE : Hid (OwnC (V2_0.alloc (.cells #[] 30)) w12.heap.size (.slice (some ⟨V2_0.heap.size, 0, none⟩) 0 0) []) := OwnC.empty (CBlk.new _ _ _) hH.size
      refine hK.out _ _ (below_step hH (below1 _ _)) (fun hH => ?_)
      clear hK K
      revert hH HE 
      generalize V2_0.alloc (.cells #[] 30) = U2_1
      generalize V2_0.heap.size = g0
      intro HE  hH
      refine wpAnyH_ready (rs := [2, 4]) (by kernel_rfl) (by simp) ?_
      refine (AllReadyH.cons (o := ⟨_, _, _, _, _, _⟩) rfl (fun K hK => ?_) (AllReadyH.cons (o := ⟨_, _, _, _, _, _⟩) rfl (fun K hK => ?_) AllReadyH.nil))
      · refine cstep_list rfl _ _ rfl w12.heap.size (.slice (some ⟨g0, 0, none⟩) 0 0) [] (by rfl) HE.out (.slice ma m1 mc) R' (by rfl) (HCR.out _ hH) (by simp only [List.length_nil]; have := HLR.out; omega) hH.size ?_
        intro va U2_2 hown hb9 hg9
        rw [List.nil_append] at hown
        have HA : Hid (OwnC U2_2 w12.heap.size va R') := hown
        refine hK.out _ _ (hH.trans hb9) (fun hH => ?_)
        clear hK K hown hb9 hg9
        try simp only [Act.put, List.setIfInBounds_toArray, List.set_cons_zero, List.set_cons_succ]
        refine wpAnyH_ready (rs := [4]) (by kernel_rfl) (by simp) ?_
        refine (AllReadyH.cons (o := ⟨_, _, _, _, _, _⟩) rfl (fun K hK => ?_) AllReadyH.nil)
        go_simp
        have HN : Hid (CBlk (U2_2.alloc (.cells #[.int .i64 qk, .int .i64 qn, .string qs, .string qm, .slice q1 q2 q3, .slice q4 q5 q6, .slice q7 q8 q9] 30)) U2_2.heap.size #[.int .i64 qk, .int .i64 qn, .string qs, .string qm, .slice q1 q2 q3, .slice q4 q5 q6, .slice q7 q8 q9] 30) := CBlk.new _ _ _
        have HA : Hid (OwnC (U2_2.alloc (.cells #[.int .i64 qk, .int .i64 qn, .string qs, .string qm, .slice q1 q2 q3, .slice q4 q5 q6, .slice q7 q8 q9] 30)) w12.heap.size va R') := HA.out.later (below1 _ _)
        refine hK.out _ _ (below_step hH (below1 _ _)) (fun hH => ?_)
        clear hK K
        revert hH HN HA
        generalize U2_2.alloc (.cells #[.int .i64 qk, .int .i64 qn, .string qs, .string qm, .slice q1 q2 q3, .slice q4 q5 q6, .slice q7 q8 q9] 30) = U2_3
        generalize U2_2.heap.size = g1
        intro HN HA hH
        refine wpAnyH_ready (rs := [5]) (by kernel_rfl) (by simp) ?_
        refine (AllReadyH.cons (o := ⟨_, _, _, _, _, _⟩) rfl (fun K hK => ?_) AllReadyH.nil)
        refine cstep_one rfl _ _ rfl w12.heap.size va R' (by rfl) HA.out g1 (⟨(⟨⟨qk, qn, qs⟩, qm, qa⟩, .slice q1 q2 q3), qb, .slice q4 q5 q6, qt, .slice q7 q8 q9⟩ : Cm) (by rfl) (show CBlk _ _ (Cm.cs (⟨(⟨⟨qk, qn, qs⟩, qm, qa⟩, .slice q1 q2 q3), qb, .slice q4 q5 q6, qt, .slice q7 q8 q9⟩ : Cm)) _ from HN.out) (W := w12) HQ12.out.o (by have := HLR.out; omega) hH.size ?_
        intro vb U2_6 hown hb9
        have HC9 : Hid (CsP U2_6 vb (R' ++ [(⟨(⟨⟨qk, qn, qs⟩, qm, qa⟩, .slice q1 q2 q3), qb, .slice q4 q5 q6, qt, .slice q7 q8 q9⟩ : Cm)])) := hown.csp (fun c hc => (HOK9.out c hc).later (hH.trans hb9))
        refine hK.out _ _ (hH.trans hb9) (fun hH => ?_)
        clear hK K hown hb9
        try simp only [Act.put, List.setIfInBounds_toArray, List.set_cons_zero, List.set_cons_succ]
        refine wpAnyH_ready (rs := [6]) (by kernel_rfl) (by simp) ?_
        refine (AllReadyH.cons (o := ⟨_, _, _, _, _, _⟩) rfl (fun K hK => ?_) AllReadyH.nil)
        go_simp
        refine (HST.out _ _ HC9.out).mono ?_
        rintro e U2_7 ⟨vs, K9, rfl, hk9, hl9, hn9, hb9⟩
        have HK9 : Hid (SetK K9 _ ∧ K9.length ≤ 4000000) := ⟨hk9, hl9⟩
        have HN9 : Hid (OwnB U2_7 0 vs (sBy K9)) := hn9
        refine hK.out _ _ (below_step hH hb9) (fun hH => ?_)
        clear hK K hk9 hl9 hn9 hb9
        try simp only [Act.put, List.setIfInBounds_toArray, List.set_cons_zero, List.set_cons_succ]
        refine wpAnyH_take (i := 7) (oi := ⟨_, _, _, _, _, _⟩) (v := .tuple #[vs, .int .i64 0]) rfl (by kernel_rfl) (by kernel_rfl) (by kernel_rfl) (fun _ _ _ h => h) (Or.inl ⟨by rfl, fun w' h => by clear h; go_simp⟩) hH ?_
        simp only [Act.put, List.setIfInBounds_toArray, List.set_cons_zero, List.set_cons_succ]
        refine wpAnyH_take (i := 8) (oi := ⟨_, _, _, _, _, _⟩) (v := vs) rfl (by kernel_rfl) (by kernel_rfl) (by kernel_rfl) (fun _ _ _ h => h) (Or.inl ⟨by rfl, fun w' h => by clear h; go_simp⟩) hH ?_
        simp only [Act.put, List.setIfInBounds_toArray, List.set_cons_zero, List.set_cons_succ]
        refine wpAnyH_take (i := 9) (oi := ⟨_, _, _, _, _, _⟩) (v := .int .i64 0) rfl (by kernel_rfl) (by kernel_rfl) (by kernel_rfl) (fun _ _ _ h => h) (Or.inl ⟨by rfl, fun w' h => by clear h; go_simp⟩) hH ?_
        simp only [Act.put, List.setIfInBounds_toArray, List.set_cons_zero, List.set_cons_succ]
        refine wpAnyH_take (i := 10) (oi := ⟨_, _, _, _, _, _⟩) (v := vs) rfl (by kernel_rfl) (by kernel_rfl) (by kernel_rfl) (fun _ _ _ h => h) (Or.inl ⟨by rfl, fun w' h => by clear h; go_simp⟩) hH ?_
        simp only [Act.put, List.setIfInBounds_toArray, List.set_cons_zero, List.set_cons_succ]
        refine wpAnyH_take (i := 11) (oi := ⟨_, _, _, _, _, _⟩) (v := .int .i64 0) rfl (by kernel_rfl) (by kernel_rfl) (by kernel_rfl) (fun _ _ _ h => h) (Or.inl ⟨by rfl, fun w' h => by clear h; go_simp⟩) hH ?_
        simp only [Act.put, List.setIfInBounds_toArray, List.set_cons_zero, List.set_cons_succ]
        refine wpAnyH_done (by kernel_rfl) ?_ _
        go_wp2_with fail
        go_meet
        case rel => exact ⟨vs, K9, rfl, rfl, HK9.out.1, HK9.out.2, HN9.out, hH⟩
      · go_simp
        have HN : Hid (CBlk (U2_1.alloc (.cells #[.int .i64 qk, .int .i64 qn, .string qs, .string qm, .slice q1 q2 q3, .slice q4 q5 q6, .slice q7 q8 q9] 30)) U2_1.heap.size #[.int .i64 qk, .int .i64 qn, .string qs, .string qm, .slice q1 q2 q3, .slice q4 q5 q6, .slice q7 q8 q9] 30) := CBlk.new _ _ _
        have HE : Hid (OwnC (U2_1.alloc (.cells #[.int .i64 qk, .int .i64 qn, .string qs, .string qm, .slice q1 q2 q3, .slice q4 q5 q6, .slice q7 q8 q9] 30)) w12.heap.size (.slice (some ⟨g0, 0, none⟩) 0 0) []) := HE.out.later (below1 _ _)
        refine hK.out _ _ (below_step hH (below1 _ _)) (fun hH => ?_)
        clear hK K
        revert hH HN HE
        generalize U2_1.alloc (.cells #[.int .i64 qk, .int .i64 qn, .string qs, .string qm, .slice q1 q2 q3, .slice q4 q5 q6, .slice q7 q8 q9] 30) = U2_4
        generalize U2_1.heap.size = g1
        intro HN HE hH
        have HNE : Hid (g0 ≠ g1) := fun ee => by have h1 := HE.out; have h2 := HN.out; rw [← ee] at h2; exact own_ne h1 h2 (by simp)
        refine wpAnyH_ready (rs := [2]) (by kernel_rfl) (by simp) ?_
        refine (AllReadyH.cons (o := ⟨_, _, _, _, _, _⟩) rfl (fun K hK => ?_) AllReadyH.nil)
        refine cstep_list rfl _ _ rfl w12.heap.size (.slice (some ⟨g0, 0, none⟩) 0 0) [] (by rfl) HE.out (.slice ma m1 mc) R' (by rfl) (HCR.out _ hH) (by simp only [List.length_nil]; have := HLR.out; omega) hH.size ?_
        intro va U2_5 hown hb9 hg9
        rw [List.nil_append] at hown
        have HA : Hid (OwnC U2_5 w12.heap.size va R') := hown
        have HN : Hid (CBlk U2_5 g1 #[.int .i64 qk, .int .i64 qn, .string qs, .string qm, .slice q1 q2 q3, .slice q4 q5 q6, .slice q7 q8 q9] 30) := cblk_grown HE.out HN.out hg9 HNE.out
        refine hK.out _ _ (hH.trans hb9) (fun hH => ?_)
        clear hK K hown hb9 hg9
        try simp only [Act.put, List.setIfInBounds_toArray, List.set_cons_zero, List.set_cons_succ]
        refine wpAnyH_ready (rs := [5]) (by kernel_rfl) (by simp) ?_
        refine (AllReadyH.cons (o := ⟨_, _, _, _, _, _⟩) rfl (fun K hK => ?_) AllReadyH.nil)
        refine cstep_one rfl _ _ rfl w12.heap.size va R' (by rfl) HA.out g1 (⟨(⟨⟨qk, qn, qs⟩, qm, qa⟩, .slice q1 q2 q3), qb, .slice q4 q5 q6, qt, .slice q7 q8 q9⟩ : Cm) (by rfl) (show CBlk _ _ (Cm.cs (⟨(⟨⟨qk, qn, qs⟩, qm, qa⟩, .slice q1 q2 q3), qb, .slice q4 q5 q6, qt, .slice q7 q8 q9⟩ : Cm)) _ from HN.out) (W := w12) HQ12.out.o (by have := HLR.out; omega) hH.size ?_
        intro vb U2_8 hown hb9
        have HC9 : Hid (CsP U2_8 vb (R' ++ [(⟨(⟨⟨qk, qn, qs⟩, qm, qa⟩, .slice q1 q2 q3), qb, .slice q4 q5 q6, qt, .slice q7 q8 q9⟩ : Cm)])) := hown.csp (fun c hc => (HOK9.out c hc).later (hH.trans hb9))
        refine hK.out _ _ (hH.trans hb9) (fun hH => ?_)
        clear hK K hown hb9
        try simp only [Act.put, List.setIfInBounds_toArray, List.set_cons_zero, List.set_cons_succ]
        refine wpAnyH_ready (rs := [6]) (by kernel_rfl) (by simp) ?_
        refine (AllReadyH.cons (o := ⟨_, _, _, _, _, _⟩) rfl (fun K hK => ?_) AllReadyH.nil)
        go_simp
        refine (HST.out _ _ HC9.out).mono ?_
        rintro e U2_9 ⟨vs, K9, rfl, hk9, hl9, hn9, hb9⟩
        have HK9 : Hid (SetK K9 _ ∧ K9.length ≤ 4000000) := ⟨hk9, hl9⟩
        have HN9 : Hid (OwnB U2_9 0 vs (sBy K9)) := hn9
        refine hK.out _ _ (below_step hH hb9) (fun hH => ?_)
        clear hK K hk9 hl9 hn9 hb9
        try simp only [Act.put, List.setIfInBounds_toArray, List.set_cons_zero, List.set_cons_succ]
        refine wpAnyH_take (i := 7) (oi := ⟨_, _, _, _, _, _⟩) (v := .tuple #[vs, .int .i64 0]) rfl (by kernel_rfl) (by kernel_rfl) (by kernel_rfl) (fun _ _ _ h => h) (Or.inl ⟨by rfl, fun w' h => by clear h; go_simp⟩) hH ?_
        simp only [Act.put, List.setIfInBounds_toArray, List.set_cons_zero, List.set_cons_succ]
        refine wpAnyH_take (i := 8) (oi := ⟨_, _, _, _, _, _⟩) (v := vs) rfl (by kernel_rfl) (by kernel_rfl) (by kernel_rfl) (fun _ _ _ h => h) (Or.inl ⟨by rfl, fun w' h => by clear h; go_simp⟩) hH ?_
        simp only [Act.put, List.setIfInBounds_toArray, List.set_cons_zero, List.set_cons_succ]
        refine wpAnyH_take (i := 9) (oi := ⟨_, _, _, _, _, _⟩) (v := .int .i64 0) rfl (by kernel_rfl) (by kernel_rfl) (by kernel_rfl) (fun _ _ _ h => h) (Or.inl ⟨by rfl, fun w' h => by clear h; go_simp⟩) hH ?_
        simp only [Act.put, List.setIfInBounds_toArray, List.set_cons_zero, List.set_cons_succ]
        refine wpAnyH_take (i := 10) (oi := ⟨_, _, _, _, _, _⟩) (v := vs) rfl (by kernel_rfl) (by kernel_rfl) (by kernel_rfl) (fun _ _ _ h => h) (Or.inl ⟨by rfl, fun w' h => by clear h; go_simp⟩) hH ?_
        simp only [Act.put, List.setIfInBounds_toArray, List.set_cons_zero, List.set_cons_succ]
        refine wpAnyH_take (i := 11) (oi := ⟨_, _, _, _, _, _⟩) (v := .int .i64 0) rfl (by kernel_rfl) (by kernel_rfl) (by kernel_rfl) (fun _ _ _ h => h) (Or.inl ⟨by rfl, fun w' h => by clear h; go_simp⟩) hH ?_
        simp only [Act.put, List.setIfInBounds_toArray, List.set_cons_zero, List.set_cons_succ]
        refine wpAnyH_done (by kernel_rfl) ?_ _
        go_wp2_with fail
        go_meet
        case rel => exact ⟨vs, K9, rfl, rfl, HK9.out.1, HK9.out.2, HN9.out, hH⟩
    · go_simp
      have HN : Hid (CBlk (V2_0.alloc (.cells #[.int .i64 qk, .int .i64 qn, .string qs, .string qm, .slice q1 q2 q3, .slice q4 q5 q6, .slice q7 q8 q9] 30)) V2_0.heap.size #[.int .i64 qk, .int .i64 qn, .string qs, .string qm, .slice q1 q2 q3, .slice q4 q5 q6, .slice q7 q8 q9] 30) := CBlk.new _ _ _
      refine hK.out _ _ (below_step hH (below1 _ _)) (fun hH => ?_)
      clear hK K
      revert hH HN 
      generalize V2_0.alloc (.cells #[.int .i64 qk, .int .i64 qn, .string qs, .string qm, .slice q1 q2 q3, .slice q4 q5 q6, .slice q7 q8 q9] 30) = U2_10
      generalize V2_0.heap.size = g1
      intro HN  hH
      refine wpAnyH_ready (rs := [0]) (by kernel_rfl) (by simp) ?_
      refine (AllReadyH.cons (o := ⟨_, _, _, _, _, _⟩) rfl (fun K hK => ?_) AllReadyH.nil)
      go_simp
      have HE : Hid (OwnC (U2_10.alloc (.cells #[] 30)) w12.heap.size (.slice (some ⟨U2_10.heap.size, 0, none⟩) 0 0) []) := OwnC.empty (CBlk.new _ _ _) hH.size
      have HN : Hid (CBlk (U2_10.alloc (.cells #[] 30)) g1 #[.int .i64 qk, .int .i64 qn, .string qs, .string qm, .slice q1 q2 q3, .slice q4 q5 q6, .slice q7 q8 q9] 30) := HN.out.later (below1 _ _)
      refine hK.out _ _ (below_step hH (below1 _ _)) (fun hH => ?_)
      clear hK K
      revert hH HE HN
      generalize U2_10.alloc (.cells #[] 30) = U2_11
      generalize U2_10.heap.size = g0
      intro HE HN hH
      have HNE : Hid (g0 ≠ g1) := fun ee => by have h1 := HE.out; have h2 := HN.out; rw [← ee] at h2; exact own_ne h1 h2 (by simp)
      refine wpAnyH_ready (rs := [2]) (by kernel_rfl) (by simp) ?_
      refine (AllReadyH.cons (o := ⟨_, _, _, _, _, _⟩) rfl (fun K hK => ?_) AllReadyH.nil)
      refine cstep_list rfl _ _ rfl w12.heap.size (.slice (some ⟨g0, 0, none⟩) 0 0) [] (by rfl) HE.out (.slice ma m1 mc) R' (by rfl) (HCR.out _ hH) (by simp only [List.length_nil]; have := HLR.out; omega) hH.size ?_
      intro va U2_12 hown hb9 hg9
      rw [List.nil_append] at hown
      have HA : Hid (OwnC U2_12 w12.heap.size va R') := hown
      have HN : Hid (CBlk U2_12 g1 #[.int .i64 qk, .int .i64 qn, .string qs, .string qm, .slice q1 q2 q3, .slice q4 q5 q6, .slice q7 q8 q9] 30) := cblk_grown HE.out HN.out hg9 HNE.out
      refine hK.out _ _ (hH.trans hb9) (fun hH => ?_)
      clear hK K hown hb9 hg9
      try simp only [Act.put, List.setIfInBounds_toArray, List.set_cons_zero, List.set_cons_succ]
      refine wpAnyH_ready (rs := [5]) (by kernel_rfl) (by simp) ?_
      refine (AllReadyH.cons (o := ⟨_, _, _, _, _, _⟩) rfl (fun K hK => ?_) AllReadyH.nil)
      refine cstep_one rfl _ _ rfl w12.heap.size va R' (by rfl) HA.out g1 (⟨(⟨⟨qk, qn, qs⟩, qm, qa⟩, .slice q1 q2 q3), qb, .slice q4 q5 q6, qt, .slice q7 q8 q9⟩ : Cm) (by rfl) (show CBlk _ _ (Cm.cs (⟨(⟨⟨qk, qn, qs⟩, qm, qa⟩, .slice q1 q2 q3), qb, .slice q4 q5 q6, qt, .slice q7 q8 q9⟩ : Cm)) _ from HN.out) (W := w12) HQ12.out.o (by have := HLR.out; omega) hH.size ?_
      intro vb U2_13 hown hb9
      have HC9 : Hid (CsP U2_13 vb (R' ++ [(⟨(⟨⟨qk, qn, qs⟩, qm, qa⟩, .slice q1 q2 q3), qb, .slice q4 q5 q6, qt, .slice q7 q8 q9⟩ : Cm)])) := hown.csp (fun c hc => (HOK9.out c hc).later (hH.trans hb9))
      refine hK.out _ _ (hH.trans hb9) (fun hH => ?_)
      clear hK K hown hb9
      try simp only [Act.put, List.setIfInBounds_toArray, List.set_cons_zero, List.set_cons_succ]
      refine wpAnyH_ready (rs := [6]) (by kernel_rfl) (by simp) ?_
      refine (AllReadyH.cons (o := ⟨_, _, _, _, _, _⟩) rfl (fun K hK => ?_) AllReadyH.nil)
      go_simp
      refine (HST.out _ _ HC9.out).mono ?_
      rintro e U2_14 ⟨vs, K9, rfl, hk9, hl9, hn9, hb9⟩
      have HK9 : Hid (SetK K9 _ ∧ K9.length ≤ 4000000) := ⟨hk9, hl9⟩
      have HN9 : Hid (OwnB U2_14 0 vs (sBy K9)) := hn9
      refine hK.out _ _ (below_step hH hb9) (fun hH => ?_)
      clear hK K hk9 hl9 hn9 hb9
      try simp only [Act.put, List.setIfInBounds_toArray, List.set_cons_zero, List.set_cons_succ]
      refine wpAnyH_take (i := 7) (oi := ⟨_, _, _, _, _, _⟩) (v := .tuple #[vs, .int .i64 0]) rfl (by kernel_rfl) (by kernel_rfl) (by kernel_rfl) (fun _ _ _ h => h) (Or.inl ⟨by rfl, fun w' h => by clear h; go_simp⟩) hH ?_
      simp only [Act.put, List.setIfInBounds_toArray, List.set_cons_zero, List.set_cons_succ]
      refine wpAnyH_take (i := 8) (oi := ⟨_, _, _, _, _, _⟩) (v := vs) rfl (by kernel_rfl) (by kernel_rfl) (by kernel_rfl) (fun _ _ _ h => h) (Or.inl ⟨by rfl, fun w' h => by clear h; go_simp⟩) hH ?_
      simp only [Act.put, List.setIfInBounds_toArray, List.set_cons_zero, List.set_cons_succ]
      refine wpAnyH_take (i := 9) (oi := ⟨_, _, _, _, _, _⟩) (v := .int .i64 0) rfl (by kernel_rfl) (by kernel_rfl) (by kernel_rfl) (fun _ _ _ h => h) (Or.inl ⟨by rfl, fun w' h => by clear h; go_simp⟩) hH ?_
      simp only [Act.put, List.setIfInBounds_toArray, List.set_cons_zero, List.set_cons_succ]
      refine wpAnyH_take (i := 10) (oi := ⟨_, _, _, _, _, _⟩) (v := vs) rfl (by kernel_rfl) (by kernel_rfl) (by kernel_rfl) (fun _ _ _ h => h) (Or.inl ⟨by rfl, fun w' h => by clear h; go_simp⟩) hH ?_
      simp only [Act.put, List.setIfInBounds_toArray, List.set_cons_zero, List.set_cons_succ]
      refine wpAnyH_take (i := 11) (oi := ⟨_, _, _, _, _, _⟩) (v := .int .i64 0) rfl (by kernel_rfl) (by kernel_rfl) (by kernel_rfl) (fun _ _ _ h => h) (Or.inl ⟨by rfl, fun w' h => by clear h; go_simp⟩) hH ?_
      simp only [Act.put, List.setIfInBounds_toArray, List.set_cons_zero, List.set_cons_succ]
      refine wpAnyH_done (by kernel_rfl) ?_ _
      go_wp2_with fail
      go_meet
      case rel => exact ⟨vs, K9, rfl, rfl, HK9.out.1, HK9.out.2, HN9.out, hH⟩
  case rest =>
  obtain ⟨vs3, K3, e24, rfl, hk3, hl3, hn3, hb⟩ := hcut
  rename World => w13
  obtain ⟨o1, o2, o3, rfl⟩ := ownB_form hn3
  subst e24
  have HK3 : Hid (SetK K3 (R' ++ [(⟨(⟨⟨qk, qn, qs⟩, qm, qa⟩, .slice q1 q2 q3), qb, .slice q4 q5 q6, qt, .slice q7 q8 q9⟩ : Cm)]) ∧ K3.length ≤ 4000000) := ⟨hk3, hl3⟩
  have hw1 : ∀ k ∈ K1, Kw k := fun k hk => by
    obtain ⟨c, hc, e⟩ := (HK1.out.1.mem k).1 hk
    rw [← e]
    rcases List.mem_append.1 hc with hc | hc
    · exact (HRM.out c hc).kw
    · rw [List.mem_singleton] at hc; subst hc; exact HMD.out.kw
  have hw3 : ∀ k ∈ K3, Kw k := fun k hk => by
    obtain ⟨c, hc, e⟩ := (hk3.mem k).1 hk
    rw [← e]
    rcases List.mem_append.1 hc with hc | hc
    · exact (HRM.out c hc).kw
    · rw [List.mem_singleton] at hc; subst hc; exact HMQ.out.kw
  have hz1 := sBy_len hw1
  have hz3 := sBy_len hw3
  have hy1 := HK1.out.2
  have HN3 : Hid (Bn w13 (.slice o1 o2 o3) (sBy K3)) := hn3.bn (by omega)
  have HN1c : Hid (Bn w13 (.slice f1 f2 f3) (sBy K1)) := (OwnB.later HN1b.out hb).bn (by omega)
  have HN2c : Hid (Bn w13 (.slice h1 h2 h3) (sBy K1)) := by have := OwnB.later HN2.out hb; rw [← HK12.out] at this; exact this.bn (by omega)
  have HB13 : Hid (Below w8.heap.size w8 w13) := below_step HB12.out hb
  have HY1 : Hid (byt (sBy K1)) := sBy_byt hw1
  have HY3 : Hid (byt (sBy K3)) := sBy_byt hw3
  have HFN : Hid ((ofL (sBy K1) = ofL (sBy K3)) ↔ (SS || (hs R' KA && hs R' KB)) = true) := by
    have e1 : (ofL (sBy K1) = ofL (sBy K3)) ↔ K1 = K3 := ⟨fun e => sBy_inj hw1 hw3 (by omega) (by omega) (ofL_inj HY1.out HY3.out e), fun e => by rw [e]⟩
    have e2 := set_more HK1.out.1 HK3.out.1
    rw [HDK.out, HQK.out] at e2
    show _ ↔ _
    rw [e1, e2, Bool.or_eq_true, Bool.and_eq_true, hs_iff, hs_iff, ← HSS.out, decide_eq_true_iff]
  clear hk3 hl3 hn3 hb HN1b HN2 HB12 HOK9 HCR HST HQ12 hz1 hz3 hy1 hw1 hw3 HK1 HK2 HK3 HK12 HT1 HT2 HTL HSS
  have hc1 := conv_bn HN1c.out HY1.out
  have hc2 := conv_bn HN2c.out HY1.out
  obtain ⟨H1, hH1⟩ : ∃ b, hs R' KA = b := ⟨_, rfl⟩
  obtain ⟨H2, hH2⟩ : ∃ b, hs R' KB = b := ⟨_, rfl⟩
  have HHA : Hid (∀ X : World, Below w8.heap.size w8 X → Calls Tryz.prog 13 #[.slice ma m1 mc, Cm.v (⟨(⟨⟨dk, dn, ds⟩, dm, da⟩, .slice d1 d2 d3), db, .slice d4 d5 d6, dt, .slice d7 d8 d9⟩ : Cm)] X fun e w' => e = .returned (.bool H1) ∧ Below X.heap.size X w') := fun X hX => by
    have := has_any R' (⟨(⟨⟨dk, dn, ds⟩, dm, da⟩, .slice d1 d2 d3), db, .slice d4 d5 d6, dt, .slice d7 d8 d9⟩ : Cm) _ X (HCR8.out X hX) (HDO8.out X hX) (by have := HLR.out; omega)
    rwa [HDK.out, hH1] at this
  have HHB : Hid (∀ X : World, Below w8.heap.size w8 X → Calls Tryz.prog 13 #[.slice ma m1 mc, Cm.v (⟨(⟨⟨qk, qn, qs⟩, qm, qa⟩, .slice q1 q2 q3), qb, .slice q4 q5 q6, qt, .slice q7 q8 q9⟩ : Cm)] X fun e w' => e = .returned (.bool H2) ∧ Below X.heap.size X w') := fun X hX => by
    have := has_any R' (⟨(⟨⟨qk, qn, qs⟩, qm, qa⟩, .slice q1 q2 q3), qb, .slice q4 q5 q6, qt, .slice q7 q8 q9⟩ : Cm) _ X (HCR8.out X hX) (HQO8.out X hX) (by have := HLR.out; omega)
    rwa [HQK.out, hH2] at this
  rw [hH1, hH2] at HFN
  clear hH1 hH2
  have HS1 : Hid (∀ X : World, Below w13.heap.size w13 X → (convert 37 9 (.slice f1 f2 f3)).run Tryz.prog X = .ok (.string (ofL (sBy K1))) X) := fun X h => conv_bn (HN1c.out.later h) HY1.out
  have HS3 : Hid (∀ X : World, Below w13.heap.size w13 X → (convert 37 9 (.slice o1 o2 o3)).run Tryz.prog X = .ok (.string (ofL (sBy K3))) X) := fun X h => conv_bn (HN3.out.later h) HY3.out
  clear HN1c HN2c HN3 HY1 HY3
  generalize ofL (sBy K1) = s1 at *
  generalize ofL (sBy K3) = s3 at *
  go_upto_region 26 with fail
  clear hc1 hc2
  obtain ⟨c0, c1, c2, c3, c4, c5, c6⟩ := cseven (HD8.out.later HB13.out).b
  go_upto_region 28 with (first
    | (go_at_call 13; refine (HHA.out _ HB13.out).mono ?_; clear HHA; rintro e w14 ⟨rfl, hb⟩; have HB14 : Hid (Below w8.heap.size w8 w14) := below_step HB13.out hb; have HV14 : Hid (Below w13.heap.size w13 w14) := hb; clear hb c0 c1 c2 c3 c4 c5 c6; obtain ⟨c0, c1, c2, c3, c4, c5, c6⟩ := cseven (HQ8.out.later HB14.out).b)
    | (go_at_call 13; refine (HHB.out _ HB14.out).mono ?_; clear HHB; rintro e w15 ⟨rfl, hb⟩; have HB15 : Hid (Below w8.heap.size w8 w15) := below_step HB14.out hb; have HV15 : Hid (Below w13.heap.size w13 w15) := below_step HV14.out hb; clear hb c0 c1 c2 c3 c4 c5 c6))
  have hv1 := HS1.out _ HV15.out
  have hv3 := HS3.out _ HV15.out
  have HWE : Hid (Below w.heap.size w w15) := below_step HW8.out HB15.out
  clear HS1 HS3 HB13 HB14 HB15 HV14 HV15
  cases SS with
  | false =>
    cases H1 with
    | false =>
      cases H2 with
      | false =>
        have hne : s1 ≠ s3 := fun e => by have := HFN.out.1 e; cases this
        have hq1 : ¬ s1.toList = s3.toList := fun e => hne (toL_inj9 e)
        have hq2 : (s1.toList == s3.toList) = false := by simpa using hq1
        clear HFN hne
        go_wp2
        go_ret
        exact ⟨rfl, HWE.out⟩
      | true =>
        have hne : s1 ≠ s3 := fun e => by have := HFN.out.1 e; cases this
        have hq1 : ¬ s1.toList = s3.toList := fun e => hne (toL_inj9 e)
        have hq2 : (s1.toList == s3.toList) = false := by simpa using hq1
        clear HFN hne
        go_wp2
        go_ret
        exact ⟨rfl, HWE.out⟩
    | true =>
      cases H2 with
      | false =>
        have hne : s1 ≠ s3 := fun e => by have := HFN.out.1 e; cases this
        have hq1 : ¬ s1.toList = s3.toList := fun e => hne (toL_inj9 e)
        have hq2 : (s1.toList == s3.toList) = false := by simpa using hq1
        clear HFN hne
        go_wp2
        go_ret
        exact ⟨rfl, HWE.out⟩
      | true =>
        obtain rfl : s1 = s3 := HFN.out.2 rfl
        clear HFN
        go_wp2
        go_ret
        exact ⟨rfl, HWE.out⟩
  | true =>
    cases H1 with
    | false =>
      cases H2 with
      | false =>
        obtain rfl : s1 = s3 := HFN.out.2 rfl
        clear HFN
        go_wp2
        go_ret
        exact ⟨rfl, HWE.out⟩
      | true =>
        obtain rfl : s1 = s3 := HFN.out.2 rfl
        clear HFN
        go_wp2
        go_ret
        exact ⟨rfl, HWE.out⟩
    | true =>
      cases H2 with
      | false =>
        obtain rfl : s1 = s3 := HFN.out.2 rfl
        clear HFN
        go_wp2
        go_ret
        exact ⟨rfl, HWE.out⟩
      | true =>
        obtain rfl : s1 = s3 := HFN.out.2 rfl
        clear HFN
        go_wp2
        go_ret
        exact ⟨rfl, HWE.out⟩
end Go.Proofs.YtelcoihmiglceaaGreat
