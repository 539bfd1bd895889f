import Derived.Test.YtcpjiahdaplhlaaGreatDoorSY19
import Derived.Test.YtcpjiahdaplhlaaGreatDoorNR3
/-
  syntax: clauseOf.
-/
namespace Go.Proofs.YtcpjiahdaplhlaaGreatDoor
open Go.RowKit
attribute [local go_sem ↓] Go.wp_at_zero Go.wp_at_succ

theorem Rw5.ts {F : Nat → Prop} {w : World} {v : Value} {l : List Tm} (h : Rw5 F w 39 3 v l.length (tc5 l)) (hl : l.length < 1000000000000000000) : Ts w v l := ts_of_row h.1 hl
theorem fa5_len {x : List Lf5} {a : At} (h : a ∈ fa5 x) : a.args.length ≤ ws5 x := by
  have h1 := flat_arg h
  have h2 := way_terms x
  omega
theorem fa5_cnt (x : List Lf5) : (fa5 x).length ≤ ws5 x ∧ (ft5 x).length ≤ ws5 x := by
  have h1 := flat_one (l := fa5 x)
  have h2 := way_terms x
  have h3 := tls_two (ft5 x)
  omega
theorem len_la (x : List Lv5) : x.length = (la5 x).length + (lt5 x).length := by
  induction x with
  | nil => rfl
  | cons l r ih =>
    cases l with
    | a a y => rw [la5, lt5, List.length_cons, List.length_cons, ih]; omega
    | t t => rw [la5, lt5, List.length_cons, List.length_cons, ih]; omega
theorem four5 (w : World) (c0 c1 c2 c3 : Array Value) (t0 t1 t2 t3 : TypeId) : Bk ((((w.alloc (.cells c0 t0)).alloc (.cells c1 t1)).alloc (.cells c2 t2)).alloc (.cells c3 t3)) (w.heap.size + 1 + 1 + 1) c3 t3 ∧ Bk ((((w.alloc (.cells c0 t0)).alloc (.cells c1 t1)).alloc (.cells c2 t2)).alloc (.cells c3 t3)) (w.heap.size + 1 + 1) c2 t2 ∧ Bk ((((w.alloc (.cells c0 t0)).alloc (.cells c1 t1)).alloc (.cells c2 t2)).alloc (.cells c3 t3)) (w.heap.size + 1) c1 t1 ∧ Bk ((((w.alloc (.cells c0 t0)).alloc (.cells c1 t1)).alloc (.cells c2 t2)).alloc (.cells c3 t3)) w.heap.size c0 t0 ∧ Below w.heap.size w ((((w.alloc (.cells c0 t0)).alloc (.cells c1 t1)).alloc (.cells c2 t2)).alloc (.cells c3 t3)) := by
  have e1 : (w.alloc (.cells c0 t0)).heap.size = w.heap.size + 1 := by simp
  have e2 : ((w.alloc (.cells c0 t0)).alloc (.cells c1 t1)).heap.size = w.heap.size + 1 + 1 := by simp
  have e3 : (((w.alloc (.cells c0 t0)).alloc (.cells c1 t1)).alloc (.cells c2 t2)).heap.size = w.heap.size + 1 + 1 + 1 := by simp
  have k3 := Bk.new (((w.alloc (.cells c0 t0)).alloc (.cells c1 t1)).alloc (.cells c2 t2)) c3 t3
  have k2 := (Bk.new ((w.alloc (.cells c0 t0)).alloc (.cells c1 t1)) c2 t2).below (below1 _ (.cells c3 t3))
  have k1 := ((Bk.new (w.alloc (.cells c0 t0)) c1 t1).below (below1 _ (.cells c2 t2))).below (below1 _ (.cells c3 t3))
  have k0 := (((Bk.new w c0 t0).below (below1 _ (.cells c1 t1))).below (below1 _ (.cells c2 t2))).below (below1 _ (.cells c3 t3))
  rw [e3] at k3
  rw [e2] at k2
  rw [e1] at k1
  exact ⟨k3, k2, k1, k0, Fr.low (Fr.then (Fr.then (Fr.then (Fr.of (P := fun b => w.heap.size ≤ b) (below1 w (.cells c0 t0))) (below1 _ _)) (below1 _ _)) (below1 _ _)) (Nat.le_refl _)⟩
theorem store7c {w : World} {g : Nat} {z0 z1 z2 z3 z4 z5 z6 a b c d e f k : Value} {t : TypeId} (h : Bk w g #[z0, z1, z2, z3, z4, z5, z6] t) : Bk (((((((w.setCell ⟨g, 0, none⟩ a).setCell ⟨g, 1, none⟩ b).setCell ⟨g, 2, none⟩ c).setCell ⟨g, 3, none⟩ d).setCell ⟨g, 4, none⟩ e).setCell ⟨g, 5, none⟩ f).setCell ⟨g, 6, none⟩ k) g #[a, b, c, d, e, f, k] t := store7y h
set_option maxRecDepth 20000 in
set_option maxHeartbeats 4000000 in
theorem clauseOf5_any (f : Nat) (h : At) (hv v : Value) (c : Nat) (m : List (List Lv5)) (n : Nat) (x : List Lv5) (w : World) (hh : Rw5 (fun _ => True) w 39 3 hv h.args.length (tc5 h.args)) (ha : AlM (fun _ => True) (LiM (fun _ => True) w f) w v c m) (hm : m.length ≤ 64) (hx : m[n]? = some x)
    (ht : (Ck.terms (ck5 h (x.map Lv5.er))).length ≤ 4000000) (hw : ∀ t ∈ Ck.terms (ck5 h (x.map Lv5.er)), t.var = true → (Lit.int .i64 t.n).wf = true) :
    Calls Tryz.prog 120 #[h.v hv, .agg #[v, .int .i64 (c : Int)], .int .i64 (n : Int)] w fun e w' => ∃ d : Cm, e = .returned d.v ∧ d.key = normC (ck5 h (x.map Lv5.er)) ∧ Kp w.heap.size w' d ∧ Below w.heap.size w w' := by
  have hl := ck5_len h (x.map Lv5.er)
  rw [hl] at ht
  obtain ⟨c1, c2⟩ := fa5_cnt (x.map Lv5.er)
  have HLA : Hid ((la5 x).length ≤ 4000000 ∧ (lt5 x).length ≤ 4000000) := by
    have e1 := congrArg List.length (fa5_er x)
    have e2 := congrArg List.length (ft5_er x)
    unfold fsts at e1
    rw [List.length_map] at e1
    exact ⟨by omega, by omega⟩
  have HXL : Hid (x.length ≤ 8000000) := by have := len_la x; have := HLA.out; show _ ≤ _; omega
  have HHL : Hid (h.args.length < 1000000000000000000) := by show _ < _; omega
  have HAL : Hid (∀ p ∈ la5 x, p.1.args.length < 1000000000000000000) := fun p hp => by
    have h1 : p.1 ∈ fa5 (x.map Lv5.er) := by rw [← fa5_er]; exact List.mem_map.2 ⟨p, hp, rfl⟩
    have := fa5_len h1
    omega
  obtain ⟨va, vl, vc, hvf⟩ := alM_form (f := f) ha
  subst hvf
  obtain ⟨ya, yc, hyf, -⟩ := row7_form hh.1
  have HKT : Hid ((Ck.terms (ck5 h (x.map Lv5.er))).length ≤ 4000000) := by show _ ≤ _; rw [hl]; exact ht
  have HHH := hm7 hh
  obtain ⟨⟨bk, bn, bs⟩, nm, al⟩ := h
  obtain ⟨yn, hyn⟩ : ∃ yn, al.length = yn := ⟨_, rfl⟩
  dsimp only at hyf
  rw [hyn] at hyf
  subst hyf
  obtain ⟨k3, k2, k1, k0, hb0⟩ := four5 w #[.int .i64 bk, .int .i64 bn, .string bs, .string nm, .slice ya yn yc] #[.slice va vl vc, .int .i64 (c : Int)] zcs #[.int .i64 bk, .int .i64 bn, .string bs, .string nm, .slice ya yn yc, .slice none 0 0, .slice none 0 0] 42 139 53 53
  have HK3 := hm7 k3
  have HK2 := hm7 k2
  have HK1 := hm7 k1
  have HB0 := hm7 hb0
  have HSZ : Hid (((((w.alloc (.cells #[.int .i64 bk, .int .i64 bn, .string bs, .string nm, .slice ya yn yc] 42)).alloc (.cells #[.slice va vl vc, .int .i64 (c : Int)] 139)).alloc (.cells zcs 53)).alloc (.cells #[.int .i64 bk, .int .i64 bn, .string bs, .string nm, .slice ya yn yc, .slice none 0 0, .slice none 0 0] 53)).heap.size = w.heap.size + 4) := by show _ = _; simp
  have HLY : Hid (LY (w.heap.size + 1 + 1 + 1) (w.heap.size + 1 + 1 + 1) (⟨⟨bk, bn, bs⟩, nm, al⟩, .slice ya yn yc) ((((w.alloc (.cells #[.int .i64 bk, .int .i64 bn, .string bs, .string nm, .slice ya yn yc] 42)).alloc (.cells #[.slice va vl vc, .int .i64 (c : Int)] 139)).alloc (.cells zcs 53)).alloc (.cells #[.int .i64 bk, .int .i64 bn, .string bs, .string nm, .slice ya yn yc, .slice none 0 0, .slice none 0 0] 53)) [] []) :=
    ⟨Nat.le_refl _, by have := k3.lt; omega, _, _, k3, World.ownsRow_nil _ _ _ _, World.ownsRow_nil _ _ _ _⟩
  have HAM := hm7 (alM_below (alM_mono (f := f) (G := fun b => b < w.heap.size + 1 + 1 + 1) ha fun b hb _ => by omega) hb0)
  have HLV : Hid (∀ l ∈ x, lvOk (fun b => b < w.heap.size) w l) := fun l hl => (alM_mono (f := f) (G := fun b => b < w.heap.size) ha fun b hb _ => hb).lv (fun cs m h => LiM.lv f cs m h) x (List.mem_of_getElem? hx) l hl
  have HWF := hm7 hw
  clear k3 k2 k0 hb0 hl hh ha ht c1 c2 hw
  have q0 := HK1.out.cell (i := 0) rfl
  have q1 := HK1.out.cell (i := 1) rfl
  clear k1
  obtain ⟨Y0, hY0⟩ : ∃ Y0, (((w.alloc (.cells #[.int .i64 bk, .int .i64 bn, .string bs, .string nm, .slice ya yn yc] 42)).alloc (.cells #[.slice va vl vc, .int .i64 (c : Int)] 139)).alloc (.cells zcs 53)).alloc (.cells #[.int .i64 bk, .int .i64 bn, .string bs, .string nm, .slice ya yn yc, .slice none 0 0, .slice none 0 0] 53) = Y0 := ⟨_, rfl⟩
  rw [hY0] at HK3 HK2 HK1 HB0 HLY HAM q0 q1 HSZ
  have HY0 := hm7 hY0
  clear hY0
  have HCL := hm7 (layA_all f (w.heap.size + 1 + 1 + 1) (w.heap.size + 1 + 1 + 1) (⟨⟨bk, bn, bs⟩, nm, al⟩, .slice ya yn yc) Y0 [] [] (.slice va vl vc) c m n x HAM.out hm hx HLY.out (by have := HXL.out; simp; omega) (by have := HXL.out; simp; omega))
  unfold zcs at HY0 HK2
  show Calls Tryz.prog 120 #[.agg #[.int .i64 bk, .int .i64 bn, .string bs, .string nm, .slice ya yn yc], .agg #[.slice va vl vc, .int .i64 (c : Int)], .int .i64 (n : Int)] w _
  clear hm hx HAM
  go_enter Tryz.func120, Tryz.ntmps120
  go_upto_region 2 with fail
  rw [HY0.out]
  go_upto_region 3 with (go_at_call 156; refine HCL.out.mono ?_; rintro e W1 ⟨rfl, hly, hfr⟩; have HL1 := hm7 hly; have HF1 := hm7 ((Fr.of (P := fun b => w.heap.size ≤ b) HB0.out).trans hfr fun b _ h => by omega); have HFY := hm7 hfr; clear hly hfr)
  obtain ⟨-, hWs, bv, tv, hk, ho, hte⟩ := HL1.out
  have ho1 : W1.ownsRow (w.heap.size + 1 + 1 + 1) 42 5 bv (la5 x).length ((la5 x).flatMap ac5) := ho
  have hte1 : W1.ownsRow (w.heap.size + 1 + 1 + 1) 85 7 tv (lt5 x).length ((lt5 x).flatMap ec5) := hte
  clear ho hte
  have ho := ho1
  have hte := hte1
  clear ho1 hte1
  obtain ⟨hla1, hla2⟩ := HLA.out
  have hFz := HF1.out.size
  have hok : Cm.ok W1 ⟨(⟨⟨bk, bn, bs⟩, nm, al⟩, .slice ya yn yc), la5 x, bv, lt5 x, tv⟩ := by
    refine ⟨?_, as_of_row ho (fun p hp => ?_) (Nat.lt_of_le_of_lt hla1 (by decide)), es_of_row hte (Nat.lt_of_le_of_lt hla2 (by decide))⟩
    · exact Rw5.ts (((HHH.out.mono (G := fun b => b < w.heap.size) fun b hb _ => hb)).fr HF1.out fun b hb hc => by omega) HHL.out
    · have h1 := HLV.out _ (la5_mem hp)
      exact Rw5.ts (Rw5.fr (F := fun b => b < w.heap.size) h1 HF1.out fun b hb hc => by omega) (HAL.out p hp)
  have HKEY : Hid (Cm.key ⟨(⟨⟨bk, bn, bs⟩, nm, al⟩, .slice ya yn yc), la5 x, bv, lt5 x, tv⟩ = ck5 ⟨⟨bk, bn, bs⟩, nm, al⟩ (x.map Lv5.er)) := by
    show (_, fsts (la5 x), lt5 x) = _
    rw [fa5_er, ft5_er]
    rfl
  clear hla1 hla2
  have HNM := hm7 (normalK_any _ W1 hok (by rw [HKEY.out]; exact HKT.out) (by rw [HKEY.out]; exact HWF.out))
  rw [HKEY.out] at HNM
  obtain ⟨ba, bc, hbf, -⟩ := row7_form ho
  obtain ⟨ta, tc, htf, -⟩ := row7_form hte
  generalize (la5 x).length = bl at hbf
  generalize (lt5 x).length = tl at htf
  subst hbf
  subst htf
  have s0 := hk.cell (i := 0) rfl
  have s1 := hk.cell (i := 1) rfl
  have s2 := hk.cell (i := 2) rfl
  have s3 := hk.cell (i := 3) rfl
  have s4 := hk.cell (i := 4) rfl
  have s5 := hk.cell (i := 5) rfl
  have s6 := hk.cell (i := 6) rfl
  have HR1 := hm7 (HK2.out.fr HFY.out (fun e => by omega))
  have HNW := hm7 hFz
  have HXW : Hid (w.heap.size + 1 + 1 < W1.heap.size) := HR1.out.lt
  clear hk ho hte hok HL1 HFY HLY HCL hWs hFz q0 q1
  go_wp2_with (go_at_call 157; refine HNM.out.mono ?_; clear HNM; rintro e w1 ⟨dd, rfl, hdk, hdp, hb⟩; obtain ⟨⟨d1, d2, d3, tz1⟩, ⟨d4, d6, tz2⟩, ⟨d7, d9, tz3⟩, -, -⟩ := (hdp.ok).shape; obtain ⟨d5, tz4⟩ : ∃ n, n = dd.body.length := ⟨_, rfl⟩; obtain ⟨d8, tz5⟩ : ∃ n, n = dd.tests.length := ⟨_, rfl⟩; rw [← tz4] at tz2; rw [← tz5] at tz3; obtain ⟨⟨⟨⟨dk, dn, ds⟩, dm, da⟩, dv⟩, db, dbv, dt, dtv⟩ := dd; simp only at tz1 tz2 tz3; subst tz1 tz2 tz3; clear tz4 tz5; have HDK := hm7 hdk; have HKP := hm7 hdp; have HR2 := hm7 (HR1.out.below hb); have HF2 := hm7 (HF1.out.then hb); clear hdk hdp hb s0 s1 s2 s3 s4 s5 s6; have r0 := HR2.out.cell (i := 0) rfl; have r1 := HR2.out.cell (i := 1) rfl; have r2 := HR2.out.cell (i := 2) rfl; have r3 := HR2.out.cell (i := 3) rfl; have r4 := HR2.out.cell (i := 4) rfl; have r5 := HR2.out.cell (i := 5) rfl; have r6 := HR2.out.cell (i := 6) rfl; have f0 := HR2.out.froz 0; have f1 := HR2.out.froz 1; have f2 := HR2.out.froz 2; have f3 := HR2.out.froz 3; have f4 := HR2.out.froz 4; have f5 := HR2.out.froz 5; have f6 := HR2.out.froz 6; have hrl := HR2.out.lt)
  have HZZ := hm7 (store7c HR2.out (a := .int .i64 dk) (b := .int .i64 dn) (c := .string ds) (d := .string dm) (e := .slice d1 d2 d3) (f := .slice d4 d5 d6) (k := .slice d7 d8 d9))
  have z0 := HZZ.out.cell (i := 0) rfl
  have z1 := HZZ.out.cell (i := 1) rfl
  have z2 := HZZ.out.cell (i := 2) rfl
  have z3 := HZZ.out.cell (i := 3) rfl
  have z4 := HZZ.out.cell (i := 4) rfl
  have z5 := HZZ.out.cell (i := 5) rfl
  have z6 := HZZ.out.cell (i := 6) rfl
  have nw : (fun b => w.heap.size ≤ b) (w.heap.size + 1 + 1) := by show w.heap.size ≤ w.heap.size + 1 + 1; omega
  refine bodyPost_ret (v := .agg #[.int .i64 dk, .int .i64 dn, .string ds, .string dm, .slice d1 d2 d3, .slice d4 d5 d6, .slice d7 d8 d9]) (by simp [results, Tryz.results120, go_sem, z0, z1, z2, z3, z4, z5, z6]) rfl ?_
  exact ⟨⟨(⟨⟨dk, dn, ds⟩, dm, da⟩, .slice d1 d2 d3), db, .slice d4 d5 d6, dt, .slice d7 d8 d9⟩, rfl, HDK.out, (HKP.out.put7 HXW.out _ _ _ _ _ _ _).mono HNW.out, Fr.low (((((((HF2.out.set (Or.inl nw)).set (Or.inl nw)).set (Or.inl nw)).set (Or.inl nw)).set (Or.inl nw)).set (Or.inl nw)).set (Or.inl nw)) (Nat.le_refl _)⟩
end Go.Proofs.YtcpjiahdaplhlaaGreatDoor
/-
  syntax: lists of clauses; what a rule says, in plain words.
-/
namespace Go.Proofs.YtcpjiahdaplhlaaGreatDoor
open Go.RowKit
attribute [local go_sem ↓] Go.wp_at_zero Go.wp_at_succ

theorem aErr_fst5 : ∀ {l l' : List (At × Value)}, fsts l = fsts l' → aErr l = aErr l'
  | [], [], _ => rfl
  | [], _ :: _, h => by simp [fsts] at h
  | _ :: _, [], h => by simp [fsts] at h
  | x :: l, y :: l', h => by
    simp only [fsts, List.map_cons, List.cons.injEq] at h
    have ih := aErr_fst5 (l := l) (l' := l') h.2
    unfold aErr
    rw [h.1, ih]
theorem chk_key5 {c d : Cm} (h : d.key = c.key) : d.chk = c.chk := by
  have k1 : d.head.1 = c.head.1 := congrArg (fun k : Ck => k.1) h
  have k2 : fsts d.body = fsts c.body := congrArg (fun k : Ck => k.2.1) h
  have k3 : d.tests = c.tests := congrArg (fun k : Ck => k.2.2) h
  have e1 : long d = long c := by unfold long; rw [(key_len d).1, (key_len d).2, (key_len c).1, (key_len c).2, h]
  have e2 : aErr d.atoms = aErr c.atoms := aErr_fst5 (by unfold Cm.atoms; simp only [fsts, List.map_cons]; rw [k1]; congr 1)
  have e3 : badT d = badT c := by unfold badT; rw [k3]
  have e4 : unb d = unb c := by rw [unb_key, unb_key, h]
  have e5 : mis 0 d.vars = mis 0 c.vars := by rw [mis_key, mis_key, h]
  unfold Cm.chk Cm.rs
  rw [e1, e2, e3, e4, e5, k1]
/-- What Check says of a clause's data. -/
def ch5 (x : Ck) : Int := Cm.chk ⟨(x.1, .slice none 0 0), x.2.1.map fun a => (a, .slice none 0 0), .slice none 0 0, x.2.2, .slice none 0 0⟩
theorem chk_ch5 (c : Cm) : c.chk = ch5 c.key := by
  unfold ch5
  refine chk_key5 ?_
  simp [Cm.key, fsts]
/-- append of a list of at least one. -/
theorem gappL5 {T e : TypeId} {z : Value} {by_ size : Nat} (hT : Tryz.prog.underlying T = some (.slice e)) (hI : (Tryz.prog.info? e).map (fun i => (i.zero, i.size, i.bytes)) = some (some z, size, by_)) (hz : z.cells.size = size) (hsz : 0 < size) (hby : by_ ≤ 1000)
    {ops : Array Oper} {rest : List Oper} {o : Oper} {a : Act} {Q : Exit → Act → World → Prop} {w : World} (hgd : o.guard = none) (s x : Operand)
    (ho : o.op = .call { callee := .builtin .append, args := #[s, x], argTypes := #[T, T] }) (base : Nat) (v : Value) (n : Nat) (l : List Value) (hs : a.eval s = v) (hown : w.ownsRow base e size v n l)
    (b m c base' : Nat) (ys : List Value) (hx : a.eval x = .slice (some ⟨b, 0, none⟩) m c) (hy : w.ownsRow base' e size (.slice (some ⟨b, 0, none⟩) m c) m ys) (h0 : 0 < m) (hone : ∀ u ∈ ys, u.oneCell' = true) (hlen : n + m ≤ 100000000000) (hbase : base ≤ w.heap.size)
    (h : ∀ g cap w', w'.ownsRow base e size (.slice (some ⟨g, 0, none⟩) (n + m) cap) (n + m) (l ++ ys) → w.grownBy w' v.ownBlock → (v.ownBlock = some g ∨ g = w.heap.size) → g < w'.heap.size → wpList Tryz.prog ops Q rest (a.put o.dst (.slice (some ⟨g, 0, none⟩) (n + m) cap)) w') : wpList Tryz.prog ops Q (o :: rest) a w := by
  obtain ⟨i, hi, h1, h2, h3⟩ := info5 hI
  refine wpList_append_lies _ hgd s x T ho base e i z size by_ hT hi h1 h2 h3 hz hsz v n l hs hown ⟨b, 0, none⟩ m c ys hx hy.1 ?_ hone h0 (by unfold maxLen; omega) (Nat.le_trans (Nat.mul_le_mul hlen hby) (by decide)) hbase _ rfl h
  intro j u hj
  have := row5_cell hy hj
  rw [Go.WideShapes.add_plain]
  exact this
theorem Tryz.infoClause5 : (Tryz.prog.info? 53).map (fun i => (i.zero, i.size, i.bytes)) = some (some (.agg #[.int .i64 0, .int .i64 0, .string ⟨#[]⟩, .string ⟨#[]⟩, .slice none 0 0, .slice none 0 0, .slice none 0 0]), 7, 120) := by kernel_rfl
def cc5 (c : Cm) : List Value := [.int .i64 c.head.1.by_.k, .int .i64 c.head.1.by_.n, .string c.head.1.by_.s, .string c.head.1.name, c.head.2, c.bv, c.tv]
/-- A list of clauses, in blocks of F. -/
structure RL (F : Nat → Prop) (w : World) (v : Value) (l : List Cm) : Prop where
  o : w.ownsRow 0 53 7 v l.length (l.flatMap cc5)
  b : ∀ g, v.ownBlock = some g → F g
  k : ∀ c ∈ l, KF (fun b => F b ∧ v.ownBlock ≠ some b) w c
theorem RL.fr {F Q : Nat → Prop} {w w' : World} {v : Value} {l : List Cm} (h : RL F w v l) (hf : Fr Q w w') (hQ : ∀ b, F b → ¬ Q b) : RL F w' v l := ⟨row7_fr h.o hf fun g hg => hQ g (h.b g hg), h.b, fun c hc => (h.k c hc).fr hf fun b hb => hQ b hb.1⟩
theorem RL.below {F : Nat → Prop} {w w' : World} {v : Value} {l : List Cm} (h : RL F w v l) (hb : Below w.heap.size w w') : RL F w' v l := h.fr (Q := fun _ => False) (Fr.of hb) fun _ _ h => h
theorem RL.mono {F G : Nat → Prop} {w : World} {v : Value} {l : List Cm} (h : RL F w v l) (hG : ∀ b, b < w.heap.size → F b → G b) : RL G w v l := ⟨h.o, fun g hg => hG g (World.ownsRow.lt h.o g hg).2 (h.b g hg), fun c hc => (h.k c hc).mono fun b hb hF => ⟨hG b hb hF.1, hF.2⟩⟩
theorem cc5_one {c : Cm} {w : World} (h : c.ok w) : ∀ u ∈ cc5 c, u.oneCell' = true := by
  obtain ⟨⟨a, n, cp, e1⟩, ⟨a', cp', e2⟩, ⟨a'', cp'', e3⟩, -, -⟩ := h.shape
  intro u hu
  simp only [cc5, e1, e2, e3] at hu
  simp at hu
  rcases hu with rfl | rfl | rfl | rfl | rfl | rfl | rfl <;> rfl
/-- The clauses of a rule, one by one. -/
def cls5 (p : Int) (h : At) : List (List Lf5) → List Ck → Except (Int × Int) (List Ck)
  | [], acc => .ok acc
  | x :: r, acc => if ch5 (normC (ck5 h x)) = 0 then cls5 p h r (acc ++ [normC (ck5 h x)]) else .error (ch5 (normC (ck5 h x)), p)
/-- A rule: its head and its ways. -/
def rh5 (T : List Tk) (L : Nat) (s : Ps) : R5 (At × List (List Lf5)) := (at5 T L s).and fun h s => (bd5 T L s).and fun m s => (tk5 T L [10] s).and fun _ s => .ok ((h, m), s)
def rl5 (T : List Tk) (L nx : Nat) : Except (Int × Int) (List Ck × Nat) := match rh5 T L (s05 nx) with
  | .error e => .error e
  | .ok ((h, m), s) => if 64 < m.length then .error (53, pl5 T L (s05 nx)) else match cls5 (pl5 T L (s05 nx)) h m [] with
    | .error e => .error e
    | .ok ks => .ok (ks, s.nx)
theorem norm_rng {x : Ck} {n : Nat} (h : (Ck.terms x).length ≤ n) {t : Tm} (ht : t ∈ Ck.terms (normC x)) (hv : t.var = true) : 0 ≤ t.n ∧ t.n < n := by
  refine ⟨?_, norm_small h ht hv⟩
  unfold normC at ht
  rw [mapC_terms] at ht
  obtain ⟨u, hu, rfl⟩ := List.mem_map.1 ht
  rw [nmT_var _ _ (fun u hu => (disT_mem.1 hu).2)] at hv
  have hm : u ∈ disT (Ck.terms x) := disT_mem.2 ⟨hu, hv⟩
  unfold nmT
  rw [if_pos hm]
  simp
theorem norm_wf5 {c : Cm} {x : Ck} (hk : c.key = normC x) (h : (Ck.terms x).length ≤ 4000000) : c.wf := by
  refine ⟨fun t ht hv => ?_, ?_⟩
  · rw [key_terms, hk] at ht
    obtain ⟨h1, h2⟩ := norm_rng h ht hv
    have h4 : -9223372036854775808 ≤ t.n ∧ t.n ≤ 9223372036854775807 := by omega
    simp only [Lit.wf, IntKind.min, IntKind.max, Bool.and_eq_true]
    constructor <;> simp [IntKind.signed, IntKind.bits] <;> omega
  · rw [key_terms, hk, norm_terms]
    omega
/-- Between two rules again. -/
theorem PZ.pb {g mb N' N : Nat} {tv : Value} {T : List Tk} {L nx : Nat} {w w' : World} {s : Ps} (h : PZ ⟨g, mb, N', tv, T, L⟩ w' s) (ho : s.op = 0) (h0 : PB g N tv T L w nx) (hf : Fr (fun b => b = g) w w') : PB g N tv T L w' s.nx := by
  have hb := h.b
  rw [ho] at hb
  exact ⟨⟨some mb, s.vs, hb⟩, h0.t.fr hf fun b _ hF e => hF.1 e, h.le, h0.gN, Nat.le_trans h0.Nw hf.size, h0.ok, h0.o.fr hf fun e => h0.og.1 e.symm, h0.og⟩
theorem gs_05 {T : List Tk} {nx : Nat} (h : nx ≤ T.length) : GS T (s05 nx) := ⟨h, Nat.zero_le _, fun x k e => by cases e⟩
end Go.Proofs.YtcpjiahdaplhlaaGreatDoor
