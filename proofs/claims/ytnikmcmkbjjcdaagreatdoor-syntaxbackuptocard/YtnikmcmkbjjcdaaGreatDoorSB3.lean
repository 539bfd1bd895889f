/-
  SyntaxBack: the walk. (Written by SB3.py.)
-/
import Derived.Test.YtnikmcmkbjjcdaaGreatDoorSY27
import Derived.Test.YtnikmcmkbjjcdaaGreatDoorSV9
namespace Go.Proofs.YtnikmcmkbjjcdaaGreatDoor
open Go.RowKit
attribute [local go_sem ↓] Go.wp_at_zero Go.wp_at_succ

theorem eql_ft0 (w : World) : (binOp .eql 26 (.agg #[.int .i64 0, .int .i64 0]) (.agg #[.int .i64 0, .int .i64 0])).run Tryz.prog w = .ok (.bool true) w := by kernel_rfl
theorem vl5_snoc (ks : List Ck) (k : Ck) : vl5 (ks ++ [k]) = if ch5 k = 0 then vl5 ks ++ [k] else vl5 ks := by
  unfold vl5
  rw [List.filter_append]
  by_cases h : ch5 k = 0
  · rw [if_pos h, List.filter_cons_of_pos (by simpa using h)]; rfl
  · rw [if_neg h, List.filter_cons_of_neg (by simpa using h)]; simp
/-- What the loop has come to. -/
structure Vk5 (l m : List Cm) (j : Nat) : Prop where
  k : m.map Cm.key = vl5 ((l.take j).map Cm.key)
  n : m.length ≤ j
  i : ∀ c ∈ m, c ∈ l
theorem Vk5.no {l m : List Cm} {j : Nat} {x : Cm} (h : Vk5 l m j) (hx : l[j]? = some x) (he : ch5 x.key ≠ 0) : Vk5 l m (j + 1) := by
  refine ⟨?_, Nat.le_succ_of_le h.n, h.i⟩
  rw [List.take_add_one, hx, List.map_append]
  show _ = vl5 (_ ++ [x.key])
  rw [vl5_snoc, if_neg he]
  exact h.k
theorem Vk5.yes {l m : List Cm} {j : Nat} {x : Cm} (h : Vk5 l m j) (hx : l[j]? = some x) (he : ch5 x.key = 0) : Vk5 l (m ++ [x]) (j + 1) := by
  refine ⟨?_, ?_, fun c hc => ?_⟩
  · rw [List.take_add_one, hx, List.map_append, List.map_append]
    show _ = vl5 (_ ++ [x.key])
    rw [vl5_snoc, if_pos he, h.k]
    rfl
  · rw [List.length_append]; have := h.n; simp only [List.length_cons, List.length_nil]; omega
  · rcases List.mem_append.1 hc with hc | hc
    · exact h.i c hc
    · rw [List.mem_singleton.1 hc]; exact List.mem_of_getElem? hx
set_option maxRecDepth 20000 in
set_option maxHeartbeats 8000000 in
theorem back5_any (l : List Cm) (v : Value) (a : At) (y : Value) (w : World) (h : Cx5 w v l) (hl : l.length ≤ 2000000) (hc : ∀ c ∈ l, Nw5 c) (hy : Ts w y a.args) (hn : ∀ t ∈ a.pl, N64 t.n) (hE : EnvOk w) (hO : OpsOk w) :
    Calls Tryz.prog 8 #[v, a.v y] w fun e w' => e = .returned (.bool true) ∧ Below w.heap.size w w' := by
  obtain ⟨⟨ak, an, az⟩, am, al⟩ := a
  obtain ⟨ya, yc, hyf, hyr⟩ := id hy
  subst hyf
  obtain ⟨yn, hyn⟩ : ∃ yn, al.length = yn := ⟨_, rfl⟩
  have hy2 : Ts w (.slice ya al.length yc) al := hy
  show Calls Tryz.prog 8 #[v, .agg #[.int .i64 ak, .int .i64 an, .string az, .string am, .slice ya al.length yc]] w _
  rw [hyn] at hy2 ⊢
  have HB0 := hm7 (below1 w (.cells #[.int .i64 ak, .int .i64 an, .string az, .string am, .slice ya yn yc] 33))
  have HX0 := hm7 (Bk.new w #[.int .i64 ak, .int .i64 an, .string az, .string am, .slice ya yn yc] 33)
  have HP0 := hm7 (h.below HB0.out)
  have HY0 : Hid (Ts (w.alloc (.cells #[.int .i64 ak, .int .i64 an, .string az, .string am, .slice ya yn yc] 33)) (.slice ya yn yc) al) := hy2.later HB0.out
  have h1 : ∀ X : World, Below w.heap.size w X → EnvOk X ∧ OpsOk X := fun X hX => ⟨hE.later hX, hO.fr (P := fun _ => False) (Fr.of hX) fun h => h⟩
  have HEO := hm7 h1
  obtain ⟨⟨va, vc, hv, -⟩, -⟩ := h
  obtain ⟨n, hnl⟩ : ∃ n, l.length = n := ⟨_, rfl⟩
  rw [hnl] at hv hl
  subst hv
  have HN := hm7 hnl
  have HC := hm7 hc
  have HNA := hm7 hn
  clear hnl hc hn hE hO h1 hyn hy hyr hy2
  go_enter Tryz.func8, Tryz.ntmps8
  go_upto_region 1 with fail
  revert HB0 HX0 HP0 HY0
  generalize w.alloc (.cells #[.int .i64 ak, .int .i64 an, .string az, .string am, .slice ya yn yc] 33) = W0
  obtain ⟨q, hq⟩ : ∃ q, w.heap.size = q := ⟨_, rfl⟩
  intro HB0 HX0 HY0 HP0
  have HQ := hm7 hq
  have HEW : Hid (∀ X : World, Below W0.heap.size W0 X → EnvOk X ∧ OpsOk X) := fun X hX => HEO.out X (below_step HB0.out hX)
  rw [hq] at HX0 ⊢
  clear hq HEO
  have HF : Hid (∀ X : World, Below W0.heap.size W0 X → Calls Tryz.prog 9 #[] X fun e w' => e = .returned (.bool true) ∧ Below X.heap.size X w') := fun X hX => first5_any X (HEW.out X hX).1 (HEW.out X hX).2
  go_wp2
  go_loopg [5, 6] n (fun g u i wr => ∃ (j : Nat) (m : List Cm), j + g = n ∧ i = .int .i64 (j : Int) ∧ Vk5 l m j ∧ wr.ownsRow W0.heap.size 37 7 u m.length (m.flatMap cc5) ∧ Below W0.heap.size W0 wr)
  case atStart => exact ⟨0, [], by omega, rfl, ⟨rfl, Nat.le_refl _, fun c hc => by cases hc⟩, World.ownsRow_nil _ _ _ _, Below.refl _ _⟩
  case round =>
    obtain ⟨j, m, hg, rfl, hvk, ho, hb⟩ := hrel
    have HVK := hm7 hvk
    have HB := hm7 hb
    obtain ⟨ua, uc, huf, -⟩ := row7_form ho
    obtain ⟨mn, hmn⟩ : ∃ mn, m.length = mn := ⟨_, rfl⟩
    rw [hmn] at huf ho
    have HMN := hm7 hmn
    have HO := hm7 ho
    subst huf
    have hmb : mn ≤ j := by have := hvk.n; omega
    clear hvk ho hb hmn
    cases gk with
    | succ g =>
      have i0 : (0 : Int) ≤ (j : Int) := by omega
      have i1 : (j : Int) < (n : Int) := by omega
      obtain ⟨x, hx⟩ : ∃ c, l[j]? = some c := ⟨_, List.getElem?_eq_getElem (by have := HN.out; omega)⟩
      have HJX := hm7 hx
      have hxl := List.mem_of_getElem? hx
      have HPW := hm7 (HP0.out.below HB.out)
      have hok := HPW.out.ok x hxl
      obtain ⟨⟨va', vc', ev, hm⟩, -⟩ := HPW.out
      rw [HN.out] at ev
      simp only [Value.slice.injEq] at ev
      rcases hm with e | ⟨sb, so, e0, hz, hce⟩
      · rw [e] at hx; simp at hx
      rw [e0] at ev
      obtain ⟨rfl, -, -⟩ := ev
      have HE := hm7 (hce j x hx)
      have HZ : Hid (sb < wr.heap.size) := hz
      have HNX := hm7 (HC.out x hxl)
      have HEX : Hid (∀ X : World, Below wr.heap.size wr X → EnvOk X ∧ OpsOk X) := fun X hX => HEW.out X (below_step HB.out hX)
      have HPX := hm7 (print5_any x wr hok HNX.out.1 HNX.out.2 (HEX.out wr (Below.refl _ _)).1 (HEX.out wr (Below.refl _ _)).2)
      have HKX : Hid (∀ X : World, Below wr.heap.size wr X → Calls Tryz.prog 17 #[x.v] X fun e w' => e = .returned (.int .i64 (ch5 x.key)) ∧ Below X.heap.size X w') := fun X hX => by
        have := check9_any x X (hok.later hX) HNX.out.1
        rw [chk_ch5] at this
        exact this
      have HN64 : Hid (∀ t ∈ Ck.terms x.key, N64 t.n) := fun t ht => HNX.out.2 t (by rw [key_terms]; exact ht)
      have HSX : Hid (∀ (d : Cm) (X : World), Below wr.heap.size wr X → d.ok X → d.key = x.key → Calls Tryz.prog 18 #[d.v, x.v] X fun e w' => e = .returned (.bool true) ∧ Below X.heap.size X w') := fun d X hX hd hk => clauses5_any d x X hd (hok.later hX) hk
      obtain ⟨ec, hec⟩ : ∃ e, ch5 x.key = e := ⟨_, rfl⟩
      rw [hec] at HKX
      have hsh := hok.shape
      clear hx hxl hz hce hok HNX HPW e0
      obtain ⟨⟨x1, x2, x3, e1⟩, ⟨x4, x6, e2⟩, ⟨x7, x9, e3⟩, -, -⟩ := hsh
      obtain ⟨x5, h5⟩ : ∃ n, x.body.length = n := ⟨_, rfl⟩
      obtain ⟨x8, h8⟩ : ∃ n, x.tests.length = n := ⟨_, rfl⟩
      rw [h5] at e2
      rw [h8] at e3
      clear h5 h8
      obtain ⟨kx, hkx⟩ : ∃ k, x.key = k := ⟨_, rfl⟩
      rw [hkx] at HPX HN64 HSX hec
      have HXK := hm7 hkx
      clear hkx
      have HCC : Hid (x.v = .agg #[.int .i64 x.head.1.by_.k, .int .i64 x.head.1.by_.n, .string x.head.1.by_.s, .string x.head.1.name, .slice x1 x2 x3, .slice x4 x5 x6, .slice x7 x8 x9] ∧ cc5 x = [.int .i64 x.head.1.by_.k, .int .i64 x.head.1.by_.n, .string x.head.1.by_.s, .string x.head.1.name, .slice x1 x2 x3, .slice x4 x5 x6, .slice x7 x8 x9]) := ⟨by show Value.agg _ = _; rw [e1, e2, e3], by unfold cc5; rw [e1, e2, e3]⟩
      rw [HCC.out.1] at HPX HKX HSX
      rw [e1, e2, e3] at HE
      obtain ⟨xk, hxk⟩ : ∃ z, x.head.1.by_.k = z := ⟨_, rfl⟩
      obtain ⟨xm, hxm⟩ : ∃ z, x.head.1.by_.n = z := ⟨_, rfl⟩
      obtain ⟨xs, hxs⟩ : ∃ z, x.head.1.by_.s = z := ⟨_, rfl⟩
      obtain ⟨xn, hxn⟩ : ∃ z, x.head.1.name = z := ⟨_, rfl⟩
      rw [hxk, hxm, hxs, hxn] at HPX HKX HSX HE
      have HC5 : Hid (cc5 x = [.int .i64 xk, .int .i64 xm, .string xs, .string xn, .slice x1 x2 x3, .slice x4 x5 x6, .slice x7 x8 x9]) := by show _ = _; rw [HCC.out.2, hxk, hxm, hxs, hxn]
      clear hxk hxm hxs hxn e1 e2 e3 HCC
      obtain ⟨tx, htx⟩ : ∃ t, pc5 kx = t := ⟨_, rfl⟩
      rw [htx] at HPX
      obtain ⟨p0, p1, p2, p3, p4, p5, p6⟩ := HE.out
      go_upto_region 6 with (go_at_call 16; refine HPX.out.mono ?_; rintro e W1 ⟨rfl, hb⟩; have HB1 := hm7 hb; clear hb)
      have z0 := cell_step HB1.out HZ.out p0
      have z1 := cell_step HB1.out HZ.out p1
      have z2 := cell_step HB1.out HZ.out p2
      have z3 := cell_step HB1.out HZ.out p3
      have z4 := cell_step HB1.out HZ.out p4
      have z5 := cell_step HB1.out HZ.out p5
      have z6 := cell_step HB1.out HZ.out p6
      clear p0 p1 p2 p3 p4 p5 p6 HPX
      have HK1 := hm7 (HKX.out W1 HB1.out)
      have hz1 : sb < W1.heap.size := Nat.lt_of_lt_of_le HZ.out HB1.out.size
      by_cases he : ec = 0
      · subst he
        go_upto_region 9 with (go_at_call 17; refine HK1.out.mono ?_; rintro e W2 ⟨rfl, hb⟩; have HB2 := hm7 (below_step HB1.out hb); clear hb)
        clear z0 z1 z2 z3 z4 z5 z6 hz1 HK1 HKX
        have hts : tx.size < 27000 := by rw [← htx]; exact pc5_len hec HN64.out
        have h27 : ¬ (27000 : Int) ≤ (tx.size : Int) := by omega
        have HCL := hm7 (clause5_any tx kx (by omega) W2 (HEX.out W2 HB2.out).1 (HEX.out W2 HB2.out).2 (by rw [← htx]; exact pg_back hec HN64.out (by decide)))
        have HVY : Hid (Vk5 l (m ++ [x]) (j + 1)) := HVK.out.yes HJX.out (by rw [HXK.out, hec])
        clear hec htx hts
        go_upto_region 10 with (go_at_call 15; refine HCL.out.mono ?_; rintro e W3 ⟨y, rfl, hyk, hyo, hb⟩; have HB3 := hm7 (below_step HB2.out hb); have HYK := hm7 hyk; have hsh2 := hyo.shape; have HYO := hm7 hyo; clear hb hyk hyo; obtain ⟨⟨⟨⟨ck, cm, cs⟩, cn, cl⟩, cx⟩, cb, cbv, ct, ctv⟩ := y; simp only at hsh2; obtain ⟨⟨c1, c2, c3, e1⟩, ⟨c4, c6, e2⟩, ⟨c7, c9, e3⟩, -, -⟩ := hsh2; generalize cb.length = c5 at e2; generalize ct.length = c8 at e3; subst e1 e2 e3)
        obtain ⟨t1, t2, t3⟩ := two5 W3 #[.int .i64 ck, .int .i64 cm, .string cs, .string cn, .slice c1 c2 c3, .slice c4 c5 c6, .slice c7 c8 c9] #[.int .i64 0, .int .i64 0] 37 26
        have HG4 := hm7 t1
        have HC4 := hm7 t2
        have HB4 := hm7 (below_step HB3.out t3)
        have HYO4 := hm7 (HYO.out.later t3)
        clear t1 t2 t3
        revert HG4 HC4 HB4 HYO4
        generalize (W3.alloc (.cells #[.int .i64 ck, .int .i64 cm, .string cs, .string cn, .slice c1 c2 c3, .slice c4 c5 c6, .slice c7 c8 c9] 37)).alloc (.cells #[.int .i64 0, .int .i64 0] 26) = W4
        generalize W3.heap.size + 1 = gb at *
        generalize W3.heap.size = cb' at *
        intro HG4 HC4 HB4 HYO4
        obtain ⟨p0, p1, p2, p3, p4, p5, p6⟩ := HE.out
        have HE4 : Hid (W4.cell? ⟨sb, so + j * 7, none⟩ = some (.int .i64 xk) ∧ W4.cell? ⟨sb, so + j * 7 + 1, none⟩ = some (.int .i64 xm) ∧ W4.cell? ⟨sb, so + j * 7 + 2, none⟩ = some (.string xs) ∧ W4.cell? ⟨sb, so + j * 7 + 3, none⟩ = some (.string xn) ∧ W4.cell? ⟨sb, so + j * 7 + 4, none⟩ = some (.slice x1 x2 x3) ∧ W4.cell? ⟨sb, so + j * 7 + 5, none⟩ = some (.slice x4 x5 x6) ∧ W4.cell? ⟨sb, so + j * 7 + 6, none⟩ = some (.slice x7 x8 x9)) := ⟨cell_step HB4.out HZ.out p0, cell_step HB4.out HZ.out p1, cell_step HB4.out HZ.out p2, cell_step HB4.out HZ.out p3, cell_step HB4.out HZ.out p4, cell_step HB4.out HZ.out p5, cell_step HB4.out HZ.out p6⟩
        have HZ4 : Hid (sb < W4.heap.size) := Nat.lt_of_lt_of_le HZ.out HB4.out.size
        clear p0 p1 p2 p3 p4 p5 p6
        have HCS : Hid (∀ X : World, Below W4.heap.size W4 X → Calls Tryz.prog 18 #[.agg #[.int .i64 ck, .int .i64 cm, .string cs, .string cn, .slice c1 c2 c3, .slice c4 c5 c6, .slice c7 c8 c9], .agg #[.int .i64 xk, .int .i64 xm, .string xs, .string xn, .slice x1 x2 x3, .slice x4 x5 x6, .slice x7 x8 x9]] X fun e w' => e = .returned (.bool true) ∧ Below X.heap.size X w') := fun X hX => HSX.out ⟨(⟨⟨ck, cm, cs⟩, cn, cl⟩, .slice c1 c2 c3), cb, .slice c4 c5 c6, ct, .slice c7 c8 c9⟩ X (below_step HB4.out hX) (HYO4.out.later hX) HYK.out
        clear HCL HSX HYO HYO4 HYK HB3 HB2 HB1
        refine wp_region_held_drew (S := fun w' => Below W4.heap.size W4 w') (by kernel_rfl) (Below.refl _ _).drew (fun hH => ?_)
        revert hH
        generalize W4.drew = V
        intro hH
        refine wpAnyH_take (i := 0) (oi := ⟨_, _, _, _, _, _⟩) (v := .agg #[.int .i64 0, .int .i64 0]) rfl (by kernel_rfl) (by kernel_rfl) (by kernel_rfl) (fun _ _ _ h => h) (Or.inl ⟨by rfl, fun w' h => by have _h := h; have a0 := (HG4.out.below h).cell (i := 0) rfl; have a1 := (HG4.out.below h).cell (i := 1) rfl; go_simp⟩) hH ?_
        simp only [Act.put, List.setIfInBounds_toArray, List.set_cons_zero, List.set_cons_succ]
        refine wpAnyH_take (i := 1) (oi := ⟨_, _, _, _, _, _⟩) (v := .agg #[.int .i64 0, .int .i64 0]) rfl (by kernel_rfl) (by kernel_rfl) (by kernel_rfl) (fun _ _ _ h => h) (Or.inl ⟨by rfl, fun w' h => by have _h := h; go_simp⟩) hH ?_
        simp only [Act.put, List.setIfInBounds_toArray, List.set_cons_zero, List.set_cons_succ]
        refine wpAnyH_take (i := 2) (oi := ⟨_, _, _, _, _, _⟩) (v := .bool false) rfl (by kernel_rfl) (by kernel_rfl) (by kernel_rfl) (fun _ _ _ h => h) (Or.inl ⟨by rfl, fun w' h => by have _h := h; have hq := neq_ft0 w'; go_simp⟩) hH ?_
        simp only [Act.put, List.setIfInBounds_toArray, List.set_cons_zero, List.set_cons_succ]
        refine wpAnyH_take (i := 3) (oi := ⟨_, _, _, _, _, _⟩) (v := .bool false) rfl (by kernel_rfl) (by kernel_rfl) (by kernel_rfl) (fun _ _ _ h => h) (Or.inl ⟨by rfl, fun w' h => by have _h := h; go_simp⟩) hH ?_
        simp only [Act.put, List.setIfInBounds_toArray, List.set_cons_zero, List.set_cons_succ]
        refine wpAnyH_take (i := 4) (oi := ⟨_, _, _, _, _, _⟩) (v := .agg #[.int .i64 ck, .int .i64 cm, .string cs, .string cn, .slice c1 c2 c3, .slice c4 c5 c6, .slice c7 c8 c9]) rfl (by kernel_rfl) (by kernel_rfl) (by kernel_rfl) (fun _ _ _ h => h) (Or.inl ⟨by rfl, fun w' h => by have _h := h; have a0 := (HC4.out.below h).cell (i := 0) rfl; have a1 := (HC4.out.below h).cell (i := 1) rfl; have a2 := (HC4.out.below h).cell (i := 2) rfl; have a3 := (HC4.out.below h).cell (i := 3) rfl; have a4 := (HC4.out.below h).cell (i := 4) rfl; have a5 := (HC4.out.below h).cell (i := 5) rfl; have a6 := (HC4.out.below h).cell (i := 6) rfl; go_simp⟩) hH ?_
        simp only [Act.put, List.setIfInBounds_toArray, List.set_cons_zero, List.set_cons_succ]
        refine wpAnyH_take (i := 5) (oi := ⟨_, _, _, _, _, _⟩) (v := .slice (some ⟨sb, so, none⟩) n vc) rfl (by kernel_rfl) (by kernel_rfl) (by kernel_rfl) (fun _ _ _ h => h) (Or.inl ⟨by rfl, fun w' h => by have _h := h; go_simp⟩) hH ?_
        simp only [Act.put, List.setIfInBounds_toArray, List.set_cons_zero, List.set_cons_succ]
        refine wpAnyH_take (i := 6) (oi := ⟨_, _, _, _, _, _⟩) (v := .int .i64 (j : Int)) rfl (by kernel_rfl) (by kernel_rfl) (by kernel_rfl) (fun _ _ _ h => h) (Or.inl ⟨by rfl, fun w' h => by have _h := h; go_simp⟩) hH ?_
        simp only [Act.put, List.setIfInBounds_toArray, List.set_cons_zero, List.set_cons_succ]
        refine wpAnyH_take (i := 7) (oi := ⟨_, _, _, _, _, _⟩) (v := .pointer (some ⟨sb, so + j * 7, none⟩)) rfl (by kernel_rfl) (by kernel_rfl) (by kernel_rfl) (fun _ _ _ h => h) (Or.inl ⟨by rfl, fun w' h => by have _h := h; go_simp⟩) hH ?_
        simp only [Act.put, List.setIfInBounds_toArray, List.set_cons_zero, List.set_cons_succ]
        refine wpAnyH_take (i := 8) (oi := ⟨_, _, _, _, _, _⟩) (v := .agg #[.int .i64 xk, .int .i64 xm, .string xs, .string xn, .slice x1 x2 x3, .slice x4 x5 x6, .slice x7 x8 x9]) rfl (by kernel_rfl) (by kernel_rfl) (by kernel_rfl) (fun _ _ _ h => h) (Or.inl ⟨by rfl, fun w' h => by obtain ⟨p0, p1, p2, p3, p4, p5, p6⟩ := HE4.out; have z := HZ4.out; have a0 := cell_step h z p0; have a1 := cell_step h z p1; have a2 := cell_step h z p2; have a3 := cell_step h z p3; have a4 := cell_step h z p4; have a5 := cell_step h z p5; have a6 := cell_step h z p6; clear p0 p1 p2 p3 p4 p5 p6; go_simp⟩) hH ?_
        simp only [Act.put, List.setIfInBounds_toArray, List.set_cons_zero, List.set_cons_succ]
        refine wpAnyH_ready (rs := [9]) (by kernel_rfl) (by simp) ?_
        refine (AllReadyH.cons (o := ⟨_, _, _, _, _, _⟩) rfl (fun K hK => ?_) AllReadyH.nil)
        go_simp
        refine (HCS.out _ hH).mono ?_
        rintro e V1 ⟨rfl, hb⟩
        refine hK.out _ _ (below_step hH hb) (fun hH => ?_)
        clear hK K hb
        try simp only [Act.put, List.setIfInBounds_toArray, List.set_cons_zero, List.set_cons_succ]
        refine wpAnyH_take (i := 10) (oi := ⟨_, _, _, _, _, _⟩) (v := .bool false) rfl (by kernel_rfl) (by kernel_rfl) (by kernel_rfl) (fun _ _ _ h => h) (Or.inl ⟨by rfl, fun w' h => by have _h := h; go_simp⟩) hH ?_
        simp only [Act.put, List.setIfInBounds_toArray, List.set_cons_zero, List.set_cons_succ]
        refine wpAnyH_take (i := 11) (oi := ⟨_, _, _, _, _, _⟩) (v := .bool false) rfl (by kernel_rfl) (by kernel_rfl) (by kernel_rfl) (fun _ _ _ h => h) (Or.inl ⟨by rfl, fun w' h => by have _h := h; go_simp⟩) hH ?_
        simp only [Act.put, List.setIfInBounds_toArray, List.set_cons_zero, List.set_cons_succ]
        refine wpAnyH_take (i := 12) (oi := ⟨_, _, _, _, _, _⟩) (v := .bool false) rfl (by kernel_rfl) (by kernel_rfl) (by kernel_rfl) (fun _ _ _ h => h) (Or.inl ⟨by rfl, fun w' h => by have _h := h; go_simp⟩) hH ?_
        simp only [Act.put, List.setIfInBounds_toArray, List.set_cons_zero, List.set_cons_succ]
        refine wpAnyH_take (i := 13) (oi := ⟨_, _, _, _, _, _⟩) (v := .string tx) rfl (by kernel_rfl) (by kernel_rfl) (by kernel_rfl) (fun _ _ _ h => h) (Or.inl ⟨by rfl, fun w' h => by have _h := h; go_simp⟩) hH ?_
        simp only [Act.put, List.setIfInBounds_toArray, List.set_cons_zero, List.set_cons_succ]
        refine wpAnyH_take (i := 14) (oi := ⟨_, _, _, _, _, _⟩) (v := .int .i64 (tx.size : Int)) rfl (by kernel_rfl) (by kernel_rfl) (by kernel_rfl) (fun _ _ _ h => h) (Or.inl ⟨by rfl, fun w' h => by have _h := h; go_simp⟩) hH ?_
        simp only [Act.put, List.setIfInBounds_toArray, List.set_cons_zero, List.set_cons_succ]
        refine wpAnyH_take (i := 15) (oi := ⟨_, _, _, _, _, _⟩) (v := .bool false) rfl (by kernel_rfl) (by kernel_rfl) (by kernel_rfl) (fun _ _ _ h => h) (Or.inl ⟨by rfl, fun w' h => by have _h := h; go_simp⟩) hH ?_
        simp only [Act.put, List.setIfInBounds_toArray, List.set_cons_zero, List.set_cons_succ]
        refine wpAnyH_take (i := 16) (oi := ⟨_, _, _, _, _, _⟩) (v := .bool false) rfl (by kernel_rfl) (by kernel_rfl) (by kernel_rfl) (fun _ _ _ h => h) (Or.inl ⟨by rfl, fun w' h => by have _h := h; go_simp⟩) hH ?_
        simp only [Act.put, List.setIfInBounds_toArray, List.set_cons_zero, List.set_cons_succ]
        refine wpAnyH_done (by kernel_rfl) ?_ _
        have HV : Hid (Below W4.heap.size W4 V1) := hH
        clear hH HG4 HC4 HCS
        have HBV := hm7 (below_step HB4.out HV.out)
        obtain ⟨p0, p1, p2, p3, p4, p5, p6⟩ := HE4.out
        have z0 := cell_step HV.out HZ4.out p0
        have z1 := cell_step HV.out HZ4.out p1
        have z2 := cell_step HV.out HZ4.out p2
        have z3 := cell_step HV.out HZ4.out p3
        have z4 := cell_step HV.out HZ4.out p4
        have z5 := cell_step HV.out HZ4.out p5
        have z6 := cell_step HV.out HZ4.out p6
        have hz4 : sb < V1.heap.size := Nat.lt_of_lt_of_le HZ4.out HV.out.size
        clear p0 p1 p2 p3 p4 p5 p6 HE4 HZ4
        have HO4 := hm7 (row7_below (row7_below HO.out HBV.out) (below1 V1 (.cells #[.int .i64 xk, .int .i64 xm, .string xs, .string xn, .slice x1 x2 x3, .slice x4 x5 x6, .slice x7 x8 x9] 37)))
        have hwv : W0.heap.size ≤ V1.heap.size := Nat.le_trans HB.out.size HBV.out.size
        go_wp2_with (at_builtin; refine gapp5 Tryz.underlying23 Tryz.infoClause5 rfl (by decide) (by decide) rfl _ _ rfl W0.heap.size (.slice ua mn uc) mn (m.flatMap cc5) rfl HO4.out V1.heap.size #[.int .i64 xk, .int .i64 xm, .string xs, .string xn, .slice x1 x2 x3, .slice x4 x5 x6, .slice x7 x8 x9] rfl (Bk.new _ _ _) rfl (by simp [Value.oneCell']) (by omega) (by simp; omega) ?_; intro g5' q5 w5 ho5 hg5 hv5 hl5; have HO5 := hm7 ho5; have HG5 := hm7 hg5; clear ho5 hg5 hv5 hl5)
        try go_wp2
        go_roundg g
        case measure => omega
        case rel =>
          refine ⟨j + 1, m ++ [x], by omega, by go_num, HVY.out, ?_, ?_⟩
          · rw [List.length_append, List.length_singleton, HMN.out, List.flatMap_append]
            have e6 : [x].flatMap cc5 = cc5 x := by simp
            rw [e6, HC5.out]
            exact HO5.out
          · have b1 := below_step (below_step HB.out HBV.out) (below1 V1 (.cells #[.int .i64 xk, .int .i64 xm, .string xs, .string xn, .slice x1 x2 x3, .slice x4 x5 x6, .slice x7 x8 x9] 37))
            exact b1.grown HG5.out b1.size fun k e => (World.ownsRow.lt HO4.out k e).1
      · have he1 : (ec == 0) = false := by simp [he]
        have he2 : (ec != 0) = true := by simp [he]
        have htn : tx = ⟨#[]⟩ := by rw [← htx]; exact pc5_no (by rw [hec]; exact he)
        subst htn
        have HV2 : Hid (Vk5 l m (j + 1)) := HVK.out.no HJX.out (by rw [HXK.out, hec]; exact he)
        go_wp2_with (go_at_call 17; refine HK1.out.mono ?_; rintro e W2 ⟨rfl, hb⟩; have HB2 := hm7 (below_step HB1.out hb); clear hb z0 z1 z2 z3 z4 z5 z6)
        go_roundg g
        case measure => omega
        case rel =>
          refine ⟨j + 1, m, by omega, by go_num, HV2.out, ?_, below_step HB.out HB2.out⟩
          rw [HMN.out]
          exact row7_below HO.out HB2.out
    | zero =>
      have i1 : ¬ (j : Int) < (n : Int) := by omega
      have HVN : Hid (m.map Cm.key = vl5 (l.map Cm.key)) := by
        have := HVK.out.k
        rw [List.take_of_length_le (by have := HN.out; omega)] at this
        exact this
      have HOK : Hid (∀ c ∈ m, c.ok W0) := fun c hc => HP0.out.ok c (HVK.out.i c hc)
      have HPA : Hid (Calls Tryz.prog 25 #[.slice va n vc] wr fun e w' => e = .returned (.string (palB (l.map Cm.key))) ∧ Below wr.heap.size wr w') := printAll_any l (.slice va n vc) wr (HP0.out.below HB.out) (by have := HN.out; omega) HC.out (HEW.out wr HB.out).1 (HEW.out wr HB.out).2
      have HPB : Hid ((palB (l.map Cm.key)).size ≤ 1048576 → pg5 (palB (l.map Cm.key)) 1048576 = .ok (vl5 (l.map Cm.key))) := fun hs => pal_back _ (fun k hk t ht => by
        obtain ⟨c, hc, rfl⟩ := List.mem_map.1 hk
        exact (HC.out c hc).2 t (by rw [key_terms]; exact ht)) hs
      obtain ⟨tx, htx⟩ : ∃ t, palB (l.map Cm.key) = t := ⟨_, rfl⟩
      rw [htx] at HPA HPB
      clear htx
      go_upto_if 68 with (go_at_call 25; refine HPA.out.mono ?_; rintro e W1 ⟨rfl, hb⟩; have HB1 := hm7 hb; clear hb)
      have HBW := hm7 (below_step HB.out HB1.out)
      go_cut [11, 12, 69] from 68 to 82 (fun _ _ _ wx => Below W0.heap.size W0 wx)
      case first =>
        by_cases hs : tx.size ≤ 1048576
        · have i2 : (tx.size : Int) ≤ 1048576 := by omega
          have HPG := hm7 (program_any tx (by omega) W1 (HEW.out W1 HBW.out).1 (HEW.out W1 HBW.out).2)
          rw [HPB.out hs] at HPG
          have hnq := neq_ft0
          have hlm : m.length ≤ 1000000000 := by have := HMN.out; omega
          have HLS : Hid (∀ (X : World) (v2 : Value) (l2 : List Cm), RL (fun _ => True) X v2 l2 → l2.map Cm.key = vl5 (l.map Cm.key) → Below W1.heap.size W1 X → Calls Tryz.prog 14 #[v2, .slice ua mn uc] X fun e w' => e = .returned (.bool true) ∧ Below X.heap.size X w') := fun X v2 l2 h2 hk hX => by
            have hbx := below_step HB1.out hX
            have ho := row7_below HO.out hbx
            have hll : l2.length = m.length := by have h3 := congrArg List.length (hk.trans HVN.out.symm); rw [List.length_map, List.length_map] at h3; exact h3
            exact lists5_any _ _ l2 m v2 _ X h2 (rl_low (below_step HB.out hbx) (by rw [HMN.out]; exact ho) HOK.out) (hk.trans HVN.out.symm) (by omega)
          clear HPB hlm hs
          go_wp2_with (first
            | (go_at_call 10; refine HPG.out.mono ?_; intro e W2 hh; obtain ⟨hb, v2, l2, rfl, hk2, hr2⟩ := rep_ok hh; clear hh; have HK2 := hm7 hk2; have HR2 := hm7 ((hr2.mono (G := fun _ => True) fun _ _ _ => trivial).below (below1 W2 (.cells #[.int .i64 0, .int .i64 0] 26))); have HB2 := hm7 (below_step hb (below1 W2 (.cells #[.int .i64 0, .int .i64 0] 26))); have HG2 := hm7 (Bk.new W2 #[.int .i64 0, .int .i64 0] 26); have g0 := HG2.out.cell (i := 0) rfl; have g1 := HG2.out.cell (i := 1) rfl; clear hb hk2 hr2)
            | (go_at_call 14; refine (HLS.out _ _ _ HR2.out HK2.out HB2.out).mono ?_; rintro e W3 ⟨rfl, hb⟩; have HB3 := hm7 (below_step HB2.out hb); clear hb g0 g1))
          go_meet
          case rel => exact below_step HBW.out HB3.out
        · have i2 : ¬ (tx.size : Int) ≤ 1048576 := by omega
          clear HPB hs
          go_wp2
          go_meet
          case rel => exact HBW.out
      case rest =>
      have HB5 := hm7 hcut
      clear hcut HVN HOK HPA HPB HVK HO HB1 HBW HB HP0 HC
      rename World => W5
      have HX5 := hm7 (HX0.out.below HB5.out)
      have HY5 := hm7 (HY0.out.later HB5.out)
      have HPQ := hm7 (printQuery_any ⟨⟨ak, an, az⟩, am, al⟩ (.slice ya yn yc) W5 HY5.out HNA.out (HEW.out W5 HB5.out).1)
      have HCA : Hid (∀ X : World, Below W5.heap.size W5 X → Calls Tryz.prog 21 #[.agg #[.int .i64 ak, .int .i64 an, .string az, .string am, .slice ya yn yc]] X fun e w' => e = .returned (.int .i64 (At.err ⟨⟨ak, an, az⟩, am, al⟩)) ∧ Below X.heap.size X w') := fun X hX => chk_any ⟨⟨ak, an, az⟩, am, al⟩ (.slice ya yn yc) X (HY5.out.later hX)
      have HPT : Hid (∀ X : World, Below W5.heap.size W5 X → Calls Tryz.prog 27 #[.agg #[.int .i64 ak, .int .i64 an, .string az, .string am, .slice ya yn yc]] X fun e w' => e = .returned (.string (pa5 ⟨⟨ak, an, az⟩, am, al⟩)) ∧ Below X.heap.size X w') := fun X hX => printAtom_any ⟨⟨ak, an, az⟩, am, al⟩ (.slice ya yn yc) X (HY5.out.later hX) HNA.out (HEW.out X (below_step HB5.out hX)).1
      have HPL := hm7 (pa5_len ⟨⟨ak, an, az⟩, am, al⟩ HNA.out)
      obtain ⟨tq, htq⟩ : ∃ t, pq5 ⟨⟨ak, an, az⟩, am, al⟩ = t := ⟨_, rfl⟩
      rw [htq] at HPQ
      have HTQ := hm7 htq
      obtain ⟨er, her⟩ : ∃ e, At.err ⟨⟨ak, an, az⟩, am, al⟩ = e := ⟨_, rfl⟩
      rw [her] at HCA
      clear htq
      have b0 := HX5.out.cell (i := 0) rfl
      have b1 := HX5.out.cell (i := 1) rfl
      have b2 := HX5.out.cell (i := 2) rfl
      have b3 := HX5.out.cell (i := 3) rfl
      have b4 := HX5.out.cell (i := 4) rfl
      go_upto_region 19 with (go_at_call 26; refine HPQ.out.mono ?_; rintro e W6 ⟨rfl, hb⟩; have HB6 := hm7 hb; clear hb b0 b1 b2 b3 b4)
      have HX6 := hm7 (HX5.out.below HB6.out)
      have b0 := HX6.out.cell (i := 0) rfl
      have b1 := HX6.out.cell (i := 1) rfl
      have b2 := HX6.out.cell (i := 2) rfl
      have b3 := HX6.out.cell (i := 3) rfl
      have b4 := HX6.out.cell (i := 4) rfl
      have HC6 := hm7 (HCA.out W6 HB6.out)
      by_cases he : er = 0
      · subst he
        have hte : pq5 ⟨⟨ak, an, az⟩, am, al⟩ = pa5 ⟨⟨ak, an, az⟩, am, al⟩ ++ (⟨#[63]⟩ : ByteArray) := if_pos her
        have hts : tq.size ≤ 4001 := by
          rw [← HTQ.out, hte, ByteArray.size_append]
          have h1 := HPL.out
          have h2 : (⟨#[63]⟩ : ByteArray).size = 1 := rfl
          omega
        have HQG := hm7 (qg_back her HNA.out)
        rw [HTQ.out] at HQG
        have HQR : Hid (∀ X : World, Below W5.heap.size W5 X → Calls Tryz.prog 19 #[.string tq] X (ReQ X (.ok (normC ((⟨⟨ak, an, az⟩, am, al⟩ : At), [], [])).1))) := fun X hX => by
          have := query_any tq (by omega) X (HEW.out X (below_step HB5.out hX)).1 (HEW.out X (below_step HB5.out hX)).2
          rw [HQG.out] at this
          exact this
        have HKE := hm7 her
        obtain ⟨ba, hba⟩ : ∃ b, (normC ((⟨⟨ak, an, az⟩, am, al⟩ : At), [], [])).1 = b := ⟨_, rfl⟩
        rw [hba] at HQR
        have HBA := hm7 hba
        have HBL : Hid (ba.args.length ≤ 8) := (err_zero' (ok_qg HQG.out).1).2.1 |> fun h => by rw [hba] at h; exact h
        obtain ⟨⟨bk, bn, bz⟩, bm, bl⟩ := ba
        clear hte hts her hba HPT HCA
        go_upto_region 22 with (first
          | (go_at_call 21; refine HC6.out.mono ?_; rintro e W7 ⟨rfl, hb⟩; have HB7 := hm7 (below_step HB6.out hb); clear hb b0 b1 b2 b3 b4)
          | (go_at_call 19; refine (HQR.out _ HB7.out).mono ?_; rintro e W8 ⟨hb, x8, y8, c8, a8, rfl, hy8, rfl, rfl, rfl⟩; have hts8 := ts_of_row hy8 (by have := HBL.out; show bl.length < _; have h9 : bl.length ≤ 8 := this; omega); obtain ⟨yb, yd, hyf, -⟩ := id hts8; generalize hym : List.length _ = ym at hyf; subst hyf; have HT8 := hm7 hts8; have HB8 := hm7 (below_step HB7.out hb); clear hb hy8 hts8 hym))
        obtain ⟨t1, t2, t3⟩ := two5 W8 #[.int .i64 bk, .int .i64 bn, .string bz, .string bm, .slice yb ym yd] #[.int .i64 0, .int .i64 0] 33 26
        have HG9 := hm7 t1
        have HQ9 := hm7 t2
        have HB9 := hm7 (below_step HB8.out t3)
        have HT9 := hm7 (HT8.out.later t3)
        clear t1 t2 t3 HT8
        revert HG9 HQ9 HB9 HT9
        generalize (W8.alloc (.cells #[.int .i64 bk, .int .i64 bn, .string bz, .string bm, .slice yb ym yd] 33)).alloc (.cells #[.int .i64 0, .int .i64 0] 26) = W9
        generalize W8.heap.size + 1 = gb at *
        generalize W8.heap.size = qb at *
        intro HG9 HQ9 HB9 HT9
        have HA9 := hm7 (HX5.out.below HB9.out)
        have HFI : Hid (∀ X : World, Below W9.heap.size W9 X → Calls Tryz.prog 9 #[] X fun e w' => e = .returned (.bool true) ∧ Below X.heap.size X w') := fun X hX => HF.out X (below_step HB5.out (below_step HB9.out hX))
        have HAT : Hid (∀ (y2 : Value) (X : World), Below W9.heap.size W9 X → Ts X y2 bl → Calls Tryz.prog 20 #[At.v ⟨⟨bk, bn, bz⟩, bm, bl⟩ (.slice yb ym yd), At.v ⟨⟨bk, bn, bz⟩, bm, bl⟩ y2] X fun e w' => e = .returned (.bool true) ∧ Below X.heap.size X w') := fun y2 X hX h2 => by
          have := atoms5_any ⟨⟨bk, bn, bz⟩, bm, bl⟩ ⟨⟨bk, bn, bz⟩, bm, bl⟩ (.slice yb ym yd) y2 X (HT9.out.later hX) h2
          rw [decide_eq_true rfl] at this
          exact this
        have HNO : Hid (∀ X : World, Below W9.heap.size W9 X → Calls Tryz.prog 22 #[.agg #[.int .i64 ak, .int .i64 an, .string az, .string am, .slice ya yn yc, .slice none 0 0, .slice none 0 0]] X fun e w' => ∃ d : Cm, e = .returned d.v ∧ (d.head.1 = ⟨⟨bk, bn, bz⟩, bm, bl⟩ ∧ Ts w' d.head.2 bl) ∧ Below X.heap.size X w') := fun X hX => by
          have hck : Cm.key ⟨(⟨⟨ak, an, az⟩, am, al⟩, .slice ya yn yc), [], .slice none 0 0, [], .slice none 0 0⟩ = (⟨⟨ak, an, az⟩, am, al⟩, [], []) := rfl
          have h4 : Ck.terms ((⟨⟨ak, an, az⟩, am, al⟩ : At), [], []) = At.pl ⟨⟨ak, an, az⟩, am, al⟩ := by simp [Ck.terms, tls]
          refine (normalK_any ⟨(⟨⟨ak, an, az⟩, am, al⟩, .slice ya yn yc), [], .slice none 0 0, [], .slice none 0 0⟩ X ⟨HY5.out.later (below_step HB9.out hX), ⟨none, 0, rfl, by show (0 : Nat) < _; decide, Or.inl rfl, fun x hx => by cases hx⟩, ⟨none, 0, rfl, by show (0 : Nat) < _; decide, Or.inl rfl⟩⟩ (by rw [hck, h4]; show al.length + 1 ≤ _; have h5 : al.length ≤ 8 := (err_zero' HKE.out).2.1; omega) (fun t ht hv => ?_)).mono ?_
          · rw [hck, h4] at ht
            exact n64_wf (HNA.out t ht)
          · rintro e w' ⟨d, rfl, hdk, hkp, hb⟩
            rw [hck] at hdk
            have hd1 : d.head.1 = ⟨⟨bk, bn, bz⟩, bm, bl⟩ := by rw [← HBA.out, ← hdk]; rfl
            refine ⟨d, rfl, ⟨hd1, ?_⟩, hb⟩
            have := hkp.kf.ok.h
            rw [hd1] at this
            exact this
        have HFD : Hid (∀ (d : Cm) (X : World), d.head.1 = ⟨⟨bk, bn, bz⟩, bm, bl⟩ → (Instr.field 37 d.v 0).run Tryz.prog X = .ok (At.v ⟨⟨bk, bn, bz⟩, bm, bl⟩ d.head.2) X) := fun d X hd => by
          have := field5_h (.int .i64 d.head.1.by_.k) (.int .i64 d.head.1.by_.n) (.string d.head.1.by_.s) (.string d.head.1.name) d.head.2 d.bv d.tv X
          rw [hd] at this
          have e : d.v = .agg #[.int .i64 bk, .int .i64 bn, .string bz, .string bm, d.head.2, d.bv, d.tv] := by show Value.agg _ = _; rw [hd]
          rw [e]
          exact this
        clear HQR HKE HBA HBL HTQ HPL HX5 HX6 HY5
        refine wp_region_held_drew (S := fun w' => Below W9.heap.size W9 w') (by kernel_rfl) (Below.refl _ _).drew (fun hH => ?_)
        revert hH
        generalize W9.drew = V
        intro hH
        refine wpAnyH_take (i := 0) (oi := ⟨_, _, _, _, _, _⟩) (v := .agg #[.int .i64 0, .int .i64 0]) rfl (by kernel_rfl) (by kernel_rfl) (by kernel_rfl) (fun _ _ _ h => h) (Or.inl ⟨by rfl, fun w' h => by have _h := h; have a0 := (HG9.out.below h).cell (i := 0) rfl; have a1 := (HG9.out.below h).cell (i := 1) rfl; go_simp⟩) hH ?_
        simp only [Act.put, List.setIfInBounds_toArray, List.set_cons_zero, List.set_cons_succ]
        refine wpAnyH_take (i := 1) (oi := ⟨_, _, _, _, _, _⟩) (v := .agg #[.int .i64 0, .int .i64 0]) rfl (by kernel_rfl) (by kernel_rfl) (by kernel_rfl) (fun _ _ _ h => h) (Or.inl ⟨by rfl, fun w' h => by have _h := h; go_simp⟩) hH ?_
        simp only [Act.put, List.setIfInBounds_toArray, List.set_cons_zero, List.set_cons_succ]
        refine wpAnyH_take (i := 2) (oi := ⟨_, _, _, _, _, _⟩) (v := .bool true) rfl (by kernel_rfl) (by kernel_rfl) (by kernel_rfl) (fun _ _ _ h => h) (Or.inl ⟨by rfl, fun w' h => by have _h := h; have hq := eql_ft0 w'; go_simp⟩) hH ?_
        simp only [Act.put, List.setIfInBounds_toArray, List.set_cons_zero, List.set_cons_succ]
        refine wpAnyH_take (i := 3) (oi := ⟨_, _, _, _, _, _⟩) (v := .bool true) rfl (by kernel_rfl) (by kernel_rfl) (by kernel_rfl) (fun _ _ _ h => h) (Or.inl ⟨by rfl, fun w' h => by have _h := h; go_simp⟩) hH ?_
        simp only [Act.put, List.setIfInBounds_toArray, List.set_cons_zero, List.set_cons_succ]
        refine wpAnyH_take (i := 4) (oi := ⟨_, _, _, _, _, _⟩) (v := .agg #[.int .i64 bk, .int .i64 bn, .string bz, .string bm, .slice yb ym yd]) rfl (by kernel_rfl) (by kernel_rfl) (by kernel_rfl) (fun _ _ _ h => h) (Or.inl ⟨by rfl, fun w' h => by have _h := h; have a0 := (HQ9.out.below h).cell (i := 0) rfl; have a1 := (HQ9.out.below h).cell (i := 1) rfl; have a2 := (HQ9.out.below h).cell (i := 2) rfl; have a3 := (HQ9.out.below h).cell (i := 3) rfl; have a4 := (HQ9.out.below h).cell (i := 4) rfl; go_simp⟩) hH ?_
        simp only [Act.put, List.setIfInBounds_toArray, List.set_cons_zero, List.set_cons_succ]
        refine wpAnyH_take (i := 5) (oi := ⟨_, _, _, _, _, _⟩) (v := .agg #[.int .i64 ak, .int .i64 an, .string az, .string am, .slice ya yn yc]) rfl (by kernel_rfl) (by kernel_rfl) (by kernel_rfl) (fun _ _ _ h => h) (Or.inl ⟨by rfl, fun w' h => by have _h := h; have a0 := (HA9.out.below h).cell (i := 0) rfl; have a1 := (HA9.out.below h).cell (i := 1) rfl; have a2 := (HA9.out.below h).cell (i := 2) rfl; have a3 := (HA9.out.below h).cell (i := 3) rfl; have a4 := (HA9.out.below h).cell (i := 4) rfl; go_simp⟩) hH ?_
        simp only [Act.put, List.setIfInBounds_toArray, List.set_cons_zero, List.set_cons_succ]
        refine wpAnyH_take (i := 6) (oi := ⟨_, _, _, _, _, _⟩) (v := .agg #[.int .i64 ak, .int .i64 an, .string az, .string am, .slice ya yn yc, .slice none 0 0, .slice none 0 0]) rfl (by kernel_rfl) (by kernel_rfl) (by kernel_rfl) (fun _ _ _ h => h) (Or.inl ⟨by rfl, fun w' h => by have _h := h; go_simp⟩) hH ?_
        simp only [Act.put, List.setIfInBounds_toArray, List.set_cons_zero, List.set_cons_succ]
        refine wpAnyH_ready (rs := [7]) (by kernel_rfl) (by simp) ?_
        refine (AllReadyH.cons (o := ⟨_, _, _, _, _, _⟩) rfl (fun K hK => ?_) AllReadyH.nil)
        go_simp
        refine (HNO.out _ hH).mono ?_
        rintro e V2 ⟨dz, rfl, hdt, hb⟩
        have HDT := hm7 hdt
        refine hK.out _ _ (below_step hH hb) (fun hH => ?_)
        clear hK K hb hdt
        try simp only [Act.put, List.setIfInBounds_toArray, List.set_cons_zero, List.set_cons_succ]
        refine wpAnyH_take (i := 8) (oi := ⟨_, _, _, _, _, _⟩) (v := At.v ⟨⟨bk, bn, bz⟩, bm, bl⟩ dz.head.2) rfl (by kernel_rfl) (by kernel_rfl) (by kernel_rfl) (fun _ _ _ h => h) (Or.inl ⟨by rfl, fun w' h => by have _h := h; have hq := HFD.out dz w' HDT.out.1; go_simp⟩) hH ?_
        simp only [Act.put, List.setIfInBounds_toArray, List.set_cons_zero, List.set_cons_succ]
        refine wpAnyH_ready (rs := [9]) (by kernel_rfl) (by simp) ?_
        refine (AllReadyH.cons (o := ⟨_, _, _, _, _, _⟩) rfl (fun K hK => ?_) AllReadyH.nil)
        go_simp
        refine (HAT.out _ _ hH HDT.out.2).mono ?_
        rintro e V3 ⟨rfl, hb⟩
        refine hK.out _ _ (below_step hH hb) (fun hH => ?_)
        clear hK K hb
        try simp only [Act.put, List.setIfInBounds_toArray, List.set_cons_zero, List.set_cons_succ]
        refine wpAnyH_take (i := 10) (oi := ⟨_, _, _, _, _, _⟩) (v := .bool true) rfl (by kernel_rfl) (by kernel_rfl) (by kernel_rfl) (fun _ _ _ h => h) (Or.inl ⟨by rfl, fun w' h => by have _h := h; go_simp⟩) hH ?_
        simp only [Act.put, List.setIfInBounds_toArray, List.set_cons_zero, List.set_cons_succ]
        refine wpAnyH_take (i := 11) (oi := ⟨_, _, _, _, _, _⟩) (v := .bool true) rfl (by kernel_rfl) (by kernel_rfl) (by kernel_rfl) (fun _ _ _ h => h) (Or.inl ⟨by rfl, fun w' h => by have _h := h; go_simp⟩) hH ?_
        simp only [Act.put, List.setIfInBounds_toArray, List.set_cons_zero, List.set_cons_succ]
        refine wpAnyH_ready (rs := [12]) (by kernel_rfl) (by simp) ?_
        refine (AllReadyH.cons (o := ⟨_, _, _, _, _, _⟩) rfl (fun K hK => ?_) AllReadyH.nil)
        go_simp
        refine (HFI.out _ hH).mono ?_
        rintro e V4 ⟨rfl, hb⟩
        refine hK.out _ _ (below_step hH hb) (fun hH => ?_)
        clear hK K hb
        try simp only [Act.put, List.setIfInBounds_toArray, List.set_cons_zero, List.set_cons_succ]
        refine wpAnyH_take (i := 13) (oi := ⟨_, _, _, _, _, _⟩) (v := .bool true) rfl (by kernel_rfl) (by kernel_rfl) (by kernel_rfl) (fun _ _ _ h => h) (Or.inl ⟨by rfl, fun w' h => by have _h := h; go_simp⟩) hH ?_
        simp only [Act.put, List.setIfInBounds_toArray, List.set_cons_zero, List.set_cons_succ]
        refine wpAnyH_take (i := 14) (oi := ⟨_, _, _, _, _, _⟩) (v := .bool true) rfl (by kernel_rfl) (by kernel_rfl) (by kernel_rfl) (fun _ _ _ h => h) (Or.inl ⟨by rfl, fun w' h => by have _h := h; go_simp⟩) hH ?_
        simp only [Act.put, List.setIfInBounds_toArray, List.set_cons_zero, List.set_cons_succ]
        refine wpAnyH_done (by kernel_rfl) ?_ _
        have HV : Hid (Below W9.heap.size W9 V4) := hH
        clear hH
        go_wp2
        go_ret
        exact ⟨rfl, below_step HB0.out (below_step HB5.out (below_step HB9.out HV.out))⟩
      · have he1 : (er == 0) = false := by simp [he]
        have he2 : (er != 0) = true := by simp [he]
        have htn : tq = ⟨#[]⟩ := by rw [← HTQ.out]; exact if_neg (by rw [her]; exact he)
        have hpn : pa5 ⟨⟨ak, an, az⟩, am, al⟩ = ⟨#[]⟩ := by unfold pa5; exact if_neg (by rw [her]; exact he)
        rw [hpn] at HPT
        subst htn
        clear hpn her HTQ HPL
        go_wp2_with (first
          | (go_at_call 21; refine HC6.out.mono ?_; rintro e W7 ⟨rfl, hb⟩; have HB7 := hm7 (below_step HB6.out hb); have HX7 := hm7 (HX6.out.below hb); clear hb b0 b1 b2 b3 b4; have b0 := HX7.out.cell (i := 0) rfl; have b1 := HX7.out.cell (i := 1) rfl; have b2 := HX7.out.cell (i := 2) rfl; have b3 := HX7.out.cell (i := 3) rfl; have b4 := HX7.out.cell (i := 4) rfl)
          | (go_at_call 27; refine (HPT.out _ HB7.out).mono ?_; rintro e W8 ⟨rfl, hb⟩; have HB8 := hm7 (below_step HB7.out hb); clear hb b0 b1 b2 b3 b4)
          | (go_at_call 9; refine (HF.out _ (below_step HB5.out HB8.out)).mono ?_; rintro e W9 ⟨rfl, hb⟩; have HB9 := hm7 (below_step HB8.out hb); clear hb))
        go_ret
        exact ⟨rfl, below_step HB0.out (below_step HB5.out HB9.out)⟩
end Go.Proofs.YtnikmcmkbjjcdaaGreatDoor
