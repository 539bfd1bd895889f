import Derived.Test.YtdfgijdededolabGreatDoorLD3
import Derived.Deep.RegionHeld3
import Derived.Deep.CutRange
import Derived.BigQuiet
import Derived.Test.YtdfgijdededolabGreatDoorSD5
import Derived.Test.YtdfgijdededolabGreatDoorCL22
import Derived.Test.YtdfgijdededolabGreatDoorA1
import Derived.Test.YtdfgijdededolabGreatDoorCL5
import Derived.Test.YtdfgijdededolabGreatDoorB7
import Derived.Test.YtdfgijdededolabGreatDoorMD2
import Derived.Laws.AppendOwn
import Derived.Laws.AppendOwnNone
/-
  A clause that was lent, looked at. (Written by LD3.py.)
-/
namespace Go.Proofs.YtdfgijdededolabGreatDoor
open Go.RowKit
attribute [local go_sem ↓] Go.wp_at_zero Go.wp_at_succ

theorem run_eql_te (t u : Te) (w : World) (h : t = u) : (binOp .eql 88 t.v u.v).run Tryz.prog w = .ok (.bool true) w := by
  subst h
  obtain ⟨op, ⟨kl, ml, sl⟩, ⟨kr, mr, sr⟩⟩ := t
  go_simp
set_option maxRecDepth 20000 in
set_option maxHeartbeats 4000000 in
theorem keptC_any (d c : Cm) (base : Nat) (w : World) (h : c.ok w) (hd : Lent base w d) (hk : d.key = c.key) (hs : (Ck.terms c.key).length ≤ 4000000) (hB : BehOk w) :
    Calls Tryz.prog 23 #[d.v, c.v] w fun e w' => e = .returned (.bool true) ∧ Below w.heap.size w w' := by
  obtain ⟨s1, s2, s3, s4⟩ := cm_sizes hs
  have k1 : d.head.1 = c.head.1 := congrArg (fun k : Ck => k.1) hk
  have k2 : fsts d.body = fsts c.body := congrArg (fun k : Ck => k.2.1) hk
  have k3 : d.tests = c.tests := congrArg (fun k : Ck => k.2.2) hk
  have hdh := hd.h
  have hdt := hd.t
  rw [k1] at hdh
  rw [k3] at hdt
  have HK1 : Hid (∀ X : World, Below w.heap.size w X → Calls Tryz.prog 59 #[c.head.1.v d.head.2, c.head.1.v c.head.2] X fun e w' => e = .returned (.bool true) ∧ Below X.heap.size X w') := fun X hX => keptA_any c.head.1 d.head.2 c.head.2 base X (h.h.later hX) (hdh.later hX) (hB.later hX)
  have HK2 : Hid (∀ X : World, Below w.heap.size w X → Calls Tryz.prog 60 #[d.bv, c.bv] X fun e w' => e = .returned (.bool true) ∧ Below X.heap.size X w') := fun X hX => keptAs_any c.body d.body d.bv c.bv base X (h.b.later hX) (hd.b.later hX) k2 (hB.later hX)
  have HK3 : Hid (∀ X : World, Below w.heap.size w X → Calls Tryz.prog 61 #[d.tv, c.tv] X fun e w' => e = .returned (.bool true) ∧ Below X.heap.size X w') := fun X hX => by
    have := sameTests_any c.tests c.tests d.tv c.tv X ((hdt.es (by omega)).later hX) (h.t.later hX)
    rw [decide_eq_true rfl] at this; exact this
  have HT : Hid (LentE w base d.tv c.tests) := hdt
  have HB : Hid (BehOk w) := hB
  obtain ⟨g1, cap1, e1, -⟩ := hdh
  obtain ⟨⟨g2, cap2, e2, -⟩, -⟩ := hd.b
  obtain ⟨g3, cap3, e3, ho3⟩ := hdt
  have hcap := ownE_cap ho3
  rw [List.length_append, List.length_singleton] at hcap
  have HO3 : Hid (OwnE w base (.slice (some ⟨g3, 0, none⟩) (c.tests.length + 1) cap3) (c.tests ++ [bE])) := ho3
  obtain ⟨⟨a, hn, cap, h1⟩, ⟨a', cap', h2⟩, ⟨a'', cap'', h3⟩, -, -⟩ := h.shape
  have hb0 : CBlk ((w.alloc (.cells d.cs 41)).alloc (.cells c.cs 41)) w.heap.size d.cs 41 := (CBlk.new w d.cs 41).later (below1 _ _)
  have hb1 : CBlk ((w.alloc (.cells d.cs 41)).alloc (.cells c.cs 41)) (w.heap.size + 1) c.cs 41 := by
    have := CBlk.new (w.alloc (.cells d.cs 41)) c.cs 41
    rwa [show (w.alloc (.cells d.cs 41)).heap.size = w.heap.size + 1 by simp] at this
  have HC0 : Hid (CBlk ((w.alloc (.cells d.cs 41)).alloc (.cells c.cs 41)) w.heap.size d.cs 41) := hb0
  have HC1 : Hid (CBlk ((w.alloc (.cells d.cs 41)).alloc (.cells c.cs 41)) (w.heap.size + 1) c.cs 41) := hb1
  have he := fun X => run_eql_te ⟨903, ⟨0, 0, ⟨#[]⟩⟩, ⟨0, 0, ⟨#[]⟩⟩⟩ ⟨903, ⟨0, 0, ⟨#[]⟩⟩, ⟨0, 0, ⟨#[]⟩⟩⟩ X rfl
  clear h hd hk hs hB s1 s2 s4 hb0 hb1 ho3 k2
  obtain ⟨⟨dh, dv⟩, db, dbv, dt, dtv⟩ := d
  obtain ⟨⟨⟨⟨k, m, s⟩, nm, ls⟩, hx⟩, body, bv, tests, tv⟩ := c
  simp only at h1 h2 h3 e1 e2 e3 k1 k3 s3 hcap HK1 HK2 HK3 HO3
  subst h1 h2 h3 e1 e2 e3 k1 k3
  have i0 : (0 : Int) ≤ (dt.length : Int) := by omega
  have i1 : (dt.length : Int) < (dt.length : Int) + 1 := by omega
  have hcap' : (dt.length : Int) + 1 ≤ (cap3 : Int) := by omega
  go_enter Tryz.func23, Tryz.ntmps23
  go_wp2_with (first
    | (go_at_call 59; refine (HK1.out _ (below2 _ _ _)).mono ?_; rintro e w1 ⟨rfl, hb⟩; have HW1 : Hid (Below w.heap.size w w1) := below_step (below2 _ _ _) hb; have HD0 : Hid (CBlk w1 w.heap.size _ 41) := HC0.out.later hb; have HD1 : Hid (CBlk w1 (w.heap.size + 1) _ 41) := HC1.out.later hb; obtain ⟨c0, c1, c2, c3, c4, c5, c6⟩ := cseven HD0.out; obtain ⟨e0, e1, e2, e3, e4, e5, e6⟩ := cseven HD1.out; clear hb HC0 HC1)
    | (go_at_call 60; refine (HK2.out _ HW1.out).mono ?_; rintro e w2 ⟨rfl, hb⟩; have HW2 : Hid (Below w.heap.size w w2) := below_step HW1.out hb; have HE0 : Hid (CBlk w2 w.heap.size _ 41) := HD0.out.later hb; have HE1 : Hid (CBlk w2 (w.heap.size + 1) _ 41) := HD1.out.later hb; clear c0 c1 c2 c3 c4 c5 c6 e0 e1 e2 e3 e4 e5 e6; obtain ⟨c0, c1, c2, c3, c4, c5, c6⟩ := cseven HE0.out; obtain ⟨e0, e1, e2, e3, e4, e5, e6⟩ := cseven HE1.out; clear hb HD0 HD1 HW1)
    | (go_at_call 61; refine (HK3.out _ HW2.out).mono ?_; rintro e w3 ⟨rfl, hb⟩; have HW3 : Hid (Below w.heap.size w w3) := below_step HW2.out hb; have HF0 : Hid (CBlk w3 w.heap.size _ 41) := HE0.out.later hb; have HF1 : Hid (CBlk w3 (w.heap.size + 1) _ 41) := HE1.out.later hb; clear c0 c1 c2 c3 c4 c5 c6 e0 e1 e2 e3 e4 e5 e6; obtain ⟨c0, c1, c2, c3, c4, c5, c6⟩ := cseven HF0.out; obtain ⟨e0, e1, e2, e3, e4, e5, e6⟩ := cseven HF1.out; obtain ⟨-, -, -, -, -, b0, b1, b2, b3, b4, b5, b6⟩ := HB.out.later HW3.out; have hgl : (dt ++ [bE])[dt.length]? = some bE := (by simp); have hoL := HO3.out.later HW3.out; have q0 := hoL.cells dt.length _ hgl 0 (by omega); have q1 := hoL.cells dt.length _ hgl 1 (by omega); have q2 := hoL.cells dt.length _ hgl 2 (by omega); have q3 := hoL.cells dt.length _ hgl 3 (by omega); have q4 := hoL.cells dt.length _ hgl 4 (by omega); have q5 := hoL.cells dt.length _ hgl 5 (by omega); have q6 := hoL.cells dt.length _ hgl 6 (by omega); simp only [ecell, bE, zt, List.getElem?_cons_succ, List.getElem?_cons_zero, Nat.add_zero] at q0 q1 q2 q3 q4 q5 q6; clear hb HE0 HE1 HW2 hoL hgl))
  go_quiet (fail)
  go_wp2
  go_ret
  exact ⟨ret_b rfl, below_drewN HW3.out _⟩
end Go.Proofs.YtdfgijdededolabGreatDoor
/-
  Lists of clauses lent, looked at. (Written by SD18.py.)
-/
namespace Go.Proofs.YtdfgijdededolabGreatDoor
open Go.RowKit

theorem LentC.later {X X' : World} {B : Nat} {u : Value} {LB : List Cm} (h : LentC X B u LB) (hb : Below X.heap.size X X') : LentC X' B u LB := by
  obtain ⟨⟨g, cap, e, ho⟩, ht⟩ := h
  exact ⟨⟨g, cap, e, ho.later hb⟩, fun d hd => (ht d hd).later hb⟩
theorem LentC.csp {X : World} {B : Nat} {u : Value} {LB : List Cm} (h : LentC X B u LB) (hs : ∀ d ∈ LB, (Ck.terms d.key).length ≤ 4000000) : CsP X u LB := by
  obtain ⟨⟨g, cap, rfl, ho⟩, ht⟩ := h
  refine ⟨Or.inr ⟨⟨g, 0, none⟩, cap, rfl, ?_⟩, fun d hd => (ht d hd).okk (hs d hd)⟩
  obtain ⟨b, o, e, hr⟩ := ho.adr (j := LB.length) (c := bC) (by simp)
  cases e
  exact Or.inr ⟨g, 0, rfl, hr.1, fun i c hc => hr.2 i c (by rw [List.getElem?_append_left (List.getElem?_eq_some_iff.1 hc).1]; exact hc)⟩
set_option maxRecDepth 20000 in
set_option maxHeartbeats 4000000 in
theorem keptCs_any (p LB : List Cm) (v y : Value) (base : Nat) (w : World) (h : CsP w y p) (hs : ∀ c ∈ p, (Ck.terms c.key).length ≤ 4000000) (ho : LentC w base v LB) (hk : LB.map Cm.key = p.map Cm.key) (hB : BehOk w) (hl : p.length ≤ 1000000000) :
    Calls Tryz.prog 15 #[v, y] w fun e w' => e = .returned (.bool true) ∧ Below w.heap.size w w' := by
  have hlen : LB.length = p.length := by have := congrArg List.length hk; simpa using this
  have HLO : Hid (LentC w base v LB) := ho
  have HP : Hid (CsP w y p) := h
  have HS : Hid (∀ c ∈ p, (Ck.terms c.key).length ≤ 4000000) := hs
  have HK : Hid (LB.map Cm.key = p.map Cm.key) := hk
  have HB : Hid (BehOk w) := hB
  have HLL : Hid (LB.length = p.length) := hlen
  obtain ⟨ua, uc, rfl⟩ := h.form
  obtain ⟨⟨g0, cap, rfl, ho⟩, ht⟩ := ho
  have HO : Hid (OwnC w base (.slice (some ⟨g0, 0, none⟩) (LB.length + 1) cap) (LB ++ [bC])) := ho
  have HT : Hid (∀ d ∈ LB, Lent base w d) := ht
  have hcap : LB.length + 1 ≤ cap := by
    obtain ⟨g, cp, e, hc⟩ := ownC_some ho
    simp only [Value.slice.injEq] at e; omega
  have hcap' : (p.length : Int) + 1 ≤ (cap : Int) := by omega
  have hq3 : ((p.length : Int) != (p.length : Int)) = false := by simp
  rw [hlen]
  clear h hs ho hk hB ht hlen hcap HLO
  go_enter Tryz.func15, Tryz.ntmps15
  go_wp2
  go_loopg [5] p.length (fun g i wr => ∃ j : Nat, j + g = p.length ∧ i = .int .i64 (j : Int) ∧ Below w.heap.size w wr)
  case atStart => exact ⟨0, by omega, rfl, Below.refl _ _⟩
  case round =>
    obtain ⟨j, hj, rfl, hb⟩ := hrel
    have HBr : Hid (Below w.heap.size w wr) := hb
    clear hb
    obtain ⟨b', o', eg, hrow⟩ := (HO.out.later HBr.out).adr (j := LB.length) (c := bC) (by simp)
    cases eg
    have HROW : Hid (CRow wr g0 0 (LB ++ [bC])) := hrow
    clear hrow
    cases gk with
    | succ g =>
      have i1 : (j : Int) < (p.length : Int) := by omega
      have i0 : (0 : Int) ≤ (j : Int) := by omega
      obtain ⟨x, hx⟩ : ∃ t, LB[j]? = some t := ⟨_, List.getElem?_eq_getElem (by have := HLL.out; omega)⟩
      obtain ⟨y, hy⟩ : ∃ u, p[j]? = some u := ⟨_, List.getElem?_eq_getElem (by omega)⟩
      have hxy : x.key = y.key := by
        have e : (LB.map Cm.key)[j]? = (p.map Cm.key)[j]? := by rw [HK.out]
        rw [List.getElem?_map, List.getElem?_map, hx, hy] at e
        exact Option.some.inj e
      have mx := List.mem_of_getElem? hx
      have my := List.mem_of_getElem? hy
      obtain ⟨sd, sq, rfl, hrwy⟩ := (HP.out.later HBr.out).get hy
      have hsvx := HROW.out.seven (j := j) (c := x) (by rw [List.getElem?_append_left (List.getElem?_eq_some_iff.1 hx).1]; exact hx)
      simp only [Nat.zero_add] at hsvx
      have hzx := HROW.out.1
      have hsvy := hrwy.seven hy
      have hzy := hrwy.1
      have hshx := ((HT.out x mx).okk (by rw [hxy]; exact HS.out y my)).shape
      have hshy := (HP.out.ok y my).shape
      have HCS0 := fun (Y : World) (hY : Below wr.heap.size wr Y) => keptC_any x y base Y ((HP.out.ok y my).later (below_step HBr.out hY)) ((HT.out x mx).later (below_step HBr.out hY)) hxy (HS.out y my) (HB.out.later (below_step HBr.out hY))
      clear hx hy mx my hxy hrwy HROW
      obtain ⟨⟨⟨⟨xk, xm, xs⟩, xn, xl⟩, xx⟩, xb, xbv, xt, xtv⟩ := x
      simp only at hsvx hshx
      obtain ⟨⟨x1, x2, x3, e1⟩, ⟨x4, x6, e2⟩, ⟨x7, x9, e3⟩, -, -⟩ := hshx
      obtain ⟨x5, h5⟩ : ∃ n, xb.length = n := ⟨_, rfl⟩
      obtain ⟨x8, h8⟩ : ∃ n, xt.length = n := ⟨_, rfl⟩
      rw [h5] at e2
      rw [h8] at e3
      subst e1 e2 e3
      clear h5 h8
      obtain ⟨⟨⟨⟨yk, ym, ys⟩, yn, yl⟩, yx⟩, yb, ybv, yt, ytv⟩ := y
      simp only at hsvy hshy
      obtain ⟨⟨y1, y2, y3, e1⟩, ⟨y4, y6, e2⟩, ⟨y7, y9, e3⟩, -, -⟩ := hshy
      obtain ⟨y5, h5⟩ : ∃ n, yb.length = n := ⟨_, rfl⟩
      obtain ⟨y8, h8⟩ : ∃ n, yt.length = n := ⟨_, rfl⟩
      rw [h5] at e2
      rw [h8] at e3
      subst e1 e2 e3
      clear h5 h8
      obtain ⟨q0, q1, q2, q3, q4, q5, q6⟩ := hsvx
      have HQ := conj7 q0 q1 q2 q3 q4 q5 q6
      have HQz : Hid (g0 < wr.heap.size) := hzx
      clear q0 q1 q2 q3 q4 q5 q6 hzx
      obtain ⟨q0, q1, q2, q3, q4, q5, q6⟩ := hsvy
      have HR := conj7 q0 q1 q2 q3 q4 q5 q6
      have HRz : Hid (sd < wr.heap.size) := hzy
      clear q0 q1 q2 q3 q4 q5 q6 hzy
      have HCS : Hid (∀ Y : World, Below wr.heap.size wr Y → Calls Tryz.prog 23 #[.agg #[.int .i64 xk, .int .i64 xm, .string xs, .string xn, .slice x1 x2 x3, .slice x4 x5 x6, .slice x7 x8 x9], .agg #[.int .i64 yk, .int .i64 ym, .string ys, .string yn, .slice y1 y2 y3, .slice y4 y5 y6, .slice y7 y8 y9]] Y fun e w' => e = .returned (.bool true) ∧ Below Y.heap.size Y w') := HCS0
      clear HCS0
      go_upto_region 6 with fail
      refine wp_region_held_drew (S := fun w' => Below wr.heap.size wr w') (by kernel_rfl) (Below.refl _ _).drew (fun hH => ?_)
      revert hH
      generalize wr.drew = V
      intro hH
      refine wpAnyH_take (i := 0) (oi := ⟨_, _, _, _, _, _⟩) (v := .slice (some ⟨g0, 0, none⟩) p.length cap) rfl (by kernel_rfl) (by kernel_rfl) (by kernel_rfl) (fun _ _ _ h => h) (Or.inl ⟨by rfl, fun w' _ => by go_simp⟩) hH ?_
      simp only [Act.put, List.setIfInBounds_toArray, List.set_cons_zero, List.set_cons_succ]
      refine wpAnyH_take (i := 1) (oi := ⟨_, _, _, _, _, _⟩) (v := .int .i64 (j : Int)) rfl (by kernel_rfl) (by kernel_rfl) (by kernel_rfl) (fun _ _ _ h => h) (Or.inl ⟨by rfl, fun w' _ => by go_simp⟩) hH ?_
      simp only [Act.put, List.setIfInBounds_toArray, List.set_cons_zero, List.set_cons_succ]
      refine wpAnyH_take (i := 2) (oi := ⟨_, _, _, _, _, _⟩) (v := .pointer (some ⟨g0, j * 7, none⟩)) rfl (by kernel_rfl) (by kernel_rfl) (by kernel_rfl) (fun _ _ _ h => h) (Or.inl ⟨by rfl, fun w' _ => by go_simp⟩) hH ?_
      simp only [Act.put, List.setIfInBounds_toArray, List.set_cons_zero, List.set_cons_succ]
      refine wpAnyH_take (i := 3) (oi := ⟨_, _, _, _, _, _⟩) (v := .agg #[.int .i64 xk, .int .i64 xm, .string xs, .string xn, .slice x1 x2 x3, .slice x4 x5 x6, .slice x7 x8 x9]) rfl (by kernel_rfl) (by kernel_rfl) (by kernel_rfl) (fun _ _ _ h => h) (Or.inl ⟨by rfl, fun w' h => by obtain ⟨q0, q1, q2, q3, q4, q5, q6⟩ := Hid.out HQ; have z := Hid.out HQz; have y0 := cell_step h z q0; have y1 := cell_step h z q1; have y2 := cell_step h z q2; have y3 := cell_step h z q3; have y4 := cell_step h z q4; have y5 := cell_step h z q5; have y6 := cell_step h z q6; clear q0 q1 q2 q3 q4 q5 q6; go_simp⟩) hH ?_
      simp only [Act.put, List.setIfInBounds_toArray, List.set_cons_zero, List.set_cons_succ]
      refine wpAnyH_take (i := 4) (oi := ⟨_, _, _, _, _, _⟩) (v := .slice (some ⟨sd, sq, none⟩) p.length uc) rfl (by kernel_rfl) (by kernel_rfl) (by kernel_rfl) (fun _ _ _ h => h) (Or.inl ⟨by rfl, fun w' _ => by go_simp⟩) hH ?_
      simp only [Act.put, List.setIfInBounds_toArray, List.set_cons_zero, List.set_cons_succ]
      refine wpAnyH_take (i := 5) (oi := ⟨_, _, _, _, _, _⟩) (v := .int .i64 (j : Int)) rfl (by kernel_rfl) (by kernel_rfl) (by kernel_rfl) (fun _ _ _ h => h) (Or.inl ⟨by rfl, fun w' _ => by go_simp⟩) hH ?_
      simp only [Act.put, List.setIfInBounds_toArray, List.set_cons_zero, List.set_cons_succ]
      refine wpAnyH_take (i := 6) (oi := ⟨_, _, _, _, _, _⟩) (v := .pointer (some ⟨sd, sq + j * 7, none⟩)) rfl (by kernel_rfl) (by kernel_rfl) (by kernel_rfl) (fun _ _ _ h => h) (Or.inl ⟨by rfl, fun w' _ => by go_simp⟩) hH ?_
      simp only [Act.put, List.setIfInBounds_toArray, List.set_cons_zero, List.set_cons_succ]
      refine wpAnyH_take (i := 7) (oi := ⟨_, _, _, _, _, _⟩) (v := .agg #[.int .i64 yk, .int .i64 ym, .string ys, .string yn, .slice y1 y2 y3, .slice y4 y5 y6, .slice y7 y8 y9]) rfl (by kernel_rfl) (by kernel_rfl) (by kernel_rfl) (fun _ _ _ h => h) (Or.inl ⟨by rfl, fun w' h => by obtain ⟨q0, q1, q2, q3, q4, q5, q6⟩ := Hid.out HR; have z := Hid.out HRz; have y0 := cell_step h z q0; have y1 := cell_step h z q1; have y2 := cell_step h z q2; have y3 := cell_step h z q3; have y4 := cell_step h z q4; have y5 := cell_step h z q5; have y6 := cell_step h z q6; clear q0 q1 q2 q3 q4 q5 q6; go_simp⟩) hH ?_
      simp only [Act.put, List.setIfInBounds_toArray, List.set_cons_zero, List.set_cons_succ]
      refine wpAnyH_ready (rs := [8]) (by kernel_rfl) (by simp) ?_
      refine (AllReadyH.cons (o := ⟨_, _, _, _, _, _⟩) rfl (fun K hK => ?_) AllReadyH.nil)
      go_simp
      refine (HCS.out _ hH).mono ?_
      rintro e V1 ⟨rfl, hb⟩
      refine hK.out _ _ (below_step hH hb) (fun hH => ?_)
      clear hK K hb
      refine wpAnyH_take (i := 9) (oi := ⟨_, _, _, _, _, _⟩) (v := .bool false) rfl (by kernel_rfl) (by kernel_rfl) (by kernel_rfl) (fun _ _ _ h => h) (Or.inl ⟨by rfl, fun w' _ => by go_simp⟩) hH ?_
      simp only [Act.put, List.setIfInBounds_toArray, List.set_cons_zero, List.set_cons_succ]
      refine wpAnyH_done (by kernel_rfl) ?_ _
      have HV : Hid (Below wr.heap.size wr V1) := hH
      clear hH
      go_wp2
      go_roundg g
      case measure => omega
      case rel => exact ⟨j + 1, by omega, by go_num, below_step HBr.out HV.out⟩
    | zero =>
      have hz : ¬ ((j : Int) < (p.length : Int)) := by omega
      have i1 : (p.length : Int) < (p.length : Int) + 1 := by omega
      have i0 : (0 : Int) ≤ (p.length : Int) := by omega
      have hsv := HROW.out.seven (j := p.length) (c := bC) (by rw [← HLL.out]; simp)
      simp only [Nat.zero_add, bC] at hsv
      obtain ⟨q0, q1, q2, q3, q4, q5, q6⟩ := hsv
      clear HROW
      go_wp2
      go_ret
      exact ⟨rfl, HBr.out⟩
end Go.Proofs.YtdfgijdededolabGreatDoor
/-
  What Set keeps of a sorted list: plain.
-/
namespace Go.Proofs.YtdfgijdededolabGreatDoor

abbrev ltC3 (a b : Ck) : Prop := cmpC a b < 0
theorem dkN_mem {l : List Cm} {k : Ck} : ∀ n, k ∈ dkN l n → ∃ i c, i < n ∧ l[i]? = some c ∧ c.key = k
  | 0, h => by simp [dkN] at h
  | n + 1, h => by
    unfold dkN at h
    rcases List.mem_append.1 h with h | h
    · obtain ⟨i, c, h1, h2⟩ := dkN_mem n h
      exact ⟨i, c, by omega, h2⟩
    · cases hc : l[n]? with
      | none => rw [hc] at h; simp at h
      | some c =>
        rw [hc] at h
        simp only at h
        split at h
        · rw [List.mem_singleton] at h; exact ⟨n, c, by omega, hc, h.symm⟩
        · simp at h
theorem dkN_has {l : List Cm} : ∀ n i c, i < n → l[i]? = some c → c.key ∈ dkN l n
  | 0, _, _, h, _ => by omega
  | n + 1, i, c, h, hc => by
    unfold dkN
    by_cases hi : i = n
    · subst hi
      rw [hc]
      simp only
      by_cases hk : kpt l i c = true
      · rw [if_pos hk]; simp
      · have hk' : kpt l i c = false := by simpa using hk
        rw [if_neg hk, List.append_nil]
        unfold kpt prv at hk'
        by_cases h0 : i = 0
        · rw [if_pos h0] at hk'; cases hk'
        · rw [if_neg h0] at hk'
          cases hp : l[i - 1]? with
          | none => rw [hp] at hk'; cases hk'
          | some p =>
            rw [hp] at hk'
            simp only [ne_eq, decide_not, Bool.not_eq_false', decide_eq_true_eq] at hk'
            rw [cmp_key] at hk'
            have := ord_c.zero _ _ hk'
            rw [← this]
            exact dkN_has i (i - 1) p (by omega) hp
    · exact List.mem_append.2 (Or.inl (dkN_has n i c (by omega) hc))
theorem dkN_rise {l : List Cm} (hs : srtC l) : ∀ n, (dkN l n).Pairwise ltC3
  | 0 => List.Pairwise.nil
  | n + 1 => by
    have ih := dkN_rise hs n
    cases hc : l[n]? with
    | none => unfold dkN; rw [hc]; simpa using ih
    | some c =>
      by_cases hk : kpt l n c = true
      · rw [dkN_yes hc hk]
        refine List.pairwise_append.2 ⟨ih, List.pairwise_singleton _ _, fun a ha b hb => ?_⟩
        rw [List.mem_singleton] at hb
        subst hb
        obtain ⟨i, x, hi, hx, rfl⟩ := dkN_mem n ha
        have hsr : ∀ i j (x y : Cm), i < j → l[i]? = some x → l[j]? = some y → cmpC x.key y.key ≤ 0 := fun i j x y hij hx hy => by
          obtain ⟨h1, rfl⟩ := List.getElem?_eq_some_iff.1 hx
          obtain ⟨h2, rfl⟩ := List.getElem?_eq_some_iff.1 hy
          exact List.pairwise_iff_getElem.1 hs i j h1 h2 hij
        unfold kpt prv at hk
        rw [if_neg (by omega)] at hk
        obtain ⟨p, hp⟩ : ∃ p, l[n - 1]? = some p := ⟨_, List.getElem?_eq_getElem (by have := (List.getElem?_eq_some_iff.1 hc).1; omega)⟩
        rw [hp] at hk
        simp only [ne_eq, decide_not, Bool.not_eq_true', decide_eq_false_iff_not] at hk
        rw [cmp_key] at hk
        have h1 := hsr (n - 1) n p c (by omega) hp hc
        have h2 : cmpC p.key c.key < 0 := by omega
        have h3 : cmpC x.key p.key ≤ 0 := by
          by_cases e : i = n - 1
          · subst e; rw [hx] at hp; cases hp; rw [ord_c.refl]; omega
          · exact hsr i (n - 1) x p (by omega) hx hp
        exact (ord_c.tr _ _ _ h3 h1).2 (Or.inr h2)
      · rw [dkN_no hc (by simpa using hk)]; exact ih
theorem rise_uniq : ∀ (a b : List Ck), a.Pairwise ltC3 → b.Pairwise ltC3 → (∀ k, k ∈ a ↔ k ∈ b) → a = b
  | [], [], _, _, _ => rfl
  | [], y :: b, _, _, h => absurd ((h y).2 (List.mem_cons_self ..)) (by simp)
  | x :: a, [], _, _, h => absurd ((h x).1 (List.mem_cons_self ..)) (by simp)
  | x :: a, y :: b, ha, hb, h => by
    obtain ⟨ha1, ha2⟩ := List.pairwise_cons.1 ha
    obtain ⟨hb1, hb2⟩ := List.pairwise_cons.1 hb
    have e : x = y := by
      rcases List.mem_cons.1 ((h x).1 (List.mem_cons_self ..)) with e | hx
      · exact e
      · rcases List.mem_cons.1 ((h y).2 (List.mem_cons_self ..)) with e | hy
        · exact e.symm
        · have h1 : cmpC y x < 0 := hb1 x hx
          have h2 : cmpC x y < 0 := ha1 y hy
          have := ord_c.neg x y
          omega
    subst e
    rw [rise_uniq a b ha2 hb2 fun k => ⟨fun hk => ?_, fun hk => ?_⟩]
    · rcases List.mem_cons.1 ((h k).1 (List.mem_cons_of_mem _ hk)) with e | hk'
      · have h1 : cmpC x k < 0 := ha1 k hk
        rw [e, ord_c.refl] at h1; omega
      · exact hk'
    · rcases List.mem_cons.1 ((h k).2 (List.mem_cons_of_mem _ hk)) with e | hk'
      · have h1 : cmpC x k < 0 := hb1 k hk
        rw [e, ord_c.refl] at h1; omega
      · exact hk'
/-- What Set's answer is: the keys of l, rising. -/
structure SetK (K : List Ck) (l : List Cm) : Prop where
  rise : K.Pairwise ltC3
  mem : ∀ k, k ∈ K ↔ ∃ c ∈ l, c.key = k
theorem SetK.of {l l' : List Cm} (hp : l'.Perm l) (hs : srtC l') : SetK (dkN l' l'.length) l :=
  ⟨dkN_rise hs _, fun k => ⟨fun h => by
      obtain ⟨i, c, -, hc, e⟩ := dkN_mem _ h
      exact ⟨c, hp.mem_iff.1 (List.mem_of_getElem? hc), e⟩, fun ⟨c, hc, e⟩ => by
      obtain ⟨i, hi, hc⟩ := List.mem_iff_getElem.1 (hp.mem_iff.2 hc)
      subst e
      exact dkN_has _ i c hi (by rw [List.getElem?_eq_getElem hi, hc])⟩⟩
theorem SetK.uniq {K K' : List Ck} {l l' : List Cm} (h : SetK K l) (h' : SetK K' l') (hm : ∀ c, c ∈ l ↔ c ∈ l') : K = K' :=
  rise_uniq K K' h.rise h'.rise fun k => by rw [h.mem, h'.mem]; exact ⟨fun ⟨c, hc, e⟩ => ⟨c, (hm c).1 hc, e⟩, fun ⟨c, hc, e⟩ => ⟨c, (hm c).2 hc, e⟩⟩
theorem SetK.step {o l : List Cm} (h : SetK (o.map Cm.key) l) {i : Nat} {a b : Cm} (ha : o[i]? = some a) (hb : o[i + 1]? = some b) : a.cmp b = -1 := by
  rw [cmp_key]
  have h1 : (o.map Cm.key)[i]? = some a.key := by rw [List.getElem?_map, ha]; rfl
  have h2 : (o.map Cm.key)[i + 1]? = some b.key := by rw [List.getElem?_map, hb]; rfl
  obtain ⟨l1, e1⟩ := List.getElem?_eq_some_iff.1 h1
  obtain ⟨l2, e2⟩ := List.getElem?_eq_some_iff.1 h2
  have : cmpC a.key b.key < 0 := by rw [← e1, ← e2]; exact List.pairwise_iff_getElem.1 h.rise i (i + 1) l1 l2 (by omega)
  have := ord_c.rng a.key b.key
  omega
/-- The list turned round, with each twice: so far. -/
def trn (l : List Cm) : Nat → List Cm
  | 0 => []
  | n + 1 => match l[n]? with | some c => c :: c :: trn l n | none => trn l n
end Go.Proofs.YtdfgijdededolabGreatDoor
/-
  Two rising lists of clauses merged: plain.
-/
namespace Go.Proofs.YtdfgijdededolabGreatDoor

abbrev ltM (a b : At × List At × List Te) : Prop := cmpC a b < 0
/-- How far a merge of p and q has come: i of p and k of q are taken, and out is what they make. -/
structure Mrg (p q out : List (At × List At × List Te)) (i k : Nat) : Prop where
  rise : out.Pairwise ltM
  mem : ∀ x, x ∈ out ↔ x ∈ p.take i ∨ x ∈ q.take k
  lp : ∀ x ∈ out, ∀ j y, i ≤ j → p[j]? = some y → cmpC x y < 0
  lq : ∀ x ∈ out, ∀ j y, k ≤ j → q[j]? = some y → cmpC x y < 0
theorem Mrg.start (p q : List (At × List At × List Te)) : Mrg p q [] 0 0 := ⟨List.Pairwise.nil, (fun x => by simp), (fun x hx => by cases hx), (fun x hx => by cases hx)⟩
theorem ltM_tr {a b c : At × List At × List Te} (h1 : cmpC a b < 0) (h2 : cmpC b c ≤ 0) : cmpC a c < 0 := (ord_c.tr _ _ _ (by omega) h2).2 (Or.inl h1)
theorem rise_get {p : List (At × List At × List Te)} (h : p.Pairwise ltM) {i j : Nat} {x y : At × List At × List Te} (hij : i < j) (hx : p[i]? = some x) (hy : p[j]? = some y) : cmpC x y < 0 := by
  obtain ⟨h1, rfl⟩ := List.getElem?_eq_some_iff.1 hx
  obtain ⟨h2, rfl⟩ := List.getElem?_eq_some_iff.1 hy
  exact List.pairwise_iff_getElem.1 h i j h1 h2 hij
theorem mem_take {α : Type} {p : List α} {i : Nat} {x y : α} (h : p[i]? = some x) : y ∈ p.take (i + 1) ↔ y ∈ p.take i ∨ y = x := by
  rw [List.take_add_one, h]; simp
theorem rise_snoc {o : List (At × List At × List Te)} {x : At × List At × List Te} (h : o.Pairwise ltM) (hx : ∀ y ∈ o, cmpC y x < 0) : (o ++ [x]).Pairwise ltM :=
  List.pairwise_append.2 ⟨h, List.pairwise_singleton _ _, fun a ha b hb => by rw [List.mem_singleton] at hb; subst hb; exact hx a ha⟩
/-- The next of p is less than all that is left of q. -/
theorem Mrg.left {p q out : List (At × List At × List Te)} {i k : Nat} {x : At × List At × List Te} (h : Mrg p q out i k) (hp : p.Pairwise ltM) (hq : q.Pairwise ltM) (hx : p[i]? = some x) (hl : ∀ y, q[k]? = some y → cmpC x y < 0) : Mrg p q (out ++ [x]) (i + 1) k := by
  have hx2 : ∀ y ∈ out, cmpC y x < 0 := fun y hy => h.lp y hy i x (Nat.le_refl _) hx
  refine ⟨rise_snoc h.rise hx2, fun y => ?_, fun y hy j z hj hz => ?_, fun y hy j z hj hz => ?_⟩
  · rw [List.mem_append, h.mem, mem_take hx, List.mem_singleton]
    constructor
    · rintro ((h | h) | h)
      · exact Or.inl (Or.inl h)
      · exact Or.inr h
      · exact Or.inl (Or.inr h)
    · rintro ((h | h) | h)
      · exact Or.inl (Or.inl h)
      · exact Or.inr h
      · exact Or.inl (Or.inr h)
  · rcases List.mem_append.1 hy with hy | hy
    · exact h.lp y hy j z (by omega) hz
    · rw [List.mem_singleton] at hy; subst hy; exact rise_get hp (by omega) hx hz
  · rcases List.mem_append.1 hy with hy | hy
    · exact h.lq y hy j z hj hz
    · rw [List.mem_singleton] at hy; subst hy
      have hk : k < q.length := by have := (List.getElem?_eq_some_iff.1 hz).1; omega
      have h1 := hl _ (List.getElem?_eq_getElem hk)
      by_cases e : j = k
      · subst e; exact hl z hz
      · exact ltM_tr h1 (by have := rise_get hq (show k < j by omega) (List.getElem?_eq_getElem hk) hz; omega)
theorem Mrg.swap {p q out : List (At × List At × List Te)} {i k : Nat} (h : Mrg p q out i k) : Mrg q p out k i := ⟨h.rise, fun x => by rw [h.mem, or_comm], h.lq, h.lp⟩
theorem Mrg.right {p q out : List (At × List At × List Te)} {i k : Nat} {x : At × List At × List Te} (h : Mrg p q out i k) (hp : p.Pairwise ltM) (hq : q.Pairwise ltM) (hx : q[k]? = some x) (hl : ∀ y, p[i]? = some y → cmpC x y < 0) : Mrg p q (out ++ [x]) i (k + 1) := (h.swap.left hq hp hx hl).swap
/-- The next of both are one. -/
theorem Mrg.both {p q out : List (At × List At × List Te)} {i k : Nat} {x : At × List At × List Te} (h : Mrg p q out i k) (hp : p.Pairwise ltM) (hq : q.Pairwise ltM) (hx : p[i]? = some x) (hy : q[k]? = some x) : Mrg p q (out ++ [x]) (i + 1) (k + 1) := by
  have hx2 : ∀ y ∈ out, cmpC y x < 0 := fun y hy => h.lp y hy i x (Nat.le_refl _) hx
  refine ⟨rise_snoc h.rise hx2, fun y => ?_, fun y hy' j z hj hz => ?_, fun y hy' j z hj hz => ?_⟩
  · rw [List.mem_append, h.mem, mem_take hx, mem_take hy, List.mem_singleton]
    constructor
    · rintro ((h | h) | h)
      · exact Or.inl (Or.inl h)
      · exact Or.inr (Or.inl h)
      · exact Or.inl (Or.inr h)
    · rintro ((h | h) | (h | h))
      · exact Or.inl (Or.inl h)
      · exact Or.inr h
      · exact Or.inl (Or.inr h)
      · exact Or.inr h
  · rcases List.mem_append.1 hy' with hy' | hy'
    · exact h.lp y hy' j z (by omega) hz
    · rw [List.mem_singleton] at hy'; subst hy'; exact rise_get hp (by omega) hx hz
  · rcases List.mem_append.1 hy' with hy' | hy'
    · exact h.lq y hy' j z (by omega) hz
    · rw [List.mem_singleton] at hy'; subst hy'; exact rise_get hq (by omega) hy hz
theorem Mrg.done {p q out : List (At × List At × List Te)} {i k : Nat} (h : Mrg p q out i k) (hi : p.length ≤ i) (hk : q.length ≤ k) : out.Pairwise ltM ∧ ∀ x, x ∈ out ↔ x ∈ p ∨ x ∈ q :=
  ⟨h.rise, fun x => by rw [h.mem, List.take_of_length_le hi, List.take_of_length_le hk]⟩
end Go.Proofs.YtdfgijdededolabGreatDoor
/-
  Vars.
-/
namespace Go.Proofs.YtdfgijdededolabGreatDoor
open Go.RowKit

theorem Tryz.infoInt : (Tryz.prog.info? 3).map (fun i => (i.zero, i.size, i.bytes)) = some (some (.int .i64 0), 1, 8) := by kernel_rfl
def ics (l : List Int) : List Value := l.map (Value.int .i64)
theorem ics_snoc (l : List Int) (n : Int) : ics (l ++ [n]) = ics l ++ [.int .i64 n] := by simp [ics]
/-- v holds the numbers l, in a block of the call's own. -/
def OwnI (w : World) (base : Nat) (v : Value) (l : List Int) : Prop := w.ownsRow base 3 1 v l.length (ics l)
theorem ownI_cells {w : World} {base g cap n : Nat} {l : List Int} (h : OwnI w base (.slice (some ⟨g, 0, none⟩) n cap) l) (j : Nat) (d : Int) (hd : l[j]? = some d) :
    w.cell? ⟨g, j, none⟩ = some (.int .i64 d) := by
  rcases h.2 with ⟨h, _⟩ | ⟨g', cap', cur, hv, hb, hg, hn, hc, hs, ht⟩
  · cases h
  · simp only [Value.slice.injEq, Option.some.injEq, Addr.mk.injEq] at hv
    obtain ⟨⟨rfl, -⟩, -, rfl⟩ := hv
    have hj := (List.getElem?_eq_some_iff.1 hd).1
    have e : (ics l)[j]? = some (.int .i64 d) := by simp [ics, hd]
    rw [cell_of_row _ _ _ _ _ _ hg, ← e, ← ht, List.getElem?_take_of_lt (by omega)]
    simp
theorem OwnI.lt {w : World} {base : Nat} {v : Value} {l : List Int} (h : OwnI w base v l) : ∀ k, v.ownBlock = some k → base ≤ k ∧ k < w.heap.size := World.ownsRow.lt h
theorem OwnI.mono {w : World} {b b' : Nat} {v : Value} {l : List Int} (h : OwnI w b v l) (hb : b' ≤ b) : OwnI w b' v l := by
  refine ⟨h.1, ?_⟩
  rcases h.2 with hn | ⟨g, cap, cur, hv, hbb, rest⟩
  · exact Or.inl hn
  · exact Or.inr ⟨g, cap, cur, hv, Nat.le_trans hb hbb, rest⟩
theorem OwnI.later {w w' : World} {base : Nat} {v : Value} {l : List Int} (h : OwnI w base v l) (hb : Below w.heap.size w w') : OwnI w' base v l := by
  refine ⟨h.1, ?_⟩
  rcases h.2 with hn | ⟨g, cap, cur, hv, hbb, hg, rest⟩
  · exact Or.inl hn
  · exact Or.inr ⟨g, cap, cur, hv, hbb, (hb.block _ (Array.getElem?_eq_some_iff.1 hg).1).trans hg, rest⟩
theorem ownI_nil (w : World) (base : Nat) : OwnI w base (.slice none 0 0) [] := World.ownsRow_nil _ _ _ _
theorem ownI_form {w : World} {base : Nat} {v : Value} {l : List Int} (h : OwnI w base v l) (hn : 0 < l.length) :
    ∃ g cap, v = .slice (some ⟨g, 0, none⟩) l.length cap ∧ base ≤ g ∧ g < w.heap.size := World.ownsRow.form h hn
theorem ownI_len {w : World} {base : Nat} {v : Value} {l : List Int} (h : OwnI w base v l) : ∃ a cap, v = .slice a l.length cap := by
  rcases h.2 with ⟨rfl, hn⟩ | ⟨g, cap, cur, hv, -⟩
  · exact ⟨none, 0, by rw [hn]⟩
  · exact ⟨_, cap, hv⟩
/-- Each variable's number, once, in the order of the places. -/
def vS (l : List Int) (t : Tm) : List Int := if t.var then (if l.any (fun n => decide (n = t.n)) then l else l ++ [t.n]) else l
def vs (pl : List Tm) : List Int := pl.foldl vS []
theorem vs_take (s : List Tm) (k : Nat) (d : Tm) (h : s[k]? = some d) : vs (s.take (k + 1)) = vS (vs (s.take k)) d := by
  obtain ⟨hk, rfl⟩ := List.getElem?_eq_some_iff.1 h
  rw [List.take_succ_eq_append_getElem hk, vs, List.foldl_append]; rfl
theorem vS_len (l : List Int) (d : Tm) : (vS l d).length ≤ l.length + 1 := by
  unfold vS; split
  · split <;> simp
  · simp
theorem vs_len (s : List Tm) : (vs s).length ≤ s.length := by
  have : ∀ s l, (List.foldl vS l s).length ≤ l.length + s.length := by
    intro s
    induction s with
    | nil => intro l; simp
    | cons d s ih => intro l; have := ih (vS l d); have := vS_len l d; simp only [List.foldl_cons, List.length_cons]; omega
  have := this s []
  simpa [vs] using this
def hasI (l : List Int) (x : Int) : Bool := l.any fun n => decide (n = x)
theorem hasI_no (l : List Int) (x : Int) (j : Nat) (d : Int) (h : l[j]? = some d) (hn : hasI (l.take j) x = false) (hd : ¬ d = x) : hasI (l.take (j + 1)) x = false := by
  obtain ⟨hk, rfl⟩ := List.getElem?_eq_some_iff.1 h
  rw [List.take_succ_eq_append_getElem hk, hasI, List.any_append]
  rw [hasI] at hn
  rw [hn]; simpa using hd
theorem hasI_yes (l : List Int) (x : Int) (j : Nat) (d : Int) (h : l[j]? = some d) (hd : d = x) : hasI l x = true := by
  obtain ⟨hk, rfl⟩ := List.getElem?_eq_some_iff.1 h
  simp only [hasI, List.any_eq_true, decide_eq_true_eq]; exact ⟨_, List.getElem_mem hk, hd⟩
theorem vS_old (l : List Int) (d : Tm) (hv : d.var = true) (h : hasI l d.n = true) : vS l d = l := by
  unfold hasI at h; unfold vS; rw [if_pos hv, if_pos h]
theorem vS_new (l : List Int) (d : Tm) (hv : d.var = true) (h : hasI l d.n = false) : vS l d = l ++ [d.n] := by
  unfold hasI at h; unfold vS; rw [if_pos hv, if_neg (by simp [h])]
theorem vS_not (l : List Int) (d : Tm) (hv : d.var = false) : vS l d = l := by
  unfold vS; rw [hv]; rfl
end Go.Proofs.YtdfgijdededolabGreatDoor
/-
  ref's Places, Among, Vars, Fact; ints of the laws.
-/
namespace Go.Proofs.YtdfgijdededolabGreatDoor
open Go.RowKit

theorem ownT_one (w : World) (o : Obj) (t : Tm) : OwnT ((w.alloc o).alloc (.cells #[.int .i64 t.k, .int .i64 t.n, .string t.s] 35)) (w.heap.size + 1) (.slice (some ⟨w.heap.size + 1, 0, none⟩) 1 1) [t] := by
  refine ⟨by simp [tcs, Tm.cs], Or.inr ⟨_, 1, #[.int .i64 t.k, .int .i64 t.n, .string t.s], rfl, Nat.le_refl _, heap_alloc2_new _ _ _, Nat.le_refl _, by unfold maxLen; omega, by simp, by simp [tcs, Tm.cs]⟩⟩
theorem tcs_cons (t : Tm) (l : List Tm) : tcs (t :: l) = tcs [t] ++ tcs l := by simp [tcs]
end Go.Proofs.YtdfgijdededolabGreatDoor
