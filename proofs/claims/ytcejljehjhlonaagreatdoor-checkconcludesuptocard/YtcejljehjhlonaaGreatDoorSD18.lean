import Derived.Test.YtcejljehjhlonaaGreatDoorOQ1
import Derived.Deep.RegionHeld3
import Derived.Deep.CutRange
import Derived.BigQuiet
import Derived.Test.YtcejljehjhlonaaGreatDoorB5
import Derived.Test.YtcejljehjhlonaaGreatDoorSD17
import Derived.Test.YtcejljehjhlonaaGreatDoorHC7
namespace Go.Proofs.YtcejljehjhlonaaGreatDoor
open Go.RowKit
attribute [local go_sem ↓] Go.wp_at_zero Go.wp_at_succ

theorem run_eql_te (t u : Te) (w : World) (h : t = u) : (binOp .eql 73 t.v u.v).run Tryz.prog w = .ok (.bool true) w := by
 subst h
 obtain ⟨op, ⟨kl, ml, sl⟩, ⟨kr, mr, sr⟩⟩ := t
 go_simp
set_option maxRecDepth 20000 in
set_option maxHeartbeats 4000000 in
theorem keptC_any (d c : Cm) (base : Nat) (w : World) (h : c.ok w) (hd : Lent base w d) (hk : d.key = c.key) (hs : (Ck.terms c.key).length <= 4000000) (hB : BehOk w) :
  Calls Tryz.prog 31 #[d.v, c.v] w fun e w' => e = .returned (.bool true) /\ Below w.heap.size w w' := by
 obtain ⟨s1, s2, s3, s4⟩ := cm_sizes hs
 have k1 : d.head.1 = c.head.1 := congrArg (fun k : Ck => k.1) hk
 have k2 : fsts d.body = fsts c.body := congrArg (fun k : Ck => k.2.1) hk
 have k3 : d.tests = c.tests := congrArg (fun k : Ck => k.2.2) hk
 have hdh := hd.h
 have hdt := hd.t
 rw [k1] at hdh
 rw [k3] at hdt
 have HK1 : Hid (∀ X : World, Below w.heap.size w X -> Calls Tryz.prog 16 #[c.head.1.v d.head.2, c.head.1.v c.head.2] X fun e w' => e = .returned (.bool true) /\ Below X.heap.size X w') := fun X hX => keptA_any c.head.1 d.head.2 c.head.2 base X (h.h.later hX) (hdh.later hX) (hB.later hX)
 have HK2 : Hid (∀ X : World, Below w.heap.size w X -> Calls Tryz.prog 53 #[d.bv, c.bv] X fun e w' => e = .returned (.bool true) /\ Below X.heap.size X w') := fun X hX => keptAs_any c.body d.body d.bv c.bv base X (h.b.later hX) (hd.b.later hX) k2 (hB.later hX)
 have HK3 : Hid (∀ X : World, Below w.heap.size w X -> Calls Tryz.prog 54 #[d.tv, c.tv] X fun e w' => e = .returned (.bool true) /\ Below X.heap.size X w') := fun X hX => by
  have := sameTests_any c.tests c.tests d.tv c.tv X ((hdt.es (by omega)).later hX) (h.t.later hX)
  rw [decide_eq_true rfl] at this; exact this
 have HT : Hid (LentE w base d.tv c.tests) := hdt
 have HB : Hid (BehOk w) := hB
 obtain ⟨g1, cap1, e1, -⟩ := hdh
 obtain ⟨⟨g2, cap2, e2, -⟩, -⟩ := hd.b
 obtain ⟨g3, cap3, e3, ho3⟩ := hdt
 have hcap := ownE_cap ho3
 rw [List.length_append, List.length_singleton] at hcap
 have HO3 : Hid (OwnE w base (.slice (some ⟨g3, 0, none⟩) (c.tests.length + 1) cap3) (c.tests ++ [bE])) := ho3
 obtain ⟨⟨a, hn, cap, h1⟩, ⟨a', cap', h2⟩, ⟨a'', cap'', h3⟩, -, -⟩ := h.shape
 have hb0 : CBlk ((w.alloc (.cells d.cs 60)).alloc (.cells c.cs 60)) w.heap.size d.cs 60 := (CBlk.new w d.cs 60).later (below1 _ _)
 have hb1 : CBlk ((w.alloc (.cells d.cs 60)).alloc (.cells c.cs 60)) (w.heap.size + 1) c.cs 60 := by
  have := CBlk.new (w.alloc (.cells d.cs 60)) c.cs 60
  rwa [show (w.alloc (.cells d.cs 60)).heap.size = w.heap.size + 1 by simp] at this
 have HC0 : Hid (CBlk ((w.alloc (.cells d.cs 60)).alloc (.cells c.cs 60)) w.heap.size d.cs 60) := hb0
 have HC1 : Hid (CBlk ((w.alloc (.cells d.cs 60)).alloc (.cells c.cs 60)) (w.heap.size + 1) c.cs 60) := hb1
 have he := fun X => run_eql_te ⟨903, ⟨0, 0, ⟨#[]⟩⟩, ⟨0, 0, ⟨#[]⟩⟩⟩ ⟨903, ⟨0, 0, ⟨#[]⟩⟩, ⟨0, 0, ⟨#[]⟩⟩⟩ X rfl
 clear h hd hk hs hB s1 s2 s4 hb0 hb1 ho3 k2
 obtain ⟨⟨dh, dv⟩, db, dbv, dt, dtv⟩ := d
 obtain ⟨⟨⟨⟨k, m, s⟩, nm, ls⟩, hx⟩, body, bv, tests, tv⟩ := c
 simp only at h1 h2 h3 e1 e2 e3 k1 k3 s3 hcap HK1 HK2 HK3 HO3
 subst h1 h2 h3 e1 e2 e3 k1 k3
 have i0 : (0 : Int) <= (dt.length : Int) := by omega
 have i1 : (dt.length : Int) < (dt.length : Int) + 1 := by omega
 have hcap' : (dt.length : Int) + 1 <= (cap3 : Int) := by omega
 go_enter Tryz.func31, Tryz.ntmps31
 go_wp2_with (first
  | (go_at_call 16; refine (HK1.out _ (below2 _ _ _)).mono ?_; rintro e w1 ⟨rfl, hb⟩; have HW1 : Hid (Below w.heap.size w w1) := below_step (below2 _ _ _) hb; have HD0 : Hid (CBlk w1 w.heap.size _ 60) := HC0.out.later hb; have HD1 : Hid (CBlk w1 (w.heap.size + 1) _ 60) := HC1.out.later hb; obtain ⟨c0, c1, c2, c3, c4, c5, c6⟩ := cseven HD0.out; obtain ⟨e0, e1, e2, e3, e4, e5, e6⟩ := cseven HD1.out; clear hb HC0 HC1)
  | (go_at_call 53; refine (HK2.out _ HW1.out).mono ?_; rintro e w2 ⟨rfl, hb⟩; have HW2 : Hid (Below w.heap.size w w2) := below_step HW1.out hb; have HE0 : Hid (CBlk w2 w.heap.size _ 60) := HD0.out.later hb; have HE1 : Hid (CBlk w2 (w.heap.size + 1) _ 60) := HD1.out.later hb; clear c0 c1 c2 c3 c4 c5 c6 e0 e1 e2 e3 e4 e5 e6; obtain ⟨c0, c1, c2, c3, c4, c5, c6⟩ := cseven HE0.out; obtain ⟨e0, e1, e2, e3, e4, e5, e6⟩ := cseven HE1.out; clear hb HD0 HD1 HW1)
  | (go_at_call 54; refine (HK3.out _ HW2.out).mono ?_; rintro e w3 ⟨rfl, hb⟩; have HW3 : Hid (Below w.heap.size w w3) := below_step HW2.out hb; have HF0 : Hid (CBlk w3 w.heap.size _ 60) := HE0.out.later hb; have HF1 : Hid (CBlk w3 (w.heap.size + 1) _ 60) := HE1.out.later hb; clear c0 c1 c2 c3 c4 c5 c6 e0 e1 e2 e3 e4 e5 e6; obtain ⟨c0, c1, c2, c3, c4, c5, c6⟩ := cseven HF0.out; obtain ⟨e0, e1, e2, e3, e4, e5, e6⟩ := cseven HF1.out; obtain ⟨-, -, -, -, -, b0, b1, b2, b3, b4, b5, b6⟩ := HB.out.later HW3.out; have hgl : (dt ++ [bE])[dt.length]? = some bE := (by simp); have hoL := HO3.out.later HW3.out; have q0 := hoL.cells dt.length _ hgl 0 (by omega); have q1 := hoL.cells dt.length _ hgl 1 (by omega); have q2 := hoL.cells dt.length _ hgl 2 (by omega); have q3 := hoL.cells dt.length _ hgl 3 (by omega); have q4 := hoL.cells dt.length _ hgl 4 (by omega); have q5 := hoL.cells dt.length _ hgl 5 (by omega); have q6 := hoL.cells dt.length _ hgl 6 (by omega); simp only [ecell, bE, zt, List.getElem?_cons_succ, List.getElem?_cons_zero, Nat.add_zero] at q0 q1 q2 q3 q4 q5 q6; clear hb HE0 HE1 HW2 hoL hgl))
 go_quiet (fail)
 go_wp2
 go_ret
 exact ⟨ret_b rfl, below_drewN HW3.out _⟩
end Go.Proofs.YtcejljehjhlonaaGreatDoor
namespace Go.Proofs.YtcejljehjhlonaaGreatDoor
open Go.RowKit

theorem LentC.later {X X' : World} {B : Nat} {u : Value} {LB : List Cm} (h : LentC X B u LB) (hb : Below X.heap.size X X') : LentC X' B u LB := by
 obtain ⟨⟨g, cap, e, ho⟩, ht⟩ := h
 exact ⟨⟨g, cap, e, ho.later hb⟩, fun d hd => (ht d hd).later hb⟩
theorem LentC.csp {X : World} {B : Nat} {u : Value} {LB : List Cm} (h : LentC X B u LB) (hs : ∀ d ∈ LB, (Ck.terms d.key).length <= 4000000) : CsP X u LB := by
 obtain ⟨⟨g, cap, rfl, ho⟩, ht⟩ := h
 refine ⟨Or.inr ⟨⟨g, 0, none⟩, cap, rfl, ?_⟩, fun d hd => (ht d hd).okk (hs d hd)⟩
 obtain ⟨b, o, e, hr⟩ := ho.adr (j := LB.length) (c := bC) (by simp)
 cases e
 exact Or.inr ⟨g, 0, rfl, hr.1, fun i c hc => hr.2 i c (by rw [List.getElem?_append_left (List.getElem?_eq_some_iff.1 hc).1]; exact hc)⟩
set_option maxRecDepth 20000 in
set_option maxHeartbeats 4000000 in
theorem keptCs_any (p LB : List Cm) (v y : Value) (base : Nat) (w : World) (h : CsP w y p) (hs : ∀ c ∈ p, (Ck.terms c.key).length <= 4000000) (ho : LentC w base v LB) (hk : LB.map Cm.key = p.map Cm.key) (hB : BehOk w) (hl : p.length <= 1000000000) :
  Calls Tryz.prog 15 #[v, y] w fun e w' => e = .returned (.bool true) /\ Below w.heap.size w w' := by
 have hlen : LB.length = p.length := by have := congrArg List.length hk; simpa using this
 have HLO : Hid (LentC w base v LB) := ho
 have HP : Hid (CsP w y p) := h
 have HS : Hid (∀ c ∈ p, (Ck.terms c.key).length <= 4000000) := hs
 have HK : Hid (LB.map Cm.key = p.map Cm.key) := hk
 have HB : Hid (BehOk w) := hB
 have HLL : Hid (LB.length = p.length) := hlen
 obtain ⟨ua, uc, rfl⟩ := h.form
 obtain ⟨⟨g0, cap, rfl, ho⟩, ht⟩ := ho
 have HO : Hid (OwnC w base (.slice (some ⟨g0, 0, none⟩) (LB.length + 1) cap) (LB ++ [bC])) := ho
 have HT : Hid (∀ d ∈ LB, Lent base w d) := ht
 have hcap : LB.length + 1 <= cap := by
  obtain ⟨g, cp, e, hc⟩ := ownC_some ho
  simp only [Value.slice.injEq] at e; omega
 have hcap' : (p.length : Int) + 1 <= (cap : Int) := by omega
 have hq3 : ((p.length : Int) != (p.length : Int)) = false := by simp
 rw [hlen]
 clear h hs ho hk hB ht hlen hcap HLO
 go_enter Tryz.func15, Tryz.ntmps15
 go_wp2
 go_loopg [5] p.length (fun g i wr => ∃ j : Nat, j + g = p.length /\ i = .int .i64 (j : Int) /\ Below w.heap.size w wr)
 case atStart => exact ⟨0, by omega, rfl, Below.refl _ _⟩
 case round =>
  obtain ⟨j, hj, rfl, hb⟩ := hrel
  have HBr : Hid (Below w.heap.size w wr) := hb
  clear hb
  obtain ⟨b', o', eg, hrow⟩ := (HO.out.later HBr.out).adr (j := LB.length) (c := bC) (by simp)
  cases eg
  have HROW : Hid (CRow wr g0 0 (LB ++ [bC])) := hrow
  clear hrow
  cases gk with
  | succ g =>
   have i1 : (j : Int) < (p.length : Int) := by omega
   have i0 : (0 : Int) <= (j : Int) := by omega
   obtain ⟨x, hx⟩ : ∃ t, LB[j]? = some t := ⟨_, List.getElem?_eq_getElem (by have := HLL.out; omega)⟩
   obtain ⟨y, hy⟩ : ∃ u, p[j]? = some u := ⟨_, List.getElem?_eq_getElem (by omega)⟩
   have hxy : x.key = y.key := by
    have e : (LB.map Cm.key)[j]? = (p.map Cm.key)[j]? := by rw [HK.out]
    rw [List.getElem?_map, List.getElem?_map, hx, hy] at e
    exact Option.some.inj e
   have mx := List.mem_of_getElem? hx
   have my := List.mem_of_getElem? hy
   obtain ⟨sd, sq, rfl, hrwy⟩ := (HP.out.later HBr.out).get hy
   have hsvx := HROW.out.seven (j := j) (c := x) (by rw [List.getElem?_append_left (List.getElem?_eq_some_iff.1 hx).1]; exact hx)
   simp only [Nat.zero_add] at hsvx
   have hzx := HROW.out.1
   have hsvy := hrwy.seven hy
   have hzy := hrwy.1
   have hshx := ((HT.out x mx).okk (by rw [hxy]; exact HS.out y my)).shape
   have hshy := (HP.out.ok y my).shape
   have HCS0 := fun (Y : World) (hY : Below wr.heap.size wr Y) => keptC_any x y base Y ((HP.out.ok y my).later (below_step HBr.out hY)) ((HT.out x mx).later (below_step HBr.out hY)) hxy (HS.out y my) (HB.out.later (below_step HBr.out hY))
   clear hx hy mx my hxy hrwy HROW
   obtain ⟨⟨⟨⟨xk, xm, xs⟩, xn, xl⟩, xx⟩, xb, xbv, xt, xtv⟩ := x
   simp only at hsvx hshx
   obtain ⟨⟨x1, x2, x3, e1⟩, ⟨x4, x6, e2⟩, ⟨x7, x9, e3⟩, -, -⟩ := hshx
   obtain ⟨x5, h5⟩ : ∃ n, xb.length = n := ⟨_, rfl⟩
   obtain ⟨x8, h8⟩ : ∃ n, xt.length = n := ⟨_, rfl⟩
   rw [h5] at e2
   rw [h8] at e3
   subst e1 e2 e3
   clear h5 h8
   obtain ⟨⟨⟨⟨yk, ym, ys⟩, yn, yl⟩, yx⟩, yb, ybv, yt, ytv⟩ := y
   simp only at hsvy hshy
   obtain ⟨⟨y1, y2, y3, e1⟩, ⟨y4, y6, e2⟩, ⟨y7, y9, e3⟩, -, -⟩ := hshy
   obtain ⟨y5, h5⟩ : ∃ n, yb.length = n := ⟨_, rfl⟩
   obtain ⟨y8, h8⟩ : ∃ n, yt.length = n := ⟨_, rfl⟩
   rw [h5] at e2
   rw [h8] at e3
   subst e1 e2 e3
   clear h5 h8
   obtain ⟨q0, q1, q2, q3, q4, q5, q6⟩ := hsvx
   have HQ := conj7 q0 q1 q2 q3 q4 q5 q6
   have HQz : Hid (g0 < wr.heap.size) := hzx
   clear q0 q1 q2 q3 q4 q5 q6 hzx
   obtain ⟨q0, q1, q2, q3, q4, q5, q6⟩ := hsvy
   have HR := conj7 q0 q1 q2 q3 q4 q5 q6
   have HRz : Hid (sd < wr.heap.size) := hzy
   clear q0 q1 q2 q3 q4 q5 q6 hzy
   have HCS : Hid (∀ Y : World, Below wr.heap.size wr Y -> Calls Tryz.prog 31 #[.agg #[.int .i64 xk, .int .i64 xm, .string xs, .string xn, .slice x1 x2 x3, .slice x4 x5 x6, .slice x7 x8 x9], .agg #[.int .i64 yk, .int .i64 ym, .string ys, .string yn, .slice y1 y2 y3, .slice y4 y5 y6, .slice y7 y8 y9]] Y fun e w' => e = .returned (.bool true) /\ Below Y.heap.size Y w') := HCS0
   clear HCS0
   go_upto_region 6 with fail
   refine wp_region_held_drew (S := fun w' => Below wr.heap.size wr w') (by kernel_rfl) (Below.refl _ _).drew (fun hH => ?_)
   revert hH
   generalize wr.drew = V
   intro hH
   refine wTk 0 (.slice (some ⟨g0, 0, none⟩) p.length cap) rfl (by kernel_rfl) (fun _ _ _ h => h) (Or.inl ⟨by rfl, fun w' _ => by go_simp⟩) hH ?_
   simp only [wA8, wB8, wC8, wD8]
   refine wTk 1 (.int .i64 (j : Int)) rfl (by kernel_rfl) (fun _ _ _ h => h) (Or.inl ⟨by rfl, fun w' _ => by go_simp⟩) hH ?_
   simp only [wA8, wB8, wC8, wD8]
   refine wTk 2 (.pointer (some ⟨g0, j * 7, none⟩)) rfl (by kernel_rfl) (fun _ _ _ h => h) (Or.inl ⟨by rfl, fun w' _ => by go_simp⟩) hH ?_
   simp only [wA8, wB8, wC8, wD8]
   refine wTk 3 (.agg #[.int .i64 xk, .int .i64 xm, .string xs, .string xn, .slice x1 x2 x3, .slice x4 x5 x6, .slice x7 x8 x9]) rfl (by kernel_rfl) (fun _ _ _ h => h) (Or.inl ⟨by rfl, fun w' h => by obtain ⟨q0, q1, q2, q3, q4, q5, q6⟩ := Hid.out HQ; have z := Hid.out HQz; have y0 := cell_step h z q0; have y1 := cell_step h z q1; have y2 := cell_step h z q2; have y3 := cell_step h z q3; have y4 := cell_step h z q4; have y5 := cell_step h z q5; have y6 := cell_step h z q6; clear q0 q1 q2 q3 q4 q5 q6; go_simp⟩) hH ?_
   simp only [wA8, wB8, wC8, wD8]
   refine wTk 4 (.slice (some ⟨sd, sq, none⟩) p.length uc) rfl (by kernel_rfl) (fun _ _ _ h => h) (Or.inl ⟨by rfl, fun w' _ => by go_simp⟩) hH ?_
   simp only [wA8, wB8, wC8, wD8]
   refine wTk 5 (.int .i64 (j : Int)) rfl (by kernel_rfl) (fun _ _ _ h => h) (Or.inl ⟨by rfl, fun w' _ => by go_simp⟩) hH ?_
   simp only [wA8, wB8, wC8, wD8]
   refine wTk 6 (.pointer (some ⟨sd, sq + j * 7, none⟩)) rfl (by kernel_rfl) (fun _ _ _ h => h) (Or.inl ⟨by rfl, fun w' _ => by go_simp⟩) hH ?_
   simp only [wA8, wB8, wC8, wD8]
   refine wTk 7 (.agg #[.int .i64 yk, .int .i64 ym, .string ys, .string yn, .slice y1 y2 y3, .slice y4 y5 y6, .slice y7 y8 y9]) rfl (by kernel_rfl) (fun _ _ _ h => h) (Or.inl ⟨by rfl, fun w' h => by obtain ⟨q0, q1, q2, q3, q4, q5, q6⟩ := Hid.out HR; have z := Hid.out HRz; have y0 := cell_step h z q0; have y1 := cell_step h z q1; have y2 := cell_step h z q2; have y3 := cell_step h z q3; have y4 := cell_step h z q4; have y5 := cell_step h z q5; have y6 := cell_step h z q6; clear q0 q1 q2 q3 q4 q5 q6; go_simp⟩) hH ?_
   simp only [wA8, wB8, wC8, wD8]
   refine wRd 8 (by kernel_rfl) rfl (fun K hK => ?_)
   go_simp
   refine (HCS.out _ hH).mono ?_
   rintro e V1 ⟨rfl, hb⟩
   refine hK.out _ _ (below_step hH hb) (fun hH => ?_)
   clear hK K hb
   refine wTk 9 (.bool false) rfl (by kernel_rfl) (fun _ _ _ h => h) (Or.inl ⟨by rfl, fun w' _ => by go_simp⟩) hH ?_
   simp only [wA8, wB8, wC8, wD8]
   refine wpAnyH_done (by kernel_rfl) ?_ _
   have HV : Hid (Below wr.heap.size wr V1) := hH
   clear hH
   go_wp2
   go_roundg g
   case measure => omega
   case rel => exact ⟨j + 1, by omega, by go_num, below_step HBr.out HV.out⟩
  | zero =>
   have hz : ¬ ((j : Int) < (p.length : Int)) := by omega
   have i1 : (p.length : Int) < (p.length : Int) + 1 := by omega
   have i0 : (0 : Int) <= (p.length : Int) := by omega
   have hsv := HROW.out.seven (j := p.length) (c := bC) (by rw [<- HLL.out]; simp)
   simp only [Nat.zero_add, bC] at hsv
   obtain ⟨q0, q1, q2, q3, q4, q5, q6⟩ := hsv
   clear HROW
   go_wp2
   go_ret
   exact ⟨rfl, HBr.out⟩
end Go.Proofs.YtcejljehjhlonaaGreatDoor
