import Derived.Test.YtnenadklmjcakaaGreatDoorCL1
import Derived.Test.YtnenadklmjcakaaGreatDoorSD14
namespace Go.Proofs.YtnenadklmjcakaaGreatDoor
open Go.RowKit

def RSP (w : World) (l : List Cm) (e : Ending) (w' : World) : Prop := ∃ v' o, e = .returned v' /\ CsP w' v' o /\ (∀ c ∈ o, c.szs /\ OKP w' c) /\ o.length <= l.length /\ SetK (o.map Cm.key) l /\ Below w.heap.size w w'
theorem rsp_mk {w w' : World} {l o : List Cm} {v' : Value} (h1 : CsP w' v' o) (h2 : ∀ c ∈ o, c.szs /\ OKP w' c) (h3 : o.length <= l.length) (h4 : SetK (o.map Cm.key) l) (h5 : Below w.heap.size w w') : RSP w l (.returned v') w' := by
 unfold RSP; exact ⟨v', o, rfl, h1, h2, h3, h4, h5⟩
theorem OwnC.csp2 {B : Nat} {X : World} {v : Value} {l : List Cm} (h : OwnC X B v l) (hok : ∀ c ∈ l, c.ok X) : CsP X v l := by
 refine ⟨?_, hok⟩
 rcases h.2 with ⟨rfl, hn⟩ | ⟨g, cap, cur, hv, -⟩
 ·exact Or.inl ⟨rfl, List.length_eq_zero_iff.1 hn⟩
 ·refine Or.inr ⟨⟨g, 0, none⟩, cap, hv, ?_⟩
  cases l with
  | nil => exact Or.inl rfl
  | cons c l =>
   have ho := h
   rw [hv] at ho
   obtain ⟨b, o, e, hr⟩ := ho.adr (j := 0) (c := c) rfl
   exact Or.inr ⟨b, o, Option.some.inj e, hr⟩
theorem key_get {o : List Cm} {i : Nat} {x : Cm} (h : o[i]? = some x) : (o.map Cm.key)[i]? = some x.key := by rw [List.getElem?_map, h]; rfl
theorem key_none {o : List Cm} {i : Nat} (h : o.length <= i) : (o.map Cm.key)[i]? = none := List.getElem?_eq_none (by simpa using h)
set_option maxRecDepth 20000 in
set_option maxHeartbeats 8000000 in
theorem rset_step (b o cap : Nat) (l : List Cm) (w : World) (h2 : 2 <= l.length) (hl : l.length <= 1000000000) (hcap : l.length <= cap)
  (IH1 : ∀ X, Below w.heap.size w X -> Calls Tryz.prog 30 #[.slice (some ⟨b, o, none⟩) (l.length / 2) cap] X (RSP X (l.take (l.length / 2))))
  (IH2 : ∀ X, Below w.heap.size w X -> Calls Tryz.prog 30 #[.slice (some ⟨b, o + l.length / 2 * 7, none⟩) (l.length - l.length / 2) (cap - l.length / 2)] X (RSP X (l.drop (l.length / 2)))) :
  Calls Tryz.prog 30 #[.slice (some ⟨b, o, none⟩) l.length cap] w (RSP w l) := by
 obtain ⟨n, hn⟩ : ∃ n, l.length = n := ⟨_, rfl⟩
 obtain ⟨h, hh⟩ : ∃ h, n / 2 = h := ⟨_, rfl⟩
 have HI1 : Hid (∀ X, Below w.heap.size w X -> Calls Tryz.prog 30 #[.slice (some ⟨b, o, none⟩) h cap] X (RSP X (l.take h))) := by rw [hn, hh] at IH1; exact IH1
 have HI2 : Hid (∀ X, Below w.heap.size w X -> Calls Tryz.prog 30 #[.slice (some ⟨b, o + h * 7, none⟩) (n - h) (cap - h)] X (RSP X (l.drop h))) := by rw [hn, hh] at IH2; exact IH2
 have HNL : Hid (l.length = n) := hn
 rw [hn] at h2 hl hcap ⊢
 have hq : (n : Int) / 2 = (h : Int) := by omega
 have hq2 : (n : Int).tdiv 2 = (h : Int) := by rw [Int.tdiv_eq_ediv_of_nonneg (by omega)]; exact hq
 have i0 : ¬ (n : Int) = 0 := by omega
 have i1 : ¬ (n : Int) = 1 := by omega
 have j0 : ¬ n = 0 := by omega
 have j1 : ¬ n = 1 := by omega
 have i2 : (0 : Int) <= (h : Int) := by omega
 have i3 : (h : Int) <= (n : Int) := by omega
 have i4 : (h : Int) <= (cap : Int) := by omega
 have i5 : (n : Int) <= (cap : Int) := by omega
 clear IH1 IH2 hn
 go_enter Tryz.func30, Tryz.ntmps30
 go_wp2_with (first
  | (go_at_call 30; refine (HI1.out _ (Below.refl _ _)).mono ?_; rintro e w1 ⟨v1, o1, rfl, hc1, hs1, hl1, hk1, hb1⟩; have HC1 : Hid (CsP w1 v1 o1) := hc1; obtain ⟨oa, oc, rfl⟩ := hc1.form; have HS1 : Hid (∀ c ∈ o1, c.szs /\ OKP w1 c) := hs1; have HK1 : Hid (SetK (o1.map Cm.key) (l.take h)) := hk1; have HL1 : Hid (o1.length <= (l.take h).length) := hl1; have HB1 : Hid (Below w.heap.size w w1) := hb1; clear HI1 hc1 hs1 hl1 hk1 hb1)
  | (go_at_call 30; refine (HI2.out _ HB1.out).mono ?_; rintro e w2 ⟨v2, o2, rfl, hc2, hs2, hl2, hk2, hb2⟩; have HC2 : Hid (CsP w2 v2 o2) := hc2; obtain ⟨qa, qc, rfl⟩ := hc2.form; have HS2 : Hid (∀ c ∈ o2, c.szs /\ OKP w2 c) := hs2; have HS1 : Hid (∀ c ∈ o1, c.szs /\ OKP w2 c) := (fun c hc => ⟨(HS1.out c hc).1, (HS1.out c hc).2.later hb2⟩); have HK2 : Hid (SetK (o2.map Cm.key) (l.drop h)) := hk2; have HL2 : Hid (o2.length <= (l.drop h).length) := hl2; have HB2 : Hid (Below w.heap.size w w2) := below_step HB1.out hb2; have HC1 : Hid (CsP w2 (.slice oa o1.length oc) o1) := HC1.out.later hb2; clear HI2 hc2 hs2 hl2 hk2 hb2 HB1))
 have hlo : o1.length + o2.length <= n := by have h1 := HL1.out; have h3 := HL2.out; rw [List.length_take] at h1; rw [List.length_drop] at h3; have := HNL.out; omega
 clear HL1 HL2 hq hq2 i0 i1 j0 j1 i2 i3 i4 i5 hcap h2
 go_loopg [5, 6, 7] (o1.length + o2.length) (fun g u i k wr => ∃ (a c : Nat) (T : List Cm), i = .int .i64 (a : Int) /\ k = .int .i64 (c : Int) /\ a <= o1.length /\ c <= o2.length /\ a + c + g = o1.length + o2.length /\ OwnC wr w2.heap.size u T /\ T.length <= a + c /\ (∀ x ∈ T, x ∈ o1 ∨ x ∈ o2) /\ Mrg (o1.map Cm.key) (o2.map Cm.key) (T.map Cm.key) a c /\ Below w2.heap.size w2 wr)
 case atStart => exact ⟨0, 0, [], rfl, rfl, by omega, by omega, by omega, OwnC.nil _ _, by simp, (fun x hx => by cases hx), Mrg.start _ _, Below.refl _ _⟩
 case round =>
  obtain ⟨a, c, T, rfl, rfl, ha, hc, hg, hot, htl, htm, hmg, hb⟩ := hrel
  have HB : Hid (Below w2.heap.size w2 wr) := hb
  have HOT : Hid (OwnC wr w2.heap.size u5 T) := hot
  have HT0 : Hid (∀ x ∈ T, x ∈ o1 ∨ x ∈ o2) := htm
  have HM0 : Hid (Mrg (o1.map Cm.key) (o2.map Cm.key) (T.map Cm.key) a c) := hmg
  clear hb hot htm hmg
  have ia : (0 : Int) <= (a : Int) := by omega
  have ic : (0 : Int) <= (c : Int) := by omega
  by_cases h1 : a < o1.length
  ·have k1 : (a : Int) < (o1.length : Int) := by omega
   have k2 : ¬ (a : Int) = (o1.length : Int) := by omega
   have k3 : ¬ a = o1.length := by omega
   obtain ⟨x, hx⟩ : ∃ z, o1[a]? = some z := ⟨_, List.getElem?_eq_getElem (by omega)⟩
   have mx := List.mem_of_getElem? hx
   obtain ⟨sb, so, rfl, hrwx⟩ := (HC1.out.later HB.out).get hx
   have hzx := hrwx.1
   have hsvx := hrwx.seven hx
   have hshx := (HC1.out.ok x mx).shape
   have HXK : Hid (x.ok wr) := (HC1.out.ok x mx).later HB.out
   by_cases h3 : c < o2.length
   ·have k4 : (c : Int) < (o2.length : Int) := by omega
    have k5 : ¬ (c : Int) = (o2.length : Int) := by omega
    have k6 : ¬ c = o2.length := by omega
    obtain ⟨y, hy⟩ : ∃ z, o2[c]? = some z := ⟨_, List.getElem?_eq_getElem (by omega)⟩
    have my := List.mem_of_getElem? hy
    obtain ⟨sd, sq, rfl, hrwy⟩ := (HC2.out.later HB.out).get hy
    have hzy := hrwy.1
    have hsvy := hrwy.seven hy
    have hshy := (HC2.out.ok y my).shape
    have HYK : Hid (y.ok wr) := (HC2.out.ok y my).later HB.out
    have HCS0 := fun (Y : World) (hY : Below wr.heap.size wr Y) => rcompareC_any x y Y (HXK.out.later hY) (HYK.out.later hY) (HS1.out x mx).1 (HS2.out y my).1
    have HTX : Hid (∀ z ∈ T ++ [x], z ∈ o1 ∨ z ∈ o2) := fun z hz => by rcases List.mem_append.1 hz with hz | hz; exact HT0.out z hz; rw [List.mem_singleton] at hz; subst hz; exact Or.inl mx
    have HTY : Hid (∀ z ∈ T ++ [y], z ∈ o1 ∨ z ∈ o2) := fun z hz => by rcases List.mem_append.1 hz with hz | hz; exact HT0.out z hz; rw [List.mem_singleton] at hz; subst hz; exact Or.inr my
    have ML : Hid (cmpC x.key y.key < 0 -> Mrg (o1.map Cm.key) (o2.map Cm.key) ((T ++ [x]).map Cm.key) (a + 1) c) := fun hlt => by rw [List.map_append]; exact HM0.out.left HK1.out.rise HK2.out.rise (key_get hx) (fun z hz => by rw [key_get hy] at hz; cases hz; exact hlt)
    have MR : Hid (cmpC y.key x.key < 0 -> Mrg (o1.map Cm.key) (o2.map Cm.key) ((T ++ [y]).map Cm.key) a (c + 1)) := fun hlt => by rw [List.map_append]; exact HM0.out.right HK1.out.rise HK2.out.rise (key_get hy) (fun z hz => by rw [key_get hx] at hz; cases hz; exact hlt)
    have MB : Hid (x.key = y.key -> Mrg (o1.map Cm.key) (o2.map Cm.key) ((T ++ [x]).map Cm.key) (a + 1) (c + 1)) := fun he => by rw [List.map_append]; exact HM0.out.both HK1.out.rise HK2.out.rise (key_get hx) (by rw [key_get hy, he])
    have hrng := ord_c.rng x.key y.key
    have hneg := ord_c.neg x.key y.key
    have hzer := ord_c.zero x.key y.key
    simp only [cmp_key] at HCS0
    obtain ⟨KX, hKX⟩ : ∃ K, x.key = K := ⟨_, rfl⟩
    obtain ⟨KY, hKY⟩ : ∃ K, y.key = K := ⟨_, rfl⟩
    rw [hKX, hKY] at ML MR MB hrng hneg hzer HCS0
    clear hx hy mx my hrwx hrwy HT0 HM0 hKX hKY
    obtain ⟨⟨⟨⟨xk, xm, xs⟩, xn, xl⟩, xx⟩, xb, xbv, xt, xtv⟩ := x
    simp only at hsvx hshx
    obtain ⟨⟨x1, x2, x3, e1⟩, ⟨x4, x6, e2⟩, ⟨x7, x9, e3⟩, -, -⟩ := hshx
    obtain ⟨x5, h5⟩ : ∃ n, xb.length = n := ⟨_, rfl⟩
    obtain ⟨x8, h8⟩ : ∃ n, xt.length = n := ⟨_, rfl⟩
    rw [h5] at e2
    rw [h8] at e3
    subst e1 e2 e3
    clear h5 h8
    obtain ⟨⟨⟨⟨yk, ym, ys⟩, yn, yl⟩, yx⟩, yb, ybv, yt, ytv⟩ := y
    simp only at hsvy hshy
    obtain ⟨⟨y1, y2, y3, e1⟩, ⟨y4, y6, e2⟩, ⟨y7, y9, e3⟩, -, -⟩ := hshy
    obtain ⟨y5, h5⟩ : ∃ n, yb.length = n := ⟨_, rfl⟩
    obtain ⟨y8, h8⟩ : ∃ n, yt.length = n := ⟨_, rfl⟩
    rw [h5] at e2
    rw [h8] at e3
    subst e1 e2 e3
    clear h5 h8
    obtain ⟨q0, q1, q2, q3, q4, q5, q6⟩ := hsvx
    have HQ := conj7 q0 q1 q2 q3 q4 q5 q6
    have HQz : Hid (sb < wr.heap.size) := hzx
    clear q0 q1 q2 q3 q4 q5 q6 hzx
    obtain ⟨q0, q1, q2, q3, q4, q5, q6⟩ := hsvy
    have HR := conj7 q0 q1 q2 q3 q4 q5 q6
    have HRz : Hid (sd < wr.heap.size) := hzy
    clear q0 q1 q2 q3 q4 q5 q6 hzy
    obtain ⟨r, hr⟩ : ∃ r, cmpC KX KY = r := ⟨_, rfl⟩
    rw [hr] at hrng hneg hzer ML
    simp only [hr] at HCS0
    have HCS : Hid (∀ Y : World, Below wr.heap.size wr Y -> Calls Tryz.prog 39 #[.agg #[.int .i64 xk, .int .i64 xm, .string xs, .string xn, .slice x1 x2 x3, .slice x4 x5 x6, .slice x7 x8 x9], .agg #[.int .i64 yk, .int .i64 ym, .string ys, .string yn, .slice y1 y2 y3, .slice y4 y5 y6, .slice y7 y8 y9]] Y fun e w' => e = .returned (.int .i64 r) /\ Below Y.heap.size Y w') := HCS0
    clear HCS0 hr
    rcases hrng with rfl | rfl | rfl
    ·have HMG := Hid.out ML (by omega)
     have HMG : Hid (Mrg (o1.map Cm.key) (o2.map Cm.key) ((T ++ [(⟨(⟨⟨xk, xm, xs⟩, xn, xl⟩, .slice x1 x2 x3), xb, .slice x4 x5 x6, xt, .slice x7 x8 x9⟩ : Cm)]).map Cm.key) (a + 1) c) := HMG
     have HTM : Hid (∀ z ∈ T ++ [⟨(⟨⟨xk, xm, xs⟩, xn, xl⟩, .slice x1 x2 x3), xb, .slice x4 x5 x6, xt, .slice x7 x8 x9⟩], z ∈ o1 ∨ z ∈ o2) := HTX.out
     clear ML MR MB hneg hzer HTX HTY
     go_upto_region 12 with fail
     refine wp_region_held_drew (S := fun w' => Below wr.heap.size wr w') (by kernel_rfl) (Below.refl _ _).drew (fun hH => ?_)
     revert hH
     generalize wr.drew = V
     intro hH
     refine wTk 0 (.slice (some ⟨sb, so, none⟩) o1.length oc) rfl (by kernel_rfl) (fun _ _ _ h => h) (Or.inl ⟨by rfl, fun w' _ => by go_simp⟩) hH ?_
     simp only [wA8, wB8, wC8, wD8]
     refine wTk 1 (.int .i64 (a : Int)) rfl (by kernel_rfl) (fun _ _ _ h => h) (Or.inl ⟨by rfl, fun w' _ => by go_simp⟩) hH ?_
     simp only [wA8, wB8, wC8, wD8]
     refine wTk 2 (.pointer (some ⟨sb, so + a * 7, none⟩)) rfl (by kernel_rfl) (fun _ _ _ h => h) (Or.inl ⟨by rfl, fun w' _ => by go_simp⟩) hH ?_
     simp only [wA8, wB8, wC8, wD8]
     refine wTk 3 (.agg #[.int .i64 xk, .int .i64 xm, .string xs, .string xn, .slice x1 x2 x3, .slice x4 x5 x6, .slice x7 x8 x9]) rfl (by kernel_rfl) (fun _ _ _ h => h) (Or.inl ⟨by rfl, fun w' h => by obtain ⟨q0, q1, q2, q3, q4, q5, q6⟩ := Hid.out HQ; have z := Hid.out HQz; have y0 := cell_step h z q0; have y1 := cell_step h z q1; have y2 := cell_step h z q2; have y3 := cell_step h z q3; have y4 := cell_step h z q4; have y5 := cell_step h z q5; have y6 := cell_step h z q6; clear q0 q1 q2 q3 q4 q5 q6; go_simp⟩) hH ?_
     simp only [wA8, wB8, wC8, wD8]
     refine wTk 4 (.slice (some ⟨sd, sq, none⟩) o2.length qc) rfl (by kernel_rfl) (fun _ _ _ h => h) (Or.inl ⟨by rfl, fun w' _ => by go_simp⟩) hH ?_
     simp only [wA8, wB8, wC8, wD8]
     refine wTk 5 (.int .i64 (c : Int)) rfl (by kernel_rfl) (fun _ _ _ h => h) (Or.inl ⟨by rfl, fun w' _ => by go_simp⟩) hH ?_
     simp only [wA8, wB8, wC8, wD8]
     refine wTk 6 (.pointer (some ⟨sd, sq + c * 7, none⟩)) rfl (by kernel_rfl) (fun _ _ _ h => h) (Or.inl ⟨by rfl, fun w' _ => by go_simp⟩) hH ?_
     simp only [wA8, wB8, wC8, wD8]
     refine wTk 7 (.agg #[.int .i64 yk, .int .i64 ym, .string ys, .string yn, .slice y1 y2 y3, .slice y4 y5 y6, .slice y7 y8 y9]) rfl (by kernel_rfl) (fun _ _ _ h => h) (Or.inl ⟨by rfl, fun w' h => by obtain ⟨q0, q1, q2, q3, q4, q5, q6⟩ := Hid.out HR; have z := Hid.out HRz; have y0 := cell_step h z q0; have y1 := cell_step h z q1; have y2 := cell_step h z q2; have y3 := cell_step h z q3; have y4 := cell_step h z q4; have y5 := cell_step h z q5; have y6 := cell_step h z q6; clear q0 q1 q2 q3 q4 q5 q6; go_simp⟩) hH ?_
     simp only [wA8, wB8, wC8, wD8]
     refine wRd 8 (by kernel_rfl) rfl (fun K hK => ?_)
     go_simp
     refine (HCS.out _ hH).mono ?_
     rintro e V1 ⟨rfl, hb⟩
     refine hK.out _ _ (below_step hH hb) (fun hH => ?_)
     clear hK K hb
     refine wTk 9 (.int .i64 (-1)) rfl (by kernel_rfl) (fun _ _ _ h => h) (Or.inl ⟨by rfl, fun w' _ => by go_simp⟩) hH ?_
     simp only [wA8, wB8, wC8, wD8]
     refine wpAnyH_done (by kernel_rfl) ?_ _
     have HBW : Hid (Below wr.heap.size wr V1) := hH
     clear hH
     clear HCS
     obtain ⟨p0, p1, p2, p3, p4, p5, p6⟩ := HQ.out
     have zz := HQz.out
     have p0 := cell_step HBW.out zz p0
     have p1 := cell_step HBW.out zz p1
     have p2 := cell_step HBW.out zz p2
     have p3 := cell_step HBW.out zz p3
     have p4 := cell_step HBW.out zz p4
     have p5 := cell_step HBW.out zz p5
     have p6 := cell_step HBW.out zz p6
     clear zz
     have HG : Hid (CBlk (V1.alloc (.cells #[.int .i64 xk, .int .i64 xm, .string xs, .string xn, .slice x1 x2 x3, .slice x4 x5 x6, .slice x7 x8 x9] 58)) V1.heap.size #[.int .i64 xk, .int .i64 xm, .string xs, .string xn, .slice x1 x2 x3, .slice x4 x5 x6, .slice x7 x8 x9] 58) := CBlk.new _ _ _
     have HOA : Hid (OwnC (V1.alloc (.cells #[.int .i64 xk, .int .i64 xm, .string xs, .string xn, .slice x1 x2 x3, .slice x4 x5 x6, .slice x7 x8 x9] 58)) w2.heap.size u5 T) := HOT.out.later (below_step HBW.out (below1 _ _))
     have HB3 : Hid (Below w2.heap.size w2 (V1.alloc (.cells #[.int .i64 xk, .int .i64 xm, .string xs, .string xn, .slice x1 x2 x3, .slice x4 x5 x6, .slice x7 x8 x9] 58))) := below_step (below_step HB.out HBW.out) (below1 _ _)
     clear HBW
     go_wp2_with (at_builtin; refine capp_one rfl _ _ rfl w2.heap.size u5 T (by rfl) HOA.out V1.heap.size ⟨(⟨⟨xk, xm, xs⟩, xn, xl⟩, .slice x1 x2 x3), xb, .slice x4 x5 x6, xt, .slice x7 x8 x9⟩ (by rfl) HG.out HXK.out (by omega) HB3.out.size ?_; intro v4 w4 hown hb4 hg4 ha4; have HO4 : Hid (OwnC w4 w2.heap.size v4 (T ++ [⟨(⟨⟨xk, xm, xs⟩, xn, xl⟩, .slice x1 x2 x3), xb, .slice x4 x5 x6, xt, .slice x7 x8 x9⟩])) := hown; have HB4 : Hid (Below w2.heap.size w2 w4) := HB3.out.trans hb4; clear hown hb4 hg4 ha4 HOA HG HB3)
     go_roundg (gk - 1)
     case measure => omega
     case rel => exact ⟨a + 1, c, _, by go_num, by go_num, by omega, by omega, by omega, HO4.out, by simp only [List.length_append, List.length_singleton]; omega, HTM.out, HMG.out, HB4.out⟩
    ·have HMG := Hid.out MB (hzer rfl)
     have HMG : Hid (Mrg (o1.map Cm.key) (o2.map Cm.key) ((T ++ [(⟨(⟨⟨xk, xm, xs⟩, xn, xl⟩, .slice x1 x2 x3), xb, .slice x4 x5 x6, xt, .slice x7 x8 x9⟩ : Cm)]).map Cm.key) (a + 1) (c + 1)) := HMG
     have HTM : Hid (∀ z ∈ T ++ [⟨(⟨⟨xk, xm, xs⟩, xn, xl⟩, .slice x1 x2 x3), xb, .slice x4 x5 x6, xt, .slice x7 x8 x9⟩], z ∈ o1 ∨ z ∈ o2) := HTX.out
     clear ML MR MB hneg hzer HTX HTY
     go_upto_region 12 with fail
     refine wp_region_held_drew (S := fun w' => Below wr.heap.size wr w') (by kernel_rfl) (Below.refl _ _).drew (fun hH => ?_)
     revert hH
     generalize wr.drew = V
     intro hH
     refine wTk 0 (.slice (some ⟨sb, so, none⟩) o1.length oc) rfl (by kernel_rfl) (fun _ _ _ h => h) (Or.inl ⟨by rfl, fun w' _ => by go_simp⟩) hH ?_
     simp only [wA8, wB8, wC8, wD8]
     refine wTk 1 (.int .i64 (a : Int)) rfl (by kernel_rfl) (fun _ _ _ h => h) (Or.inl ⟨by rfl, fun w' _ => by go_simp⟩) hH ?_
     simp only [wA8, wB8, wC8, wD8]
     refine wTk 2 (.pointer (some ⟨sb, so + a * 7, none⟩)) rfl (by kernel_rfl) (fun _ _ _ h => h) (Or.inl ⟨by rfl, fun w' _ => by go_simp⟩) hH ?_
     simp only [wA8, wB8, wC8, wD8]
     refine wTk 3 (.agg #[.int .i64 xk, .int .i64 xm, .string xs, .string xn, .slice x1 x2 x3, .slice x4 x5 x6, .slice x7 x8 x9]) rfl (by kernel_rfl) (fun _ _ _ h => h) (Or.inl ⟨by rfl, fun w' h => by obtain ⟨q0, q1, q2, q3, q4, q5, q6⟩ := Hid.out HQ; have z := Hid.out HQz; have y0 := cell_step h z q0; have y1 := cell_step h z q1; have y2 := cell_step h z q2; have y3 := cell_step h z q3; have y4 := cell_step h z q4; have y5 := cell_step h z q5; have y6 := cell_step h z q6; clear q0 q1 q2 q3 q4 q5 q6; go_simp⟩) hH ?_
     simp only [wA8, wB8, wC8, wD8]
     refine wTk 4 (.slice (some ⟨sd, sq, none⟩) o2.length qc) rfl (by kernel_rfl) (fun _ _ _ h => h) (Or.inl ⟨by rfl, fun w' _ => by go_simp⟩) hH ?_
     simp only [wA8, wB8, wC8, wD8]
     refine wTk 5 (.int .i64 (c : Int)) rfl (by kernel_rfl) (fun _ _ _ h => h) (Or.inl ⟨by rfl, fun w' _ => by go_simp⟩) hH ?_
     simp only [wA8, wB8, wC8, wD8]
     refine wTk 6 (.pointer (some ⟨sd, sq + c * 7, none⟩)) rfl (by kernel_rfl) (fun _ _ _ h => h) (Or.inl ⟨by rfl, fun w' _ => by go_simp⟩) hH ?_
     simp only [wA8, wB8, wC8, wD8]
     refine wTk 7 (.agg #[.int .i64 yk, .int .i64 ym, .string ys, .string yn, .slice y1 y2 y3, .slice y4 y5 y6, .slice y7 y8 y9]) rfl (by kernel_rfl) (fun _ _ _ h => h) (Or.inl ⟨by rfl, fun w' h => by obtain ⟨q0, q1, q2, q3, q4, q5, q6⟩ := Hid.out HR; have z := Hid.out HRz; have y0 := cell_step h z q0; have y1 := cell_step h z q1; have y2 := cell_step h z q2; have y3 := cell_step h z q3; have y4 := cell_step h z q4; have y5 := cell_step h z q5; have y6 := cell_step h z q6; clear q0 q1 q2 q3 q4 q5 q6; go_simp⟩) hH ?_
     simp only [wA8, wB8, wC8, wD8]
     refine wRd 8 (by kernel_rfl) rfl (fun K hK => ?_)
     go_simp
     refine (HCS.out _ hH).mono ?_
     rintro e V1 ⟨rfl, hb⟩
     refine hK.out _ _ (below_step hH hb) (fun hH => ?_)
     clear hK K hb
     refine wTk 9 (.int .i64 0) rfl (by kernel_rfl) (fun _ _ _ h => h) (Or.inl ⟨by rfl, fun w' _ => by go_simp⟩) hH ?_
     simp only [wA8, wB8, wC8, wD8]
     refine wpAnyH_done (by kernel_rfl) ?_ _
     have HBW : Hid (Below wr.heap.size wr V1) := hH
     clear hH
     clear HCS
     obtain ⟨p0, p1, p2, p3, p4, p5, p6⟩ := HQ.out
     have zz := HQz.out
     have p0 := cell_step HBW.out zz p0
     have p1 := cell_step HBW.out zz p1
     have p2 := cell_step HBW.out zz p2
     have p3 := cell_step HBW.out zz p3
     have p4 := cell_step HBW.out zz p4
     have p5 := cell_step HBW.out zz p5
     have p6 := cell_step HBW.out zz p6
     clear zz
     have HG : Hid (CBlk (V1.alloc (.cells #[.int .i64 xk, .int .i64 xm, .string xs, .string xn, .slice x1 x2 x3, .slice x4 x5 x6, .slice x7 x8 x9] 58)) V1.heap.size #[.int .i64 xk, .int .i64 xm, .string xs, .string xn, .slice x1 x2 x3, .slice x4 x5 x6, .slice x7 x8 x9] 58) := CBlk.new _ _ _
     have HOA : Hid (OwnC (V1.alloc (.cells #[.int .i64 xk, .int .i64 xm, .string xs, .string xn, .slice x1 x2 x3, .slice x4 x5 x6, .slice x7 x8 x9] 58)) w2.heap.size u5 T) := HOT.out.later (below_step HBW.out (below1 _ _))
     have HB3 : Hid (Below w2.heap.size w2 (V1.alloc (.cells #[.int .i64 xk, .int .i64 xm, .string xs, .string xn, .slice x1 x2 x3, .slice x4 x5 x6, .slice x7 x8 x9] 58))) := below_step (below_step HB.out HBW.out) (below1 _ _)
     clear HBW
     go_wp2_with (at_builtin; refine capp_one rfl _ _ rfl w2.heap.size u5 T (by rfl) HOA.out V1.heap.size ⟨(⟨⟨xk, xm, xs⟩, xn, xl⟩, .slice x1 x2 x3), xb, .slice x4 x5 x6, xt, .slice x7 x8 x9⟩ (by rfl) HG.out HXK.out (by omega) HB3.out.size ?_; intro v4 w4 hown hb4 hg4 ha4; have HO4 : Hid (OwnC w4 w2.heap.size v4 (T ++ [⟨(⟨⟨xk, xm, xs⟩, xn, xl⟩, .slice x1 x2 x3), xb, .slice x4 x5 x6, xt, .slice x7 x8 x9⟩])) := hown; have HB4 : Hid (Below w2.heap.size w2 w4) := HB3.out.trans hb4; clear hown hb4 hg4 ha4 HOA HG HB3)
     go_roundg (gk - 2)
     case measure => omega
     case rel => exact ⟨a + 1, c + 1, _, by go_num, by go_num, by omega, by omega, by omega, HO4.out, by simp only [List.length_append, List.length_singleton]; omega, HTM.out, HMG.out, HB4.out⟩
    ·have HMG := Hid.out MR (by omega)
     have HMG : Hid (Mrg (o1.map Cm.key) (o2.map Cm.key) ((T ++ [(⟨(⟨⟨yk, ym, ys⟩, yn, yl⟩, .slice y1 y2 y3), yb, .slice y4 y5 y6, yt, .slice y7 y8 y9⟩ : Cm)]).map Cm.key) a (c + 1)) := HMG
     have HTM : Hid (∀ z ∈ T ++ [⟨(⟨⟨yk, ym, ys⟩, yn, yl⟩, .slice y1 y2 y3), yb, .slice y4 y5 y6, yt, .slice y7 y8 y9⟩], z ∈ o1 ∨ z ∈ o2) := HTY.out
     clear ML MR MB hneg hzer HTX HTY
     go_upto_region 12 with fail
     refine wp_region_held_drew (S := fun w' => Below wr.heap.size wr w') (by kernel_rfl) (Below.refl _ _).drew (fun hH => ?_)
     revert hH
     generalize wr.drew = V
     intro hH
     refine wTk 0 (.slice (some ⟨sb, so, none⟩) o1.length oc) rfl (by kernel_rfl) (fun _ _ _ h => h) (Or.inl ⟨by rfl, fun w' _ => by go_simp⟩) hH ?_
     simp only [wA8, wB8, wC8, wD8]
     refine wTk 1 (.int .i64 (a : Int)) rfl (by kernel_rfl) (fun _ _ _ h => h) (Or.inl ⟨by rfl, fun w' _ => by go_simp⟩) hH ?_
     simp only [wA8, wB8, wC8, wD8]
     refine wTk 2 (.pointer (some ⟨sb, so + a * 7, none⟩)) rfl (by kernel_rfl) (fun _ _ _ h => h) (Or.inl ⟨by rfl, fun w' _ => by go_simp⟩) hH ?_
     simp only [wA8, wB8, wC8, wD8]
     refine wTk 3 (.agg #[.int .i64 xk, .int .i64 xm, .string xs, .string xn, .slice x1 x2 x3, .slice x4 x5 x6, .slice x7 x8 x9]) rfl (by kernel_rfl) (fun _ _ _ h => h) (Or.inl ⟨by rfl, fun w' h => by obtain ⟨q0, q1, q2, q3, q4, q5, q6⟩ := Hid.out HQ; have z := Hid.out HQz; have y0 := cell_step h z q0; have y1 := cell_step h z q1; have y2 := cell_step h z q2; have y3 := cell_step h z q3; have y4 := cell_step h z q4; have y5 := cell_step h z q5; have y6 := cell_step h z q6; clear q0 q1 q2 q3 q4 q5 q6; go_simp⟩) hH ?_
     simp only [wA8, wB8, wC8, wD8]
     refine wTk 4 (.slice (some ⟨sd, sq, none⟩) o2.length qc) rfl (by kernel_rfl) (fun _ _ _ h => h) (Or.inl ⟨by rfl, fun w' _ => by go_simp⟩) hH ?_
     simp only [wA8, wB8, wC8, wD8]
     refine wTk 5 (.int .i64 (c : Int)) rfl (by kernel_rfl) (fun _ _ _ h => h) (Or.inl ⟨by rfl, fun w' _ => by go_simp⟩) hH ?_
     simp only [wA8, wB8, wC8, wD8]
     refine wTk 6 (.pointer (some ⟨sd, sq + c * 7, none⟩)) rfl (by kernel_rfl) (fun _ _ _ h => h) (Or.inl ⟨by rfl, fun w' _ => by go_simp⟩) hH ?_
     simp only [wA8, wB8, wC8, wD8]
     refine wTk 7 (.agg #[.int .i64 yk, .int .i64 ym, .string ys, .string yn, .slice y1 y2 y3, .slice y4 y5 y6, .slice y7 y8 y9]) rfl (by kernel_rfl) (fun _ _ _ h => h) (Or.inl ⟨by rfl, fun w' h => by obtain ⟨q0, q1, q2, q3, q4, q5, q6⟩ := Hid.out HR; have z := Hid.out HRz; have y0 := cell_step h z q0; have y1 := cell_step h z q1; have y2 := cell_step h z q2; have y3 := cell_step h z q3; have y4 := cell_step h z q4; have y5 := cell_step h z q5; have y6 := cell_step h z q6; clear q0 q1 q2 q3 q4 q5 q6; go_simp⟩) hH ?_
     simp only [wA8, wB8, wC8, wD8]
     refine wRd 8 (by kernel_rfl) rfl (fun K hK => ?_)
     go_simp
     refine (HCS.out _ hH).mono ?_
     rintro e V1 ⟨rfl, hb⟩
     refine hK.out _ _ (below_step hH hb) (fun hH => ?_)
     clear hK K hb
     refine wTk 9 (.int .i64 1) rfl (by kernel_rfl) (fun _ _ _ h => h) (Or.inl ⟨by rfl, fun w' _ => by go_simp⟩) hH ?_
     simp only [wA8, wB8, wC8, wD8]
     refine wpAnyH_done (by kernel_rfl) ?_ _
     have HBW : Hid (Below wr.heap.size wr V1) := hH
     clear hH
     clear HCS
     obtain ⟨p0, p1, p2, p3, p4, p5, p6⟩ := HR.out
     have zz := HRz.out
     have p0 := cell_step HBW.out zz p0
     have p1 := cell_step HBW.out zz p1
     have p2 := cell_step HBW.out zz p2
     have p3 := cell_step HBW.out zz p3
     have p4 := cell_step HBW.out zz p4
     have p5 := cell_step HBW.out zz p5
     have p6 := cell_step HBW.out zz p6
     clear zz
     have HG : Hid (CBlk (V1.alloc (.cells #[.int .i64 yk, .int .i64 ym, .string ys, .string yn, .slice y1 y2 y3, .slice y4 y5 y6, .slice y7 y8 y9] 58)) V1.heap.size #[.int .i64 yk, .int .i64 ym, .string ys, .string yn, .slice y1 y2 y3, .slice y4 y5 y6, .slice y7 y8 y9] 58) := CBlk.new _ _ _
     have HOA : Hid (OwnC (V1.alloc (.cells #[.int .i64 yk, .int .i64 ym, .string ys, .string yn, .slice y1 y2 y3, .slice y4 y5 y6, .slice y7 y8 y9] 58)) w2.heap.size u5 T) := HOT.out.later (below_step HBW.out (below1 _ _))
     have HB3 : Hid (Below w2.heap.size w2 (V1.alloc (.cells #[.int .i64 yk, .int .i64 ym, .string ys, .string yn, .slice y1 y2 y3, .slice y4 y5 y6, .slice y7 y8 y9] 58))) := below_step (below_step HB.out HBW.out) (below1 _ _)
     clear HBW
     go_wp2_with (at_builtin; refine capp_one rfl _ _ rfl w2.heap.size u5 T (by rfl) HOA.out V1.heap.size ⟨(⟨⟨yk, ym, ys⟩, yn, yl⟩, .slice y1 y2 y3), yb, .slice y4 y5 y6, yt, .slice y7 y8 y9⟩ (by rfl) HG.out HYK.out (by omega) HB3.out.size ?_; intro v4 w4 hown hb4 hg4 ha4; have HO4 : Hid (OwnC w4 w2.heap.size v4 (T ++ [⟨(⟨⟨yk, ym, ys⟩, yn, yl⟩, .slice y1 y2 y3), yb, .slice y4 y5 y6, yt, .slice y7 y8 y9⟩])) := hown; have HB4 : Hid (Below w2.heap.size w2 w4) := HB3.out.trans hb4; clear hown hb4 hg4 ha4 HOA HG HB3)
     go_roundg (gk - 1)
     case measure => omega
     case rel => exact ⟨a, c + 1, _, by go_num, by go_num, by omega, by omega, by omega, HO4.out, by simp only [List.length_append, List.length_singleton]; omega, HTM.out, HMG.out, HB4.out⟩
   ·obtain rfl : c = o2.length := by omega
    have k4 : ¬ (o2.length : Int) < (o2.length : Int) := by omega
    have HMG0 : Hid (Mrg (o1.map Cm.key) (o2.map Cm.key) ((T ++ [x]).map Cm.key) (a + 1) o2.length) := by show Mrg _ _ _ _ _; rw [List.map_append]; exact HM0.out.left HK1.out.rise HK2.out.rise (key_get hx) (fun z hz => by rw [key_none (Nat.le_refl _)] at hz; cases hz)
    have HTX : Hid (∀ z ∈ T ++ [x], z ∈ o1 ∨ z ∈ o2) := fun z hz => by rcases List.mem_append.1 hz with hz | hz; exact HT0.out z hz; rw [List.mem_singleton] at hz; subst hz; exact Or.inl mx
    clear hx mx hrwx HT0 HM0 hzx
    obtain ⟨⟨⟨⟨xk, xm, xs⟩, xn, xl⟩, xx⟩, xb, xbv, xt, xtv⟩ := x
    simp only at hsvx hshx
    obtain ⟨⟨x1, x2, x3, e1⟩, ⟨x4, x6, e2⟩, ⟨x7, x9, e3⟩, -, -⟩ := hshx
    obtain ⟨x5, h5⟩ : ∃ n, xb.length = n := ⟨_, rfl⟩
    obtain ⟨x8, h8⟩ : ∃ n, xt.length = n := ⟨_, rfl⟩
    rw [h5] at e2
    rw [h8] at e3
    subst e1 e2 e3
    clear h5 h8
    obtain ⟨p0, p1, p2, p3, p4, p5, p6⟩ := hsvx
    have HMG : Hid (Mrg (o1.map Cm.key) (o2.map Cm.key) ((T ++ [(⟨(⟨⟨xk, xm, xs⟩, xn, xl⟩, .slice x1 x2 x3), xb, .slice x4 x5 x6, xt, .slice x7 x8 x9⟩ : Cm)]).map Cm.key) (a + 1) o2.length) := HMG0.out
    have HTM : Hid (∀ z ∈ T ++ [⟨(⟨⟨xk, xm, xs⟩, xn, xl⟩, .slice x1 x2 x3), xb, .slice x4 x5 x6, xt, .slice x7 x8 x9⟩], z ∈ o1 ∨ z ∈ o2) := HTX.out
    have HBW : Hid (Below wr.heap.size wr wr) := Below.refl _ _
    clear HMG0 HTX
    have HG : Hid (CBlk (wr.alloc (.cells #[.int .i64 xk, .int .i64 xm, .string xs, .string xn, .slice x1 x2 x3, .slice x4 x5 x6, .slice x7 x8 x9] 58)) wr.heap.size #[.int .i64 xk, .int .i64 xm, .string xs, .string xn, .slice x1 x2 x3, .slice x4 x5 x6, .slice x7 x8 x9] 58) := CBlk.new _ _ _
    have HOA : Hid (OwnC (wr.alloc (.cells #[.int .i64 xk, .int .i64 xm, .string xs, .string xn, .slice x1 x2 x3, .slice x4 x5 x6, .slice x7 x8 x9] 58)) w2.heap.size u5 T) := HOT.out.later (below_step HBW.out (below1 _ _))
    have HB3 : Hid (Below w2.heap.size w2 (wr.alloc (.cells #[.int .i64 xk, .int .i64 xm, .string xs, .string xn, .slice x1 x2 x3, .slice x4 x5 x6, .slice x7 x8 x9] 58))) := below_step (below_step HB.out HBW.out) (below1 _ _)
    clear HBW
    go_wp2_with (at_builtin; refine capp_one rfl _ _ rfl w2.heap.size u5 T (by rfl) HOA.out wr.heap.size ⟨(⟨⟨xk, xm, xs⟩, xn, xl⟩, .slice x1 x2 x3), xb, .slice x4 x5 x6, xt, .slice x7 x8 x9⟩ (by rfl) HG.out HXK.out (by omega) HB3.out.size ?_; intro v4 w4 hown hb4 hg4 ha4; have HO4 : Hid (OwnC w4 w2.heap.size v4 (T ++ [⟨(⟨⟨xk, xm, xs⟩, xn, xl⟩, .slice x1 x2 x3), xb, .slice x4 x5 x6, xt, .slice x7 x8 x9⟩])) := hown; have HB4 : Hid (Below w2.heap.size w2 w4) := HB3.out.trans hb4; clear hown hb4 hg4 ha4 HOA HG HB3)
    go_roundg (gk - 1)
    case measure => omega
    case rel => exact ⟨a + 1, o2.length, _, by go_num, by go_num, by omega, by omega, by omega, HO4.out, by simp only [List.length_append, List.length_singleton]; omega, HTM.out, HMG.out, HB4.out⟩
  ·obtain rfl : a = o1.length := by omega
   have k1 : ¬ (o1.length : Int) < (o1.length : Int) := by omega
   by_cases h3 : c < o2.length
   ·have k4 : (c : Int) < (o2.length : Int) := by omega
    obtain ⟨y, hy⟩ : ∃ z, o2[c]? = some z := ⟨_, List.getElem?_eq_getElem (by omega)⟩
    have my := List.mem_of_getElem? hy
    obtain ⟨sd, sq, rfl, hrwy⟩ := (HC2.out.later HB.out).get hy
    have hzy := hrwy.1
    have hsvy := hrwy.seven hy
    have hshy := (HC2.out.ok y my).shape
    have HYK : Hid (y.ok wr) := (HC2.out.ok y my).later HB.out
    have HMG0 : Hid (Mrg (o1.map Cm.key) (o2.map Cm.key) ((T ++ [y]).map Cm.key) o1.length (c + 1)) := by show Mrg _ _ _ _ _; rw [List.map_append]; exact HM0.out.right HK1.out.rise HK2.out.rise (key_get hy) (fun z hz => by rw [key_none (Nat.le_refl _)] at hz; cases hz)
    have HTY : Hid (∀ z ∈ T ++ [y], z ∈ o1 ∨ z ∈ o2) := fun z hz => by rcases List.mem_append.1 hz with hz | hz; exact HT0.out z hz; rw [List.mem_singleton] at hz; subst hz; exact Or.inr my
    clear hy my hrwy HT0 HM0 hzy
    obtain ⟨⟨⟨⟨yk, ym, ys⟩, yn, yl⟩, yx⟩, yb, ybv, yt, ytv⟩ := y
    simp only at hsvy hshy
    obtain ⟨⟨y1, y2, y3, e1⟩, ⟨y4, y6, e2⟩, ⟨y7, y9, e3⟩, -, -⟩ := hshy
    obtain ⟨y5, h5⟩ : ∃ n, yb.length = n := ⟨_, rfl⟩
    obtain ⟨y8, h8⟩ : ∃ n, yt.length = n := ⟨_, rfl⟩
    rw [h5] at e2
    rw [h8] at e3
    subst e1 e2 e3
    clear h5 h8
    obtain ⟨p0, p1, p2, p3, p4, p5, p6⟩ := hsvy
    have HMG : Hid (Mrg (o1.map Cm.key) (o2.map Cm.key) ((T ++ [(⟨(⟨⟨yk, ym, ys⟩, yn, yl⟩, .slice y1 y2 y3), yb, .slice y4 y5 y6, yt, .slice y7 y8 y9⟩ : Cm)]).map Cm.key) o1.length (c + 1)) := HMG0.out
    have HTM : Hid (∀ z ∈ T ++ [⟨(⟨⟨yk, ym, ys⟩, yn, yl⟩, .slice y1 y2 y3), yb, .slice y4 y5 y6, yt, .slice y7 y8 y9⟩], z ∈ o1 ∨ z ∈ o2) := HTY.out
    have HBW : Hid (Below wr.heap.size wr wr) := Below.refl _ _
    clear HMG0 HTY
    have HG : Hid (CBlk (wr.alloc (.cells #[.int .i64 yk, .int .i64 ym, .string ys, .string yn, .slice y1 y2 y3, .slice y4 y5 y6, .slice y7 y8 y9] 58)) wr.heap.size #[.int .i64 yk, .int .i64 ym, .string ys, .string yn, .slice y1 y2 y3, .slice y4 y5 y6, .slice y7 y8 y9] 58) := CBlk.new _ _ _
    have HOA : Hid (OwnC (wr.alloc (.cells #[.int .i64 yk, .int .i64 ym, .string ys, .string yn, .slice y1 y2 y3, .slice y4 y5 y6, .slice y7 y8 y9] 58)) w2.heap.size u5 T) := HOT.out.later (below_step HBW.out (below1 _ _))
    have HB3 : Hid (Below w2.heap.size w2 (wr.alloc (.cells #[.int .i64 yk, .int .i64 ym, .string ys, .string yn, .slice y1 y2 y3, .slice y4 y5 y6, .slice y7 y8 y9] 58))) := below_step (below_step HB.out HBW.out) (below1 _ _)
    clear HBW
    go_wp2_with (at_builtin; refine capp_one rfl _ _ rfl w2.heap.size u5 T (by rfl) HOA.out wr.heap.size ⟨(⟨⟨yk, ym, ys⟩, yn, yl⟩, .slice y1 y2 y3), yb, .slice y4 y5 y6, yt, .slice y7 y8 y9⟩ (by rfl) HG.out HYK.out (by omega) HB3.out.size ?_; intro v4 w4 hown hb4 hg4 ha4; have HO4 : Hid (OwnC w4 w2.heap.size v4 (T ++ [⟨(⟨⟨yk, ym, ys⟩, yn, yl⟩, .slice y1 y2 y3), yb, .slice y4 y5 y6, yt, .slice y7 y8 y9⟩])) := hown; have HB4 : Hid (Below w2.heap.size w2 w4) := HB3.out.trans hb4; clear hown hb4 hg4 ha4 HOA HG HB3)
    go_roundg (gk - 1)
    case measure => omega
    case rel => exact ⟨o1.length, c + 1, _, by go_num, by go_num, by omega, by omega, by omega, HO4.out, by simp only [List.length_append, List.length_singleton]; omega, HTM.out, HMG.out, HB4.out⟩
   ·obtain rfl : c = o2.length := by omega
    have k4 : ¬ (o2.length : Int) < (o2.length : Int) := by omega
    have hd := HM0.out.done (by simp) (by simp)
    have HRS : Hid (RSP w l (.returned u5) wr) := rsp_mk (HOT.out.csp2 fun z hz => by rcases HT0.out z hz with hz | hz; exact (HC1.out.ok z hz).later HB.out; exact (HC2.out.ok z hz).later HB.out) (fun z hz => by rcases HT0.out z hz with hz | hz; exact ⟨(HS1.out z hz).1, (HS1.out z hz).2.later HB.out⟩; exact ⟨(HS2.out z hz).1, (HS2.out z hz).2.later HB.out⟩) (by have := HNL.out; omega) (SetK.join HK1.out HK2.out hd.1 hd.2) (below_step HB2.out HB.out)
    clear hd HT0 HM0
    go_wp2
    go_ret
    exact HRS.out
end Go.Proofs.YtnenadklmjcakaaGreatDoor
