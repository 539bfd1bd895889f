import Derived.Test.YtmbmchbninlhpaaGreatDoorSD16
import Derived.Test.YtmbmchbninlhpaaGreatDoorCV1
import Derived.Test.YtmbmchbninlhpaaGreatDoorCM0
import Derived.Test.YtmbmchbninlhpaaGreatDoorCP1
namespace Go.Proofs.YtmbmchbninlhpaaGreatDoor
open Go.RowKit

theorem fErr_app9 : ∀ {a b : List Cm}, (∀ c ∈ a, c.chk = 0) -> fErr (a ++ b) = fErr b
 | [], _, _ => rfl
 | k :: a, b, h => by
  rw [List.cons_append, show fErr (k :: (a ++ b)) = if k.chk = 0 then fErr (a ++ b) else k.chk from rfl]
  rw [if_pos (h k (by simp)), fErr_app9 fun k hk => h k (List.mem_cons_of_mem _ hk)]
theorem drop_cons9 {α : Type} {l : List α} {j : Nat} {t : α} (h : l[j]? = some t) : l = l.take j ++ t :: l.drop (j + 1) := by
 have h1 : l.drop j = t :: l.drop (j + 1) := by rw [List.drop_eq_getElem_cons (by have := (List.getElem?_eq_some_iff.1 h).1; omega)]; congr 1; exact (List.getElem?_eq_some_iff.1 h).2
 rw [<- h1, List.take_append_drop]
theorem flat_take9 {α : Type} {f : α -> List Int} {l : List α} {j : Nat} {t : α} (h : l[j]? = some t) : (l.take (j + 1)).flatMap f = (l.take j).flatMap f ++ f t := by
 rw [List.take_add_one, h, List.flatMap_append]
 simp
theorem flat_le9 {α : Type} {f : α -> List Int} : ∀ (l : List α) (j : Nat), ((l.take j).flatMap f).length <= (l.flatMap f).length
 | [], j => by simp
 | a :: l, 0 => by simp
 | a :: l, j + 1 => by
  have := flat_le9 (f := f) l j
  simp only [List.take_succ_cons, List.flatMap_cons, List.length_append]
  omega
theorem len_tB9 : ∀ l : List Tm, l.length <= (l.flatMap tB).length
 | [] => by simp
 | a :: l => by
  have h1 := (tB_len a).1
  have h2 := len_tB9 l
  simp only [List.flatMap_cons, List.length_append, List.length_cons]
  omega
theorem len_nB9 : ∀ l : List Int, l.length <= (l.flatMap nB).length
 | [] => by simp
 | a :: l => by
  have h1 := nB_len a
  have h2 := len_nB9 l
  simp only [List.flatMap_cons, List.length_append, List.length_cons]
  omega
set_option maxRecDepth 20000 in
set_option maxHeartbeats 2400000 in
theorem rproofB_any (R : List Cm) (S : List St) (rv sv : Value) (w : World) (hR : CsP w rv R) (hS : SsP w sv S) (hp : ∀ c ∈ R, OKP w c) (hlR : R.length <= 2000000) (hlS : S.length <= 2000000)
  (hbd : ∀ j, (∀ s ∈ S.take j, wSt s = true) -> ((S.take j).flatMap sBm).length <= 1000000000) :
  Calls Tryz.prog 8 #[.agg #[rv, sv]] w fun e w' => ∃ v, e = .returned (.tuple #[v, .int .i64 (pErr R S)]) /\ Bn w' v (if pErr R S = 0 then pB R S else []) /\ Below w.heap.size w w' := by
 have HBE : Hid (∀ (k : Nat), k <= 8 -> ∀ (n : Int) (X : World), Calls Tryz.prog 32 #[.int .u64 n, .int .i64 k] X fun e w' => ∃ v', e = .returned v' /\ OwnB w' X.heap.size v' (be k n) /\ Below X.heap.size X w') := fun k hk n X => rbe_any k hk n X
 have HB4 : Hid (∀ (n : Int) (X : World), Calls Tryz.prog 32 #[.int .u64 n, .int .i64 4] X fun e w' => ∃ v', e = .returned v' /\ OwnB w' X.heap.size v' (be 4 n) /\ Below X.heap.size X w') := fun n X => HBE.out 4 (by omega) n X
 have HB8 : Hid (∀ (n : Int) (X : World), Calls Tryz.prog 32 #[.int .u64 n, .int .i64 8] X fun e w' => ∃ v', e = .returned v' /\ OwnB w' X.heap.size v' (be 8 n) /\ Below X.heap.size X w') := fun n X => HBE.out 8 (by omega) n X
 obtain ⟨PE, hPE⟩ : ∃ p, pErr R S = p := ⟨_, rfl⟩
 rw [hPE]
 have HPP : Hid (pErr R S = PE) := hPE
 clear hPE
 obtain ⟨ra, rc, rfl⟩ := hR.form
 obtain ⟨sa, sc, rfl⟩ := hS.form
 obtain ⟨rn, hrn⟩ : ∃ n, n = R.length := ⟨_, rfl⟩
 obtain ⟨sn, hsn⟩ : ∃ n, n = S.length := ⟨_, rfl⟩
 rw [<- hrn] at hR ⊢
 rw [<- hsn] at hS ⊢
 have HR0 : Hid (CsP w (.slice ra rn rc) R) := hR
 have HS0 : Hid (SsP w (.slice sa sn sc) S) := hS
 have HOP : Hid (∀ c ∈ R, OKP w c) := hp
 have HRN : Hid (rn = R.length) := hrn
 have HSN : Hid (sn = S.length) := hsn
 have HBD : Hid (∀ j, (∀ s ∈ S.take j, wSt s = true) -> ((S.take j).flatMap sBm).length <= 1000000000) := hbd
 have HX0 : Hid (CBlk (w.alloc (.cells #[.slice ra rn rc, .slice sa sn sc] 25)) w.heap.size #[.slice ra rn rc, .slice sa sn sc] 25) := CBlk.new _ _ _
 have HW0 : Hid (Below w.heap.size w (w.alloc (.cells #[.slice ra rn rc, .slice sa sn sc] 25))) := below1 _ _
 have lR : rn <= 2000000 := by omega
 have lS : sn <= 2000000 := by omega
 have hm1 : (rn : Int) % 18446744073709551616 = (rn : Int) := by omega
 have hm2 : (sn : Int) % 18446744073709551616 = (sn : Int) := by omega
 clear hR hS hp hlR hlS hbd hrn hsn HBE
 go_enter Tryz.func8, Tryz.ntmps8
 go_upto_region 1 with fail
 revert HX0 HW0
 generalize w.alloc (.cells #[.slice ra rn rc, .slice sa sn sc] 25) = W0
 intro HX0 HW0
 obtain ⟨p0, p1⟩ := ctwo HX0.out
 go_upto_region 2 with (go_at_call 32; refine (HB4.out _ _).mono ?_; rintro e w1 ⟨v1, rfl, ho, hb⟩; have HO1 : Hid (OwnB w1 W0.heap.size v1 (be 4 (rn : Int))) := ho; have HB1 : Hid (Below W0.heap.size W0 w1) := hb; clear ho hb p0 p1)
 go_wp2_with fail
 go_loopg [4, 5] rn (fun g u i wr => ∃ (j : Nat), j + g = rn /\ i = .int .i64 (j : Int) /\ (∀ c ∈ R.take j, c.chk = 0) /\ OwnB wr W0.heap.size u (be 4 (rn : Int) ++ (R.take j).flatMap cBm) /\ Below W0.heap.size W0 wr)
 case atStart => exact ⟨0, by omega, rfl, (fun c hc => by simp at hc), by rw [List.take_zero, List.flatMap_nil, List.append_nil]; exact HO1.out, HB1.out⟩
 case round =>
 obtain ⟨j, hj, rfl, hck, ho, hb⟩ := hrel
 obtain ⟨ua, un, uc, rfl⟩ := ownB_form ho
 have HO : Hid (OwnB wr W0.heap.size (.slice ua un uc) (be 4 (rn : Int) ++ (R.take j).flatMap cBm)) := ho
 have HB : Hid (Below W0.heap.size W0 wr) := hb
 have HCK : Hid (∀ c ∈ R.take j, c.chk = 0) := hck
 obtain ⟨p0, p1⟩ := ctwo (HX0.out.later hb)
 clear ho hb hck HO1 HB1
 cases gk with
 | succ g =>
  have i1 : (j : Int) < (rn : Int) := by omega
  have i0 : (0 : Int) <= (j : Int) := by omega
  obtain ⟨t, ht⟩ : ∃ t, R[j]? = some t := ⟨_, List.getElem?_eq_getElem (by have := HRN.out; omega)⟩
  obtain ⟨b, oo, rfl, hbs, hr, hok⟩ := HR0.out.at_ ht
  obtain ⟨e0, e1, e2, e3, e4, e5, e6⟩ := hr.seven ht
  have htm := List.mem_of_getElem? ht
  have HKP : Hid (∀ X : World, Below W0.heap.size W0 X -> Calls Tryz.prog 33 #[t.v] X fun e w' => e = .returned (.int .i64 t.chk) /\ Below X.heap.size X w') := fun X hX => by
   have hk := (HOP.out t htm).later (below_step HW0.out hX)
   exact rcheckC_any t X hk.ok hk.hh hk.hp hk.bp
  have HCL : Hid (t.chk = 0 -> ∀ X : World, Below W0.heap.size W0 X -> Calls Tryz.prog 34 #[t.v] X fun e w' => ∃ v', e = .returned v' /\ OwnB w' X.heap.size v' (cBm t) /\ Below X.heap.size X w') := fun h0 X hX => rclauseB_any t (by
   obtain ⟨g1, g2, g3, g4⟩ := chk_fit h0
   exact ⟨g1, g2, g3, g4⟩) X (hok.later (below_step HW0.out hX))
  have HER : Hid (t.chk ≠ 0 -> PE = t.chk) := fun h0 => by
   rw [<- HPP.out]
   have h1 : fErr R = t.chk := by
    rw [drop_cons9 ht, fErr_app9 HCK.out]
    unfold fErr
    rw [if_neg h0]
   unfold pErr
   rw [if_neg (by rw [h1]; exact h0), h1]
  have HNX : Hid (t.chk = 0 -> (∀ c ∈ R.take (j + 1), c.chk = 0) /\ be 4 (rn : Int) ++ (R.take (j + 1)).flatMap cBm = be 4 (rn : Int) ++ (R.take j).flatMap cBm ++ cBm t) := fun h0 => ⟨fun c hc => by
    rw [List.take_add_one, ht] at hc
    rcases List.mem_append.1 hc with hc | hc
    ·exact HCK.out c hc
    ·have : c = t := by simpa using hc
     rw [this]; exact h0, by rw [flat_take9 ht, List.append_assoc]⟩
  have HLE : Hid (t.chk = 0 -> 0 < (cBm t).length /\ (be 4 (rn : Int) ++ (R.take j).flatMap cBm).length + (cBm t).length <= 1000000000000) := fun h0 => by
   have h1 := flatC_le9 (l := R.take j) HCK.out
   have h2 : (cBm t).length <= 20000 := cB_len h0
   have h3 : 0 < (cBm t).length := List.length_pos_iff.2 (cB_ne t.key)
   rw [List.length_take] at h1
   refine ⟨h3, ?_⟩
   rw [List.length_append, be_len]
   omega
  obtain ⟨U, hU⟩ : ∃ U, cBm t = U := ⟨_, rfl⟩
  obtain ⟨E, hE⟩ : ∃ E, t.chk = E := ⟨_, rfl⟩
  rw [hU] at HCL HNX HLE
  rw [hE] at HKP HCL HER HNX HLE
  have hsh := hok.shape
  clear hr hok ht htm hU hE
  obtain ⟨⟨⟨⟨tk, tn, ts⟩, tm, tl⟩, tv⟩, tb, tbv, tt, ttv⟩ := t
  obtain ⟨⟨t1, t2, t3, x1⟩, ⟨t4, t6, x2⟩, ⟨t7, t9, x3⟩, -, -⟩ := hsh
  obtain ⟨t5, z5⟩ : ∃ n, n = tb.length := ⟨_, rfl⟩
  obtain ⟨t8, z8⟩ : ∃ n, n = tt.length := ⟨_, rfl⟩
  simp only at e0 e1 e2 e3 e4 e5 e6 x1 x2 x3
  rw [<- z5] at x2
  rw [<- z8] at x3
  subst x1 x2 x3
  clear z5 z8
  have HCE : Hid (∀ X : World, Below W0.heap.size W0 X -> X.cell? ⟨b, oo + j * 7, none⟩ = some (.int .i64 tk) /\ X.cell? ⟨b, oo + j * 7 + 1, none⟩ = some (.int .i64 tn) /\ X.cell? ⟨b, oo + j * 7 + 2, none⟩ = some (.string ts) /\ X.cell? ⟨b, oo + j * 7 + 3, none⟩ = some (.string tm) /\ X.cell? ⟨b, oo + j * 7 + 4, none⟩ = some (.slice t1 t2 t3) /\ X.cell? ⟨b, oo + j * 7 + 5, none⟩ = some (.slice t4 t5 t6) /\ X.cell? ⟨b, oo + j * 7 + 6, none⟩ = some (.slice t7 t8 t9)) := fun X hX => by
   have hX := below_step HW0.out hX
   exact ⟨cell_step hX hbs e0, cell_step hX hbs e1, cell_step hX hbs e2, cell_step hX hbs e3, cell_step hX hbs e4, cell_step hX hbs e5, cell_step hX hbs e6⟩
  clear e0 e1 e2 e3 e4 e5 e6
  obtain ⟨q0, q1, q2, q3, q4, q5, q6⟩ := HCE.out _ HB.out
  go_upto_region 6 with (go_at_call 33; refine (HKP.out _ HB.out).mono ?_; rintro e w3 ⟨rfl, hb⟩; have HO3 : Hid (OwnB w3 W0.heap.size (.slice ua un uc) (be 4 (rn : Int) ++ (R.take j).flatMap cBm)) := HO.out.later hb; have HB3 : Hid (Below W0.heap.size W0 w3) := below_step HB.out hb; clear hb q0 q1 q2 q3 q4 q5 q6 p0 p1)
  clear HO HB HKP
  by_cases hz : E = 0
  ·subst hz
   have HCL2 : Hid (∀ X : World, Below W0.heap.size W0 X -> Calls Tryz.prog 34 #[Cm.v ⟨(⟨⟨tk, tn, ts⟩, tm, tl⟩, .slice t1 t2 t3), tb, .slice t4 t5 t6, tt, .slice t7 t8 t9⟩] X fun e w' => ∃ v', e = .returned v' /\ OwnB w' X.heap.size v' U /\ Below X.heap.size X w') := HCL.out rfl
   have HNX2 : Hid ((∀ c ∈ R.take (j + 1), c.chk = 0) /\ be 4 (rn : Int) ++ (R.take (j + 1)).flatMap cBm = be 4 (rn : Int) ++ (R.take j).flatMap cBm ++ U) := HNX.out rfl
   have HLE2 : Hid (0 < U.length /\ (be 4 (rn : Int) ++ (R.take j).flatMap cBm).length + U.length <= 1000000000000) := HLE.out rfl
   clear HCL HNX HLE HER
   obtain ⟨q0, q1, q2, q3, q4, q5, q6⟩ := HCE.out _ HB3.out
   obtain ⟨p0, p1⟩ := ctwo (HX0.out.later HB3.out)
   go_wp2_with (first
    | (go_at_call 34; refine (HCL2.out _ HB3.out).mono ?_; rintro e w4 ⟨v4, rfl, ho, hb⟩; obtain ⟨ya, yn, yc, rfl⟩ := ownB_form ho; have HU4 : Hid (OwnB w4 w3.heap.size (.slice ya yn yc) U) := ho; have HO4 : Hid (OwnB w4 W0.heap.size (.slice ua un uc) (be 4 (rn : Int) ++ (R.take j).flatMap cBm)) := HO3.out.later hb; have HB4' : Hid (Below W0.heap.size W0 w4) := below_step HB3.out hb; clear ho hb q0 q1 q2 q3 q4 q5 q6 p0 p1)
    | (at_builtin; refine app8w rfl _ _ rfl W0.heap.size (.slice ua un uc) _ rfl HO4.out (.slice ya yn yc) _ U rfl HU4.out HLE2.out.1 HLE2.out.2 HB4'.out.size ?_; intro v5 w5 ho5))
   go_roundg g
   case measure => omega
   case rel => exact ⟨j + 1, by omega, by go_num, HNX2.out.1, by rw [HNX2.out.2]; exact ho5.own, HB4'.out.trans ho5.low⟩
  ·have h1 : (E == 0) = false := by simpa using hz
   have h2 : (E != 0) = true := by simpa using hz
   have HFK : Hid (E ≠ 0) := hz
   obtain rfl : PE = E := HER.out hz
   clear hz
   go_wp2
   refine bodyPost_ret (v := .tuple #[.slice none 0 0, .int .i64 PE]) (by simp [results, Tryz.results8, go_sem]) rfl ⟨_, rfl, ?_, HW0.out.trans (HB3.out.mono HW0.out.size)⟩
   first
    | exact bnP_nil _
    | (rw [if_neg HFK.out]; exact bnP_nil _)
 | zero =>
 obtain rfl : j = rn := by omega
 have k1 : ¬ ((j : Int) < (j : Int)) := by omega
 have hall : R.take j = R := List.take_of_length_le (by have := HRN.out; omega)
 have HF0 : Hid (fErr R = 0) := by
  have := fErr_app9 (a := R) (b := []) (fun c hc => HCK.out c (by rw [hall]; exact hc))
  rw [List.append_nil] at this
  exact this
 have hlC := flatC_le9 (l := R) (fun c hc => HCK.out c (by rw [hall]; exact hc))
 obtain ⟨Z0, hZ0⟩ : ∃ Z, be 4 (j : Int) ++ R.flatMap cBm ++ be 4 (sn : Int) = Z := ⟨_, rfl⟩
 have HZ0 : Hid (be 4 (j : Int) ++ R.flatMap cBm ++ be 4 (sn : Int) = Z0) := hZ0
 have lZ0 : Z0.length <= 50000000000 := by rw [<- hZ0]; simp only [List.length_append, be_len]; have := HRN.out; omega
 have lZ1 : (be 4 (j : Int) ++ R.flatMap cBm).length + 4 <= 1000000000000 := by simp only [List.length_append, be_len]; have := HRN.out; omega
 have HLZ1 : Hid ((be 4 (j : Int) ++ R.flatMap cBm).length + 4 <= 1000000000000) := lZ1
 have HO9 : Hid (OwnB wr W0.heap.size (.slice ua un uc) (be 4 (j : Int) ++ R.flatMap cBm)) := by have := HO.out; rw [hall] at this; exact this
 have hl4 : (be 4 (sn : Int)).length = 4 := be_len _ _
 clear hall hZ0 hlC lZ1 HO HCK HOP HR0
 go_upto_region 10 with (first
  | (go_at_call 32; refine (HB4.out _ _).mono ?_; rintro e w2 ⟨v2, rfl, ho, hb⟩; obtain ⟨ya, yn, yc, rfl⟩ := ownB_form ho; have HU2 : Hid (OwnB w2 wr.heap.size (.slice ya yn yc) (be 4 (sn : Int))) := ho; have HO2 : Hid (OwnB w2 W0.heap.size (.slice ua un uc) (be 4 (j : Int) ++ R.flatMap cBm)) := HO9.out.later hb; have HB2 : Hid (Below W0.heap.size W0 w2) := below_step HB.out hb; clear ho hb p0 p1)
  | (at_builtin; refine app8w rfl _ _ rfl W0.heap.size (.slice ua un uc) _ rfl HO2.out (.slice ya yn yc) _ (be 4 (sn : Int)) rfl HU2.out (by omega) (by rw [hl4]; exact HLZ1.out) HB2.out.size ?_; intro v3 w3 ho3; have HO3 : Hid (OwnB w3 W0.heap.size v3 Z0) := (by rw [<- HZ0.out]; exact ho3.own); have HB3 : Hid (Below W0.heap.size W0 w3) := HB2.out.trans ho3.low; clear ho3))
 clear HO9 HB HO2 HB2 HU2 k1 hj HLZ1
 go_wp2_with fail
 go_loopg [4, 7] sn (fun g u i wr => ∃ (q : Nat), q + g = sn /\ i = .int .i64 (q : Int) /\ (∀ s ∈ S.take q, wSt s = true) /\ OwnB wr W0.heap.size u (Z0 ++ (S.take q).flatMap sBm) /\ Below W0.heap.size W0 wr)
 case atStart => exact ⟨0, by omega, rfl, (fun c hc => by simp at hc), by rw [List.take_zero, List.flatMap_nil, List.append_nil]; exact HO3.out, HB3.out⟩
 case round =>
 obtain ⟨q, hq, rfl, hck, ho, hb⟩ := hrel
 obtain ⟨za, zn, zc, rfl⟩ := ownB_form ho
 have HO : Hid (OwnB wr W0.heap.size (.slice za zn zc) (Z0 ++ (S.take q).flatMap sBm)) := ho
 have HB : Hid (Below W0.heap.size W0 wr) := hb
 have HCK : Hid (∀ s ∈ S.take q, wSt s = true) := hck
 obtain ⟨p0, p1⟩ := ctwo (HX0.out.later hb)
 clear ho hb hck HO3 HB3
 cases gk with
 | succ g =>
  have i1 : (q : Int) < (sn : Int) := by omega
  have i0 : (0 : Int) <= (q : Int) := by omega
  obtain ⟨t, ht⟩ : ∃ t, S[q]? = some t := ⟨_, List.getElem?_eq_getElem (by have := HSN.out; omega)⟩
  obtain ⟨b, oo, rfl, hbs, hr, hok⟩ := HS0.out.at_ ht
  obtain ⟨d0, d1, d2⟩ := hr.three ht
  have HWS : Hid (∀ X : World, Below W0.heap.size W0 X -> Calls Tryz.prog 35 #[t.v] X fun e w' => e = .returned (.bool (wSt t)) /\ Below X.heap.size X w') := fun X hX => rstepOK_any t X (hok.later (below_step HW0.out hX))
  have HNO : Hid (wSt t = false -> PE = 63) := fun h0 => by
   rw [<- HPP.out]
   unfold pErr
   rw [if_pos HF0.out, if_neg (fun e => by have := List.all_eq_true.1 e t (List.mem_of_getElem? ht); rw [h0] at this; cases this)]
  have HYES : Hid (wSt t = true -> (∀ s ∈ S.take (q + 1), wSt s = true) /\ ((S.take q).flatMap sBm).length + (sBm t).length <= 1000000000) := fun h0 => by
   have h1 : ∀ s ∈ S.take (q + 1), wSt s = true := fun s hs => by
    rw [List.take_add_one, ht] at hs
    rcases List.mem_append.1 hs with hs | hs
    ·exact HCK.out s hs
    ·have : s = t := by simpa using hs
     rw [this]; exact h0
   have h2 := HBD.out (q + 1) h1
   rw [flat_take9 ht, List.length_append] at h2
   exact ⟨h1, h2⟩
  have HFT : Hid ((S.take (q + 1)).flatMap sBm = (S.take q).flatMap sBm ++ sBm t) := flat_take9 ht
  have HTS : Hid (Ts w t.vv t.vals) := hok.t
  have HNS : Hid (Ns w t.uv t.uses) := hok.u
  obtain ⟨⟨a1, cap1, x1⟩, ⟨a2, cap2, x2⟩, -, -⟩ := hok.shape
  have HKND : Hid (wSt t = true -> ∀ x ∈ t.vals, knd x) := fun h0 x hx => by
   unfold wSt at h0
   exact knd_con ((wOk_iff.1 h0).1 x hx)
  have HPT : Hid (sBm t = nB t.rule ++ ((be 4 (t.vals.length : Int) ++ t.vals.flatMap tB) ++ (be 4 (t.uses.length : Int) ++ t.uses.flatMap nB))) := rfl
  obtain ⟨WS, hWS⟩ : ∃ b, wSt t = b := ⟨_, rfl⟩
  rw [hWS] at HWS HNO HYES HKND
  clear hr hok ht hWS HCK
  obtain ⟨sr, sl, sv', su, sw'⟩ := t
  simp only at d0 d1 d2 x1 x2 HTS HNS HKND HPT
  subst x1 x2
  obtain ⟨ln, hln⟩ : ∃ n, n = sl.length := ⟨_, rfl⟩
  obtain ⟨lu, hlu⟩ : ∃ n, n = su.length := ⟨_, rfl⟩
  rw [<- hln] at d1 HTS HPT HWS HFT HYES
  rw [<- hlu] at d2 HNS HPT HWS HFT HYES
  have HLN' : Hid (ln = sl.length /\ lu = su.length) := ⟨hln, hlu⟩
  have z0 := cell_step (below_step HW0.out HB.out) hbs d0
  have z1 := cell_step (below_step HW0.out HB.out) hbs d1
  have z2 := cell_step (below_step HW0.out HB.out) hbs d2
  have HXB : Hid (CBlk (wr.alloc (.cells #[.int .i64 sr, .slice a1 ln cap1, .slice a2 lu cap2] 50)) wr.heap.size #[.int .i64 sr, .slice a1 ln cap1, .slice a2 lu cap2] 50) := CBlk.new _ _ _
  have HOX : Hid (OwnB (wr.alloc (.cells #[.int .i64 sr, .slice a1 ln cap1, .slice a2 lu cap2] 50)) W0.heap.size (.slice za zn zc) (Z0 ++ (S.take q).flatMap sBm)) := HO.out.later (below1 _ _)
  have HBX : Hid (Below W0.heap.size W0 (wr.alloc (.cells #[.int .i64 sr, .slice a1 ln cap1, .slice a2 lu cap2] 50))) := below_step HB.out (below1 _ _)
  clear d0 d1 d2 hln hlu
  go_upto_region 14 with fail
  clear z0 z1 z2 p0 p1 HO HB
  revert HXB HOX HBX
  generalize wr.alloc (.cells #[.int .i64 sr, .slice a1 ln cap1, .slice a2 lu cap2] 50) = X
  generalize wr.heap.size = GB
  intro HXB HOX HBX
  obtain ⟨k0, k1, k2⟩ := cthree HXB.out
  cases WS
  ·obtain rfl : PE = 63 := HNO.out rfl
   clear HNO HYES HKND HFT HPT HTS HNS
   go_wp2_with (go_at_call 35; refine (HWS.out _ HBX.out).mono ?_; rintro e w4 ⟨rfl, hb⟩; have HB4' : Hid (Below W0.heap.size W0 w4) := below_step HBX.out hb; clear hb k0 k1 k2)
   refine bodyPost_ret (v := .tuple #[.slice none 0 0, .int .i64 63]) (by simp [results, Tryz.results8, go_sem]) rfl ⟨_, rfl, ?_, HW0.out.trans (HB4'.out.mono HW0.out.size)⟩
   first
    | exact bnP_nil _
    | (rw [if_neg (by decide)]; exact bnP_nil _)
  ·have hY := HYES.out rfl
   have HY1 : Hid (∀ s ∈ S.take (q + 1), wSt s = true) := hY.1
   have HKN : Hid (∀ x ∈ sl, knd x) := HKND.out rfl
   obtain ⟨V, hV⟩ : ∃ V, sl.flatMap tB = V := ⟨_, rfl⟩
   obtain ⟨Nn, hNn⟩ : ∃ V, su.flatMap nB = V := ⟨_, rfl⟩
   obtain ⟨Y0, hY0⟩ : ∃ Y, Z0 ++ (S.take q).flatMap sBm = Y := ⟨_, rfl⟩
   rw [hY0] at HOX
   have hpt := HPT.out
   rw [hV, hNn] at hpt
   have hly : Y0.length + (sBm ⟨sr, sl, .slice a1 ln cap1, su, .slice a2 lu cap2⟩).length <= 60000000000 := by rw [<- hY0, List.length_append]; have := hY.2; omega
   rw [hpt] at hly
   simp only [List.length_append, nB_len, be_len] at hly
   have HFIN : Hid (Z0 ++ (S.take (q + 1)).flatMap sBm = Y0 ++ nB sr ++ be 4 (ln : Int) ++ V ++ be 4 (lu : Int) ++ Nn) := by
    show _ = _
    rw [HFT.out, <- List.append_assoc, hY0, hpt]
    simp only [List.append_assoc]
   have HVV : Hid (sl.flatMap tB = V) := hV
   have HNNN : Hid (su.flatMap nB = Nn) := hNn
   have hm3 : (ln : Int) % 18446744073709551616 = (ln : Int) := by have h1 := HLN'.out.1; have h2 := len_tB9 sl; rw [hV] at h2; omega
   have hm4 : (lu : Int) % 18446744073709551616 = (lu : Int) := by have h1 := HLN'.out.2; have h2 := len_nB9 su; rw [hNn] at h2; omega
   have lnb : ln <= 60000000000 := by have h1 := HLN'.out.1; have h2 := len_tB9 sl; rw [hV] at h2; omega
   have lub : lu <= 60000000000 := by have h1 := HLN'.out.2; have h2 := len_nB9 su; rw [hNn] at h2; omega
   have hn8 : (be 8 (sr % 18446744073709551616)).length = 8 := be_len _ _
   have hn4 : (be 4 (ln : Int)).length = 4 := be_len _ _
   have hn4u : (be 4 (lu : Int)).length = 4 := be_len _ _
   clear hY hpt hV hNn hY0 HYES HKND HPT HFT HNO
   have LY : Hid (Y0.length + (8 + (4 + V.length + (4 + Nn.length))) <= 60000000000) := hly
   clear hly
   go_upto_region 17 with (first
    | (go_at_call 35; refine (HWS.out _ HBX.out).mono ?_; rintro e w4 ⟨rfl, hb⟩; have HX4 : Hid (CBlk w4 GB #[.int .i64 sr, .slice a1 ln cap1, .slice a2 lu cap2] 50) := HXB.out.later hb; have HO4 : Hid (OwnB w4 W0.heap.size (.slice za zn zc) Y0) := HOX.out.later hb; have HB4' : Hid (Below W0.heap.size W0 w4) := below_step HBX.out hb; clear k0 k1 k2; obtain ⟨k0, k1, k2⟩ := cthree HX4.out; clear hb)
    | (go_at_call 32; refine (HB8.out _ _).mono ?_; rintro e w5 ⟨v5, rfl, ho, hb⟩; obtain ⟨f1, f2, f3, rfl⟩ := ownB_form ho; have HU5 : Hid (OwnB w5 w4.heap.size (.slice f1 f2 f3) (nB sr)) := ho; have HX5 : Hid (CBlk w5 GB #[.int .i64 sr, .slice a1 ln cap1, .slice a2 lu cap2] 50) := HX4.out.later hb; have HO5 : Hid (OwnB w5 W0.heap.size (.slice za zn zc) Y0) := HO4.out.later hb; have HB5 : Hid (Below W0.heap.size W0 w5) := below_step HB4'.out hb; clear k0 k1 k2 ho hb)
    | (at_builtin; refine app8w rfl _ _ rfl W0.heap.size (.slice za zn zc) Y0 rfl HO5.out (.slice f1 f2 f3) _ (nB sr) rfl HU5.out (by rw [nB_len]; omega) (by rw [nB_len]; have := LY.out; omega) HB5.out.size ?_; intro v6 w6 ho6; obtain ⟨f4, f5, f6, rfl⟩ := ownB_form ho6.own; have HO6 : Hid (OwnB w6 W0.heap.size (.slice f4 f5 f6) (Y0 ++ nB sr)) := ho6.own; have HX6 : Hid (CBlk w6 GB #[.int .i64 sr, .slice a1 ln cap1, .slice a2 lu cap2] 50) := Blk.k8 HX5.out ho6.k8 (by decide); have HB6 : Hid (Below W0.heap.size W0 w6) := HB5.out.trans ho6.low; clear ho6))
   obtain ⟨k0, k1, k2⟩ := cthree HX6.out
   go_upto_region 18 with (first
    | (go_at_call 32; refine (HB4.out _ _).mono ?_; rintro e w7 ⟨v7, rfl, ho, hb⟩; obtain ⟨f7, f8, f9, rfl⟩ := ownB_form ho; have HU7 : Hid (OwnB w7 w6.heap.size (.slice f7 f8 f9) (be 4 (ln : Int))) := ho; have HX7 : Hid (CBlk w7 GB #[.int .i64 sr, .slice a1 ln cap1, .slice a2 lu cap2] 50) := HX6.out.later hb; have HO7 : Hid (OwnB w7 W0.heap.size (.slice f4 f5 f6) (Y0 ++ nB sr)) := HO6.out.later hb; have HB7 : Hid (Below W0.heap.size W0 w7) := below_step HB6.out hb; clear k0 k1 k2 ho hb)
    | (at_builtin; refine app8w rfl _ _ rfl W0.heap.size (.slice f4 f5 f6) (Y0 ++ nB sr) rfl HO7.out (.slice f7 f8 f9) _ (be 4 (ln : Int)) rfl HU7.out (by rw [hn4]; omega) (by rw [hn4, List.length_append, nB_len]; have := LY.out; omega) HB7.out.size ?_; intro v8 w8 ho8; have HO8 : Hid (OwnB w8 W0.heap.size v8 (Y0 ++ nB sr ++ be 4 (ln : Int))) := ho8.own; have HX8 : Hid (CBlk w8 GB #[.int .i64 sr, .slice a1 ln cap1, .slice a2 lu cap2] 50) := Blk.k8 HX7.out ho8.k8 (by decide); have HB8' : Hid (Below W0.heap.size W0 w8) := HB7.out.trans ho8.low; clear ho8))
   clear HX4 HO4 HB4' HU5 HX5 HO5 HB5 HO6 HX6 HB6 HU7 HX7 HO7 HB7 HXB HOX HBX HWS
   obtain ⟨Y1, hY1⟩ : ∃ Y, Y0 ++ nB sr ++ be 4 (ln : Int) = Y := ⟨_, rfl⟩
   rw [hY1] at HO8 HFIN
   have LY1 : Hid (Y1.length + V.length + (4 + Nn.length) <= 60000000000) := by show _ <= _; rw [<- hY1]; simp only [List.length_append, nB_len, hn4]; have := LY.out; omega
   clear hY1 LY
   go_wp2_with fail
   go_loopg [4, 9] ln (fun g u i wr => ∃ (m : Nat), m + g = ln /\ i = .int .i64 (m : Int) /\ OwnB wr W0.heap.size u (Y1 ++ (sl.take m).flatMap tB) /\ CBlk wr GB #[.int .i64 sr, .slice a1 ln cap1, .slice a2 lu cap2] 50 /\ Below W0.heap.size W0 wr)
   case atStart => exact ⟨0, by omega, rfl, by rw [List.take_zero, List.flatMap_nil, List.append_nil]; exact HO8.out, HX8.out, HB8'.out⟩
   case round =>
   obtain ⟨m, hm, rfl, ho, hx9, hb⟩ := hrel
   obtain ⟨y1, y2, y3, rfl⟩ := ownB_form ho
   have HOm : Hid (OwnB wr W0.heap.size (.slice y1 y2 y3) (Y1 ++ (sl.take m).flatMap tB)) := ho
   have HXm : Hid (CBlk wr GB #[.int .i64 sr, .slice a1 ln cap1, .slice a2 lu cap2] 50) := hx9
   have HBm : Hid (Below W0.heap.size W0 wr) := hb
   obtain ⟨k0, k1, k2⟩ := cthree hx9
   clear ho hx9 hb HO8 HX8 HB8'
   cases gk with
   | succ g3 =>
    have i3 : (m : Int) < (ln : Int) := by omega
    have i4 : (0 : Int) <= (m : Int) := by omega
    obtain ⟨x, hx⟩ : ∃ x, sl[m]? = some x := ⟨_, List.getElem?_eq_getElem (by have := HLN'.out.1; omega)⟩
    obtain ⟨ad', cap', ex, -, hxx⟩ := HTS.out
    simp only [Value.slice.injEq] at ex
    obtain ⟨rfl, -, rfl⟩ := ex
    obtain ⟨b1, o1, rfl, hb1, hxx⟩ : ∃ b1 o1, a1 = some ⟨b1, o1, none⟩ /\ TRow w b1 o1 sl := by
     rcases hxx with hxx | h
     ·rw [hxx] at hx; simp at hx
     ·exact h
    obtain ⟨c0, c1, c2⟩ := hxx m _ hx
    have e0 := cell_step (below_step HW0.out HBm.out) hb1 c0
    have e1 := cell_step (below_step HW0.out HBm.out) hb1 c1
    have e2 := cell_step (below_step HW0.out HBm.out) hb1 c2
    have HTB : Hid (∀ X : World, Calls Tryz.prog 36 #[x.v] X fun e w' => ∃ v', e = .returned v' /\ OwnB w' X.heap.size v' (tB x) /\ Below X.heap.size X w') := fun X => rterm_any x (HKN.out x (List.mem_of_getElem? hx)) X
    have HFX : Hid (Y1 ++ (sl.take (m + 1)).flatMap tB = Y1 ++ (sl.take m).flatMap tB ++ tB x) := by show _ = _; rw [flat_take9 hx, List.append_assoc]
    have HLX : Hid (0 < (tB x).length /\ (Y1 ++ (sl.take m).flatMap tB).length + (tB x).length <= 1000000000000) := by
     have h1 := flat_le9 (f := tB) sl (m + 1)
     rw [flat_take9 hx, List.length_append, HVV.out] at h1
     have h2 := LY1.out
     refine ⟨(tB_len x).1, ?_⟩
     rw [List.length_append]
     omega
    obtain ⟨U, hU⟩ : ∃ U, tB x = U := ⟨_, rfl⟩
    rw [hU] at HTB HFX HLX
    clear hU hx hxx c0 c1 c2
    obtain ⟨xk, xn, xs⟩ := x
    simp only at e0 e1 e2
    go_wp2_with (first
     | (go_at_call 36; refine (HTB.out _).mono ?_; rintro e w9 ⟨v9, rfl, ho, hb⟩; obtain ⟨g1, g2, g3', rfl⟩ := ownB_form ho; have HU9 : Hid (OwnB w9 wr.heap.size (.slice g1 g2 g3') U) := ho; have HX9 : Hid (CBlk w9 GB _ 50) := HXm.out.later hb; have HO9 : Hid (OwnB w9 W0.heap.size (.slice y1 y2 y3) (Y1 ++ (sl.take m).flatMap tB)) := HOm.out.later hb; have HB9 : Hid (Below W0.heap.size W0 w9) := below_step HBm.out hb; clear ho hb k0 k1 k2 e0 e1 e2)
     | (at_builtin; refine app8w rfl _ _ rfl W0.heap.size (.slice y1 y2 y3) _ rfl HO9.out (.slice g1 g2 g3') _ U rfl HU9.out HLX.out.1 HLX.out.2 HB9.out.size ?_; intro v10 w10 ho10))
    go_roundg g3
    case measure => omega
    case rel => exact ⟨m + 1, by omega, by go_num, by rw [HFX.out]; exact ho10.own, Blk.k8 HX9.out ho10.k8 (by decide), HB9.out.trans ho10.low⟩
   | zero =>
   obtain rfl : m = ln := by omega
   have k9 : ¬ ((m : Int) < (m : Int)) := by omega
   have HOV : Hid (OwnB wr W0.heap.size (.slice y1 y2 y3) (Y1 ++ V)) := by
    have := HOm.out
    rwa [List.take_of_length_le (by have := HLN'.out.1; omega), HVV.out] at this
   have LY2 : Hid ((Y1 ++ V).length + 4 + Nn.length <= 60000000000) := by show _ <= _; rw [List.length_append]; have := LY1.out; omega
   clear HOm hm
   generalize hwr : wr = Wv at *
   clear hwr
   go_upto_region 23 with (first
    | (go_at_call 32; refine (HB4.out _ _).mono ?_; rintro e w11 ⟨v11, rfl, ho, hb⟩; obtain ⟨g1, g2, g3', rfl⟩ := ownB_form ho; have HU11 : Hid (OwnB w11 Wv.heap.size (.slice g1 g2 g3') (be 4 (lu : Int))) := ho; have HX11 : Hid (CBlk w11 GB #[.int .i64 sr, .slice a1 m cap1, .slice a2 lu cap2] 50) := HXm.out.later hb; have HO11 : Hid (OwnB w11 W0.heap.size (.slice y1 y2 y3) (Y1 ++ V)) := HOV.out.later hb; have HB11 : Hid (Below W0.heap.size W0 w11) := below_step HBm.out hb; clear k0 k1 k2 ho hb)
    | (at_builtin; refine app8w rfl _ _ rfl W0.heap.size (.slice y1 y2 y3) _ rfl HO11.out (.slice g1 g2 g3') _ (be 4 (lu : Int)) rfl HU11.out (by rw [hn4u]; omega) (by rw [hn4u]; have := LY2.out; omega) HB11.out.size ?_; intro v12 w12 ho12; have HO12 : Hid (OwnB w12 W0.heap.size v12 (Y1 ++ V ++ be 4 (lu : Int))) := ho12.own; have HX12 : Hid (CBlk w12 GB #[.int .i64 sr, .slice a1 m cap1, .slice a2 lu cap2] 50) := Blk.k8 HX11.out ho12.k8 (by decide); have HB12 : Hid (Below W0.heap.size W0 w12) := HB11.out.trans ho12.low; clear ho12))
   clear HU11 HX11 HO11 HB11 HOV HXm HBm k9 HTS HKN HVV LY1
   obtain ⟨Y2, hY2⟩ : ∃ Y, Y1 ++ V ++ be 4 (lu : Int) = Y := ⟨_, rfl⟩
   rw [hY2] at HO12 HFIN
   have LY3 : Hid (Y2.length + Nn.length <= 60000000000) := by show _ <= _; rw [<- hY2, List.length_append, hn4u]; have := LY2.out; omega
   clear hY2 LY2
   go_wp2_with fail
   go_loopg [4, 10] lu (fun g u i wr => ∃ (l : Nat), l + g = lu /\ i = .int .i64 (l : Int) /\ OwnB wr W0.heap.size u (Y2 ++ (su.take l).flatMap nB) /\ CBlk wr GB #[.int .i64 sr, .slice a1 m cap1, .slice a2 lu cap2] 50 /\ Below W0.heap.size W0 wr)
   case atStart => exact ⟨0, by omega, rfl, by rw [List.take_zero, List.flatMap_nil, List.append_nil]; exact HO12.out, HX12.out, HB12.out⟩
   case round =>
   obtain ⟨l, hl, rfl, ho, hx9, hb⟩ := hrel
   obtain ⟨y1, y2, y3, rfl⟩ := ownB_form ho
   have HOm : Hid (OwnB wr W0.heap.size (.slice y1 y2 y3) (Y2 ++ (su.take l).flatMap nB)) := ho
   have HXm : Hid (CBlk wr GB #[.int .i64 sr, .slice a1 m cap1, .slice a2 lu cap2] 50) := hx9
   have HBm : Hid (Below W0.heap.size W0 wr) := hb
   obtain ⟨k0, k1, k2⟩ := cthree hx9
   clear ho hx9 hb HO12 HX12 HB12
   cases gk with
   | succ g3 =>
    have i3 : (l : Int) < (lu : Int) := by omega
    have i4 : (0 : Int) <= (l : Int) := by omega
    obtain ⟨x, hx⟩ : ∃ x, su[l]? = some x := ⟨_, List.getElem?_eq_getElem (by have := HLN'.out.2; omega)⟩
    obtain ⟨ad', cap', ex, -, hxx⟩ := HNS.out
    simp only [Value.slice.injEq] at ex
    obtain ⟨rfl, -, rfl⟩ := ex
    obtain ⟨b1, o1, rfl, hb1, hxx⟩ : ∃ b1 o1, a2 = some ⟨b1, o1, none⟩ /\ b1 < w.heap.size /\ ∀ (i : Nat) (x : Int), su[i]? = some x -> w.cell? ⟨b1, o1 + i, none⟩ = some (.int .i64 x) := by
     rcases hxx with hxx | h
     ·rw [hxx] at hx; simp at hx
     ·exact h
    have e0 := cell_step (below_step HW0.out HBm.out) hb1 (hxx l _ hx)
    have HFX : Hid (Y2 ++ (su.take (l + 1)).flatMap nB = Y2 ++ (su.take l).flatMap nB ++ nB x) := by show _ = _; rw [flat_take9 hx, List.append_assoc]
    have HLX : Hid (0 < (nB x).length /\ (Y2 ++ (su.take l).flatMap nB).length + (nB x).length <= 1000000000000) := by
     have h1 := flat_le9 (f := nB) su (l + 1)
     rw [flat_take9 hx, List.length_append, HNNN.out] at h1
     have h2 := LY3.out
     refine ⟨by rw [nB_len]; omega, ?_⟩
     rw [List.length_append]
     omega
    clear hx hxx
    go_wp2_with (first
     | (go_at_call 32; refine (HB8.out _ _).mono ?_; rintro e w9 ⟨v9, rfl, ho, hb⟩; obtain ⟨g1, g2, g3', rfl⟩ := ownB_form ho; have HU9 : Hid (OwnB w9 wr.heap.size (.slice g1 g2 g3') (nB x)) := ho; have HX9 : Hid (CBlk w9 GB _ 50) := HXm.out.later hb; have HO9 : Hid (OwnB w9 W0.heap.size (.slice y1 y2 y3) (Y2 ++ (su.take l).flatMap nB)) := HOm.out.later hb; have HB9 : Hid (Below W0.heap.size W0 w9) := below_step HBm.out hb; clear ho hb k0 k1 k2 e0)
     | (at_builtin; refine app8w rfl _ _ rfl W0.heap.size (.slice y1 y2 y3) _ rfl HO9.out (.slice g1 g2 g3') _ (nB x) rfl HU9.out HLX.out.1 HLX.out.2 HB9.out.size ?_; intro v10 w10 ho10))
    go_roundg g3
    case measure => omega
    case rel => exact ⟨l + 1, by omega, by go_num, by rw [HFX.out]; exact ho10.own, Blk.k8 HX9.out ho10.k8 (by decide), HB9.out.trans ho10.low⟩
   | zero =>
   obtain rfl : l = lu := by omega
   have k9 : ¬ ((l : Int) < (l : Int)) := by omega
   have HOE : Hid (OwnB wr W0.heap.size (.slice y1 y2 y3) (Z0 ++ (S.take (q + 1)).flatMap sBm)) := by
    have := HOm.out
    rw [List.take_of_length_le (by have := HLN'.out.2; omega), HNNN.out] at this
    show OwnB _ _ _ _
    rw [HFIN.out]
    exact this
   clear HOm hl
   go_wp2_with fail
   go_roundg g
   case measure => omega
   case rel => exact ⟨q + 1, by omega, by go_num, HY1.out, HOE.out, HBm.out⟩
 | zero =>
 obtain rfl : q = sn := by omega
 have k1 : ¬ ((q : Int) < (q : Int)) := by omega
 have hall : S.take q = S := List.take_of_length_le (by have := HSN.out; omega)
 obtain rfl : PE = 0 := by
  rw [<- HPP.out]
  unfold pErr
  rw [if_pos HF0.out, if_pos (List.all_eq_true.2 (fun s hs => HCK.out s (by rw [hall]; exact hs)))]
 have HBY : Hid (Z0 ++ (S.take q).flatMap sBm = pB R S) := by
  show _ = _
  rw [hall, <- HZ0.out]
  unfold pB
  rw [<- HRN.out, <- HSN.out]
  simp only [List.append_assoc]
 have HLN : Hid ((pB R S).length < 1000000000000000000) := by
  have h1 := HBD.out q HCK.out
  show _ < _
  rw [<- HBY.out, List.length_append]
  omega
 clear hall
 go_wp2
 refine bodyPost_ret (v := .tuple #[.slice za zn zc, .int .i64 0]) (by simp [results, Tryz.results8, go_sem]) rfl ⟨_, rfl, ?_, HW0.out.trans (HB.out.mono HW0.out.size)⟩
 have hfin : Bn wr (.slice za zn zc) (pB R S) := by rw [<- HBY.out]; exact HO.out.bn (by rw [HBY.out]; exact HLN.out)
 first
  | exact hfin
  | (rw [if_pos rfl]; exact hfin)
end Go.Proofs.YtmbmchbninlhpaaGreatDoor
