/-
  ref 9: has, columns, known, better, testVars, within.
-/
import Derived.Test.YtgbiicmkhlnniaaGreatDoorFC3
namespace Go.Proofs.YtgbiicmkhlnniaaGreatDoor
open Go.RowKit
attribute [local go_sem ↓] Go.wp_at_zero Go.wp_at_succ

theorem take_no9 {l : List Int} {j : Nat} {n x : Int} (h : ¬ n ∈ l.take j) (hx : l[j]? = some x) (hn : ¬ x = n) : ¬ n ∈ l.take (j + 1) := fun e => by
  rw [List.take_add_one, hx, Option.toList_some, List.mem_append, List.mem_singleton] at e
  rcases e with e | e
  · exact h e
  · exact hn e.symm
set_option maxRecDepth 20000 in
set_option maxHeartbeats 1000000 in
theorem has9_any (B : Nat) (v : Value) (l : List Int) (n : Int) (w : World) (h : OwI w B v l) (hl : l.length ≤ 1000000) : Calls Tryz.prog 17 #[v, .int .i64 n] w fun e w' => e = .returned (.bool (decide (n ∈ l))) ∧ w' = w := by
  obtain ⟨a, c, rfl, -⟩ := row7_form h
  have H := hm7 h
  obtain ⟨b, hb⟩ : ∃ b, decide (n ∈ l) = b := ⟨_, rfl⟩
  rw [hb]
  have HB := hm7 hb
  obtain ⟨ln, hln⟩ : ∃ ln, l.length = ln := ⟨_, rfl⟩
  have H1 : Hid (w.ownsRow B 3 1 (.slice a ln c) ln (ibs7 l)) := by have := h; unfold OwI at this; rw [hln] at this; exact this
  rw [hln] at hl ⊢
  have HLN := hm7 hln
  clear h hb hln H
  go_enter Tryz.func17, Tryz.ntmps17
  go_wp2
  go_loopg [5] ln (fun gg i wr => ∃ j : Nat, j + gg = ln ∧ i = .int .i64 j ∧ ¬ n ∈ l.take j ∧ wr = w)
  case atStart => exact ⟨0, by omega, rfl, by simp, rfl⟩
  case round =>
    obtain ⟨j, hj, rfl, hno, rfl⟩ := hrel
    have HNO := hm7 hno
    clear hno
    cases gk with
    | succ gg =>
      obtain ⟨x, hx⟩ : ∃ x, l[j]? = some x := ⟨l[j]'(by have := HLN.out; omega), List.getElem?_eq_getElem _⟩
      have HX := hm7 hx
      obtain ⟨g, rfl, -, hg, hc, -⟩ := row7_at (i := j) (u := .int .i64 x) H1.out (by unfold ibs7; rw [List.getElem?_map, hx]; rfl)
      have hlt : (j : Int) < (ln : Int) := by omega
      clear hx
      by_cases e : x = n
      · subst e
        have ht : b = true := by rw [← HB.out]; exact decide_eq_true (List.mem_of_getElem? HX.out)
        subst ht
        go_wp2
        go_ret
        exact ⟨rfl, rfl⟩
      · have e1 : (x == n) = false := by simp [e]
        go_wp2
        go_roundg gg
        case measure => omega
        case rel => exact ⟨j + 1, by omega, by go_num, take_no9 HNO.out HX.out e, rfl⟩
    | zero =>
      have hlt : ¬ (j : Int) < (ln : Int) := by omega
      have ht : b = false := by
        rw [← HB.out]
        refine decide_eq_false fun e => HNO.out ?_
        rw [List.take_of_length_le (by have := HLN.out; omega)]; exact e
      subst ht
      go_wp2
      go_ret
      exact ⟨rfl, rfl⟩
set_option maxHeartbeats 2000000 in
theorem columns9R_any (x : At) (v : Value) (w : World) (h : TsP w v x.args) (hl : x.args.length ≤ 3900000000000) :
    Calls Tryz.prog 37 #[x.v v] w fun e w' => ∃ v', e = .returned v' ∧ OwnT w' w.heap.size v' x.pl ∧ Below w.heap.size w w' := by
  have hb2 := below2 w (.cells (At.cs x v) 26) (.cells #[.int .i64 x.by_.k, .int .i64 x.by_.n, .string x.by_.s] 23)
  have g1 := CBlk.new (w.alloc (.cells (At.cs x v) 26)) #[.int .i64 x.by_.k, .int .i64 x.by_.n, .string x.by_.s] 23
  rw [show (w.alloc (.cells (At.cs x v) 26)).heap.size = w.heap.size + 1 by simp] at g1
  have H1 : Hid _ := OwnT.one g1 (show w.heap.size ≤ w.heap.size + 1 by omega)
  have H2 : Hid _ := h.later hb2
  have HB : Hid _ := hb2
  clear hb2 g1 h
  obtain ⟨⟨k, n, ss⟩, nm, l⟩ := x
  simp only [At.cs] at H1 H2 HB hl
  simp only [At.pl]
  go_enter Tryz.func37, Tryz.ntmps37
  go_wp2_with (at_builtin; refine app_terms rfl _ _ rfl w.heap.size (.slice (some ⟨w.heap.size + 1, 0, none⟩) 1 1) [⟨k, n, ss⟩] (by rfl) H1.out v l (by rfl) H2.out (by simp; omega) (by simp; omega) ?_; intro v' w1 hown hb hg)
  go_ret
  exact ⟨_, rfl, hown, HB.out.trans hb⟩
/-- Is the term known, with these variables? -/
def kt9 (vs : List Int) (t : Tm) : Bool := !(t.k == 3) || decide (t.n ∈ vs)
def kr9 (vs : List Int) (P : List Tm) : Nat → List Int
  | 0 => []
  | j + 1 => kr9 vs P j ++ if (P[j]?.map (kt9 vs)).getD false = true then [(j : Int)] else []
theorem kr9_len (vs : List Int) (P : List Tm) (j : Nat) : (kr9 vs P j).length ≤ j := by
  induction j with
  | zero => simp [kr9]
  | succ j ih => rw [kr9, List.length_append]; split <;> simp <;> omega
set_option maxRecDepth 20000 in
set_option maxHeartbeats 2000000 in
theorem known9R_any (x : At) (v lv : Value) (vs : List Int) (B : Nat) (w : World) (h : TsP w v x.args) (hl : x.args.length ≤ 1000000) (hv : OwI w B lv vs) (hvl : vs.length ≤ 1000000) :
    Calls Tryz.prog 19 #[x.v v, lv] w fun e w' => ∃ v', e = .returned v' ∧ OwI w' w.heap.size v' (kr9 vs x.pl x.pl.length) ∧ Below w.heap.size w w' := by
  have HCO : Hid (∀ X : World, Below w.heap.size w X → Calls Tryz.prog 37 #[x.v v] X fun e w' => ∃ v', e = .returned v' ∧ OwnT w' X.heap.size v' x.pl ∧ Below X.heap.size X w') := fun X hX => columns9R_any x v X (h.later hX) (by omega)
  have HV := hm7 hv
  have hpl : x.pl.length ≤ 1000001 := by simp [At.pl]; omega
  have hpp : 0 < x.pl.length := by simp [At.pl]
  obtain ⟨P, hP⟩ : ∃ P, x.pl = P := ⟨_, rfl⟩
  rw [hP] at HCO hpl hpp ⊢
  obtain ⟨pn, hpn⟩ : ∃ pn, P.length = pn := ⟨_, rfl⟩
  rw [hpn] at hpl hpp ⊢
  have HPN := hm7 hpn
  have b0 := Bk.new w (At.cs x v) 26
  have hb0 := below1 w (.cells (At.cs x v) 26)
  obtain ⟨la, lc, hlf, -⟩ := row7_form hv
  obtain ⟨ln, hln⟩ : ∃ ln, vs.length = ln := ⟨_, rfl⟩
  rw [hln] at hlf
  subst hlf
  clear hP hpn h hv hln
  obtain ⟨⟨k, n, ss⟩, nm, l⟩ := x
  simp only [At.cs] at b0 hb0
  obtain ⟨Y0, hY0⟩ : ∃ Y0, w.alloc (.cells #[.int .i64 k, .int .i64 n, .string ss, .string nm, v] 26) = Y0 := ⟨_, rfl⟩
  rw [hY0] at b0 hb0
  have HB0 := hm7 hb0
  have HBK := hm7 b0
  obtain ⟨q, hq⟩ : ∃ q, w.heap.size = q := ⟨_, rfl⟩
  have HQ := hm7 hq
  have HY0 := hm7 hY0
  clear hq hY0 b0 hb0
  go_enter Tryz.func19, Tryz.ntmps19
  go_upto_region 1 with fail
  rw [HY0.out]
  clear HY0
  have d0 := HBK.out.cell (i := 0) rfl
  have d1 := HBK.out.cell (i := 1) rfl
  have d2 := HBK.out.cell (i := 2) rfl
  have d3 := HBK.out.cell (i := 3) rfl
  have d4 := HBK.out.cell (i := 4) rfl
  go_wp2_with (go_at_call 37; refine (HCO.out _ HB0.out).mono ?_; rintro e W1 ⟨tv, rfl, ho, hb⟩; obtain ⟨tb, tc, rfl, htb, htl⟩ := World.ownsRow.form ho (by rw [HPN.out]; exact hpp); rw [HPN.out] at ho; have HO := hm7 ho; have HW1 := hm7 (HB0.out.trans (hb.mono HB0.out.size)); clear ho hb htb d0 d1 d2 d3 d4)
  rw [HPN.out]
  have HHS : Hid (∀ (n : Int) (X : World), Below W1.heap.size W1 X → Calls Tryz.prog 17 #[.slice la ln lc, .int .i64 n] X fun e w' => e = .returned (.bool (decide (n ∈ vs))) ∧ w' = X) := fun n X hX => has9_any B _ vs n X (row7_below HV.out (HW1.out.trans (hX.mono HW1.out.size))) hvl
  go_loopg [6, 7] pn (fun gg u i wr => ∃ j : Nat, j + gg = pn ∧ i = .int .i64 j ∧ OwI wr W1.heap.size u (kr9 vs P j) ∧ Below W1.heap.size W1 wr)
  case atStart => exact ⟨0, by omega, rfl, OwI.nil _ _, Below.refl _ _⟩
  case round =>
    obtain ⟨j, hj, rfl, ho, hb⟩ := hrel
    have HO3 := hm7 ho
    have HB := hm7 hb
    cases gk with
    | succ gg =>
      obtain ⟨t, ht⟩ : ∃ t, P[j]? = some t := ⟨P[j]'(by have := HPN.out; omega), List.getElem?_eq_getElem _⟩
      have HKR : Hid (kr9 vs P (j + 1) = kr9 vs P j ++ if kt9 vs t = true then [(j : Int)] else []) := by show _ = _; rw [kr9, ht]; rfl
      obtain ⟨c0, c1, -⟩ := ownT_cells HO.out j t ht
      have c0 := cell_step hb htl c0
      have c1 := cell_step hb htl c1
      have htw : tb < wr.heap.size := Nat.lt_of_lt_of_le htl hb.size
      obtain ⟨va, vc, hvf, -⟩ := row7_form ho
      obtain ⟨m, hm⟩ : ∃ m, (kr9 vs P j).length = m := ⟨_, rfl⟩
      have hmj : m ≤ j := by rw [← hm]; exact kr9_len _ _ _
      rw [hm] at hvf
      subst hvf
      have HO1 : Hid (wr.ownsRow W1.heap.size 3 1 (.slice va m vc) m (ibs7 (kr9 vs P j))) := by have := HO3.out; unfold OwI at this; rw [hm] at this; exact this
      have HM := hm7 hm
      have hz := hb.size
      have hlt : (j : Int) < (pn : Int) := by omega
      have HH := hm7 (HHS.out t.n wr hb)
      have HKT : Hid (kt9 vs t = (!(t.k == 3) || decide (t.n ∈ vs))) := rfl
      obtain ⟨tk, tn, ts⟩ := t
      simp only at c0 c1 HH HKT
      obtain ⟨bh, hbh⟩ : ∃ bh, decide (tn ∈ vs) = bh := ⟨_, rfl⟩
      rw [hbh] at HH HKT
      clear ho hb ht hm hbh
      by_cases k3 : tk = 3
      · subst k3
        cases bh with
        | true =>
          have HK1 : Hid (kt9 vs ⟨3, tn, ts⟩ = true) := HKT.out
          go_wp2_with (first
            | (go_at_call 17; refine HH.out.mono ?_; rintro e w1 ⟨rfl, hw⟩; rw [hw]; clear hw w1)
            | (at_builtin; refine gapp Tryz.underlying32 Tryz.infoInt7 rfl (by omega) rfl _ _ rfl W1.heap.size (.slice va m vc) m (ibs7 (kr9 vs P j)) rfl (row7_below HO1.out (below1 _ _)) wr.heap.size (.int .i64 (j : Int)) rfl (Bk.new _ _ _) rfl (by omega) (by simp; omega) ?_; intro g2 q2 w2 ho2 hg2 hv2 hl2; have HO2 := hm7 ho2; have HB2 := hm7 (HB.out.trans (((below1 _ _).mono hz).trans (Fr.low (Fr.grown hg2 fun b hb => (World.ownsRow.lt HO1.out b hb).1) (by simp; omega)))); clear ho2 hg2 hv2 hl2))
          go_roundg gg
          case measure => omega
          case rel => exact ⟨j + 1, by omega, by go_num, by rw [HKR.out, if_pos HK1.out]; exact OwI.snoc9 HM.out.symm HO2.out, HB2.out⟩
        | false =>
          have HK1 : Hid (kt9 vs ⟨3, tn, ts⟩ = false) := HKT.out
          go_wp2_with (go_at_call 17; refine HH.out.mono ?_; rintro e w1 ⟨rfl, hw⟩; rw [hw]; clear hw w1)
          go_roundg gg
          case measure => omega
          case rel => exact ⟨j + 1, by omega, by go_num, by rw [HKR.out, if_neg (by rw [HK1.out]; simp), List.append_nil]; exact HO3.out, HB.out⟩
      · have k1 : (tk == 3) = false := by simp [k3]
        have k2 : (tk != 3) = true := by simp [k3]
        have HK1 : Hid (kt9 vs ⟨tk, tn, ts⟩ = true) := by show _ = _; rw [HKT.out, k1]; rfl
        go_wp2_with (at_builtin; refine gapp Tryz.underlying32 Tryz.infoInt7 rfl (by omega) rfl _ _ rfl W1.heap.size (.slice va m vc) m (ibs7 (kr9 vs P j)) rfl (row7_below HO1.out (below1 _ _)) wr.heap.size (.int .i64 (j : Int)) rfl (Bk.new _ _ _) rfl (by omega) (by simp; omega) ?_; intro g2 q2 w2 ho2 hg2 hv2 hl2; have HO2 := hm7 ho2; have HB2 := hm7 (HB.out.trans (((below1 _ _).mono hz).trans (Fr.low (Fr.grown hg2 fun b hb => (World.ownsRow.lt HO1.out b hb).1) (by simp; omega)))); clear ho2 hg2 hv2 hl2)
        go_roundg gg
        case measure => omega
        case rel => exact ⟨j + 1, by omega, by go_num, by rw [HKR.out, if_pos HK1.out]; exact OwI.snoc9 HM.out.symm HO2.out, HB2.out⟩
    | zero =>
      have hlt : ¬ (j : Int) < (pn : Int) := by omega
      obtain rfl : j = pn := by omega
      have hz1 := HW1.out.size
      clear ho hb
      go_wp2
      go_ret
      exact ⟨_, rfl, HO3.out.mono hz1, HW1.out.trans (HB.out.mono hz1)⟩
/-- Is x ahead of y? -/
def be9 (vs : List Int) (x y : At) : Bool := if (kr9 vs x.pl x.pl.length).length = (kr9 vs y.pl y.pl.length).length then decide (x.args.length < y.args.length) else decide ((kr9 vs y.pl y.pl.length).length < (kr9 vs x.pl x.pl.length).length)
set_option maxRecDepth 20000 in
set_option maxHeartbeats 2000000 in
theorem better9_any (x y : At) (xv yv lv : Value) (vs : List Int) (B : Nat) (w : World) (hx : TsP w xv x.args) (hy : TsP w yv y.args) (hxl : x.args.length ≤ 1000000) (hyl : y.args.length ≤ 1000000) (hv : OwI w B lv vs) (hvl : vs.length ≤ 1000000) :
    Calls Tryz.prog 18 #[x.v xv, y.v yv, lv] w fun e w' => e = .returned (.bool (be9 vs x y)) ∧ Below w.heap.size w w' := by
  have HKX : Hid (∀ X : World, Below w.heap.size w X → Calls Tryz.prog 19 #[x.v xv, lv] X fun e w' => ∃ v', e = .returned v' ∧ OwI w' X.heap.size v' (kr9 vs x.pl x.pl.length) ∧ Below X.heap.size X w') := fun X hX => known9R_any x xv lv vs B X (hx.later hX) hxl (row7_below hv hX) hvl
  have HKY : Hid (∀ X : World, Below w.heap.size w X → Calls Tryz.prog 19 #[y.v yv, lv] X fun e w' => ∃ v', e = .returned v' ∧ OwI w' X.heap.size v' (kr9 vs y.pl y.pl.length) ∧ Below X.heap.size X w') := fun X hX => known9R_any y yv lv vs B X (hy.later hX) hyl (row7_below hv hX) hvl
  have hxk := kr9_len vs x.pl x.pl.length
  have hyk := kr9_len vs y.pl y.pl.length
  rw [show x.pl.length = x.args.length + 1 by simp [At.pl]] at hxk
  rw [show y.pl.length = y.args.length + 1 by simp [At.pl]] at hyk
  have HXS : Hid (∃ a c, xv = .slice a x.args.length c) := by obtain ⟨a, c, h⟩ := hx.shape; exact ⟨a, c, h⟩
  have HYS : Hid (∃ a c, yv = .slice a y.args.length c) := by obtain ⟨a, c, h⟩ := hy.shape; exact ⟨a, c, h⟩
  obtain ⟨xa, xc, rfl⟩ := HXS.out
  obtain ⟨ya, yc, rfl⟩ := HYS.out
  have HBE : Hid (be9 vs x y = if (kr9 vs x.pl x.pl.length).length = (kr9 vs y.pl y.pl.length).length then decide (x.args.length < y.args.length) else decide ((kr9 vs y.pl y.pl.length).length < (kr9 vs x.pl x.pl.length).length)) := rfl
  obtain ⟨b, hb⟩ : ∃ b, be9 vs x y = b := ⟨_, rfl⟩
  rw [hb] at HBE ⊢
  rw [show x.pl.length = x.args.length + 1 by simp [At.pl]] at HBE HKX
  rw [show y.pl.length = y.args.length + 1 by simp [At.pl]] at HBE HKY
  obtain ⟨KX, hKX⟩ : ∃ K, kr9 vs x.pl (x.args.length + 1) = K := ⟨_, rfl⟩
  obtain ⟨KY, hKY⟩ : ∃ K, kr9 vs y.pl (y.args.length + 1) = K := ⟨_, rfl⟩
  rw [hKX] at HBE HKX hxk
  rw [hKY] at HBE HKY hyk
  clear hKX hKY hb hx hy hv HXS HYS
  have p := two8 w (At.cs x (.slice xa x.args.length xc)) (At.cs y (.slice ya y.args.length yc)) 26 26
  obtain ⟨⟨xk, xm, xs⟩, xnm, xl⟩ := x
  obtain ⟨⟨yk, ym, ys⟩, ynm, yl⟩ := y
  simp only [At.cs] at p hxl hyl hxk hyk HBE HKX HKY
  generalize xl.length = xn at *
  generalize yl.length = yn at *
  obtain ⟨p1, p0, hb0⟩ := p
  obtain ⟨Y0, hY0⟩ : ∃ Y0, (w.alloc (.cells #[.int .i64 xk, .int .i64 xm, .string xs, .string xnm, .slice xa xn xc] 26)).alloc (.cells #[.int .i64 yk, .int .i64 ym, .string ys, .string ynm, .slice ya yn yc] 26) = Y0 := ⟨_, rfl⟩
  rw [hY0] at p1 p0 hb0
  have HY0 := hm7 hY0
  have HB0 := hm7 hb0
  have HP0 := hm7 p0
  have HP1 := hm7 p1
  clear hY0 hb0 p0 p1
  go_enter Tryz.func18, Tryz.ntmps18
  go_upto_region 1 with fail
  rw [HY0.out]
  clear HY0
  have d0 := HP0.out.cell (i := 0) rfl
  have d1 := HP0.out.cell (i := 1) rfl
  have d2 := HP0.out.cell (i := 2) rfl
  have d3 := HP0.out.cell (i := 3) rfl
  have d4 := HP0.out.cell (i := 4) rfl
  go_upto_region 2 with (go_at_call 19; refine (HKX.out _ HB0.out).mono ?_; rintro e W1 ⟨v1, rfl, ho, hb⟩; obtain ⟨va, vc, rfl, -⟩ := row7_form ho; have HW1 := hm7 (HB0.out.trans (hb.mono HB0.out.size)); have HQ0 := hm7 (HP0.out.below hb); have HQ1 := hm7 (HP1.out.below hb); clear ho hb d0 d1 d2 d3 d4)
  have d0 := HQ1.out.cell (i := 0) rfl
  have d1 := HQ1.out.cell (i := 1) rfl
  have d2 := HQ1.out.cell (i := 2) rfl
  have d3 := HQ1.out.cell (i := 3) rfl
  have d4 := HQ1.out.cell (i := 4) rfl
  go_upto_region 3 with (go_at_call 19; refine (HKY.out _ HW1.out).mono ?_; rintro e W2 ⟨v2, rfl, ho, hb⟩; obtain ⟨ua, uc, rfl, -⟩ := row7_form ho; have HW2 := hm7 (HW1.out.trans (hb.mono HW1.out.size)); have HR0 := hm7 (HQ0.out.below hb); have HR1 := hm7 (HQ1.out.below hb); clear ho hb d0 d1 d2 d3 d4)
  have d4 := HR0.out.cell (i := 4) rfl
  have f4 := HR1.out.cell (i := 4) rfl
  generalize KX.length = kx at *
  generalize KY.length = ky at *
  by_cases e : kx = ky
  · subst e
    have hbb : b = decide (xn < yn) := by rw [HBE.out, if_pos rfl]
    by_cases e2 : xn < yn
    · have hbt : b = true := by rw [hbb]; simp [e2]
      clear hbb HBE
      subst hbt
      have e3 : (xn : Int) + 1 - (kx : Int) < (yn : Int) + 1 - (kx : Int) := by omega
      go_wp2
      go_ret
      exact ⟨rfl, HW2.out⟩
    · have hbt : b = false := by rw [hbb]; simp [e2]
      clear hbb HBE
      subst hbt
      have e3 : ¬ (xn : Int) + 1 - (kx : Int) < (yn : Int) + 1 - (kx : Int) := by omega
      go_wp2
      go_ret
      exact ⟨rfl, HW2.out⟩
  · have hbb : b = decide (ky < kx) := by rw [HBE.out, if_neg e]
    have e1 : ((kx : Int) == (ky : Int)) = false := by simp; omega
    have e2 : ((kx : Int) != (ky : Int)) = true := by simp; omega
    by_cases e3 : ky < kx
    · have hbt : b = true := by rw [hbb]; simp [e3]
      clear hbb HBE
      subst hbt
      have e4 : (ky : Int) < (kx : Int) := by omega
      go_wp2
      go_ret
      exact ⟨rfl, HW2.out⟩
    · have hbt : b = false := by rw [hbb]; simp [e3]
      clear hbb HBE
      subst hbt
      have e4 : ¬ (ky : Int) < (kx : Int) := by omega
      go_wp2
      go_ret
      exact ⟨rfl, HW2.out⟩
end Go.Proofs.YtgbiicmkhlnniaaGreatDoor
