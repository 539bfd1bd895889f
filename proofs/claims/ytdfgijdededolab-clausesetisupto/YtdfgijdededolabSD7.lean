/-
  ClauseSetIs: the walk. (Written by SD7.py.)
-/
import Derived.Test.YtdfgijdededolabSD6
import Derived.Test.YtdfgijdededolabCL21
namespace Go.Proofs.Ytdfgijdededolab
open Go.RowKit
attribute [local go_sem ↓] Go.wp_at_zero Go.wp_at_succ

theorem cstep_two {ops : Array Oper} {o : Oper} {a : Act} {K : Act → World → Prop} {Q : Exit → Act → World → Prop} {E : Prop} {w : World} (hgd : o.guard = none) (s x : Operand)
    (ho : o.op = .call { callee := .builtin .append, args := #[s, x], argTypes := #[40, 40] }) (base : Nat) (v : Value) (l : List Cm) (hs : a.eval s = v) (hown : OwnC w base v l)
    (b : Nat) (y : Cm) (hx : a.eval x = .slice (some ⟨b, 0, none⟩) 2 2) (hblk : CBlk w b (ccs [y, y]).toArray 30) {W : World} (h1c : y.ok W) (hlen : l.length ≤ 1000000000000) (hbase : base ≤ w.heap.size)
    (h : ∀ v' w', OwnC w' base v' (l ++ [y, y]) → Below base w w' → K (a.put o.dst v') w') : if Region.wanted o (yielded ops a.tmps) = true then Oper.wp Try.prog o a w K Q else E := by
  obtain ⟨i0, hi0, hz0, hz1, hz2⟩ := info_parts Try.infoClause
  have h1o : ∀ u ∈ ccs [y, y], u.oneCell' = true := fun u hu => by
    obtain ⟨z, hz, hv⟩ := List.mem_flatMap.1 hu
    obtain rfl : z = y := by simpa using hz
    exact csl_one h1c u hv
  refine step_append_lies _ hgd s x 40 ho base 30 i0 _ 7 120 Try.underlying40 hi0 hz0 hz1 hz2 rfl (by omega) v l.length (ccs l) hs hown ⟨b, 0, none⟩ 2 2 (ccs [y, y]) hx (by rw [ccs_len]; rfl) ?_ h1o (by omega) (by unfold maxLen; omega) (by omega) hbase _ rfl ?_
  · intro j u hj
    exact World.news_of_block (cs := (ccs [y, y]).toArray) (t := 30) (fr := (0, 0)) hblk j u (by simpa using hj)
  · intro g cap w' h1 h2 _ _
    refine h _ w' ?_ (grown_below3 h2 (fun k hk => (World.ownsRow.lt hown k hk).1) hbase)
    unfold OwnC
    rw [List.length_append, ccs_app]
    exact h1
theorem OwnC.csp {B : Nat} {X : World} {v : Value} {l : List Cm} (h : OwnC X B v l) (hok : ∀ c ∈ l, c.ok X) : CsP X v l := by
  refine ⟨?_, hok⟩
  rcases h.2 with ⟨rfl, hn⟩ | ⟨g, cap, cur, hv, -⟩
  · exact Or.inl ⟨rfl, List.length_eq_zero_iff.1 hn⟩
  · refine Or.inr ⟨⟨g, 0, none⟩, cap, hv, ?_⟩
    cases l with
    | nil => exact Or.inl rfl
    | cons c l =>
      have ho := h
      rw [hv] at ho
      obtain ⟨b, o, e, hr⟩ := ho.adr (j := 0) (c := c) rfl
      exact Or.inr ⟨b, o, Option.some.inj e, hr⟩
theorem dkN_len (l : List Cm) : ∀ n, (dkN l n).length ≤ n
  | 0 => Nat.le_refl _
  | n + 1 => by
    have := dkN_len l n
    unfold dkN
    rw [List.length_append]
    split
    · split <;> simp <;> omega
    · simp; omega
theorem set2_any (l : List Cm) (v : Value) (w : World) (h : CsP w v l) (hl : l.length ≤ 1000000000) (hz : ∀ c ∈ l, c.sml) :
    Calls Try.prog 11 #[v] w fun e w' => ∃ v' o, e = .returned v' ∧ CsP w' v' o ∧ o.length ≤ l.length ∧ SetK (o.map Cm.key) l ∧ Below w.heap.size w w' :=
  (set_any l v w h hl hz).mono fun e w' ⟨v', he, o, ho, l', hk, hp, hs, hb⟩ => ⟨v', o, he, ho.csp, by
    have h1 := dkN_len l' l'.length
    rw [← hk, List.length_map, hp.length_eq] at h1
    exact h1, by rw [hk]; exact SetK.of hp hs, hb⟩
theorem dn_rel (g : Nat) : (g = 0 ∧ Value.int .i64 ((g : Int) - 1) = .int .i64 (-1)) ∨ ∃ m : Nat, g = m + 1 ∧ Value.int .i64 ((g : Int) - 1) = .int .i64 (m : Int) := by
  cases g with
  | zero => exact Or.inl ⟨rfl, rfl⟩
  | succ m => exact Or.inr ⟨m, rfl, by congr 1; omega⟩
set_option maxRecDepth 20000 in
set_option maxHeartbeats 8000000 in
theorem setIs_any (l : List Cm) (v : Value) (w : World) (h : CsP w v l) (hl : l.length ≤ 400000000) (hz : ∀ c ∈ l, c.sml) :
    Calls Try.prog 4 #[v] w fun e w' => e = .returned (.bool true) ∧ Below w.heap.size w w' := by
  have HP : Hid (CsP w v l) := h
  have HZ : Hid (∀ c ∈ l, c.sml) := hz
  have HCS0 : Hid (Calls Try.prog 11 #[v] w fun e w' => ∃ v' o, e = .returned v' ∧ CsP w' v' o ∧ o.length ≤ l.length ∧ SetK (o.map Cm.key) l ∧ Below w.heap.size w w') := set2_any l v w h (by omega) hz
  obtain ⟨va, vc, rfl⟩ := h.form
  clear h hz
  go_enter Try.func4, Try.ntmps4
  go_upto_region 2 with (go_at_call 11; refine HCS0.out.mono ?_; rintro e w1 ⟨v1, o, rfl, ho1, hol1, hok1, hb1⟩; have HO : Hid (CsP w1 v1 o) := ho1; have HK : Hid (SetK (o.map Cm.key) l) := hok1; have HB1 : Hid (Below w.heap.size w w1) := hb1; obtain ⟨oa, oc, rfl⟩ := ho1.form; clear ho1 hok1 hb1 HCS0)
  have hol : o.length ≤ 400000000 := by omega
  clear hol1
  go_wp2
  go_loopg [4] o.length (fun g i wr => ∃ j : Nat, 1 ≤ j ∧ j + g = o.length + 1 ∧ i = .int .i64 (j : Int) ∧ Below w1.heap.size w1 wr)
  case atStart => exact ⟨1, by omega, by omega, rfl, Below.refl _ _⟩
  case round =>
    obtain ⟨j, hj1, hg, rfl, hb⟩ := hrel
    have HB : Hid (Below w1.heap.size w1 wr) := hb
    clear hb
    by_cases hlt : j < o.length
    · obtain ⟨g, rfl⟩ : ∃ g, gk = g + 1 := ⟨gk - 1, by omega⟩
      have i0 : (0 : Int) ≤ (j : Int) := by omega
      have i1 : (j : Int) < (o.length : Int) := by omega
      have ep : (j : Int) - 1 = ((j - 1 : Nat) : Int) := by omega
      have iq0 : (0 : Int) ≤ ((j - 1 : Nat) : Int) := by omega
      have iq1 : ((j - 1 : Nat) : Int) < (o.length : Int) := by omega
      have HJW : Hid (IntKind.i64.wrap ((j - 1 : Nat) : Int) = ((j - 1 : Nat) : Int)) := by show _ = _; rw [IntKind.wrap_i64]; omega
      obtain ⟨x, hx⟩ : ∃ c, o[j - 1]? = some c := ⟨_, List.getElem?_eq_getElem (by omega)⟩
      obtain ⟨y, hy⟩ : ∃ c, o[j]? = some c := ⟨_, List.getElem?_eq_getElem (by omega)⟩
      obtain ⟨sb, so, rfl, hrw⟩ := (HO.out.later HB.out).get hx
      have hz0 := hrw.1
      have hsv := hrw.seven hx
      have hsv2 := hrw.seven hy
      have hsh := (HO.out.ok x (List.mem_of_getElem? hx)).shape
      have hsh2 := (HO.out.ok y (List.mem_of_getElem? hy)).shape
      have HCS0 := fun (Y : World) (hY : Below wr.heap.size wr Y) => compareC_any x y Y (((HO.out.ok x (List.mem_of_getElem? hx)).later HB.out).later hY) (((HO.out.ok y (List.mem_of_getElem? hy)).later HB.out).later hY)
      rw [HK.out.step hx (by rw [show j - 1 + 1 = j by omega]; exact hy)] at HCS0
      clear hx hy hrw
      obtain ⟨⟨⟨⟨xk, xm, xs⟩, xn, xl⟩, xx⟩, xb, xbv, xt, xtv⟩ := x
      simp only at hsv hsh
      obtain ⟨⟨x1, x2, x3, e1⟩, ⟨x4, x6, e2⟩, ⟨x7, x9, e3⟩, -, -⟩ := hsh
      obtain ⟨x5, h5⟩ : ∃ n, xb.length = n := ⟨_, rfl⟩
      obtain ⟨x8, h8⟩ : ∃ n, xt.length = n := ⟨_, rfl⟩
      rw [h5] at e2
      rw [h8] at e3
      subst e1 e2 e3
      clear h5 h8
      obtain ⟨⟨⟨⟨ck, cm, cs⟩, cn, cl⟩, cx⟩, cb, cbv, ct, ctv⟩ := y
      simp only at hsv2 hsh2
      obtain ⟨⟨c1, c2, c3, e1⟩, ⟨c4, c6, e2⟩, ⟨c7, c9, e3⟩, -, -⟩ := hsh2
      obtain ⟨c5, h5⟩ : ∃ n, cb.length = n := ⟨_, rfl⟩
      obtain ⟨c8, h8⟩ : ∃ n, ct.length = n := ⟨_, rfl⟩
      rw [h5] at e2
      rw [h8] at e3
      subst e1 e2 e3
      clear h5 h8
      obtain ⟨q0, q1, q2, q3, q4, q5, q6⟩ := hsv
      have HQ := conj7 q0 q1 q2 q3 q4 q5 q6
      have HQz : Hid (sb < wr.heap.size) := hz0
      clear q0 q1 q2 q3 q4 q5 q6 hz0
      obtain ⟨q0, q1, q2, q3, q4, q5, q6⟩ := hsv2
      have HQ2 := conj7 q0 q1 q2 q3 q4 q5 q6
      clear q0 q1 q2 q3 q4 q5 q6
      have HCS : Hid (∀ Y : World, Below wr.heap.size wr Y → Calls Try.prog 8 #[.agg #[.int .i64 xk, .int .i64 xm, .string xs, .string xn, .slice x1 x2 x3, .slice x4 x5 x6, .slice x7 x8 x9], .agg #[.int .i64 ck, .int .i64 cm, .string cs, .string cn, .slice c1 c2 c3, .slice c4 c5 c6, .slice c7 c8 c9]] Y fun e w' => e = .returned (.int .i64 (-1)) ∧ Below Y.heap.size Y w') := HCS0
      clear HCS0
      go_upto_region 5 with fail
      refine wp_region_held_drew (S := fun w' => Below wr.heap.size wr w') (by kernel_rfl) (Below.refl _ _).drew (fun hH => ?_)
      revert hH
      generalize wr.drew = V
      intro hH
      refine wpAnyH_take (i := 0) (oi := ⟨_, _, _, _, _, _⟩) (v := .slice (some ⟨sb, so, none⟩) o.length oc) rfl (by kernel_rfl) (by kernel_rfl) (by kernel_rfl) (fun _ _ _ h => h) (Or.inl ⟨by rfl, fun w' _ => by go_simp⟩) hH ?_
      simp only [Act.put, List.setIfInBounds_toArray, List.set_cons_zero, List.set_cons_succ]
      refine wpAnyH_take (i := 1) (oi := ⟨_, _, _, _, _, _⟩) (v := .int .i64 (j : Int)) rfl (by kernel_rfl) (by kernel_rfl) (by kernel_rfl) (fun _ _ _ h => h) (Or.inl ⟨by rfl, fun w' _ => by go_simp⟩) hH ?_
      simp only [Act.put, List.setIfInBounds_toArray, List.set_cons_zero, List.set_cons_succ]
      refine wpAnyH_take (i := 2) (oi := ⟨_, _, _, _, _, _⟩) (v := .int .i64 ((j - 1 : Nat) : Int)) rfl (by kernel_rfl) (by kernel_rfl) (by kernel_rfl) (fun _ _ _ h => h) (Or.inl ⟨by rfl, fun w' _ => by go_simp; exact HJW.out⟩) hH ?_
      simp only [Act.put, List.setIfInBounds_toArray, List.set_cons_zero, List.set_cons_succ]
      refine wpAnyH_take (i := 3) (oi := ⟨_, _, _, _, _, _⟩) (v := .pointer (some ⟨sb, so + (j - 1) * 7, none⟩)) rfl (by kernel_rfl) (by kernel_rfl) (by kernel_rfl) (fun _ _ _ h => h) (Or.inl ⟨by rfl, fun w' _ => by go_simp⟩) hH ?_
      simp only [Act.put, List.setIfInBounds_toArray, List.set_cons_zero, List.set_cons_succ]
      refine wpAnyH_take (i := 4) (oi := ⟨_, _, _, _, _, _⟩) (v := .agg #[.int .i64 xk, .int .i64 xm, .string xs, .string xn, .slice x1 x2 x3, .slice x4 x5 x6, .slice x7 x8 x9]) rfl (by kernel_rfl) (by kernel_rfl) (by kernel_rfl) (fun _ _ _ h => h) (Or.inl ⟨by rfl, fun w' h => by obtain ⟨q0, q1, q2, q3, q4, q5, q6⟩ := Hid.out HQ; have z := Hid.out HQz; have y0 := cell_step h z q0; have y1 := cell_step h z q1; have y2 := cell_step h z q2; have y3 := cell_step h z q3; have y4 := cell_step h z q4; have y5 := cell_step h z q5; have y6 := cell_step h z q6; clear q0 q1 q2 q3 q4 q5 q6; go_simp⟩) hH ?_
      simp only [Act.put, List.setIfInBounds_toArray, List.set_cons_zero, List.set_cons_succ]
      refine wpAnyH_take (i := 5) (oi := ⟨_, _, _, _, _, _⟩) (v := .slice (some ⟨sb, so, none⟩) o.length oc) rfl (by kernel_rfl) (by kernel_rfl) (by kernel_rfl) (fun _ _ _ h => h) (Or.inl ⟨by rfl, fun w' _ => by go_simp⟩) hH ?_
      simp only [Act.put, List.setIfInBounds_toArray, List.set_cons_zero, List.set_cons_succ]
      refine wpAnyH_take (i := 6) (oi := ⟨_, _, _, _, _, _⟩) (v := .int .i64 (j : Int)) rfl (by kernel_rfl) (by kernel_rfl) (by kernel_rfl) (fun _ _ _ h => h) (Or.inl ⟨by rfl, fun w' _ => by go_simp⟩) hH ?_
      simp only [Act.put, List.setIfInBounds_toArray, List.set_cons_zero, List.set_cons_succ]
      refine wpAnyH_take (i := 7) (oi := ⟨_, _, _, _, _, _⟩) (v := .pointer (some ⟨sb, so + j * 7, none⟩)) rfl (by kernel_rfl) (by kernel_rfl) (by kernel_rfl) (fun _ _ _ h => h) (Or.inl ⟨by rfl, fun w' _ => by go_simp⟩) hH ?_
      simp only [Act.put, List.setIfInBounds_toArray, List.set_cons_zero, List.set_cons_succ]
      refine wpAnyH_take (i := 8) (oi := ⟨_, _, _, _, _, _⟩) (v := .agg #[.int .i64 ck, .int .i64 cm, .string cs, .string cn, .slice c1 c2 c3, .slice c4 c5 c6, .slice c7 c8 c9]) rfl (by kernel_rfl) (by kernel_rfl) (by kernel_rfl) (fun _ _ _ h => h) (Or.inl ⟨by rfl, fun w' h => by obtain ⟨q0, q1, q2, q3, q4, q5, q6⟩ := Hid.out HQ2; have z := Hid.out HQz; have y0 := cell_step h z q0; have y1 := cell_step h z q1; have y2 := cell_step h z q2; have y3 := cell_step h z q3; have y4 := cell_step h z q4; have y5 := cell_step h z q5; have y6 := cell_step h z q6; clear q0 q1 q2 q3 q4 q5 q6; go_simp⟩) hH ?_
      simp only [Act.put, List.setIfInBounds_toArray, List.set_cons_zero, List.set_cons_succ]
      refine wpAnyH_ready (rs := [9]) (by kernel_rfl) (by simp) ?_
      refine (AllReadyH.cons (o := ⟨_, _, _, _, _, _⟩) rfl (fun K hK => ?_) AllReadyH.nil)
      go_simp
      refine (HCS.out _ hH).mono ?_
      rintro e V1 ⟨rfl, hb⟩
      refine hK.out _ _ (below_step hH hb) (fun hH => ?_)
      clear hK K hb
      refine wpAnyH_take (i := 10) (oi := ⟨_, _, _, _, _, _⟩) (v := .bool false) rfl (by kernel_rfl) (by kernel_rfl) (by kernel_rfl) (fun _ _ _ h => h) (Or.inl ⟨by rfl, fun w' _ => by go_simp⟩) hH ?_
      simp only [Act.put, List.setIfInBounds_toArray, List.set_cons_zero, List.set_cons_succ]
      refine wpAnyH_done (by kernel_rfl) ?_ _
      go_wp2
      go_roundg g
      case measure => omega
      case rel => exact ⟨j + 1, by omega, by omega, by go_num, below_step HB.out hH⟩
    · have hz : ¬ ((j : Int) < (o.length : Int)) := by omega
      have HB2 : Hid (Below w.heap.size w wr) := below_step HB1.out HB.out
      have HO2 : Hid (CsP wr (.slice oa o.length oc) o) := HO.out.later HB.out
      clear HB HO HB1 hlt
      clear hj1 hg
      generalize wr = w2 at *
      go_wp2
      clear hz
      go_loopg [5, 6] l.length (fun gk u i wr => ∃ T : List Cm, ((gk = 0 ∧ i = .int .i64 (-1)) ∨ ∃ m : Nat, gk = m + 1 ∧ i = .int .i64 (m : Int)) ∧ gk ≤ l.length ∧ OwnC wr w2.heap.size u T ∧ T.length + 2 * gk = 2 * l.length ∧ (∀ c ∈ T, c ∈ l) ∧ (∀ i c, gk ≤ i → l[i]? = some c → c ∈ T) ∧ Below w2.heap.size w2 wr)
      case atStart => exact ⟨[], dn_rel _, Nat.le_refl _, OwnC.nil _ _, by simp, (fun c hc => by cases hc), (fun i c hi hc => by have := (List.getElem?_eq_some_iff.1 hc).1; omega), Below.refl _ _⟩
      case round =>
        obtain ⟨T, hi, hgl, hot, htl, hn1, hn2, hb⟩ := hrel
        have HB : Hid (Below w2.heap.size w2 wr) := hb
        have HOT : Hid (OwnC wr w2.heap.size u5 T) := hot
        have HTL : Hid (T.length + 2 * gk = 2 * l.length) := htl
        clear hb hot htl
        rcases hi with ⟨rfl, rfl⟩ | ⟨g, rfl, rfl⟩
        · have HTM : Hid (∀ c, c ∈ T ↔ c ∈ l) := fun c => ⟨hn1 c, fun hc => by obtain ⟨i, hi, e⟩ := List.mem_iff_getElem.1 hc; exact hn2 i c (Nat.zero_le _) (by rw [List.getElem?_eq_getElem hi, e])⟩
          have HB3 : Hid (Below w.heap.size w wr) := below_step HB2.out HB.out
          have HO3 : Hid (CsP wr (.slice oa o.length oc) o) := HO2.out.later HB.out
          have HT3 : Hid (CsP wr u5 T) := HOT.out.csp fun c hc => (HP.out.ok c (hn1 c hc)).later HB3.out
          have hta : T.length ≤ 1000000000 := by have := HTL.out; omega
          obtain ⟨ta, tc, hu5⟩ := HT3.out.form
          clear hn1 hn2 HB2 HO2 HB HOT HTL hgl
          generalize wr = w3 at *
          subst hu5
          go_wp2
          go_loopg [7] l.length (fun g i wr => ∃ j : Nat, j + g = l.length ∧ i = .int .i64 (j : Int) ∧ Below w3.heap.size w3 wr)
          case atStart => exact ⟨0, by omega, rfl, Below.refl _ _⟩
          case round =>
            obtain ⟨j3, hg3, rfl, hb⟩ := hrel
            have HB : Hid (Below w3.heap.size w3 wr) := hb
            have HB4 : Hid (Below w.heap.size w wr) := below_step HB3.out hb
            clear hb
            cases gk with
            | succ g =>
              have i0 : (0 : Int) ≤ (j3 : Int) := by omega
              have i1 : (j3 : Int) < (l.length : Int) := by omega
              obtain ⟨c, hc⟩ : ∃ c, l[j3]? = some c := ⟨_, List.getElem?_eq_getElem (by omega)⟩
              have hcm := List.mem_of_getElem? hc
              obtain ⟨sb, so, rfl, hrw⟩ := (HP.out.later HB4.out).get hc
              have hsv := hrw.seven hc
              have hsh := (HP.out.ok c hcm).shape
              have HST0 := stands_any o (.slice oa o.length oc) c wr (HO3.out.later HB.out) ((HP.out.ok c hcm).later HB4.out) (by omega)
              rw [decide_eq_true ((HK.out.mem _).2 ⟨c, hcm, rfl⟩)] at HST0
              clear hc hcm hrw
              obtain ⟨⟨⟨⟨ck, cm, cs⟩, cn, cl⟩, cx⟩, cb, cbv, ct, ctv⟩ := c
              simp only at hsv hsh
              obtain ⟨⟨c1, c2, c3, e1⟩, ⟨c4, c6, e2⟩, ⟨c7, c9, e3⟩, -, -⟩ := hsh
              obtain ⟨c5, h5⟩ : ∃ n, cb.length = n := ⟨_, rfl⟩
              obtain ⟨c8, h8⟩ : ∃ n, ct.length = n := ⟨_, rfl⟩
              rw [h5] at e2
              rw [h8] at e3
              subst e1 e2 e3
              clear h5 h8
              have HST : Hid (Calls Try.prog 12 #[.slice oa o.length oc, .agg #[.int .i64 ck, .int .i64 cm, .string cs, .string cn, .slice c1 c2 c3, .slice c4 c5 c6, .slice c7 c8 c9]] wr fun e w' => e = .returned (.bool true) ∧ Below wr.heap.size wr w') := HST0
              obtain ⟨g0, g1, g2, g3, g4, g5, g6⟩ := hsv
              clear HST0
              go_wp2_with (go_at_call 12; refine HST.out.mono ?_; rintro e wx ⟨rfl, hbx⟩)
              go_roundg g
              case measure => omega
              case rel => exact ⟨j3 + 1, by omega, by go_num, below_step HB.out hbx⟩
            | zero =>
              have hz3 : ¬ ((j3 : Int) < (l.length : Int)) := by omega
              have HO4 : Hid (CsP wr (.slice oa o.length oc) o) := HO3.out.later HB.out
              have HT4 : Hid (CsP wr (.slice ta T.length tc) T) := HT3.out.later HB.out
              clear HB HB3 HO3 HT3 hg3
              generalize wr = w4 at *
              go_wp2
              clear hz3
              go_loopg [8] o.length (fun g i wr => ∃ j : Nat, j + g = o.length ∧ i = .int .i64 (j : Int) ∧ Below w4.heap.size w4 wr)
              case atStart => exact ⟨0, by omega, rfl, Below.refl _ _⟩
              case round =>
                obtain ⟨j4, hg4, rfl, hb⟩ := hrel
                have HB : Hid (Below w4.heap.size w4 wr) := hb
                have HB5 : Hid (Below w.heap.size w wr) := below_step HB4.out hb
                clear hb
                cases gk with
                | succ g =>
                  have i0 : (0 : Int) ≤ (j4 : Int) := by omega
                  have i1 : (j4 : Int) < (o.length : Int) := by omega
                  obtain ⟨c, hc⟩ : ∃ c, o[j4]? = some c := ⟨_, List.getElem?_eq_getElem (by omega)⟩
                  have hcm := List.mem_of_getElem? hc
                  obtain ⟨sb, so, rfl, hrw⟩ := (HO4.out.later HB.out).get hc
                  have hsv := hrw.seven hc
                  have hsh := (HO4.out.ok c hcm).shape
                  have HST0 := stands_any l (.slice va l.length vc) c wr (HP.out.later HB5.out) ((HO4.out.ok c hcm).later HB.out) (by omega)
                  rw [decide_eq_true (by obtain ⟨z, hz, e⟩ := (HK.out.mem _).1 (List.mem_map.2 ⟨c, hcm, rfl⟩); exact List.mem_map.2 ⟨z, hz, e⟩)] at HST0
                  clear hc hcm hrw
                  obtain ⟨⟨⟨⟨ck, cm, cs⟩, cn, cl⟩, cx⟩, cb, cbv, ct, ctv⟩ := c
                  simp only at hsv hsh
                  obtain ⟨⟨c1, c2, c3, e1⟩, ⟨c4, c6, e2⟩, ⟨c7, c9, e3⟩, -, -⟩ := hsh
                  obtain ⟨c5, h5⟩ : ∃ n, cb.length = n := ⟨_, rfl⟩
                  obtain ⟨c8, h8⟩ : ∃ n, ct.length = n := ⟨_, rfl⟩
                  rw [h5] at e2
                  rw [h8] at e3
                  subst e1 e2 e3
                  clear h5 h8
                  have HST : Hid (Calls Try.prog 12 #[.slice va l.length vc, .agg #[.int .i64 ck, .int .i64 cm, .string cs, .string cn, .slice c1 c2 c3, .slice c4 c5 c6, .slice c7 c8 c9]] wr fun e w' => e = .returned (.bool true) ∧ Below wr.heap.size wr w') := HST0
                  obtain ⟨g0, g1, g2, g3, g4, g5, g6⟩ := hsv
                  clear HST0
                  go_wp2_with (go_at_call 12; refine HST.out.mono ?_; rintro e wx ⟨rfl, hbx⟩)
                  go_roundg g
                  case measure => omega
                  case rel => exact ⟨j4 + 1, by omega, by go_num, below_step HB.out hbx⟩
                | zero =>
                  have hz4 : ¬ ((j4 : Int) < (o.length : Int)) := by omega
                  have HO5 : Hid (CsP wr (.slice oa o.length oc) o) := HO4.out.later HB.out
                  have HS2 : Hid (Calls Try.prog 11 #[.slice ta T.length tc] wr fun e w' => ∃ v' o, e = .returned v' ∧ CsP w' v' o ∧ o.length ≤ T.length ∧ SetK (o.map Cm.key) T ∧ Below wr.heap.size wr w') := set2_any T _ wr (HT4.out.later HB.out) hta (fun c hc => HZ.out c ((HTM.out c).1 hc))
                  clear HB HB4 HO4 HT4 hg4
                  go_wp2_with (first
                    | (go_at_call 11; refine HS2.out.mono ?_; rintro e w6 ⟨v6, o6, rfl, ho6, hol6, hok6, hb6⟩; obtain ⟨xa, xc, rfl⟩ := ho6.form; have HS3 : Hid (Calls Try.prog 13 #[.slice xa o6.length xc, .slice oa o.length oc] w6 fun e w' => e = .returned (.bool true) ∧ Below w6.heap.size w6 w') := (by have h6 := sameCs_any o6 o _ _ w6 ho6 (HO5.out.later hb6) (by omega); rw [decide_eq_true (SetK.uniq hok6 HK.out HTM.out)] at h6; exact h6); have HB6 : Hid (Below w.heap.size w w6) := below_step HB5.out hb6; clear ho6 hol6 hok6 hb6 HS2)
                    | (go_at_call 13; refine HS3.out.mono ?_; rintro e w7 ⟨rfl, hb7⟩; have HB7 : Hid (Below w.heap.size w w7) := below_step HB6.out hb7; clear hb7 HS3)
                    | (go_at_call 14; refine (first3_any _).mono ?_; rintro e w8 ⟨rfl, hb8⟩; have HB8 : Hid (Below w.heap.size w w8) := below_step HB7.out hb8; clear hb8))
                  go_ret
                  exact ⟨rfl, HB8.out⟩
        · have i0 : (0 : Int) ≤ (g : Int) := by omega
          have i1 : (g : Int) < (l.length : Int) := by omega
          obtain ⟨c, hc⟩ : ∃ c, l[g]? = some c := ⟨_, List.getElem?_eq_getElem (by omega)⟩
          have hcm := List.mem_of_getElem? hc
          obtain ⟨sb, so, rfl, hrw⟩ := (HP.out.later HB2.out).get hc
          have hz0 := hrw.1
          have hsv := hrw.seven hc
          have hsh := (HP.out.ok c hcm).shape
          have HCK : Hid (c.ok w) := HP.out.ok c hcm
          have HN1 : Hid (∀ x ∈ T ++ [c, c], x ∈ l) := fun x hx => by
            rcases List.mem_append.1 hx with hx | hx
            · exact hn1 x hx
            · obtain rfl : x = c := by simpa using hx
              exact hcm
          have HN2 : Hid (∀ i x, g ≤ i → l[i]? = some x → x ∈ T ++ [c, c]) := fun i x hi hx => by
            by_cases e : i = g
            · subst e; rw [hc] at hx; cases hx; simp
            · exact List.mem_append.2 (Or.inl (hn2 i x (by omega) hx))
          clear hc hcm hrw hn1 hn2
          obtain ⟨⟨⟨⟨ck, cm, cs⟩, cn, cl⟩, cx⟩, cb, cbv, ct, ctv⟩ := c
          simp only at hsv hsh
          obtain ⟨⟨c1, c2, c3, e1⟩, ⟨c4, c6, e2⟩, ⟨c7, c9, e3⟩, -, -⟩ := hsh
          obtain ⟨c5, h5⟩ : ∃ n, cb.length = n := ⟨_, rfl⟩
          obtain ⟨c8, h8⟩ : ∃ n, ct.length = n := ⟨_, rfl⟩
          rw [h5] at e2
          rw [h8] at e3
          subst e1 e2 e3
          clear h5 h8
          obtain ⟨q0, q1, q2, q3, q4, q5, q6⟩ := hsv
          have HQ := conj7 q0 q1 q2 q3 q4 q5 q6
          have HQz : Hid (sb < w2.heap.size) := hz0
          clear q0 q1 q2 q3 q4 q5 q6 hz0
          go_upto_region 11 with fail
          have hV0 : OwnC wr.drew w2.heap.size u5 T := HOT.out.later (Below.refl _ _).drew
          refine wp_region_held_drew (S := fun w' => Below w2.heap.size w2 w') (by kernel_rfl) HB.out.drew (fun hH => ?_)
          revert hH hV0
          generalize wr.drew = V0
          intro hV0 hH
          have HV0 : Hid (OwnC V0 w2.heap.size u5 T) := hV0
          clear hV0 HOT
          refine wpAnyH_take (i := 0) (oi := ⟨_, _, _, _, _, _⟩) (v := u5) rfl (by kernel_rfl) (by kernel_rfl) (by kernel_rfl) (fun _ _ _ h => h) (Or.inl ⟨by rfl, fun w' _ => by go_simp⟩) hH ?_
          simp only [Act.put, List.setIfInBounds_toArray, List.set_cons_zero, List.set_cons_succ]
          refine wpAnyH_take (i := 1) (oi := ⟨_, _, _, _, _, _⟩) (v := .slice (some ⟨sb, so, none⟩) l.length vc) rfl (by kernel_rfl) (by kernel_rfl) (by kernel_rfl) (fun _ _ _ h => h) (Or.inl ⟨by rfl, fun w' _ => by go_simp⟩) hH ?_
          simp only [Act.put, List.setIfInBounds_toArray, List.set_cons_zero, List.set_cons_succ]
          refine wpAnyH_take (i := 2) (oi := ⟨_, _, _, _, _, _⟩) (v := .int .i64 (g : Int)) rfl (by kernel_rfl) (by kernel_rfl) (by kernel_rfl) (fun _ _ _ h => h) (Or.inl ⟨by rfl, fun w' _ => by go_simp⟩) hH ?_
          simp only [Act.put, List.setIfInBounds_toArray, List.set_cons_zero, List.set_cons_succ]
          refine wpAnyH_take (i := 3) (oi := ⟨_, _, _, _, _, _⟩) (v := .pointer (some ⟨sb, so + g * 7, none⟩)) rfl (by kernel_rfl) (by kernel_rfl) (by kernel_rfl) (fun _ _ _ h => h) (Or.inl ⟨by rfl, fun w' _ => by go_simp⟩) hH ?_
          simp only [Act.put, List.setIfInBounds_toArray, List.set_cons_zero, List.set_cons_succ]
          refine wpAnyH_take (i := 4) (oi := ⟨_, _, _, _, _, _⟩) (v := .agg #[.int .i64 ck, .int .i64 cm, .string cs, .string cn, .slice c1 c2 c3, .slice c4 c5 c6, .slice c7 c8 c9]) rfl (by kernel_rfl) (by kernel_rfl) (by kernel_rfl) (fun _ _ _ h => h) (Or.inl ⟨by rfl, fun w' h => by obtain ⟨q0, q1, q2, q3, q4, q5, q6⟩ := Hid.out HQ; have z := Hid.out HQz; have y0 := cell_step h z q0; have y1 := cell_step h z q1; have y2 := cell_step h z q2; have y3 := cell_step h z q3; have y4 := cell_step h z q4; have y5 := cell_step h z q5; have y6 := cell_step h z q6; clear q0 q1 q2 q3 q4 q5 q6; go_simp⟩) hH ?_
          simp only [Act.put, List.setIfInBounds_toArray, List.set_cons_zero, List.set_cons_succ]
          refine wpAnyH_take (i := 5) (oi := ⟨_, _, _, _, _, _⟩) (v := .slice (some ⟨sb, so, none⟩) l.length vc) rfl (by kernel_rfl) (by kernel_rfl) (by kernel_rfl) (fun _ _ _ h => h) (Or.inl ⟨by rfl, fun w' _ => by go_simp⟩) hH ?_
          simp only [Act.put, List.setIfInBounds_toArray, List.set_cons_zero, List.set_cons_succ]
          refine wpAnyH_take (i := 6) (oi := ⟨_, _, _, _, _, _⟩) (v := .int .i64 (g : Int)) rfl (by kernel_rfl) (by kernel_rfl) (by kernel_rfl) (fun _ _ _ h => h) (Or.inl ⟨by rfl, fun w' _ => by go_simp⟩) hH ?_
          simp only [Act.put, List.setIfInBounds_toArray, List.set_cons_zero, List.set_cons_succ]
          refine wpAnyH_take (i := 7) (oi := ⟨_, _, _, _, _, _⟩) (v := .pointer (some ⟨sb, so + g * 7, none⟩)) rfl (by kernel_rfl) (by kernel_rfl) (by kernel_rfl) (fun _ _ _ h => h) (Or.inl ⟨by rfl, fun w' _ => by go_simp⟩) hH ?_
          simp only [Act.put, List.setIfInBounds_toArray, List.set_cons_zero, List.set_cons_succ]
          refine wpAnyH_take (i := 8) (oi := ⟨_, _, _, _, _, _⟩) (v := .agg #[.int .i64 ck, .int .i64 cm, .string cs, .string cn, .slice c1 c2 c3, .slice c4 c5 c6, .slice c7 c8 c9]) rfl (by kernel_rfl) (by kernel_rfl) (by kernel_rfl) (fun _ _ _ h => h) (Or.inl ⟨by rfl, fun w' h => by obtain ⟨q0, q1, q2, q3, q4, q5, q6⟩ := Hid.out HQ; have z := Hid.out HQz; have y0 := cell_step h z q0; have y1 := cell_step h z q1; have y2 := cell_step h z q2; have y3 := cell_step h z q3; have y4 := cell_step h z q4; have y5 := cell_step h z q5; have y6 := cell_step h z q6; clear q0 q1 q2 q3 q4 q5 q6; go_simp⟩) hH ?_
          simp only [Act.put, List.setIfInBounds_toArray, List.set_cons_zero, List.set_cons_succ]
          refine wpAnyH_ready (rs := [9]) (by kernel_rfl) (by simp) ?_
          refine (AllReadyH.cons (o := ⟨_, _, _, _, _, _⟩) rfl (fun K hK => ?_) AllReadyH.nil)
          go_simp
          have HV1 : Hid (OwnC (V0.alloc (.cells #[.int .i64 ck, .int .i64 cm, .string cs, .string cn, .slice c1 c2 c3, .slice c4 c5 c6, .slice c7 c8 c9, .int .i64 ck, .int .i64 cm, .string cs, .string cn, .slice c1 c2 c3, .slice c4 c5 c6, .slice c7 c8 c9] 30)) w2.heap.size u5 T) := HV0.out.later (below1 _ _)
          have HG1 : Hid (CBlk (V0.alloc (.cells #[.int .i64 ck, .int .i64 cm, .string cs, .string cn, .slice c1 c2 c3, .slice c4 c5 c6, .slice c7 c8 c9, .int .i64 ck, .int .i64 cm, .string cs, .string cn, .slice c1 c2 c3, .slice c4 c5 c6, .slice c7 c8 c9] 30)) V0.heap.size #[.int .i64 ck, .int .i64 cm, .string cs, .string cn, .slice c1 c2 c3, .slice c4 c5 c6, .slice c7 c8 c9, .int .i64 ck, .int .i64 cm, .string cs, .string cn, .slice c1 c2 c3, .slice c4 c5 c6, .slice c7 c8 c9] 30) := CBlk.new _ _ _
          have HBV : Hid (Below w2.heap.size w2 (V0.alloc (.cells #[.int .i64 ck, .int .i64 cm, .string cs, .string cn, .slice c1 c2 c3, .slice c4 c5 c6, .slice c7 c8 c9, .int .i64 ck, .int .i64 cm, .string cs, .string cn, .slice c1 c2 c3, .slice c4 c5 c6, .slice c7 c8 c9] 30))) := hH.trans ((below1 _ _).mono hH.size)
          clear hH
          refine hK.out _ _ HBV.out (fun hH => ?_)
          clear hK K HV0
          revert hH HV1 HG1 HBV
          generalize V0.alloc (.cells #[.int .i64 ck, .int .i64 cm, .string cs, .string cn, .slice c1 c2 c3, .slice c4 c5 c6, .slice c7 c8 c9, .int .i64 ck, .int .i64 cm, .string cs, .string cn, .slice c1 c2 c3, .slice c4 c5 c6, .slice c7 c8 c9] 30) = V1
          generalize V0.heap.size = G1
          intro HV1 HG1 HBV hH
          refine wpAnyH_ready (rs := [10]) (by kernel_rfl) (by simp) ?_
          refine (AllReadyH.cons (o := ⟨_, _, _, _, _, _⟩) rfl (fun K hK => ?_) AllReadyH.nil)
          refine cstep_two rfl _ _ rfl w2.heap.size u5 T (by rfl) HV1.out G1 ⟨(⟨⟨ck, cm, cs⟩, cn, cl⟩, .slice c1 c2 c3), cb, .slice c4 c5 c6, ct, .slice c7 c8 c9⟩ (by rfl) HG1.out HCK.out (by have := HTL.out; omega) HBV.out.size ?_
          intro v' w3 hown hb3
          have HO3 : Hid (OwnC w3 w2.heap.size v' (T ++ [⟨(⟨⟨ck, cm, cs⟩, cn, cl⟩, .slice c1 c2 c3), cb, .slice c4 c5 c6, ct, .slice c7 c8 c9⟩, ⟨(⟨⟨ck, cm, cs⟩, cn, cl⟩, .slice c1 c2 c3), cb, .slice c4 c5 c6, ct, .slice c7 c8 c9⟩])) := hown
          have HB3 : Hid (Below w2.heap.size w2 w3) := HBV.out.trans hb3
          clear hown hb3 HV1 HG1 hH HBV
          refine hK.out _ _ HB3.out (fun hH => ?_)
          clear hK K
          simp only [Act.put, List.setIfInBounds_toArray, List.set_cons_zero, List.set_cons_succ]
          refine wpAnyH_take (i := 11) (oi := ⟨_, _, _, _, _, _⟩) (v := v') rfl (by kernel_rfl) (by kernel_rfl) (by kernel_rfl) (fun _ _ _ h => h) (Or.inl ⟨by rfl, fun w' _ => by go_simp⟩) hH ?_
          simp only [Act.put, List.setIfInBounds_toArray, List.set_cons_zero, List.set_cons_succ]
          refine wpAnyH_done (by kernel_rfl) ?_ _
          clear hH
          go_wp2
          go_roundg g
          case measure => omega
          case rel => exact ⟨_, dn_rel g, by omega, HO3.out, by have := HTL.out; simp only [List.length_append, List.length_cons, List.length_nil]; omega, HN1.out, HN2.out, HB3.out⟩
end Go.Proofs.Ytdfgijdededolab
