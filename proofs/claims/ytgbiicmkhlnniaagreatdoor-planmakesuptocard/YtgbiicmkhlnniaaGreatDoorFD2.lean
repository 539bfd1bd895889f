/-
  ref 9: testVars, within, errors.
-/
import Derived.Test.YtgbiicmkhlnniaaGreatDoorFD1
import Derived.Test.YtgbiicmkhlnniaaGreatDoorRCK2
namespace Go.Proofs.YtgbiicmkhlnniaaGreatDoor
open Go.RowKit
attribute [local go_sem ↓] Go.wp_at_zero Go.wp_at_succ

def tv9 (t : Te) : List Int := (if t.l.k = 3 then [t.l.n] else []) ++ if t.r.k = 3 then [t.r.n] else []
set_option maxRecDepth 20000 in
set_option maxHeartbeats 2000000 in
theorem testVars9_any (t : Te) (w : World) : Calls Tryz.prog 16 #[t.v] w fun e w' => ∃ v', e = .returned v' ∧ OwI w' w.heap.size v' (tv9 t) ∧ Below w.heap.size w w' := by
  obtain ⟨L, hL⟩ : ∃ L, tv9 t = L := ⟨_, rfl⟩
  rw [hL]
  have HL := hm7 hL
  obtain ⟨op, ⟨lk, ln, ls⟩, ⟨rk, rn, rs⟩⟩ := t
  have b0 := Bk.new w #[.int .i64 op, .int .i64 lk, .int .i64 ln, .string ls, .int .i64 rk, .int .i64 rn, .string rs] 46
  have hb0 := below1 w (.cells #[.int .i64 op, .int .i64 lk, .int .i64 ln, .string ls, .int .i64 rk, .int .i64 rn, .string rs] 46)
  obtain ⟨Y0, hY0⟩ : ∃ Y0, w.alloc (.cells #[.int .i64 op, .int .i64 lk, .int .i64 ln, .string ls, .int .i64 rk, .int .i64 rn, .string rs] 46) = Y0 := ⟨_, rfl⟩
  rw [hY0] at b0 hb0
  have HB0 := hm7 hb0
  have HBK := hm7 b0
  have HY0 := hm7 hY0
  clear hL hY0 hb0 b0
  go_enter Tryz.func16, Tryz.ntmps16
  go_upto_region 2 with fail
  rw [HY0.out]
  clear HY0
  have d1 := HBK.out.cell (i := 1) rfl
  have d2 := HBK.out.cell (i := 2) rfl
  have d4 := HBK.out.cell (i := 4) rfl
  have d5 := HBK.out.cell (i := 5) rfl
  by_cases h1 : lk = 3
  · subst h1
    go_upto_region 4 with (at_builtin; refine gapp Tryz.underlying32 Tryz.infoInt7 rfl (by omega) rfl _ _ rfl Y0.heap.size (.slice none 0 0) 0 [] rfl (World.ownsRow_nil _ _ _ _) Y0.heap.size (.int .i64 ln) rfl (Bk.new _ _ _) rfl (by omega) (by simp) ?_; intro g2 q2 w2 ho2 hg2 hv2 hl2; have HO2 := hm7 ho2; have HB2 := hm7 ((below1 _ _).trans (Fr.low (Fr.grown (P := fun b => Y0.heap.size ≤ b) hg2 (fun b hb => by cases hb)) (by simp))); clear ho2 hg2 hv2 hl2)
    rw [Nat.zero_add] at HO2
    have HBK2 := hm7 (HBK.out.below HB2.out)
    have d4 := HBK2.out.cell (i := 4) rfl
    have d5 := HBK2.out.cell (i := 5) rfl
    have HW2 := hm7 (HB0.out.trans (HB2.out.mono HB0.out.size))
    have hz2 := HB2.out.size
    clear d1 d2
    by_cases h2 : rk = 3
    · subst h2
      go_wp2_with (at_builtin; refine gapp Tryz.underlying32 Tryz.infoInt7 rfl (by omega) rfl _ _ rfl Y0.heap.size (.slice (some ⟨g2, 0, none⟩) 1 q2) 1 ([] ++ [.int .i64 ln]) rfl (row7_below HO2.out (below1 _ _)) w2.heap.size (.int .i64 rn) rfl (Bk.new _ _ _) rfl (by omega) (by simp; omega) ?_; intro g3 q3 w3 ho3 hg3 hv3 hl3; have HO3 := hm7 ho3; have HB3 := hm7 (((below1 _ _).mono hz2).trans (Fr.low (Fr.grown (P := fun b => Y0.heap.size ≤ b) hg3 (fun b hb => (World.ownsRow.lt HO2.out b hb).1)) (by simp; omega))); clear ho3 hg3 hv3 hl3)
      go_ret
      refine ⟨_, rfl, ?_, HW2.out.trans (HB3.out.mono HB0.out.size)⟩
      rw [← HL.out]
      exact OwI.mono (b := Y0.heap.size) HO3.out HB0.out.size
    · have h2' : (rk == 3) = false := by simp [h2]
      go_wp2
      go_ret
      refine ⟨_, rfl, ?_, HW2.out⟩
      rw [← HL.out]
      have e : tv9 ⟨op, ⟨3, ln, ls⟩, ⟨rk, rn, rs⟩⟩ = [ln] := by simp [tv9, h2]
      rw [e]
      exact OwI.mono (b := Y0.heap.size) HO2.out HB0.out.size
  · have h1' : (lk == 3) = false := by simp [h1]
    by_cases h2 : rk = 3
    · subst h2
      go_wp2_with (at_builtin; refine gapp Tryz.underlying32 Tryz.infoInt7 rfl (by omega) rfl _ _ rfl Y0.heap.size (.slice none 0 0) 0 [] rfl (World.ownsRow_nil _ _ _ _) Y0.heap.size (.int .i64 rn) rfl (Bk.new _ _ _) rfl (by omega) (by simp) ?_; intro g2 q2 w2 ho2 hg2 hv2 hl2; have HO2 := hm7 ho2; have HB2 := hm7 ((below1 _ _).trans (Fr.low (Fr.grown (P := fun b => Y0.heap.size ≤ b) hg2 (fun b hb => by cases hb)) (by simp))); clear ho2 hg2 hv2 hl2)
      go_ret
      refine ⟨_, rfl, ?_, HB0.out.trans (HB2.out.mono HB0.out.size)⟩
      rw [← HL.out]
      have e : tv9 ⟨op, ⟨lk, ln, ls⟩, ⟨3, rn, rs⟩⟩ = [rn] := by simp [tv9, h1]
      rw [e]
      exact OwI.mono (b := Y0.heap.size) HO2.out HB0.out.size
    · have h2' : (rk == 3) = false := by simp [h2]
      go_wp2
      go_ret
      refine ⟨_, rfl, ?_, HB0.out⟩
      rw [← HL.out]
      have e : tv9 ⟨op, ⟨lk, ln, ls⟩, ⟨rk, rn, rs⟩⟩ = [] := by simp [tv9, h1, h2]
      rw [e]
      exact OwI.nil _ _
set_option maxRecDepth 20000 in
set_option maxHeartbeats 1000000 in
theorem within9_any (B1 B2 : Nat) (v1 v2 : Value) (l all : List Int) (w : World) (h1 : OwI w B1 v1 l) (h2 : OwI w B2 v2 all) (hl : l.length ≤ 1000000) (ha : all.length ≤ 1000000) : Calls Tryz.prog 21 #[v1, v2] w fun e w' => e = .returned (.bool (l.all fun n => decide (n ∈ all))) ∧ w' = w := by
  have HH : Hid (∀ n : Int, Calls Tryz.prog 17 #[v2, .int .i64 n] w fun e w' => e = .returned (.bool (decide (n ∈ all))) ∧ w' = w) := fun n => has9_any B2 v2 all n w h2 ha
  obtain ⟨a, c, rfl, -⟩ := row7_form h1
  obtain ⟨a2, c2, rfl, -⟩ := row7_form h2
  obtain ⟨b, hb⟩ : ∃ b, (l.all fun n => decide (n ∈ all)) = b := ⟨_, rfl⟩
  rw [hb]
  have HB := hm7 hb
  obtain ⟨ln, hln⟩ : ∃ ln, l.length = ln := ⟨_, rfl⟩
  have H1 : Hid (w.ownsRow B1 3 1 (.slice a ln c) ln (ibs7 l)) := by have := h1; unfold OwI at this; rw [hln] at this; exact this
  rw [hln] at hl ⊢
  have HLN := hm7 hln
  generalize all.length = an at *
  clear h1 h2 hb hln
  go_enter Tryz.func21, Tryz.ntmps21
  go_wp2
  go_loopg [5] ln (fun gg i wr => ∃ j : Nat, j + gg = ln ∧ i = .int .i64 j ∧ (∀ x ∈ l.take j, x ∈ all) ∧ wr = w)
  case atStart => exact ⟨0, by omega, rfl, by simp, rfl⟩
  case round =>
    obtain ⟨j, hj, rfl, hno, rfl⟩ := hrel
    have HNO := hm7 hno
    clear hno
    cases gk with
    | succ gg =>
      obtain ⟨x, hx⟩ : ∃ x, l[j]? = some x := ⟨l[j]'(by have := HLN.out; omega), List.getElem?_eq_getElem _⟩
      have HX := hm7 hx
      obtain ⟨g, rfl, -, hg, hc, -⟩ := row7_at (i := j) (u := .int .i64 x) H1.out (by unfold ibs7; rw [List.getElem?_map, hx]; rfl)
      have hlt : (j : Int) < (ln : Int) := by omega
      have HHX := hm7 (HH.out x)
      obtain ⟨bx, hbx⟩ : ∃ bx, decide (x ∈ all) = bx := ⟨_, rfl⟩
      rw [hbx] at HHX
      have HBX := hm7 hbx
      clear hx hbx
      cases bx with
      | true =>
        go_wp2_with (go_at_call 17; refine HHX.out.mono ?_; rintro e w1 ⟨rfl, hw⟩; rw [hw]; clear hw w1)
        go_roundg gg
        case measure => omega
        case rel =>
          refine ⟨j + 1, by omega, by go_num, fun y hy => ?_, rfl⟩
          rw [List.take_add_one, HX.out, Option.toList_some, List.mem_append, List.mem_singleton] at hy
          rcases hy with hy | hy
          · exact HNO.out y hy
          · rw [hy]; exact of_decide_eq_true HBX.out
      | false =>
        have ht : b = false := by
          rw [← HB.out]
          refine List.all_eq_false.2 ⟨x, List.mem_of_getElem? HX.out, ?_⟩
          rw [HBX.out]; simp
        subst ht
        go_wp2_with (go_at_call 17; refine HHX.out.mono ?_; rintro e w1 ⟨rfl, hw⟩; rw [hw]; clear hw w1)
        go_ret
        exact ⟨rfl, rfl⟩
    | zero =>
      have hlt : ¬ (j : Int) < (ln : Int) := by omega
      have ht : b = true := by
        rw [← HB.out]
        refine List.all_eq_true.2 fun x hx => decide_eq_true (HNO.out x ?_)
        rw [List.take_of_length_le (by have := HLN.out; omega)]; exact hx
      subst ht
      go_wp2
      go_ret
      exact ⟨rfl, rfl⟩
def er9 (c : Cm) (lead : Int) : Int := if c.chk ≠ 0 then c.chk else if lead < -1 ∨ (c.body.length : Int) ≤ lead then 91 else 0
set_option maxRecDepth 20000 in
set_option maxHeartbeats 1000000 in
theorem errors9_any (c : Cm) (lead : Int) (w : World) (h : c.ok w) (hh : TsP w c.head.2 c.head.1.args) (hp : ∀ x ∈ c.body, TsP w x.2 x.1.args) (hbp : AsP w c.bv c.body) :
    Calls Tryz.prog 15 #[c.v, .int .i64 lead] w fun e w' => e = .returned (.int .i64 (er9 c lead)) ∧ Below w.heap.size w w' := by
  have HCK : Hid (∀ X : World, Below w.heap.size w X → Calls Tryz.prog 36 #[c.v] X fun e w' => e = .returned (.int .i64 c.chk) ∧ Below X.heap.size X w') := fun X hX => rcheckC_any c X (h.later hX) (hh.later hX) (fun x hx => (hp x hx).later hX) (hbp.later hX)
  obtain ⟨⟨a, hn, cap, h1⟩, ⟨a1, cap1, h2⟩, ⟨a2, cap2, h3⟩, -, -⟩ := h.shape
  have HE : Hid (er9 c lead = if c.chk ≠ 0 then c.chk else if lead < -1 ∨ (c.body.length : Int) ≤ lead then 91 else 0) := rfl
  obtain ⟨r, hr⟩ : ∃ r, er9 c lead = r := ⟨_, rfl⟩
  rw [hr] at HE ⊢
  obtain ⟨ck, hck⟩ : ∃ ck, c.chk = ck := ⟨_, rfl⟩
  rw [hck] at HE HCK
  clear h hh hp hbp hr hck
  obtain ⟨⟨⟨⟨k, m, s⟩, nm, ls⟩, hx⟩, body, bv, tests, tv⟩ := c
  simp only at h1 h2 h3 HE
  subst h1 h2 h3
  generalize body.length = nb at *
  generalize tests.length = nt at *
  have HCK1 : Hid (∀ X : World, Below w.heap.size w X → Calls Tryz.prog 36 #[.agg #[.int .i64 k, .int .i64 m, .string s, .string nm, .slice a hn cap, .slice a1 nb cap1, .slice a2 nt cap2]] X fun e w' => e = .returned (.int .i64 ck) ∧ Below X.heap.size X w') := HCK.out
  have b0 := Bk.new w #[.int .i64 k, .int .i64 m, .string s, .string nm, .slice a hn cap, .slice a1 nb cap1, .slice a2 nt cap2] 30
  have hb0 := below1 w (.cells #[.int .i64 k, .int .i64 m, .string s, .string nm, .slice a hn cap, .slice a1 nb cap1, .slice a2 nt cap2] 30)
  obtain ⟨Y0, hY0⟩ : ∃ Y0, w.alloc (.cells #[.int .i64 k, .int .i64 m, .string s, .string nm, .slice a hn cap, .slice a1 nb cap1, .slice a2 nt cap2] 30) = Y0 := ⟨_, rfl⟩
  rw [hY0] at b0 hb0
  have HB0 := hm7 hb0
  have HBK := hm7 b0
  have HY0 := hm7 hY0
  clear HCK b0 hb0 hY0
  go_enter Tryz.func15, Tryz.ntmps15
  go_upto_region 1 with fail
  rw [HY0.out]
  clear HY0
  have d0 := HBK.out.cell (i := 0) rfl
  have d1 := HBK.out.cell (i := 1) rfl
  have d2 := HBK.out.cell (i := 2) rfl
  have d3 := HBK.out.cell (i := 3) rfl
  have d4 := HBK.out.cell (i := 4) rfl
  have d5 := HBK.out.cell (i := 5) rfl
  have d6 := HBK.out.cell (i := 6) rfl
  go_upto_region 2 with (go_at_call 36; refine (HCK1.out _ HB0.out).mono ?_; rintro e W1 ⟨rfl, hb⟩; have HW1 := hm7 (HB0.out.trans (hb.mono HB0.out.size)); have HB1 := hm7 (HBK.out.below hb); clear hb d0 d1 d2 d3 d4 d5 d6)
  have d5 := HB1.out.cell (i := 5) rfl
  by_cases hk : ck = 0
  · subst hk
    by_cases hl1 : lead < -1
    · have hr : r = 91 := by rw [HE.out, if_neg (by simp), if_pos (Or.inl hl1)]
      subst hr
      go_wp2
      go_ret
      exact ⟨rfl, HW1.out⟩
    · by_cases hl2 : (nb : Int) ≤ lead
      · have hr : r = 91 := by rw [HE.out, if_neg (by simp), if_pos (Or.inr hl2)]
        subst hr
        go_wp2
        go_ret
        exact ⟨rfl, HW1.out⟩
      · have hr : r = 0 := by rw [HE.out, if_neg (by simp), if_neg (by rintro (h | h); exact hl1 h; exact hl2 h)]
        subst hr
        go_wp2
        go_ret
        exact ⟨rfl, HW1.out⟩
  · have hk1 : (ck == 0) = false := by simp [hk]
    have hk2 : (ck != 0) = true := by simp [hk]
    have hr : r = ck := by rw [HE.out, if_pos hk]
    subst hr
    go_wp2
    go_ret
    exact ⟨rfl, HW1.out⟩
end Go.Proofs.YtgbiicmkhlnniaaGreatDoor
