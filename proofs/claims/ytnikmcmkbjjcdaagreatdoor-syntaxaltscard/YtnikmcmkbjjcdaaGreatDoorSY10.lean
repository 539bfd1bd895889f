/-
  syntax: count, conjOf, altOf.
-/
import Derived.Test.YtnikmcmkbjjcdaaGreatDoorSY9
namespace Go.Proofs.YtnikmcmkbjjcdaaGreatDoor
open Go.RowKit
attribute [local go_sem ↓] Go.wp_at_zero Go.wp_at_succ

theorem list15 {l : List Value} (h : l.length = 15) : ∃ a b c d e f g i j k m n o p q, l = [a, b, c, d, e, f, g, i, j, k, m, n, o, p, q] := by
  match l, h with
  | [a, b, c, d, e, f, g, i, j, k, m, n, o, p, q], _ => exact ⟨a, b, c, d, e, f, g, i, j, k, m, n, o, p, q, rfl⟩
set_option maxRecDepth 20000 in
set_option maxHeartbeats 1000000 in
theorem count5_any {F : Nat → Prop} {f : Nat} {w0 : World} {cs : List Value} {m : List (List Lv5)} (h : LiM F w0 f cs m) (w : World) :
    Calls Tryz.prog 115 #[.agg cs.toArray] w fun e w' => e = .returned (.int .i64 (lc5 m : Int)) ∧ Below w.heap.size w w' := by
  obtain ⟨h1, -, h2⟩ := h.cells
  obtain ⟨a, b, c, d, e, f', g, i, j, k, l, n, o, p, q, rfl⟩ := list15 h1
  have HB := hm7 (Bk.new w #[a, b, c, d, e, f', g, i, j, k, l, n, o, p, q] 172)
  have HW := hm7 (below1 w (.cells #[a, b, c, d, e, f', g, i, j, k, l, n, o, p, q] 172))
  clear h h1
  rcases h2 with ⟨e1, e2⟩ | ⟨kk, e1, e2, e3, -⟩
  · obtain rfl : a = .int .i64 2 := Option.some.inj e1
    obtain rfl : q = .int .i64 (lc5 m : Int) := Option.some.inj e2
    have c0 := HB.out.cell (i := 0) rfl
    have c14 := HB.out.cell (i := 14) rfl
    clear e1 e2
    generalize (lc5 m : Int) = N at *
    go_enter Tryz.func115, Tryz.ntmps115
    go_wp2
    go_ret
    exact ⟨rfl, HW.out⟩
  · obtain rfl : a = .int .i64 kk := Option.some.inj e1
    rw [e3]
    have c0 := HB.out.cell (i := 0) rfl
    have e4 : (kk == 2) = false := by simp [e2]
    clear e1 e3
    go_enter Tryz.func115, Tryz.ntmps115
    go_wp2
    go_ret
    exact ⟨rfl, HW.out⟩
/-- Counting up to 65. -/
theorem min_mul5 {a b : Nat} (ha : 0 < a) (hb : 0 < b) : min (min a 65 * min b 65) 65 = min (a * b) 65 := by
  by_cases h1 : a ≤ 65
  · by_cases h2 : b ≤ 65
    · rw [Nat.min_eq_left h1, Nat.min_eq_left h2]
    · rw [Nat.min_eq_left h1, Nat.min_eq_right (show 65 ≤ b by omega)]
      have e1 : 65 ≤ a * 65 := Nat.le_mul_of_pos_left 65 ha
      have e2 : a * 65 ≤ a * b := Nat.mul_le_mul_left a (by omega)
      rw [Nat.min_eq_right e1, Nat.min_eq_right (Nat.le_trans e1 e2)]
  · rw [Nat.min_eq_right (show 65 ≤ a by omega)]
    have e0 : 1 ≤ min b 65 := by omega
    have e1 : 65 ≤ 65 * min b 65 := Nat.le_mul_of_pos_right 65 (by omega)
    have e2 : 65 ≤ a * b := Nat.le_trans (show 65 ≤ a by omega) (Nat.le_mul_of_pos_right a hb)
    rw [Nat.min_eq_right e1, Nat.min_eq_right e2]
/-- The number of ways of the first ones. -/
theorem cross5_snoc_len (l : List (List (List Lv5))) (m : List (List Lv5)) : (cross5 (l ++ [m])).length = (cross5 l).length * m.length := by
  induction l with
  | nil => rw [List.nil_append, cross5_len, cross5_nil]; simp
  | cons x l ih => rw [List.cons_append, cross5_len, cross5_len, ih, Nat.mul_assoc]
theorem flat15 {xs : List (List Value × List (List Lv5))} (h : ∀ x ∈ xs, x.1.length = 15) {j : Nat} {x : List Value × List (List Lv5)} (hx : xs[j]? = some x) {i : Nat} (hi : i < 15) {v : Value} (hv : x.1[i]? = some v) : (xs.flatMap Prod.fst)[j * 15 + i]? = some v := by
  induction xs generalizing j with
  | nil => simp at hx
  | cons y ys ih =>
    rw [List.flatMap_cons]
    have hy := h y (List.mem_cons_self ..)
    cases j with
    | zero =>
      simp only [List.getElem?_cons_zero, Option.some.injEq] at hx
      subst hx
      rw [Nat.zero_mul, Nat.zero_add, List.getElem?_append_left (by omega)]
      exact hv
    | succ j =>
      rw [List.getElem?_cons_succ] at hx
      rw [List.getElem?_append_right (by rw [hy, Nat.succ_mul]; omega), hy, show (j + 1) * 15 + i - 15 = j * 15 + i by rw [Nat.succ_mul]; omega]
      exact ih (fun z hz => h z (List.mem_cons_of_mem _ hz)) hx
set_option maxRecDepth 20000 in
set_option maxHeartbeats 4000000 in
theorem conjOf5_any (F : Nat → Prop) (B f : Nat) (v : Value) (xs : List (List Value × List (List Lv5))) (w : World) (hx : ∀ x ∈ xs, LiM F w f x.1 x.2) (ho : w.ownsRow B 172 15 v xs.length (xs.flatMap Prod.fst)) (hl : xs.length ≤ 3000000) :
    Calls Tryz.prog 100 #[v] w fun e w' => e = .returned (.agg #[v, .int .i64 (min (cross5 (xs.map Prod.snd)).length 65 : Nat)]) ∧ Below w.heap.size w w' := by
  obtain ⟨a, cap, rfl, -⟩ := row7_form ho
  have HX := hm7 hx
  obtain ⟨n, hn⟩ : ∃ n, xs.length = n := ⟨_, rfl⟩
  have HO : Hid (w.ownsRow B 172 15 (.slice a n cap) n (xs.flatMap Prod.fst)) := by rw [hn] at ho; exact ho
  rw [hn] at hl ⊢
  have HN := hm7 hn
  have HR0 := hm7 (Bk.new w #[.slice none 0 0, .int .i64 0] 153)
  have HB0 := hm7 (below1 w (.cells #[.slice none 0 0, .int .i64 0] 153))
  have HCT : Hid (∀ x ∈ xs, ∀ X : World, Calls Tryz.prog 115 #[.agg x.1.toArray] X fun e w' => e = .returned (.int .i64 (lc5 x.2 : Int)) ∧ Below X.heap.size X w') := fun x hx' X => count5_any (hx x hx') X
  obtain ⟨R, hR⟩ : ∃ R : Nat, (min (cross5 (xs.map Prod.snd)).length 65 : Nat) = R := ⟨_, rfl⟩
  rw [hR]
  have HR := hm7 hR
  clear hx ho hn hR
  go_enter Tryz.func100, Tryz.ntmps100
  go_upto_region 1 with fail
  revert HR0 HB0
  generalize w.alloc (.cells #[.slice none 0 0, .int .i64 0] 153) = Y0
  obtain ⟨q, hq⟩ : ∃ q, w.heap.size = q := ⟨_, rfl⟩
  intro HR0 HB0
  rw [hq] at HR0
  rw [hq]
  have HQ := hm7 hq
  clear hq
  go_wp2
  go_loopg [3, 5, 8] n (fun g ct _ i wr => ∃ j : Nat, j + g = n ∧ i = .int .i64 j ∧ ct = .int .i64 ((min (cross5 ((xs.take j).map Prod.snd)).length 65 : Nat) : Int) ∧ Below Y0.heap.size Y0 wr)
  case atStart => exact ⟨0, by omega, rfl, by simp [cross5_nil], Below.refl _ _⟩
  case round =>
    obtain ⟨j, hj, rfl, rfl, hb⟩ := hrel
    have HB := hm7 hb
    have HWr := hm7 (HB0.out.trans (hb.mono HB0.out.size))
    clear hb
    obtain ⟨ct, hct⟩ : ∃ ct : Nat, min (cross5 ((xs.take j).map Prod.snd)).length 65 = ct := ⟨_, rfl⟩
    rw [hct]
    have HCT2 := hm7 hct
    have hct65 : ct ≤ 65 := by omega
    clear hct
    cases gk with
    | succ g =>
      have hlt : (j : Int) < (n : Int) := by omega
      obtain ⟨x, hx⟩ : ∃ x, xs[j]? = some x := ⟨xs[j]'(by have := HN.out; omega), List.getElem?_eq_getElem _⟩
      have hxm := List.mem_of_getElem? hx
      have hshp := (HX.out x hxm).shape
      have hall : ∀ x ∈ xs, x.1.length = 15 := fun x hx => (HX.out x hx).cells.1
      have HC1 := hm7 (HCT.out x hxm)
      have HNE : Hid (0 < x.2.length) := List.length_pos_iff.2 (HX.out x hxm).ne
      have HTK : Hid ((xs.take (j + 1)).map Prod.snd = (xs.take j).map Prod.snd ++ [x.2]) := by show _ = _; rw [List.take_add_one, hx]; simp
      have HPN : Hid (0 < (cross5 ((xs.take j).map Prod.snd)).length) := List.length_pos_iff.2 (cross5_ne fun m hm => by
        obtain ⟨y, hy, rfl⟩ := List.mem_map.1 hm
        exact (HX.out y (List.mem_of_mem_take hy)).ne)
      obtain ⟨cs, m⟩ := x
      obtain ⟨k0, bk, bn, bs, nm, ya, yn, yc, op, lk, ln, ls, rk, rn, rs, va, vn, vc, N0, rfl⟩ := hshp
      obtain ⟨jb, rfl, -, hjb, p0, -⟩ := row7_at (i := j * 15 + 0) HO.out (flat15 hall hx (i := 0) (by omega) rfl)
      have P : ∀ (i : Nat) (u : Value), i < 15 → ([.int .i64 k0, .int .i64 bk, .int .i64 bn, .string bs, .string nm, .slice ya yn yc, .int .i64 op, .int .i64 lk, .int .i64 ln, .string ls, .int .i64 rk, .int .i64 rn, .string rs, .slice va vn vc, .int .i64 N0] : List Value)[i]? = some u → wr.cell? ⟨jb, j * 15 + i, none⟩ = some u := fun i u hi hu => by
        obtain ⟨jb2, e, -, -, p, -⟩ := row7_at (i := j * 15 + i) HO.out (flat15 hall hx hi hu)
        cases e
        exact (Fr.of (P := fun _ => False) (HWr.out)).cell hjb (fun z => z) p
      have q0 : wr.cell? ⟨jb, j * 15, none⟩ = some (.int .i64 k0) := P 0 (.int .i64 k0) (by omega) rfl
      have q1 := P 1 (.int .i64 bk) (by omega) rfl
      have q2 := P 2 (.int .i64 bn) (by omega) rfl
      have q3 := P 3 (.string bs) (by omega) rfl
      have q4 := P 4 (.string nm) (by omega) rfl
      have q5 := P 5 (.slice ya yn yc) (by omega) rfl
      have q6 := P 6 (.int .i64 op) (by omega) rfl
      have q7 := P 7 (.int .i64 lk) (by omega) rfl
      have q8 := P 8 (.int .i64 ln) (by omega) rfl
      have q9 := P 9 (.string ls) (by omega) rfl
      have q10 := P 10 (.int .i64 rk) (by omega) rfl
      have q11 := P 11 (.int .i64 rn) (by omega) rfl
      have q12 := P 12 (.string rs) (by omega) rfl
      have q13 := P 13 (.slice va vn vc) (by omega) rfl
      have q14 := P 14 (.int .i64 N0) (by omega) rfl
      have hjw : jb < wr.heap.size := Nat.lt_of_lt_of_le hjb HWr.out.size
      clear P hall hx hxm p0
      have HX1 := hm7 (Bk.new wr #[.int .i64 k0, .int .i64 bk, .int .i64 bn, .string bs, .string nm, .slice ya yn yc, .int .i64 op, .int .i64 lk, .int .i64 ln, .string ls, .int .i64 rk, .int .i64 rn, .string rs, .slice va vn vc, .int .i64 N0] 172)
      have HL1 := hm7 (below1 wr (.cells #[.int .i64 k0, .int .i64 bk, .int .i64 bn, .string bs, .string nm, .slice ya yn yc, .int .i64 op, .int .i64 lk, .int .i64 ln, .string ls, .int .i64 rk, .int .i64 rn, .string rs, .slice va vn vc, .int .i64 N0] 172))
      go_upto_region 5 with fail
      clear q0 q1 q2 q3 q4 q5 q6 q7 q8 q9 q10 q11 q12 q13 q14 hjw
      revert HX1 HL1
      generalize wr.alloc (.cells #[.int .i64 k0, .int .i64 bk, .int .i64 bn, .string bs, .string nm, .slice ya yn yc, .int .i64 op, .int .i64 lk, .int .i64 ln, .string ls, .int .i64 rk, .int .i64 rn, .string rs, .slice va vn vc, .int .i64 N0] 172) = W1
      obtain ⟨xb, hxb⟩ : ∃ xb, wr.heap.size = xb := ⟨_, rfl⟩
      intro HX1 HL1
      rw [hxb] at HX1
      rw [hxb]
      clear hxb
      have q0 := HX1.out.cell (i := 0) rfl
      have q1 := HX1.out.cell (i := 1) rfl
      have q2 := HX1.out.cell (i := 2) rfl
      have q3 := HX1.out.cell (i := 3) rfl
      have q4 := HX1.out.cell (i := 4) rfl
      have q5 := HX1.out.cell (i := 5) rfl
      have q6 := HX1.out.cell (i := 6) rfl
      have q7 := HX1.out.cell (i := 7) rfl
      have q8 := HX1.out.cell (i := 8) rfl
      have q9 := HX1.out.cell (i := 9) rfl
      have q10 := HX1.out.cell (i := 10) rfl
      have q11 := HX1.out.cell (i := 11) rfl
      have q12 := HX1.out.cell (i := 12) rfl
      have q13 := HX1.out.cell (i := 13) rfl
      have q14 := HX1.out.cell (i := 14) rfl
      obtain ⟨lm, hlm⟩ : ∃ lm, lc5 m = lm := ⟨_, rfl⟩
      have HC2 : Hid (∀ X : World, Calls Tryz.prog 115 #[.agg #[.int .i64 k0, .int .i64 bk, .int .i64 bn, .string bs, .string nm, .slice ya yn yc, .int .i64 op, .int .i64 lk, .int .i64 ln, .string ls, .int .i64 rk, .int .i64 rn, .string rs, .slice va vn vc, .int .i64 N0]] X fun e w' => e = .returned (.int .i64 (lm : Int)) ∧ Below X.heap.size X w') := fun X => by rw [← hlm]; exact HC1.out X
      have hlm65 : lm ≤ 65 := by rw [← hlm]; unfold lc5; omega
      have HLM := hm7 hlm
      have hml : ct * lm ≤ 65 * 65 := Nat.mul_le_mul hct65 hlm65
      have hpr : (ct : Int) * (lm : Int) = ((ct * lm : Nat) : Int) := by simp
      have HMN : Hid (min (ct * lm) 65 = min (cross5 ((xs.take (j + 1)).map Prod.snd)).length 65) := by
        show _ = _
        rw [HTK.out, cross5_snoc_len, ← HCT2.out, ← HLM.out]
        exact min_mul5 HPN.out HNE.out
      obtain ⟨pr, hpe⟩ : ∃ pr, ct * lm = pr := ⟨_, rfl⟩
      rw [hpe] at hpr hml HMN
      clear hlm HC1 hpe
      go_wp2_with (go_at_call 115; refine (HC2.out _).mono ?_; rintro e W2 ⟨rfl, hb⟩; have HB2 := hm7 (HL1.out.trans (hb.mono HL1.out.size)); clear hb q0 q1 q2 q3 q4 q5 q6 q7 q8 q9 q10 q11 q12 q13 q14)
      all_goals
        go_roundg g
        case measure => omega
        case rel =>
          refine ⟨j + 1, by omega, by go_num, ?_, HB.out.trans (HB2.out.mono HB.out.size)⟩
          rw [← HMN.out]
          congr 1
          omega
    | zero =>
      obtain rfl : j = n := by omega
      have hlt : ¬ (j : Int) < (j : Int) := by omega
      have hRc : ct = R := by rw [← HR.out, ← HCT2.out, List.take_of_length_le (by rw [HN.out]; exact Nat.le_refl _)]
      subst hRc
      have HRr := hm7 (HR0.out.below HB.out)
      have r0 := HRr.out.cell (i := 0) rfl
      have r1 := HRr.out.cell (i := 1) rfl
      have f0 := HRr.out.froz 0
      have f1 := HRr.out.froz 1
      have hrl := HRr.out.lt
      have HZ := hm7 ((HRr.out.set 0 (.slice a j cap)).set 1 (.int .i64 (ct : Int)))
      have z0 := HZ.out.cell (i := 0) rfl
      have z1 := HZ.out.cell (i := 1) rfl
      have HBZ : Hid (Below w.heap.size w ((wr.setCell ⟨q, 0, none⟩ (.slice a j cap)).setCell ⟨q, 1, none⟩ (.int .i64 (ct : Int)))) := (HWr.out.setCell (p := ⟨q, 0, none⟩) (Nat.le_of_eq HQ.out) _).setCell (p := ⟨q, 1, none⟩) (Nat.le_of_eq HQ.out) _
      go_wp2
      refine bodyPost_ret (v := .agg #[.slice a j cap, .int .i64 (ct : Int)]) (by simp [results, Tryz.results100, go_sem, z0, z1]) rfl ?_
      exact ⟨rfl, HBZ.out⟩
theorem flat2 {xs : List ((Value × Nat) × List (List Lv5))} {j : Nat} {x : (Value × Nat) × List (List Lv5)} (hx : xs[j]? = some x) : (xs.flatMap fun x => [x.1.1, Value.int .i64 (x.1.2 : Int)])[j * 2]? = some x.1.1 ∧ (xs.flatMap fun x => [x.1.1, Value.int .i64 (x.1.2 : Int)])[j * 2 + 1]? = some (.int .i64 (x.1.2 : Int)) := by
  induction xs generalizing j with
  | nil => simp at hx
  | cons y ys ih =>
    rw [List.flatMap_cons]
    cases j with
    | zero =>
      simp only [List.getElem?_cons_zero, Option.some.injEq] at hx
      subst hx
      exact ⟨rfl, rfl⟩
    | succ j =>
      rw [List.getElem?_cons_succ] at hx
      rw [show (j + 1) * 2 = j * 2 + 2 by omega]
      exact ih hx
set_option maxRecDepth 20000 in
set_option maxHeartbeats 4000000 in
theorem altOf5_any (F : Nat → Prop) (B : Nat) (P : List Value → List (List Lv5) → Prop) (v : Value) (xs : List ((Value × Nat) × List (List Lv5))) (w : World) (hx : ∀ x ∈ xs, CjM F P w x.1.1 x.1.2 x.2) (ho : w.ownsRow B 153 2 v xs.length (xs.flatMap fun x => [x.1.1, .int .i64 (x.1.2 : Int)])) (hl : xs.length ≤ 3000000) :
    Calls Tryz.prog 99 #[v] w fun e w' => e = .returned (.agg #[v, .int .i64 (min ((xs.map Prod.snd).flatten).length 65 : Nat)]) ∧ Below w.heap.size w w' := by
  obtain ⟨a, cap, rfl, -⟩ := row7_form ho
  have HX := hm7 hx
  obtain ⟨n, hn⟩ : ∃ n, xs.length = n := ⟨_, rfl⟩
  have HO : Hid (w.ownsRow B 153 2 (.slice a n cap) n (xs.flatMap fun x => [x.1.1, .int .i64 (x.1.2 : Int)])) := by rw [hn] at ho; exact ho
  rw [hn] at hl ⊢
  have HN := hm7 hn
  have HR0 := hm7 (Bk.new w #[.slice none 0 0, .int .i64 0] 125)
  have HB0 := hm7 (below1 w (.cells #[.slice none 0 0, .int .i64 0] 125))
  obtain ⟨R, hR⟩ : ∃ R : Nat, (min ((xs.map Prod.snd).flatten).length 65 : Nat) = R := ⟨_, rfl⟩
  rw [hR]
  have HR := hm7 hR
  clear hx ho hn hR
  go_enter Tryz.func99, Tryz.ntmps99
  go_upto_region 1 with fail
  revert HR0 HB0
  generalize w.alloc (.cells #[.slice none 0 0, .int .i64 0] 125) = Y0
  obtain ⟨q, hq⟩ : ∃ q, w.heap.size = q := ⟨_, rfl⟩
  intro HR0 HB0
  rw [hq] at HR0
  rw [hq]
  have HQ := hm7 hq
  clear hq
  go_wp2
  go_loopg [3, 5, 8] n (fun g ct _ i wr => ∃ j : Nat, j + g = n ∧ i = .int .i64 j ∧ ct = .int .i64 ((min (((xs.take j).map Prod.snd).flatten).length 65 : Nat) : Int) ∧ Below Y0.heap.size Y0 wr)
  case atStart => exact ⟨0, by omega, rfl, by simp, Below.refl _ _⟩
  case round =>
    obtain ⟨j, hj, rfl, rfl, hb⟩ := hrel
    have HB := hm7 hb
    have HWr := hm7 (HB0.out.trans (hb.mono HB0.out.size))
    clear hb
    obtain ⟨ct, hct⟩ : ∃ ct : Nat, min (((xs.take j).map Prod.snd).flatten).length 65 = ct := ⟨_, rfl⟩
    rw [hct]
    have HCT2 := hm7 hct
    have hct65 : ct ≤ 65 := by omega
    clear hct
    cases gk with
    | succ g =>
      have hlt : (j : Int) < (n : Int) := by omega
      obtain ⟨x, hx⟩ : ∃ x, xs[j]? = some x := ⟨xs[j]'(by have := HN.out; omega), List.getElem?_eq_getElem _⟩
      have hxm := List.mem_of_getElem? hx
      obtain ⟨ys, hy1, hy2, hy3, hy4, hy5⟩ := HX.out x hxm
      obtain ⟨ya, yc, hyf, -⟩ := row7_form hy2.1
      have HTK : Hid (((xs.take (j + 1)).map Prod.snd).flatten.length = ((xs.take j).map Prod.snd).flatten.length + x.2.length) := by show _ = _; rw [List.take_add_one, hx]; simp
      have HY4 := hm7 hy4
      obtain ⟨f0, f1⟩ := flat2 hx
      obtain ⟨jb, rfl, -, hjb, p0, -⟩ := row7_at (i := j * 2) HO.out f0
      obtain ⟨jb1, hjb1, -, -, p1, -⟩ := row7_at (i := j * 2 + 1) HO.out f1
      simp only [Option.some.injEq, Addr.mk.injEq, and_true] at hjb1
      subst hjb1
      have q0 := (Fr.of (P := fun _ => False) (HWr.out)).cell hjb (fun z => z) p0
      have q1 := (Fr.of (P := fun _ => False) (HWr.out)).cell hjb (fun z => z) p1
      have hjw : jb < wr.heap.size := Nat.lt_of_lt_of_le hjb HWr.out.size
      obtain ⟨⟨xv, xn⟩, m⟩ := x
      dsimp only at q0 q1 hyf HY4 HTK
      generalize ys.length = yn at hyf
      subst hyf
      clear hx hxm hy1 hy2 hy3 hy4 hy5 p0 p1 f0 f1
      have hxn : xn ≤ 65 := by rw [HY4.out]; omega
      have HMN : Hid (min (ct + xn) 65 = min (((xs.take (j + 1)).map Prod.snd).flatten).length 65) := by
        show _ = _
        rw [HTK.out, ← HCT2.out, HY4.out]
        omega
      have HL1 := hm7 (below1 wr (.cells #[.slice ya yn yc, .int .i64 (xn : Int)] 153))
      go_wp2
      all_goals
        go_roundg g
        case measure => omega
        case rel =>
          refine ⟨j + 1, by omega, by go_num, ?_, HB.out.trans (HL1.out.mono HB.out.size)⟩
          rw [← HMN.out]
          congr 1
          omega
    | zero =>
      obtain rfl : j = n := by omega
      have hlt : ¬ (j : Int) < (j : Int) := by omega
      have hRc : ct = R := by rw [← HR.out, ← HCT2.out, List.take_of_length_le (by rw [HN.out]; exact Nat.le_refl _)]
      subst hRc
      have HRr := hm7 (HR0.out.below HB.out)
      have r0 := HRr.out.cell (i := 0) rfl
      have r1 := HRr.out.cell (i := 1) rfl
      have f0 := HRr.out.froz 0
      have f1 := HRr.out.froz 1
      have hrl := HRr.out.lt
      have HZ := hm7 ((HRr.out.set 0 (.slice a j cap)).set 1 (.int .i64 (ct : Int)))
      have z0 := HZ.out.cell (i := 0) rfl
      have z1 := HZ.out.cell (i := 1) rfl
      have HBZ : Hid (Below w.heap.size w ((wr.setCell ⟨q, 0, none⟩ (.slice a j cap)).setCell ⟨q, 1, none⟩ (.int .i64 (ct : Int)))) := (HWr.out.setCell (p := ⟨q, 0, none⟩) (Nat.le_of_eq HQ.out) _).setCell (p := ⟨q, 1, none⟩) (Nat.le_of_eq HQ.out) _
      go_wp2
      refine bodyPost_ret (v := .agg #[.slice a j cap, .int .i64 (ct : Int)]) (by simp [results, Tryz.results99, go_sem, z0, z1]) rfl ?_
      exact ⟨rfl, HBZ.out⟩
end Go.Proofs.YtnikmcmkbjjcdaaGreatDoor
