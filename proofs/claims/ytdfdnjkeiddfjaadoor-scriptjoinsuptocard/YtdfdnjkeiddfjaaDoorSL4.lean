/-
  hearsaylaw25: ScriptJoins' walk.
-/
import Derived.Test.YtdfdnjkeiddfjaaDoorSX4
namespace Go.Proofs.YtdfdnjkeiddfjaaDoor
open Go.RowKit
attribute [local go_sem ↓] Go.wp_at_zero Go.wp_at_succ

def lisL (T : List ByteArray) (j : Nat) : List ByteArray := (T.take j).map liL
theorem lis_len (T : List ByteArray) {j : Nat} (h : j ≤ T.length) : (lisL T j).length = j := by unfold lisL; rw [List.length_map, List.length_take]; omega
theorem lis_succ (T : List ByteArray) {j : Nat} {s : ByteArray} (h : T[j]? = some s) : lisL T (j + 1) = lisL T j ++ [liL s] := by
  unfold lisL
  rw [List.take_add_one, h]
  simp
theorem lis_no (T : List ByteArray) (j : Nat) : ∀ s ∈ lisL T j, ∀ x ∈ blK s, x ≠ 10 := fun s hs => by
  obtain ⟨t, -, rfl⟩ := List.mem_map.1 hs
  exact li_no t
theorem jlS_le (T : List ByteArray) : ∀ j, (jlS (lisL T j)).length ≤ (T.map fun s => s.size + 1).sum := by
  induction T with
  | nil => intro j; simp [lisL, jlS]
  | cons s T ih =>
    intro j
    cases j with
    | zero => simp [lisL, jlS]
    | succ j =>
      have e : lisL (s :: T) (j + 1) = liL s :: lisL T j := rfl
      have := ih j
      have h2 := li_size s
      rw [e, jlS_cons]
      simp only [List.length_append, List.length_cons, bl_len, List.map_cons, List.sum_cons]
      omega
theorem bulk_at {T : List ByteArray} {j : Nat} {s : ByteArray} (h : T[j]? = some s) : s.size + 1 ≤ (T.map fun s => s.size + 1).sum := by
  induction T generalizing j with
  | nil => simp at h
  | cons t T ih =>
    cases j with
    | zero => simp at h; subst h; simp
    | succ j =>
      have := ih (j := j) (by simpa using h)
      simp only [List.map_cons, List.sum_cons]
      omega
set_option maxRecDepth 20000 in
set_option maxHeartbeats 4000000 in
theorem sjoins_any (T : List ByteArray) (v : Value) (w : World) (hv : LsS w v T) (hE0 : EnS w) (hs : (T.map fun s => s.size + 1).sum ≤ 1048576) (hl : T.length ≤ 1048576) : Calls Tryd.prog 8 #[v] w fun e w' => e = .returned (.bool true) ∧ Below w.heap.size w w' := by
  have HE := hm7 hE0
  have HV := hm7 hv
  have HS := hm7 hs
  have HLE := hm7 (jlS_le T)
  have HL : Hid (∀ s : ByteArray, s.size ≤ 9000000 → ∀ X, Calls Tryd.prog 18 #[.string s] X fun e w' => e = .returned (.string (liL s)) ∧ Below X.heap.size X w') := fun s h X => lineL_any s h X
  have HF : Hid (∀ X, EnS X → Calls Tryd.prog 12 #[] X fun e w' => e = .returned (.bool true) ∧ Below X.heap.size X w') := fun X h => first_any X h
  obtain ⟨a, c, rfl⟩ := hv.fm
  obtain ⟨N, hN⟩ : ∃ N, T.length = N := ⟨_, rfl⟩
  have HN := hm7 hN
  rw [hN] at hl HV ⊢
  clear hE0 hv hs hN
  go_enter Tryd.func8, Tryd.ntmps8
  go_upto_region 4 with (fail)
  go_loopg [3, 4, 5] (min N 60) (fun gg t x i wr => ∃ (j : Nat) (b : ByteArray), j + gg = min N 60 ∧ i = .int .i64 j ∧ t = .string b ∧ blK b = jlS (lisL T j) ∧ OwS wr w.heap.size x (lisL T j) ∧ Below w.heap.size w wr)
  case atStart => exact ⟨0, ⟨#[]⟩, by omega, rfl, rfl, rfl, World.ownsRow_nil _ _ _ _, Below.refl _ _⟩
  case round =>
    obtain ⟨j, b, hj, rfl, rfl, hbk, ho, hb⟩ := hrel
    have HO := hm7 ho
    have HB := hm7 hb
    have HBK := hm7 hbk
    have hsz := hb.size
    have x1 := (HV.out.later hb).at_ (i := j)
    have hjl := lis_len T (j := j) (by have := HN.out; omega)
    obtain ⟨oa, oc, rfl⟩ := ho.fm
    rw [hjl]
    rw [hjl] at HO
    have HJL := hm7 hjl
    clear ho hb hbk hjl
    cases gk with
    | succ gg =>
      have hlt : (j : Int) < (N : Int) := by omega
      have hlt6 : (j : Int) < 60 := by omega
      have h0 : (0 : Int) ≤ (j : Int) := by omega
      obtain ⟨x, bb, o, rfl, y1, y2⟩ := x1 (by have := HN.out; omega)
      have hls := lis_succ T y1
      have hx := bulk_at y1
      have HLS := hm7 hls
      have HX := hm7 hx
      have HLX := hm7 (HL.out x (by have := HS.out; omega))
      have q1 := li_size x
      have q2 : b.size ≤ 1048576 := by have := HS.out; have := HLE.out j; have := congrArg List.length HBK.out; rw [bl_len] at this; omega
      have q3 := HS.out
      obtain ⟨A1, hA1⟩ : ∃ A, b ++ liL x = A := ⟨_, rfl⟩
      have g1 : ¬ 9223372036854775807 < b.size + (liL x).size := by omega
      have q4 : A1.size = b.size + (liL x).size := by rw [← hA1, ByteArray.size_append]
      have g2 : ¬ 9223372036854775807 < A1.size + 1 := by omega
      have HA1 := hm7 hA1
      clear hls hx q1 q2 q3 q4
      go_wp2_with (first | (go_at_call 18; with_reducible refine (HLX.out _).mono ?_; rintro e w3 ⟨rfl, hb3⟩; have HB3 := hm7 hb3; have hz3 := hb3.size; clear hb3) | (at_builtin; refine gappS Tryd.underlying45 Tryd.infoStrS rfl (by omega) rfl _ _ rfl w.heap.size (.slice oa j oc) j ((lisL T j).map Value.string) rfl (by have := rowS_below (HO.out) HB3.out; have := rowS_below this (below1K w3 (.cells #[.string (liL x)] 9)); rw [HJL.out] at this; exact this) (.slice (some ⟨w3.heap.size, 0, none⟩) 1 1) 1 [.string (liL x)] rfl (one_srcS (BlkK.new w3 #[.string (liL x)] 9)) (by simp [Value.oneCell']) (by omega) (by omega) (by simp; omega) ?_; intro v6 w6 ho6 hg6 hv6; obtain ⟨a6, c6, rfl, -⟩ := rowS_form ho6; have HX6 := hm7 (And.intro ho6 hg6); clear ho6 hg6 hv6))
      go_roundg gg
      case measure => omega
      case rel =>
        refine ⟨j + 1, _, by omega, by go_num, rfl, ?_, ?_, ?_⟩
        · rw [← HA1.out, HLS.out, jlS_app, ← HBK.out, bl_append, bl_append]
          simp [jlS]
          rfl
        · rw [HLS.out]
          unfold OwS
          rw [List.length_append, HJL.out, List.map_append]
          exact HX6.out.1
        · have hr := rowS_below (rowS_below HO.out HB3.out) (below1K w3 (.cells #[.string (liL x)] 9))
          rw [HJL.out] at hr
          exact ((HB.out.trans (HB3.out.mono hsz)).trans ((below1K w3 _).mono (by omega))).trans (grownS hr HX6.out.2 (by simp; omega))
    | zero =>
      clear x1
      obtain ⟨L, hL⟩ : ∃ L, lisL T j = L := ⟨_, rfl⟩
      have hno := lis_no T j
      have hle := HLE.out j
      have hb1 := HBK.out
      rw [hL] at hno hle hb1 HO HJL
      have hbs : b.size ≤ 1048576 := by have := HS.out; rw [← bl_len, hb1]; omega
      have hln := ln_join hb1 hno
      have HA : Hid (∀ X, EnS X → Calls Tryd.prog 15 #[.string b] X fun e w' => ∃ v, e = .returned v ∧ OwS w' X.heap.size v L ∧ Below X.heap.size X w') := fun X h => by rw [← hln]; exact aSLinesE_any b (by omega) X h
      have HTX : Hid (∀ (X : World) u u', LsS X u L → LsS X u' L → Calls Tryd.prog 20 #[u, u'] X fun e w' => e = .returned (.bool true) ∧ Below X.heap.size X w') := fun X u u' h h' => textsL_any L u u' X h h' (by have := HJL.out; omega)
      have HO' : Hid (LsS wr (.slice oa j oc) L) := HO.out.ls
      have HER := hm7 (HE.out.later HB.out)
      have HNO := hm7 hno
      have HB1 := hm7 hb1
      have hcond : ¬ ((j : Int) < (N : Int)) ∨ ((j : Int) < (N : Int) ∧ ¬ (j : Int) < 60) := by omega
      have HJ6 : Hid (j ≤ 60) := by show j ≤ 60; omega
      have HJ : Hid (j = 0 ∨ ∃ k m x bb o, j = k + 1 ∧ b.size = m + 1 ∧ L[k]? = some x ∧ oa = some ⟨bb, o, none⟩ ∧ (∀ X, Below wr.heap.size wr X → X.cell? ⟨bb, o + k, none⟩ = some (.string x)) ∧ (x ≠ ⟨#[]⟩ → lnS (b.extract 0 m) = L)) := by
        cases j with
        | zero => exact Or.inl rfl
        | succ k =>
          right
          have hk : k < L.length := by have := HJL.out; omega
          obtain ⟨x, bb, o, h1, h2, -⟩ := HO'.out.at_ hk
          have hlast : L = L.take k ++ [x] := by
            have h4 := List.take_add_one (l := L) (i := k)
            rw [h2, List.take_of_length_le (by have := HJL.out; omega)] at h4
            exact h4
          have hm : (blK b).length = (jlS (L.take k)).length + ((blK x).length + 1) := by
            rw [hb1]
            conv => lhs; rw [hlast]
            rw [jlS_app]
            simp [jlS]
          refine ⟨k, b.size - 1, x, bb, o, rfl, by rw [← bl_len]; omega, h2, h1, fun X hX => ?_, fun hx => ?_⟩
          · obtain ⟨x', b', o', e1, e2, e3⟩ := (HO'.out.later hX).at_ hk
            rw [h1] at e1
            cases e1
            rw [h2] at e2
            cases e2
            exact e3
          · have hxs : x.size ≠ 0 := fun e => hx ((bz_iff x).1 e)
            have hbe : blK (b.extract 0 (b.size - 1)) = jlS (L.take k) ++ blK x := by
              rw [bl_extract]
              have e : blK b = (jlS (L.take k) ++ blK x) ++ [10] := by
                rw [hb1]
                conv => lhs; rw [hlast]
                rw [jlS_app]
                simp [jlS]
              rw [e, List.take_left' (by rw [List.length_append, ← bl_len]; omega)]
            have h5 := ln_joinCut hbe (fun s hs => hno s (List.mem_of_mem_take hs)) (hno x (by rw [hlast]; simp)) hxs
            rw [h5]
            exact hlast.symm
      clear hno hle hb1 hln hL HBK hj
      have HCX : Hid (∀ c : ByteArray, c.size ≤ 2000000 → lnS c = L → ∀ X, EnS X → Calls Tryd.prog 15 #[.string c] X fun e w' => ∃ v, e = .returned v ∧ OwS w' X.heap.size v L ∧ Below X.heap.size X w') := fun c h1 h2 X h => by rw [← h2]; exact aSLinesE_any c (by omega) X h
      obtain ⟨W1, hW1⟩ : ∃ W : World, W = wr := ⟨_, rfl⟩
      rcases hcond with hc | ⟨hc, hc6⟩ <;>
      · go_upto_region 10 with (go_at_call 15; refine (HA.out _ HER.out).mono ?_; rintro e w4 ⟨v4, rfl, ho4, hb4⟩)
        have H4 := hm7 ho4.ls
        have HB4 := hm7 hb4
        have HE4 := hm7 (HER.out.later hb4)
        have HW4 := hm7 (HO'.out.later hb4)
        clear ho4 hb4 hc
        try clear hc6
        go_upto_region 12 with (first | (go_at_call 20; with_reducible refine (HTX.out _ _ _ H4.out HW4.out).mono ?_; rintro e w5 ⟨rfl, hb5⟩; have HB5 := hm7 hb5; clear hb5) | (go_at_call 12; refine (HF.out _ (HE4.out.later HB5.out)).mono ?_; rintro e w6 ⟨rfl, hb6⟩; have HB6 := hm7 hb6; clear hb6))
        have HB46 : Hid (Below wr.heap.size wr w6) := below_stepK (below_stepK HB4.out HB5.out) HB6.out
        rcases HJ.out with hj0 | ⟨k, m, x, bb, o, hjk, hbm, hx, rfl, hcell, hcut⟩
        · subst hj0
          go_wp2
          go_ret
          exact ⟨rfl, HB.out.trans (HB46.out.mono HB.out.size)⟩
        · subst hjk
          have c1 := hcell w6 HB46.out
          have k0 : (0 : Int) ≤ (k : Int) := by omega
          have k6 : (k : Int) + 1 ≤ 60 := by have := HJ6.out; omega
          have e0 : ((k : Int) + 1 == 0) = false := by rw [beq_eq_false_iff_ne]; omega
          have k1 : (k : Int) < (k : Int) + 1 := by omega
          by_cases hx0 : x = ⟨#[]⟩
          · subst hx0
            go_wp2
            go_ret
            exact ⟨rfl, HB.out.trans (HB46.out.mono HB.out.size)⟩
          · have hx1 : ¬ x.toList = [] := fun e => hx0 (toList_injK (e.trans emptyL.symm))
            have hx2 : x.toList.isEmpty = false := by rw [isEK]; simpa using hx0
            have m0 : (0 : Int) ≤ (m : Int) := by omega
            have m1 : (m : Int) ≤ (m : Int) + 1 := by omega
            have m2 : (m : Int) ≤ (b.size : Int) := by omega
            have HC2 := hm7 (HCX.out (b.extract 0 m) (by rw [ByteArray.size_extract]; omega) (hcut hx0) w6 (HE4.out.later (below_stepK HB5.out HB6.out)))
            have HW6 := hm7 (HW4.out.later (below_stepK HB5.out HB6.out))
            go_wp2_with (first | (go_at_call 15; with_reducible refine HC2.out.mono ?_; rintro e w7 ⟨v7, rfl, ho7, hb7⟩; have H7 := hm7 ho7.ls; have HB7 := hm7 hb7; have HW7 := hm7 (HW6.out.later hb7); clear ho7 hb7) | (go_at_call 20; with_reducible refine (HTX.out _ _ _ H7.out HW7.out).mono ?_; rintro e w8 ⟨rfl, hb8⟩; have HB8 := hm7 hb8; clear hb8))
            go_ret
            exact ⟨rfl, HB.out.trans ((below_stepK (below_stepK HB46.out HB7.out) HB8.out).mono HB.out.size)⟩
end Go.Proofs.YtdfdnjkeiddfjaaDoor
