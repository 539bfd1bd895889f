/-
  lineEnd, digitValue, hexByte, escapeAt.
-/
import Derived.Test.YtdfdnjkeiddfjaaDoorSC1
namespace Go.Proofs.YtdfdnjkeiddfjaaDoor
open Go.RowKit

theorem ret_2 {a a' b b' : Value} (h : a = a') (h' : b = b') : Ending.returned (.tuple #[a, b]) = .returned (.tuple #[a', b']) := by rw [h, h']
theorem le_yes {l : List Int} {c : Int} (h : c = 10) : le_ (c :: l) = 0 := by unfold le_; rw [if_pos h]
theorem le_no {l : List Int} {c : Int} (h : ¬ c = 10) : le_ (c :: l) = le_ l + 1 := by show (if c = 10 then 0 else le_ l + 1) = _; rw [if_neg h]
theorem lineEnd_any (s : ByteArray) (j0 : Nat) (h0 : j0 ≤ s.size) (hs : s.size < 4611686018427387904) (w : World) :
    Calls Tryd.prog 27 #[.string s, .int .i64 j0] w fun e w' => e = .returned (.int .i64 ((j0 + le_ ((blK s).drop j0) : Nat) : Int)) ∧ w' = w := by
  obtain ⟨R, hR⟩ : ∃ R, j0 + le_ ((blK s).drop j0) = R := ⟨_, rfl⟩
  rw [hR]
  go_enter Tryd.func27, Tryd.ntmps27
  go_wp2
  go_loopg [1] (s.size - j0) (fun g i wr => ∃ j : Nat, j + g = s.size ∧ i = .int .i64 j ∧ j + le_ ((blK s).drop j) = R ∧ wr = w)
  case atStart => exact ⟨j0, by omega, rfl, hR, rfl⟩
  case round =>
    obtain ⟨j, hj, rfl, hr, rfl⟩ := hrel
    have HR : Hid (j + le_ ((blK s).drop j) = R) := hr
    clear hr hR
    cases gk with
    | succ g =>
      have hlt : j < s.size := by omega
      have i1 : (j : Int) < (s.size : Int) := by omega
      have hidx := run_index_atK s j hlt (j : Int) rfl
      have HD : Hid ((blK s).drop j = atK_ s j :: (blK s).drop (j + 1)) := bl_drop hlt
      obtain ⟨c, hc⟩ : ∃ c, atK_ s j = c := ⟨_, rfl⟩
      rw [hc] at hidx HD
      clear hc
      by_cases hb : c = 10
      · have HB : Hid (c = 10) := hb
        have n1 : (c == 10) = true := by simp [hb]
        have n2 : (c != 10) = false := by simp [hb]
        clear hb
        go_wp2
        go_ret
        exact ⟨by rw [← HR.out, HD.out, le_yes HB.out]; rfl, rfl⟩
      · have HB : Hid (¬ c = 10) := hb
        have n1 : (c == 10) = false := beq_eq_false_iff_ne.2 hb
        have n2 : (c != 10) = true := by simp [hb]
        clear hb
        go_wp2
        go_roundg g
        case measure => omega
        case rel => exact ⟨j + 1, by omega, by go_num, by rw [← HR.out, HD.out, le_no HB.out]; omega, rfl⟩
    | zero =>
      obtain rfl : j = s.size := by omega
      have hz : ¬ ((s.size : Int) < (s.size : Int)) := by omega
      go_wp2
      go_ret
      exact ⟨by rw [← HR.out, bl_drop_end (Nat.le_refl _)]; rfl, rfl⟩
set_option maxHeartbeats 400000 in
theorem digitValue_any (c : Int) (h0 : 0 ≤ c) (h1 : c ≤ 255) (w : World) :
    Calls Tryd.prog 88 #[.int .u8 c] w fun e w' => e = .returned (.tuple #[.int .u8 ((hexv c).getD 0), .bool (hexv c).isSome]) ∧ w' = w := by
  have cd := digit_any c
  by_cases a : 48 ≤ c ∧ c ≤ 57
  · have e : dig c = true := by simp [dig, a]
    have E : hexv c = some (c - 48) := by unfold hexv; rw [if_pos a]
    rw [e] at cd
    rw [E]
    obtain ⟨a1, a2⟩ := a
    clear e E
    go_enter Tryd.func88, Tryd.ntmps88
    go_wp2_with (go_at_call 39; refine (cd _).mono ?_; rintro e w1 ⟨rfl, rfl⟩)
    go_ret2
    exact ⟨ret_2 rfl rfl, rfl⟩
  · have e : dig c = false := by simp [dig]; omega
    rw [e] at cd
    clear e
    by_cases b : 97 ≤ c ∧ c ≤ 102
    · have E : hexv c = some (c - 87) := by unfold hexv; rw [if_neg a, if_pos b]
      rw [E]
      obtain ⟨b1, b2⟩ := b
      clear a E
      go_enter Tryd.func88, Tryd.ntmps88
      go_wp2_with (go_at_call 39; refine (cd _).mono ?_; rintro e w1 ⟨rfl, rfl⟩)
      go_ret2
      exact ⟨ret_2 (by simp; omega) rfl, rfl⟩
    · by_cases d : 65 ≤ c ∧ c ≤ 70
      · have E : hexv c = some (c - 55) := by unfold hexv; rw [if_neg a, if_neg b, if_pos d]
        rw [E]
        obtain ⟨d1, d2⟩ := d
        have b1 : ¬ 97 ≤ c := by omega
        clear a b E
        go_enter Tryd.func88, Tryd.ntmps88
        go_wp2_with (go_at_call 39; refine (cd _).mono ?_; rintro e w1 ⟨rfl, rfl⟩)
        go_ret2
        exact ⟨ret_2 (by simp; omega) rfl, rfl⟩
      · have E : hexv c = none := by unfold hexv; rw [if_neg a, if_neg b, if_neg d]
        rw [E]
        clear a E
        have b' : c < 97 ∨ (97 ≤ c ∧ 102 < c) := by omega
        have d' : c < 65 ∨ (65 ≤ c ∧ 70 < c) := by omega
        clear b d
        rcases b' with b1 | ⟨b1, b2⟩ <;> rcases d' with d1 | ⟨d1, d2⟩ <;> first | (exfalso; omega) | skip
        all_goals
          go_enter Tryd.func88, Tryd.ntmps88
          go_wp2_with (go_at_call 39; refine (cd _).mono ?_; rintro e w1 ⟨rfl, rfl⟩)
          go_ret2
          exact ⟨ret_2 rfl rfl, rfl⟩
theorem hexv_rng {c x : Int} (h : hexv c = some x) : 0 ≤ x ∧ x ≤ 15 := by
  unfold hexv at h
  split at h
  · simp at h; omega
  · split at h
    · simp at h; omega
    · split at h
      · simp at h; omega
      · simp at h
theorem or_nat : ∀ a : Nat, a < 16 → ∀ b : Nat, b < 16 → bits BinOp.or IntKind.u8 ((a : Int) * 16) (b : Int) = (a : Int) * 16 + b := by decide
theorem or_hl (h l : Int) (h0 : 0 ≤ h) (h1 : h ≤ 15) (l0 : 0 ≤ l) (l1 : l ≤ 15) : bits BinOp.or IntKind.u8 (h * 16) l = h * 16 + l := by
  obtain ⟨a, rfl⟩ : ∃ a : Nat, h = a := ⟨h.toNat, by omega⟩
  obtain ⟨b, rfl⟩ : ∃ b : Nat, l = b := ⟨l.toNat, by omega⟩
  exact or_nat a (by omega) b (by omega)
set_option maxHeartbeats 1000000 in
theorem hexByte_any (s : ByteArray) (j : Nat) (hj : j < 4611686018427387904) (w : World) :
    Calls Tryd.prog 80 #[.string s, .int .i64 j] w fun e w' => e = .returned (.tuple #[.int .u8 ((hex2 ((blK s).drop j)).getD 0), .bool (hex2 ((blK s).drop j)).isSome]) ∧ w' = w := by
  rcases Nat.lt_or_ge s.size (j + 2) with h | h
  · have e : hex2 ((blK s).drop j) = none := by
      have hl : ((blK s).drop j).length < 2 := by rw [List.length_drop, bl_len]; omega
      match (blK s).drop j, hl with
      | [], _ => rfl
      | [_], _ => rfl
    have i1 : (s.size : Int) < (j : Int) + 2 := by omega
    rw [e]
    clear e
    go_enter Tryd.func80, Tryd.ntmps80
    go_wp2
    go_ret2
    exact ⟨ret_2 rfl rfl, rfl⟩
  · have i1 : ¬ (s.size : Int) < (j : Int) + 2 := by omega
    have x1 := run_index_atK s j (by omega) (j : Int) rfl
    have x2 := run_index_atK s (j + 1) (by omega) ((j : Int) + 1) (by omega)
    have c1 := digitValue_any (atK_ s j) (at_range s j).1 (at_range s j).2
    have c2 := digitValue_any (atK_ s (j + 1)) (at_range s (j + 1)).1 (at_range s (j + 1)).2
    rw [bl_drop (by omega), bl_drop (by omega)]
    obtain ⟨a, ha⟩ : ∃ c, atK_ s j = c := ⟨_, rfl⟩
    obtain ⟨b, hb⟩ : ∃ c, atK_ s (j + 1) = c := ⟨_, rfl⟩
    rw [ha] at x1 c1 ⊢
    rw [hb] at x2 c2 ⊢
    clear ha hb
    cases u : hexv a <;> cases v : hexv b
    all_goals
      rw [u] at c1
      rw [v] at c2
      simp only [Option.getD_some, Option.getD_none, Option.isSome_some, Option.isSome_none] at c1 c2
    case some.some x y =>
      have r1 := hexv_rng u
      have r2 := hexv_rng v
      have ho := or_hl x y r1.1 r1.2 r2.1 r2.2
      have r3 := r1.1
      have r4 := r1.2
      rw [show hex2 (a :: b :: (blK s).drop (j + 1 + 1)) = some (x * 16 + y) by simp [hex2, u, v]]
      clear r1 r2 u v
      go_enter Tryd.func80, Tryd.ntmps80
      go_upto_region 4 with (go_at_call 88; refine (c1 _).mono ?_; rintro e w1 ⟨rfl, rfl⟩)
      clear c1
      go_wp2_with (go_at_call 88; refine (c2 _).mono ?_; rintro e w1 ⟨rfl, rfl⟩)
      go_ret2
      exact ⟨ret_2 rfl rfl, rfl⟩
    all_goals
      rw [show hex2 (a :: b :: (blK s).drop (j + 1 + 1)) = none by simp [hex2, u, v]]
      clear u v
      go_enter Tryd.func80, Tryd.ntmps80
      go_upto_region 4 with (go_at_call 88; refine (c1 _).mono ?_; rintro e w1 ⟨rfl, rfl⟩)
      clear c1
      go_wp2_with (go_at_call 88; refine (c2 _).mono ?_; rintro e w1 ⟨rfl, rfl⟩)
      go_ret2
      exact ⟨ret_2 rfl rfl, rfl⟩
theorem esc_cons (c : Int) (r : List Int) : esc (c :: r) = if c = 34 ∨ c = 92 then some (c, 1) else if c = 110 then some (10, 1) else if c = 116 then some (9, 1) else if c = 120 then (hex2 r).map (fun b => (b, 3)) else none := rfl
/-- What escapeAt answers at the backslash at j. -/
def escV (s : ByteArray) (j : Nat) : Int × Nat := match esc ((blK s).drop (j + 1)) with
  | some (b, k) => (b, j + 1 + k)
  | none => (0, j)
set_option maxHeartbeats 1000000 in
theorem escapeAt_any (s : ByteArray) (j : Nat) (hj : j < s.size) (hs : s.size < 4611686018427387000) (w : World) :
    Calls Tryd.prog 65 #[.string s, .int .i64 j] w fun e w' => e = .returned (.tuple #[.int .u8 (escV s j).1, .int .i64 ((escV s j).2 : Int)]) ∧ w' = w := by
  rcases Nat.lt_or_ge (j + 1) s.size with h | h
  · have i1 : ¬ (s.size : Int) ≤ (j : Int) + 1 := by omega
    have x1 := run_index_atK s (j + 1) h ((j : Int) + 1) (by omega)
    have ch := hexByte_any s (j + 2) (by omega)
    have ec : (((j + 2 : Nat)) : Int) = (j : Int) + 2 := by omega
    rw [ec] at ch
    have HE : Hid (∀ c, atK_ s (j + 1) = c → escV s j = (if c = 34 ∨ c = 92 then (c, j + 2) else if c = 110 then (10, j + 2) else if c = 116 then (9, j + 2) else if c = 120 then (if (hex2 ((blK s).drop (j + 2))).isSome = true then ((hex2 ((blK s).drop (j + 2))).getD 0, j + 4) else (0, j)) else (0, j))) := fun c hc => by
      unfold escV
      rw [bl_drop h, hc, esc_cons]
      by_cases q1 : c = 34 ∨ c = 92
      · rw [if_pos q1, if_pos q1]
      · rw [if_neg q1, if_neg q1]
        by_cases q2 : c = 110
        · rw [if_pos q2, if_pos q2]
        · rw [if_neg q2, if_neg q2]
          by_cases q3 : c = 116
          · rw [if_pos q3, if_pos q3]
          · rw [if_neg q3, if_neg q3]
            by_cases q4 : c = 120
            · rw [if_pos q4, if_pos q4]
              cases hex2 ((blK s).drop (j + 2)) <;> rfl
            · rw [if_neg q4, if_neg q4]
    obtain ⟨c, hc⟩ : ∃ c, atK_ s (j + 1) = c := ⟨_, rfl⟩
    rw [HE.out c hc]
    rw [hc] at x1
    clear HE hc ec
    by_cases q1 : c = 34 ∨ c = 92
    · rw [if_pos q1]
      rcases q1 with rfl | rfl <;>
      · go_enter Tryd.func65, Tryd.ntmps65
        go_wp2
        go_ret2
        exact ⟨ret_2 rfl rfl, rfl⟩
    · rw [if_neg q1]
      have n1 : (c == 34) = false := beq_eq_false_iff_ne.2 fun e => q1 (Or.inl e)
      have n2 : (c == 92) = false := beq_eq_false_iff_ne.2 fun e => q1 (Or.inr e)
      clear q1
      by_cases q2 : c = 110
      · rw [if_pos q2]
        subst q2
        clear n1 n2
        go_enter Tryd.func65, Tryd.ntmps65
        go_wp2
        go_ret2
        exact ⟨ret_2 rfl rfl, rfl⟩
      · rw [if_neg q2]
        have n3 : (c == 110) = false := beq_eq_false_iff_ne.2 q2
        clear q2
        by_cases q3 : c = 116
        · rw [if_pos q3]
          subst q3
          clear n1 n2 n3
          go_enter Tryd.func65, Tryd.ntmps65
          go_wp2
          go_ret2
          exact ⟨ret_2 rfl rfl, rfl⟩
        · rw [if_neg q3]
          have n4 : (c == 116) = false := beq_eq_false_iff_ne.2 q3
          clear q3
          by_cases q4 : c = 120
          · rw [if_pos q4]
            subst q4
            clear n1 n2 n3 n4
            obtain ⟨o, ho⟩ : ∃ o, (hex2 ((blK s).drop (j + 2))).isSome = o := ⟨_, rfl⟩
            obtain ⟨v, hv⟩ : ∃ v, (hex2 ((blK s).drop (j + 2))).getD 0 = v := ⟨_, rfl⟩
            rw [ho, hv] at ch ⊢
            clear ho hv
            cases o <;>
            · go_enter Tryd.func65, Tryd.ntmps65
              go_wp2_with (go_at_call 80; refine (ch _).mono ?_; rintro e w1 ⟨rfl, rfl⟩)
              go_ret2
              exact ⟨ret_2 rfl rfl, rfl⟩
          · rw [if_neg q4]
            have n5 : (c == 120) = false := beq_eq_false_iff_ne.2 q4
            clear q4
            go_enter Tryd.func65, Tryd.ntmps65
            go_wp2
            go_ret2
            exact ⟨ret_2 rfl rfl, rfl⟩
  · have i1 : (s.size : Int) ≤ (j : Int) + 1 := by omega
    have E : escV s j = (0, j) := by unfold escV; rw [bl_drop_end h]; rfl
    rw [E]
    clear E
    go_enter Tryd.func65, Tryd.ntmps65
    go_wp2
    go_ret2
    exact ⟨ret_2 rfl rfl, rfl⟩
end Go.Proofs.YtdfdnjkeiddfjaaDoor
