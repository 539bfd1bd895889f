/-
  ref's hex and escape.
-/
import Derived.Test.YtdfdnjkeiddfjabDoorK9
import Derived.BigQuiet
namespace Go.Proofs.YtdfdnjkeiddfjabDoor
open Go.RowKit

set_option maxHeartbeats 400000 in
theorem qhex_any (c : Int) (h0 : 0 ≤ c) (h1 : c ≤ 255) (w : World) :
    Calls Tryd.prog 89 #[.int .u8 c] w fun e w' => e = .returned (.int .i64 ((hexv c).getD (-1))) ∧ w' = w := by
  have cd := qdigit_any c
  by_cases a : 48 ≤ c ∧ c ≤ 57
  · have e : dig c = true := by simp [dig, a]
    have E : hexv c = some (c - 48) := by unfold hexv; rw [if_pos a]
    rw [e] at cd
    rw [E]
    obtain ⟨a1, a2⟩ := a
    clear e E
    go_enter Tryd.func89, Tryd.ntmps89
    go_wp2_with (go_at_call 65; refine (cd _).mono ?_; rintro e w1 ⟨rfl, rfl⟩)
    go_ret
    exact ⟨rfl, rfl⟩
  · have e : dig c = false := by simp [dig]; omega
    rw [e] at cd
    clear e
    by_cases b : 97 ≤ c ∧ c ≤ 102
    · have E : hexv c = some (c - 87) := by unfold hexv; rw [if_neg a, if_pos b]
      rw [E]
      obtain ⟨b1, b2⟩ := b
      clear a E
      go_enter Tryd.func89, Tryd.ntmps89
      go_wp2_with (go_at_call 65; refine (cd _).mono ?_; rintro e w1 ⟨rfl, rfl⟩)
      go_ret
      exact ⟨by simp; omega, rfl⟩
    · by_cases d : 65 ≤ c ∧ c ≤ 70
      · have E : hexv c = some (c - 55) := by unfold hexv; rw [if_neg a, if_neg b, if_pos d]
        rw [E]
        obtain ⟨d1, d2⟩ := d
        have b1 : ¬ 97 ≤ c := by omega
        clear a b E
        go_enter Tryd.func89, Tryd.ntmps89
        go_wp2_with (go_at_call 65; refine (cd _).mono ?_; rintro e w1 ⟨rfl, rfl⟩)
        go_ret
        exact ⟨by simp; omega, rfl⟩
      · have E : hexv c = none := by unfold hexv; rw [if_neg a, if_neg b, if_neg d]
        rw [E]
        clear a E
        have b' : c < 97 ∨ (97 ≤ c ∧ 102 < c) := by omega
        have d' : c < 65 ∨ (65 ≤ c ∧ 70 < c) := by omega
        clear b d
        rcases b' with b1 | ⟨b1, b2⟩ <;> rcases d' with d1 | ⟨d1, d2⟩ <;> first | (exfalso; omega) | skip
        all_goals
          go_enter Tryd.func89, Tryd.ntmps89
          go_wp2_with (go_at_call 65; refine (cd _).mono ?_; rintro e w1 ⟨rfl, rfl⟩)
          go_ret
          exact ⟨rfl, rfl⟩
/-- What ref's escape answers at the backslash at j. -/
def qes (s : ByteArray) (j : Nat) : Int × Nat := match esc ((blK s).drop (j + 1)) with
  | some (b, k) => (b, k + 1)
  | none => (0, 0)
theorem hex2_short {l : List Int} (h : l.length < 2) : hex2 l = none := by
  match l, h with
  | [], _ => rfl
  | [_], _ => rfl
set_option maxRecDepth 20000 in
set_option maxHeartbeats 2000000 in
theorem qescape_any (s : ByteArray) (j : Nat) (hj : j < s.size) (hs : s.size < 4611686018427387000) (w : World) :
    Calls Tryd.prog 81 #[.string s, .int .i64 j] w fun e w' => e = .returned (.tuple #[.int .u8 (qes s j).1, .int .i64 ((qes s j).2 : Int)]) ∧ Below w.heap.size w w' := by
  rcases Nat.lt_or_ge (j + 1) s.size with h | h
  · have i1 : ¬ (s.size : Int) ≤ (j : Int) + 1 := by omega
    have x1 := run_index_atK s (j + 1) h ((j : Int) + 1) (by omega)
    have HE : Hid (∀ c, atK_ s (j + 1) = c → qes s j = (if c = 34 ∨ c = 92 then (c, 2) else if c = 110 then (10, 2) else if c = 116 then (9, 2) else if c = 120 then (match hex2 ((blK s).drop (j + 2)) with | some b => (b, 4) | none => (0, 0)) else (0, 0))) := fun c hc => by
      unfold qes
      rw [bl_drop h, hc, esc_cons]
      by_cases q1 : c = 34 ∨ c = 92
      · rw [if_pos q1, if_pos q1]
      · rw [if_neg q1, if_neg q1]
        by_cases q2 : c = 110
        · rw [if_pos q2, if_pos q2]
        · rw [if_neg q2, if_neg q2]
          by_cases q3 : c = 116
          · rw [if_pos q3, if_pos q3]
          · rw [if_neg q3, if_neg q3]
            by_cases q4 : c = 120
            · rw [if_pos q4, if_pos q4]
              cases hex2 ((blK s).drop (j + 2)) <;> rfl
            · rw [if_neg q4, if_neg q4]
    obtain ⟨c, hc⟩ : ∃ c, atK_ s (j + 1) = c := ⟨_, rfl⟩
    rw [HE.out c hc]
    rw [hc] at x1
    clear HE hc
    by_cases q1 : c = 34 ∨ c = 92
    · rw [if_pos q1]
      rcases q1 with rfl | rfl <;>
      · go_enter Tryd.func81, Tryd.ntmps81
        go_wp2
        go_ret2
        exact ⟨ret_2 rfl rfl, Below.refl _ _⟩
    · rw [if_neg q1]
      have n1 : (c == 34) = false := beq_eq_false_iff_ne.2 fun e => q1 (Or.inl e)
      have n2 : (c == 92) = false := beq_eq_false_iff_ne.2 fun e => q1 (Or.inr e)
      clear q1
      by_cases q2 : c = 110
      · rw [if_pos q2]
        subst q2
        clear n1 n2
        go_enter Tryd.func81, Tryd.ntmps81
        go_wp2
        go_ret2
        exact ⟨ret_2 rfl rfl, Below.refl _ _⟩
      · rw [if_neg q2]
        have n3 : (c == 110) = false := beq_eq_false_iff_ne.2 q2
        clear q2
        by_cases q3 : c = 116
        · rw [if_pos q3]
          subst q3
          clear n1 n2 n3
          go_enter Tryd.func81, Tryd.ntmps81
          go_wp2
          go_ret2
          exact ⟨ret_2 rfl rfl, Below.refl _ _⟩
        · rw [if_neg q3]
          have n4 : (c == 116) = false := beq_eq_false_iff_ne.2 q3
          clear q3
          by_cases q4 : c = 120
          · rw [if_pos q4]
            subst q4
            clear n1 n2 n3 n4
            rcases Nat.lt_or_ge (j + 3) s.size with h3 | h3
            · have i3 : (j : Int) + 3 < (s.size : Int) := by omega
              have x2 := run_index_atK s (j + 2) (by omega) ((j : Int) + 2) (by omega)
              have x3 := run_index_atK s (j + 3) h3 ((j : Int) + 3) (by omega)
              have c2 := qhex_any (atK_ s (j + 2)) (at_range s (j + 2)).1 (at_range s (j + 2)).2
              have c3 := qhex_any (atK_ s (j + 3)) (at_range s (j + 3)).1 (at_range s (j + 3)).2
              rw [bl_drop (show j + 2 < s.size by omega), bl_drop (show j + 2 + 1 < s.size by omega)]
              obtain ⟨a, ha⟩ : ∃ c, atK_ s (j + 2) = c := ⟨_, rfl⟩
              obtain ⟨b, hb⟩ : ∃ c, atK_ s (j + 3) = c := ⟨_, rfl⟩
              rw [ha] at x2 c2 ⊢
              rw [show j + 2 + 1 = j + 3 from rfl, hb]
              rw [hb] at x3 c3
              clear ha hb
              cases u : hexv a with
              | none =>
                have e : hex2 (a :: b :: (blK s).drop (j + 3 + 1)) = none := by simp [hex2, u]
                rw [e]
                rw [u] at c2
                simp only [Option.getD_none] at c2
                clear u e c3
                go_enter Tryd.func81, Tryd.ntmps81
                go_wp2_with (go_at_call 89; with_reducible refine (c2 _).mono ?_; rintro e w1 ⟨rfl, rfl⟩)
                go_ret2
                exact ⟨ret_2 rfl rfl, Below.refl _ _⟩
              | some x =>
                have r1 := hexv_rng u
                have p1 := r1.1
                rw [u] at c2
                simp only [Option.getD_some] at c2
                cases v : hexv b with
                | none =>
                  have e : hex2 (a :: b :: (blK s).drop (j + 3 + 1)) = none := by simp [hex2, u, v]
                  rw [e]
                  rw [v] at c3
                  simp only [Option.getD_none] at c3
                  clear u v e r1
                  go_enter Tryd.func81, Tryd.ntmps81
                  go_wp2_with (first | (go_at_call 89; with_reducible refine (c2 _).mono ?_; rintro e w1 ⟨rfl, rfl⟩) | (go_at_call 89; with_reducible refine (c3 _).mono ?_; rintro e w2 ⟨rfl, rfl⟩))
                  go_ret2
                  exact ⟨ret_2 rfl rfl, Below.refl _ _⟩
                | some y =>
                  have r2 := hexv_rng v
                  have p2 := r2.1
                  have e : hex2 (a :: b :: (blK s).drop (j + 3 + 1)) = some (x * 16 + y) := by simp [hex2, u, v]
                  rw [e]
                  rw [v] at c3
                  simp only [Option.getD_some] at c3
                  have hw1 : IntKind.i64.wrap (16 * x) = 16 * x := by rw [IntKind.wrap_i64]; omega
                  have hw2 : IntKind.i64.wrap (16 * x + y) = 16 * x + y := by rw [IntKind.wrap_i64]; omega
                  have hw3 : IntKind.u8.wrap (16 * x + y) = 16 * x + y := by rw [IntKind.wrap_u8]; omega
                  have HX : Hid (16 * x + y = x * 16 + y) := by show _ = _; omega
                  clear u v e r1 r2
                  go_enter Tryd.func81, Tryd.ntmps81
                  go_upto_region 13 with (first | (go_at_call 89; with_reducible refine (c2 _).mono ?_; rintro e w1 ⟨rfl, rfl⟩) | (go_at_call 89; with_reducible refine (c3 _).mono ?_; rintro e w2 ⟨rfl, rfl⟩))
                  go_quiet (first | (go_at_call 89; with_reducible refine (c2 _).mono ?_; rintro e w1 ⟨rfl, rfl⟩; exact ⟨rfl, _, rfl⟩) | (go_at_call 89; with_reducible refine (c3 _).mono ?_; rintro e w2 ⟨rfl, rfl⟩; exact ⟨rfl, _, rfl⟩))
                  go_wp2
                  go_ret2
                  exact ⟨ret_2 (by show Value.int .u8 (16 * x + y) = .int .u8 (x * 16 + y); rw [HX.out]) rfl, below_drewN (Below.refl _ _) _⟩
            · have i3 : ¬ (j : Int) + 3 < (s.size : Int) := by omega
              have e : hex2 ((blK s).drop (j + 2)) = none := hex2_short (by rw [List.length_drop, bl_len]; omega)
              rw [e]
              clear e
              go_enter Tryd.func81, Tryd.ntmps81
              go_wp2
              go_ret2
              exact ⟨ret_2 rfl rfl, Below.refl _ _⟩
          · rw [if_neg q4]
            have n5 : (c == 120) = false := beq_eq_false_iff_ne.2 q4
            clear q4
            go_enter Tryd.func81, Tryd.ntmps81
            go_wp2
            go_ret2
            exact ⟨ret_2 rfl rfl, Below.refl _ _⟩
  · have i1 : (s.size : Int) ≤ (j : Int) + 1 := by omega
    have E : qes s j = (0, 0) := by unfold qes; rw [bl_drop_end h]; rfl
    rw [E]
    clear E
    go_enter Tryd.func81, Tryd.ntmps81
    go_wp2
    go_ret2
    exact ⟨ret_2 rfl rfl, Below.refl _ _⟩
end Go.Proofs.YtdfdnjkeiddfjabDoor
