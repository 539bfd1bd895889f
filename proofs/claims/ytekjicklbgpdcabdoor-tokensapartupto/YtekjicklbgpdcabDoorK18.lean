/-
  hearsaylaw04.TokensFront: the walk.
-/
import Derived.Test.YtekjicklbgpdcabDoorK13
import Derived.Test.YtekjicklbgpdcabDoorK17
namespace Go.Proofs.YtekjicklbgpdcabDoor
open Go.RowKit

theorem ct_fuel : ∀ (f : Nat) (l : List Int) (off : Nat) (acc : List Tk), l.length < f → ∀ f', l.length < f' → ct f l off acc = ct f' l off acc
  | 0, _, _, _, h, _, _ => by omega
  | f + 1, [], off, acc, _, f', h => by
    obtain ⟨f', rfl⟩ : ∃ g, f' = g + 1 := ⟨f' - 1, by simp at h; omega⟩
    rfl
  | f + 1, c :: r, off, acc, h, f', h' => by
    simp only [List.length_cons] at h h'
    obtain ⟨f', rfl⟩ : ∃ g, f' = g + 1 := ⟨f' - 1, by omega⟩
    rw [ct_cons, ct_cons]
    by_cases q1 : c = 32 ∨ c = 9 ∨ c = 10 ∨ c = 13
    · rw [if_pos q1, if_pos q1]
      exact ct_fuel f r _ _ (by omega) f' (by omega)
    · rw [if_neg q1, if_neg q1]
      by_cases q2 : c = 37
      · rw [if_pos q2, if_pos q2]
        have hle1 : le_ (c :: r) = le_ r + 1 := by rw [le_cons, if_neg (by omega)]
        exact ct_fuel f _ _ _ (by rw [List.length_drop]; simp only [List.length_cons]; omega) f' (by rw [List.length_drop]; simp only [List.length_cons]; omega)
      · rw [if_neg q2, if_neg q2]
        cases et : tok (c :: r) with
        | bad e o => rfl
        | ok k x n len =>
          have htl := (tok_len c r).1 k x n len et
          exact ct_fuel f _ _ _ (by rw [List.length_drop]; simp only [List.length_cons]; omega) f' (by rw [List.length_drop]; simp only [List.length_cons]; omega)
theorem cutL_all (s : ByteArray) : cutL (bl s) (s.size : Int) = ct (s.size + 1) (bl s) 0 [] := by
  unfold cutL; rw [bl_len, if_neg (by omega)]
theorem bl_append (s t : ByteArray) : bl (s ++ t) = bl s ++ bl t := by
  unfold bl
  rw [← List.map_append]
  have : (s ++ t).data = s.data ++ t.data := ByteArray.data_append
  rw [this, Array.toList_append]
theorem bl_extract (s : ByteArray) (p : Nat) : bl (s.extract 0 p) = (bl s).take p := by
  rw [extract_eq, List.drop_zero, Nat.sub_zero, bl_ofL (byt_take (bl_byt s) p)]
theorem front_plain (s t : ByteArray) : ((cutL (bl s) s.size).2.1 = 0 ∧ (cutL (bl s) s.size).2.2 = 0) ∨
    ∃ p : Nat, (cutL (bl s) s.size).2.2 = (p : Int) ∧ p < s.size ∧ ((cutL (bl s) s.size).2.1 = 42 ∨ (cutL (bl s) s.size).2.1 = 43 ∨ (cutL (bl s) s.size).2.1 = 44 ∨ (cutL (bl s) s.size).2.1 = 45) ∧
      (cutL (bl (s.extract 0 p)) (s.extract 0 p).size).2.1 = (if (cutL (bl s) s.size).2.1 = 44 then 43 else 0) ∧
      ((cutL (bl s) s.size).2.1 = 42 ∨ (cutL (bl s) s.size).2.1 = 45 → (cutL (bl (s ++ ⟨#[32]⟩ ++ t)) ((s ++ ⟨#[32]⟩ ++ t).size : Nat)).2 = (cutL (bl s) s.size).2) := by
  rw [cutL_all, cutL_all]
  rcases ct_fault (s.size + 1) (bl s) 0 [] (by rw [bl_len]; omega) with h | ⟨p, h1, h2, h3, h4, h5⟩
  · exact Or.inl h
  · rw [bl_len] at h2 h4
    refine Or.inr ⟨p, by rw [h1, Nat.zero_add], h2, h3, ?_, fun he => ?_⟩
    · rw [cutL_all, bl_extract]
      have hl : ((bl s).take p).length = (s.extract 0 p).size := by rw [← bl_extract, bl_len]
      rw [ct_fuel _ _ _ _ (by rw [hl]; omega) (s.size + 1) (by rw [List.length_take, bl_len]; omega)]
      exact h4 (s.size + 1) [] (by omega)
    · have hb : bl (s ++ ⟨#[32]⟩ ++ t) = bl s ++ 32 :: bl t := by rw [bl_append, bl_append, List.append_assoc]; rfl
      have hl : (bl s ++ 32 :: bl t).length = (s ++ ⟨#[32]⟩ ++ t).size := by rw [← hb, bl_len]
      rw [hb]
      exact h5 _ [] (bl t) (by rw [hl]; omega) he
theorem run_eql_ft (e p e' p' : Int) (w : World) : (binOp .eql 25 (.agg #[.int .i64 e, .int .i64 p]) (.agg #[.int .i64 e', .int .i64 p'])).run Tryd.prog w = .ok (.bool (decide (e = e' ∧ p = p'))) w := by
  by_cases h1 : e = e'
  · by_cases h2 : p = p'
    · subst h1 h2; go_simp
    · subst h1; go_simp
  · go_simp
end Go.Proofs.YtekjicklbgpdcabDoor
