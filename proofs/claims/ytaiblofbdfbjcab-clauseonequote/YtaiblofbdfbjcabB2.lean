/-
  cmp.Compare of numbers and of texts; Compare of terms; the same of the reference.
-/
import Derived.Test.YtaiblofbdfbjcabB1
import Derived.Test.YtaiblofbdfbjcabM1
import Derived.Laws.Cover1
import Derived.Laws.IdiomStrings
import Derived.Deep.QuietTactic
import Derived.BigQuiet
namespace Go.Proofs.Ytaiblofbdfbjcab
open Go.RowKit

abbrev sgS (a b : ByteArray) : Int := M.sgL a.toList b.toList
theorem nanI_any (a : Int) (w : World) : Calls Try.prog 72 #[.int .i64 a] w fun e w' => e = .returned (.bool false) ∧ w' = w := by
  go_enter Try.func72, Try.ntmps72
  go_wp2
  go_ret
  exact ⟨ret_b (by simp), rfl⟩
theorem nanS_any (a : ByteArray) (w : World) : Calls Try.prog 71 #[.string a] w fun e w' => e = .returned (.bool false) ∧ w' = w := by
  go_enter Try.func71, Try.ntmps71
  go_wp2
  go_ret
  exact ⟨ret_b (by simp), rfl⟩
theorem cmpI_any (a b : Int) (w : World) : Calls Try.prog 49 #[.int .i64 a, .int .i64 b] w fun e w' => e = .returned (.int .i64 (M.sgI a b)) ∧ w' = w := by
  go_enter Try.func49, Try.ntmps49
  go_wp2_with (go_at_call 72; refine (nanI_any _ _).mono ?_; rintro e w1 ⟨rfl, rfl⟩)
  all_goals go_ret
  all_goals refine ⟨ret_i ?_, rfl⟩
  all_goals (unfold M.sgI; repeat' split) <;> omega
theorem cmpS_any (a b : ByteArray) (w : World) : Calls Try.prog 48 #[.string a, .string b] w fun e w' => e = .returned (.int .i64 (sgS a b)) ∧ w' = w := by
  go_enter Try.func48, Try.ntmps48
  go_wp2_with (go_at_call 71; refine (nanS_any _ _).mono ?_; rintro e w1 ⟨rfl, rfl⟩)
  all_goals go_ret
  all_goals refine ⟨ret_i ?_, rfl⟩
  all_goals (unfold sgS M.sgL M.bl; simp_all)
theorem run_index_at (s : ByteArray) (j : Nat) (hj : j < s.size) (i : Int) (hi : i = j) (w : World) (k : IntKind) : (Instr.index 9 (.string s) (.int k i)).run Try.prog w = .ok (.int .u8 (M.at_ s j)) w := by
  subst hi
  rw [run_index_string w 9 s k _ Try.underlying9, dif_pos (by omega), M.at_lt s j hj]
  rfl
theorem wrap_id (x : Int) (h0 : 0 ≤ x) (h1 : x ≤ 255) : IntKind.i64.wrap x = x := by
  simp only [IntKind.wrap, IntKind.bits, IntKind.signed]
  simp
  omega
/-- Of two terms: by kind, number, text. -/
def Tm.cmp (a b : Tm) : Int := if a.k ≠ b.k then M.sgI a.k b.k else if a.n ≠ b.n then M.sgI a.n b.n else M.sgL a.s.toList b.s.toList
theorem toList_inj {a b : ByteArray} (h : a.toList = b.toList) : a = b := by
  rw [ByteArray.toList_eq, ByteArray.toList_eq] at h
  exact ByteArray.ext (Array.toList_inj.1 h)
theorem Tm.cmp_zero (a b : Tm) : a.cmp b = 0 ↔ a = b := by
  obtain ⟨k, n, s⟩ := a
  obtain ⟨k', n', s'⟩ := b
  unfold Tm.cmp
  by_cases h1 : k = k'
  · by_cases h2 : n = n'
    · simp only [h1, h2, ne_eq, not_true_eq_false, if_false, M.sgL_zero, Tm.mk.injEq, true_and]
      exact ⟨toList_inj, fun e => by rw [e]⟩
    · simp only [h1, h2, ne_eq, not_true_eq_false, not_false_eq_true, if_false, if_true, Tm.mk.injEq, false_and, and_false, iff_false]
      unfold M.sgI; repeat' split
      all_goals omega
  · simp only [h1, ne_eq, not_false_eq_true, if_true, Tm.mk.injEq, false_and, iff_false]
    unfold M.sgI; repeat' split
    all_goals omega
set_option maxHeartbeats 400000 in
theorem compare_any (a b : Tm) (w : World) :
    Calls Try.prog 51 #[a.v, b.v] w fun e w' => e = .returned (.int .i64 (a.cmp b)) ∧ Below w.heap.size w w' := by
  obtain ⟨k, n, s⟩ := a
  obtain ⟨k', n', s'⟩ := b
  go_enter Try.func51, Try.ntmps51
  go_wp2_with (first
    | (go_at_call 49; refine (cmpI_any _ _ _).mono ?_; rintro e w1 ⟨rfl, rfl⟩)
    | (go_at_call 48; refine (cmpS_any _ _ _).mono ?_; rintro e w1 ⟨rfl, rfl⟩))
  all_goals go_ret
  all_goals refine ⟨ret_i ?_, below2 _ _ _⟩
  all_goals unfold Tm.cmp
  all_goals simp_all
  exact ((M.sgL_zero _ _).2 rfl).symm
end Go.Proofs.Ytaiblofbdfbjcab
