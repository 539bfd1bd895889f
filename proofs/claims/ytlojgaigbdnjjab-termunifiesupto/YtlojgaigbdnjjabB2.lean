/-
  cmp.Compare of numbers and of texts; Compare of terms; the same of the reference.
-/
import Derived.Test.YtlojgaigbdnjjabB1
import Derived.Test.YtlojgaigbdnjjabM1
import Derived.Laws.Cover1
import Derived.Laws.IdiomStrings
import Derived.Deep.QuietTactic
import Derived.BigQuiet
namespace Go.Proofs.Ytlojgaigbdnjjab
open Go.RowKit

abbrev sgS (a b : ByteArray) : Int := M.sgL a.toList b.toList
theorem nanI_any (a : Int) (w : World) : Calls Try.prog 36 #[.int .i64 a] w fun e w' => e = .returned (.bool false) ∧ w' = w := by
  go_enter Try.func36, Try.ntmps36
  go_wp2
  go_ret
  exact ⟨ret_b (by simp), rfl⟩
theorem cmpI_any (a b : Int) (w : World) : Calls Try.prog 33 #[.int .i64 a, .int .i64 b] w fun e w' => e = .returned (.int .i64 (M.sgI a b)) ∧ w' = w := by
  go_enter Try.func33, Try.ntmps33
  go_wp2_with (go_at_call 36; refine (nanI_any _ _).mono ?_; rintro e w1 ⟨rfl, rfl⟩)
  all_goals go_ret
  all_goals refine ⟨ret_i ?_, rfl⟩
  all_goals (unfold M.sgI; repeat' split) <;> omega
theorem run_index_at (s : ByteArray) (j : Nat) (hj : j < s.size) (i : Int) (hi : i = j) (w : World) (k : IntKind) : (Instr.index 9 (.string s) (.int k i)).run Try.prog w = .ok (.int .u8 (M.at_ s j)) w := by
  subst hi
  rw [run_index_string w 9 s k _ Try.underlying9, dif_pos (by omega), M.at_lt s j hj]
  rfl
theorem wrap_id (x : Int) (h0 : 0 ≤ x) (h1 : x ≤ 255) : IntKind.i64.wrap x = x := by
  simp only [IntKind.wrap, IntKind.bits, IntKind.signed]
  simp
  omega
/-- Of two terms: by kind, number, text. -/
def Tm.cmp (a b : Tm) : Int := if a.k ≠ b.k then M.sgI a.k b.k else if a.n ≠ b.n then M.sgI a.n b.n else M.sgL a.s.toList b.s.toList
theorem toList_inj {a b : ByteArray} (h : a.toList = b.toList) : a = b := by
  rw [ByteArray.toList_eq, ByteArray.toList_eq] at h
  exact ByteArray.ext (Array.toList_inj.1 h)
theorem Tm.cmp_zero (a b : Tm) : a.cmp b = 0 ↔ a = b := by
  obtain ⟨k, n, s⟩ := a
  obtain ⟨k', n', s'⟩ := b
  unfold Tm.cmp
  by_cases h1 : k = k'
  · by_cases h2 : n = n'
    · simp only [h1, h2, ne_eq, not_true_eq_false, if_false, M.sgL_zero, Tm.mk.injEq, true_and]
      exact ⟨toList_inj, fun e => by rw [e]⟩
    · simp only [h1, h2, ne_eq, not_true_eq_false, not_false_eq_true, if_false, if_true, Tm.mk.injEq, false_and, and_false, iff_false]
      unfold M.sgI; repeat' split
      all_goals omega
  · simp only [h1, ne_eq, not_false_eq_true, if_true, Tm.mk.injEq, false_and, iff_false]
    unfold M.sgI; repeat' split
    all_goals omega
end Go.Proofs.Ytlojgaigbdnjjab
