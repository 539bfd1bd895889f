import Derived.Test.YtechceagghcipaaGreatDoorB1
import Derived.Test.YtechceagghcipaaGreatDoorM1
import Derived.Laws.Cover1
import Derived.Laws.IdiomStrings
import Derived.Deep.QuietTactic
import Derived.BigQuiet
namespace Go.Proofs.YtechceagghcipaaGreatDoor
open Go.RowKit

abbrev sgS (a b : ByteArray) : Int := M.sgL a.toList b.toList
theorem nanI_any (a : Int) (w : World) : Calls Tryz.prog 70 #[.int .i64 a] w fun e w' => e = .returned (.bool false) /\ w' = w := by
 go_enter Tryz.func70, Tryz.ntmps70
 go_wp2
 go_ret
 exact ⟨ret_b (by simp), rfl⟩
theorem nanS_any (a : ByteArray) (w : World) : Calls Tryz.prog 69 #[.string a] w fun e w' => e = .returned (.bool false) /\ w' = w := by
 go_enter Tryz.func69, Tryz.ntmps69
 go_wp2
 go_ret
 exact ⟨ret_b (by simp), rfl⟩
theorem cmpI_any (a b : Int) (w : World) : Calls Tryz.prog 46 #[.int .i64 a, .int .i64 b] w fun e w' => e = .returned (.int .i64 (M.sgI a b)) /\ w' = w := by
 go_enter Tryz.func46, Tryz.ntmps46
 go_wp2_with (go_at_call 70; refine (nanI_any _ _).mono ?_; rintro e w1 ⟨rfl, rfl⟩)
 all_goals go_ret
 all_goals refine ⟨ret_i ?_, rfl⟩
 all_goals (unfold M.sgI; repeat' split) <;> omega
theorem cmpS_any (a b : ByteArray) (w : World) : Calls Tryz.prog 45 #[.string a, .string b] w fun e w' => e = .returned (.int .i64 (sgS a b)) /\ w' = w := by
 go_enter Tryz.func45, Tryz.ntmps45
 go_wp2_with (go_at_call 69; refine (nanS_any _ _).mono ?_; rintro e w1 ⟨rfl, rfl⟩)
 all_goals go_ret
 all_goals refine ⟨ret_i ?_, rfl⟩
 all_goals (unfold sgS M.sgL M.bl; simp_all)
theorem ints_any (a b : Int) (w : World) : Calls Tryz.prog 146 #[.int .i64 a, .int .i64 b] w fun e w' => e = .returned (.int .i64 (M.sgI a b)) /\ w' = w := by
 go_enter Tryz.func146, Tryz.ntmps146
 go_wp2
 all_goals go_ret
 all_goals refine ⟨ret_i ?_, rfl⟩
 all_goals (unfold M.sgI; repeat' split) <;> omega
theorem run_index_at (s : ByteArray) (j : Nat) (hj : j < s.size) (i : Int) (hi : i = j) (w : World) (k : IntKind) : (Instr.index 9 (.string s) (.int k i)).run Tryz.prog w = .ok (.int .u8 (M.at_ s j)) w := by
 subst hi
 rw [run_index_string w 9 s k _ Tryz.underlying9, dif_pos (by omega), M.at_lt s j hj]
 rfl
theorem wrap_id (x : Int) (h0 : 0 <= x) (h1 : x <= 255) : IntKind.i64.wrap x = x := by
 simp only [IntKind.wrap, IntKind.bits, IntKind.signed]
 simp
 omega
set_option maxHeartbeats 400000 in
theorem texts_any (a b : ByteArray) (w : World) (hsa : a.size <= maxLen) (hsb : b.size <= maxLen) : Calls Tryz.prog 145 #[.string a, .string b] w fun e w' => e = .returned (.int .i64 (sgS a b)) /\ Below w.heap.size w w' := by
 unfold maxLen at hsa hsb
 unfold sgS
 go_enter Tryz.func145, Tryz.ntmps145
 go_wp2
 go_loopw [5] (fun i wr => ∃ k n : Nat, k <= a.size /\ k <= b.size /\ i = .int .i64 k /\ a.toList.take k = b.toList.take k /\ wr = w.drewN n) (fun i _ => a.size - (intOf i).toNat)
 case atStart => exact ⟨0, 0, by omega, by omega, rfl, rfl, rfl⟩
 case round =>
  obtain ⟨k, m, ha, hb, rfl, hp, rfl⟩ := hrel
  have HP : Hid (a.toList.take k = b.toList.take k) := hp
  clear hp
  by_cases h : k < a.size /\ k < b.size
  ·obtain ⟨h1, h2⟩ := h
   have i1 := run_index_at a k h1 (k : Int) rfl
   have i2 := run_index_at b k h2 (k : Int) rfl
   by_cases e : M.at_ a k = M.at_ b k
   ·have E : Hid (M.at_ a k = M.at_ b k) := e
    have hq : (M.at_ a k == M.at_ b k) = true := by simpa using e
    clear e
    go_wp2
    go_quiet (fail)
    go_wp2
    go_roundw
    case rel => exact ⟨k + 1, _, by omega, by omega, by go_num, M.txt_eq a b k h1 h2 HP.out E.out, rfl⟩
    case measure => simp [intOf]; omega
   ·have E : Hid (¬ M.at_ a k = M.at_ b k) := e
    have hq : (M.at_ a k == M.at_ b k) = false := by simpa using e
    obtain ⟨r1, r2⟩ := M.at_rng a k
    obtain ⟨r3, r4⟩ := M.at_rng b k
    have e1 := wrap_id _ r1 r2
    have e2 := wrap_id _ r3 r4
    clear e
    go_wp2
    go_quiet (fail)
    go_wp2
    go_quiet ((go_at_call 146; refine (ints_any _ _ _).mono ?_; rintro e w2 ⟨rfl, rfl⟩; exact ⟨rfl, _, rfl⟩))
    go_wp2
    go_ret
    exact ⟨ret_i (M.txt_ne a b k h1 h2 HP.out E.out).symm, below_drewN (below_drewN (below_drewN (Below.refl _ _) _) _) _⟩
  ·have hend : k = a.size ∨ k = b.size := by omega
   have E : Hid (M.sgL a.toList b.toList = M.sgI a.size b.size) := M.txt_end a b k ha hb HP.out hend
   by_cases h1 : k < a.size
   ·have h2 : ¬ k < b.size := fun x => h ⟨h1, x⟩
    clear h hend
    go_wp2_with (go_at_call 146; refine (ints_any _ _ _).mono ?_; rintro e w1 ⟨rfl, rfl⟩)
    go_ret
    exact ⟨ret_i E.out.symm, below_drewN (Below.refl _ _) _⟩
   ·clear h hend
    go_wp2_with (go_at_call 146; refine (ints_any _ _ _).mono ?_; rintro e w1 ⟨rfl, rfl⟩)
    go_ret
    exact ⟨ret_i E.out.symm, below_drewN (Below.refl _ _) _⟩
def Tm.cmp (a b : Tm) : Int := if a.k ≠ b.k then M.sgI a.k b.k else if a.n ≠ b.n then M.sgI a.n b.n else M.sgL a.s.toList b.s.toList
theorem toList_inj {a b : ByteArray} (h : a.toList = b.toList) : a = b := by
 rw [ByteArray.toList_eq, ByteArray.toList_eq] at h
 exact ByteArray.ext (Array.toList_inj.1 h)
end Go.Proofs.YtechceagghcipaaGreatDoor
