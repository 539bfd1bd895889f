/-
  digest.digitValue, for every byte.
-/
import Derived.Test.YthgkcbnicpfjmaaMath
import Derived.Test.YthgkcbnicpfjmaaProg
import Derived.WalkKit
import Derived.WalkSpells
import Derived.KernelRfl
namespace Go.Proofs.Ythgkcbnicpfjmaa
open Go.RowKit

theorem ret_dv {a b : Int} {p q : Bool} (h : a = b) (h' : p = q) : Ending.returned (.tuple #[.int .u8 a, .bool p]) = .returned (.tuple #[.int .u8 b, .bool q]) := by rw [h, h']
set_option maxHeartbeats 400000 in
theorem dv_any (c : Int) (w : World) (h0 : 0 ≤ c) (h1 : c ≤ 255) :
    Calls Try.prog 8 #[.int .u8 c] w fun e w' => e = .returned (.tuple #[.int .u8 (M.val c), .bool (M.okc c)]) ∧ w' = w := by
  by_cases a : 48 ≤ c ∧ c ≤ 57
  · have a1 := a.1
    have a2 := a.2
    go_enter Try.func8, Try.ntmps8
    go_wp2
    go_ret2
    exact ⟨ret_dv (by simp [M.val, a]) (by simp [M.okc, a]), rfl⟩
  · by_cases b : 97 ≤ c ∧ c ≤ 102
    · have b1 := b.1
      have b2 := b.2
      go_enter Try.func8, Try.ntmps8
      go_wp2
      go_ret2
      exact ⟨ret_dv (by simp [M.val, a, b]; omega) (by simp [M.okc, a, b]), rfl⟩
    · go_enter Try.func8, Try.ntmps8
      go_wp2
      all_goals
        go_ret2
        exact ⟨ret_dv (by simp [M.val, a, b]) (by simp [M.okc, a, b]), rfl⟩
end Go.Proofs.Ythgkcbnicpfjmaa
