/-
  rel: settle of no columns.
-/
import Derived.Test.YtofopfjmcbgfjaaRA16
import Derived.Test.YtofopfjmcbgfjaaShelf
namespace Go.Proofs.Ytofopfjmcbgfjaa
open Go.RowKit Go.Shelf Go.Lib
attribute [local go_sem ↓] Go.wp_at_zero Go.wp_at_succ

theorem mk_cells0 (w : World) : (Instr.makeSlice 96 (.int .i64 0) (.int .i64 0)).run Try.prog w = .ok (.slice (some ⟨w.heap.size, 0, none⟩) 0 0) (w.alloc (.cells #[] 98)) := by
  obtain ⟨i, hi, h0, h1, h2⟩ := info7 (show (Try.prog.info? 98).map (fun i => (i.zero, i.size, i.bytes)) = some (some (.agg #[.int .i64 0, .int .i64 0]), 2, 16) by kernel_rfl)
  have h := run_make (P := Try.prog) w 96 98 i _ Try.underlying96 hi h0 .i64 .i64 0 0 (by omega) (by omega) (by rw [h2]; omega) (by omega)
  rw [h1] at h
  rw [h]
  have e : madeCells (Value.agg #[Value.int IntKind.i64 0, Value.int IntKind.i64 0]).cells (Int.toNat 0 * 2) = #[] := Array.eq_empty_of_size_eq_zero (by simp [madeCells])
  rw [e]
  rfl
set_option maxRecDepth 100000 in
set_option maxHeartbeats 2000000 in
theorem insert0_any (a : Option Addr) (c : Value) (w : World) : Calls Try.prog 69 #[.slice a 0 0, .int .i64 0, .int .i64 0, c] w fun e w' => e = .returned (.tuple #[]) ∧ w' = w := by
  go_enter Try.func69, Try.ntmps69
  go_wp2
  go_loopg [8] 0 (fun g i wr => i = .int .i64 1 ∧ wr = w)
  case atStart => exact ⟨rfl, rfl⟩
  case round =>
    obtain ⟨rfl, rfl⟩ := hrel
    go_wp2
    go_end0
    exact ⟨rfl, rfl⟩
set_option maxRecDepth 100000 in
set_option maxHeartbeats 2000000 in
theorem pdq0_any (a : Option Addr) (c : Value) (l : Int) (w : World) : Calls Try.prog 57 #[.slice a 0 0, .int .i64 0, .int .i64 0, .int .i64 l, c] w fun e w' => e = .returned (.tuple #[]) ∧ w' = w := by
  go_enter Try.func57, Try.ntmps57
  go_wp2
  go_loopg [1, 2, 3, 10, 11] 0 (fun g s1 s2 s3 s8 s9 wr => s1 = .int .i64 0 ∧ s2 = .int .i64 0 ∧ s3 = .int .i64 l ∧ s8 = .bool true ∧ s9 = .bool true ∧ wr = w)
  case atStart => exact ⟨rfl, rfl, rfl, rfl, rfl, rfl⟩
  case round =>
    obtain ⟨rfl, rfl, rfl, rfl, rfl, rfl⟩ := hrel
    go_wp2_with (go_at_call 69; refine (insert0_any _ _ _).mono ?_; rintro e w1 ⟨rfl, rfl⟩)
    (try simp only [Exit.inBlock, Exit.then])
    refine bodyPost_ret (results_none rfl _ _ _) rfl ?_
    exact ⟨rfl, rfl⟩
set_option maxRecDepth 20000 in
theorem sortCell0_any (a : Option Addr) (c : Value) (w : World) : Calls Try.prog 42 #[.slice a 0 0, c] w fun e w' => e = .returned (.tuple #[]) ∧ w' = w := by
  have hl := Any.bits_Len Try.bitsLen 0 w (by omega) (by omega)
  change Calls Try.prog 58 _ _ _ at hl
  have HL := hm7 hl
  clear hl
  go_enter Try.func42, Try.ntmps42
  go_wp2_with (first | (go_at_call 58; refine HL.out.mono ?_; rintro e w1 ⟨rfl, rfl⟩) | (go_at_call 57; refine (pdq0_any _ _ _ _).mono ?_; rintro e w2 ⟨rfl, rfl⟩))
  go_end0
  exact ⟨rfl, rfl⟩
theorem compact0_any (a : Option Addr) (w : World) : Calls Try.prog 44 #[.slice a 0 0] w fun e w' => e = .returned (.slice a 0 0) ∧ w' = w := by
  go_enter Try.func44, Try.ntmps44
  go_wp2
  go_ret
  exact ⟨rfl, rfl⟩
set_option maxRecDepth 20000 in
set_option maxHeartbeats 1000000 in
theorem settle0_any (g : Nat) (w : World) : Calls Try.prog 31 #[.pointer (some ⟨g, 0, none⟩), .slice none 0 0, .slice none 0 0] w fun e w' => e = .returned (.tuple #[.slice none 0 0, .slice none 0 0, .bool true]) ∧ Below w.heap.size w w' := by
  have hmk := mk_cells0 w
  go_enter Try.func31, Try.ntmps31
  go_wp2
  go_loopg [6, 7, 24] 0 (fun g u v i wr => u = .slice none 0 0 ∧ v = .slice none 0 0 ∧ i = .int .i64 0 ∧ wr = w.alloc (.cells #[] 98))
  case atStart => exact ⟨rfl, rfl, rfl, rfl⟩
  case round =>
    obtain ⟨rfl, rfl, rfl, rfl⟩ := hrel
    go_wp2_with (first | (go_at_call 42; refine (sortCell0_any _ _ _).mono ?_; rintro e w1 ⟨rfl, rfl⟩) | (go_at_call 44; refine (compact0_any _ _).mono ?_; rintro e w1 ⟨rfl, rfl⟩))
    go_loopg [6, 7, 54] 0 (fun g u v i wr => u = .slice none 0 0 ∧ v = .slice none 0 0 ∧ i = .int .i64 0 ∧ wr = w.alloc (.cells #[] 98))
    case atStart => exact ⟨rfl, rfl, rfl, rfl⟩
    case round =>
      obtain ⟨rfl, rfl, rfl, rfl⟩ := hrel
      go_wp2
      go_ret3
      exact ⟨rfl, below1 _ _⟩
end Go.Proofs.Ytofopfjmcbgfjaa
