/-
  digest.Hex, for every digest.
-/
import Derived.Test.YthgkcbnicpfjmaaMath
import Derived.Test.YthgkcbnicpfjmaaProg
import Derived.WalkKit
import Derived.WalkSpells
import Derived.Deep.WholeRow
import Derived.Deep.MidRow
import Derived.Laws.IdiomStrings
import Derived.KernelRfl
namespace Go.Proofs.Ythgkcbnicpfjmaa
open Go.RowKit

theorem Try.size23 : (Try.prog.info? 23).map (·.size) = some 32 := by kernel_rfl

theorem dig_all : ∀ m : Nat, (h : m < 16) → (((⟨#[48, 49, 50, 51, 52, 53, 54, 55, 56, 57, 97, 98, 99, 100, 101, 102]⟩ : ByteArray)[m]'h).toNat : Int) = M.dgt m := by decide
theorem run_index_digTab (w : World) (k : IntKind) (i : Int) (h0 : 0 ≤ i) (h1 : i ≤ 15) :
    (Instr.index 9 (.string ⟨#[48, 49, 50, 51, 52, 53, 54, 55, 56, 57, 97, 98, 99, 100, 101, 102]⟩) (.int k i)).run Try.prog w = .ok (.int .u8 (M.dgt i)) w := by
  obtain ⟨n, rfl⟩ : ∃ n : Nat, i = n := ⟨i.toNat, by omega⟩
  have hn : n < 16 := by omega
  rw [run_index_string w 9 _ k _ Try.underlying9]
  have hs : (⟨#[48, 49, 50, 51, 52, 53, 54, 55, 56, 57, 97, 98, 99, 100, 101, 102]⟩ : ByteArray).size = 16 := rfl
  rw [dif_pos (by rw [hs]; omega)]
  have := dig_all n hn
  simp only [Int.toNat_natCast]
  rw [this]
theorem run_index_digest (w : World) (cs : Array Value) (i : Nat) (v : Value) (h : cs[i]? = some v) (hi : i < 32) :
    (Instr.index 23 (.agg cs) (.int .i64 i)).run Try.prog w = .ok v w := by
  have hs : (sizeOf 5).run Try.prog w = .ok 1 w := by kernel_rfl
  simp [Instr.index, run_underlying Try.underlying23, asIntOf, go_sem, hs, part, h, Sem.run_bind]
  omega

set_option maxHeartbeats 400000 in
theorem hx_any (xs : List Int) (w : World) (hl : xs.length = 32) (hr : ∀ x ∈ xs, 0 ≤ x ∧ x ≤ 255) :
    Calls Try.prog 6 #[.agg (xs.map (Value.int .u8)).toArray] w fun e w' => e = .returned (.string ⟨(M.hexB xs).toArray⟩) ∧ Below w.heap.size w w' := by
  go_enter Try.func6, Try.ntmps6
  go_wp2_with (refine wpList_load_row rfl 23 (.tmp 1) rfl w.heap.size rfl 23 (xs.map (Value.int .u8)).toArray (0, 0) _ (by simp [heap_alloc2_old]) Try.underlying23 rfl (by simp [Try.size23, hl]) ?_)
  go_loopw [7] (fun i wr => ∃ (k : Nat) (C : Array Value), k ≤ 32 ∧ i = .int .i64 k ∧ wr.heap[w.heap.size + 1]? = some (.cells C 32 (0, 0)) ∧ C.size = 64 ∧
      (∀ j, j < 2 * k → C[j]? = some (.int .u8 (M.hexAt xs j))) ∧ Below w.heap.size w wr) (fun i _ => 32 - (intOf i).toNat)
  case atStart => exact ⟨0, _, by omega, rfl, heap_alloc2_new _ _ _, rfl, by omega, (((Below.refl _ _).alloc (Nat.le_refl _) _).alloc (by simp) _)⟩
  case round =>
    obtain ⟨k, C, hk, rfl, hB, hC, hD, hbel⟩ := hrel
    by_cases hlt : k < 32
    · have hx := M.getD_range hr k
      have hxk : (xs.map (Value.int .u8)).toArray[k]? = some (.int .u8 (xs.getD k 0)) := by simp [List.getD, hl, hlt]
      obtain ⟨x, hxe⟩ : ∃ x, xs.getD k 0 = x := ⟨_, rfl⟩
      rw [hxe] at hx hxk
      have HX : Hid (xs.getD k 0 = x) := hxe
      have HD : Hid (∀ j, j < 2 * k → C[j]? = some (.int .u8 (M.hexAt xs j))) := hD
      have hx1 := hx.1
      have hx2 := hx.2
      have c0 : ∃ v, wr.cell? ⟨w.heap.size + 1, 2 * k, none⟩ = some v := by
        rw [cell_of_row _ _ _ _ _ _ hB]; exact ⟨_, Array.getElem?_eq_getElem (by omega)⟩
      have c1 : ∃ v, wr.cell? ⟨w.heap.size + 1, 2 * k + 1, none⟩ = some v := by
        rw [cell_of_row _ _ _ _ _ _ hB]; exact ⟨_, Array.getElem?_eq_getElem (by omega)⟩
      obtain ⟨v0, c0⟩ := c0
      obtain ⟨v1, c1⟩ := c1
      have f0 := frozen_of_row _ _ (2 * k) _ _ hB
      have f1 := frozen_of_row _ _ (2 * k + 1) _ _ hB
      have HB : Hid (wr.heap[w.heap.size + 1]? = some (.cells C 32 (0, 0))) := hB
      have hidx := fun W => run_index_digest W _ k _ hxk hlt
      have hd1 := fun W K => run_index_digTab W K (x / 16) (by omega) (by omega)
      have hd2 := fun W K => run_index_digTab W K (x % 16) (by omega) (by omega)
      clear hB hD hr hxk hxe
      go_wp2
      go_roundw
      case rel =>
        have g1 := heap_setCell_same _ _ (2 * k) _ _ (.int .u8 (M.dgt (x / 16))) HB.out
        have g2 := heap_setCell_same _ _ (2 * k + 1) _ _ (.int .u8 (M.dgt (x % 16))) g1
        refine ⟨k + 1, _, by omega, by go_num, g2, by simp [hC], fun j hj => ?_, (hbel.setCell (by simp) _).setCell (by simp) _⟩
        rcases Nat.lt_or_ge j (2 * k) with h | h
        · rw [Array.getElem?_setIfInBounds_ne (by omega), Array.getElem?_setIfInBounds_ne (by omega)]
          exact HD.out j h
        · rcases Nat.lt_or_ge j (2 * k + 1) with h' | h'
          · obtain rfl : j = 2 * k := by omega
            rw [Array.getElem?_setIfInBounds_ne (by omega), Array.getElem?_setIfInBounds_self_of_lt (by omega), M.hexAt_even, HX.out]
          · obtain rfl : j = 2 * k + 1 := by omega
            rw [Array.getElem?_setIfInBounds_self_of_lt (by simp; omega), M.hexAt_odd, HX.out]
      case measure => simp [intOf]; omega
    · obtain rfl : k = 32 := by omega
      have hcv := run_convert_bytes_back (P := Try.prog) wr 33 9 5 ⟨w.heap.size + 1, 0, none⟩ 64 (M.hexB xs) Try.underlying33 Try.underlying5 Try.underlying9 (fun j hj => by
        rw [M.hexB_get hr j hj, Addr.add_mid, Nat.zero_add, cell_of_row _ _ _ _ _ _ hB]
        exact hD j (by rw [M.hexB_length] at hj; omega))
      rw [M.hexB_length] at hcv
      clear hD hB hr
      go_wp2
      go_ret
      exact ⟨rfl, hbel⟩
end Go.Proofs.Ythgkcbnicpfjmaa
