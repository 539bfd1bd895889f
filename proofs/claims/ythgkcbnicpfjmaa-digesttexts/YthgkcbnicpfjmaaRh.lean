/-
  hearsayref01.Hex, for every digest.
-/
import Derived.Test.YthgkcbnicpfjmaaHx
import Derived.Deep.RegionHeld3
import Derived.Deep.AppendLies
import Derived.Deep.DrawnRows
namespace Go.Proofs.Ythgkcbnicpfjmaa
open Go.RowKit

theorem Try.info5 : (Try.prog.info? 5).map (fun i => (i.zero, i.size, i.bytes)) = some (some (.int .u8 0), 1, 1) := by kernel_rfl
def hexV (xs : List Int) (n : Nat) : List Value := (List.range n).map fun j => .int .u8 (M.hexAt xs j)
theorem hexV_length (xs : List Int) (n : Nat) : (hexV xs n).length = n := by simp [hexV]
theorem hexV_two (xs : List Int) (k : Nat) (x : Int) (h : xs.getD k 0 = x) : hexV xs (2 * k) ++ [.int .u8 (M.dgt (x / 16)), .int .u8 (M.dgt (x % 16))] = hexV xs (2 * (k + 1)) := by
  have e : 2 * (k + 1) = 2 * k + 1 + 1 := by omega
  unfold hexV
  rw [e, List.range_succ, List.range_succ]
  simp [M.hexAt_even, M.hexAt_odd, ← h]

theorem rh_rel (xs : List Int) (w wr w1 : World) (k : Nat) (x : Int) (v : Value) (gg cap : Nat) (hsz : w.heap.size + 1 ≤ wr.heap.size) (hX : xs.getD k 0 = x)
    (hO : wr.ownsRow (w.heap.size + 1) 5 1 v (2 * k) (hexV xs (2 * k))) (hB : wr.heap[w.heap.size]? = some (.cells (xs.map (Value.int .u8)).toArray 23 (0, 0))) (hbel : Below w.heap.size w wr)
    (hown1 : w1.ownsRow (w.heap.size + 1) 5 1 (.slice (some ⟨gg, 0, none⟩) (2 * k + 2) cap) (2 * k + 2) (hexV xs (2 * k) ++ [.int .u8 (M.dgt (x / 16)), .int .u8 (M.dgt (x % 16))]))
    (hgrow : (wr.alloc (.cells #[.int .u8 (M.dgt (x / 16)), .int .u8 (M.dgt (x % 16))] 5)).drew.grownBy w1 v.ownBlock) :
    w1.ownsRow (w.heap.size + 1) 5 1 (.slice (some ⟨gg, 0, none⟩) (2 * k + 2) cap) (2 * (k + 1)) (hexV xs (2 * (k + 1))) ∧
      w1.heap[w.heap.size]? = some (.cells (xs.map (Value.int .u8)).toArray 23 (0, 0)) ∧ w.heap.size + 1 ≤ w1.heap.size ∧ Below w.heap.size w w1 := by
  have hlt := hO.lt
  have hs := hgrow.size
  simp at hs
  refine ⟨?_, ?_, by omega, ?_⟩
  · rw [hexV_two xs k x hX] at hown1; exact hown1
  · rw [hgrow.block _ (by simp; omega) (fun e => by have := hlt _ e.symm; omega)]
    exact (Below.heap_alloc wr _ _ (by omega)).trans hB
  · exact ((hbel.alloc (by omega) _).drew).grown hgrow (by simp; omega) (fun q e => by have := hlt _ e; omega)

attribute [local go_sem ↓] Go.wp_at_zero Go.wp_at_succ
set_option maxHeartbeats 1000000 in
theorem rh_any (xs : List Int) (w : World) (hl : xs.length = 32) (hr : ∀ x ∈ xs, 0 ≤ x ∧ x ≤ 255) :
    Calls Try.prog 7 #[.agg (xs.map (Value.int .u8)).toArray] w fun e w' => e = .returned (.string ⟨(M.hexB xs).toArray⟩) ∧ Below w.heap.size w w' := by
  obtain ⟨i0, hi0, hz0, hz1, hz2⟩ := info_parts Try.info5
  go_enter Try.func7, Try.ntmps7
  go_wp2
  go_loopw [3, 4] (fun v i wr => ∃ (k : Nat), k ≤ 32 ∧ i = .int .i64 k ∧ wr.ownsRow (w.heap.size + 1) 5 1 v (2 * k) (hexV xs (2 * k)) ∧
      wr.heap[w.heap.size]? = some (.cells (xs.map (Value.int .u8)).toArray 23 (0, 0)) ∧ w.heap.size + 1 ≤ wr.heap.size ∧ Below w.heap.size w wr) (fun _ i _ => 32 - (intOf i).toNat)
  case atStart => exact ⟨0, by omega, rfl, World.ownsRow_nil _ _ _ _, heap_alloc_new _ _, by simp, (Below.refl _ _).alloc (Nat.le_refl _) _⟩
  case round =>
    obtain ⟨k, hk, rfl, hown, hB, hsz, hbel⟩ := hrel
    by_cases hlt : k < 32
    · have hx := M.getD_range hr k
      have hxk : (xs.map (Value.int .u8)).toArray[k]? = some (.int .u8 (xs.getD k 0)) := by simp [List.getD, hl, hlt]
      obtain ⟨x, hxe⟩ : ∃ x, xs.getD k 0 = x := ⟨_, rfl⟩
      rw [hxe] at hx hxk
      have HX : Hid (xs.getD k 0 = x) := hxe
      have hx1 := hx.1
      have hx2 := hx.2
      have c0 : wr.cell? ⟨w.heap.size, k, none⟩ = some (.int .u8 x) := by rw [cell_of_row _ _ _ _ _ _ hB]; exact hxk
      have hd1 := fun W K => run_index_digTab W K (x / 16) (by omega) (by omega)
      have hd2 := fun W K => run_index_digTab W K (x % 16) (by omega) (by omega)
      have hk0 : (0 : Int) ≤ (k : Int) := Int.natCast_nonneg _
      have hk1 : (k : Int) < 32 := by omega
      have HB : Hid (wr.heap[w.heap.size]? = some (.cells (xs.map (Value.int .u8)).toArray 23 (0, 0))) := hB
      have HO : Hid (wr.ownsRow (w.heap.size + 1) 5 1 u3 (2 * k) (hexV xs (2 * k))) := hown
      have hne : u3.ownBlock ≠ some w.heap.size := fun e => by have := hown.lt _ e; omega
      have hq1 : Int.tdiv x 16 = x / 16 := Int.tdiv_eq_ediv_of_nonneg hx1
      have hq2 : Int.tmod x 16 = x % 16 := Int.tmod_eq_emod_of_nonneg hx1
      have hw1 : IntKind.u8.wrap (x / 16) = x / 16 := by simp [IntKind.wrap_u8]; omega
      have hw2 : IntKind.u8.wrap (x % 16) = x % 16 := by simp [IntKind.wrap_u8]; omega
      clear hB hr hxk hxe hown
      go_wp2
      go_region_held3 (fun w' => w'.cell? ⟨w.heap.size, k, none⟩ = some (.int .u8 x))
        (first
          | go_keep
          | (rw [hgrow.cell_far _ (by simp; omega) (Ne.symm hne)]; assumption))
        ((refine step_append_lies _ (by rfl) _ _ _ (by rfl) (w.heap.size + 1) 5 i0 _ 1 1 Try.underlying33 hi0 hz0 hz1 hz2 rfl (by omega) u3 (2 * k) (hexV xs (2 * k)) (by rfl) ((HO.out.alloc _).drew) ⟨wr.heap.size, 0, none⟩ 2 2 [.int .u8 (M.dgt (x / 16)), .int .u8 (M.dgt (x % 16))] (by rfl) (by rfl) (World.news_of_block (cs := #[.int .u8 (M.dgt (x / 16)), .int .u8 (M.dgt (x % 16))]) (t := 5) (fr := (0, 0)) (heap_alloc_new wr _)) (by simp [Value.oneCell']) (by omega) (by unfold maxLen; omega) (by omega) (by simp; omega) (wr.heap.size + 1) (by simp) ?_; intro gg cap w1 hown1 hgrow hat hlt1))
      all_goals
        have R := rh_rel xs w wr w1 k x u3 gg cap hsz HX.out HO.out HB.out hbel hown1 hgrow
        clear hown1 hgrow hat hlt1 hq1 hq2 hw1 hw2 hd1 hd2 c0 hne HX HO HB
        go_wp2
        go_roundw
        case rel => exact ⟨k + 1, by omega, by go_num, R⟩
        case measure => simp [intOf]; omega
    · obtain rfl : k = 32 := by omega
      obtain ⟨g, cap, rfl, hg, _⟩ := hown.form (by omega)
      have hcv := run_convert_bytes_back (P := Try.prog) wr 33 9 5 ⟨g, 0, none⟩ cap (M.hexB xs) Try.underlying33 Try.underlying5 Try.underlying9 (fun j hj => by
        have := hown.cells (g := g) rfl j (.int .u8 (M.hexAt xs j)) (by rw [M.hexB_length] at hj; simp [hexV, List.getElem?_range hj])
        rw [M.hexB_get hr j hj, this])
      rw [M.hexB_length] at hcv
      clear hown hB hr
      go_wp2
      go_ret
      exact ⟨rfl, hbel⟩
end Go.Proofs.Ythgkcbnicpfjmaa
