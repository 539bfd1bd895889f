/-
  hearsayref01.FromHex, for every text.
-/
import Derived.Test.YthgkcbnicpfjmaaMatb
import Derived.Test.YthgkcbnicpfjmaaFh
import Derived.Test.YthgkcbnicpfjmaaRh
import Derived.Deep.QuietTactic
import Derived.BigQuiet
import Derived.WalkSmall
namespace Go.Proofs.Ythgkcbnicpfjmaa
open Go.RowKit

/-- The bytes amid round i, v values tried. -/
def amid (s : ByteArray) (i v : Nat) : Nat → Int := fun b => if b = i / 2 then M.stV (M.rf s i (i / 2)) (M.at_ s i) v else M.rf s i b

theorem amid_zero (s : ByteArray) (i : Nat) : amid s i 0 = M.rf s i := by
  funext b
  unfold amid
  split
  · rename_i h; rw [h, M.stV_zero]
  · rfl
theorem amid_end (s : ByteArray) (i : Nat) : amid s i 16 = M.rf s (i + 1) := by
  funext b
  unfold amid
  split
  · rename_i h; rw [h, M.stV_end, M.rf_next]
  · rename_i h; rw [M.rf_other s i b h]

theorem amid_miss (s : ByteArray) (k n : Nat) (c : Int) (hn : n < 16) (ec : M.at_ s k = c) (h : ¬ M.dgt n = c) : amid s k (n + 1) = amid s k n := by
  funext b
  unfold amid
  rw [ec, M.stV_miss _ c n h hn]
theorem rf_hit (s : ByteArray) (w wr : World) (k n nq : Nat) (c d : Int) (hn : n < 16) (ec : M.at_ s k = c) (ed : M.rf s k (k / 2) = d) (hit : M.dgt n = c)
    (hB : wr.heap[w.heap.size]? = some (.cells (dcells fun _ => 0) 23 (0, 0))) (hD : wr.heap[w.heap.size + 1]? = some (.cells (dcells (amid s k n)) 23 (0, 0))) (hbel : Below w.heap.size w wr) :
    ((wr.drewN nq).setCell ⟨w.heap.size + 1, k / 2, none⟩ (.int .u8 (d * 16 + n))).heap[w.heap.size]? = some (.cells (dcells fun _ => 0) 23 (0, 0)) ∧
    ((wr.drewN nq).setCell ⟨w.heap.size + 1, k / 2, none⟩ (.int .u8 (d * 16 + n))).heap[w.heap.size + 1]? = some (.cells (dcells (amid s k (n + 1))) 23 (0, 0)) ∧
    Below w.heap.size w ((wr.drewN nq).setCell ⟨w.heap.size + 1, k / 2, none⟩ (.int .u8 (d * 16 + n))) := by
  refine ⟨?_, ?_, (below_drewN hbel nq).setCell (by simp) _⟩
  · rw [heap_setCell_other _ _ _ _ (by simp), World.heap_drewN]; exact hB
  · rw [heap_setCell_same _ _ _ (dcells (amid s k n)) 23 _ (by rw [World.heap_drewN]; exact hD)]
    congr 2
    apply dcells_ext _ _ (by simp [dcells_size])
    intro i hi
    by_cases h : k / 2 = i
    · subst h
      rw [Array.getElem?_setIfInBounds_self_of_lt (by rw [dcells_size]; omega)]
      simp [amid, ec, ed, (M.stV_hit d c n hit hn).2]
    · rw [Array.getElem?_setIfInBounds_ne h, dcells_get _ _ hi]
      have : ¬ i = k / 2 := fun e => h e.symm
      simp [amid, this]

theorem rdL_one (s : ByteArray) : (((M.rdL s).map (Value.int .u8)).toArray).all (·.oneCell') = true := by simp [Value.oneCell']
theorem ret_rd (s : ByteArray) (h : M.goodB s = true) : Ending.returned (.tuple #[.agg ((M.rdL s).map (Value.int .u8)).toArray, .int .i64 0]) = .returned (.tuple #[.agg (dcells (fhF s)), .int .i64 (M.fhE s)]) := by
  have e : ((M.rdL s).map (Value.int .u8)).toArray = dcells (fhF s) := dcells_ext _ _ (by simp [M.rdL_length]) fun i hi => by
    simp [M.rdL, hi, fhF, h, M.rd_good s h i hi]
  rw [e]; simp [M.fhE, h]

set_option maxHeartbeats 1000000 in
theorem rf_any (s : ByteArray) (w : World) (hs : s.size ≤ maxLen) :
    Calls Try.prog 5 #[.string s] w fun e w' => e = .returned (.tuple #[.agg (dcells (fhF s)), .int .i64 (M.fhE s)]) ∧ Below w.heap.size w w' := by
  unfold maxLen at hs
  go_enter Try.func5, Try.ntmps5
  go_wp2
  go_loopw [5] (fun i wr => ∃ (k : Nat), k ≤ s.size ∧ k ≤ 64 ∧ i = .int .i64 k ∧ wr.heap[w.heap.size]? = some (.cells (dcells fun _ => 0) 23 (0, 0)) ∧
      wr.heap[w.heap.size + 1]? = some (.cells (dcells (M.rf s k)) 23 (0, 0)) ∧ Below w.heap.size w wr) (fun i _ => 64 - (intOf i).toNat)
  case atStart => exact ⟨0, by omega, by omega, rfl, heap_alloc2_old _ _ _, heap_alloc2_new _ _ _, (((Below.refl _ _).alloc (Nat.le_refl _) _).alloc (by simp) _)⟩
  case round =>
    obtain ⟨k, hk, hk64, rfl, hB, hD, hbel⟩ := hrel
    by_cases hlt : k < s.size ∧ k < 64
    · obtain ⟨hlt1, hlt2⟩ := hlt
      have HB : Hid (wr.heap[w.heap.size]? = some (.cells (dcells fun _ => 0) 23 (0, 0))) := hB
      have HD : Hid (wr.heap[w.heap.size + 1]? = some (.cells (dcells (M.rf s k)) 23 (0, 0))) := hD
      clear hB hD
      go_wp2
      go_loopw [6] (fun v wq => ∃ (n : Nat), n ≤ 16 ∧ v = .int .i64 n ∧ wq.heap[w.heap.size]? = some (.cells (dcells fun _ => 0) 23 (0, 0)) ∧
        wq.heap[w.heap.size + 1]? = some (.cells (dcells (amid s k n)) 23 (0, 0)) ∧ Below w.heap.size w wq) (fun v _ => 16 - (intOf v).toNat)
      case atStart => exact ⟨0, by omega, rfl, HB.out, by rw [amid_zero]; exact HD.out, hbel⟩
      case round =>
        obtain ⟨n, hn, rfl, hB, hD, hbel⟩ := hrel
        clear HB HD
        have HB : Hid (wr.heap[w.heap.size]? = some (.cells (dcells fun _ => 0) 23 (0, 0))) := hB
        have HD : Hid (wr.heap[w.heap.size + 1]? = some (.cells (dcells (amid s k n)) 23 (0, 0))) := hD
        by_cases hn16 : n < 16
        · have hd := fun W K => run_index_digTab W K (n : Int) (by omega) (by omega)
          have hc := run_index_at s k hlt1 (k : Int) rfl
          have hcur := M.rf_cur s k
          obtain ⟨c, ec⟩ : ∃ c, M.at_ s k = c := ⟨_, rfl⟩
          obtain ⟨d, ed⟩ : ∃ d, M.rf s k (k / 2) = d := ⟨_, rfl⟩
          rw [ec] at hc
          rw [ed] at hcur
          have f0 := frozen_of_row _ _ (k / 2) _ _ hD
          by_cases hit : M.dgt n = c
          · have c0 : wr.cell? ⟨w.heap.size + 1, k / 2, none⟩ = some (.int .u8 d) := by
              rw [cell_of_row _ _ _ _ _ _ hD, dcells_get _ _ (by omega)]
              simp [amid, ec, ed, (M.stV_hit d c n hit hn16).1]
            have EC : Hid (M.at_ s k = c) := ec
            have ED : Hid (M.rf s k (k / 2) = d) := ed
            have HIT : Hid (M.dgt n = c) := hit
            have hq : (M.dgt n == c) = true := by simpa using hit
            clear hB hD ec ed hit
            go_wp2
            go_quiet (fail)
            go_wp2
            go_roundw
            case rel => exact ⟨n + 1, by omega, by go_num, rf_hit s w wr k n nq c d hn16 EC.out ED.out HIT.out HB.out HD.out hbel⟩
            case measure => simp [intOf]; omega
          · have EC : Hid (M.at_ s k = c) := ec
            have MISS : Hid (¬ M.dgt n = c) := hit
            have hq : (M.dgt n == c) = false := by simpa using hit
            clear hB hD ec ed hit f0
            go_wp2
            go_quiet (fail)
            go_wp2
            go_roundw
            case rel => exact ⟨n + 1, by omega, by go_num, by rw [World.heap_drewN]; exact HB.out, by rw [World.heap_drewN, amid_miss s k n c hn16 EC.out MISS.out]; exact HD.out, below_drewN hbel nq⟩
            case measure => simp [intOf]; omega
        · obtain rfl : n = 16 := by omega
          clear hB hD
          go_wp2
          go_roundw
          case rel => exact ⟨k + 1, by omega, by omega, by go_num, HB.out, by rw [← amid_end]; exact HD.out, hbel⟩
          case measure => simp [intOf]; omega
    · have hend : s.size ≤ k ∨ 64 ≤ k := by omega
      have ed : dcells (M.rf s k) = ((M.rdL s).map (Value.int .u8)).toArray := by
        rw [dcells_ext (dcells (M.rf s k)) (M.rd s) (dcells_size _) (fun i hi => by rw [dcells_get _ _ hi, M.rf_end s k i hi hend])]
        simp [dcells, M.rdL]
      rw [ed] at hD
      have HB : Hid (wr.heap[w.heap.size]? = some (.cells (dcells fun _ => 0) 23 (0, 0))) := hB
      have HD : Hid (wr.heap[w.heap.size + 1]? = some (.cells ((M.rdL s).map (Value.int .u8)).toArray 23 (0, 0))) := hD
      clear hB hD ed
      have hsz : w.heap.size + 1 < wr.heap.size := (Array.getElem?_eq_some_iff.1 HD.out).1
      by_cases g : M.goodB s = true
      · have G : Hid (M.goodB s = true) := g
        have hq : (M.hexB (M.rdL s) == s.toList) = true := by rw [ByteArray.toList_eq, (M.hexB_iff s).2 g]; simp
        by_cases k1 : k < s.size
        · have k2 : ¬ k < 64 := by omega
          clear hlt hend g
          go_wp2_with (first
            | (refine wpList_load_row rfl 23 (.tmp 4) rfl (w.heap.size + 1) rfl 23 ((M.rdL s).map (Value.int .u8)).toArray (0, 0) _ HD.out Try.underlying23 rfl (by rw [Try.size23]; simp [M.rdL_length]) ?_)
            | (go_at_call 7; refine (rh_any _ _ (M.rdL_length s) (M.rdL_range s)).mono ?_; rintro e w1 ⟨rfl, hb1⟩; have HB1 : Hid _ := (hb1.block _ (by omega)).trans HB.out; have HD1 : Hid _ := (hb1.block _ hsz).trans HD.out)
            | (refine wpList_load_row rfl 23 (.tmp 4) rfl (w.heap.size + 1) rfl 23 ((M.rdL s).map (Value.int .u8)).toArray (0, 0) _ HD1.out Try.underlying23 rfl (by rw [Try.size23]; simp [M.rdL_length]) ?_)
            | (refine wpList_store_row rfl 23 (.tmp 2) (.tmp 43) rfl w.heap.size ((M.rdL s).map (Value.int .u8)).toArray rfl (by rfl) 23 _ HB1.out (by rw [Try.size23]; simp [M.rdL_length]) (by simp [dcells_size, M.rdL_length]) (rdL_one s) ?_))
          refine bodyPost_ret (ret_fh Try.results5 _ _ w.heap.size ((M.rdL s).map (Value.int .u8)).toArray (.int .i64 0) rfl rfl (setRow_heap _ _ _ _ _ _ HB1.out) (by simp [M.rdL_length])) rfl ⟨?_, below_setRow (hbel.trans (hb1.mono (by omega))) (Nat.le_refl _) _⟩
          exact ret_rd s G.out
        · clear hlt hend g
          go_wp2_with (first
            | (refine wpList_load_row rfl 23 (.tmp 4) rfl (w.heap.size + 1) rfl 23 ((M.rdL s).map (Value.int .u8)).toArray (0, 0) _ HD.out Try.underlying23 rfl (by rw [Try.size23]; simp [M.rdL_length]) ?_)
            | (go_at_call 7; refine (rh_any _ _ (M.rdL_length s) (M.rdL_range s)).mono ?_; rintro e w1 ⟨rfl, hb1⟩; have HB1 : Hid _ := (hb1.block _ (by omega)).trans HB.out; have HD1 : Hid _ := (hb1.block _ hsz).trans HD.out)
            | (refine wpList_load_row rfl 23 (.tmp 4) rfl (w.heap.size + 1) rfl 23 ((M.rdL s).map (Value.int .u8)).toArray (0, 0) _ HD1.out Try.underlying23 rfl (by rw [Try.size23]; simp [M.rdL_length]) ?_)
            | (refine wpList_store_row rfl 23 (.tmp 2) (.tmp 43) rfl w.heap.size ((M.rdL s).map (Value.int .u8)).toArray rfl (by rfl) 23 _ HB1.out (by rw [Try.size23]; simp [M.rdL_length]) (by simp [dcells_size, M.rdL_length]) (rdL_one s) ?_))
          refine bodyPost_ret (ret_fh Try.results5 _ _ w.heap.size ((M.rdL s).map (Value.int .u8)).toArray (.int .i64 0) rfl rfl (setRow_heap _ _ _ _ _ _ HB1.out) (by simp [M.rdL_length])) rfl ⟨?_, below_setRow (hbel.trans (hb1.mono (by omega))) (Nat.le_refl _) _⟩
          exact ret_rd s G.out
      · have G : Hid (M.goodB s = false) := eq_false_of_ne_true g
        have hq : (M.hexB (M.rdL s) == s.toList) = false := by
          rw [ByteArray.toList_eq]
          exact beq_eq_false_iff_ne.2 fun e => g ((M.hexB_iff s).1 e)
        by_cases k1 : k < s.size
        · have k2 : ¬ k < 64 := by omega
          clear hlt hend g
          go_wp2_with (first
            | (refine wpList_load_row rfl 23 (.tmp 4) rfl (w.heap.size + 1) rfl 23 ((M.rdL s).map (Value.int .u8)).toArray (0, 0) _ HD.out Try.underlying23 rfl (by rw [Try.size23]; simp [M.rdL_length]) ?_)
            | (go_at_call 7; refine (rh_any _ _ (M.rdL_length s) (M.rdL_range s)).mono ?_; rintro e w1 ⟨rfl, hb1⟩; have HB1 : Hid _ := (hb1.block _ (by omega)).trans HB.out; have HD1 : Hid _ := (hb1.block _ hsz).trans HD.out)
            | (refine wpList_store_row rfl 23 (.tmp 2) (.tmp 42) rfl w.heap.size (dcells fun _ => 0) rfl (by rfl) 23 _ HB1.out (by rw [Try.size23, dcells_size]) (by simp only [dcells_size]) (dcells_one _) ?_))
          refine bodyPost_ret (ret_fh Try.results5 _ _ w.heap.size (dcells fun _ => 0) (.int .i64 11) rfl rfl (setRow_heap _ _ _ _ _ _ HB1.out) (dcells_size _)) rfl ⟨?_, below_setRow (hbel.trans (hb1.mono (by omega))) (Nat.le_refl _) _⟩
          exact ret_bad s G.out
        · clear hlt hend g
          go_wp2_with (first
            | (refine wpList_load_row rfl 23 (.tmp 4) rfl (w.heap.size + 1) rfl 23 ((M.rdL s).map (Value.int .u8)).toArray (0, 0) _ HD.out Try.underlying23 rfl (by rw [Try.size23]; simp [M.rdL_length]) ?_)
            | (go_at_call 7; refine (rh_any _ _ (M.rdL_length s) (M.rdL_range s)).mono ?_; rintro e w1 ⟨rfl, hb1⟩; have HB1 : Hid _ := (hb1.block _ (by omega)).trans HB.out; have HD1 : Hid _ := (hb1.block _ hsz).trans HD.out)
            | (refine wpList_store_row rfl 23 (.tmp 2) (.tmp 42) rfl w.heap.size (dcells fun _ => 0) rfl (by rfl) 23 _ HB1.out (by rw [Try.size23, dcells_size]) (by simp only [dcells_size]) (dcells_one _) ?_))
          refine bodyPost_ret (ret_fh Try.results5 _ _ w.heap.size (dcells fun _ => 0) (.int .i64 11) rfl rfl (setRow_heap _ _ _ _ _ _ HB1.out) (dcells_size _)) rfl ⟨?_, below_setRow (hbel.trans (hb1.mono (by omega))) (Nat.le_refl _) _⟩
          exact ret_bad s G.out
end Go.Proofs.Ythgkcbnicpfjmaa
