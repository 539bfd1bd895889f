/-
  digest.FromHex, for every text.
-/
import Derived.Test.YthgkcbnicpfjmaaDv
import Derived.Test.YthgkcbnicpfjmaaHx
import Derived.Laws.ResultCell
namespace Go.Proofs.Ythgkcbnicpfjmaa
open Go.RowKit

/-- 32 bytes as cells. -/
def dcells (f : Nat → Int) : Array Value := ((List.range 32).map fun i => Value.int .u8 (f i)).toArray
theorem dcells_size (f : Nat → Int) : (dcells f).size = 32 := by simp [dcells]
theorem dcells_get (f : Nat → Int) (i : Nat) (h : i < 32) : (dcells f)[i]? = some (.int .u8 (f i)) := by simp [dcells, h]
theorem dcells_one (f : Nat → Int) : (dcells f).all (·.oneCell') = true := by
  simp [dcells, Value.oneCell']
theorem dcells_zero : dcells (fun _ => 0) = #[.int .u8 0, .int .u8 0, .int .u8 0, .int .u8 0, .int .u8 0, .int .u8 0, .int .u8 0, .int .u8 0, .int .u8 0, .int .u8 0, .int .u8 0, .int .u8 0, .int .u8 0, .int .u8 0, .int .u8 0, .int .u8 0, .int .u8 0, .int .u8 0, .int .u8 0, .int .u8 0, .int .u8 0, .int .u8 0, .int .u8 0, .int .u8 0, .int .u8 0, .int .u8 0, .int .u8 0, .int .u8 0, .int .u8 0, .int .u8 0, .int .u8 0, .int .u8 0] := rfl
theorem dcells_ext (C : Array Value) (f : Nat → Int) (hs : C.size = 32) (h : ∀ i, i < 32 → C[i]? = some (.int .u8 (f i))) : C = dcells f := by
  apply Array.ext_getElem?
  intro i
  rcases Nat.lt_or_ge i 32 with hi | hi
  · rw [h i hi, dcells_get f i hi]
  · rw [Array.getElem?_eq_none (by omega), Array.getElem?_eq_none (by rw [dcells_size]; omega)]

theorem ret_fh {fn : Func} (hf : fn.results = #[.cell 2 23, .tmp 3]) (tmps : Array Value) (w : World) (g : Nat) (C : Array Value) (v : Value)
    (h2 : tmps.getD 2 undef = .pointer (some ⟨g, 0, none⟩)) (h3 : tmps.getD 3 undef = v) (hg : w.heap[g]? = some (.cells C 23 (0, 0))) (hC : C.size = 32) :
    (results fn tmps).run Try.prog w = .ok (.tuple #[.agg C, v]) w := by
  rw [results_cell_tmp hf, h2, h3]
  simp [asAddr, Result.andThen, run_loadVar_row (P := Try.prog) w g 23 23 C (0, 0) _ hg Try.underlying23 rfl (by rw [Try.size23, hC])]

theorem below_setRow {B : Nat} {a w : World} (h : Below B a w) {g : Nat} (hg : B ≤ g) (cs : Array Value) : Below B a (w.setRow g cs) :=
  h.trans ⟨rfl, rfl, rfl, by simp, fun k hk => by simp only [World.setRow, Array.getElem?_modify]; rw [if_neg (by omega)]⟩

set_option maxHeartbeats 400000 in
theorem fh_len (s : ByteArray) (w : World) (h64 : s.size ≠ 64) :
    Calls Try.prog 4 #[.string s] w fun e w' => e = .returned (.tuple #[.agg (dcells fun _ => 0), .int .i64 11]) ∧ Below w.heap.size w w' := by
  have h64' : ((s.size : Int) == 64) = false := by simp; omega
  go_enter Try.func4, Try.ntmps4
  go_wp2_with (refine wpList_store_row rfl 23 (.tmp 2) (.tmp 13) rfl w.heap.size (dcells fun _ => 0) rfl (by rfl) 23 _ (heap_alloc2_old _ _ _) (by rw [Try.size23, dcells_size]) (by rw [dcells_size]; rfl) (dcells_one _) ?_)
  exact bodyPost_ret (ret_fh Try.results4 _ _ w.heap.size (dcells fun _ => 0) (.int .i64 11) rfl rfl (setRow_heap _ _ _ _ _ _ (heap_alloc2_old _ _ _)) (dcells_size _)) rfl
    ⟨rfl, below_setRow (((Below.refl _ _).alloc (Nat.le_refl _) _).alloc (by simp) _) (Nat.le_refl _) _⟩

theorem run_index_at (s : ByteArray) (j : Nat) (hj : j < s.size) (i : Int) (hi : i = j) (w : World) (k : IntKind) : (Instr.index 9 (.string s) (.int k i)).run Try.prog w = .ok (.int .u8 (M.at_ s j)) w := by
  subst hi
  rw [run_index_string w 9 s k _ Try.underlying9, dif_pos (by omega), M.at_lt s j hj]
  simp

/-- What FromHex answers. -/
def fhF (s : ByteArray) : Nat → Int := fun i => if M.goodB s then M.byteAt s i else 0
/-- The bytes that have been read so far. -/
def sofar (s : ByteArray) (k : Nat) : Nat → Int := fun i => if i < k then M.byteAt s i else 0

theorem or_nat : ∀ a : Nat, a < 16 → ∀ b : Nat, b < 16 → bits BinOp.or IntKind.u8 ((a : Int) * 16) (b : Int) = (a : Int) * 16 + b := by decide
theorem or_hl (h l : Int) (h0 : 0 ≤ h) (h1 : h ≤ 15) (l0 : 0 ≤ l) (l1 : l ≤ 15) : bits BinOp.or IntKind.u8 (h * 16) l = h * 16 + l := by
  obtain ⟨a, rfl⟩ : ∃ a : Nat, h = a := ⟨h.toNat, by omega⟩
  obtain ⟨b, rfl⟩ : ∃ b : Nat, l = b := ⟨l.toNat, by omega⟩
  exact or_nat a (by omega) b (by omega)
theorem not_good (s : ByteArray) (j : Nat) (hj : j < 64) (h : ¬ M.okc (M.at_ s j) = true) : M.goodB s = false := by
  cases e : M.goodB s
  · rfl
  · exact absurd (((M.goodB_iff s).1 e).2 j hj) h
theorem ret_bad (s : ByteArray) (h : M.goodB s = false) : Ending.returned (.tuple #[.agg (dcells fun _ => 0), .int .i64 11]) = .returned (.tuple #[.agg (dcells (fhF s)), .int .i64 (M.fhE s)]) := by
  have e : dcells (fhF s) = dcells fun _ => 0 := dcells_ext _ _ (dcells_size _) fun i hi => by rw [dcells_get _ _ hi]; simp [fhF, h]
  rw [e]; simp [M.fhE, h]
theorem ret_good (s : ByteArray) (h : M.goodB s = true) : Ending.returned (.tuple #[.agg (dcells (sofar s 32)), .int .i64 0]) = .returned (.tuple #[.agg (dcells (fhF s)), .int .i64 (M.fhE s)]) := by
  have e : dcells (sofar s 32) = dcells (fhF s) := dcells_ext _ _ (dcells_size _) fun i hi => by
    rw [dcells_get _ _ hi]; simp [sofar, fhF, hi, h]
  rw [e]; simp [M.fhE, h]
theorem fh_rel (s : ByteArray) (w wr : World) (k : Nat) (c0 c1 : Int) (e0 : M.at_ s (2 * k) = c0) (e1 : M.at_ s (2 * k + 1) = c1) (o0 : M.okc c0 = true) (o1 : M.okc c1 = true)
    (hok : ∀ j, j < 2 * k → M.okc (M.at_ s j) = true) (hB : wr.heap[w.heap.size]? = some (.cells (dcells fun _ => 0) 23 (0, 0)))
    (hD : wr.heap[w.heap.size + 1]? = some (.cells (dcells (sofar s k)) 23 (0, 0))) (hbel : Below w.heap.size w wr) :
    (wr.setCell ⟨w.heap.size + 1, k, none⟩ (.int .u8 (M.val c0 * 16 + M.val c1))).heap[w.heap.size]? = some (.cells (dcells fun _ => 0) 23 (0, 0)) ∧
    (wr.setCell ⟨w.heap.size + 1, k, none⟩ (.int .u8 (M.val c0 * 16 + M.val c1))).heap[w.heap.size + 1]? = some (.cells (dcells (sofar s (k + 1))) 23 (0, 0)) ∧
    (∀ j, j < 2 * (k + 1) → M.okc (M.at_ s j) = true) ∧ Below w.heap.size w (wr.setCell ⟨w.heap.size + 1, k, none⟩ (.int .u8 (M.val c0 * 16 + M.val c1))) := by
  refine ⟨?_, ?_, fun j hj => ?_, hbel.setCell (by simp) _⟩
  · rw [heap_setCell_other _ _ _ _ (by simp)]; exact hB
  · rw [heap_setCell_same _ _ _ _ _ _ hD]
    congr 2
    apply dcells_ext _ _ (by simp [dcells_size])
    intro i hi
    by_cases h : k = i
    · subst h
      rw [Array.getElem?_setIfInBounds_self_of_lt (by rw [dcells_size]; omega)]
      simp [sofar, M.byteAt, e0, e1]
    · rw [Array.getElem?_setIfInBounds_ne h, dcells_get _ _ hi]
      have : (i < k + 1) ↔ (i < k) := by omega
      simp [sofar, this]
  · rcases Nat.lt_or_ge j (2 * k) with h | h
    · exact hok j h
    · rcases Nat.lt_or_ge j (2 * k + 1) with h' | h'
      · obtain rfl : j = 2 * k := by omega
        rw [e0]; exact o0
      · obtain rfl : j = 2 * k + 1 := by omega
        rw [e1]; exact o1

set_option maxHeartbeats 1000000 in
theorem fh_64 (s : ByteArray) (w : World) (h64 : s.size = 64) :
    Calls Try.prog 4 #[.string s] w fun e w' => e = .returned (.tuple #[.agg (dcells (fhF s)), .int .i64 (M.fhE s)]) ∧ Below w.heap.size w w' := by
  have h64' : ((s.size : Int) == 64) = true := by simp; omega
  go_enter Try.func4, Try.ntmps4
  go_wp2
  go_loopw [14] (fun i wr => ∃ (k : Nat), k ≤ 32 ∧ i = .int .i64 k ∧ wr.heap[w.heap.size]? = some (.cells (dcells fun _ => 0) 23 (0, 0)) ∧
      wr.heap[w.heap.size + 1]? = some (.cells (dcells (sofar s k)) 23 (0, 0)) ∧ (∀ j, j < 2 * k → M.okc (M.at_ s j) = true) ∧ Below w.heap.size w wr) (fun i _ => 32 - (intOf i).toNat)
  case atStart => exact ⟨0, by omega, rfl, heap_alloc2_old _ _ _, heap_alloc2_new _ _ _, by omega, (((Below.refl _ _).alloc (Nat.le_refl _) _).alloc (by simp) _)⟩
  case round =>
    obtain ⟨k, hk, rfl, hB, hD, hok, hbel⟩ := hrel
    by_cases hlt : k < 32
    · have i0 := run_index_at s (2 * k) (by omega) (2 * (k : Int)) (by omega)
      have i1 := run_index_at s (2 * k + 1) (by omega) (2 * (k : Int) + 1) (by omega)
      have r0 := M.at_range s (2 * k)
      have r1 := M.at_range s (2 * k + 1)
      have HK : Hid (∀ j, j < 2 * k → M.okc (M.at_ s j) = true) := hok
      have HB : Hid (wr.heap[w.heap.size]? = some (.cells (dcells fun _ => 0) 23 (0, 0))) := hB
      have HD : Hid (wr.heap[w.heap.size + 1]? = some (.cells (dcells (sofar s k)) 23 (0, 0))) := hD
      obtain ⟨c0, e0⟩ : ∃ c, M.at_ s (2 * k) = c := ⟨_, rfl⟩
      obtain ⟨c1, e1⟩ : ∃ c, M.at_ s (2 * k + 1) = c := ⟨_, rfl⟩
      rw [e0] at i0 r0
      rw [e1] at i1 r1
      have E0 : Hid (M.at_ s (2 * k) = c0) := e0
      have E1 : Hid (M.at_ s (2 * k + 1) = c1) := e1
      have c0' : wr.cell? ⟨w.heap.size + 1, k, none⟩ = some (.int .u8 (sofar s k k)) := by rw [cell_of_row _ _ _ _ _ _ hD]; exact dcells_get _ _ hlt
      have f0 := frozen_of_row _ _ k _ _ hD
      have v0 := M.val_range c0
      have v1 := M.val_range c1
      clear hB hD hok e0 e1
      by_cases o0 : M.okc c0 = true
      · by_cases o1 : M.okc c1 = true
        · go_wp2_with (go_at_call 8; refine (dv_any _ _ (by omega) (by omega)).mono ?_; rintro e w' ⟨rfl, rfl⟩)
          go_roundw
          case rel =>
            rw [or_hl _ _ v0.1 v0.2 v1.1 v1.2]
            exact ⟨k + 1, by omega, by go_num, fh_rel s w w' k c0 c1 E0.out E1.out o0 o1 HK.out HB.out HD.out hbel⟩
          case measure => simp [intOf]; omega
        · have hbad : Hid (M.goodB s = false) := not_good s (2 * k + 1) (by omega) (by rw [E1.out]; exact o1)
          have o1' : M.okc c1 = false := by simpa using o1
          clear o1
          go_wp2_with (first
            | (go_at_call 8; refine (dv_any _ _ (by omega) (by omega)).mono ?_; rintro e w' ⟨rfl, rfl⟩)
            | (refine wpList_store_row rfl 23 (.tmp 2) (.tmp 40) rfl w.heap.size (dcells fun _ => 0) rfl (by rfl) 23 _ HB.out (by rw [Try.size23, dcells_size]) (by simp only [dcells_size]) (dcells_one _) ?_))
          refine bodyPost_ret (ret_fh Try.results4 _ _ w.heap.size (dcells fun _ => 0) (.int .i64 11) rfl rfl (setRow_heap _ _ _ _ _ _ HB.out) (dcells_size _)) rfl ⟨?_, below_setRow hbel (Nat.le_refl _) _⟩
          exact ret_bad s hbad.out
      · have hbad : Hid (M.goodB s = false) := not_good s (2 * k) (by omega) (by rw [E0.out]; exact o0)
        have o0' : M.okc c0 = false := by simpa using o0
        clear o0
        go_wp2_with (first
          | (go_at_call 8; refine (dv_any _ _ (by omega) (by omega)).mono ?_; rintro e w' ⟨rfl, rfl⟩)
          | (refine wpList_store_row rfl 23 (.tmp 2) (.tmp 40) rfl w.heap.size (dcells fun _ => 0) rfl (by rfl) 23 _ HB.out (by rw [Try.size23, dcells_size]) (by simp only [dcells_size]) (dcells_one _) ?_))
        refine bodyPost_ret (ret_fh Try.results4 _ _ w.heap.size (dcells fun _ => 0) (.int .i64 11) rfl rfl (setRow_heap _ _ _ _ _ _ HB.out) (dcells_size _)) rfl ⟨?_, below_setRow hbel (Nat.le_refl _) _⟩
        exact ret_bad s hbad.out
    · obtain rfl : k = 32 := by omega
      have hgood : M.goodB s = true := (M.goodB_iff s).2 ⟨h64, fun j hj => hok j (by omega)⟩
      have HG : Hid (M.goodB s = true) := hgood
      have HB : Hid (wr.heap[w.heap.size]? = some (.cells (dcells fun _ => 0) 23 (0, 0))) := hB
      have HD : Hid (wr.heap[w.heap.size + 1]? = some (.cells (dcells (sofar s 32)) 23 (0, 0))) := hD
      clear hok hgood hB hD
      go_wp2_with (first
        | (refine wpList_load_row rfl 23 (.tmp 4) rfl (w.heap.size + 1) rfl 23 (dcells (sofar s 32)) (0, 0) _ HD.out Try.underlying23 rfl (by rw [Try.size23, dcells_size]) ?_)
        | (refine wpList_store_row rfl 23 (.tmp 2) (.tmp 48) rfl w.heap.size (dcells (sofar s 32)) rfl (by rfl) 23 _ HB.out (by rw [Try.size23, dcells_size]) (by simp only [dcells_size]) (dcells_one _) ?_))
      refine bodyPost_ret (ret_fh Try.results4 _ _ w.heap.size (dcells (sofar s 32)) (.int .i64 0) rfl rfl (setRow_heap _ _ _ _ _ _ HB.out) (dcells_size _)) rfl ⟨?_, below_setRow hbel (Nat.le_refl _) _⟩
      exact ret_good s HG.out

theorem fh_any (s : ByteArray) (w : World) :
    Calls Try.prog 4 #[.string s] w fun e w' => e = .returned (.tuple #[.agg (dcells (fhF s)), .int .i64 (M.fhE s)]) ∧ Below w.heap.size w w' := by
  by_cases h64 : s.size = 64
  · exact fh_64 s w h64
  · have hbad : M.goodB s = false := by
      cases h : M.goodB s
      · rfl
      · exact absurd ((M.goodB_iff s).1 h).1 h64
    refine (fh_len s w h64).mono ?_
    rintro e w' ⟨rfl, hb⟩
    exact ⟨ret_bad s hbad, hb⟩
end Go.Proofs.Ythgkcbnicpfjmaa
