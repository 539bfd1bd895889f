/-
  The reference writes: be, term, atom, Atom.
-/
import Derived.Test.YtjnipcakjoiplaaDoorCD3
namespace Go.Proofs.YtjnipcakjoiplaaDoor
open Go.RowKit

set_option maxRecDepth 20000 in
set_option maxHeartbeats 1000000 in
theorem rbe_any (k : Nat) (hk : k ≤ 8) (n : Int) (w : World) :
    Calls Tryd.prog 55 #[.int .u64 n, .int .i64 k] w fun e w' => ∃ v', e = .returned v' ∧ OwnB w' w.heap.size v' (be k n) ∧ Below w.heap.size w w' := by
  go_enter Tryd.func55, Tryd.ntmps55
  go_wp2
  go_loopg [5, 6] k (fun g u i wr => ∃ j : Nat, j + g = k ∧ i = .int .i64 ((g : Int) - 1) ∧ OwnB wr w.heap.size u ((be k n).take j) ∧ Below w.heap.size w wr)
  case atStart => exact ⟨0, by omega, by simp, by rw [List.take_zero]; exact ownB_nil _ _, Below.refl _ _⟩
  case round =>
    obtain ⟨j, hj, rfl, hw, hb⟩ := hrel
    have HW : Hid (OwnB wr w.heap.size u5 ((be k n).take j)) := hw
    have HB : Hid (Below w.heap.size w wr) := hb
    have hsz := hb.size
    clear hw hb
    cases gk with
    | succ g =>
      have e1 : ((g + 1 : Nat) : Int) - 1 = (g : Int) := by omega
      rw [e1]
      have i0 : (0 : Int) ≤ (g : Int) := by omega
      have i8 : (g : Int) ≤ 7 := by omega
      have hlen : ((be k n).take j).length ≤ 8 := by rw [List.length_take, be_len]; omega
      go_wp2_with (at_builtin; refine app8 rfl _ _ rfl w.heap.size u5 ((be k n).take j) rfl (HW.out.later (below1 _ _)) wr.heap.size [n / 2 ^ (8 * g) % 256] rfl (heap_alloc_new wr _) (by simp) (by simp only [List.length_cons, List.length_nil]; omega) (by simp; omega) ?_; intro v' w1 ho1)
      go_roundg g
      case measure => omega
      case rel =>
        refine ⟨j + 1, by omega, by go_num, ?_, HB.out.trans (((below1 _ _).mono (by omega)).trans ho1.low)⟩
        have e : (be k n).take (j + 1) = (be k n).take j ++ [n / 2 ^ (8 * g) % 256] := by rw [be_take k j n (by omega), pow8]; congr 5; omega
        rw [e]
        exact ho1.own
    | zero =>
      obtain rfl : j = k := by omega
      go_wp2
      go_ret
      refine ⟨_, rfl, ?_, HB.out⟩
      have := HW.out
      rwa [List.take_of_length_le (by rw [be_len]; exact Nat.le_refl _)] at this
set_option maxRecDepth 20000 in
set_option maxHeartbeats 2000000 in
theorem rterm_any (t : Tm) (ht : knd t) (w : World) :
    Calls Tryd.prog 35 #[t.v] w fun e w' => ∃ v', e = .returned v' ∧ OwnB w' w.heap.size v' (tB t) ∧ Below w.heap.size w w' := by
  obtain ⟨k, n, s⟩ := t
  obtain ⟨hk, hs⟩ := ht
  simp only at hk hs
  have HBE : Hid (∀ X : World, Calls Tryd.prog 55 #[.int .u64 (n % 18446744073709551616), .int .i64 8] X fun e w' => ∃ v', e = .returned v' ∧ OwnB w' X.heap.size v' (be 8 (n % 18446744073709551616)) ∧ Below X.heap.size X w') := fun X => rbe_any 8 (Nat.le_refl _) _ X
  have hl8 : (be 8 (n % 18446744073709551616)).length = 8 := be_len _ _
  rcases hk with rfl | rfl | rfl | rfl
  · have HE : Hid (tB ⟨0, n, s⟩ = [0]) := by show _ = _; simp [tB]
    go_enter Tryd.func35, Tryd.ntmps35
    go_wp2
    go_ret
    refine ⟨_, rfl, ?_, below2 _ _ _⟩
    rw [HE.out]
    have := OwnB.lit (w.alloc (.cells #[.int .i64 0, .int .i64 n, .string s] 23)) [0] (by simp)
    rw [show (w.alloc (.cells #[.int .i64 0, .int .i64 n, .string s] 23)).heap.size = w.heap.size + 1 by simp] at this
    exact this.mono (by omega)
  · have HE : Hid (tB ⟨1, n, s⟩ = [1] ++ be 8 (n % 18446744073709551616)) := by show _ = _; simp [tB]
    have HL : Hid (OwnB ((w.alloc (.cells #[.int .i64 1, .int .i64 n, .string s] 23)).alloc (.cells #[.int .u8 1] 5)) (w.heap.size + 1) (.slice (some ⟨w.heap.size + 1, 0, none⟩) 1 1) [1]) := by
      have := OwnB.lit (w.alloc (.cells #[.int .i64 1, .int .i64 n, .string s] 23)) [1] (by simp)
      rw [show (w.alloc (.cells #[.int .i64 1, .int .i64 n, .string s] 23)).heap.size = w.heap.size + 1 by simp] at this
      exact this
    go_enter Tryd.func35, Tryd.ntmps35
    go_wp2_with (first
      | (go_at_call 55; refine (HBE.out _).mono ?_; rintro e w1 ⟨v1, rfl, ho1, hb1⟩; have HO1 : Hid (OwnB w1 _ v1 _) := ho1; have HB1 : Hid (Below w.heap.size w w1) := below_step (below2 _ _ _) hb1; have HL1 : Hid (OwnB w1 _ _ [1]) := HL.out.later hb1; have hz : w.heap.size + 2 ≤ w1.heap.size := (by have := hb1.size; simpa using this); clear ho1 hb1)
      | (at_builtin; refine app8w rfl _ _ rfl (w.heap.size + 1) _ [1] rfl HL1.out v1 _ _ rfl HO1.out (by rw [hl8]; omega) (by rw [hl8]; simp) (by omega) ?_; intro v2 w2 ho2))
    go_ret
    exact ⟨_, rfl, by rw [HE.out]; exact ho2.own.mono (by omega), HB1.out.trans (ho2.low.mono (by omega))⟩
  · have HE : Hid (tB ⟨2, n, s⟩ = [2, (s.size : Int)] ++ bl s) := by show _ = _; simp [tB, sB]
    have hm : (s.size : Int) % 256 = (s.size : Int) := by omega
    have HL : Hid (OwnB ((w.alloc (.cells #[.int .i64 2, .int .i64 n, .string s] 23)).alloc (.cells #[.int .u8 2, .int .u8 (s.size : Int)] 5)) (w.heap.size + 1) (.slice (some ⟨w.heap.size + 1, 0, none⟩) 2 2) [2, (s.size : Int)]) := by
      have := OwnB.lit (w.alloc (.cells #[.int .i64 2, .int .i64 n, .string s] 23)) [2, (s.size : Int)] (by simp)
      rw [show (w.alloc (.cells #[.int .i64 2, .int .i64 n, .string s] 23)).heap.size = w.heap.size + 1 by simp] at this
      exact this
    go_enter Tryd.func35, Tryd.ntmps35
    go_wp2_with (at_builtin; refine app8s rfl _ _ rfl (w.heap.size + 1) _ [2, (s.size : Int)] rfl HL.out s rfl (by simp; omega) (by simp) ?_; intro v2 w2 ho2)
    go_ret
    exact ⟨_, rfl, by rw [HE.out]; exact ho2.own.mono (by omega), (below2 _ _ _).trans (ho2.low.mono (by omega))⟩
  · have HE : Hid (tB ⟨3, n, s⟩ = [3] ++ be 8 (n % 18446744073709551616)) := by show _ = _; simp [tB]
    have HL : Hid (OwnB ((w.alloc (.cells #[.int .i64 3, .int .i64 n, .string s] 23)).alloc (.cells #[.int .u8 3] 5)) (w.heap.size + 1) (.slice (some ⟨w.heap.size + 1, 0, none⟩) 1 1) [3]) := by
      have := OwnB.lit (w.alloc (.cells #[.int .i64 3, .int .i64 n, .string s] 23)) [3] (by simp)
      rw [show (w.alloc (.cells #[.int .i64 3, .int .i64 n, .string s] 23)).heap.size = w.heap.size + 1 by simp] at this
      exact this
    go_enter Tryd.func35, Tryd.ntmps35
    go_wp2_with (first
      | (go_at_call 55; refine (HBE.out _).mono ?_; rintro e w1 ⟨v1, rfl, ho1, hb1⟩; have HO1 : Hid (OwnB w1 _ v1 _) := ho1; have HB1 : Hid (Below w.heap.size w w1) := below_step (below2 _ _ _) hb1; have HL1 : Hid (OwnB w1 _ _ [3]) := HL.out.later hb1; have hz : w.heap.size + 2 ≤ w1.heap.size := (by have := hb1.size; simpa using this); clear ho1 hb1)
      | (at_builtin; refine app8w rfl _ _ rfl (w.heap.size + 1) _ [3] rfl HL1.out v1 _ _ rfl HO1.out (by rw [hl8]; omega) (by rw [hl8]; simp) (by omega) ?_; intro v2 w2 ho2))
    go_ret
    exact ⟨_, rfl, by rw [HE.out]; exact ho2.own.mono (by omega), HB1.out.trans (ho2.low.mono (by omega))⟩
end Go.Proofs.YtjnipcakjoiplaaDoor
