/-
  The rounds' bound: boundOf, times.
-/
import Derived.Test.YtdfgijdededolabGreatDoorCN15
namespace Go.Proofs.YtdfgijdededolabGreatDoor
open Go.RowKit
attribute [local go_sem ↓] Go.wp_at_zero Go.wp_at_succ

def bnd (p c k : Nat) : Nat := min (p * (c + 1) ^ (k + 1) + 1) 4611686018427387904
theorem pow_up (p f : Nat) (hf : 1 ≤ f) {i j : Nat} (h : i ≤ j) : p * f ^ i ≤ p * f ^ j := Nat.mul_le_mul_left _ (Nat.pow_le_pow_right hf h)
theorem bnd_big {p c k j : Nat} (h : 4611686018427387904 ≤ p * (c + 1) ^ j) (hj : j ≤ k + 1) : bnd p c k = 4611686018427387904 := by
  have := pow_up p (c + 1) (by omega) hj
  unfold bnd; omega
theorem min_castG (N R M : Nat) (h : min (N + 1) M = R) : min ((N : Int) + 1) (M : Int) = (R : Int) := by omega
theorem min_cast (N R : Nat) (h : min (N + 1) 4611686018427387904 = R) : min ((N : Int) + 1) 4611686018427387904 = (R : Int) := min_castG N R 4611686018427387904 h
set_option maxRecDepth 20000 in
set_option maxHeartbeats 2000000 in
theorem boundOf_any (p c k : Nat) (w : World) (hp : p ≤ 3000000000000) (hc : c ≤ 3000000000000) (hk : k ≤ 3000000000000) :
    Calls Tryz.prog 37 #[.int .i64 (p : Int), .int .i64 (c : Int), .int .i64 (k : Int)] w fun e w' => e = .returned (.int .i64 (bnd p c k : Int)) ∧ Below w.heap.size w w' := by
  obtain ⟨R, hR⟩ : ∃ R, bnd p c k = R := ⟨_, rfl⟩
  rw [hR]
  have HBG : Hid (∀ j, 4611686018427387904 ≤ p * (c + 1) ^ j → j ≤ k + 1 → 4611686018427387904 = R) := fun j h1 h2 => by rw [← hR]; exact (bnd_big h1 h2).symm
  have HEN : Hid (∀ N, N = p * (c + 1) ^ (k + 1) → min (N + 1) 4611686018427387904 = R) := fun N h => by rw [← hR, h]; rfl
  clear hR
  obtain ⟨f, hf⟩ : ∃ f, c + 1 = f := ⟨_, rfl⟩
  rw [hf] at HBG HEN
  have hfi : (c : Int) + 1 = (f : Int) := by omega
  have hf0 : ¬ (f : Int) = 0 := by omega
  obtain ⟨Q, hQ⟩ : ∃ Q, 4611686018427387904 / f = Q := ⟨_, rfl⟩
  have hq : (4611686018427387904 : Int).tdiv (f : Int) = (Q : Int) := by rw [Int.tdiv_eq_ediv_of_nonneg (by omega), ← hQ]; rfl
  have hf1 : 1 ≤ f := by omega
  have HQ : Hid (∀ N : Nat, Q < N → 4611686018427387904 < N * f) := fun N h => by
    have h1 : 4611686018427387904 / f < N := by omega
    exact (Nat.div_lt_iff_lt_mul (by omega)).1 h1
  have HQ2 : Hid (∀ N : Nat, N ≤ Q → N * f ≤ 4611686018427387904) := fun N h => by
    have h1 : N ≤ 4611686018427387904 / f := by omega
    exact (Nat.le_div_iff_mul_le (by omega)).1 h1
  have hqb : Q ≤ 4611686018427387904 := by rw [← hQ]; exact Nat.div_le_self _ _
  clear hQ
  go_enter Tryz.func37, Tryz.ntmps37
  go_wp2
  go_loopg [7, 14] (k + 1) (fun g n i wr => ∃ (j N : Nat), j + g = k + 1 ∧ i = .int .i64 (j : Int) ∧ n = .int .i64 (N : Int) ∧ N = p * f ^ j ∧ N ≤ 4611686018427387904 ∧ Below w.heap.size w wr)
  case atStart => exact ⟨0, p, by omega, rfl, rfl, by simp, by omega, Below.refl _ _⟩
  case round =>
    obtain ⟨j, N, hg, rfl, rfl, hN, hm, hb⟩ := hrel
    have HN : Hid (N = p * f ^ j) := hN
    clear hN
    by_cases hjl : j < k + 1
    · have k1 : (j : Int) < (k : Int) + 1 := by omega
      by_cases hqn : Q < N
      · have k2 : (Q : Int) < (N : Int) := by omega
        have HE : Hid (4611686018427387904 = R) := by
          refine HBG.out (j + 1) ?_ (by omega)
          rw [Nat.pow_succ, ← Nat.mul_assoc, ← HN.out]
          exact Nat.le_of_lt (HQ.out N hqn)
        go_wp2
        go_ret
        exact ⟨ret_i (by have := HE.out; omega), hb⟩
      · have k2 : ¬ (Q : Int) < (N : Int) := by omega
        obtain ⟨N2, hN2⟩ : ∃ N2, N * f = N2 := ⟨_, rfl⟩
        have hmi : (N : Int) * (f : Int) = (N2 : Int) := by rw [← hN2]; exact (Int.natCast_mul N f).symm
        have hm2 : N2 ≤ 4611686018427387904 := by rw [← hN2]; exact HQ2.out N (by omega)
        have HN2 : Hid (N2 = p * f ^ (j + 1)) := by show _ = _; rw [Nat.pow_succ, ← Nat.mul_assoc, ← HN.out, hN2]
        clear hN2
        go_wp2
        go_roundg (gk - 1)
        case measure => omega
        case rel => exact ⟨j + 1, N2, by omega, by go_num, by go_num, HN2.out, hm2, hb⟩
    · have k1 : ¬ (j : Int) < (k : Int) + 1 := by omega
      obtain rfl : j = k + 1 := by omega
      have HE : Hid (min (N + 1) 4611686018427387904 = R) := HEN.out N HN.out
      go_wp2
      go_ret
      exact ⟨ret_i (min_cast N R HE.out), hb⟩
set_option maxHeartbeats 1000000 in
theorem times_any (a b : Nat) (w : World) (ha : a ≤ 4611686018427387904) :
    Calls Tryz.prog 42 #[.int .i64 (a : Int), .int .i64 (b : Int)] w fun e w' => e = .returned (.int .i64 (min (a * b) 4611686018427387904 : Nat)) ∧ w' = w := by
  obtain ⟨R, hR⟩ : ∃ R, min (a * b) 4611686018427387904 = R := ⟨_, rfl⟩
  rw [hR]
  by_cases h0 : a = 0
  · have HR : Hid ((0 : Nat) = R) := by show _ = _; rw [← hR, h0]; simp
    subst h0
    have hmi : ((0 : Nat) : Int) * (b : Int) = 0 := by simp
    clear hR
    go_enter Tryz.func42, Tryz.ntmps42
    go_wp2
    go_ret
    exact ⟨ret_i (by have := HR.out; omega), rfl⟩
  · have hi0 : ¬ (a : Int) = 0 := by omega
    have n1 : ((a : Int) == 0) = false := beq_eq_false_iff_ne.2 hi0
    have n2 : ((a : Int) != 0) = true := by rw [bne, n1]; rfl
    obtain ⟨Q, hQ⟩ : ∃ Q, 4611686018427387904 / a = Q := ⟨_, rfl⟩
    have hq : (4611686018427387904 : Int).tdiv (a : Int) = (Q : Int) := by rw [Int.tdiv_eq_ediv_of_nonneg (by omega), ← hQ]; rfl
    have hqb : Q ≤ 4611686018427387904 := by rw [← hQ]; exact Nat.div_le_self _ _
    by_cases hqn : Q < b
    · have k2 : (Q : Int) < (b : Int) := by omega
      have HR : Hid (4611686018427387904 = R) := by
        have h1 : 4611686018427387904 / a < b := by omega
        have h2 := (Nat.div_lt_iff_lt_mul (by omega)).1 h1
        rw [Nat.mul_comm] at h2
        show _ = _
        rw [← hR]; omega
      clear hR hQ
      go_enter Tryz.func42, Tryz.ntmps42
      go_wp2
      go_ret
      exact ⟨ret_i (by have := HR.out; omega), rfl⟩
    · have k2 : ¬ (Q : Int) < (b : Int) := by omega
      have hle : a * b ≤ 4611686018427387904 := by
        have h1 : b ≤ 4611686018427387904 / a := by omega
        have h2 := (Nat.le_div_iff_mul_le (by omega)).1 h1
        rw [Nat.mul_comm]; exact h2
      have HR : Hid (a * b = R) := by show _ = _; rw [← hR]; omega
      obtain ⟨N, hN⟩ : ∃ N, a * b = N := ⟨_, rfl⟩
      have hmi : (a : Int) * (b : Int) = (N : Int) := by rw [← hN]; exact (Int.natCast_mul a b).symm
      rw [hN] at hle HR
      clear hR hQ hN
      go_enter Tryz.func42, Tryz.ntmps42
      go_wp2
      go_ret
      exact ⟨ret_i (by have := HR.out; omega), rfl⟩
end Go.Proofs.YtdfgijdededolabGreatDoor
