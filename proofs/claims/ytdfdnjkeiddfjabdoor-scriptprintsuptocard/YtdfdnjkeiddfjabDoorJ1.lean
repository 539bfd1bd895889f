/-
  Bytes and runs: smallLetter, beginsVariable, digit, runByte, runEnd; ref's small, great, digit, run.
-/
import Derived.Test.YtdfdnjkeiddfjabDoorProg
import Derived.WalkKit
import Derived.WalkSpells
import Derived.KernelRfl
import Derived.Below
import Derived.Deep.LoopGhost
import Derived.Deep.WholeRow
import Derived.Deep.MidRow
import Derived.Deep.RegionHeld3
import Derived.Deep.AppendLies
import Derived.Laws.IdiomStrings
namespace Go.Proofs.YtdfdnjkeiddfjabDoor
open Go.RowKit

/-- A text's byte. -/
def atK_ (s : ByteArray) (j : Nat) : Int := if h : j < s.size then (s[j].toNat : Int) else 0
theorem atK_lt (s : ByteArray) (j : Nat) (h : j < s.size) : atK_ s j = (s[j].toNat : Int) := by unfold atK_; rw [dif_pos h]
theorem at_range (s : ByteArray) (j : Nat) : 0 ≤ atK_ s j ∧ atK_ s j ≤ 255 := by
  unfold atK_; split
  · rename_i h; have := s[j].toNat_lt; omega
  · omega
theorem run_index_atK (s : ByteArray) (j : Nat) (hj : j < s.size) (i : Int) (hi : i = j) (w : World) (k : IntKind) : (Instr.index 9 (.string s) (.int k i)).run Tryd.prog w = .ok (.int .u8 (atK_ s j)) w := by
  subst hi
  rw [run_index_string w 9 s k _ Tryd.underlying9, dif_pos (by omega), atK_lt s j hj]
  simp
def sml (c : Int) : Bool := decide (97 ≤ c) && decide (c ≤ 122)
def grt (c : Int) : Bool := (decide (65 ≤ c) && decide (c ≤ 90)) || decide (c = 95)
def dig (c : Int) : Bool := decide (48 ≤ c) && decide (c ≤ 57)
def rnb (c : Int) : Bool := sml c || grt c || dig c
theorem small_anyK (c : Int) (w : World) : Calls Tryd.prog 52 #[.int .u8 c] w fun e w' => e = .returned (.bool (sml c)) ∧ w' = w := by
  unfold sml
  by_cases a : 97 ≤ c <;> by_cases b : c ≤ 122 <;> (go_enter Tryd.func52, Tryd.ntmps52; go_wp2; go_ret; exact ⟨by simp [a, b], rfl⟩)
theorem qsmall_any (c : Int) (w : World) : Calls Tryd.prog 63 #[.int .u8 c] w fun e w' => e = .returned (.bool (sml c)) ∧ w' = w := by
  unfold sml
  by_cases a : 97 ≤ c <;> by_cases b : c ≤ 122 <;> (go_enter Tryd.func63, Tryd.ntmps63; go_wp2; go_ret; exact ⟨by simp [a, b], rfl⟩)
theorem digit_any (c : Int) (w : World) : Calls Tryd.prog 56 #[.int .u8 c] w fun e w' => e = .returned (.bool (dig c)) ∧ w' = w := by
  unfold dig
  by_cases a : 48 ≤ c <;> by_cases b : c ≤ 57 <;> (go_enter Tryd.func56, Tryd.ntmps56; go_wp2; go_ret; exact ⟨by simp [a, b], rfl⟩)
theorem qdigit_any (c : Int) (w : World) : Calls Tryd.prog 65 #[.int .u8 c] w fun e w' => e = .returned (.bool (dig c)) ∧ w' = w := by
  unfold dig
  by_cases a : 48 ≤ c <;> by_cases b : c ≤ 57 <;> (go_enter Tryd.func65, Tryd.ntmps65; go_wp2; go_ret; exact ⟨by simp [a, b], rfl⟩)
theorem great_any (c : Int) (w : World) : Calls Tryd.prog 55 #[.int .u8 c] w fun e w' => e = .returned (.bool (grt c)) ∧ w' = w := by
  unfold grt
  by_cases a : 65 ≤ c <;> by_cases b : c ≤ 90 <;> by_cases d : c = 95 <;> (go_enter Tryd.func55, Tryd.ntmps55; go_wp2; go_ret; exact ⟨by (try simp [a, b, d]) <;> (rw [Bool.eq_iff_iff]; simp; omega), rfl⟩)
theorem qgreat_any (c : Int) (w : World) : Calls Tryd.prog 64 #[.int .u8 c] w fun e w' => e = .returned (.bool (grt c)) ∧ w' = w := by
  unfold grt
  by_cases a : 65 ≤ c <;> by_cases b : c ≤ 90 <;> by_cases d : c = 95 <;> (go_enter Tryd.func64, Tryd.ntmps64; go_wp2; go_ret; exact ⟨by (try simp [a, b, d]) <;> (rw [Bool.eq_iff_iff]; simp; omega), rfl⟩)
theorem runByte_any (c : Int) (w : World) : Calls Tryd.prog 77 #[.int .u8 c] w fun e w' => e = .returned (.bool (rnb c)) ∧ w' = w := by
  unfold rnb
  cases a : sml c <;> cases b : grt c <;> cases d : dig c <;>
    (have ca := small_anyK c; have cb := great_any c; have cd := digit_any c; rw [a] at ca; rw [b] at cb; rw [d] at cd;
     go_enter Tryd.func77, Tryd.ntmps77
     go_wp2_with (first | (go_at_call 52; refine (ca _).mono ?_; rintro e w1 ⟨rfl, rfl⟩) | (go_at_call 55; refine (cb _).mono ?_; rintro e w1 ⟨rfl, rfl⟩) | (go_at_call 56; refine (cd _).mono ?_; rintro e w1 ⟨rfl, rfl⟩))
     go_ret
     exact ⟨by simp, rfl⟩)
/-- The place behind the run that begins at j. -/
def rneF (s : ByteArray) : Nat → Nat → Nat
  | 0, j => j
  | f + 1, j => if rnb (atK_ s j) = true then rneF s f (j + 1) else j
def rne (s : ByteArray) (j : Nat) : Nat := rneF s (s.size - j) j
theorem rne_yes {s : ByteArray} {j : Nat} (hj : j < s.size) (h : rnb (atK_ s j) = true) : rne s (j + 1) = rne s j := by
  unfold rne
  obtain ⟨f, hf⟩ : ∃ f, s.size - j = f + 1 := ⟨s.size - j - 1, by omega⟩
  rw [hf, show s.size - (j + 1) = f by omega]
  show rneF s f (j + 1) = if rnb (atK_ s j) = true then rneF s f (j + 1) else j
  rw [if_pos h]
theorem rne_no {s : ByteArray} {j : Nat} (h : rnb (atK_ s j) = false) : rne s j = j := by
  unfold rne
  cases hf : s.size - j with
  | zero => rfl
  | succ f => show (if rnb (atK_ s j) = true then rneF s f (j + 1) else j) = j; rw [h]; rfl
theorem rne_end {s : ByteArray} : rne s s.size = s.size := by unfold rne; rw [Nat.sub_self]; rfl
theorem runEnd_any (s : ByteArray) (j0 : Nat) (h0 : j0 ≤ s.size) (hs : s.size < 4611686018427387904) (w : World) :
    Calls Tryd.prog 53 #[.string s, .int .i64 j0] w fun e w' => e = .returned (.int .i64 (rne s j0)) ∧ w' = w := by
  go_enter Tryd.func53, Tryd.ntmps53
  go_wp2
  go_loopg [1] (s.size - j0) (fun g i wr => ∃ j : Nat, j + g = s.size ∧ i = .int .i64 j ∧ rne s j = rne s j0 ∧ wr = w)
  case atStart => exact ⟨j0, by omega, rfl, rfl, rfl⟩
  case round =>
    obtain ⟨j, hj, rfl, hr, rfl⟩ := hrel
    have HR : Hid (rne s j = rne s j0) := hr
    clear hr
    cases gk with
    | succ g =>
      have hlt : j < s.size := by omega
      have i1 : (j : Int) < (s.size : Int) := by omega
      have hidx := run_index_atK s j hlt (j : Int) rfl
      have cr := runByte_any (atK_ s j)
      obtain ⟨c, hc⟩ : ∃ c, atK_ s j = c := ⟨_, rfl⟩
      rw [hc] at hidx cr
      have HC : Hid (atK_ s j = c) := hc
      cases hb : rnb c
      · rw [hb] at cr
        clear hc
        have HB : Hid (rnb c = false) := hb
        clear hb
        go_wp2_with (go_at_call 77; refine (cr _).mono ?_; rintro e w1 ⟨rfl, rfl⟩)
        go_ret
        exact ⟨by rw [← HR.out, rne_no (by rw [HC.out]; exact HB.out)]; rfl, rfl⟩
      · rw [hb] at cr
        have HB : Hid (rnb c = true) := hb
        clear hc hb
        go_wp2_with (go_at_call 77; refine (cr _).mono ?_; rintro e w1 ⟨rfl, rfl⟩)
        go_roundg g
        case measure => omega
        case rel => exact ⟨j + 1, by omega, by go_num, by rw [rne_yes hlt (by rw [HC.out]; exact HB.out)]; exact HR.out, rfl⟩
    | zero =>
      obtain rfl : j = s.size := by omega
      have hz : ¬ ((s.size : Int) < (s.size : Int)) := by omega
      go_wp2
      go_ret
      exact ⟨by rw [← HR.out, rne_end]; rfl, rfl⟩
theorem qrun_any (s : ByteArray) (j0 : Nat) (h0 : j0 ≤ s.size) (hs : s.size < 4611686018427387904) (w : World) :
    Calls Tryd.prog 62 #[.string s, .int .i64 j0] w fun e w' => e = .returned (.int .i64 (rne s j0)) ∧ w' = w := by
  go_enter Tryd.func62, Tryd.ntmps62
  go_wp2
  go_loopg [1] (s.size - j0) (fun g i wr => ∃ j : Nat, j + g = s.size ∧ i = .int .i64 j ∧ rne s j = rne s j0 ∧ wr = w)
  case atStart => exact ⟨j0, by omega, rfl, rfl, rfl⟩
  case round =>
    obtain ⟨j, hj, rfl, hr, rfl⟩ := hrel
    have HR : Hid (rne s j = rne s j0) := hr
    clear hr
    cases gk with
    | succ g =>
      have hlt : j < s.size := by omega
      have i1 : (j : Int) < (s.size : Int) := by omega
      have hidx := run_index_atK s j hlt (j : Int) rfl
      have ca := qsmall_any (atK_ s j)
      have cb := qgreat_any (atK_ s j)
      have cd := qdigit_any (atK_ s j)
      obtain ⟨c, hc⟩ : ∃ c, atK_ s j = c := ⟨_, rfl⟩
      rw [hc] at hidx ca cb cd
      have HC : Hid (atK_ s j = c) := hc
      have HB : Hid (∀ x y z, sml c = x → grt c = y → dig c = z → rnb (atK_ s j) = (x || y || z)) := fun x y z hx hy hz => by rw [hc, rnb, hx, hy, hz]
      cases a : sml c <;> cases b : grt c <;> cases d : dig c <;>
        (rw [a] at ca; rw [b] at cb; rw [d] at cd
         have HB1 : Hid _ := HB.out _ _ _ a b d
         clear HB hc a b d
         go_wp2_with (first | (go_at_call 63; refine (ca _).mono ?_; rintro e w1 ⟨rfl, rfl⟩) | (go_at_call 64; refine (cb _).mono ?_; rintro e w1 ⟨rfl, rfl⟩) | (go_at_call 65; refine (cd _).mono ?_; rintro e w1 ⟨rfl, rfl⟩))
         first
           | (go_ret; exact ⟨by rw [← HR.out, rne_no HB1.out]; rfl, rfl⟩)
           | (go_roundg g
              case measure => omega
              case rel => exact ⟨j + 1, by omega, by go_num, by rw [rne_yes hlt HB1.out]; exact HR.out, rfl⟩))
    | zero =>
      obtain rfl : j = s.size := by omega
      have hz : ¬ ((s.size : Int) < (s.size : Int)) := by omega
      go_wp2
      go_ret
      exact ⟨by rw [← HR.out, rne_end]; rfl, rfl⟩
end Go.Proofs.YtdfdnjkeiddfjabDoor
