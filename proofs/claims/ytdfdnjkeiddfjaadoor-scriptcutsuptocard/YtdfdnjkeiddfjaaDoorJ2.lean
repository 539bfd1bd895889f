import Derived.Test.YtdfdnjkeiddfjaaDoorProg
import Derived.WalkKit
import Derived.WalkSpells
import Derived.KernelRfl
import Derived.Below
import Derived.Deep.LoopGhost
import Derived.Deep.WholeRow
import Derived.Deep.MidRow
import Derived.Deep.RegionHeld3
import Derived.Deep.AppendLies
import Derived.Laws.IdiomStrings
/-
  Bytes and runs: smallLetter, beginsVariable, digit, runByte, runEnd; ref's small, great, digit, run.
-/
namespace Go.Proofs.YtdfdnjkeiddfjaaDoor
open Go.RowKit

/-- A text's byte. -/
def atK_ (s : ByteArray) (j : Nat) : Int := if h : j < s.size then (s[j].toNat : Int) else 0
theorem atK_lt (s : ByteArray) (j : Nat) (h : j < s.size) : atK_ s j = (s[j].toNat : Int) := by unfold atK_; rw [dif_pos h]
theorem at_range (s : ByteArray) (j : Nat) : 0 ≤ atK_ s j ∧ atK_ s j ≤ 255 := by
  unfold atK_; split
  · rename_i h; have := s[j].toNat_lt; omega
  · omega
theorem run_index_atK (s : ByteArray) (j : Nat) (hj : j < s.size) (i : Int) (hi : i = j) (w : World) (k : IntKind) : (Instr.index 9 (.string s) (.int k i)).run Tryd.prog w = .ok (.int .u8 (atK_ s j)) w := by
  subst hi
  rw [run_index_string w 9 s k _ Tryd.underlying9, dif_pos (by omega), atK_lt s j hj]
  simp
def sml (c : Int) : Bool := decide (97 ≤ c) && decide (c ≤ 122)
def grt (c : Int) : Bool := (decide (65 ≤ c) && decide (c ≤ 90)) || decide (c = 95)
def dig (c : Int) : Bool := decide (48 ≤ c) && decide (c ≤ 57)
def rnb (c : Int) : Bool := sml c || grt c || dig c
theorem small_anyK (c : Int) (w : World) : Calls Tryd.prog 35 #[.int .u8 c] w fun e w' => e = .returned (.bool (sml c)) ∧ w' = w := by
  unfold sml
  by_cases a : 97 ≤ c <;> by_cases b : c ≤ 122 <;> (go_enter Tryd.func35, Tryd.ntmps35; go_wp2; go_ret; exact ⟨by simp [a, b], rfl⟩)
theorem digit_any (c : Int) (w : World) : Calls Tryd.prog 39 #[.int .u8 c] w fun e w' => e = .returned (.bool (dig c)) ∧ w' = w := by
  unfold dig
  by_cases a : 48 ≤ c <;> by_cases b : c ≤ 57 <;> (go_enter Tryd.func39, Tryd.ntmps39; go_wp2; go_ret; exact ⟨by simp [a, b], rfl⟩)
theorem great_any (c : Int) (w : World) : Calls Tryd.prog 38 #[.int .u8 c] w fun e w' => e = .returned (.bool (grt c)) ∧ w' = w := by
  unfold grt
  by_cases a : 65 ≤ c <;> by_cases b : c ≤ 90 <;> by_cases d : c = 95 <;> (go_enter Tryd.func38, Tryd.ntmps38; go_wp2; go_ret; exact ⟨by (try simp [a, b, d]) <;> (rw [Bool.eq_iff_iff]; simp; omega), rfl⟩)
theorem runByte_any (c : Int) (w : World) : Calls Tryd.prog 62 #[.int .u8 c] w fun e w' => e = .returned (.bool (rnb c)) ∧ w' = w := by
  unfold rnb
  cases a : sml c <;> cases b : grt c <;> cases d : dig c <;>
    (have ca := small_anyK c; have cb := great_any c; have cd := digit_any c; rw [a] at ca; rw [b] at cb; rw [d] at cd;
     go_enter Tryd.func62, Tryd.ntmps62
     go_wp2_with (first | (go_at_call 35; refine (ca _).mono ?_; rintro e w1 ⟨rfl, rfl⟩) | (go_at_call 38; refine (cb _).mono ?_; rintro e w1 ⟨rfl, rfl⟩) | (go_at_call 39; refine (cd _).mono ?_; rintro e w1 ⟨rfl, rfl⟩))
     go_ret
     exact ⟨by simp, rfl⟩)
/-- The place behind the run that begins at j. -/
def rneF (s : ByteArray) : Nat → Nat → Nat
  | 0, j => j
  | f + 1, j => if rnb (atK_ s j) = true then rneF s f (j + 1) else j
def rne (s : ByteArray) (j : Nat) : Nat := rneF s (s.size - j) j
theorem rne_yes {s : ByteArray} {j : Nat} (hj : j < s.size) (h : rnb (atK_ s j) = true) : rne s (j + 1) = rne s j := by
  unfold rne
  obtain ⟨f, hf⟩ : ∃ f, s.size - j = f + 1 := ⟨s.size - j - 1, by omega⟩
  rw [hf, show s.size - (j + 1) = f by omega]
  show rneF s f (j + 1) = if rnb (atK_ s j) = true then rneF s f (j + 1) else j
  rw [if_pos h]
theorem rne_no {s : ByteArray} {j : Nat} (h : rnb (atK_ s j) = false) : rne s j = j := by
  unfold rne
  cases hf : s.size - j with
  | zero => rfl
  | succ f => show (if rnb (atK_ s j) = true then rneF s f (j + 1) else j) = j; rw [h]; rfl
theorem rne_end {s : ByteArray} : rne s s.size = s.size := by unfold rne; rw [Nat.sub_self]; rfl
theorem runEnd_any (s : ByteArray) (j0 : Nat) (h0 : j0 ≤ s.size) (hs : s.size < 4611686018427387904) (w : World) :
    Calls Tryd.prog 36 #[.string s, .int .i64 j0] w fun e w' => e = .returned (.int .i64 (rne s j0)) ∧ w' = w := by
  go_enter Tryd.func36, Tryd.ntmps36
  go_wp2
  go_loopg [1] (s.size - j0) (fun g i wr => ∃ j : Nat, j + g = s.size ∧ i = .int .i64 j ∧ rne s j = rne s j0 ∧ wr = w)
  case atStart => exact ⟨j0, by omega, rfl, rfl, rfl⟩
  case round =>
    obtain ⟨j, hj, rfl, hr, rfl⟩ := hrel
    have HR : Hid (rne s j = rne s j0) := hr
    clear hr
    cases gk with
    | succ g =>
      have hlt : j < s.size := by omega
      have i1 : (j : Int) < (s.size : Int) := by omega
      have hidx := run_index_atK s j hlt (j : Int) rfl
      have cr := runByte_any (atK_ s j)
      obtain ⟨c, hc⟩ : ∃ c, atK_ s j = c := ⟨_, rfl⟩
      rw [hc] at hidx cr
      have HC : Hid (atK_ s j = c) := hc
      cases hb : rnb c
      · rw [hb] at cr
        clear hc
        have HB : Hid (rnb c = false) := hb
        clear hb
        go_wp2_with (go_at_call 62; refine (cr _).mono ?_; rintro e w1 ⟨rfl, rfl⟩)
        go_ret
        exact ⟨by rw [← HR.out, rne_no (by rw [HC.out]; exact HB.out)]; rfl, rfl⟩
      · rw [hb] at cr
        have HB : Hid (rnb c = true) := hb
        clear hc hb
        go_wp2_with (go_at_call 62; refine (cr _).mono ?_; rintro e w1 ⟨rfl, rfl⟩)
        go_roundg g
        case measure => omega
        case rel => exact ⟨j + 1, by omega, by go_num, by rw [rne_yes hlt (by rw [HC.out]; exact HB.out)]; exact HR.out, rfl⟩
    | zero =>
      obtain rfl : j = s.size := by omega
      have hz : ¬ ((s.size : Int) < (s.size : Int)) := by omega
      go_wp2
      go_ret
      exact ⟨by rw [← HR.out, rne_end]; rfl, rfl⟩
end Go.Proofs.YtdfdnjkeiddfjaaDoor
/-
  Word, and ref's Word.
-/
namespace Go.Proofs.YtdfdnjkeiddfjaaDoor
open Go.RowKit

theorem toList_injK {a b : ByteArray} (h : a.toList = b.toList) : a = b := by
  rw [ByteArray.toList_eq, ByteArray.toList_eq] at h
  exact ByteArray.ext (Array.toList_inj.1 h)
theorem str_dec (a b : ByteArray) : (a.toList == b.toList) = decide (a = b) := by
  by_cases h : a = b
  · simp [h]
  · rw [decide_eq_false h]
    exact beq_eq_false_iff_ne.2 fun e => h (toList_injK e)
theorem emptyL : (⟨#[]⟩ : ByteArray).toList = [] := by rw [ByteArray.toList_eq]
theorem saysL : (⟨#[115, 97, 121, 115]⟩ : ByteArray).toList = [115, 97, 121, 115] := by rw [ByteArray.toList_eq]
/-- The text says. -/
def saysB : ByteArray := ⟨#[115, 97, 121, 115]⟩
/-- The sign says, as it lies in the table of signs. -/
def SaysOk (w : World) : Prop := w.cell? ⟨1, 5, none⟩ = some (.string ⟨#[115, 97, 121, 115]⟩)
def wrd (s : ByteArray) : Bool := !decide (s = ⟨#[]⟩) && (sml (atK_ s 0) && (decide (rne s 0 = s.size) && !decide (s = saysB)))
theorem size_posK {s : ByteArray} (h : ¬ s = ⟨#[]⟩) : 0 < s.size := by
  rcases Nat.eq_zero_or_pos s.size with e | e
  · exact absurd (ByteArray.ext (Array.eq_empty_of_size_eq_zero e)) h
  · exact e
theorem int_beq (a b : Nat) : ((a : Int) == (b : Int)) = decide (a = b) := by
  rw [Bool.eq_iff_iff]; simp; omega
theorem word_any (s : ByteArray) (hs : s.size < 4611686018427387904) (w : World) (hW : SaysOk w) :
    Calls Tryd.prog 71 #[.string s] w fun e w' => e = .returned (.bool (wrd s)) ∧ w' = w := by
  have e2 : decide (s = ⟨#[115, 97, 121, 115]⟩) = decide (s.toList = [115, 97, 121, 115]) := by rw [← str_dec, saysL]; exact (Bool.beq_eq_decide_eq _ _)
  have c1 : w.cell? ⟨1, 5, none⟩ = some (.string ⟨#[115, 97, 121, 115]⟩) := hW
  have ca := small_anyK (atK_ s 0)
  have cr := runEnd_any s 0 (Nat.zero_le _) hs
  have cq := int_beq (rne s 0) s.size
  unfold wrd saysB
  by_cases h1 : s = ⟨#[]⟩
  · have HF : Hid (s = ⟨#[]⟩) := h1
    have z1 : s.toList = [] := by rw [h1]; exact emptyL
    rw [decide_eq_true h1]
    clear h1 e2 ca cr cq
    go_enter Tryd.func71, Tryd.ntmps71
    go_wp2
    go_ret
    exact ⟨by simp, rfl⟩
  · have hp := size_posK h1
    have hidx := run_index_atK s 0 hp 0 rfl
    have z1 : ¬ s.toList = [] := fun e => h1 (toList_injK (e.trans emptyL.symm))
    rw [decide_eq_false h1]
    clear h1
    obtain ⟨c, hc⟩ : ∃ c, atK_ s 0 = c := ⟨_, rfl⟩
    rw [hc] at hidx ca
    rw [hc]
    obtain ⟨r, hr⟩ : ∃ r, rne s 0 = r := ⟨_, rfl⟩
    rw [hr] at cr cq
    rw [hr]
    clear hc hr
    cases a : sml c <;> cases b : decide (r = s.size) <;> cases d : decide (s = ⟨#[115, 97, 121, 115]⟩) <;>
      (rw [a] at ca; rw [b] at cq; rw [d] at e2; have z2 := e2.symm; simp only [decide_eq_true_eq, decide_eq_false_iff_not] at z2
       clear a b d e2
       go_enter Tryd.func71, Tryd.ntmps71
       go_wp2_with (first | (go_at_call 35; refine (ca _).mono ?_; rintro e w1 ⟨rfl, rfl⟩) | (go_at_call 36; refine (cr _).mono ?_; rintro e w1 ⟨rfl, rfl⟩))
       go_ret
       exact ⟨by simp [z1, z2], rfl⟩)
end Go.Proofs.YtdfdnjkeiddfjaaDoor
