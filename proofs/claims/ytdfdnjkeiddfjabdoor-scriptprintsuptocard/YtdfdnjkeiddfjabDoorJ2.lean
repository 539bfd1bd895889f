/-
  Word, and ref's Word.
-/
import Derived.Test.YtdfdnjkeiddfjabDoorJ1
namespace Go.Proofs.YtdfdnjkeiddfjabDoor
open Go.RowKit

theorem toList_injK {a b : ByteArray} (h : a.toList = b.toList) : a = b := by
  rw [ByteArray.toList_eq, ByteArray.toList_eq] at h
  exact ByteArray.ext (Array.toList_inj.1 h)
theorem str_dec (a b : ByteArray) : (a.toList == b.toList) = decide (a = b) := by
  by_cases h : a = b
  · simp [h]
  · rw [decide_eq_false h]
    exact beq_eq_false_iff_ne.2 fun e => h (toList_injK e)
theorem emptyL : (⟨#[]⟩ : ByteArray).toList = [] := by rw [ByteArray.toList_eq]
theorem saysL : (⟨#[115, 97, 121, 115]⟩ : ByteArray).toList = [115, 97, 121, 115] := by rw [ByteArray.toList_eq]
/-- The text says. -/
def saysB : ByteArray := ⟨#[115, 97, 121, 115]⟩
/-- The sign says, as it lies in the table of signs. -/
def SaysOk (w : World) : Prop := w.cell? ⟨3, 5, none⟩ = some (.string ⟨#[115, 97, 121, 115]⟩)
def wrd (s : ByteArray) : Bool := !decide (s = ⟨#[]⟩) && (sml (atK_ s 0) && (decide (rne s 0 = s.size) && !decide (s = saysB)))
theorem size_posK {s : ByteArray} (h : ¬ s = ⟨#[]⟩) : 0 < s.size := by
  rcases Nat.eq_zero_or_pos s.size with e | e
  · exact absurd (ByteArray.ext (Array.eq_empty_of_size_eq_zero e)) h
  · exact e
theorem int_beq (a b : Nat) : ((a : Int) == (b : Int)) = decide (a = b) := by
  rw [Bool.eq_iff_iff]; simp; omega
theorem word_any (s : ByteArray) (hs : s.size < 4611686018427387904) (w : World) (hW : SaysOk w) :
    Calls Tryd.prog 70 #[.string s] w fun e w' => e = .returned (.bool (wrd s)) ∧ w' = w := by
  have e2 : decide (s = ⟨#[115, 97, 121, 115]⟩) = decide (s.toList = [115, 97, 121, 115]) := by rw [← str_dec, saysL]; exact (Bool.beq_eq_decide_eq _ _)
  have c1 : w.cell? ⟨3, 5, none⟩ = some (.string ⟨#[115, 97, 121, 115]⟩) := hW
  have ca := small_anyK (atK_ s 0)
  have cr := runEnd_any s 0 (Nat.zero_le _) hs
  have cq := int_beq (rne s 0) s.size
  unfold wrd saysB
  by_cases h1 : s = ⟨#[]⟩
  · have HF : Hid (s = ⟨#[]⟩) := h1
    have z1 : s.toList = [] := by rw [h1]; exact emptyL
    rw [decide_eq_true h1]
    clear h1 e2 ca cr cq
    go_enter Tryd.func70, Tryd.ntmps70
    go_wp2
    go_ret
    exact ⟨by simp, rfl⟩
  · have hp := size_posK h1
    have hidx := run_index_atK s 0 hp 0 rfl
    have z1 : ¬ s.toList = [] := fun e => h1 (toList_injK (e.trans emptyL.symm))
    rw [decide_eq_false h1]
    clear h1
    obtain ⟨c, hc⟩ : ∃ c, atK_ s 0 = c := ⟨_, rfl⟩
    rw [hc] at hidx ca
    rw [hc]
    obtain ⟨r, hr⟩ : ∃ r, rne s 0 = r := ⟨_, rfl⟩
    rw [hr] at cr cq
    rw [hr]
    clear hc hr
    cases a : sml c <;> cases b : decide (r = s.size) <;> cases d : decide (s = ⟨#[115, 97, 121, 115]⟩) <;>
      (rw [a] at ca; rw [b] at cq; rw [d] at e2; have z2 := e2.symm; simp only [decide_eq_true_eq, decide_eq_false_iff_not] at z2
       clear a b d e2
       go_enter Tryd.func70, Tryd.ntmps70
       go_wp2_with (first | (go_at_call 52; refine (ca _).mono ?_; rintro e w1 ⟨rfl, rfl⟩) | (go_at_call 53; refine (cr _).mono ?_; rintro e w1 ⟨rfl, rfl⟩))
       go_ret
       exact ⟨by simp [z1, z2], rfl⟩)
theorem qword_any (s : ByteArray) (hs : s.size < 4611686018427387904) (w : World) :
    Calls Tryd.prog 50 #[.string s] w fun e w' => e = .returned (.bool (wrd s)) ∧ w' = w := by
  have e2 : decide (s = ⟨#[115, 97, 121, 115]⟩) = decide (s.toList = [115, 97, 121, 115]) := by rw [← str_dec, saysL]; exact (Bool.beq_eq_decide_eq _ _)
  have ca := qsmall_any (atK_ s 0)
  have cr := qrun_any s 0 (Nat.zero_le _) hs
  have cq := int_beq (rne s 0) s.size
  unfold wrd saysB
  by_cases h1 : s = ⟨#[]⟩
  · have HF : Hid (s = ⟨#[]⟩) := h1
    have z1 : s.toList = [] := by rw [h1]; exact emptyL
    rw [decide_eq_true h1]
    clear h1 e2 ca cr cq
    go_enter Tryd.func50, Tryd.ntmps50
    go_wp2
    go_ret
    exact ⟨by simp, rfl⟩
  · have hp := size_posK h1
    have hidx := run_index_atK s 0 hp 0 rfl
    have z1 : ¬ s.toList = [] := fun e => h1 (toList_injK (e.trans emptyL.symm))
    rw [decide_eq_false h1]
    clear h1
    obtain ⟨c, hc⟩ : ∃ c, atK_ s 0 = c := ⟨_, rfl⟩
    rw [hc] at hidx ca
    rw [hc]
    obtain ⟨r, hr⟩ : ∃ r, rne s 0 = r := ⟨_, rfl⟩
    rw [hr] at cr cq
    rw [hr]
    clear hc hr
    cases a : sml c <;> cases b : decide (r = s.size) <;> cases d : decide (s = ⟨#[115, 97, 121, 115]⟩) <;>
      (rw [a] at ca; rw [b] at cq; rw [d] at e2; have z2 := e2.symm; simp only [decide_eq_true_eq, decide_eq_false_iff_not] at z2
       clear a b d e2
       go_enter Tryd.func50, Tryd.ntmps50
       go_wp2_with (first | (go_at_call 63; refine (ca _).mono ?_; rintro e w1 ⟨rfl, rfl⟩) | (go_at_call 62; refine (cr _).mono ?_; rintro e w1 ⟨rfl, rfl⟩))
       go_ret
       exact ⟨by simp [z1, z2], rfl⟩)
end Go.Proofs.YtdfdnjkeiddfjabDoor
