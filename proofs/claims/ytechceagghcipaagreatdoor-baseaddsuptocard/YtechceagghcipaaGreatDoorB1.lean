import Derived.Test.YtechceagghcipaaGreatDoorRows
import Derived.WalkKit
import Derived.WalkSpells
import Derived.KernelRfl
import Derived.WalkSmall
namespace Go.Proofs.YtechceagghcipaaGreatDoor
open Go.RowKit

structure Tm where
 k : Int
 n : Int
 s : ByteArray
deriving DecidableEq
abbrev Tm.v (t : Tm) : Value := .agg #[.int .i64 t.k, .int .i64 t.n, .string t.s]
def Tm.var (t : Tm) : Bool := decide (t.k = 3 /\ 0 <= t.n /\ t.s = ⟨#[]⟩)
def Tm.con (t : Tm) : Bool := decide ((t.k = 1 /\ t.s = ⟨#[]⟩) ∨ (t.k = 2 /\ t.n = 0 /\ t.s.size <= 64))
def Tm.prin (t : Tm) : Bool := decide (t.k = 2 /\ t.n = 0 /\ t.s.size <= 64 /\ t.s ≠ ⟨#[]⟩)
theorem ret_b {a b : Bool} (h : a = b) : Ending.returned (.bool a) = .returned (.bool b) := by rw [h]
theorem ret_i {a b : Int} (h : a = b) : Ending.returned (.int .i64 a) = .returned (.int .i64 b) := by rw [h]
theorem isE (s : ByteArray) : s.toList.isEmpty = decide (s = ⟨#[]⟩) := by
 obtain ⟨a⟩ := s
 rw [ByteArray.toList_eq]
 rcases a with ⟨l⟩
 cases l <;> simp
theorem below1 (w : World) (o : Obj) : Below w.heap.size w (w.alloc o) := (Below.refl _ _).alloc (Nat.le_refl _) _
theorem below2 (w : World) (o p : Obj) : Below w.heap.size w ((w.alloc o).alloc p) := (below1 w o).alloc (by simp) _

theorem bcell {W w1 : World} (hb : Below W.heap.size W w1) : (∀ b o, b < W.heap.size -> w1.cell? ⟨b, o, none⟩ = W.cell? ⟨b, o, none⟩) /\ (∀ b o, b < W.heap.size -> w1.frozen? ⟨b, o, none⟩ = W.frozen? ⟨b, o, none⟩) :=
 ⟨fun b o h => hb.cell (p := ⟨b, o, none⟩) h, fun b o h => hb.frozen (p := ⟨b, o, none⟩) h⟩

set_option maxHeartbeats 400000 in
theorem var_any (t : Tm) (w : World) :
  Calls Tryz.prog 51 #[t.v] w fun e w' => e = .returned (.bool t.var) /\ Below w.heap.size w w' := by
 obtain ⟨k, n, s⟩ := t
 unfold Tm.var
 go_enter Tryz.func51, Tryz.ntmps51
 go_wp2
 all_goals
  go_ret
  refine ⟨ret_b ?_, below1 _ _⟩
  simp_all [isE]
  try omega
set_option maxHeartbeats 400000 in
theorem con_any (t : Tm) (w : World) :
  Calls Tryz.prog 118 #[t.v] w fun e w' => e = .returned (.bool t.con) /\ Below w.heap.size w w' := by
 obtain ⟨k, n, s⟩ := t
 unfold Tm.con
 go_enter Tryz.func118, Tryz.ntmps118
 go_wp2
 all_goals
  go_ret
  refine ⟨ret_b ?_, below1 _ _⟩
  simp_all [isE]
  try omega
theorem prin_eq (k n : Int) (s : ByteArray) (h : k = 2) (h' : s ≠ ⟨#[]⟩) : Tm.con ⟨k, n, s⟩ = Tm.prin ⟨k, n, s⟩ := by
 subst h; simp [Tm.con, Tm.prin, h']
theorem prin_no (k n : Int) (s : ByteArray) (h : ¬ (k = 2 /\ s ≠ ⟨#[]⟩)) : false = Tm.prin ⟨k, n, s⟩ := by
 simp only [Tm.prin, ne_eq, Bool.false_eq, decide_eq_false_iff_not] at *
 exact fun x => h ⟨x.1, x.2.2.2⟩
set_option maxHeartbeats 400000 in
theorem prin_any (t : Tm) (w : World) :
  Calls Tryz.prog 117 #[t.v] w fun e w' => e = .returned (.bool t.prin) /\ Below w.heap.size w w' := by
 obtain ⟨k, n, s⟩ := t
 by_cases h1 : k = 2
 ·subst h1
  cases h2 : s.toList.isEmpty
  ·have h3 : s ≠ ⟨#[]⟩ := by rw [isE] at h2; simpa using h2
   go_enter Tryz.func117, Tryz.ntmps117
   go_wp2_with (go_at_call 118; refine (con_any ⟨2, n, s⟩ _).mono ?_; rintro e w1 ⟨rfl, hb⟩)
   go_ret
   exact ⟨ret_b (prin_eq _ _ _ rfl h3), (below1 _ _).trans (hb.mono (by simp))⟩
  ·have h3 : s = ⟨#[]⟩ := by rw [isE] at h2; simpa using h2
   go_enter Tryz.func117, Tryz.ntmps117
   go_wp2
   go_ret
   exact ⟨ret_b (prin_no _ _ _ (fun x => x.2 h3)), below1 _ _⟩
 ·go_enter Tryz.func117, Tryz.ntmps117
  go_wp2
  go_ret
  exact ⟨ret_b (prin_no _ _ _ (fun x => h1 x.1)), below1 _ _⟩
end Go.Proofs.YtechceagghcipaaGreatDoor
