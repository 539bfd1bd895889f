import Derived.Test.YtnaiecemmhioeaaDoorRows
import Derived.WalkKit
import Derived.WalkSpells
import Derived.KernelRfl
import Derived.WalkSmall
import GoSem.Op.String
import Derived.Laws.Strings
import Derived.Laws.Cover1
import Derived.Laws.IdiomStrings
import Derived.Deep.QuietTactic
import Derived.BigQuiet
/-
  Terms: what they are as plain data; Variable, Const, Principal.
-/
namespace Go.Proofs.YtnaiecemmhioeaaDoor
open Go.RowKit

structure Tm where
  k : Int
  n : Int
  s : ByteArray
deriving DecidableEq
abbrev Tm.v (t : Tm) : Value := .agg #[.int .i64 t.k, .int .i64 t.n, .string t.s]
def Tm.var (t : Tm) : Bool := decide (t.k = 3 ∧ 0 ≤ t.n ∧ t.s = ⟨#[]⟩)
def Tm.con (t : Tm) : Bool := decide ((t.k = 1 ∧ t.s = ⟨#[]⟩) ∨ (t.k = 2 ∧ t.n = 0 ∧ t.s.size ≤ 64))
def Tm.prin (t : Tm) : Bool := decide (t.k = 2 ∧ t.n = 0 ∧ t.s.size ≤ 64 ∧ t.s ≠ ⟨#[]⟩)
theorem ret_b {a b : Bool} (h : a = b) : Ending.returned (.bool a) = .returned (.bool b) := by rw [h]
theorem ret_i {a b : Int} (h : a = b) : Ending.returned (.int .i64 a) = .returned (.int .i64 b) := by rw [h]
theorem isE (s : ByteArray) : s.toList.isEmpty = decide (s = ⟨#[]⟩) := by
  obtain ⟨a⟩ := s
  rw [ByteArray.toList_eq]
  rcases a with ⟨l⟩
  cases l <;> simp
theorem below1 (w : World) (o : Obj) : Below w.heap.size w (w.alloc o) := (Below.refl _ _).alloc (Nat.le_refl _) _
theorem below2 (w : World) (o p : Obj) : Below w.heap.size w ((w.alloc o).alloc p) := (below1 w o).alloc (by simp) _

theorem bcell {W w1 : World} (hb : Below W.heap.size W w1) : (∀ b o, b < W.heap.size → w1.cell? ⟨b, o, none⟩ = W.cell? ⟨b, o, none⟩) ∧ (∀ b o, b < W.heap.size → w1.frozen? ⟨b, o, none⟩ = W.frozen? ⟨b, o, none⟩) :=
  ⟨fun b o h => hb.cell (p := ⟨b, o, none⟩) h, fun b o h => hb.frozen (p := ⟨b, o, none⟩) h⟩

set_option maxHeartbeats 400000 in
theorem var_any (t : Tm) (w : World) :
    Calls Tryd.prog 27 #[t.v] w fun e w' => e = .returned (.bool t.var) ∧ Below w.heap.size w w' := by
  obtain ⟨k, n, s⟩ := t
  unfold Tm.var
  go_enter Tryd.func27, Tryd.ntmps27
  go_wp2
  all_goals
    go_ret
    refine ⟨ret_b ?_, below1 _ _⟩
    simp_all [isE]
    try omega
set_option maxHeartbeats 400000 in
theorem con_any (t : Tm) (w : World) :
    Calls Tryd.prog 52 #[t.v] w fun e w' => e = .returned (.bool t.con) ∧ Below w.heap.size w w' := by
  obtain ⟨k, n, s⟩ := t
  unfold Tm.con
  go_enter Tryd.func52, Tryd.ntmps52
  go_wp2
  all_goals
    go_ret
    refine ⟨ret_b ?_, below1 _ _⟩
    simp_all [isE]
    try omega
theorem prin_eq (k n : Int) (s : ByteArray) (h : k = 2) (h' : s ≠ ⟨#[]⟩) : Tm.con ⟨k, n, s⟩ = Tm.prin ⟨k, n, s⟩ := by
  subst h; simp [Tm.con, Tm.prin, h']
theorem prin_no (k n : Int) (s : ByteArray) (h : ¬ (k = 2 ∧ s ≠ ⟨#[]⟩)) : false = Tm.prin ⟨k, n, s⟩ := by
  simp only [Tm.prin, ne_eq, Bool.false_eq, decide_eq_false_iff_not] at *
  exact fun x => h ⟨x.1, x.2.2.2⟩
set_option maxHeartbeats 400000 in
theorem prin_any (t : Tm) (w : World) :
    Calls Tryd.prog 47 #[t.v] w fun e w' => e = .returned (.bool t.prin) ∧ Below w.heap.size w w' := by
  obtain ⟨k, n, s⟩ := t
  by_cases h1 : k = 2
  · subst h1
    cases h2 : s.toList.isEmpty
    · have h3 : s ≠ ⟨#[]⟩ := by rw [isE] at h2; simpa using h2
      go_enter Tryd.func47, Tryd.ntmps47
      go_wp2_with (go_at_call 52; refine (con_any ⟨2, n, s⟩ _).mono ?_; rintro e w1 ⟨rfl, hb⟩)
      go_ret
      exact ⟨ret_b (prin_eq _ _ _ rfl h3), (below1 _ _).trans (hb.mono (by simp))⟩
    · have h3 : s = ⟨#[]⟩ := by rw [isE] at h2; simpa using h2
      go_enter Tryd.func47, Tryd.ntmps47
      go_wp2
      go_ret
      exact ⟨ret_b (prin_no _ _ _ (fun x => x.2 h3)), below1 _ _⟩
  · go_enter Tryd.func47, Tryd.ntmps47
    go_wp2
    go_ret
    exact ⟨ret_b (prin_no _ _ _ (fun x => h1 x.1)), below1 _ _⟩
end Go.Proofs.YtnaiecemmhioeaaDoor
/-
  Texts in their order, as plain mathematics.
-/
namespace Go.Proofs.YtnaiecemmhioeaaDoor
namespace M

def bl := Go.Op.bytesLess
theorem bl_cons (a b : UInt8) (x y : List UInt8) : bl (a :: x) (b :: y) = (decide (a < b) || (a == b && bl x y)) := rfl
theorem bl_irr : ∀ x, bl x x = false
  | [] => rfl
  | a :: x => by rw [bl_cons, bl_irr x]; simp
/-- -1, 0 or 1 of two texts. -/
def sgL (x y : List UInt8) : Int := if bl x y then -1 else if x = y then 0 else 1
def sgI (a b : Int) : Int := if a < b then -1 else if b < a then 1 else 0
theorem sgL_zero (x y) : sgL x y = 0 ↔ x = y := by
  unfold sgL
  by_cases h : x = y
  · subst h; simp [bl_irr]
  · simp [h]; split <;> omega
end M
end Go.Proofs.YtnaiecemmhioeaaDoor
/-
  cmp.Compare of numbers and of texts; Compare of terms; the same of the reference.
-/
namespace Go.Proofs.YtnaiecemmhioeaaDoor
open Go.RowKit

abbrev sgS (a b : ByteArray) : Int := M.sgL a.toList b.toList
theorem nanI_any (a : Int) (w : World) : Calls Tryd.prog 49 #[.int .i64 a] w fun e w' => e = .returned (.bool false) ∧ w' = w := by
  go_enter Tryd.func49, Tryd.ntmps49
  go_wp2
  go_ret
  exact ⟨ret_b (by simp), rfl⟩
theorem nanS_any (a : ByteArray) (w : World) : Calls Tryd.prog 48 #[.string a] w fun e w' => e = .returned (.bool false) ∧ w' = w := by
  go_enter Tryd.func48, Tryd.ntmps48
  go_wp2
  go_ret
  exact ⟨ret_b (by simp), rfl⟩
theorem cmpI_any (a b : Int) (w : World) : Calls Tryd.prog 38 #[.int .i64 a, .int .i64 b] w fun e w' => e = .returned (.int .i64 (M.sgI a b)) ∧ w' = w := by
  go_enter Tryd.func38, Tryd.ntmps38
  go_wp2_with (go_at_call 49; refine (nanI_any _ _).mono ?_; rintro e w1 ⟨rfl, rfl⟩)
  all_goals go_ret
  all_goals refine ⟨ret_i ?_, rfl⟩
  all_goals (unfold M.sgI; repeat' split) <;> omega
theorem cmpS_any (a b : ByteArray) (w : World) : Calls Tryd.prog 37 #[.string a, .string b] w fun e w' => e = .returned (.int .i64 (sgS a b)) ∧ w' = w := by
  go_enter Tryd.func37, Tryd.ntmps37
  go_wp2_with (go_at_call 48; refine (nanS_any _ _).mono ?_; rintro e w1 ⟨rfl, rfl⟩)
  all_goals go_ret
  all_goals refine ⟨ret_i ?_, rfl⟩
  all_goals (unfold sgS M.sgL M.bl; simp_all)
/-- Of two terms: by kind, number, text. -/
def Tm.cmp (a b : Tm) : Int := if a.k ≠ b.k then M.sgI a.k b.k else if a.n ≠ b.n then M.sgI a.n b.n else M.sgL a.s.toList b.s.toList
theorem toList_inj {a b : ByteArray} (h : a.toList = b.toList) : a = b := by
  rw [ByteArray.toList_eq, ByteArray.toList_eq] at h
  exact ByteArray.ext (Array.toList_inj.1 h)
set_option maxHeartbeats 400000 in
theorem compare_any (a b : Tm) (w : World) :
    Calls Tryd.prog 39 #[a.v, b.v] w fun e w' => e = .returned (.int .i64 (a.cmp b)) ∧ Below w.heap.size w w' := by
  obtain ⟨k, n, s⟩ := a
  obtain ⟨k', n', s'⟩ := b
  go_enter Tryd.func39, Tryd.ntmps39
  go_wp2_with (first
    | (go_at_call 38; refine (cmpI_any _ _ _).mono ?_; rintro e w1 ⟨rfl, rfl⟩)
    | (go_at_call 37; refine (cmpS_any _ _ _).mono ?_; rintro e w1 ⟨rfl, rfl⟩))
  all_goals go_ret
  all_goals refine ⟨ret_i ?_, below2 _ _ _⟩
  all_goals unfold Tm.cmp
  all_goals simp_all
  exact ((M.sgL_zero _ _).2 rfl).symm
end Go.Proofs.YtnaiecemmhioeaaDoor
