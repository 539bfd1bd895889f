import Derived.Deep.RegionHeld3
import Derived.Test.YtcejljehjhlonaaGreatDoorProg
import Derived.Test.YtcejljehjhlonaaGreatDoorRows
import Derived.WalkKit
import Derived.WalkSpells
import Derived.KernelRfl
import Derived.WalkSmall
import GoSem.Op.String
import Derived.Laws.Strings
import Derived.Laws.Cover1
import Derived.Laws.IdiomStrings
import Derived.Deep.QuietTactic
import Derived.BigQuiet
import Derived.Deep.DrawnRows
namespace Go.Proofs.YtcejljehjhlonaaGreatDoor
theorem wA8 (a : Act) (d : Option Tmp) (v : Value) : a.put d v = match d with
  | some d => { a with tmps := a.tmps.setIfInBounds d v }
  | none => a := rfl
theorem wB8 {α : Type} (l : List α) (i : Nat) (a : α) : l.toArray.setIfInBounds i a = (l.set i a).toArray := List.setIfInBounds_toArray ..
theorem wC8 {α : Type} (a b : α) (l : List α) : (a :: l).set 0 b = b :: l := List.set_cons_zero ..
theorem wD8 {α : Type} (a b : α) (l : List α) (n : Nat) : (a :: l).set (n + 1) b = a :: l.set n b := List.set_cons_succ ..
theorem wTk {P : Program} {ops : Array Oper} {Q : Exit → Act → World → Prop} {md : Region.Mode} {S : World → Prop} (i : Nat) (v : Value) {x1 x2 x3 x4 x5 x6} {fuel : Nat} {listed : Array Bool} {a : Act} {w : World} (hi : ops[i]? = some ⟨x1, x2, x3, x4, x5, x6⟩) (hc : (Region.noSelect ops && (Region.free md ops listed i && (Region.ready md ops listed).contains i)) = true)
    (hQ : ∀ c a w, Q (.panic c) (a.put x1 v) w → Q (.panic c) a w) (hy : YieldsIf P ops S ⟨x1, x2, x3, x4, x5, x6⟩ v a) (hS : S w) (h : wpAnyH P md ops Q S fuel (listed.setIfInBounds i true) (a.put x1 v) w) : wpAnyH P md ops Q S (fuel + 1) listed a w := by
  rw [Bool.and_eq_true, Bool.and_eq_true] at hc
  exact wpAnyH_take hi hc.1 hc.2.1 hc.2.2 hQ hy hS h
theorem wRd {P : Program} {ops : Array Oper} {Q : Exit → Act → World → Prop} {md : Region.Mode} {S : World → Prop} (i : Nat) {x1 x2 x3 x4 x5 x6} {fuel : Nat} {listed : Array Bool} {a : Act} {w : World} (hr : Region.ready md ops listed = [i]) (ho : ops[i]? = some ⟨x1, x2, x3, x4, x5, x6⟩)
    (h : ∀ K' : Act → World → Prop, Shut (∀ a w, S w → (S w → wpAnyH P md ops Q S fuel (listed.setIfInBounds i true) a w) → K' a w) → if Region.wanted ⟨x1, x2, x3, x4, x5, x6⟩ (yielded ops a.tmps) = true then Oper.wp P ⟨x1, x2, x3, x4, x5, x6⟩ a w K' Q else K' (a.put x1 undef) w) : wpAnyH P md ops Q S (fuel + 1) listed a w := wpAnyH_ready hr (by simp) (AllReadyH.cons ho h AllReadyH.nil)
end Go.Proofs.YtcejljehjhlonaaGreatDoor
namespace Go.Proofs.YtcejljehjhlonaaGreatDoor
open Go.RowKit

structure Tm where
 k : Int
 n : Int
 s : ByteArray
deriving DecidableEq
abbrev Tm.v (t : Tm) : Value := .agg #[.int .i64 t.k, .int .i64 t.n, .string t.s]
def Tm.var (t : Tm) : Bool := decide (t.k = 3 /\ 0 <= t.n /\ t.s = ⟨#[]⟩)
def Tm.con (t : Tm) : Bool := decide ((t.k = 1 /\ t.s = ⟨#[]⟩) ∨ (t.k = 2 /\ t.n = 0 /\ t.s.size <= 64))
def Tm.prin (t : Tm) : Bool := decide (t.k = 2 /\ t.n = 0 /\ t.s.size <= 64 /\ t.s ≠ ⟨#[]⟩)
theorem ret_b {a b : Bool} (h : a = b) : Ending.returned (.bool a) = .returned (.bool b) := by rw [h]
theorem ret_i {a b : Int} (h : a = b) : Ending.returned (.int .i64 a) = .returned (.int .i64 b) := by rw [h]
theorem isE (s : ByteArray) : s.toList.isEmpty = decide (s = ⟨#[]⟩) := by
 obtain ⟨a⟩ := s
 rw [ByteArray.toList_eq]
 rcases a with ⟨l⟩
 cases l <;> simp
theorem below1 (w : World) (o : Obj) : Below w.heap.size w (w.alloc o) := (Below.refl _ _).alloc (Nat.le_refl _) _
theorem below2 (w : World) (o p : Obj) : Below w.heap.size w ((w.alloc o).alloc p) := (below1 w o).alloc (by simp) _

theorem bcell {W w1 : World} (hb : Below W.heap.size W w1) : (∀ b o, b < W.heap.size -> w1.cell? ⟨b, o, none⟩ = W.cell? ⟨b, o, none⟩) /\ (∀ b o, b < W.heap.size -> w1.frozen? ⟨b, o, none⟩ = W.frozen? ⟨b, o, none⟩) :=
 ⟨fun b o h => hb.cell (p := ⟨b, o, none⟩) h, fun b o h => hb.frozen (p := ⟨b, o, none⟩) h⟩

set_option maxHeartbeats 400000 in
theorem var_any (t : Tm) (w : World) :
  Calls Tryz.prog 59 #[t.v] w fun e w' => e = .returned (.bool t.var) /\ Below w.heap.size w w' := by
 obtain ⟨k, n, s⟩ := t
 unfold Tm.var
 go_enter Tryz.func59, Tryz.ntmps59
 go_wp2
 all_goals
  go_ret
  refine ⟨ret_b ?_, below1 _ _⟩
  simp_all [isE]
  try omega
set_option maxHeartbeats 400000 in
theorem con_any (t : Tm) (w : World) :
  Calls Tryz.prog 36 #[t.v] w fun e w' => e = .returned (.bool t.con) /\ Below w.heap.size w w' := by
 obtain ⟨k, n, s⟩ := t
 unfold Tm.con
 go_enter Tryz.func36, Tryz.ntmps36
 go_wp2
 all_goals
  go_ret
  refine ⟨ret_b ?_, below1 _ _⟩
  simp_all [isE]
  try omega
theorem prin_eq (k n : Int) (s : ByteArray) (h : k = 2) (h' : s ≠ ⟨#[]⟩) : Tm.con ⟨k, n, s⟩ = Tm.prin ⟨k, n, s⟩ := by
 subst h; simp [Tm.con, Tm.prin, h']
theorem prin_no (k n : Int) (s : ByteArray) (h : ¬ (k = 2 /\ s ≠ ⟨#[]⟩)) : false = Tm.prin ⟨k, n, s⟩ := by
 simp only [Tm.prin, ne_eq, Bool.false_eq, decide_eq_false_iff_not] at *
 exact fun x => h ⟨x.1, x.2.2.2⟩
set_option maxHeartbeats 400000 in
theorem prin_any (t : Tm) (w : World) :
  Calls Tryz.prog 113 #[t.v] w fun e w' => e = .returned (.bool t.prin) /\ Below w.heap.size w w' := by
 obtain ⟨k, n, s⟩ := t
 by_cases h1 : k = 2
 ·subst h1
  cases h2 : s.toList.isEmpty
  ·have h3 : s ≠ ⟨#[]⟩ := by rw [isE] at h2; simpa using h2
   go_enter Tryz.func113, Tryz.ntmps113
   go_wp2_with (go_at_call 36; refine (con_any ⟨2, n, s⟩ _).mono ?_; rintro e w1 ⟨rfl, hb⟩)
   go_ret
   exact ⟨ret_b (prin_eq _ _ _ rfl h3), (below1 _ _).trans (hb.mono (by simp))⟩
  ·have h3 : s = ⟨#[]⟩ := by rw [isE] at h2; simpa using h2
   go_enter Tryz.func113, Tryz.ntmps113
   go_wp2
   go_ret
   exact ⟨ret_b (prin_no _ _ _ (fun x => x.2 h3)), below1 _ _⟩
 ·go_enter Tryz.func113, Tryz.ntmps113
  go_wp2
  go_ret
  exact ⟨ret_b (prin_no _ _ _ (fun x => h1 x.1)), below1 _ _⟩
end Go.Proofs.YtcejljehjhlonaaGreatDoor
namespace Go.Proofs.YtcejljehjhlonaaGreatDoor
namespace M

def bl := Go.Op.bytesLess
theorem bl_nil (x : List UInt8) : bl x [] = false := by cases x <;> rfl
theorem bl_cons (a b : UInt8) (x y : List UInt8) : bl (a :: x) (b :: y) = (decide (a < b) || (a == b && bl x y)) := rfl
theorem bl_irr : ∀ x, bl x x = false
 | [] => rfl
 | a :: x => by rw [bl_cons, bl_irr x]; simp
theorem bl_pre : ∀ p x y, bl (p ++ x) (p ++ y) = bl x y
 | [], _, _ => rfl
 | a :: p, x, y => by rw [List.cons_append, List.cons_append, bl_cons, bl_pre p x y]; simp
theorem bl_trans : ∀ x y z, bl x y = true -> bl y z = true -> bl x z = true
 | _, y, [], _, h => by rw [bl_nil] at h; cases h
 | x, [], _ :: _, h, _ => by rw [bl_nil] at h; cases h
 | [], _ :: _, _ :: _, _, _ => rfl
 | a :: x, b :: y, c :: z, h1, h2 => by
  rw [bl_cons] at *
  simp only [Bool.or_eq_true, decide_eq_true_eq, Bool.and_eq_true, beq_iff_eq] at *
  have ih := bl_trans x y z
  rcases h1 with h1 | ⟨rfl, h1⟩ <;> rcases h2 with h2 | ⟨rfl, h2⟩
  ·exact Or.inl (UInt8.lt_trans h1 h2)
  ·exact Or.inl h1
  ·exact Or.inl h2
  ·exact Or.inr ⟨rfl, ih h1 h2⟩
theorem bl_total : ∀ x y, bl x y = false -> bl y x = false -> x = y
 | [], [], _, _ => rfl
 | [], _ :: _, h, _ => by cases h
 | _ :: _, [], _, h => by cases h
 | a :: x, b :: y, h1, h2 => by
  rw [bl_cons] at *
  simp only [Bool.or_eq_false_iff, decide_eq_false_iff_not, Bool.and_eq_false_iff, beq_eq_false_iff_ne] at *
  have e : a = b := UInt8.le_antisymm (UInt8.not_lt.1 h2.1) (UInt8.not_lt.1 h1.1)
  subst e
  have := bl_total x y (by simpa using h1.2) (by simpa using h2.2)
  rw [this]
def sgL (x y : List UInt8) : Int := if bl x y then -1 else if x = y then 0 else 1
def sgI (a b : Int) : Int := if a < b then -1 else if b < a then 1 else 0
theorem sgL_pre (p x y) : sgL (p ++ x) (p ++ y) = sgL x y := by unfold sgL; rw [bl_pre]; simp
theorem sgL_ne (a b : UInt8) (x y : List UInt8) (h : a ≠ b) : sgL (a :: x) (b :: y) = sgI a.toNat b.toNat := by
 unfold sgL sgI
 rw [bl_cons]
 have hn : ¬ a.toNat = b.toNat := fun e => h (UInt8.toNat_inj.1 e)
 by_cases hl : a < b
 ·have := UInt8.lt_iff_toNat_lt.1 hl; simp [hl, this]
 ·have := mt UInt8.lt_iff_toNat_lt.2 hl
  have h2 : b.toNat < a.toNat := by omega
  simp [hl, h, this, h2]
theorem sgL_end (x y : List UInt8) (h : x = [] ∨ y = []) : sgL x y = sgI x.length y.length := by
 unfold sgL sgI
 rcases h with rfl | rfl
 ·cases y
  ·rfl
  ·simp [bl, Go.Op.bytesLess]
 ·cases x
  ·rfl
  ·simp [bl_nil]; omega
def at_ (s : ByteArray) (j : Nat) : Int := if h : j < s.size then (s[j].toNat : Int) else 0
theorem at_lt (s : ByteArray) (j : Nat) (h : j < s.size) : at_ s j = (s[j].toNat : Int) := by unfold at_; rw [dif_pos h]
theorem at_rng (s : ByteArray) (j : Nat) : 0 <= at_ s j /\ at_ s j <= 255 := by
 unfold at_; split
 ·rename_i h; have := s[j].toNat_lt; omega
 ·omega
theorem split_at (s : ByteArray) (i : Nat) (h : i < s.size) : s.toList = s.toList.take i ++ s[i] :: s.toList.drop (i + 1) := by
 rw [ByteArray.toList_eq]
 have h' : i < s.data.toList.length := by simpa using h
 conv => lhs; rw [<- List.take_append_drop i s.data.toList, List.drop_eq_getElem_cons h']
 rfl
theorem txt_ne (a b : ByteArray) (i : Nat) (ha : i < a.size) (hb : i < b.size) (hp : a.toList.take i = b.toList.take i) (h : at_ a i ≠ at_ b i) :
  sgL a.toList b.toList = sgI (at_ a i) (at_ b i) := by
 rw [split_at a i ha, split_at b i hb, hp, sgL_pre, sgL_ne, at_lt a i ha, at_lt b i hb]
 intro e; apply h; rw [at_lt a i ha, at_lt b i hb, e]
theorem txt_eq (a b : ByteArray) (i : Nat) (ha : i < a.size) (hb : i < b.size) (hp : a.toList.take i = b.toList.take i) (h : at_ a i = at_ b i) :
  a.toList.take (i + 1) = b.toList.take (i + 1) := by
 have e : a[i] = b[i] := by
  rw [at_lt a i ha, at_lt b i hb] at h
  exact UInt8.toNat_inj.1 (by omega)
 have l1 : i < a.toList.length := by rw [ByteArray.toList_eq]; simpa using ha
 have l2 : i < b.toList.length := by rw [ByteArray.toList_eq]; simpa using hb
 rw [List.take_succ_eq_append_getElem l1, List.take_succ_eq_append_getElem l2, hp]
 congr 2
 simp only [ByteArray.toList_eq, Array.getElem_toList]; exact e
theorem txt_end (a b : ByteArray) (i : Nat) (ha : i <= a.size) (hb : i <= b.size) (hp : a.toList.take i = b.toList.take i) (h : i = a.size ∨ i = b.size) :
  sgL a.toList b.toList = sgI a.size b.size := by
 have l1 : a.toList.length = a.size := by rw [ByteArray.toList_eq]; simp
 have l2 : b.toList.length = b.size := by rw [ByteArray.toList_eq]; simp
 rw [<- List.take_append_drop i a.toList, <- List.take_append_drop i b.toList, hp, sgL_pre, sgL_end]
 ·simp only [List.length_drop, l1, l2, sgI]
  have e1 : (((a.size - i : Nat) : Int) < ((b.size - i : Nat) : Int)) = ((a.size : Int) < b.size) := propext (by omega)
  have e2 : (((b.size - i : Nat) : Int) < ((a.size - i : Nat) : Int)) = ((b.size : Int) < a.size) := propext (by omega)
  simp only [e1, e2]
 ·rcases h with h | h
  ·left; apply List.drop_eq_nil_of_le; omega
  ·right; apply List.drop_eq_nil_of_le; omega
theorem sgL_zero (x y) : sgL x y = 0 ↔ x = y := by
 unfold sgL
 by_cases h : x = y
 ·subst h; simp [bl_irr]
 ·simp [h]; split <;> omega
theorem sgL_neg (x y) : sgL y x = - sgL x y := by
 unfold sgL
 by_cases h : x = y
 ·subst h; simp [bl_irr]
 ·have h' : ¬ y = x := fun e => h e.symm
  cases h1 : bl x y <;> cases h2 : bl y x <;> simp [h, h']
  ·exact h (bl_total _ _ h1 h2)
  ·have := bl_trans _ _ _ h1 h2; rw [bl_irr] at this; cases this
theorem sgL_trans (x y z) : sgL x y <= 0 -> sgL y z <= 0 -> sgL x z <= 0 /\ (sgL x y < 0 ∨ sgL y z < 0 -> sgL x z < 0) := by
 have key : ∀ a b, sgL a b <= 0 ↔ bl a b = true ∨ a = b := by
  intro a b; unfold sgL; cases bl a b <;> by_cases e : a = b <;> simp [e]
 have key2 : ∀ a b, sgL a b < 0 ↔ bl a b = true := by
  intro a b; unfold sgL; cases bl a b <;> by_cases e : a = b <;> simp [e]
 rw [key, key, key, key2, key2, key2]
 rintro (h1 | rfl) (h2 | rfl)
 ·exact ⟨Or.inl (bl_trans _ _ _ h1 h2), fun _ => bl_trans _ _ _ h1 h2⟩
 ·exact ⟨Or.inl h1, fun _ => h1⟩
 ·exact ⟨Or.inl h2, fun _ => h2⟩
 ·exact ⟨Or.inr rfl, fun h => by rcases h with h | h <;> exact h⟩
theorem sgL_rng (x y) : sgL x y = -1 ∨ sgL x y = 0 ∨ sgL x y = 1 := by
 unfold sgL; split
 ·simp
 ·split <;> simp
end M
end Go.Proofs.YtcejljehjhlonaaGreatDoor
namespace Go.Proofs.YtcejljehjhlonaaGreatDoor
open Go.RowKit

abbrev sgS (a b : ByteArray) : Int := M.sgL a.toList b.toList
theorem nanI_any (a : Int) (w : World) : Calls Tryz.prog 102 #[.int .i64 a] w fun e w' => e = .returned (.bool false) /\ w' = w := by
 go_enter Tryz.func102, Tryz.ntmps102
 go_wp2
 go_ret
 exact ⟨ret_b (by simp), rfl⟩
theorem nanS_any (a : ByteArray) (w : World) : Calls Tryz.prog 103 #[.string a] w fun e w' => e = .returned (.bool false) /\ w' = w := by
 go_enter Tryz.func103, Tryz.ntmps103
 go_wp2
 go_ret
 exact ⟨ret_b (by simp), rfl⟩
theorem cmpI_any (a b : Int) (w : World) : Calls Tryz.prog 90 #[.int .i64 a, .int .i64 b] w fun e w' => e = .returned (.int .i64 (M.sgI a b)) /\ w' = w := by
 go_enter Tryz.func90, Tryz.ntmps90
 go_wp2_with (go_at_call 102; refine (nanI_any _ _).mono ?_; rintro e w1 ⟨rfl, rfl⟩)
 all_goals go_ret
 all_goals refine ⟨ret_i ?_, rfl⟩
 all_goals (unfold M.sgI; repeat' split) <;> omega
theorem cmpS_any (a b : ByteArray) (w : World) : Calls Tryz.prog 91 #[.string a, .string b] w fun e w' => e = .returned (.int .i64 (sgS a b)) /\ w' = w := by
 go_enter Tryz.func91, Tryz.ntmps91
 go_wp2_with (go_at_call 103; refine (nanS_any _ _).mono ?_; rintro e w1 ⟨rfl, rfl⟩)
 all_goals go_ret
 all_goals refine ⟨ret_i ?_, rfl⟩
 all_goals (unfold sgS M.sgL M.bl; simp_all)
theorem ints_any (a b : Int) (w : World) : Calls Tryz.prog 80 #[.int .i64 a, .int .i64 b] w fun e w' => e = .returned (.int .i64 (M.sgI a b)) /\ w' = w := by
 go_enter Tryz.func80, Tryz.ntmps80
 go_wp2
 all_goals go_ret
 all_goals refine ⟨ret_i ?_, rfl⟩
 all_goals (unfold M.sgI; repeat' split) <;> omega
theorem run_index_at (s : ByteArray) (j : Nat) (hj : j < s.size) (i : Int) (hi : i = j) (w : World) (k : IntKind) : (Instr.index 9 (.string s) (.int k i)).run Tryz.prog w = .ok (.int .u8 (M.at_ s j)) w := by
 subst hi
 rw [run_index_string w 9 s k _ Tryz.underlying9, dif_pos (by omega), M.at_lt s j hj]
 rfl
theorem wrap_id (x : Int) (h0 : 0 <= x) (h1 : x <= 255) : IntKind.i64.wrap x = x := by
 simp only [IntKind.wrap, IntKind.bits, IntKind.signed]
 simp
 omega
set_option maxHeartbeats 400000 in
theorem texts_any (a b : ByteArray) (w : World) (hsa : a.size <= maxLen) (hsb : b.size <= maxLen) : Calls Tryz.prog 79 #[.string a, .string b] w fun e w' => e = .returned (.int .i64 (sgS a b)) /\ Below w.heap.size w w' := by
 unfold maxLen at hsa hsb
 unfold sgS
 go_enter Tryz.func79, Tryz.ntmps79
 go_wp2
 go_loopw [5] (fun i wr => ∃ k n : Nat, k <= a.size /\ k <= b.size /\ i = .int .i64 k /\ a.toList.take k = b.toList.take k /\ wr = w.drewN n) (fun i _ => a.size - (intOf i).toNat)
 case atStart => exact ⟨0, 0, by omega, by omega, rfl, rfl, rfl⟩
 case round =>
  obtain ⟨k, m, ha, hb, rfl, hp, rfl⟩ := hrel
  have HP : Hid (a.toList.take k = b.toList.take k) := hp
  clear hp
  by_cases h : k < a.size /\ k < b.size
  ·obtain ⟨h1, h2⟩ := h
   have i1 := run_index_at a k h1 (k : Int) rfl
   have i2 := run_index_at b k h2 (k : Int) rfl
   by_cases e : M.at_ a k = M.at_ b k
   ·have E : Hid (M.at_ a k = M.at_ b k) := e
    have hq : (M.at_ a k == M.at_ b k) = true := by simpa using e
    clear e
    go_wp2
    go_quiet (fail)
    go_wp2
    go_roundw
    case rel => exact ⟨k + 1, _, by omega, by omega, by go_num, M.txt_eq a b k h1 h2 HP.out E.out, rfl⟩
    case measure => simp [intOf]; omega
   ·have E : Hid (¬ M.at_ a k = M.at_ b k) := e
    have hq : (M.at_ a k == M.at_ b k) = false := by simpa using e
    obtain ⟨r1, r2⟩ := M.at_rng a k
    obtain ⟨r3, r4⟩ := M.at_rng b k
    have e1 := wrap_id _ r1 r2
    have e2 := wrap_id _ r3 r4
    clear e
    go_wp2
    go_quiet (fail)
    go_wp2
    go_quiet ((go_at_call 80; refine (ints_any _ _ _).mono ?_; rintro e w2 ⟨rfl, rfl⟩; exact ⟨rfl, _, rfl⟩))
    go_wp2
    go_ret
    exact ⟨ret_i (M.txt_ne a b k h1 h2 HP.out E.out).symm, below_drewN (below_drewN (below_drewN (Below.refl _ _) _) _) _⟩
  ·have hend : k = a.size ∨ k = b.size := by omega
   have E : Hid (M.sgL a.toList b.toList = M.sgI a.size b.size) := M.txt_end a b k ha hb HP.out hend
   by_cases h1 : k < a.size
   ·have h2 : ¬ k < b.size := fun x => h ⟨h1, x⟩
    clear h hend
    go_wp2_with (go_at_call 80; refine (ints_any _ _ _).mono ?_; rintro e w1 ⟨rfl, rfl⟩)
    go_ret
    exact ⟨ret_i E.out.symm, below_drewN (Below.refl _ _) _⟩
   ·clear h hend
    go_wp2_with (go_at_call 80; refine (ints_any _ _ _).mono ?_; rintro e w1 ⟨rfl, rfl⟩)
    go_ret
    exact ⟨ret_i E.out.symm, below_drewN (Below.refl _ _) _⟩
def Tm.cmp (a b : Tm) : Int := if a.k ≠ b.k then M.sgI a.k b.k else if a.n ≠ b.n then M.sgI a.n b.n else M.sgL a.s.toList b.s.toList
theorem toList_inj {a b : ByteArray} (h : a.toList = b.toList) : a = b := by
 rw [ByteArray.toList_eq, ByteArray.toList_eq] at h
 exact ByteArray.ext (Array.toList_inj.1 h)
theorem Tm.cmp_zero (a b : Tm) : a.cmp b = 0 ↔ a = b := by
 obtain ⟨k, n, s⟩ := a
 obtain ⟨k', n', s'⟩ := b
 unfold Tm.cmp
 by_cases h1 : k = k'
 ·by_cases h2 : n = n'
  ·simp only [h1, h2, ne_eq, not_true_eq_false, if_false, M.sgL_zero, Tm.mk.injEq, true_and]
   exact ⟨toList_inj, fun e => by rw [e]⟩
  ·simp only [h1, h2, ne_eq, not_true_eq_false, not_false_eq_true, if_false, if_true, Tm.mk.injEq, false_and, and_false, iff_false]
   unfold M.sgI; repeat' split
   all_goals omega
 ·simp only [h1, ne_eq, not_false_eq_true, if_true, Tm.mk.injEq, false_and, iff_false]
  unfold M.sgI; repeat' split
  all_goals omega
set_option maxHeartbeats 400000 in
theorem compare_any (a b : Tm) (w : World) :
  Calls Tryz.prog 61 #[a.v, b.v] w fun e w' => e = .returned (.int .i64 (a.cmp b)) /\ Below w.heap.size w w' := by
 obtain ⟨k, n, s⟩ := a
 obtain ⟨k', n', s'⟩ := b
 go_enter Tryz.func61, Tryz.ntmps61
 go_wp2_with (first
  | (go_at_call 90; refine (cmpI_any _ _ _).mono ?_; rintro e w1 ⟨rfl, rfl⟩)
  | (go_at_call 91; refine (cmpS_any _ _ _).mono ?_; rintro e w1 ⟨rfl, rfl⟩))
 all_goals go_ret
 all_goals refine ⟨ret_i ?_, below2 _ _ _⟩
 all_goals unfold Tm.cmp
 all_goals simp_all
 exact ((M.sgL_zero _ _).2 rfl).symm
end Go.Proofs.YtcejljehjhlonaaGreatDoor
namespace Go.Proofs.YtcejljehjhlonaaGreatDoor
open Go.RowKit

def TRow (w : World) (b o : Nat) (l : List Tm) : Prop :=
 b < w.heap.size /\ ∀ i t, l[i]? = some t -> w.cell? ⟨b, o + i * 3, none⟩ = some (.int .i64 t.k) /\ w.cell? ⟨b, o + i * 3 + 1, none⟩ = some (.int .i64 t.n) /\ w.cell? ⟨b, o + i * 3 + 2, none⟩ = some (.string t.s)
def Ts (w : World) (v : Value) (l : List Tm) : Prop :=
 ∃ a cap, v = .slice a l.length cap /\ l.length < 1000000000000000000 /\ (l = [] ∨ ∃ b o, a = some ⟨b, o, none⟩ /\ TRow w b o l)
theorem TRow.later {w w' : World} {b o l} (h : TRow w b o l) (hb : Below w.heap.size w w') : TRow w' b o l :=
 ⟨Nat.lt_of_lt_of_le h.1 hb.size, fun i t ht => by
  have := h.2 i t ht
  rw [hb.cell (p := ⟨b, _, none⟩) h.1, hb.cell (p := ⟨b, _, none⟩) h.1, hb.cell (p := ⟨b, _, none⟩) h.1]; exact this⟩
theorem Ts.later {w w' : World} {v l} (h : Ts w v l) (hb : Below w.heap.size w w') : Ts w' v l := by
 obtain ⟨a, cap, rfl, hl, h⟩ := h
 refine ⟨a, cap, rfl, hl, ?_⟩
 rcases h with h | ⟨b, o, rfl, h⟩
 ·exact Or.inl h
 ·exact Or.inr ⟨b, o, rfl, h.later hb⟩
structure At where
 by_ : Tm
 name : ByteArray
 args : List Tm
abbrev At.v (a : At) (x : Value) : Value := .agg #[.int .i64 a.by_.k, .int .i64 a.by_.n, .string a.by_.s, .string a.name, x]
def At.pl (a : At) : List Tm := a.by_ :: a.args
theorem three {w : World} {g : Nat} {a b c : Value} {t : TypeId} (h : w.heap[g]? = some (.cells #[a, b, c] t (0, 0))) :
  w.cell? ⟨g, 0, none⟩ = some a /\ w.cell? ⟨g, 1, none⟩ = some b /\ w.cell? ⟨g, 2, none⟩ = some c /\ w.frozen? ⟨g, 0, none⟩ = false /\ w.frozen? ⟨g, 1, none⟩ = false /\ w.frozen? ⟨g, 2, none⟩ = false :=
 ⟨cell_of_row _ _ _ _ _ _ h, cell_of_row _ _ _ _ _ _ h, cell_of_row _ _ _ _ _ _ h, frozen_of_row _ _ _ _ _ h, frozen_of_row _ _ _ _ _ h, frozen_of_row _ _ _ _ _ h⟩
structure Bd where
 x : Int
 to : Tm
deriving DecidableEq
def zt : Tm := ⟨0, 0, ⟨#[]⟩⟩
end Go.Proofs.YtcejljehjhlonaaGreatDoor
namespace Go.Proofs.YtcejljehjhlonaaGreatDoor
open Go.RowKit
theorem run_eql_tm (t u : Tm) (w : World) : (binOp .eql 36 t.v u.v).run Tryz.prog w = .ok (.bool (decide (t = u))) w := by
 obtain ⟨k, n, s⟩ := t
 obtain ⟨k', n', s'⟩ := u
 by_cases h1 : k = k'
 ·by_cases h2 : n = n'
  ·by_cases h3 : s = s'
   ·subst h1 h2 h3
    go_simp
   ·have h4 : ¬ s.toList = s'.toList := fun e => h3 (toList_inj e)
    subst h1 h2
    go_simp
  ·subst h1
   go_simp
 ·go_simp
theorem run_neq_tm (t u : Tm) (w : World) : (binOp .neq 36 t.v u.v).run Tryz.prog w = .ok (.bool (!decide (t = u))) w := by
 obtain ⟨k, n, s⟩ := t
 obtain ⟨k', n', s'⟩ := u
 by_cases h1 : k = k'
 ·by_cases h2 : n = n'
  ·by_cases h3 : s = s'
   ·subst h1 h2 h3
    go_simp
   ·have h4 : ¬ s.toList = s'.toList := fun e => h3 (toList_inj e)
    subst h1 h2
    go_simp
  ·subst h1
   go_simp
 ·go_simp
end Go.Proofs.YtcejljehjhlonaaGreatDoor
namespace Go.Proofs.YtcejljehjhlonaaGreatDoor
open Go.RowKit
attribute [local go_sem ↓] Go.wp_at_zero Go.wp_at_succ

theorem five {w : World} {g : Nat} {a b c d f : Value} {t : TypeId} (h : w.heap[g]? = some (.cells #[a, b, c, d, f] t (0, 0))) :
  w.cell? ⟨g, 0, none⟩ = some a /\ w.cell? ⟨g, 1, none⟩ = some b /\ w.cell? ⟨g, 2, none⟩ = some c /\ w.cell? ⟨g, 3, none⟩ = some d /\ w.cell? ⟨g, 4, none⟩ = some f :=
 ⟨cell_of_row _ _ _ _ _ _ h, cell_of_row _ _ _ _ _ _ h, cell_of_row _ _ _ _ _ _ h, cell_of_row _ _ _ _ _ _ h, cell_of_row _ _ _ _ _ _ h⟩
theorem below_step {W w' w3 : World} (h : Below W.heap.size W w') (h3 : Below w'.heap.size w' w3) : Below W.heap.size W w3 := h.trans (h3.mono h.size)
theorem cell_step {w' w3 : World} {b o : Nat} {v : Value} (h3 : Below w'.heap.size w' w3) (hb : b < w'.heap.size) (hc : w'.cell? ⟨b, o, none⟩ = some v) : w3.cell? ⟨b, o, none⟩ = some v := by
 rw [h3.cell (p := ⟨b, o, none⟩) hb]; exact hc
theorem lt_step {w' w3 : World} {b : Nat} (h3 : Below w'.heap.size w' w3) (hb : b < w'.heap.size) : b < w3.heap.size := Nat.lt_of_lt_of_le hb h3.size
end Go.Proofs.YtcejljehjhlonaaGreatDoor
