import GoSem.Op.String
import Derived.Laws.Strings
namespace Go.Proofs.YtechceagghcipaaGreatDoor
namespace M

def bl := Go.Op.bytesLess
theorem bl_nil (x : List UInt8) : bl x [] = false := by cases x <;> rfl
theorem bl_cons (a b : UInt8) (x y : List UInt8) : bl (a :: x) (b :: y) = (decide (a < b) || (a == b && bl x y)) := rfl
theorem bl_irr : ∀ x, bl x x = false
 | [] => rfl
 | a :: x => by rw [bl_cons, bl_irr x]; simp
theorem bl_pre : ∀ p x y, bl (p ++ x) (p ++ y) = bl x y
 | [], _, _ => rfl
 | a :: p, x, y => by rw [List.cons_append, List.cons_append, bl_cons, bl_pre p x y]; simp
theorem bl_trans : ∀ x y z, bl x y = true -> bl y z = true -> bl x z = true
 | _, y, [], _, h => by rw [bl_nil] at h; cases h
 | x, [], _ :: _, h, _ => by rw [bl_nil] at h; cases h
 | [], _ :: _, _ :: _, _, _ => rfl
 | a :: x, b :: y, c :: z, h1, h2 => by
  rw [bl_cons] at *
  simp only [Bool.or_eq_true, decide_eq_true_eq, Bool.and_eq_true, beq_iff_eq] at *
  have ih := bl_trans x y z
  rcases h1 with h1 | ⟨rfl, h1⟩ <;> rcases h2 with h2 | ⟨rfl, h2⟩
  ·exact Or.inl (UInt8.lt_trans h1 h2)
  ·exact Or.inl h1
  ·exact Or.inl h2
  ·exact Or.inr ⟨rfl, ih h1 h2⟩
theorem bl_total : ∀ x y, bl x y = false -> bl y x = false -> x = y
 | [], [], _, _ => rfl
 | [], _ :: _, h, _ => by cases h
 | _ :: _, [], _, h => by cases h
 | a :: x, b :: y, h1, h2 => by
  rw [bl_cons] at *
  simp only [Bool.or_eq_false_iff, decide_eq_false_iff_not, Bool.and_eq_false_iff, beq_eq_false_iff_ne] at *
  have e : a = b := UInt8.le_antisymm (UInt8.not_lt.1 h2.1) (UInt8.not_lt.1 h1.1)
  subst e
  have := bl_total x y (by simpa using h1.2) (by simpa using h2.2)
  rw [this]
def sgL (x y : List UInt8) : Int := if bl x y then -1 else if x = y then 0 else 1
def sgI (a b : Int) : Int := if a < b then -1 else if b < a then 1 else 0
theorem sgL_pre (p x y) : sgL (p ++ x) (p ++ y) = sgL x y := by unfold sgL; rw [bl_pre]; simp
theorem sgL_ne (a b : UInt8) (x y : List UInt8) (h : a ≠ b) : sgL (a :: x) (b :: y) = sgI a.toNat b.toNat := by
 unfold sgL sgI
 rw [bl_cons]
 have hn : ¬ a.toNat = b.toNat := fun e => h (UInt8.toNat_inj.1 e)
 by_cases hl : a < b
 ·have := UInt8.lt_iff_toNat_lt.1 hl; simp [hl, this]
 ·have := mt UInt8.lt_iff_toNat_lt.2 hl
  have h2 : b.toNat < a.toNat := by omega
  simp [hl, h, this, h2]
theorem sgL_end (x y : List UInt8) (h : x = [] ∨ y = []) : sgL x y = sgI x.length y.length := by
 unfold sgL sgI
 rcases h with rfl | rfl
 ·cases y
  ·rfl
  ·simp [bl, Go.Op.bytesLess]
 ·cases x
  ·rfl
  ·simp [bl_nil]; omega
def at_ (s : ByteArray) (j : Nat) : Int := if h : j < s.size then (s[j].toNat : Int) else 0
theorem at_lt (s : ByteArray) (j : Nat) (h : j < s.size) : at_ s j = (s[j].toNat : Int) := by unfold at_; rw [dif_pos h]
theorem at_rng (s : ByteArray) (j : Nat) : 0 <= at_ s j /\ at_ s j <= 255 := by
 unfold at_; split
 ·rename_i h; have := s[j].toNat_lt; omega
 ·omega
theorem split_at (s : ByteArray) (i : Nat) (h : i < s.size) : s.toList = s.toList.take i ++ s[i] :: s.toList.drop (i + 1) := by
 rw [ByteArray.toList_eq]
 have h' : i < s.data.toList.length := by simpa using h
 conv => lhs; rw [<- List.take_append_drop i s.data.toList, List.drop_eq_getElem_cons h']
 rfl
theorem txt_ne (a b : ByteArray) (i : Nat) (ha : i < a.size) (hb : i < b.size) (hp : a.toList.take i = b.toList.take i) (h : at_ a i ≠ at_ b i) :
  sgL a.toList b.toList = sgI (at_ a i) (at_ b i) := by
 rw [split_at a i ha, split_at b i hb, hp, sgL_pre, sgL_ne, at_lt a i ha, at_lt b i hb]
 intro e; apply h; rw [at_lt a i ha, at_lt b i hb, e]
theorem txt_eq (a b : ByteArray) (i : Nat) (ha : i < a.size) (hb : i < b.size) (hp : a.toList.take i = b.toList.take i) (h : at_ a i = at_ b i) :
  a.toList.take (i + 1) = b.toList.take (i + 1) := by
 have e : a[i] = b[i] := by
  rw [at_lt a i ha, at_lt b i hb] at h
  exact UInt8.toNat_inj.1 (by omega)
 have l1 : i < a.toList.length := by rw [ByteArray.toList_eq]; simpa using ha
 have l2 : i < b.toList.length := by rw [ByteArray.toList_eq]; simpa using hb
 rw [List.take_succ_eq_append_getElem l1, List.take_succ_eq_append_getElem l2, hp]
 congr 2
 simp only [ByteArray.toList_eq, Array.getElem_toList]; exact e
theorem txt_end (a b : ByteArray) (i : Nat) (ha : i <= a.size) (hb : i <= b.size) (hp : a.toList.take i = b.toList.take i) (h : i = a.size ∨ i = b.size) :
  sgL a.toList b.toList = sgI a.size b.size := by
 have l1 : a.toList.length = a.size := by rw [ByteArray.toList_eq]; simp
 have l2 : b.toList.length = b.size := by rw [ByteArray.toList_eq]; simp
 rw [<- List.take_append_drop i a.toList, <- List.take_append_drop i b.toList, hp, sgL_pre, sgL_end]
 ·simp only [List.length_drop, l1, l2, sgI]
  have e1 : (((a.size - i : Nat) : Int) < ((b.size - i : Nat) : Int)) = ((a.size : Int) < b.size) := propext (by omega)
  have e2 : (((b.size - i : Nat) : Int) < ((a.size - i : Nat) : Int)) = ((b.size : Int) < a.size) := propext (by omega)
  simp only [e1, e2]
 ·rcases h with h | h
  ·left; apply List.drop_eq_nil_of_le; omega
  ·right; apply List.drop_eq_nil_of_le; omega
theorem sgL_zero (x y) : sgL x y = 0 ↔ x = y := by
 unfold sgL
 by_cases h : x = y
 ·subst h; simp [bl_irr]
 ·simp [h]; split <;> omega
theorem sgL_neg (x y) : sgL y x = - sgL x y := by
 unfold sgL
 by_cases h : x = y
 ·subst h; simp [bl_irr]
 ·have h' : ¬ y = x := fun e => h e.symm
  cases h1 : bl x y <;> cases h2 : bl y x <;> simp [h, h']
  ·exact h (bl_total _ _ h1 h2)
  ·have := bl_trans _ _ _ h1 h2; rw [bl_irr] at this; cases this
theorem sgL_trans (x y z) : sgL x y <= 0 -> sgL y z <= 0 -> sgL x z <= 0 /\ (sgL x y < 0 ∨ sgL y z < 0 -> sgL x z < 0) := by
 have key : ∀ a b, sgL a b <= 0 ↔ bl a b = true ∨ a = b := by
  intro a b; unfold sgL; cases bl a b <;> by_cases e : a = b <;> simp [e]
 have key2 : ∀ a b, sgL a b < 0 ↔ bl a b = true := by
  intro a b; unfold sgL; cases bl a b <;> by_cases e : a = b <;> simp [e]
 rw [key, key, key, key2, key2, key2]
 rintro (h1 | rfl) (h2 | rfl)
 ·exact ⟨Or.inl (bl_trans _ _ _ h1 h2), fun _ => bl_trans _ _ _ h1 h2⟩
 ·exact ⟨Or.inl h1, fun _ => h1⟩
 ·exact ⟨Or.inl h2, fun _ => h2⟩
 ·exact ⟨Or.inr rfl, fun h => by rcases h with h | h <;> exact h⟩
theorem sgL_rng (x y) : sgL x y = -1 ∨ sgL x y = 0 ∨ sgL x y = 1 := by
 unfold sgL; split
 ·simp
 ·split <;> simp
end M
end Go.Proofs.YtechceagghcipaaGreatDoor
