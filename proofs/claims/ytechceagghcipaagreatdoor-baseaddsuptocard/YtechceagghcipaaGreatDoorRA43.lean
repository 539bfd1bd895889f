import Derived.Test.YtechceagghcipaaGreatDoorRA42
import Derived.Test.YtechceagghcipaaGreatDoorRA26
namespace Go.Proofs.YtechceagghcipaaGreatDoor
open Go.RowKit Go.Lib

theorem compact_mem (l : List (Int × Int)) (x : Int × Int) : x ∈ compact l ↔ x ∈ l := by
 unfold compact compactUpTo
 constructor
 ·intro h
  simp only [List.mem_map, List.mem_filter, List.mem_range] at h
  obtain ⟨j, ⟨hj, -⟩, rfl⟩ := h
  rw [getElem!_pos l.toArray j (by simpa using hj)]
  simp
 ·intro h
  obtain ⟨j, hj⟩ := List.getElem?_of_mem h
  have hjl := (List.getElem?_eq_some_iff.1 hj).1
  have hx : l.toArray[j]! = x := arr7 hj
  clear h hj
  have key : ∀ n j, j <= n -> j < l.length -> ∃ i, i < l.length /\ keeps l.toArray i = true /\ l.toArray[i]! = l.toArray[j]! := by
   intro n
   induction n with
   | zero => intro j hj hl; exact ⟨j, hl, keeps_lt_one _ j (by omega), rfl⟩
   | succ n ih =>
    intro j hj hl
    by_cases hk : keeps l.toArray j = true
    ·exact ⟨j, hl, hk, rfl⟩
    ·have h0 : ¬ (j = 0 ∨ l.toArray[j]! ≠ l.toArray[j - 1]!) := by simpa [keeps] using hk
     have h1 : j ≠ 0 := fun e => h0 (Or.inl e)
     have h2 : l.toArray[j]! = l.toArray[j - 1]! := Classical.byContradiction fun e => h0 (Or.inr e)
     obtain ⟨i, a, b, c⟩ := ih (j - 1) (by omega) (by omega)
     exact ⟨i, a, b, by rw [c, h2]⟩
  obtain ⟨i, a, b, c⟩ := key j j (Nat.le_refl _) hjl
  simp only [List.mem_map, List.mem_filter, List.mem_range]
  exact ⟨i, ⟨a, b⟩, by rw [c, hx]⟩
theorem unq7_mem {z l : List (Int × Int)} (h : unq7 z l) (x : Int × Int) : x ∈ l ↔ x ∈ z := by
 obtain ⟨l', hp, -, rfl⟩ := h
 rw [compact_mem, hp.mem_iff]
def fit7 (z : List (Int × Int)) (r : List Int) : Bool := z.all fun p => decide (r[p.1.toNat]?.getD 0 = p.2)
theorem fit7_mem {z l : List (Int × Int)} (h : ∀ x, x ∈ l ↔ x ∈ z) (r : List Int) : fit7 l r = fit7 z r := by
 unfold fit7
 rw [Bool.eq_iff_iff, List.all_eq_true, List.all_eq_true]
 exact ⟨fun k x hx => k x ((h x).2 hx), fun k x hx => k x ((h x).1 hx)⟩
theorem nums7_fit (l : List (Int × Int)) (r : List Int) : nums7 (l.map fun p => p.1.toNat) r = l.map Prod.snd ↔ fit7 l r = true := by
 induction l with
 | nil => simp [nums7, fit7]
 | cons p l ih =>
  have e : nums7 ((p :: l).map fun p => p.1.toNat) r = r[p.1.toNat]?.getD 0 :: nums7 (l.map fun p => p.1.toNat) r := rfl
  have e2 : fit7 (p :: l) r = (decide (r[p.1.toNat]?.getD 0 = p.2) && fit7 l r) := rfl
  rw [e, e2, List.map_cons, List.cons.injEq, ih]
  simp
theorem sel7_sift (s : St7) (parts : Int) (cols : List Nat) (nums : List Int) : sel7 s parts cols nums = (sel7 s parts [] []).filter fun r => decide (tx (nums7 cols r) = tx nums) := by
 unfold sel7
 rw [List.filter_flatMap]
 congr 1
 funext p
 unfold rws7
 rw [List.filter_map]
 congr 1
 rw [pls7_all]
 unfold wn7 pls7 grp nat7
 rw [List.filter_filter, List.filter_map, List.filter_map, List.filter_filter]
 congr 1
 apply List.filter_congr
 intro i _
 simp [Function.comp, Bool.and_comm]
theorem srt7_filter (P : List Int -> Bool) (l : List (List Int)) : srt7 (l.filter P) = (srt7 l).filter P :=
 srtR_uniq (srt7_srt _) ((srt7_srt l).filter _) ((srt7_perm _).trans ((srt7_perm l).filter P).symm)
end Go.Proofs.YtechceagghcipaaGreatDoor
