import Derived.Laws.CopyOwn
import Derived.Test.YtechceagghcipaaGreatDoorRA16
import Derived.Laws.Cover1
import Derived.Deep.QuietTactic
import Derived.BigQuiet
import Derived.Test.YtechceagghcipaaGreatDoorRA21
namespace Go.Proofs.YtechceagghcipaaGreatDoor
open Go.RowKit

def srt7 (l : List (List Int)) : List (List Int) := l.mergeSort fun a b => decide (cmpR a b <= 0)
theorem srt7_srt (l : List (List Int)) : srtR (srt7 l) := by
 have h := List.pairwise_mergeSort (le := fun a b => decide (cmpR a b <= 0)) (fun a b c h1 h2 => by simp only [decide_eq_true_eq] at *; exact cmpR_le h1 h2) (fun a b => by
  have := cmpR_neg a b
  simp only [Bool.or_eq_true, decide_eq_true_eq]
  omega) l
 exact h.imp fun h => by simpa using h
theorem srt7_perm (l : List (List Int)) : (srt7 l).Perm l := List.mergeSort_perm _ _
theorem rws_mem {rows : List (List Int)} {l : List Int} (h : ∀ i ∈ l, 0 <= i /\ i < (rows.length : Int)) : ∀ x ∈ rws7 rows l, x ∈ rows := by
 intro x hx
 simp only [rws7, List.mem_map] at hx
 obtain ⟨i, hi, rfl⟩ := hx
 obtain ⟨h0, h1⟩ := h i hi
 rw [List.getElem?_eq_getElem (by omega : i.toNat < rows.length)]
 exact List.getElem_mem _
theorem sel_mem {s : St7} {parts : Int} {cols : List Nat} {nums : List Int} : ∀ x ∈ sel7 s parts cols nums, x ∈ s.rows := by
 intro x hx
 simp only [sel7, List.mem_flatMap] at hx
 obtain ⟨p, -, hx⟩ := hx
 exact rws_mem (fun i hi => pls7_lt i (List.mem_filter.1 hi).1) x hx
theorem pls7_all (s : St7) : pls7 s [] [] = nat7 (List.range s.rows.length) := by
 unfold pls7 grp
 rw [List.filter_eq_self.2]
 intro i _
 simp [nums7]
theorem range_split (a b n : Nat) (hab : a <= b) (hbn : b <= n) : (nat7 (List.range n)).filter (fun x => decide ((a : Int) <= x /\ x < (b : Int))) = nat7 (List.range' a (b - a)) := by
 have e : List.range n = List.range' 0 a ++ (List.range' a (b - a) ++ List.range' b (n - b)) := by
  rw [List.range_eq_range']
  have h1 : List.range' 0 n = List.range' 0 a ++ List.range' a (n - a) := by
   have := List.range'_append_1 (s := 0) (m := a) (n := n - a)
   rw [Nat.zero_add] at this
   rw [this]; congr 1; omega
  have h2 : List.range' a (n - a) = List.range' a (b - a) ++ List.range' b (n - b) := by
   have := List.range'_append_1 (s := a) (m := b - a) (n := n - b)
   rw [show a + (b - a) = b by omega] at this
   rw [this]; congr 1; omega
  rw [h1, h2]
 rw [e]
 unfold nat7
 rw [List.map_append, List.map_append, List.filter_append, List.filter_append]
 have q1 : ((List.range' 0 a).map fun (i : Nat) => (i : Int)).filter (fun x => decide ((a : Int) <= x /\ x < (b : Int))) = [] := by
  rw [List.filter_eq_nil_iff]
  intro x hx
  simp only [List.mem_map, List.mem_range'_1] at hx
  obtain ⟨i, hi, rfl⟩ := hx
  simp only [decide_eq_true_eq]; omega
 have q2 : ((List.range' a (b - a)).map fun (i : Nat) => (i : Int)).filter (fun x => decide ((a : Int) <= x /\ x < (b : Int))) = (List.range' a (b - a)).map fun (i : Nat) => (i : Int) := by
  rw [List.filter_eq_self]
  intro x hx
  simp only [List.mem_map, List.mem_range'_1] at hx
  obtain ⟨i, hi, rfl⟩ := hx
  simp only [decide_eq_true_eq]; omega
 have q3 : ((List.range' b (n - b)).map fun (i : Nat) => (i : Int)).filter (fun x => decide ((a : Int) <= x /\ x < (b : Int))) = [] := by
  rw [List.filter_eq_nil_iff]
  intro x hx
  simp only [List.mem_map, List.mem_range'_1] at hx
  obtain ⟨i, hi, rfl⟩ := hx
  simp only [decide_eq_true_eq]; omega
 rw [q1, q2, q3]
 simp
theorem rws_range (rows : List (List Int)) (a b : Nat) (hab : a <= b) (hbn : b <= rows.length) : rws7 rows (wn7 (a : Int) (b : Int) (nat7 (List.range rows.length))) = (rows.take b).drop a := by
 unfold wn7
 rw [range_split a b _ hab hbn]
 unfold rws7 nat7
 rw [List.map_map]
 apply List.ext_getElem?
 intro i
 rw [List.getElem?_map, List.getElem?_drop, List.getElem?_take]
 by_cases hi : i < b - a
 ·rw [List.getElem?_range' hi, if_pos (by omega)]
  simp [List.getElem?_eq_getElem (by omega : a + i < rows.length)]
  rw [show ((a : Int) + (i : Int)).toNat = a + i by omega, List.getElem?_eq_getElem (by omega : a + i < rows.length)]
  rfl
 ·rw [if_neg (by omega), List.getElem?_eq_none (by simp; omega)]
  rfl
def ad7 (s : St7) (r : List Int) : St7 := if r ∈ s.rows then s else Add7 s r
theorem ad7_wd (s : St7) (r : List Int) : (ad7 s r).wd = s.wd /\ (ad7 s r).nf = s.nf /\ (ad7 s r).xf = s.xf := by unfold ad7; split <;> exact ⟨rfl, rfl, rfl⟩
theorem ad7_mem (s : St7) (r x : List Int) : x ∈ (ad7 s r).rows ↔ x ∈ s.rows ∨ x = r := by
 unfold ad7; split
 ·rename_i h
  exact ⟨Or.inl, fun h' => h'.elim id fun e => by rw [e]; exact h⟩
 ·simp [Add7]
end Go.Proofs.YtechceagghcipaaGreatDoor
