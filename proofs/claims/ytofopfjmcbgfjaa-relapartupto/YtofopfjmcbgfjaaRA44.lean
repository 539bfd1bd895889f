import Derived.Test.YtofopfjmcbgfjaaRA42
import Derived.Test.YtofopfjmcbgfjaaRA26
import Derived.RangeFuncCalls
import Derived.Shelf.Abstract
import Derived.Shelf.RegionOpen
import Derived.WalkKit
import Derived.OwnWalkIn
import Derived.TacticsInMore
import Derived.LoopNIn
import Derived.LoopIn
/-
  rel: what Find by columns gives, plain.
-/
namespace Go.Proofs.Ytofopfjmcbgfjaa
open Go.RowKit Go.Lib

theorem compact_mem (l : List (Int × Int)) (x : Int × Int) : x ∈ compact l ↔ x ∈ l := by
  unfold compact compactUpTo
  constructor
  · intro h
    simp only [List.mem_map, List.mem_filter, List.mem_range] at h
    obtain ⟨j, ⟨hj, -⟩, rfl⟩ := h
    rw [getElem!_pos l.toArray j (by simpa using hj)]
    simp
  · intro h
    obtain ⟨j, hj⟩ := List.getElem?_of_mem h
    have hjl := (List.getElem?_eq_some_iff.1 hj).1
    have hx : l.toArray[j]! = x := arr7 hj
    clear h hj
    have key : ∀ n j, j ≤ n → j < l.length → ∃ i, i < l.length ∧ keeps l.toArray i = true ∧ l.toArray[i]! = l.toArray[j]! := by
      intro n
      induction n with
      | zero => intro j hj hl; exact ⟨j, hl, keeps_lt_one _ j (by omega), rfl⟩
      | succ n ih =>
        intro j hj hl
        by_cases hk : keeps l.toArray j = true
        · exact ⟨j, hl, hk, rfl⟩
        · have h0 : ¬ (j = 0 ∨ l.toArray[j]! ≠ l.toArray[j - 1]!) := by simpa [keeps] using hk
          have h1 : j ≠ 0 := fun e => h0 (Or.inl e)
          have h2 : l.toArray[j]! = l.toArray[j - 1]! := Classical.byContradiction fun e => h0 (Or.inr e)
          obtain ⟨i, a, b, c⟩ := ih (j - 1) (by omega) (by omega)
          exact ⟨i, a, b, by rw [c, h2]⟩
    obtain ⟨i, a, b, c⟩ := key j j (Nat.le_refl _) hjl
    simp only [List.mem_map, List.mem_filter, List.mem_range]
    exact ⟨i, ⟨a, b⟩, by rw [c, hx]⟩
theorem unq7_mem {z l : List (Int × Int)} (h : unq7 z l) (x : Int × Int) : x ∈ l ↔ x ∈ z := by
  obtain ⟨l', hp, -, rfl⟩ := h
  rw [compact_mem, hp.mem_iff]
/-- Has the row these numbers in these columns? -/
def fit7 (z : List (Int × Int)) (r : List Int) : Bool := z.all fun p => decide (r[p.1.toNat]?.getD 0 = p.2)
theorem fit7_mem {z l : List (Int × Int)} (h : ∀ x, x ∈ l ↔ x ∈ z) (r : List Int) : fit7 l r = fit7 z r := by
  unfold fit7
  rw [Bool.eq_iff_iff, List.all_eq_true, List.all_eq_true]
  exact ⟨fun k x hx => k x ((h x).2 hx), fun k x hx => k x ((h x).1 hx)⟩
theorem nums7_fit (l : List (Int × Int)) (r : List Int) : nums7 (l.map fun p => p.1.toNat) r = l.map Prod.snd ↔ fit7 l r = true := by
  induction l with
  | nil => simp [nums7, fit7]
  | cons p l ih =>
    have e : nums7 ((p :: l).map fun p => p.1.toNat) r = r[p.1.toNat]?.getD 0 :: nums7 (l.map fun p => p.1.toNat) r := rfl
    have e2 : fit7 (p :: l) r = (decide (r[p.1.toNat]?.getD 0 = p.2) && fit7 l r) := rfl
    rw [e, e2, List.map_cons, List.cons.injEq, ih]
    simp
/-- What is found, as a sieve of all rows. -/
theorem sel7_sift (s : St7) (parts : Int) (cols : List Nat) (nums : List Int) : sel7 s parts cols nums = (sel7 s parts [] []).filter fun r => decide (tx (nums7 cols r) = tx nums) := by
  unfold sel7
  rw [List.filter_flatMap]
  congr 1
  funext p
  unfold rws7
  rw [List.filter_map]
  congr 1
  rw [pls7_all]
  unfold wn7 pls7 grp nat7
  rw [List.filter_filter, List.filter_map, List.filter_map, List.filter_filter]
  congr 1
  apply List.filter_congr
  intro i _
  simp [Function.comp, Bool.and_comm]
theorem srt7_filter (P : List Int → Bool) (l : List (List Int)) : srt7 (l.filter P) = (srt7 l).filter P :=
  srtR_uniq (srt7_srt _) ((srt7_srt l).filter _) ((srt7_perm _).trans ((srt7_perm l).filter P).symm)
end Go.Proofs.Ytofopfjmcbgfjaa
/-
  rel: Find by columns that fit no row: a range of none; how neighbours differ where each stands once.
-/
namespace Go.Proofs.Ytofopfjmcbgfjaa
open Go.RowKit Go.Shelf Go.Lib
attribute [local go_sem] Oper.semAt_some

set_option maxRecDepth 100000 in
theorem find_none (b1 b2 b3 b4 b5 : Nat) :
    SeqX Try.prog 32 #[.pointer (some ⟨b1, 0, none⟩), .pointer (some ⟨b2, 0, none⟩), .pointer (some ⟨b3, 0, none⟩), .pointer (some ⟨b4, 0, none⟩), .pointer (some ⟨b5, 0, none⟩)] [] (fun W => Bk W b1 #[.bool false] 4) (fun W W1 => W1 = W) (fun _ _ => True) := by
  intro n l J Jx W hd hEff hK hY
  have c1 := hd.cell (i := 0) rfl
  have HE := hm7 (hEff W rfl)
  clear hd hEff hK hY
  refine callsIn_of_wp Try.func32 rfl trivial ?_ rfl
  simp only [Try.ntmps32, List.size_toArray, List.length_cons, List.length_nil, Nat.reduceAdd, Nat.reduceSub, Array.replicate_succ, Array.replicate_zero, List.push_toArray, List.append_toArray, List.nil_append, List.cons_append]
  gi_wp2
  refine bodyPost_ret (results_none rfl _ _ _) rfl ?_
  exact ⟨⟨_, rfl⟩, _, .inl HE.out⟩
/-- Cells that rise and are kept once: each ahead of the next. -/
theorem compact_rise {l : List (Int × Int)} (h : srtZ7 l) : (compact l).Pairwise fun a b => a.1 < b.1 ∨ (a.1 = b.1 ∧ a.2 < b.2) := by
  unfold compact compactUpTo
  rw [List.pairwise_map]
  have h0 : ((List.range l.length).filter (keeps l.toArray)).Pairwise (· < ·) := List.Pairwise.filter _ List.pairwise_lt_range
  refine List.Pairwise.imp_of_mem ?_ h0
  intro i j hi hj hij
  simp only [List.mem_filter, List.mem_range] at hi hj
  have gi : l.toArray[i]! = l[i]'hi.1 := by rw [getElem!_pos l.toArray i (by simpa using hi.1)]; simp
  have gj : l.toArray[j]! = l[j]'hj.1 := by rw [getElem!_pos l.toArray j (by simpa using hj.1)]; simp
  have gp : l.toArray[j - 1]! = l[j - 1]'(by omega) := by rw [getElem!_pos l.toArray (j - 1) (by simp; omega)]; simp
  have hk : j = 0 ∨ l.toArray[j]! ≠ l.toArray[j - 1]! := by simpa [keeps] using hj.2
  have hne : l[j]'hj.1 ≠ l[j - 1]'(by omega) := by
    rcases hk with hk | hk
    · omega
    · rw [gj, gp] at hk; exact hk
  have hs := List.pairwise_iff_getElem.1 h
  have h1 := hs (j - 1) j (by omega) hj.1 (by omega)
  have h2 : l[i]'hi.1 = l[j - 1]'(by omega) ∨ ((l[i]'hi.1).1 < (l[j - 1]'(by omega)).1 ∨ ((l[i]'hi.1).1 = (l[j - 1]'(by omega)).1 ∧ (l[i]'hi.1).2 ≤ (l[j - 1]'(by omega)).2)) := by
    by_cases e : i = j - 1
    · left; subst e; rfl
    · exact Or.inr (hs i (j - 1) hi.1 (by omega) (by omega))
  rw [gi, gj]
  have h3 : (l[j]'hj.1).1 = (l[j - 1]'(by omega)).1 → (l[j]'hj.1).2 ≠ (l[j - 1]'(by omega)).2 := fun e1 e2 => hne (Prod.ext e1 e2)
  rcases h2 with h2 | h2
  · rw [h2]; omega
  · omega
end Go.Proofs.Ytofopfjmcbgfjaa
