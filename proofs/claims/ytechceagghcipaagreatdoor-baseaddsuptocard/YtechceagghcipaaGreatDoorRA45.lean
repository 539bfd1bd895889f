import Derived.Test.YtechceagghcipaaGreatDoorRA44
namespace Go.Proofs.YtechceagghcipaaGreatDoor
open Go.RowKit Go.Lib

def fits8 (cols keys row : List Int) : Bool := decide (cols.length = keys.length) && (cols.zip keys).all fun p => decide (0 <= p.1 /\ p.1 < (row.length : Int) /\ row[p.1.toNat]?.getD 0 = p.2)
theorem zip_left {cols keys : List Int} (hl : cols.length = keys.length) {c : Int} (hc : c ∈ cols) : ∃ k, (c, k) ∈ cols.zip keys := by
 obtain ⟨j, hj⟩ := List.getElem?_of_mem hc
 have h1 := (List.getElem?_eq_some_iff.1 hj).1
 exact ⟨keys[j]'(by omega), List.mem_of_getElem? (i := j) (by rw [List.getElem?_zip_eq_some]; exact ⟨hj, List.getElem?_eq_getElem (by omega)⟩)⟩
theorem bad_none {wd : Nat} {cols keys : List Int} (h : bad7 wd cols keys) {row : List Int} (hr : row.length = wd) : fits8 cols keys row = false := by
 unfold fits8
 by_cases hl : cols.length = keys.length
 ·rw [decide_eq_true hl, Bool.true_and]
  cases hq : (cols.zip keys).all fun p => decide (0 <= p.1 /\ p.1 < (row.length : Int) /\ row[p.1.toNat]?.getD 0 = p.2) with
  | false => rfl
  | true =>
   exfalso
   rw [List.all_eq_true] at hq
   have hq' : ∀ p ∈ cols.zip keys, 0 <= p.1 /\ p.1 < (row.length : Int) /\ row[p.1.toNat]?.getD 0 = p.2 := fun p hp => by simpa using hq p hp
   rcases h with h | ⟨c, hc, h⟩ | ⟨l, hu, j, p, q, hp, hq2, he⟩
   ·exact h hl
   ·obtain ⟨k, hk⟩ := zip_left hl hc
    have := hq' _ hk
    rw [col7, decide_eq_false_iff_not] at h
    simp only at this
    rw [hr] at this
    exact h ⟨this.1, this.2.1⟩
   ·have h1 := hq' p ((unq7_mem hu p).1 (List.mem_of_getElem? hp))
    have h2 := hq' q ((unq7_mem hu q).1 (List.mem_of_getElem? hq2))
    obtain ⟨l', -, hs, rfl⟩ := hu
    have h3 := compact_rise hs
    obtain ⟨a1, rfl⟩ := List.getElem?_eq_some_iff.1 hp
    obtain ⟨a2, rfl⟩ := List.getElem?_eq_some_iff.1 hq2
    have h4 := List.pairwise_iff_getElem.1 h3 j (j + 1) a1 a2 (by omega)
    rw [<- he] at h2
    have := h1.2.2.symm.trans h2.2.2
    omega
 ·rw [decide_eq_false hl]; rfl
theorem good_fit {wd : Nat} {cols keys : List Int} (hl : cols.length = keys.length) (hc : ∀ c ∈ cols, col7 wd c = true) {row : List Int} (hr : row.length = wd) : fits8 cols keys row = fit7 (cols.zip keys) row := by
 unfold fits8 fit7
 rw [decide_eq_true hl, Bool.true_and, Bool.eq_iff_iff, List.all_eq_true, List.all_eq_true]
 refine forall_congr' fun p => forall_congr' fun hp => ?_
 have h1 := hc p.1 (List.of_mem_zip hp).1
 rw [col7, decide_eq_true_eq] at h1
 simp only [decide_eq_true_eq]
 rw [hr]
 exact ⟨fun h => h.2.2, fun h => ⟨h1.1, h1.2, h⟩⟩
theorem nums8_w {s : St7} (ho : s.Ok) {r : List Int} (hr : r ∈ s.rows) (cols : List Nat) : w64 (nums7 cols r) := by
 intro x hx
 simp only [nums7, List.mem_map] at hx
 obtain ⟨c, -, rfl⟩ := hx
 cases h : r[c]? with
 | none => rfl
 | some y => exact ho.w r hr y (List.mem_of_getElem? h)
theorem sift8 {s : St7} (ho : s.Ok) {cols keys : List Int} {l : List (Int × Int)} (parts : Int) (hl : cols.length = keys.length) (hc : ∀ c ∈ cols, col7 s.wd c = true) (hu : unq7 (cols.zip keys) l) (hw : w64 keys) :
  srt7 (sel7 s parts (l.map fun p => p.1.toNat) (l.map Prod.snd)) = (srt7 (sel7 s parts [] [])).filter (fits8 cols keys) := by
 rw [sel7_sift, srt7_filter]
 apply List.filter_congr
 intro r hr
 have hm : r ∈ s.rows := sel_mem r ((srt7_perm _).mem_iff.1 hr)
 have hwl : w64 (l.map Prod.snd) := by
  intro x hx
  simp only [List.mem_map] at hx
  obtain ⟨p, hp, rfl⟩ := hx
  exact hw p.2 (List.of_mem_zip ((unq7_mem hu p).1 hp)).2
 rw [good_fit hl hc (ho.wid r hm), <- fit7_mem (unq7_mem hu) r, Bool.eq_iff_iff, decide_eq_true_eq, <- nums7_fit]
 exact ⟨fun h => tx_inj (nums8_w ho hm _) hwl h, fun h => by rw [h]⟩
end Go.Proofs.YtechceagghcipaaGreatDoor
