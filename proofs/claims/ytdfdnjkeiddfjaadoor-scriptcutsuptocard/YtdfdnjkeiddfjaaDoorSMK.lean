/-
  script (stage 25): PLAIN: the program's table and the document's.
-/
import Derived.Test.YtdfdnjkeiddfjaaDoorSMJ
import Derived.Test.YtdfdnjkeiddfjaaDoorSM0
namespace Go.Proofs.YtdfdnjkeiddfjaaDoor
open Go.RowKit

def ixR (j : Nat) : Nat := ((rwA.getD j zrA).k - 1).toNat
set_option maxRecDepth 20000 in
theorem rwA_S {j : Nat} (h : j < 24) : ixR j < 24 ∧ (rwA.getD j zrA).k = (ixR j : Int) + 1 ∧ (rwS.getD (ixR j) zrS).x = (rwA.getD j zrA).x ∧ blK (rwS.getD (ixR j) zrS).p = (rwA.getD j zrA).ps.map letA := by
  have key : ∀ j : Nat, j < 24 → ixR j < 24 ∧ (rwA.getD j zrA).k = (ixR j : Int) + 1 ∧ (rwS.getD (ixR j) zrS).x = (rwA.getD j zrA).x ∧ blK (rwS.getD (ixR j) zrS).p = (rwA.getD j zrA).ps.map letA := by decide
  exact key j h
set_option maxRecDepth 20000 in
theorem rwA_all {i : Nat} (h : i < 24) : ∃ j, j < 24 ∧ ixR j = i := by
  have key : ∀ i : Nat, i < 24 → ∃ j, j < 24 ∧ ixR j = i := by decide
  exact key i h
set_option maxRecDepth 20000 in
theorem rwA_l3 {j : Nat} (h : j < 24) : ∀ p ∈ (rwA.getD j zrA).l3, 0 ≤ p ∧ p ≤ 7 := by
  have key : ∀ j : Nat, j < 24 → ∀ p ∈ (rwA.getD j zrA).l3, 0 ≤ p ∧ p ≤ 7 := by decide
  exact key j h
set_option maxRecDepth 20000 in
theorem rwA_in {j : Nat} (h : j < 24) {q : Nat} (hq : q < 8) (hq1 : 1 ≤ q) : inS (rwS.getD (ixR j) zrS).p (letA (q : Int)) = decide ((q : Int) ∈ (rwA.getD j zrA).l3) := by
  have key : ∀ j : Nat, j < 24 → ∀ q : Nat, q < 8 → 1 ≤ q → inS (rwS.getD (ixR j) zrS).p (letA (q : Int)) = decide ((q : Int) ∈ (rwA.getD j zrA).l3) := by decide
  exact key j h q hq hq1
set_option maxRecDepth 20000 in
theorem rwS_one {i j : Nat} (hi : i < 24) (hj : j < 24) (h : (rwS.getD i zrS).x = (rwS.getD j zrS).x) : i = j := by
  have key : ∀ i : Nat, i < 24 → ∀ j : Nat, j < 24 → (rwS.getD i zrS).x = (rwS.getD j zrS).x → i = j := by decide
  exact key i hi j hj h
set_option maxRecDepth 20000 in
theorem rwS_full {i : Nat} (hi : i < 24) : (rwS.getD i zrS).x ≠ ⟨#[]⟩ := by
  have key : ∀ i : Nat, i < 24 → (rwS.getD i zrS).x ≠ ⟨#[]⟩ := by decide
  exact key i hi
theorem mem_rwA {r : RoA} (h : r ∈ rwA) : ∃ j, j < 24 ∧ rwA.getD j zrA = r := by
  obtain ⟨j, hj, rfl⟩ := List.mem_iff_getElem.1 h
  exact ⟨j, hj, by rw [List.getD_eq_getElem?_getD, List.getElem?_eq_getElem hj]; rfl⟩
theorem getD_mem {j : Nat} (h : j < 24) : rwA.getD j zrA ∈ rwA := by
  rw [List.getD_eq_getElem?_getD, List.getElem?_eq_getElem (show j < rwA.length from h)]
  exact List.getElem_mem _
/-- The row of a kind. -/
theorem find_kind (k : Int) : (rwA.find? (fun r => decide (r.k = k)) = none ∧ roK k = none) ∨ ∃ j, j < 24 ∧ rwA.find? (fun r => decide (r.k = k)) = some (rwA.getD j zrA) ∧ roK k = some (rwS.getD (ixR j) zrS) := by
  cases hf : rwA.find? (fun r => decide (r.k = k)) with
  | none =>
    rcases roK_any k with ⟨h, -⟩ | ⟨i, hi, hk, -⟩
    · exact Or.inl ⟨rfl, h⟩
    · obtain ⟨j, hj, rfl⟩ := rwA_all hi
      have := List.find?_eq_none.1 hf _ (getD_mem hj)
      rw [(rwA_S hj).2.1, hk] at this
      simp at this
  | some r =>
    obtain ⟨j, hj, rfl⟩ := mem_rwA (List.mem_of_find?_eq_some hf)
    have hk : (rwA.getD j zrA).k = k := by simpa using List.find?_some hf
    refine Or.inr ⟨j, hj, rfl, ?_⟩
    rw [← hk, (rwA_S hj).2.1]
    exact roK_at (rwA_S hj).1
theorem ls_hit (x : ByteArray) : ∀ n, (∃ i, i < n ∧ (rwS.getD i zrS).x = x) → ∃ i, i < n ∧ lsS x n = rwS.getD i zrS ∧ (rwS.getD i zrS).x = x
  | 0, ⟨i, h, _⟩ => absurd h (by omega)
  | n + 1, ⟨i, h, hx⟩ => by
    unfold lsS
    by_cases hn : (rwS.getD n zrS).x = x
    · exact ⟨n, by omega, if_pos hn, hn⟩
    · have hi : i < n := by
        rcases Nat.lt_or_ge i n with h' | h'
        · exact h'
        · have : i = n := by omega
          rw [this] at hx; exact absurd hx hn
      obtain ⟨i', h1, h2, h3⟩ := ls_hit x n ⟨i, hi, hx⟩
      exact ⟨i', by omega, by rw [if_neg hn]; exact h2, h3⟩
/-- The row of a name. -/
theorem find_name (x : ByteArray) : (rwA.find? (fun r => decide (r.x = x)) = none ∧ lsS x 24 = zrS) ∨ ∃ j, j < 24 ∧ rwA.find? (fun r => decide (r.x = x)) = some (rwA.getD j zrA) ∧ lsS x 24 = rwS.getD (ixR j) zrS := by
  cases hf : rwA.find? (fun r => decide (r.x = x)) with
  | none =>
    rcases ls_any x 24 with h | ⟨i, hi, -, hx⟩
    · exact Or.inl ⟨rfl, h⟩
    · obtain ⟨j, hj, rfl⟩ := rwA_all hi
      have := List.find?_eq_none.1 hf _ (getD_mem hj)
      rw [← (rwA_S hj).2.2.1, hx] at this
      simp at this
  | some r =>
    obtain ⟨j, hj, rfl⟩ := mem_rwA (List.mem_of_find?_eq_some hf)
    have hk : (rwA.getD j zrA).x = x := by simpa using List.find?_some hf
    refine Or.inr ⟨j, hj, rfl, ?_⟩
    obtain ⟨h1, -, h3, -⟩ := rwA_S hj
    obtain ⟨i, q1, q2, q3⟩ := ls_hit x 24 ⟨ixR j, h1, h3.trans hk⟩
    rw [q2, rwS_one q1 h1 (q3.trans (h3.trans hk).symm)]
theorem find_none : rwA.find? (fun r => decide (r.x = ⟨#[]⟩)) = none := by
  rcases find_name ⟨#[]⟩ with ⟨h, -⟩ | ⟨j, hj, h, -⟩
  · exact h
  · have hk : (rwA.getD j zrA).x = ⟨#[]⟩ := by simpa using List.find?_some h
    exact absurd ((rwA_S hj).2.2.1.trans hk) (rwS_full (rwA_S hj).1)
theorem cl_ho {j : Nat} (h : j < 24) (d : SdO) (n : Nat) : clS (rwS.getD (ixR j) zrS).p d n = true ↔ hoA (rwA.getD j zrA).l3 d n := by
  have i1 : inS (rwS.getD (ixR j) zrS).p 119 = decide ((1 : Int) ∈ (rwA.getD j zrA).l3) := rwA_in h (q := 1) (by omega) (by omega)
  have i2 : inS (rwS.getD (ixR j) zrS).p 111 = decide ((2 : Int) ∈ (rwA.getD j zrA).l3) := rwA_in h (q := 2) (by omega) (by omega)
  have i3 : inS (rwS.getD (ixR j) zrS).p 116 = decide ((3 : Int) ∈ (rwA.getD j zrA).l3) := rwA_in h (q := 3) (by omega) (by omega)
  have i4 : inS (rwS.getD (ixR j) zrS).p 98 = decide ((4 : Int) ∈ (rwA.getD j zrA).l3) := rwA_in h (q := 4) (by omega) (by omega)
  have i5 : inS (rwS.getD (ixR j) zrS).p 110 = decide ((5 : Int) ∈ (rwA.getD j zrA).l3) := rwA_in h (q := 5) (by omega) (by omega)
  have i6 : inS (rwS.getD (ixR j) zrS).p 109 = decide ((6 : Int) ∈ (rwA.getD j zrA).l3) := rwA_in h (q := 6) (by omega) (by omega)
  have i7 : inS (rwS.getD (ixR j) zrS).p 107 = decide ((7 : Int) ∈ (rwA.getD j zrA).l3) := rwA_in h (q := 7) (by omega) (by omega)
  have e1 : emA d n (letA 1) = decide (d.who = ⟨#[]⟩) := rfl
  have e2 : emA d n (letA 2) = decide (d.too = ⟨#[]⟩) := rfl
  have e3 : emA d n (letA 3) = decide (d.tx = ⟨#[]⟩) := rfl
  have e4 : emA d n (letA 4) = decide (n = 0) := rfl
  have e5 : emA d n (letA 5) = decide (d.n = 0) := rfl
  have e6 : emA d n (letA 6) = decide (d.m = 0) := rfl
  have e7 : emA d n (letA 7) = decide (d.q = 0) := rfl
  unfold clS okS
  rw [i1, i2, i3, i4, i5, i6, i7, ← e1, ← e2, ← e3, ← e4, ← e5, ← e6, ← e7]
  simp only [Bool.and_eq_true, Bool.or_eq_true, decide_eq_true_eq]
  constructor
  · rintro ⟨⟨⟨⟨h1, h2⟩, h3⟩, h4⟩, ⟨h5, h6⟩, h7⟩ p hp1 hp2
    have : p = 1 ∨ p = 2 ∨ p = 3 ∨ p = 4 ∨ p = 5 ∨ p = 6 ∨ p = 7 := by omega
    rcases this with rfl | rfl | rfl | rfl | rfl | rfl | rfl
    · exact h1.symm
    · exact h2.symm
    · exact h3.symm
    · exact h4.symm
    · exact h5.symm
    · exact h6.symm
    · exact h7.symm
  · intro hh
    exact ⟨⟨⟨⟨(hh 1 (by omega) (by omega)).symm, (hh 2 (by omega) (by omega)).symm⟩, (hh 3 (by omega) (by omega)).symm⟩, (hh 4 (by omega) (by omega)).symm⟩, ⟨(hh 5 (by omega) (by omega)).symm, (hh 6 (by omega) (by omega)).symm⟩, (hh 7 (by omega) (by omega)).symm⟩
end Go.Proofs.YtdfdnjkeiddfjaaDoor
