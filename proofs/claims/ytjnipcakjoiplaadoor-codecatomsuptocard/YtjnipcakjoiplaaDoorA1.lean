/-
  Apply. (Written by genA.py out of A1.head.)
-/
import Derived.Test.YtjnipcakjoiplaaDoorO2
namespace Go.Proofs.YtjnipcakjoiplaaDoor
open Go.RowKit
attribute [local go_sem ↓] Go.wp_at_zero Go.wp_at_succ

theorem Tryd.infoTerm : (Tryd.prog.info? 23).map (fun i => (i.zero, i.size, i.bytes)) = some (some (.agg #[.int .i64 0, .int .i64 0, .string ⟨#[]⟩]), 3, 32) := by kernel_rfl
def MC (n : Nat) : Array Value := madeCells #[.int .i64 0, .int .i64 0, .string ⟨#[]⟩] (n * 3)
/-- Block g holds the first k of the terms l, and has room for all. -/
def TBlk (w : World) (g : Nat) (l : List Tm) (k : Nat) : Prop := ∃ C : Array Value, w.heap[g]? = some (.cells C 23 (0, 0)) ∧ C.size = l.length * 3 ∧
  ∀ i t, i < k → l[i]? = some t → C[i * 3]? = some (.int .i64 t.k) ∧ C[i * 3 + 1]? = some (.int .i64 t.n) ∧ C[i * 3 + 2]? = some (.string t.s)
theorem TBlk.start {w : World} {g : Nat} {l : List Tm} {n : Nat} (hn : n = l.length) (h : w.heap[g]? = some (.cells (MC n) 23 (0, 0))) : TBlk w g l 0 :=
  ⟨_, h, by rw [MC, size_madeCells, hn], fun i t hi => absurd hi (Nat.not_lt_zero _)⟩
theorem TBlk.later {w w' : World} {g : Nat} {l : List Tm} {k : Nat} (h : TBlk w g l k) (hb : Below w.heap.size w w') : TBlk w' g l k := by
  obtain ⟨C, h1, h2⟩ := h
  exact ⟨C, (hb.block _ (Array.getElem?_eq_some_iff.1 h1).1).trans h1, h2⟩
theorem TBlk.cells {w : World} {g : Nat} {l : List Tm} {k j : Nat} (h : TBlk w g l k) (hj : j < l.length * 3) : (∃ c, w.cell? ⟨g, j, none⟩ = some c) ∧ w.frozen? ⟨g, j, none⟩ = false := by
  obtain ⟨C, h1, h2, -⟩ := h
  refine ⟨⟨C[j], ?_⟩, frozen_of_row _ _ _ _ _ h1⟩
  rw [cell_of_row _ _ _ _ _ _ h1]; simp
theorem TBlk.put {w : World} {g : Nat} {l : List Tm} {k : Nat} {t : Tm} (h : TBlk w g l k) (ht : l[k]? = some t) :
    TBlk (((w.setCell ⟨g, k * 3, none⟩ (.int .i64 t.k)).setCell ⟨g, k * 3 + 1, none⟩ (.int .i64 t.n)).setCell ⟨g, k * 3 + 2, none⟩ (.string t.s)) g l (k + 1) := by
  obtain ⟨C, h1, h2, h3⟩ := h
  have hk := (List.getElem?_eq_some_iff.1 ht).1
  have e1 := heap_setCell_same _ _ (k * 3) _ _ (.int .i64 t.k) h1
  have e2 := heap_setCell_same _ _ (k * 3 + 1) _ _ (.int .i64 t.n) e1
  have e3 := heap_setCell_same _ _ (k * 3 + 2) _ _ (.string t.s) e2
  refine ⟨_, e3, by simp [h2], fun i u hi hu => ?_⟩
  by_cases hik : i = k
  · subst hik
    rw [ht] at hu
    obtain rfl := Option.some.inj hu
    refine ⟨?_, ?_, ?_⟩ <;> simp [Array.getElem?_setIfInBounds, h2] <;> omega
  · obtain ⟨a, b, c⟩ := h3 i u (by omega) hu
    refine ⟨?_, ?_, ?_⟩
    · rw [Array.getElem?_setIfInBounds_ne (by omega), Array.getElem?_setIfInBounds_ne (by omega), Array.getElem?_setIfInBounds_ne (by omega)]; exact a
    · rw [Array.getElem?_setIfInBounds_ne (by omega), Array.getElem?_setIfInBounds_ne (by omega), Array.getElem?_setIfInBounds_ne (by omega)]; exact b
    · rw [Array.getElem?_setIfInBounds_ne (by omega), Array.getElem?_setIfInBounds_ne (by omega), Array.getElem?_setIfInBounds_ne (by omega)]; exact c
theorem TBlk.ts {w : World} {g : Nat} {l : List Tm} {n cap : Nat} (hn : n = l.length) (hl : n ≤ 4398046511104) (h : TBlk w g l n) : Ts w (.slice (some ⟨g, 0, none⟩) n cap) l := by
  subst hn
  obtain ⟨C, h1, h2, h3⟩ := h
  refine ⟨_, cap, rfl, by omega, Or.inr ⟨g, 0, rfl, (Array.getElem?_eq_some_iff.1 h1).1, fun i t ht => ?_⟩⟩
  obtain ⟨a, b, c⟩ := h3 i t (List.getElem?_eq_some_iff.1 ht).1 ht
  rw [cell_of_row _ _ _ _ _ _ h1, cell_of_row _ _ _ _ _ _ h1, cell_of_row _ _ _ _ _ _ h1]
  simp only [Nat.zero_add]
  exact ⟨a, b, c⟩
end Go.Proofs.YtjnipcakjoiplaaDoor
