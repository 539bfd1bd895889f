/-
  Blocks that a loop fills with atoms, with tests. (Written by CL17.py.)
-/
import Derived.Test.YtgbiicmkhlnniaaGreatDoorRA16
import Derived.Test.YtgbiicmkhlnniaaGreatDoorMD1
namespace Go.Proofs.YtgbiicmkhlnniaaGreatDoor
open Go.RowKit

/-- Block g has room for n of them, and holds these. -/
def ABlk (w : World) (g n : Nat) (l : List (At × Value)) : Prop := ∃ C : Array Value, w.heap[g]? = some (.cells C 26 (0, 0)) ∧ C.size = n * 5 ∧
  ∀ i x, l[i]? = some x → C[i * 5]? = some (.int .i64 x.1.by_.k) ∧ C[i * 5 + 1]? = some (.int .i64 x.1.by_.n) ∧ C[i * 5 + 2]? = some (.string x.1.by_.s) ∧ C[i * 5 + 3]? = some (.string x.1.name) ∧ C[i * 5 + 4]? = some (x.2)
theorem ABlk.lt {w : World} {g n : Nat} {l : List (At × Value)} (h : ABlk w g n l) : g < w.heap.size := by obtain ⟨C, h1, -⟩ := h; exact (Array.getElem?_eq_some_iff.1 h1).1
theorem ABlk.later {w w' : World} {g n : Nat} {l : List (At × Value)} (h : ABlk w g n l) (hb : Below w.heap.size w w') : ABlk w' g n l := by
  obtain ⟨C, h1, h2⟩ := h
  exact ⟨C, (hb.block _ (Array.getElem?_eq_some_iff.1 h1).1).trans h1, h2⟩
theorem ABlk.other {w : World} {g n G i : Nat} {a : Value} {l : List (At × Value)} (h : ABlk w g n l) (hk : g ≠ G) : ABlk (w.setCell ⟨G, i, none⟩ a) g n l := by
  obtain ⟨C, h1, h2⟩ := h
  exact ⟨C, by rw [heap_setCell_other _ _ _ _ hk]; exact h1, h2⟩
theorem ABlk.cells {w : World} {g n j : Nat} {l : List (At × Value)} (h : ABlk w g n l) (hj : j < n * 5) : (∃ c, w.cell? ⟨g, j, none⟩ = some c) ∧ w.frozen? ⟨g, j, none⟩ = false := by
  obtain ⟨C, h1, h2, -⟩ := h
  refine ⟨⟨C[j], ?_⟩, frozen_of_row _ _ _ _ _ h1⟩
  rw [cell_of_row _ _ _ _ _ _ h1]; simp
abbrev Aput (w : World) (g k : Nat) (x : At × Value) : World := (((((w.setCell ⟨g, k * 5, none⟩ (.int .i64 x.1.by_.k)).setCell ⟨g, k * 5 + 1, none⟩ (.int .i64 x.1.by_.n)).setCell ⟨g, k * 5 + 2, none⟩ (.string x.1.by_.s)).setCell ⟨g, k * 5 + 3, none⟩ (.string x.1.name)).setCell ⟨g, k * 5 + 4, none⟩ (x.2))
theorem ABlk.put {w : World} {g n : Nat} {l : List (At × Value)} (h : ABlk w g n l) (hk : l.length < n) (x : At × Value) : ABlk (Aput w g l.length x) g n (l ++ [x]) := by
  obtain ⟨C, h1, h2, h3⟩ := h
  have e0 := heap_setCell_same _ _ (l.length * 5) _ _ (.int .i64 x.1.by_.k) h1
  have e1 := heap_setCell_same _ _ (l.length * 5 + 1) _ _ (.int .i64 x.1.by_.n) e0
  have e2 := heap_setCell_same _ _ (l.length * 5 + 2) _ _ (.string x.1.by_.s) e1
  have e3 := heap_setCell_same _ _ (l.length * 5 + 3) _ _ (.string x.1.name) e2
  have e4 := heap_setCell_same _ _ (l.length * 5 + 4) _ _ (x.2) e3
  refine ⟨_, e4, by simp [h2], fun i u hu => ?_⟩
  by_cases hik : i < l.length
  · rw [List.getElem?_append_left hik] at hu
    obtain ⟨q0, q1, q2, q3, q4⟩ := h3 i u hu
    refine ⟨?_, ?_, ?_, ?_, ?_⟩
    · rw [Array.getElem?_setIfInBounds_ne (by omega), Array.getElem?_setIfInBounds_ne (by omega), Array.getElem?_setIfInBounds_ne (by omega), Array.getElem?_setIfInBounds_ne (by omega), Array.getElem?_setIfInBounds_ne (by omega)]; exact q0
    · rw [Array.getElem?_setIfInBounds_ne (by omega), Array.getElem?_setIfInBounds_ne (by omega), Array.getElem?_setIfInBounds_ne (by omega), Array.getElem?_setIfInBounds_ne (by omega), Array.getElem?_setIfInBounds_ne (by omega)]; exact q1
    · rw [Array.getElem?_setIfInBounds_ne (by omega), Array.getElem?_setIfInBounds_ne (by omega), Array.getElem?_setIfInBounds_ne (by omega), Array.getElem?_setIfInBounds_ne (by omega), Array.getElem?_setIfInBounds_ne (by omega)]; exact q2
    · rw [Array.getElem?_setIfInBounds_ne (by omega), Array.getElem?_setIfInBounds_ne (by omega), Array.getElem?_setIfInBounds_ne (by omega), Array.getElem?_setIfInBounds_ne (by omega), Array.getElem?_setIfInBounds_ne (by omega)]; exact q3
    · rw [Array.getElem?_setIfInBounds_ne (by omega), Array.getElem?_setIfInBounds_ne (by omega), Array.getElem?_setIfInBounds_ne (by omega), Array.getElem?_setIfInBounds_ne (by omega), Array.getElem?_setIfInBounds_ne (by omega)]; exact q4
  · have hil : i = l.length := by
      have := (List.getElem?_eq_some_iff.1 hu).1
      simp at this; omega
    subst hil
    simp at hu
    subst hu
    refine ⟨?_, ?_, ?_, ?_, ?_⟩ <;> simp [Array.getElem?_setIfInBounds, h2] <;> omega

/-- Block g has room for n of them, and holds these. -/
def EBlk (w : World) (g n : Nat) (l : List (Te)) : Prop := ∃ C : Array Value, w.heap[g]? = some (.cells C 46 (0, 0)) ∧ C.size = n * 7 ∧
  ∀ i x, l[i]? = some x → C[i * 7]? = some (.int .i64 x.op) ∧ C[i * 7 + 1]? = some (.int .i64 x.l.k) ∧ C[i * 7 + 2]? = some (.int .i64 x.l.n) ∧ C[i * 7 + 3]? = some (.string x.l.s) ∧ C[i * 7 + 4]? = some (.int .i64 x.r.k) ∧ C[i * 7 + 5]? = some (.int .i64 x.r.n) ∧ C[i * 7 + 6]? = some (.string x.r.s)
theorem EBlk.lt {w : World} {g n : Nat} {l : List (Te)} (h : EBlk w g n l) : g < w.heap.size := by obtain ⟨C, h1, -⟩ := h; exact (Array.getElem?_eq_some_iff.1 h1).1
theorem EBlk.later {w w' : World} {g n : Nat} {l : List (Te)} (h : EBlk w g n l) (hb : Below w.heap.size w w') : EBlk w' g n l := by
  obtain ⟨C, h1, h2⟩ := h
  exact ⟨C, (hb.block _ (Array.getElem?_eq_some_iff.1 h1).1).trans h1, h2⟩
theorem EBlk.other {w : World} {g n G i : Nat} {a : Value} {l : List (Te)} (h : EBlk w g n l) (hk : g ≠ G) : EBlk (w.setCell ⟨G, i, none⟩ a) g n l := by
  obtain ⟨C, h1, h2⟩ := h
  exact ⟨C, by rw [heap_setCell_other _ _ _ _ hk]; exact h1, h2⟩
theorem EBlk.cells {w : World} {g n j : Nat} {l : List (Te)} (h : EBlk w g n l) (hj : j < n * 7) : (∃ c, w.cell? ⟨g, j, none⟩ = some c) ∧ w.frozen? ⟨g, j, none⟩ = false := by
  obtain ⟨C, h1, h2, -⟩ := h
  refine ⟨⟨C[j], ?_⟩, frozen_of_row _ _ _ _ _ h1⟩
  rw [cell_of_row _ _ _ _ _ _ h1]; simp
abbrev Eput (w : World) (g k : Nat) (x : Te) : World := (((((((w.setCell ⟨g, k * 7, none⟩ (.int .i64 x.op)).setCell ⟨g, k * 7 + 1, none⟩ (.int .i64 x.l.k)).setCell ⟨g, k * 7 + 2, none⟩ (.int .i64 x.l.n)).setCell ⟨g, k * 7 + 3, none⟩ (.string x.l.s)).setCell ⟨g, k * 7 + 4, none⟩ (.int .i64 x.r.k)).setCell ⟨g, k * 7 + 5, none⟩ (.int .i64 x.r.n)).setCell ⟨g, k * 7 + 6, none⟩ (.string x.r.s))
theorem EBlk.put {w : World} {g n : Nat} {l : List (Te)} (h : EBlk w g n l) (hk : l.length < n) (x : Te) : EBlk (Eput w g l.length x) g n (l ++ [x]) := by
  obtain ⟨C, h1, h2, h3⟩ := h
  have e0 := heap_setCell_same _ _ (l.length * 7) _ _ (.int .i64 x.op) h1
  have e1 := heap_setCell_same _ _ (l.length * 7 + 1) _ _ (.int .i64 x.l.k) e0
  have e2 := heap_setCell_same _ _ (l.length * 7 + 2) _ _ (.int .i64 x.l.n) e1
  have e3 := heap_setCell_same _ _ (l.length * 7 + 3) _ _ (.string x.l.s) e2
  have e4 := heap_setCell_same _ _ (l.length * 7 + 4) _ _ (.int .i64 x.r.k) e3
  have e5 := heap_setCell_same _ _ (l.length * 7 + 5) _ _ (.int .i64 x.r.n) e4
  have e6 := heap_setCell_same _ _ (l.length * 7 + 6) _ _ (.string x.r.s) e5
  refine ⟨_, e6, by simp [h2], fun i u hu => ?_⟩
  by_cases hik : i < l.length
  · rw [List.getElem?_append_left hik] at hu
    obtain ⟨q0, q1, q2, q3, q4, q5, q6⟩ := h3 i u hu
    refine ⟨?_, ?_, ?_, ?_, ?_, ?_, ?_⟩
    · rw [Array.getElem?_setIfInBounds_ne (by omega), Array.getElem?_setIfInBounds_ne (by omega), Array.getElem?_setIfInBounds_ne (by omega), Array.getElem?_setIfInBounds_ne (by omega), Array.getElem?_setIfInBounds_ne (by omega), Array.getElem?_setIfInBounds_ne (by omega), Array.getElem?_setIfInBounds_ne (by omega)]; exact q0
    · rw [Array.getElem?_setIfInBounds_ne (by omega), Array.getElem?_setIfInBounds_ne (by omega), Array.getElem?_setIfInBounds_ne (by omega), Array.getElem?_setIfInBounds_ne (by omega), Array.getElem?_setIfInBounds_ne (by omega), Array.getElem?_setIfInBounds_ne (by omega), Array.getElem?_setIfInBounds_ne (by omega)]; exact q1
    · rw [Array.getElem?_setIfInBounds_ne (by omega), Array.getElem?_setIfInBounds_ne (by omega), Array.getElem?_setIfInBounds_ne (by omega), Array.getElem?_setIfInBounds_ne (by omega), Array.getElem?_setIfInBounds_ne (by omega), Array.getElem?_setIfInBounds_ne (by omega), Array.getElem?_setIfInBounds_ne (by omega)]; exact q2
    · rw [Array.getElem?_setIfInBounds_ne (by omega), Array.getElem?_setIfInBounds_ne (by omega), Array.getElem?_setIfInBounds_ne (by omega), Array.getElem?_setIfInBounds_ne (by omega), Array.getElem?_setIfInBounds_ne (by omega), Array.getElem?_setIfInBounds_ne (by omega), Array.getElem?_setIfInBounds_ne (by omega)]; exact q3
    · rw [Array.getElem?_setIfInBounds_ne (by omega), Array.getElem?_setIfInBounds_ne (by omega), Array.getElem?_setIfInBounds_ne (by omega), Array.getElem?_setIfInBounds_ne (by omega), Array.getElem?_setIfInBounds_ne (by omega), Array.getElem?_setIfInBounds_ne (by omega), Array.getElem?_setIfInBounds_ne (by omega)]; exact q4
    · rw [Array.getElem?_setIfInBounds_ne (by omega), Array.getElem?_setIfInBounds_ne (by omega), Array.getElem?_setIfInBounds_ne (by omega), Array.getElem?_setIfInBounds_ne (by omega), Array.getElem?_setIfInBounds_ne (by omega), Array.getElem?_setIfInBounds_ne (by omega), Array.getElem?_setIfInBounds_ne (by omega)]; exact q5
    · rw [Array.getElem?_setIfInBounds_ne (by omega), Array.getElem?_setIfInBounds_ne (by omega), Array.getElem?_setIfInBounds_ne (by omega), Array.getElem?_setIfInBounds_ne (by omega), Array.getElem?_setIfInBounds_ne (by omega), Array.getElem?_setIfInBounds_ne (by omega), Array.getElem?_setIfInBounds_ne (by omega)]; exact q6
  · have hil : i = l.length := by
      have := (List.getElem?_eq_some_iff.1 hu).1
      simp at this; omega
    subst hil
    simp at hu
    subst hu
    refine ⟨?_, ?_, ?_, ?_, ?_, ?_, ?_⟩ <;> simp [Array.getElem?_setIfInBounds, h2] <;> omega

theorem Tryz.infoAtom : (Tryz.prog.info? 26).map (fun i => (i.zero, i.size, i.bytes)) = some (some (.agg #[.int .i64 0, .int .i64 0, .string ⟨#[]⟩, .string ⟨#[]⟩, .slice none 0 0]), 5, 72) := by kernel_rfl
def MA (n : Nat) : Array Value := madeCells #[.int .i64 0, .int .i64 0, .string ⟨#[]⟩, .string ⟨#[]⟩, .slice none 0 0] (n * 5)
theorem mk_atoms (n : Nat) (hn : n ≤ 1900000000000) (w : World) : (Instr.makeSlice 27 (.int .i64 (n : Int)) (.int .i64 (n : Int))).run Tryz.prog w = .ok (.slice (some ⟨w.heap.size, 0, none⟩) n n) (w.alloc (.cells (MA n) 26)) := by
  obtain ⟨i, hi, h0, h1, h2⟩ := info_parts Tryz.infoAtom
  have h := run_make (P := Tryz.prog) w 27 26 i _ Tryz.underlying27 hi h0 .i64 .i64 n n (by omega) (Int.le_refl _) (by rw [h2]; omega) (by omega)
  rw [h1, Int.toNat_natCast] at h
  exact h
theorem Tryz.infoTest : (Tryz.prog.info? 46).map (fun i => (i.zero, i.size, i.bytes)) = some (some (.agg #[.int .i64 0, .int .i64 0, .int .i64 0, .string ⟨#[]⟩, .int .i64 0, .int .i64 0, .string ⟨#[]⟩]), 7, 72) := by kernel_rfl
def ME (n : Nat) : Array Value := madeCells #[.int .i64 0, .int .i64 0, .int .i64 0, .string ⟨#[]⟩, .int .i64 0, .int .i64 0, .string ⟨#[]⟩] (n * 7)
theorem mk_tests (n : Nat) (hn : n ≤ 1900000000000) (w : World) : (Instr.makeSlice 28 (.int .i64 (n : Int)) (.int .i64 (n : Int))).run Tryz.prog w = .ok (.slice (some ⟨w.heap.size, 0, none⟩) n n) (w.alloc (.cells (ME n) 46)) := by
  obtain ⟨i, hi, h0, h1, h2⟩ := info_parts Tryz.infoTest
  have h := run_make (P := Tryz.prog) w 28 46 i _ Tryz.underlying28 hi h0 .i64 .i64 n n (by omega) (Int.le_refl _) (by rw [h2]; omega) (by omega)
  rw [h1, Int.toNat_natCast] at h
  exact h
theorem ABlk.start {w : World} {g n : Nat} (h : w.heap[g]? = some (.cells (MA n) 26 (0, 0))) : ABlk w g n [] := ⟨_, h, by rw [MA, size_madeCells], fun i x hx => by simp at hx⟩
theorem EBlk.start {w : World} {g n : Nat} (h : w.heap[g]? = some (.cells (ME n) 46 (0, 0))) : EBlk w g n [] := ⟨_, h, by rw [ME, size_madeCells], fun i x hx => by simp at hx⟩
/-- A list of terms that doesn't lie in block g. -/
def TsN (w : World) (g : Nat) (v : Value) (l : List Tm) : Prop := Ts w v l ∧ v.ownBlock ≠ some g
theorem TsN.later {w w' : World} {g : Nat} {v : Value} {l : List Tm} (h : TsN w g v l) (hb : Below w.heap.size w w') : TsN w' g v l := ⟨h.1.later hb, h.2⟩
theorem Ts.off {w : World} {g i : Nat} {u v : Value} {l : List Tm} (h : Ts w v l) (hne : v.ownBlock ≠ some g) : Ts (w.setCell ⟨g, i, none⟩ u) v l := by
  obtain ⟨a, cap, rfl, hl, hm⟩ := h
  refine ⟨a, cap, rfl, hl, ?_⟩
  rcases hm with hm | ⟨b, o, rfl, hb, hm⟩
  · exact Or.inl hm
  · have hbg : b ≠ g := fun e => hne (by rw [e]; rfl)
    have hc : ∀ j, (w.setCell ⟨g, i, none⟩ u).cell? ⟨b, j, none⟩ = w.cell? ⟨b, j, none⟩ := fun j => World.cell?_of_block (w := w) (a := ⟨b, j, none⟩) (heap_setCell_other _ _ _ _ hbg)
    refine Or.inr ⟨b, o, rfl, by simpa [World.setCell] using hb, fun q t ht => ?_⟩
    simp only [hc]
    exact hm q t ht
theorem TsN.off {w : World} {g i : Nat} {u v : Value} {l : List Tm} (h : TsN w g v l) : TsN (w.setCell ⟨g, i, none⟩ u) g v l := ⟨h.1.off h.2, h.2⟩
end Go.Proofs.YtgbiicmkhlnniaaGreatDoor
