import Derived.Test.YtnikmcmkbjjcdaaGreatDoorA1
import Derived.Test.YtnikmcmkbjjcdaaGreatDoorCL5
import Derived.Test.YtnikmcmkbjjcdaaGreatDoorCL12
import Derived.Deep.RegionHeld3
import Derived.Test.YtnikmcmkbjjcdaaGreatDoorW2
import Derived.Test.YtnikmcmkbjjcdaaGreatDoorD1
import Derived.Test.YtnikmcmkbjjcdaaGreatDoorB2
import Derived.Laws.AppendOwnNone
import Derived.Laws.AppendOwn
import Derived.Deep.CutRange
/-
  Blocks that a loop fills with atoms, with tests. (Written by CL17.py.)
-/
namespace Go.Proofs.YtnikmcmkbjjcdaaGreatDoor
open Go.RowKit

/-- Block g has room for n of them, and holds these. -/
def ABlk (w : World) (g n : Nat) (l : List (At × Value)) : Prop := ∃ C : Array Value, w.heap[g]? = some (.cells C 33 (0, 0)) ∧ C.size = n * 5 ∧
  ∀ i x, l[i]? = some x → C[i * 5]? = some (.int .i64 x.1.by_.k) ∧ C[i * 5 + 1]? = some (.int .i64 x.1.by_.n) ∧ C[i * 5 + 2]? = some (.string x.1.by_.s) ∧ C[i * 5 + 3]? = some (.string x.1.name) ∧ C[i * 5 + 4]? = some (x.2)
theorem ABlk.lt {w : World} {g n : Nat} {l : List (At × Value)} (h : ABlk w g n l) : g < w.heap.size := by obtain ⟨C, h1, -⟩ := h; exact (Array.getElem?_eq_some_iff.1 h1).1
theorem ABlk.later {w w' : World} {g n : Nat} {l : List (At × Value)} (h : ABlk w g n l) (hb : Below w.heap.size w w') : ABlk w' g n l := by
  obtain ⟨C, h1, h2⟩ := h
  exact ⟨C, (hb.block _ (Array.getElem?_eq_some_iff.1 h1).1).trans h1, h2⟩
theorem ABlk.other {w : World} {g n G i : Nat} {a : Value} {l : List (At × Value)} (h : ABlk w g n l) (hk : g ≠ G) : ABlk (w.setCell ⟨G, i, none⟩ a) g n l := by
  obtain ⟨C, h1, h2⟩ := h
  exact ⟨C, by rw [heap_setCell_other _ _ _ _ hk]; exact h1, h2⟩
theorem ABlk.cells {w : World} {g n j : Nat} {l : List (At × Value)} (h : ABlk w g n l) (hj : j < n * 5) : (∃ c, w.cell? ⟨g, j, none⟩ = some c) ∧ w.frozen? ⟨g, j, none⟩ = false := by
  obtain ⟨C, h1, h2, -⟩ := h
  refine ⟨⟨C[j], ?_⟩, frozen_of_row _ _ _ _ _ h1⟩
  rw [cell_of_row _ _ _ _ _ _ h1]; simp
abbrev Aput (w : World) (g k : Nat) (x : At × Value) : World := (((((w.setCell ⟨g, k * 5, none⟩ (.int .i64 x.1.by_.k)).setCell ⟨g, k * 5 + 1, none⟩ (.int .i64 x.1.by_.n)).setCell ⟨g, k * 5 + 2, none⟩ (.string x.1.by_.s)).setCell ⟨g, k * 5 + 3, none⟩ (.string x.1.name)).setCell ⟨g, k * 5 + 4, none⟩ (x.2))
theorem ABlk.put {w : World} {g n : Nat} {l : List (At × Value)} (h : ABlk w g n l) (hk : l.length < n) (x : At × Value) : ABlk (Aput w g l.length x) g n (l ++ [x]) := by
  obtain ⟨C, h1, h2, h3⟩ := h
  have e0 := heap_setCell_same _ _ (l.length * 5) _ _ (.int .i64 x.1.by_.k) h1
  have e1 := heap_setCell_same _ _ (l.length * 5 + 1) _ _ (.int .i64 x.1.by_.n) e0
  have e2 := heap_setCell_same _ _ (l.length * 5 + 2) _ _ (.string x.1.by_.s) e1
  have e3 := heap_setCell_same _ _ (l.length * 5 + 3) _ _ (.string x.1.name) e2
  have e4 := heap_setCell_same _ _ (l.length * 5 + 4) _ _ (x.2) e3
  refine ⟨_, e4, by simp [h2], fun i u hu => ?_⟩
  by_cases hik : i < l.length
  · rw [List.getElem?_append_left hik] at hu
    obtain ⟨q0, q1, q2, q3, q4⟩ := h3 i u hu
    refine ⟨?_, ?_, ?_, ?_, ?_⟩
    · rw [Array.getElem?_setIfInBounds_ne (by omega), Array.getElem?_setIfInBounds_ne (by omega), Array.getElem?_setIfInBounds_ne (by omega), Array.getElem?_setIfInBounds_ne (by omega), Array.getElem?_setIfInBounds_ne (by omega)]; exact q0
    · rw [Array.getElem?_setIfInBounds_ne (by omega), Array.getElem?_setIfInBounds_ne (by omega), Array.getElem?_setIfInBounds_ne (by omega), Array.getElem?_setIfInBounds_ne (by omega), Array.getElem?_setIfInBounds_ne (by omega)]; exact q1
    · rw [Array.getElem?_setIfInBounds_ne (by omega), Array.getElem?_setIfInBounds_ne (by omega), Array.getElem?_setIfInBounds_ne (by omega), Array.getElem?_setIfInBounds_ne (by omega), Array.getElem?_setIfInBounds_ne (by omega)]; exact q2
    · rw [Array.getElem?_setIfInBounds_ne (by omega), Array.getElem?_setIfInBounds_ne (by omega), Array.getElem?_setIfInBounds_ne (by omega), Array.getElem?_setIfInBounds_ne (by omega), Array.getElem?_setIfInBounds_ne (by omega)]; exact q3
    · rw [Array.getElem?_setIfInBounds_ne (by omega), Array.getElem?_setIfInBounds_ne (by omega), Array.getElem?_setIfInBounds_ne (by omega), Array.getElem?_setIfInBounds_ne (by omega), Array.getElem?_setIfInBounds_ne (by omega)]; exact q4
  · have hil : i = l.length := by
      have := (List.getElem?_eq_some_iff.1 hu).1
      simp at this; omega
    subst hil
    simp at hu
    subst hu
    refine ⟨?_, ?_, ?_, ?_, ?_⟩ <;> simp [Array.getElem?_setIfInBounds, h2] <;> omega

/-- Block g has room for n of them, and holds these. -/
def EBlk (w : World) (g n : Nat) (l : List (Te)) : Prop := ∃ C : Array Value, w.heap[g]? = some (.cells C 81 (0, 0)) ∧ C.size = n * 7 ∧
  ∀ i x, l[i]? = some x → C[i * 7]? = some (.int .i64 x.op) ∧ C[i * 7 + 1]? = some (.int .i64 x.l.k) ∧ C[i * 7 + 2]? = some (.int .i64 x.l.n) ∧ C[i * 7 + 3]? = some (.string x.l.s) ∧ C[i * 7 + 4]? = some (.int .i64 x.r.k) ∧ C[i * 7 + 5]? = some (.int .i64 x.r.n) ∧ C[i * 7 + 6]? = some (.string x.r.s)
theorem EBlk.lt {w : World} {g n : Nat} {l : List (Te)} (h : EBlk w g n l) : g < w.heap.size := by obtain ⟨C, h1, -⟩ := h; exact (Array.getElem?_eq_some_iff.1 h1).1
theorem EBlk.later {w w' : World} {g n : Nat} {l : List (Te)} (h : EBlk w g n l) (hb : Below w.heap.size w w') : EBlk w' g n l := by
  obtain ⟨C, h1, h2⟩ := h
  exact ⟨C, (hb.block _ (Array.getElem?_eq_some_iff.1 h1).1).trans h1, h2⟩
theorem EBlk.other {w : World} {g n G i : Nat} {a : Value} {l : List (Te)} (h : EBlk w g n l) (hk : g ≠ G) : EBlk (w.setCell ⟨G, i, none⟩ a) g n l := by
  obtain ⟨C, h1, h2⟩ := h
  exact ⟨C, by rw [heap_setCell_other _ _ _ _ hk]; exact h1, h2⟩
theorem EBlk.cells {w : World} {g n j : Nat} {l : List (Te)} (h : EBlk w g n l) (hj : j < n * 7) : (∃ c, w.cell? ⟨g, j, none⟩ = some c) ∧ w.frozen? ⟨g, j, none⟩ = false := by
  obtain ⟨C, h1, h2, -⟩ := h
  refine ⟨⟨C[j], ?_⟩, frozen_of_row _ _ _ _ _ h1⟩
  rw [cell_of_row _ _ _ _ _ _ h1]; simp
abbrev Eput (w : World) (g k : Nat) (x : Te) : World := (((((((w.setCell ⟨g, k * 7, none⟩ (.int .i64 x.op)).setCell ⟨g, k * 7 + 1, none⟩ (.int .i64 x.l.k)).setCell ⟨g, k * 7 + 2, none⟩ (.int .i64 x.l.n)).setCell ⟨g, k * 7 + 3, none⟩ (.string x.l.s)).setCell ⟨g, k * 7 + 4, none⟩ (.int .i64 x.r.k)).setCell ⟨g, k * 7 + 5, none⟩ (.int .i64 x.r.n)).setCell ⟨g, k * 7 + 6, none⟩ (.string x.r.s))
theorem EBlk.put {w : World} {g n : Nat} {l : List (Te)} (h : EBlk w g n l) (hk : l.length < n) (x : Te) : EBlk (Eput w g l.length x) g n (l ++ [x]) := by
  obtain ⟨C, h1, h2, h3⟩ := h
  have e0 := heap_setCell_same _ _ (l.length * 7) _ _ (.int .i64 x.op) h1
  have e1 := heap_setCell_same _ _ (l.length * 7 + 1) _ _ (.int .i64 x.l.k) e0
  have e2 := heap_setCell_same _ _ (l.length * 7 + 2) _ _ (.int .i64 x.l.n) e1
  have e3 := heap_setCell_same _ _ (l.length * 7 + 3) _ _ (.string x.l.s) e2
  have e4 := heap_setCell_same _ _ (l.length * 7 + 4) _ _ (.int .i64 x.r.k) e3
  have e5 := heap_setCell_same _ _ (l.length * 7 + 5) _ _ (.int .i64 x.r.n) e4
  have e6 := heap_setCell_same _ _ (l.length * 7 + 6) _ _ (.string x.r.s) e5
  refine ⟨_, e6, by simp [h2], fun i u hu => ?_⟩
  by_cases hik : i < l.length
  · rw [List.getElem?_append_left hik] at hu
    obtain ⟨q0, q1, q2, q3, q4, q5, q6⟩ := h3 i u hu
    refine ⟨?_, ?_, ?_, ?_, ?_, ?_, ?_⟩
    · rw [Array.getElem?_setIfInBounds_ne (by omega), Array.getElem?_setIfInBounds_ne (by omega), Array.getElem?_setIfInBounds_ne (by omega), Array.getElem?_setIfInBounds_ne (by omega), Array.getElem?_setIfInBounds_ne (by omega), Array.getElem?_setIfInBounds_ne (by omega), Array.getElem?_setIfInBounds_ne (by omega)]; exact q0
    · rw [Array.getElem?_setIfInBounds_ne (by omega), Array.getElem?_setIfInBounds_ne (by omega), Array.getElem?_setIfInBounds_ne (by omega), Array.getElem?_setIfInBounds_ne (by omega), Array.getElem?_setIfInBounds_ne (by omega), Array.getElem?_setIfInBounds_ne (by omega), Array.getElem?_setIfInBounds_ne (by omega)]; exact q1
    · rw [Array.getElem?_setIfInBounds_ne (by omega), Array.getElem?_setIfInBounds_ne (by omega), Array.getElem?_setIfInBounds_ne (by omega), Array.getElem?_setIfInBounds_ne (by omega), Array.getElem?_setIfInBounds_ne (by omega), Array.getElem?_setIfInBounds_ne (by omega), Array.getElem?_setIfInBounds_ne (by omega)]; exact q2
    · rw [Array.getElem?_setIfInBounds_ne (by omega), Array.getElem?_setIfInBounds_ne (by omega), Array.getElem?_setIfInBounds_ne (by omega), Array.getElem?_setIfInBounds_ne (by omega), Array.getElem?_setIfInBounds_ne (by omega), Array.getElem?_setIfInBounds_ne (by omega), Array.getElem?_setIfInBounds_ne (by omega)]; exact q3
    · rw [Array.getElem?_setIfInBounds_ne (by omega), Array.getElem?_setIfInBounds_ne (by omega), Array.getElem?_setIfInBounds_ne (by omega), Array.getElem?_setIfInBounds_ne (by omega), Array.getElem?_setIfInBounds_ne (by omega), Array.getElem?_setIfInBounds_ne (by omega), Array.getElem?_setIfInBounds_ne (by omega)]; exact q4
    · rw [Array.getElem?_setIfInBounds_ne (by omega), Array.getElem?_setIfInBounds_ne (by omega), Array.getElem?_setIfInBounds_ne (by omega), Array.getElem?_setIfInBounds_ne (by omega), Array.getElem?_setIfInBounds_ne (by omega), Array.getElem?_setIfInBounds_ne (by omega), Array.getElem?_setIfInBounds_ne (by omega)]; exact q5
    · rw [Array.getElem?_setIfInBounds_ne (by omega), Array.getElem?_setIfInBounds_ne (by omega), Array.getElem?_setIfInBounds_ne (by omega), Array.getElem?_setIfInBounds_ne (by omega), Array.getElem?_setIfInBounds_ne (by omega), Array.getElem?_setIfInBounds_ne (by omega), Array.getElem?_setIfInBounds_ne (by omega)]; exact q6
  · have hil : i = l.length := by
      have := (List.getElem?_eq_some_iff.1 hu).1
      simp at this; omega
    subst hil
    simp at hu
    subst hu
    refine ⟨?_, ?_, ?_, ?_, ?_, ?_, ?_⟩ <;> simp [Array.getElem?_setIfInBounds, h2] <;> omega

theorem ABlk.as {w : World} {g n : Nat} {l : List (At × Value)} (h : ABlk w g n l) (hn : l.length = n) (hl : n < 1000000000000000000) (ht : ∀ x ∈ l, Ts w x.2 x.1.args) : As w (.slice (some ⟨g, 0, none⟩) n n) l := by
  obtain ⟨C, h1, h2, h3⟩ := h
  refine ⟨some ⟨g, 0, none⟩, n, by rw [hn], by omega, Or.inr ⟨g, 0, rfl, (Array.getElem?_eq_some_iff.1 h1).1, fun i x hx => ?_⟩, ht⟩
  rw [cell_of_row _ _ _ _ _ _ h1, cell_of_row _ _ _ _ _ _ h1, cell_of_row _ _ _ _ _ _ h1, cell_of_row _ _ _ _ _ _ h1, cell_of_row _ _ _ _ _ _ h1]
  simp only [Nat.zero_add]
  exact h3 i x hx
theorem EBlk.es {w : World} {g n : Nat} {l : List Te} (h : EBlk w g n l) (hn : l.length = n) (hl : n < 1000000000000000000) : Es w (.slice (some ⟨g, 0, none⟩) n n) l := by
  obtain ⟨C, h1, h2, h3⟩ := h
  refine ⟨some ⟨g, 0, none⟩, n, by rw [hn], by omega, Or.inr ⟨g, 0, rfl, (Array.getElem?_eq_some_iff.1 h1).1, fun i x hx => ?_⟩⟩
  rw [cell_of_row _ _ _ _ _ _ h1, cell_of_row _ _ _ _ _ _ h1, cell_of_row _ _ _ _ _ _ h1, cell_of_row _ _ _ _ _ _ h1, cell_of_row _ _ _ _ _ _ h1, cell_of_row _ _ _ _ _ _ h1, cell_of_row _ _ _ _ _ _ h1]
  simp only [Nat.zero_add]
  exact h3 i x hx
theorem Tryz.infoAtom : (Tryz.prog.info? 33).map (fun i => (i.zero, i.size, i.bytes)) = some (some (.agg #[.int .i64 0, .int .i64 0, .string ⟨#[]⟩, .string ⟨#[]⟩, .slice none 0 0]), 5, 72) := by kernel_rfl
def MA (n : Nat) : Array Value := madeCells #[.int .i64 0, .int .i64 0, .string ⟨#[]⟩, .string ⟨#[]⟩, .slice none 0 0] (n * 5)
theorem mk_atoms (n : Nat) (hn : n ≤ 1900000000000) (w : World) : (Instr.makeSlice 34 (.int .i64 (n : Int)) (.int .i64 (n : Int))).run Tryz.prog w = .ok (.slice (some ⟨w.heap.size, 0, none⟩) n n) (w.alloc (.cells (MA n) 33)) := by
  obtain ⟨i, hi, h0, h1, h2⟩ := info_parts Tryz.infoAtom
  have h := run_make (P := Tryz.prog) w 34 33 i _ Tryz.underlying34 hi h0 .i64 .i64 n n (by omega) (Int.le_refl _) (by rw [h2]; omega) (by omega)
  rw [h1, Int.toNat_natCast] at h
  exact h
theorem Tryz.infoTest : (Tryz.prog.info? 81).map (fun i => (i.zero, i.size, i.bytes)) = some (some (.agg #[.int .i64 0, .int .i64 0, .int .i64 0, .string ⟨#[]⟩, .int .i64 0, .int .i64 0, .string ⟨#[]⟩]), 7, 72) := by kernel_rfl
def ME (n : Nat) : Array Value := madeCells #[.int .i64 0, .int .i64 0, .int .i64 0, .string ⟨#[]⟩, .int .i64 0, .int .i64 0, .string ⟨#[]⟩] (n * 7)
theorem mk_tests (n : Nat) (hn : n ≤ 1900000000000) (w : World) : (Instr.makeSlice 35 (.int .i64 (n : Int)) (.int .i64 (n : Int))).run Tryz.prog w = .ok (.slice (some ⟨w.heap.size, 0, none⟩) n n) (w.alloc (.cells (ME n) 81)) := by
  obtain ⟨i, hi, h0, h1, h2⟩ := info_parts Tryz.infoTest
  have h := run_make (P := Tryz.prog) w 35 81 i _ Tryz.underlying35 hi h0 .i64 .i64 n n (by omega) (Int.le_refl _) (by rw [h2]; omega) (by omega)
  rw [h1, Int.toNat_natCast] at h
  exact h
theorem ABlk.start {w : World} {g n : Nat} (h : w.heap[g]? = some (.cells (MA n) 33 (0, 0))) : ABlk w g n [] := ⟨_, h, by rw [MA, size_madeCells], fun i x hx => by simp at hx⟩
theorem EBlk.start {w : World} {g n : Nat} (h : w.heap[g]? = some (.cells (ME n) 81 (0, 0))) : EBlk w g n [] := ⟨_, h, by rw [ME, size_madeCells], fun i x hx => by simp at hx⟩
/-- A list of terms that doesn't lie in block g. -/
def TsN (w : World) (g : Nat) (v : Value) (l : List Tm) : Prop := Ts w v l ∧ v.ownBlock ≠ some g
theorem TsN.later {w w' : World} {g : Nat} {v : Value} {l : List Tm} (h : TsN w g v l) (hb : Below w.heap.size w w') : TsN w' g v l := ⟨h.1.later hb, h.2⟩
theorem Ts.off {w : World} {g i : Nat} {u v : Value} {l : List Tm} (h : Ts w v l) (hne : v.ownBlock ≠ some g) : Ts (w.setCell ⟨g, i, none⟩ u) v l := by
  obtain ⟨a, cap, rfl, hl, hm⟩ := h
  refine ⟨a, cap, rfl, hl, ?_⟩
  rcases hm with hm | ⟨b, o, rfl, hb, hm⟩
  · exact Or.inl hm
  · have hbg : b ≠ g := fun e => hne (by rw [e]; rfl)
    have hc : ∀ j, (w.setCell ⟨g, i, none⟩ u).cell? ⟨b, j, none⟩ = w.cell? ⟨b, j, none⟩ := fun j => World.cell?_of_block (w := w) (a := ⟨b, j, none⟩) (heap_setCell_other _ _ _ _ hbg)
    refine Or.inr ⟨b, o, rfl, by simpa [World.setCell] using hb, fun q t ht => ?_⟩
    simp only [hc]
    exact hm q t ht
theorem TsN.off {w : World} {g i : Nat} {u v : Value} {l : List Tm} (h : TsN w g v l) : TsN (w.setCell ⟨g, i, none⟩ u) g v l := ⟨h.1.off h.2, h.2⟩
end Go.Proofs.YtnikmcmkbjjcdaaGreatDoor
/-
  replaced, with what copies each term. (Written by CL18.py.)
-/
namespace Go.Proofs.YtnikmcmkbjjcdaaGreatDoor
open Go.RowKit
attribute [local go_sem ↓] Go.wp_at_zero Go.wp_at_succ

def zcs : Array Value := #[.int .i64 0, .int .i64 0, .string ⟨#[]⟩, .string ⟨#[]⟩, .slice none 0 0, .slice none 0 0, .slice none 0 0]
theorem fsts_get {l : List (At × Value)} {j : Nat} {x : At × Value} (h : l[j]? = some x) : (fsts l)[j]? = some x.1 := by unfold fsts; rw [List.getElem?_map, h]; rfl
theorem fsts_app (l m : List (At × Value)) : fsts (l ++ m) = fsts l ++ fsts m := by simp [fsts]
theorem fsts_len (l : List (At × Value)) : (fsts l).length = l.length := by simp [fsts]
end Go.Proofs.YtnikmcmkbjjcdaaGreatDoor
/-
  Quote, of a clause that may be quoted. (Written by CL20.py.)
-/
namespace Go.Proofs.YtnikmcmkbjjcdaaGreatDoor
open Go.RowKit
attribute [local go_sem ↓] Go.wp_at_zero Go.wp_at_succ

theorem CBlk.froz {w : World} {g i : Nat} {c : Array Value} {t : TypeId} (h : CBlk w g c t) : w.frozen? ⟨g, i, none⟩ = false := frozen_of_row _ _ _ _ _ h

end Go.Proofs.YtnikmcmkbjjcdaaGreatDoor
/-
  What Instance makes of a term.
-/
namespace Go.Proofs.YtnikmcmkbjjcdaaGreatDoor
open Go.RowKit
attribute [local go_sem ↓] Go.wp_at_zero Go.wp_at_succ

theorem cone {w : World} {g : Nat} {a : Value} {t : TypeId} (h : CBlk w g #[a] t) : w.cell? ⟨g, 0, none⟩ = some a := cell_of_row _ _ _ _ _ _ h
theorem two3 (w : World) (t : Tm) : CBlk ((w.alloc (.cells #[.int .i64 t.k, .int .i64 t.n, .string t.s] 30)).alloc (.cells #[.int .i64 0, .int .i64 0, .string ⟨#[]⟩] 30)) w.heap.size #[.int .i64 t.k, .int .i64 t.n, .string t.s] 30 ∧
    CBlk ((w.alloc (.cells #[.int .i64 t.k, .int .i64 t.n, .string t.s] 30)).alloc (.cells #[.int .i64 0, .int .i64 0, .string ⟨#[]⟩] 30)) (w.heap.size + 1) #[.int .i64 0, .int .i64 0, .string ⟨#[]⟩] 30 := by
  have x2 := CBlk.new (w.alloc (.cells #[.int .i64 t.k, .int .i64 t.n, .string t.s] 30)) #[.int .i64 0, .int .i64 0, .string ⟨#[]⟩] 30
  rw [show (w.alloc (.cells #[.int .i64 t.k, .int .i64 t.n, .string t.s] 30)).heap.size = w.heap.size + 1 by simp] at x2
  exact ⟨(CBlk.new w _ _).later (below1 _ _), x2⟩
end Go.Proofs.YtnikmcmkbjjcdaaGreatDoor
/-
  replaced, with what Instance makes of a term. (Written by CL29.py.)
-/
namespace Go.Proofs.YtnikmcmkbjjcdaaGreatDoor
open Go.RowKit
attribute [local go_sem ↓] Go.wp_at_zero Go.wp_at_succ

/-- A clause instanced, at and above B. -/
structure RJ (B : Nat) (X : World) (k1 kb kt : Nat) (L1 : List Tm) (F : List At) (E : List Te) (M1 M2 M3 : Nat) (lb : List (At × Value)) : Prop where
  f : fsts lb = F
  a : ABlk X M2 kb lb
  t1 : Ts X (.slice (some ⟨M1, 0, none⟩) k1 k1) L1
  n1 : M1 ≠ M2
  ts : ∀ x ∈ lb, TsN X M2 x.2 x.1.args ∧ ∀ b, x.2.ownBlock = some b → B ≤ b
  e : EBlk X M3 kt E
  b1 : B ≤ M1
  b2 : B ≤ M2
  b3 : M2 < M3
theorem RJ.mono {B B' : Nat} {X : World} {k1 kb kt : Nat} {L1 : List Tm} {F : List At} {E : List Te} {M1 M2 M3 : Nat} {lb : List (At × Value)} (h : RJ B X k1 kb kt L1 F E M1 M2 M3 lb) (hB : B' ≤ B) : RJ B' X k1 kb kt L1 F E M1 M2 M3 lb :=
  ⟨h.f, h.a, h.t1, h.n1, fun x hx => ⟨(h.ts x hx).1, fun b e => Nat.le_trans hB ((h.ts x hx).2 b e)⟩, h.e, Nat.le_trans hB h.b1, Nat.le_trans hB h.b2, h.b3⟩
theorem RJ.off {B g i : Nat} {v : Value} {X : World} {k1 kb kt : Nat} {L1 : List Tm} {F : List At} {E : List Te} {M1 M2 M3 : Nat} {lb : List (At × Value)} (h : RJ B X k1 kb kt L1 F E M1 M2 M3 lb) (hg : g < B) : RJ B (X.setCell ⟨g, i, none⟩ v) k1 kb kt L1 F E M1 M2 M3 lb := by
  have b1 := h.b1
  have b2 := h.b2
  have b3 := h.b3
  exact ⟨h.f, h.a.other (by omega), h.t1.off (fun e => by have : M1 = g := Option.some.inj e; omega), h.n1, fun x hx => ⟨⟨(h.ts x hx).1.1.off (fun e => by have := (h.ts x hx).2 _ e; omega), (h.ts x hx).1.2⟩, (h.ts x hx).2⟩, h.e.other (by omega), b1, b2, b3⟩
end Go.Proofs.YtnikmcmkbjjcdaaGreatDoor
/-
  Numbers of variables; constants for variables. (Plain.)
-/
namespace Go.Proofs.YtnikmcmkbjjcdaaGreatDoor
open Go.RowKit

/-- The numbers below n. -/
def ints (n : Nat) : List Int := (List.range n).map fun i : Nat => (i : Int)
theorem mem_ints {n : Nat} {v : Int} : v ∈ ints n ↔ 0 ≤ v ∧ v < n := by
  simp only [ints, List.mem_map, List.mem_range]
  exact ⟨fun ⟨i, h, e⟩ => by omega, fun ⟨h1, h2⟩ => ⟨v.toNat, by omega, by omega⟩⟩
theorem ints_succ (n : Nat) : ints (n + 1) = ints n ++ [(n : Int)] := by simp [ints, List.range_succ]
theorem ints_len (n : Nat) : (ints n).length = n := by simp [ints]
theorem mis_ints : ∀ (l : List Int) (n : Nat), (∀ v ∈ l, 0 ≤ v) → mis n l = false → ∃ m, n ≤ m ∧ l.foldl dstep (ints n) = ints m ∧ ∀ v ∈ l, v < m
  | [], n, _, _ => ⟨n, Nat.le_refl _, rfl, fun v hv => by cases hv⟩
  | v :: l, n, h0, h => by
    rw [mis] at h
    by_cases h1 : (n : Int) < v
    · rw [if_pos h1] at h; cases h
    · rw [if_neg h1] at h
      have hv := h0 v (by simp)
      rw [List.foldl_cons]
      by_cases h2 : v = n
      · rw [if_pos h2] at h
        have e : dstep (ints n) v = ints (n + 1) := by
          unfold dstep; rw [if_neg (by rw [mem_ints]; omega), ints_succ, h2]
        obtain ⟨m, k1, k2, k3⟩ := mis_ints l (n + 1) (fun u hu => h0 u (by simp [hu])) (by exact_mod_cast h)
        rw [e]
        refine ⟨m, by omega, k2, fun u hu => ?_⟩
        rcases List.mem_cons.1 hu with rfl | hu
        · omega
        · exact k3 u hu
      · rw [if_neg h2] at h
        have e : dstep (ints n) v = ints n := by
          unfold dstep; rw [if_pos (by rw [mem_ints]; omega)]
        obtain ⟨m, k1, k2, k3⟩ := mis_ints l n (fun u hu => h0 u (by simp [hu])) h
        rw [e]
        refine ⟨m, k1, k2, fun u hu => ?_⟩
        rcases List.mem_cons.1 hu with rfl | hu
        · omega
        · exact k3 u hu
theorem var_nn {t : Tm} (h : t.var = true) : 0 ≤ t.n := by simp only [Tm.var, decide_eq_true_eq] at h; exact h.2.1
/-- A valid clause's variables: those below their number. -/
theorem num_vars {x : Ck} (hm : mis 0 (vrs (Ck.terms x)) = false) : ∃ m, dis (vrs (Ck.terms x)) = ints m ∧ ∀ t ∈ Ck.terms x, t.var = true → t.n < m := by
  obtain ⟨m, -, h2, h3⟩ := mis_ints (vrs (Ck.terms x)) 0 (fun v hv => by
    obtain ⟨t, ht, rfl⟩ := List.mem_map.1 hv
    exact var_nn (List.mem_filter.1 ht).2) hm
  exact ⟨m, h2, fun t ht hv => h3 _ (List.mem_map.2 ⟨t, List.mem_filter.2 ⟨ht, hv⟩, rfl⟩)⟩
end Go.Proofs.YtnikmcmkbjjcdaaGreatDoor
/-
  What Made makes of a valid clause is that clause; quotes and what has one quote. (Plain.)
-/
namespace Go.Proofs.YtnikmcmkbjjcdaaGreatDoor
open Go.RowKit

theorem var_eqQ {t : Tm} (h : t.var = true) : t = ⟨3, t.n, ⟨#[]⟩⟩ := by
  simp only [Tm.var, decide_eq_true_eq] at h
  obtain ⟨k, n, s⟩ := t
  simp only at h
  obtain ⟨rfl, -, rfl⟩ := h
  rfl
theorem fold_n : ∀ (l acc : List Tm), (∀ t ∈ l, t.var = true) → (∀ t ∈ acc, t.var = true) → (l.foldl dstepT acc).map (·.n) = (l.map (·.n)).foldl dstep (acc.map (·.n))
  | [], acc, _, _ => rfl
  | t :: l, acc, h1, h2 => by
    rw [List.foldl_cons, List.map_cons, List.foldl_cons]
    have ht := h1 t (by simp)
    have hm : t.n ∈ acc.map (·.n) ↔ t ∈ acc := ⟨fun hm => by
      obtain ⟨u, hu, e⟩ := List.mem_map.1 hm
      rw [var_eqQ ht, ← e, ← var_eqQ (h2 u hu)]; exact hu, fun hm => List.mem_map.2 ⟨t, hm, rfl⟩⟩
    have e : (dstepT acc t).map (·.n) = dstep (acc.map (·.n)) t.n := by
      unfold dstepT dstep
      by_cases hc : t ∈ acc
      · rw [if_pos hc, if_pos (hm.2 hc)]
      · rw [if_neg hc, if_neg (fun x => hc (hm.1 x))]; simp
    rw [← e]
    refine fold_n l _ (fun u hu => h1 u (by simp [hu])) fun u hu => ?_
    rcases dstepT_mem.1 hu with hu | rfl
    · exact h2 u hu
    · exact ht
theorem disT_n (l : List Tm) : (disT l).map (·.n) = dis (vrs l) := by
  unfold disT dis vrs
  exact fold_n _ [] (fun t ht => (List.mem_filter.1 ht).2) (by simp)
theorem ix_nQ {vs : List Tm} {m : Nat} (h : vs.map (·.n) = ints m) {t : Tm} (ht : t ∈ vs) : (ix vs t : Int) = t.n := by
  have hg := ix_get ht
  have h2 := congrArg (fun l => l[ix vs t]?) h
  simp only [List.getElem?_map, hg, Option.map_some] at h2
  have hlt : ix vs t < m := by
    have h3 := ix_lt ht
    have := congrArg List.length h
    rw [List.length_map, ints_len] at this; omega
  simp [ints, hlt] at h2
  exact h2.symm
theorem norm_id {x : Ck} (hm : mis 0 (vrs (Ck.terms x)) = false) : normC x = x := by
  obtain ⟨m, hd, -⟩ := num_vars hm
  have hn := (disT_n (Ck.terms x)).trans hd
  refine (mapC_congr (g := fun t => t) fun t ht => ?_).trans (mapC_id x)
  unfold nmT
  by_cases hm : t ∈ disT (Ck.terms x)
  · rw [if_pos hm, ix_nQ hn hm]
    exact (var_eqQ (disT_mem.1 hm).2).symm
  · rw [if_neg hm]
end Go.Proofs.YtnikmcmkbjjcdaaGreatDoor
/-
  bodyTerms, testTerms, Terms. (Written by MD5.py.)
-/
namespace Go.Proofs.YtnikmcmkbjjcdaaGreatDoor
open Go.RowKit
attribute [local go_sem ↓] Go.wp_at_zero Go.wp_at_succ

theorem tls_len (l : List Te) : (tls l).length = l.length * 2 := by
  induction l with
  | nil => rfl
  | cons a l ih => unfold tls at ih ⊢; rw [List.flatMap_cons, List.length_append, ih]; simp; omega
end Go.Proofs.YtnikmcmkbjjcdaaGreatDoor
/-
  ref's Normal. (Written by MD12.py.)
-/
namespace Go.Proofs.YtnikmcmkbjjcdaaGreatDoor
open Go.RowKit
attribute [local go_sem ↓] Go.wp_at_zero Go.wp_at_succ

/-- A clause's box and the answer's. -/
structure C2 (w X : World) (o : Array Value) : Prop where
  bc : CBlk X w.heap.size o 37
  br : CBlk X (w.heap.size + 1) zcs 37
  bw : Below w.heap.size w X
  sz : w.heap.size + 1 + 1 ≤ X.heap.size
end Go.Proofs.YtnikmcmkbjjcdaaGreatDoor
/-
  Clauses that lie above a block: Instance and Made answer such.
-/
namespace Go.Proofs.YtnikmcmkbjjcdaaGreatDoor
open Go.RowKit

/-- The clause d lies in the blocks of X from B on: wherever these are as in X, it is there. -/
def Kp (B : Nat) (X : World) (d : Cm) : Prop := ∀ X' : World, X.heap.size ≤ X'.heap.size → (∀ b, B ≤ b → b < X.heap.size → X'.heap[b]? = X.heap[b]?) → d.ok X'
theorem Kp.ok {B : Nat} {X : World} {d : Cm} (h : Kp B X d) : d.ok X := h X (Nat.le_refl _) fun _ _ _ => rfl
theorem Kp.mono {B B' : Nat} {X : World} {d : Cm} (h : Kp B X d) (hB : B' ≤ B) : Kp B' X d := fun Y hs ha => h Y hs fun b h1 h2 => ha b (Nat.le_trans hB h1) h2
theorem Kp.off {B G i : Nat} {X : World} {d : Cm} {c : Value} (h : Kp B X d) (hG : G < B) : Kp B (X.setCell ⟨G, i, none⟩ c) d := fun Y hs ha =>
  h Y (by simpa [World.setCell] using hs) fun b h1 h2 => (ha b h1 (by simpa [World.setCell] using h2)).trans (heap_setCell_other _ _ _ _ (show b ≠ G by omega))
theorem Ts.agree {X X' : World} {v : Value} {l : List Tm} (h : Ts X v l) (hs : X.heap.size ≤ X'.heap.size) (hb : ∀ b, v.ownBlock = some b → b < X.heap.size → X'.heap[b]? = X.heap[b]?) : Ts X' v l := by
  obtain ⟨a, cap, rfl, hl, hm⟩ := h
  refine ⟨a, cap, rfl, hl, ?_⟩
  rcases hm with hm | ⟨b, o, rfl, hlt, hm⟩
  · exact Or.inl hm
  · have hc : ∀ j, X'.cell? ⟨b, j, none⟩ = X.cell? ⟨b, j, none⟩ := fun j => World.cell?_of_block (w := X) (a := ⟨b, j, none⟩) (hb b rfl hlt)
    refine Or.inr ⟨b, o, rfl, Nat.lt_of_lt_of_le hlt hs, fun q t ht => ?_⟩
    simp only [hc]
    exact hm q t ht
/-- A clause in its box. -/
structure Bx (X : World) (G : Nat) (d : Cm) : Prop where
  b : CBlk X G d.cs 37
  o : d.ok X
abbrev Cput (X : World) (G : Nat) (a b c d e f g : Value) : World := ((((((X.setCell ⟨G, 0, none⟩ a).setCell ⟨G, 1, none⟩ b).setCell ⟨G, 2, none⟩ c).setCell ⟨G, 3, none⟩ d).setCell ⟨G, 4, none⟩ e).setCell ⟨G, 5, none⟩ f).setCell ⟨G, 6, none⟩ g
theorem Kp.put7 {B G : Nat} {X : World} {d : Cm} (h : Kp B X d) (hG : G < B) (a b c d' e f g : Value) : Kp B (Cput X G a b c d' e f g) d := ((((((h.off hG).off hG).off hG).off hG).off hG).off hG).off hG
end Go.Proofs.YtnikmcmkbjjcdaaGreatDoor
