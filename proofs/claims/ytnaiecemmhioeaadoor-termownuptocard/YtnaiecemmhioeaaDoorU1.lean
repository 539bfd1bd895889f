/-
  The classes of Unify in memory; find.
-/
import Derived.Test.YtnaiecemmhioeaaDoorV2
import Derived.Test.YtnaiecemmhioeaaDoorL1
import Derived.Test.YtnaiecemmhioeaaDoorTO1
import Derived.Deep.AppendLies
import Derived.Deep.CutRange
namespace Go.Proofs.YtnaiecemmhioeaaDoor
open Go.RowKit
attribute [local go_sem ↓] Go.wp_at_zero Go.wp_at_succ

/-- Block C holds the terms T and the numbers U, in lists of the call's own. -/
structure CL (w : World) (B C : Nat) (vt vu : Value) (T : List Tm) (U : List Int) : Prop where
  lt : C < B
  blk : Blk w C #[vt, vu] 64
  ts : OwnT w B vt T
  us : OwnI w B vu U
  dis : ∀ k, vt.ownBlock = some k → vu.ownBlock ≠ some k
/-- Block k is none of theirs. -/
def Apart (C : Nat) (vt vu : Value) (k : Nat) : Prop := k ≠ C ∧ vt.ownBlock ≠ some k ∧ vu.ownBlock ≠ some k
/-- What a call of the classes does to memory. -/
structure Stp (w w' : World) (C : Nat) (vt vu vt' vu' : Value) : Prop where
  os : w'.os = w.os
  tape : w'.tape = w.tape
  output : w'.output = w.output
  size : w.heap.size ≤ w'.heap.size
  kept : ∀ k, k < w.heap.size → Apart C vt vu k → w'.heap[k]? = w.heap[k]?
  apart : ∀ k, k < w.heap.size → Apart C vt vu k → Apart C vt' vu' k
theorem Stp.below {w w' : World} (C : Nat) (vt vu : Value) (h : Below w.heap.size w w') : Stp w w' C vt vu vt vu :=
  ⟨h.os, h.tape, h.output, h.size, fun k hk _ => h.block k hk, fun _ _ h => h⟩
theorem Stp.refl (w : World) (C : Nat) (vt vu : Value) : Stp w w C vt vu vt vu := Stp.below C vt vu (Below.refl _ _)
theorem Stp.trans {a b c : World} {C : Nat} {v1 u1 v2 u2 v3 u3 : Value} (h : Stp a b C v1 u1 v2 u2) (k : Stp b c C v2 u2 v3 u3) : Stp a c C v1 u1 v3 u3 :=
  ⟨k.os.trans h.os, k.tape.trans h.tape, k.output.trans h.output, Nat.le_trans h.size k.size,
   fun i hi ha => (k.kept i (Nat.lt_of_lt_of_le hi h.size) (h.apart i hi ha)).trans (h.kept i hi ha),
   fun i hi ha => k.apart i (Nat.lt_of_lt_of_le hi h.size) (h.apart i hi ha)⟩
theorem Stp.blk {w w' : World} {C : Nat} {vt vu vt' vu' : Value} {k : Nat} {c : Array Value} {t : TypeId} (h : Stp w w' C vt vu vt' vu') (hb : Blk w k c t) (ha : Apart C vt vu k) : Blk w' k c t := (h.kept k hb.lt ha).trans hb
theorem CL.fresh {w : World} {B C : Nat} {vt vu : Value} {T : List Tm} {U : List Int} (h : CL w B C vt vu T U) {k : Nat} (hk : w.heap.size ≤ k) : Apart C vt vu k :=
  ⟨fun e => by have := h.blk.lt; omega, fun e => by have := (h.ts.lt k e).2; omega, fun e => by have := (h.us.lt k e).2; omega⟩
theorem CL.old {w : World} {B C : Nat} {vt vu : Value} {T : List Tm} {U : List Int} (h : CL w B C vt vu T U) {k : Nat} (hk : k < C) : Apart C vt vu k :=
  ⟨by omega, fun e => by have := (h.ts.lt k e).1; have := h.lt; omega, fun e => by have := (h.us.lt k e).1; have := h.lt; omega⟩
theorem CL.later {w w' : World} {B C : Nat} {vt vu : Value} {T : List Tm} {U : List Int} (h : CL w B C vt vu T U) (hb : Below w.heap.size w w') : CL w' B C vt vu T U :=
  ⟨h.lt, h.blk.later hb, h.ts.later hb, h.us.later hb, h.dis⟩
theorem CL.drew {w : World} {B C : Nat} {vt vu : Value} {T : List Tm} {U : List Int} (h : CL w B C vt vu T U) : CL w.drew B C vt vu T U := h.later (Below.refl _ _).drew
theorem OwnI.set {w : World} {base G i : Nat} {a : Value} {v : Value} {l : List Int} (h : OwnI w base v l) (hG : G < base) : OwnI (w.setCell ⟨G, i, none⟩ a) base v l := by
  refine ⟨h.1, ?_⟩
  rcases h.2 with hn | ⟨g, cap, cur, hv, hbb, hg, rest⟩
  · exact Or.inl hn
  · exact Or.inr ⟨g, cap, cur, hv, hbb, by rw [heap_setCell_other _ _ _ _ (show g ≠ G by omega)]; exact hg, rest⟩
theorem ownT_len {w : World} {base : Nat} {v : Value} {l : List Tm} (h : OwnT w base v l) : ∃ a cap, v = .slice a l.length cap := by
  rcases h.2 with ⟨rfl, hn⟩ | ⟨g, cap, cur, hv, -⟩
  · exact ⟨none, 0, by rw [hn]⟩
  · exact ⟨_, cap, hv⟩
theorem CL.pushT {V Vb : World} {o : Obj} {B C gg cap : Nat} {vt vu : Value} {T T' : List Tm} {U : List Int} {n : Nat} (h : CL V B C vt vu T U) (hg : (V.alloc o).grownBy Vb vt.ownBlock)
    (hown : OwnT Vb B (.slice (some ⟨gg, 0, none⟩) n cap) T') (hat : vt.ownBlock = some gg ∨ gg = (V.alloc o).heap.size) :
    CL (Vb.setCell ⟨C, 0, none⟩ (.slice (some ⟨gg, 0, none⟩) n cap)) B C (.slice (some ⟨gg, 0, none⟩) n cap) vu T' U ∧ Stp V (Vb.setCell ⟨C, 0, none⟩ (.slice (some ⟨gg, 0, none⟩) n cap)) C vt vu (.slice (some ⟨gg, 0, none⟩) n cap) vu := by
  have hsz : V.heap.size < (V.alloc o).heap.size := by simp
  have hk : ∀ k, k < V.heap.size → vt.ownBlock ≠ some k → Vb.heap[k]? = V.heap[k]? := fun k hk hne => (hg.block k (by omega) (fun e => hne e.symm)).trans (Below.heap_alloc _ _ _ hk)
  have hC : Vb.heap[C]? = some (.cells #[vt, vu] 64 (0, 0)) := (hk C h.blk.lt (fun e => by have := (h.ts.lt C e).1; have := h.lt; omega)).trans h.blk
  have hB : V.heap.size ≤ Vb.heap.size := Nat.le_trans (Nat.le_of_lt hsz) hg.size
  refine ⟨⟨h.lt, heap_setCell_same _ _ 0 _ _ _ hC, OwnT.set hown h.lt, OwnI.set ?_ h.lt, fun k e => ?_⟩, ⟨?_, ?_, ?_, ?_, fun k hkk ha => ?_, fun k hkk ha => ?_⟩⟩
  · refine World.ownsRow.kept (w := V.alloc o) (h.us.later (below1 _ _)) hg ?_
    cases hv : vu.ownBlock with
    | none => exact Or.inl rfl
    | some q => exact Or.inr fun e => h.dis q e.symm hv
  · obtain rfl : gg = k := Option.some.inj e
    rcases hat with hat | hat
    · exact h.dis _ hat
    · intro e2; have := (h.us.lt _ e2).2; omega
  · exact hg.os
  · exact hg.tape
  · exact hg.output
  · simpa [World.setCell] using hB
  · rw [heap_setCell_other _ _ _ _ (show k ≠ C from ha.1)]; exact hk k hkk ha.2.1
  · refine ⟨ha.1, fun e => ?_, ha.2.2⟩
    obtain rfl : gg = k := Option.some.inj e
    rcases hat with hat | hat
    · exact ha.2.1 hat
    · omega
theorem CL.pushU {V Vb : World} {o : Obj} {B C gg cap : Nat} {vt vu : Value} {T : List Tm} {U U' : List Int} {n : Nat} (h : CL V B C vt vu T U) (hg : (V.alloc o).grownBy Vb vu.ownBlock)
    (hown : OwnI Vb B (.slice (some ⟨gg, 0, none⟩) n cap) U') (hat : vu.ownBlock = some gg ∨ gg = (V.alloc o).heap.size) :
    CL (Vb.setCell ⟨C, 1, none⟩ (.slice (some ⟨gg, 0, none⟩) n cap)) B C vt (.slice (some ⟨gg, 0, none⟩) n cap) T U' ∧ Stp V (Vb.setCell ⟨C, 1, none⟩ (.slice (some ⟨gg, 0, none⟩) n cap)) C vt vu vt (.slice (some ⟨gg, 0, none⟩) n cap) := by
  have hsz : V.heap.size < (V.alloc o).heap.size := by simp
  have hk : ∀ k, k < V.heap.size → vu.ownBlock ≠ some k → Vb.heap[k]? = V.heap[k]? := fun k hk hne => (hg.block k (by omega) (fun e => hne e.symm)).trans (Below.heap_alloc _ _ _ hk)
  have hC : Vb.heap[C]? = some (.cells #[vt, vu] 64 (0, 0)) := (hk C h.blk.lt (fun e => by have := (h.us.lt C e).1; have := h.lt; omega)).trans h.blk
  have hB : V.heap.size ≤ Vb.heap.size := Nat.le_trans (Nat.le_of_lt hsz) hg.size
  refine ⟨⟨h.lt, heap_setCell_same _ _ 1 _ _ _ hC, OwnT.set ?_ h.lt, OwnI.set hown h.lt, fun k e => ?_⟩, ⟨?_, ?_, ?_, ?_, fun k hkk ha => ?_, fun k hkk ha => ?_⟩⟩
  · refine World.ownsRow.kept (w := V.alloc o) (h.ts.later (below1 _ _)) hg ?_
    cases hv : vt.ownBlock with
    | none => exact Or.inl rfl
    | some q => exact Or.inr fun e => h.dis q hv e.symm
  · intro e2
    obtain rfl : gg = k := Option.some.inj e2
    rcases hat with hat | hat
    · exact h.dis _ e hat
    · have := (h.ts.lt _ e).2; omega
  · exact hg.os
  · exact hg.tape
  · exact hg.output
  · simpa [World.setCell] using hB
  · rw [heap_setCell_other _ _ _ _ (show k ≠ C from ha.1)]; exact hk k hkk ha.2.2
  · refine ⟨ha.1, ha.2.1, fun e => ?_⟩
    obtain rfl : gg = k := Option.some.inj e
    rcases hat with hat | hat
    · exact ha.2.2 hat
    · omega
theorem CL.midT {V Vb : World} {o : Obj} {B C : Nat} {vt vu : Value} {T : List Tm} {U : List Int} (h : CL V B C vt vu T U) (hg : (V.alloc o).grownBy Vb vt.ownBlock) : Blk Vb C #[vt, vu] 64 := by
  have hsz : V.heap.size < (V.alloc o).heap.size := by simp
  have hlt := h.blk.lt
  exact ((hg.block C (by omega) (fun e => by have := (h.ts.lt C e.symm).1; have := h.lt; omega)).trans (Below.heap_alloc _ _ _ hlt)).trans h.blk
theorem CL.midU {V Vb : World} {o : Obj} {B C : Nat} {vt vu : Value} {T : List Tm} {U : List Int} (h : CL V B C vt vu T U) (hg : (V.alloc o).grownBy Vb vu.ownBlock) : Blk Vb C #[vt, vu] 64 := by
  have hsz : V.heap.size < (V.alloc o).heap.size := by simp
  have hlt := h.blk.lt
  exact ((hg.block C (by omega) (fun e => by have := (h.us.lt C e.symm).1; have := h.lt; omega)).trans (Below.heap_alloc _ _ _ hlt)).trans h.blk
theorem two {w : World} {g : Nat} {a b : Value} {t : TypeId} (h : w.heap[g]? = some (.cells #[a, b] t (0, 0))) :
    w.cell? ⟨g, 0, none⟩ = some a ∧ w.cell? ⟨g, 1, none⟩ = some b ∧ w.frozen? ⟨g, 0, none⟩ = false ∧ w.frozen? ⟨g, 1, none⟩ = false :=
  ⟨cell_of_row _ _ _ _ _ _ h, cell_of_row _ _ _ _ _ _ h, frozen_of_row _ _ _ _ _ h, frozen_of_row _ _ _ _ _ h⟩
end Go.Proofs.YtnaiecemmhioeaaDoor
