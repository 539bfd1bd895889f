import Derived.WalkMore
import Derived.Laws.AppendOwn
import Derived.Laws.OwnMore
import Derived.Deep.AppendLies
import Derived.Deep.CutRange
import Derived.Deep.DrawnRows
import Derived.Deep.RegionHeld3
import Derived.Laws.IdiomStrings
import Derived.Laws.BytesArg
import Derived.BigQuiet
import Derived.Maps.OwnSet
import Derived.Maps.OwnOps
import Derived.Test.YtdfdnjkeiddfjaaDoorRows
import Derived.WalkKit
import Derived.WalkSpells
import Derived.KernelRfl
import Derived.WalkSmall
/-
  Blocks, frames, lists of numbers that lie in given blocks.
-/
namespace Go.Proofs.YtdfdnjkeiddfjaaDoor
open Go.RowKit

theorem hm7 {p : Prop} (h : p) : Hid p := h
/-- All blocks but those of P stay as they were. -/
structure Fr (P : Nat → Prop) (w w' : World) : Prop where
  os : w'.os = w.os
  tape : w'.tape = w.tape
  output : w'.output = w.output
  size : w.heap.size ≤ w'.heap.size
  block : ∀ k, k < w.heap.size → ¬ P k → w'.heap[k]? = w.heap[k]?
theorem Fr.of {P : Nat → Prop} {w w' : World} (h : Below w.heap.size w w') : Fr P w w' := ⟨h.os, h.tape, h.output, h.size, fun k hk _ => h.block k hk⟩
theorem Fr.refl (P : Nat → Prop) (w : World) : Fr P w w := Fr.of (Below.refl _ _)
theorem Fr.drew {P : Nat → Prop} {w w' : World} (h : Fr P w w') : Fr P w w'.drew := ⟨h.os, h.tape, h.output, h.size, h.block⟩
theorem Fr.trans {P Q : Nat → Prop} {a b c : World} (h : Fr P a b) (k : Fr Q b c) (hq : ∀ x, x < a.heap.size → Q x → P x) : Fr P a c :=
  ⟨k.os.trans h.os, k.tape.trans h.tape, k.output.trans h.output, Nat.le_trans h.size k.size, fun i hi hp => (k.block i (Nat.lt_of_lt_of_le hi h.size) (fun hc => hp (hq i hi hc))).trans (h.block i hi hp)⟩
theorem Fr.tr {P : Nat → Prop} {a b c : World} (h : Fr P a b) (k : Fr P b c) : Fr P a c := h.trans k fun _ _ hc => hc
theorem Fr.then {P : Nat → Prop} {a b c : World} (h : Fr P a b) (k : Below b.heap.size b c) : Fr P a c := h.tr (Fr.of k)
theorem Fr.mono {P Q : Nat → Prop} {w w' : World} (h : Fr P w w') (hq : ∀ x, x < w.heap.size → P x → Q x) : Fr Q w w' := ⟨h.os, h.tape, h.output, h.size, fun k hk hp => h.block k hk fun hc => hp (hq k hk hc)⟩
theorem Fr.grown {P : Nat → Prop} {w w' : World} {g : Option Nat} (h : w.grownBy w' g) (hp : ∀ k, g = some k → P k) : Fr P w w' :=
  ⟨h.os, h.tape, h.output, h.size, fun k hk hn => h.block k hk fun e => hn (hp k e.symm)⟩
theorem Fr.set {P : Nat → Prop} {w w' : World} (h : Fr P w w') {g i : Nat} {v : Value} (hg : P g ∨ w.heap.size ≤ g) : Fr P w (w'.setCell ⟨g, i, none⟩ v) := by
  have hb := Below.setCell (Below.refl g w') (p := ⟨g, i, none⟩) (Nat.le_refl _) v
  refine ⟨hb.os.trans h.os, hb.tape.trans h.tape, hb.output.trans h.output, Nat.le_trans h.size hb.size, fun k hk hn => ?_⟩
  rw [heap_setCell_other _ _ _ _ (show k ≠ g from fun e => by subst e; rcases hg with hg | hg; exact hn hg; omega)]
  exact h.block k hk hn
theorem Fr.cell {P : Nat → Prop} {w w' : World} (h : Fr P w w') {b o : Nat} {v : Value} (hb : b < w.heap.size) (hn : ¬ P b) (hc : w.cell? ⟨b, o, none⟩ = some v) : w'.cell? ⟨b, o, none⟩ = some v := by
  rw [World.cell?_of_block (w := w) (a := ⟨b, o, none⟩) (h.block b hb hn)]; exact hc
def Any (_ : Nat) : Prop := True
theorem row7_at {w : World} {base n m cap i : Nat} {a : Option Addr} {e : TypeId} {xs : List Value} {u : Value} (h : w.ownsRow base e n (.slice a m cap) m xs) (hu : xs[i]? = some u) : ∃ g, a = some ⟨g, 0, none⟩ ∧ base ≤ g ∧ g < w.heap.size ∧ w.cell? ⟨g, i, none⟩ = some u ∧ w.frozen? ⟨g, i, none⟩ = false := by
  rcases h.2 with ⟨hv, hn⟩ | ⟨g, cap', cur, hv, hb, hg, hn, hc, hs, ht⟩
  · have h1 : xs.length = 0 := by rw [h.1, hn, Nat.zero_mul]
    have := (List.getElem?_eq_some_iff.1 hu).1
    omega
  · simp only [Value.slice.injEq] at hv
    obtain ⟨rfl, -, rfl⟩ := hv
    refine ⟨g, rfl, hb, (Array.getElem?_eq_some_iff.1 hg).1, ?_, by simp [World.frozen?, hg]⟩
    rw [cell_of_row _ _ _ _ _ _ hg, ← Array.getElem?_toList]
    have h1 : (cur.toList.take (m * n))[i]? = xs[i]? := by rw [ht]
    rw [List.getElem?_take_of_lt (by have := (List.getElem?_eq_some_iff.1 hu).1; have := h.1; omega)] at h1
    rw [h1, hu]
end Go.Proofs.YtdfdnjkeiddfjaaDoor
/-
  Maps from texts: what they hold, value by value.
-/
namespace Go.Proofs.YtdfdnjkeiddfjaaDoor
open Go.RowKit

def rawE (v : Value) : Option (DataW Value × List MemPlace) := some (.held v, [])
theorem owns_tight {w : World} {b n : Nat} {D : DataW Value} {P : Program} {k : TypeId} (h : w.ownsMap P k rawE b n D) : w.ownsMap P k rawE b (Maps.size D) D := by
  obtain ⟨es, clock, hb, F, hs, hD⟩ := h
  exact ⟨es, clock, hb, F, by rw [hD]; simp [Maps.size, length_sorted], hD⟩
end Go.Proofs.YtdfdnjkeiddfjaaDoor
