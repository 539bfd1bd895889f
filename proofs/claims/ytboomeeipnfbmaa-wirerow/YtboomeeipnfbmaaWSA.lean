/-
  wire: law 23: WireNames. (Written by WSA.py.)
-/
import Derived.Test.YtboomeeipnfbmaaWP1
namespace Go.Proofs.Ytboomeeipnfbmaa
open Go.RowKit
attribute [local go_sem ↓] Go.wp_at_zero Go.wp_at_succ

/-- What a call may change, and what the wire has behind it. -/
structure StW (T T' : Nat → Prop) (Y Y' : World) : Prop where
  f : Fr T Y Y'
  s : ∀ x, T' x → T x ∨ Y.heap.size ≤ x
theorem WqW.st {B : Nat} {T : Nat → Prop} {v : Value} {s : WrW} {Y Y' : World} (h : WqW B T v s Y Y') : ∃ T', WzW B T' v s Y' ∧ StW T T' Y Y' := by
  obtain ⟨hf, T', h1, h2⟩ := h
  exact ⟨T', h1, hf, h2⟩
theorem WzW.go {B : Nat} {T T' : Nat → Prop} {v : Value} {s : WrW} {Y0 Y Y' : World} (h : WzW B T v s Y) (hs : StW T T' Y Y') (hb : Below B Y0 Y) (hB : B ≤ Y.heap.size) : Below B Y0 Y' := hb.trans ((hs.f.mono fun x _ hx => (h.t x hx).1).low hB)
end Go.Proofs.Ytboomeeipnfbmaa
