import Derived.Test.YtbhdalchnbfohaaMD8
import Derived.Deep.RegionHeld3
/-
  A clause that is put together; Put, its boxes. (Written by MD10.py.)
-/
namespace Go.Proofs.Ytbhdalchnbfohaa
open Go.RowKit
attribute [local go_sem ↓] Go.wp_at_zero Go.wp_at_succ

/-- The boxes ahead of the head. -/
structure U0 (w X : World) (o : Array Value) : Prop where
  bc : CBlk X w.heap.size o 50
  br : CBlk X (w.heap.size + 1) zcs 50
  bo : CBlk X (w.heap.size + 1 + 1) zcs 50
  bw : Below w.heap.size w X
  sz : w.heap.size + 3 ≤ X.heap.size
end Go.Proofs.Ytbhdalchnbfohaa
/-
  ref's Normal. (Written by MD12.py.)
-/
namespace Go.Proofs.Ytbhdalchnbfohaa
open Go.RowKit
attribute [local go_sem ↓] Go.wp_at_zero Go.wp_at_succ

/-- A clause's box and the answer's. -/
structure C2 (w X : World) (o : Array Value) : Prop where
  bc : CBlk X w.heap.size o 50
  br : CBlk X (w.heap.size + 1) zcs 50
  bw : Below w.heap.size w X
  sz : w.heap.size + 1 + 1 ≤ X.heap.size
end Go.Proofs.Ytbhdalchnbfohaa
/-
  Made. (Written by MD14.py.)
-/
namespace Go.Proofs.Ytbhdalchnbfohaa
open Go.RowKit
attribute [local go_sem ↓] Go.wp_at_zero Go.wp_at_succ

theorem flat_len9 : ∀ (l : List At), (∀ a ∈ l, a.pl.length ≤ 9) → (l.flatMap At.pl).length ≤ l.length * 9
  | [], _ => by simp
  | a :: l, h => by
    rw [List.flatMap_cons, List.length_append, List.length_cons]
    have h1 := h a (by simp)
    have h2 := flat_len9 l fun b hb => h b (by simp [hb])
    omega
end Go.Proofs.Ytbhdalchnbfohaa
