/-
  Ranges over functions whose order is known, at the wide fence: iterators made of iterators.
-/
import Derived.RangeFuncNested
import Derived.RangeFuncBound
import Derived.RangeFuncLeaves
namespace Go.Proofs.YtjnipcakjoiplaaDoor
open Go.RowKit

/-- What lies from B on lies as it lay. -/
structure Up (B : Nat) (W W' : World) : Prop where
  size : W.heap.size ≤ W'.heap.size
  same : ∀ k, B ≤ k → k < W.heap.size → W'.heap[k]? = W.heap[k]?
theorem Up.refl (B : Nat) (W : World) : Up B W W := ⟨Nat.le_refl _, fun _ _ _ => rfl⟩
theorem Up.trans {B : Nat} {X Y Z : World} (h : Up B X Y) (k : Up B Y Z) : Up B X Z :=
  ⟨Nat.le_trans h.size k.size, fun i hB hi => (k.same i hB (Nat.lt_of_lt_of_le hi h.size)).trans (h.same i hB hi)⟩
theorem Up.mono {B B' : Nat} {W W' : World} (h : Up B W W') (hB : B ≤ B') : Up B' W W' := ⟨h.size, fun k hk hl => h.same k (Nat.le_trans hB hk) hl⟩
theorem Up.below {B : Nat} {W W' : World} (h : Below W.heap.size W W') : Up B W W' := ⟨h.size, fun k _ hl => h.block k hl⟩
theorem Up.alloc (B : Nat) (W : World) (o : Obj) : Up B W (W.alloc o) := ⟨by simp, fun k _ hl => Below.heap_alloc W o k hl⟩
theorem Up.drew (B : Nat) (W : World) : Up B W W.drew := ⟨Nat.le_refl _, fun _ _ _ => rfl⟩
theorem Up.setCell {B : Nat} {W : World} {a : Addr} (v : Value) (h : a.block < B) : Up B W (W.setCell a v) :=
  ⟨(KeepsOthers.setCell W a v).size, fun k hB _ => Below.heap_setCell W a v k (by omega)⟩
theorem Up.putObj {B : Nat} {W : World} {l : Nat} (o : Obj) (h : l < B) : Up B W (W.putObj l o) :=
  ⟨by simp, fun k hB _ => World.putObj_heap_other (by omega)⟩
theorem Up.grown {B : Nat} {W W' : World} {row : Option Nat} (hg : W.grownBy W' row) (hr : ∀ k, row = some k → k < B) : Up B W W' :=
  ⟨hg.size, fun k hB hl => hg.block k hl (fun e => by have := hr k e.symm; omega)⟩
variable {n : Nat} {P : Program}
end Go.Proofs.YtjnipcakjoiplaaDoor
