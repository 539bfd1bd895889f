/-
  Blocks of memory.
-/
import Derived.Test.YtbhdalchnbfohaaB7
namespace Go.Proofs.Ytbhdalchnbfohaa
open Go.RowKit

/-- Block g holds these cells. -/
def Blk (W : World) (g : Nat) (c : Array Value) (t : TypeId) : Prop := W.heap[g]? = some (.cells c t (0, 0))
theorem Blk.lt {W : World} {g : Nat} {c : Array Value} {t : TypeId} (h : Blk W g c t) : g < W.heap.size := (Array.getElem?_eq_some_iff.1 h).1
theorem Blk.later {W W' : World} {g : Nat} {c : Array Value} {t : TypeId} (h : Blk W g c t) (hb : Below W.heap.size W W') : Blk W' g c t := (hb.block _ h.lt).trans h
theorem Blk.new (W : World) (c : Array Value) (t : TypeId) : Blk (W.alloc (.cells c t)) W.heap.size c t := heap_alloc_new _ _
end Go.Proofs.Ytbhdalchnbfohaa
