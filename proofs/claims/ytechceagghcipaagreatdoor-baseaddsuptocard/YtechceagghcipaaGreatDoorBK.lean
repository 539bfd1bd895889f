import Derived.Test.YtechceagghcipaaGreatDoorB7
namespace Go.Proofs.YtechceagghcipaaGreatDoor
open Go.RowKit

def Blk (W : World) (g : Nat) (c : Array Value) (t : TypeId) : Prop := W.heap[g]? = some (.cells c t (0, 0))
theorem Blk.lt {W : World} {g : Nat} {c : Array Value} {t : TypeId} (h : Blk W g c t) : g < W.heap.size := (Array.getElem?_eq_some_iff.1 h).1
theorem Blk.later {W W' : World} {g : Nat} {c : Array Value} {t : TypeId} (h : Blk W g c t) (hb : Below W.heap.size W W') : Blk W' g c t := (hb.block _ h.lt).trans h
theorem Blk.new (W : World) (c : Array Value) (t : TypeId) : Blk (W.alloc (.cells c t)) W.heap.size c t := heap_alloc_new _ _
theorem Blk.old (W : World) (c : Array Value) (t : TypeId) (o : Obj) : Blk ((W.alloc (.cells c t)).alloc o) W.heap.size c t := (Blk.new W c t).later (below1 _ _)
theorem Blk.new2 (W : World) (c : Array Value) (t : TypeId) (o : Obj) : Blk ((W.alloc o).alloc (.cells c t)) (W.heap.size + 1) c t := by
 have h := Blk.new (W.alloc o) c t
 rwa [show (W.alloc o).heap.size = W.heap.size + 1 by simp] at h
end Go.Proofs.YtechceagghcipaaGreatDoor
