/-
  MadeAtom.
-/
import Derived.Test.YtjnipcakjoiplaaDoorMD2
import Derived.Test.YtjnipcakjoiplaaDoorW3
namespace Go.Proofs.YtjnipcakjoiplaaDoor
open Go.RowKit
attribute [local go_sem ↓] Go.wp_at_zero Go.wp_at_succ

/-- MadeAtom's boxes. -/
structure MS (w X : World) (x : At) (v : Value) (b' : Tm) (nm' : ByteArray) (u : Value) (L : List Tm) : Prop where
  bc : CBlk X w.heap.size (At.cs x v) 26
  br : CBlk X (w.heap.size + 1) #[.int .i64 0, .int .i64 0, .string ⟨#[]⟩, .string ⟨#[]⟩, .slice none 0 0] 26
  bo : CBlk X (w.heap.size + 1 + 1) #[.int .i64 b'.k, .int .i64 b'.n, .string b'.s, .string nm', u] 26
  ow : OwnT X (w.heap.size + 3) u L
  bw : Below w.heap.size w X
  sz : w.heap.size + 3 ≤ X.heap.size
theorem MS.later {w X X' : World} {x : At} {v : Value} {b' : Tm} {nm' : ByteArray} {u : Value} {L : List Tm} (h : MS w X x v b' nm' u L) (hb : Below X.heap.size X X') : MS w X' x v b' nm' u L :=
  ⟨h.bc.later hb, h.br.later hb, h.bo.later hb, h.ow.later hb, below_step h.bw hb, Nat.le_trans h.sz hb.size⟩
theorem MS.start (w : World) (x : At) (v : Value) :
    MS w (((w.alloc (.cells (At.cs x v) 26)).alloc (.cells #[.int .i64 0, .int .i64 0, .string ⟨#[]⟩, .string ⟨#[]⟩, .slice none 0 0] 26)).alloc (.cells #[.int .i64 x.by_.k, .int .i64 x.by_.n, .string x.by_.s, .string x.name, .slice none 0 0] 26)) x v x.by_ x.name (.slice none 0 0) [] := by
  have b3 := below_step (below2 w (.cells (At.cs x v) 26) (.cells #[.int .i64 0, .int .i64 0, .string ⟨#[]⟩, .string ⟨#[]⟩, .slice none 0 0] 26)) (below1 _ (.cells #[.int .i64 x.by_.k, .int .i64 x.by_.n, .string x.by_.s, .string x.name, .slice none 0 0] 26))
  have x1 := (CBlk.new w (At.cs x v) 26).later (below2 (w.alloc (.cells (At.cs x v) 26)) (.cells #[.int .i64 0, .int .i64 0, .string ⟨#[]⟩, .string ⟨#[]⟩, .slice none 0 0] 26) (.cells #[.int .i64 x.by_.k, .int .i64 x.by_.n, .string x.by_.s, .string x.name, .slice none 0 0] 26))
  have x2 := (CBlk.new (w.alloc (.cells (At.cs x v) 26)) #[.int .i64 0, .int .i64 0, .string ⟨#[]⟩, .string ⟨#[]⟩, .slice none 0 0] 26).later (below1 _ (.cells #[.int .i64 x.by_.k, .int .i64 x.by_.n, .string x.by_.s, .string x.name, .slice none 0 0] 26))
  have x3 := CBlk.new ((w.alloc (.cells (At.cs x v) 26)).alloc (.cells #[.int .i64 0, .int .i64 0, .string ⟨#[]⟩, .string ⟨#[]⟩, .slice none 0 0] 26)) #[.int .i64 x.by_.k, .int .i64 x.by_.n, .string x.by_.s, .string x.name, .slice none 0 0] 26
  rw [show (w.alloc (.cells (At.cs x v) 26)).heap.size = w.heap.size + 1 by simp] at x2
  rw [show ((w.alloc (.cells (At.cs x v) 26)).alloc (.cells #[.int .i64 0, .int .i64 0, .string ⟨#[]⟩, .string ⟨#[]⟩, .slice none 0 0] 26)).heap.size = w.heap.size + 1 + 1 by simp] at x3
  exact ⟨x1, x2, x3, ownT_nil _ _, b3, by simp⟩
/-- The list grown and stored. -/
theorem MS.args {w X X' : World} {x : At} {v : Value} {b' : Tm} {nm' : ByteArray} {u u' : Value} {L L' : List Tm} (h : MS w X x v b' nm' u L) (ho : OwnT X' (w.heap.size + 3) u' L') (hb : Below (w.heap.size + 3) X X') :
    MS w (X'.setCell ⟨w.heap.size + 1 + 1, 4, none⟩ u') x v b' nm' u' L' := by
  have n1 : w.heap.size ≠ w.heap.size + 1 + 1 := by omega
  have n2 : w.heap.size + 1 ≠ w.heap.size + 1 + 1 := by omega
  have n3 : w.heap.size + 1 + 1 < w.heap.size + 3 := by omega
  have n4 : w.heap.size ≤ w.heap.size + 1 + 1 := by omega
  have l1 : CBlk X' w.heap.size (At.cs x v) 26 := (hb.block _ (by omega)).trans h.bc
  have l2 : CBlk X' (w.heap.size + 1) _ 26 := (hb.block _ (by omega)).trans h.br
  have l3 : CBlk X' (w.heap.size + 1 + 1) _ 26 := (hb.block _ (by omega)).trans h.bo
  refine ⟨l1.off n1, l2.off n2, ?_, ho.set n3, (h.bw.trans (hb.mono (by omega))).setCell n4 _, by simpa [World.setCell] using Nat.le_trans h.sz hb.size⟩
  have := l3.set 4 u'
  simpa using this
theorem OwnT.off {w : World} {base G i : Nat} {a : Value} {v : Value} {l : List Tm} (h : OwnT w base v l) (hG : ∀ k, v.ownBlock = some k → k ≠ G) : OwnT (w.setCell ⟨G, i, none⟩ a) base v l := by
  refine ⟨h.1, ?_⟩
  rcases h.2 with hn | ⟨g, cap, cur, hv, hbb, hg, rest⟩
  · exact Or.inl hn
  · exact Or.inr ⟨g, cap, cur, hv, hbb, by rw [heap_setCell_other _ _ _ _ (hG g (by rw [hv]; rfl))]; exact hg, rest⟩
end Go.Proofs.YtjnipcakjoiplaaDoor
