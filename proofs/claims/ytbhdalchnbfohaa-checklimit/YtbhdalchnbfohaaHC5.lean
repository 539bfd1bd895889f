import Derived.Test.YtbhdalchnbfohaaO2
import Derived.Test.YtbhdalchnbfohaaHC3
import Derived.Test.YtbhdalchnbfohaaHC2
import Derived.Deep.RegionHeld3
import Derived.BigQuiet
import Derived.Test.YtbhdalchnbfohaaB7
import Derived.Test.YtbhdalchnbfohaaD1
import Derived.Test.YtbhdalchnbfohaaB2
import Derived.Test.YtbhdalchnbfohaaRC1
import Derived.Deep.CutRange
import Derived.Test.YtbhdalchnbfohaaMD5
import Derived.Test.YtbhdalchnbfohaaMD14
import Derived.Test.YtbhdalchnbfohaaLE1
import Derived.Test.YtbhdalchnbfohaaLE2
import Derived.Test.YtbhdalchnbfohaaMD8
import Derived.Test.YtbhdalchnbfohaaCL20
import Derived.Test.YtbhdalchnbfohaaW2
import Derived.Test.YtbhdalchnbfohaaBK
import Derived.Test.YtbhdalchnbfohaaL1
import Derived.Laws.AppendOwn
import Derived.Laws.AppendOwnNone
import Derived.Test.YtbhdalchnbfohaaOQ1
import Derived.Test.YtbhdalchnbfohaaMP1
/-
  Vars.
-/
namespace Go.Proofs.Ytbhdalchnbfohaa
open Go.RowKit

/-- Each variable's number, once, in the order of the places. -/
def vS (l : List Int) (t : Tm) : List Int := if t.var then (if l.any (fun n => decide (n = t.n)) then l else l ++ [t.n]) else l
def vs (pl : List Tm) : List Int := pl.foldl vS []
end Go.Proofs.Ytbhdalchnbfohaa
/-
  hearsayref12.Conclude. (Written by HC5.py.)
-/
namespace Go.Proofs.Ytbhdalchnbfohaa
open Go.RowKit
attribute [local go_sem ↓] Go.wp_at_zero Go.wp_at_succ

theorem KpT.agree {B : Nat} {X X' : World} {v : Value} {l : List Tm} (h : KpT B X v l) (hs : X.heap.size ≤ X'.heap.size) (ha : ∀ b, B ≤ b → b < X.heap.size → X'.heap[b]? = X.heap[b]?) : KpT B X' v l := fun Y hs' ha' =>
  h Y (Nat.le_trans hs hs') fun b h1 h2 => (ha' b h1 (Nat.lt_of_lt_of_le h2 hs)).trans (ha b h1 h2)
theorem bput5 {W X : World} {G : Nat} (h : Below W.heap.size W X) (hG : W.heap.size ≤ G) (a b c d e : Value) : Below W.heap.size W (((((X.setCell ⟨G, 0, none⟩ a).setCell ⟨G, 1, none⟩ b).setCell ⟨G, 2, none⟩ c).setCell ⟨G, 3, none⟩ d).setCell ⟨G, 4, none⟩ e) := ((((h.setCell (show W.heap.size ≤ G from hG) _).setCell (show W.heap.size ≤ G from hG) _).setCell (show W.heap.size ≤ G from hG) _).setCell (show W.heap.size ≤ G from hG) _).setCell (show W.heap.size ≤ G from hG) _
theorem put5_heap {X : World} {G k : Nat} (h : k ≠ G) (a b c d e : Value) : (((((X.setCell ⟨G, 0, none⟩ a).setCell ⟨G, 1, none⟩ b).setCell ⟨G, 2, none⟩ c).setCell ⟨G, 3, none⟩ d).setCell ⟨G, 4, none⟩ e).heap[k]? = X.heap[k]? := by
  rw [heap_setCell_other _ _ _ _ h, heap_setCell_other _ _ _ _ h, heap_setCell_other _ _ _ _ h, heap_setCell_other _ _ _ _ h, heap_setCell_other _ _ _ _ h]
theorem put5_size {X : World} {G : Nat} (a b c d e : Value) : (((((X.setCell ⟨G, 0, none⟩ a).setCell ⟨G, 1, none⟩ b).setCell ⟨G, 2, none⟩ c).setCell ⟨G, 3, none⟩ d).setCell ⟨G, 4, none⟩ e).heap.size = X.heap.size := by simp [World.setCell]
theorem put5_blk {X : World} {G : Nat} {x0 x1 x2 x3 x4 : Value} {t : TypeId} (h : CBlk X G #[x0, x1, x2, x3, x4] t) (a b c d e : Value) : CBlk (((((X.setCell ⟨G, 0, none⟩ a).setCell ⟨G, 1, none⟩ b).setCell ⟨G, 2, none⟩ c).setCell ⟨G, 3, none⟩ d).setCell ⟨G, 4, none⟩ e) G #[a, b, c, d, e] t := by
  have := ((((h.set 0 a).set 1 b).set 2 c).set 3 d).set 4 e
  simpa using this
end Go.Proofs.Ytbhdalchnbfohaa
