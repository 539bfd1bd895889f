/-
  wire: law 23: WireBack.
-/
import Derived.Test.YtboomeeipnfbmaaWSD
import Derived.Test.YtboomeeipnfbmaaWSE
import Derived.BigQuiet
namespace Go.Proofs.Ytboomeeipnfbmaa
open Go.RowKit
attribute [local go_sem ↓] Go.wp_at_zero Go.wp_at_succ

/-- A row that was read lies outside of the wire. -/
theorem OmW.out {B : Nat} {T : Nat → Prop} {v u : Value} {s : WrW} {Y Y' : World} {Z : List (MsW × Value)} (h : OmW Y.heap.size Y' u Z) (hw : WzW B T v s Y) : LmW (OutW T Y') Y' u (Z.map Prod.fst) := h.lm.mono fun x hx hF => ⟨hx, fun ht => by have := hw.lt x ht; omega⟩
end Go.Proofs.Ytboomeeipnfbmaa
