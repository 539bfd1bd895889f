/-
  Arguments opened: a term, a list of terms, an atom, a binding.
-/
import Derived.Test.YtnaiecemmhioeaaDoorB4
import Derived.ProofKit
import Derived.OpenShut
import Derived.ShutString
import Derived.ChangeOld
import Derived.Below
import Derived.Lib.SmallJoins
namespace Go.Proofs.YtnaiecemmhioeaaDoor
open Go.ChangeShapes Go.WideShapes Go.ChangeAt Go.RowKit Go.Joins
open Go.ChangeMaps (open_string shut_string)

theorem Tryd.own : ownKnob Tryd.prog.godebug = none := by kernel_rfl
theorem Tryd.laidOut : laidOutB Tryd.prog = true := by kernel_rfl
theorem Tryd.cellsTerm : Tryd.prog.cellsOf 23 = 3 := by kernel_rfl

end Go.Proofs.YtnaiecemmhioeaaDoor
