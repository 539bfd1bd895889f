/-
  sortBinds of at most one bind; first.
-/
import Derived.Test.YtminmpaamomecaaB7
namespace Go.Proofs.Ytminmpaamomecaa
open Go.RowKit

end Go.Proofs.Ytminmpaamomecaa
