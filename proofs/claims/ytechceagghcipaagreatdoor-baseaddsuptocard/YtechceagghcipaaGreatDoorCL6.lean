import Derived.Test.YtechceagghcipaaGreatDoorCL5
import Derived.Maps.OwnIn
import Derived.Maps.AppendAt
namespace Go.Proofs.YtechceagghcipaaGreatDoor
open Go.RowKit Go.Shelf
attribute [local go_sem] Oper.semAt_some

def sv (l : List Int) : DataW Unit := Maps.setOf (.agg []) (l.map (Lit.int .i64))
end Go.Proofs.YtechceagghcipaaGreatDoor
