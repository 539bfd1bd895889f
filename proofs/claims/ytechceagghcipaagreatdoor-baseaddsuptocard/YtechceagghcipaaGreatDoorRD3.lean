import Derived.Test.YtechceagghcipaaGreatDoorRA45
import Derived.Test.YtechceagghcipaaGreatDoorRA16
import Derived.Laws.Cover1
import Derived.Deep.QuietTactic
import Derived.BigQuiet
import Derived.Test.YtechceagghcipaaGreatDoorRC2
import Derived.Maps.AppendAt
import Derived.Laws.OwnMore
import Derived.Laws.CopyOwn
namespace Go.Proofs.YtechceagghcipaaGreatDoor
open Go.RowKit
attribute [local go_sem ↓] Go.wp_at_zero Go.wp_at_succ

def rsel7 (s : St7) (parts : Int) : List (List Int) := (srt7 s.rows).filter fun r => hp7 parts (part7 s r)
end Go.Proofs.YtechceagghcipaaGreatDoor
