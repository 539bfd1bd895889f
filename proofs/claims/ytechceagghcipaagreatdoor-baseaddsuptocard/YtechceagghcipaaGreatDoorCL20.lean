import Derived.Laws.EntriesVeiled
import Derived.Test.YtechceagghcipaaGreatDoorB7
import Derived.Deep.RegionHeld3
import Derived.Test.YtechceagghcipaaGreatDoorCL6
import Derived.Test.YtechceagghcipaaGreatDoorCL17
import Derived.Test.YtechceagghcipaaGreatDoorCL5
namespace Go.Proofs.YtechceagghcipaaGreatDoor
open Go.RowKit
attribute [local go_sem ↓] Go.wp_at_zero Go.wp_at_succ

def qa (u : ByteArray) (x : At) : At := if x.by_ = zt then ⟨⟨2, 0, u⟩, x.name, x.args⟩ else x
theorem CBlk.froz {w : World} {g i : Nat} {c : Array Value} {t : TypeId} (h : CBlk w g c t) : w.frozen? ⟨g, i, none⟩ = false := frozen_of_row _ _ _ _ _ h

end Go.Proofs.YtechceagghcipaaGreatDoor
