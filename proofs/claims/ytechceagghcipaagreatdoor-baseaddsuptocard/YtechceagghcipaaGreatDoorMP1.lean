import Derived.Laws.EntriesVeiled
import Derived.Test.YtechceagghcipaaGreatDoorB7
import Derived.Deep.RegionHeld3
import Derived.Test.YtechceagghcipaaGreatDoorCL6
import Derived.Test.YtechceagghcipaaGreatDoorM2
import Derived.Test.YtechceagghcipaaGreatDoorCL14
namespace Go.Proofs.YtechceagghcipaaGreatDoor
open Go.RowKit

def grd (t : Tm) : Tm := if t.k = 3 then ⟨1, t.n, ⟨#[]⟩⟩ else t
def sf (l : List Tm) (t : Tm) : Tm := if t ∈ l then t else grd t
def ix : List Tm -> Tm -> Nat
 | [], _ => 0
 | x :: l, t => if x = t then 0 else ix l t + 1
end Go.Proofs.YtechceagghcipaaGreatDoor
