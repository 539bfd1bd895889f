import Derived.Test.YtechceagghcipaaGreatDoorEK3
namespace Go.Proofs.YtechceagghcipaaGreatDoor
open Go.RowKit

theorem EN8.doq {w : World} {A B : Nat -> Prop} {b r M T M' T' : Nat} {R R' : List It8} {f : At} {Y Z Z2 ZE : World} (h : EN8 w A B b r M' T' R' Z Z2) (hb : Below Y.heap.size Y Z) (hz : Below Z2.heap.size Z2 ZE) (hM : M' <= M + 1048577) (hT : T' <= T + f.pl.length) (hs : sz8 (Ei R') <= sz8 (Ei R) + f.pl.length) : DoQ w A B b r M T R f Y (.returned (.bool true)) ZE := by
 obtain ⟨A', B', h1, h2, h3⟩ := h
 have := hb.size
 exact ⟨rfl, A', B', M', T', R', h1.below hz, hM, hT, hs, ((Fr.of hb).trans h2 fun _ _ h => h).then hz, fun x hx => (h3 x hx).imp id fun h => by omega⟩
end Go.Proofs.YtechceagghcipaaGreatDoor
