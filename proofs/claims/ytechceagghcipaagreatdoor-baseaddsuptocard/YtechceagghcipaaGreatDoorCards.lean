/-
  DERIVED. GIVEN WITH THE SEED: THE CARDS: each row of YtechceagghcipaaGreatDoorRows.lean that lists a variable, with what it lists TIED to the program's text (the seventh form; the later family's looks); each row that meets fmt, with fmt's text TOLD by the authors' own Lean function (tested against real Go, not proved from fmt's source: count such statements apart). THE CARD IS WHAT COUNTS. Prove the row's statement (the work); the ties are given (YtechceagghcipaaGreatDoorTie.lean); close each card by the builder's one call (the guide's Derived/Test/ToyasCard.lean, 'card_holds'). Laid BY PROGRAM, IN A SANDBOX (cutbox-door.mjs). By AI agents, Wed Nov 11 2026. No macro, syntax, notation, axiom, sorry.
-/
import Derived.Test.YtechceagghcipaaGreatDoorRows
import GoSem.ClaimSeven
namespace Go.Proofs.YtechceagghcipaaGreatDoor
namespace Rows

/-- THE TIED CARD OF 'hearsaylaw08.BaseRanges'. -/
def baseRangesCard : Claim7 := { stood := { row := baseRangesRow, standIns := [], harness := (true, "deaf94a4c47ddad56bf41895b9f5dd7ffc1d7ca52b7db03a1795fceafe67ae10"), looks := false }, kinds := [], alts := [], laidByText := true, laidKinds := [.data], laidTests := true, laidLooks := .later }
def BaseRangesCardSaid : Prop := Claim7.holds Tryz.pinned (.plain (OpenSpec.ofChange baseRangesSpec)) baseRangesCard

/-- THE TIED CARD OF 'hearsaylaw08.BaseOwn'. -/
def baseOwnCard : Claim7 := { stood := { row := baseOwnRow, standIns := [], harness := (true, "deaf94a4c47ddad56bf41895b9f5dd7ffc1d7ca52b7db03a1795fceafe67ae10"), looks := false }, kinds := [], alts := [], laidByText := true, laidKinds := [.data], laidTests := true, laidLooks := .later }
def BaseOwnCardSaid : Prop := Claim7.holds Tryz.pinned (.plain (OpenSpec.ofChange baseOwnSpec)) baseOwnCard

/-- THE TIED CARD OF 'hearsaylaw08.BaseAdds'. -/
def baseAddsCard : Claim7 := { stood := { row := baseAddsRow, standIns := [], harness := (true, "deaf94a4c47ddad56bf41895b9f5dd7ffc1d7ca52b7db03a1795fceafe67ae10"), looks := false }, kinds := [], alts := [], laidByText := true, laidKinds := [.data], laidTests := true, laidLooks := .later }
def BaseAddsCardSaid : Prop := Claim7.holds Tryz.pinned (.plain (OpenSpec.ofChange baseAddsSpec)) baseAddsCard

/-- THE SECOND FORM's CARD OF 'hearsaylaw08.BaseRanges'. -/
def baseRangesUptoCard : Claim7 := { stood := { row := baseRangesUptoRow, standIns := [], harness := (true, "deaf94a4c47ddad56bf41895b9f5dd7ffc1d7ca52b7db03a1795fceafe67ae10"), looks := false }, kinds := [], alts := [], laidByText := true, laidKinds := [.data], laidTests := true, laidLooks := .later }
def BaseRangesUptoCardSaid : Prop := Claim7.holds Tryz.pinned (.plain (OpenSpec.upto baseRangesSpec)) baseRangesUptoCard

/-- THE SECOND FORM's CARD OF 'hearsaylaw08.BaseOwn'. -/
def baseOwnUptoCard : Claim7 := { stood := { row := baseOwnUptoRow, standIns := [], harness := (true, "deaf94a4c47ddad56bf41895b9f5dd7ffc1d7ca52b7db03a1795fceafe67ae10"), looks := false }, kinds := [], alts := [], laidByText := true, laidKinds := [.data], laidTests := true, laidLooks := .later }
def BaseOwnUptoCardSaid : Prop := Claim7.holds Tryz.pinned (.plain (OpenSpec.upto baseOwnSpec)) baseOwnUptoCard

/-- THE SECOND FORM's CARD OF 'hearsaylaw08.BaseAdds'. -/
def baseAddsUptoCard : Claim7 := { stood := { row := baseAddsUptoRow, standIns := [], harness := (true, "deaf94a4c47ddad56bf41895b9f5dd7ffc1d7ca52b7db03a1795fceafe67ae10"), looks := false }, kinds := [], alts := [], laidByText := true, laidKinds := [.data], laidTests := true, laidLooks := .later }
def BaseAddsUptoCardSaid : Prop := Claim7.holds Tryz.pinned (.plain (OpenSpec.upto baseAddsSpec)) baseAddsUptoCard
end Rows
end Go.Proofs.YtechceagghcipaaGreatDoor
