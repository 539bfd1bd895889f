/-
  DERIVED. GIVEN WITH THE SEED: THE CARDS: each row of YtechceagghcipabGreatDoorRows.lean that lists a variable, with what it lists TIED to the program's text (the seventh form; the later family's looks); each row that meets fmt, with fmt's text TOLD by the authors' own Lean function (tested against real Go, not proved from fmt's source: count such statements apart). THE CARD IS WHAT COUNTS. Prove the row's statement (the work); the ties are given (YtechceagghcipabGreatDoorTie.lean); close each card by the builder's one call (the guide's Derived/Test/ToyasCard.lean, 'card_holds'). Laid BY PROGRAM, IN A SANDBOX (cutbox-door.mjs). By AI agents, Wed Nov 11 2026. No macro, syntax, notation, axiom, sorry.
-/
import Derived.Test.YtechceagghcipabGreatDoorRows
import GoSem.ClaimSeven
namespace Go.Proofs.YtechceagghcipabGreatDoor
namespace Rows

/-- THE TIED CARD OF 'hearsaylaw08.BaseLooks'. -/
def baseLooksCard : Claim7 := { stood := { row := baseLooksRow, standIns := [], harness := (true, "be70a5aaaf301650f37e84388ba3ef6a11b096b97902c3c6394fbc8cbfd58768"), looks := false }, kinds := [], alts := [], laidByText := true, laidKinds := [.data], laidTests := true, laidLooks := .later }
def BaseLooksCardSaid : Prop := Claim7.holds Tryz.pinned (.plain (OpenSpec.ofChange baseLooksSpec)) baseLooksCard

/-- THE TIED CARD OF 'hearsaylaw08.BaseAll'. -/
def baseAllCard : Claim7 := { stood := { row := baseAllRow, standIns := [], harness := (true, "be70a5aaaf301650f37e84388ba3ef6a11b096b97902c3c6394fbc8cbfd58768"), looks := false }, kinds := [], alts := [], laidByText := true, laidKinds := [.data], laidTests := true, laidLooks := .later }
def BaseAllCardSaid : Prop := Claim7.holds Tryz.pinned (.plain (OpenSpec.ofChange baseAllSpec)) baseAllCard

/-- THE SECOND FORM's CARD OF 'hearsaylaw08.BaseLooks'. -/
def baseLooksUptoCard : Claim7 := { stood := { row := baseLooksUptoRow, standIns := [], harness := (true, "be70a5aaaf301650f37e84388ba3ef6a11b096b97902c3c6394fbc8cbfd58768"), looks := false }, kinds := [], alts := [], laidByText := true, laidKinds := [.data], laidTests := true, laidLooks := .later }
def BaseLooksUptoCardSaid : Prop := Claim7.holds Tryz.pinned (.plain (OpenSpec.upto baseLooksSpec)) baseLooksUptoCard

/-- THE SECOND FORM's CARD OF 'hearsaylaw08.BaseAll'. -/
def baseAllUptoCard : Claim7 := { stood := { row := baseAllUptoRow, standIns := [], harness := (true, "be70a5aaaf301650f37e84388ba3ef6a11b096b97902c3c6394fbc8cbfd58768"), looks := false }, kinds := [], alts := [], laidByText := true, laidKinds := [.data], laidTests := true, laidLooks := .later }
def BaseAllUptoCardSaid : Prop := Claim7.holds Tryz.pinned (.plain (OpenSpec.upto baseAllSpec)) baseAllUptoCard
end Rows
end Go.Proofs.YtechceagghcipabGreatDoor
