/-
  DERIVED. GIVEN WITH THE SEED: THE CARDS: each row of YtmbmchbninlhpaaGreatDoorRows.lean that lists a variable, with what it lists TIED to the program's text (the seventh form; the later family's looks); each row that meets fmt, with fmt's text TOLD by the authors' own Lean function (tested against real Go, not proved from fmt's source: count such statements apart). THE CARD IS WHAT COUNTS. Prove the row's statement (the work); the ties are given (YtmbmchbninlhpaaGreatDoorTie.lean); close each card by the builder's one call (the guide's Derived/Test/ToyasCard.lean, 'card_holds'). Laid BY PROGRAM, IN A SANDBOX (cutbox-door.mjs). By AI agents, Wed Nov 11 2026. No macro, syntax, notation, axiom, sorry.
-/
import Derived.Test.YtmbmchbninlhpaaGreatDoorRows
import GoSem.ClaimSeven
namespace Go.Proofs.YtmbmchbninlhpaaGreatDoor
namespace Rows

/-- THE TIED CARD OF 'hearsaylaw06.CodecProofs'. -/
def codecProofsCard : Claim7 := { stood := { row := codecProofsRow, standIns := [], harness := (true, "92b920f64619213dd4b28039f9a67a9ee092d1a1fa4f6b4b49c5739d1b98fea1"), looks := true }, kinds := [], alts := [], laidByText := true, laidKinds := [.data, .data], laidTests := true, laidLooks := .later }
def CodecProofsCardSaid : Prop := Claim7.holds Tryz.pinned (.plain (OpenSpec.ofChange codecProofsSpec)) codecProofsCard

/-- THE TIED CARD OF 'hearsaylaw06.CodecSets'. -/
def codecSetsCard : Claim7 := { stood := { row := codecSetsRow, standIns := [], harness := (true, "92b920f64619213dd4b28039f9a67a9ee092d1a1fa4f6b4b49c5739d1b98fea1"), looks := true }, kinds := [], alts := [], laidByText := true, laidKinds := [.data, .data], laidTests := true, laidLooks := .later }
def CodecSetsCardSaid : Prop := Claim7.holds Tryz.pinned (.plain (OpenSpec.ofChange codecSetsSpec)) codecSetsCard

/-- THE SECOND FORM's CARD OF 'hearsaylaw06.CodecProofs'. -/
def codecProofsUptoCard : Claim7 := { stood := { row := codecProofsUptoRow, standIns := [], harness := (true, "92b920f64619213dd4b28039f9a67a9ee092d1a1fa4f6b4b49c5739d1b98fea1"), looks := true }, kinds := [], alts := [], laidByText := true, laidKinds := [.data, .data], laidTests := true, laidLooks := .later }
def CodecProofsUptoCardSaid : Prop := Claim7.holds Tryz.pinned (.plain (OpenSpec.upto codecProofsSpec)) codecProofsUptoCard

/-- THE SECOND FORM's CARD OF 'hearsaylaw06.CodecSets'. -/
def codecSetsUptoCard : Claim7 := { stood := { row := codecSetsUptoRow, standIns := [], harness := (true, "92b920f64619213dd4b28039f9a67a9ee092d1a1fa4f6b4b49c5739d1b98fea1"), looks := true }, kinds := [], alts := [], laidByText := true, laidKinds := [.data, .data], laidTests := true, laidLooks := .later }
def CodecSetsUptoCardSaid : Prop := Claim7.holds Tryz.pinned (.plain (OpenSpec.upto codecSetsSpec)) codecSetsUptoCard
end Rows
end Go.Proofs.YtmbmchbninlhpaaGreatDoor
