/-
  DERIVED. GIVEN WITH THE SEED: THE CARDS: each row of YtcejljehjhlonaaGreatDoorRows.lean that lists a variable, with what it lists TIED to the program's text (the seventh form; the later family's looks); each row that meets fmt, with fmt's text TOLD by the authors' own Lean function (tested against real Go, not proved from fmt's source: count such statements apart). THE CARD IS WHAT COUNTS. Prove the row's statement (the work); the ties are given (YtcejljehjhlonaaGreatDoorTie.lean); close each card by the builder's one call (the guide's Derived/Test/ToyasCard.lean, 'card_holds'). Laid BY PROGRAM, IN A SANDBOX (cutbox-door.mjs). By AI agents, Wed Nov 11 2026. No macro, syntax, notation, axiom, sorry.
-/
import Derived.Test.YtcejljehjhlonaaGreatDoorRows
import GoSem.ClaimSeven
namespace Go.Proofs.YtcejljehjhlonaaGreatDoor
namespace Rows

/-- THE TIED CARD OF 'hearsaylaw12.CheckConcludes'. -/
def checkConcludesCard : Claim7 := { stood := { row := checkConcludesRow, standIns := [], harness := (true, "bb8436b48bb6dfcd0ddc33012128eb81b102d4b50815e363792452b7c38fa9e3"), looks := true }, kinds := [], alts := [], laidByText := true, laidKinds := [.data, .data], laidTests := true, laidLooks := .later }
def CheckConcludesCardSaid : Prop := Claim7.holds Tryz.pinned (.plain (OpenSpec.ofChange checkConcludesSpec)) checkConcludesCard

/-- THE TIED CARD OF 'hearsaylaw12.CheckChecks'. -/
def checkChecksCard : Claim7 := { stood := { row := checkChecksRow, standIns := [], harness := (true, "bb8436b48bb6dfcd0ddc33012128eb81b102d4b50815e363792452b7c38fa9e3"), looks := true }, kinds := [], alts := [], laidByText := true, laidKinds := [.data, .data], laidTests := true, laidLooks := .later }
def CheckChecksCardSaid : Prop := Claim7.holds Tryz.pinned (.plain (OpenSpec.ofChange checkChecksSpec)) checkChecksCard

/-- THE SECOND FORM's CARD OF 'hearsaylaw12.CheckConcludes'. -/
def checkConcludesUptoCard : Claim7 := { stood := { row := checkConcludesUptoRow, standIns := [], harness := (true, "bb8436b48bb6dfcd0ddc33012128eb81b102d4b50815e363792452b7c38fa9e3"), looks := true }, kinds := [], alts := [], laidByText := true, laidKinds := [.data, .data], laidTests := true, laidLooks := .later }
def CheckConcludesUptoCardSaid : Prop := Claim7.holds Tryz.pinned (.plain (OpenSpec.upto checkConcludesSpec)) checkConcludesUptoCard

/-- THE SECOND FORM's CARD OF 'hearsaylaw12.CheckChecks'. -/
def checkChecksUptoCard : Claim7 := { stood := { row := checkChecksUptoRow, standIns := [], harness := (true, "bb8436b48bb6dfcd0ddc33012128eb81b102d4b50815e363792452b7c38fa9e3"), looks := true }, kinds := [], alts := [], laidByText := true, laidKinds := [.data, .data], laidTests := true, laidLooks := .later }
def CheckChecksUptoCardSaid : Prop := Claim7.holds Tryz.pinned (.plain (OpenSpec.upto checkChecksSpec)) checkChecksUptoCard
end Rows
end Go.Proofs.YtcejljehjhlonaaGreatDoor
