/-
  DERIVED. GIVEN WITH THE SEED: THE CARDS: each row of YtdfgijdededolaaDoorRows.lean that lists a variable, with what it lists TIED to the program's text (the seventh form; the later family's looks); each row that meets fmt, with fmt's text TOLD by the authors' own Lean function (tested against real Go, not proved from fmt's source: count such statements apart). THE CARD IS WHAT COUNTS. Prove the row's statement (the work); the ties are given (YtdfgijdededolaaDoorTie.lean); close each card by the builder's one call (the guide's Derived/Test/ToyasCard.lean, 'card_holds'). Laid BY PROGRAM, IN A SANDBOX (cutbox-door.mjs). By AI agents, Wed Nov 11 2026. No macro, syntax, notation, axiom, sorry.
-/
import Derived.Test.YtdfgijdededolaaDoorRows
import GoSem.ClaimSeven
namespace Go.Proofs.YtdfgijdededolaaDoor
namespace Rows

/-- THE TIED CARD OF 'hearsaylaw03.ClauseChecks'. -/
def clauseChecksCard : Claim7 := { stood := { row := clauseChecksRow, standIns := [], harness := (true, "d682ff89b44fcb27c5b9e42ba5bfd16aed4d7264cc624d3f7102ae44d2c24eda"), looks := false }, kinds := [], alts := [], laidByText := true, laidKinds := [.data, .data], laidTests := true, laidLooks := .later }
def ClauseChecksCardSaid : Prop := Claim7.holds Tryd.pinned (.plain (OpenSpec.ofChange clauseChecksSpec)) clauseChecksCard

/-- THE SECOND FORM's CARD OF 'hearsaylaw03.ClauseChecks'. -/
def clauseChecksUptoCard : Claim7 := { stood := { row := clauseChecksUptoRow, standIns := [], harness := (true, "d682ff89b44fcb27c5b9e42ba5bfd16aed4d7264cc624d3f7102ae44d2c24eda"), looks := false }, kinds := [], alts := [], laidByText := true, laidKinds := [.data, .data], laidTests := true, laidLooks := .later }
def ClauseChecksUptoCardSaid : Prop := Claim7.holds Tryd.pinned (.plain (OpenSpec.upto clauseChecksSpec)) clauseChecksUptoCard
end Rows
end Go.Proofs.YtdfgijdededolaaDoor
