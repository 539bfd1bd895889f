/-
  DERIVED. GIVEN WITH THE SEED: THE CARDS: each row of YtdfgijdededolabDoorRows.lean that lists a variable, with what it lists TIED to the program's text (the seventh form; the later family's looks); each row that meets fmt, with fmt's text TOLD by the authors' own Lean function (tested against real Go, not proved from fmt's source: count such statements apart). THE CARD IS WHAT COUNTS. Prove the row's statement (the work); the ties are given (YtdfgijdededolabDoorTie.lean); close each card by the builder's one call (the guide's Derived/Test/ToyasCard.lean, 'card_holds'). Laid BY PROGRAM, IN A SANDBOX (cutbox-door.mjs). By AI agents, Wed Nov 11 2026. No macro, syntax, notation, axiom, sorry.
-/
import Derived.Test.YtdfgijdededolabDoorRows
import GoSem.ClaimSeven
namespace Go.Proofs.YtdfgijdededolabDoor
namespace Rows

/-- THE TIED CARD OF 'hearsaylaw03.ClauseReplaces'. -/
def clauseReplacesCard : Claim7 := { stood := { row := clauseReplacesRow, standIns := [], harness := (true, "e27f4058fa6a07c7365e86edd4a893b2ff58c2da8451014b11057983f9e74877"), looks := false }, kinds := [], alts := [], laidByText := true, laidKinds := [.data, .data], laidTests := true, laidLooks := .later }
def ClauseReplacesCardSaid : Prop := Claim7.holds Tryd.pinned (.plain (OpenSpec.ofChange clauseReplacesSpec)) clauseReplacesCard

/-- THE SECOND FORM's CARD OF 'hearsaylaw03.ClauseReplaces'. -/
def clauseReplacesUptoCard : Claim7 := { stood := { row := clauseReplacesUptoRow, standIns := [], harness := (true, "e27f4058fa6a07c7365e86edd4a893b2ff58c2da8451014b11057983f9e74877"), looks := false }, kinds := [], alts := [], laidByText := true, laidKinds := [.data, .data], laidTests := true, laidLooks := .later }
def ClauseReplacesUptoCardSaid : Prop := Claim7.holds Tryd.pinned (.plain (OpenSpec.upto clauseReplacesSpec)) clauseReplacesUptoCard
end Rows
end Go.Proofs.YtdfgijdededolabDoor
