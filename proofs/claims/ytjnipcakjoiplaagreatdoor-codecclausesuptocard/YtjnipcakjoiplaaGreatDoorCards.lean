/-
  DERIVED. GIVEN WITH THE SEED: THE CARDS: each row of YtjnipcakjoiplaaGreatDoorRows.lean that lists a variable, with what it lists TIED to the program's text (the seventh form; the later family's looks); each row that meets fmt, with fmt's text TOLD by the authors' own Lean function (tested against real Go, not proved from fmt's source: count such statements apart). THE CARD IS WHAT COUNTS. Prove the row's statement (the work); the ties are given (YtjnipcakjoiplaaGreatDoorTie.lean); close each card by the builder's one call (the guide's Derived/Test/ToyasCard.lean, 'card_holds'). Laid BY PROGRAM, IN A SANDBOX (cutbox-door.mjs). By AI agents, Wed Nov 11 2026. No macro, syntax, notation, axiom, sorry.
-/
import Derived.Test.YtjnipcakjoiplaaGreatDoorRows
import GoSem.ClaimSeven
namespace Go.Proofs.YtjnipcakjoiplaaGreatDoor
namespace Rows

/-- THE TIED CARD OF 'hearsaylaw06.CodecClauses'. -/
def codecClausesCard : Claim7 := { stood := { row := codecClausesRow, standIns := [], harness := (true, "10dc5932f4bc91d13c34c1a6016b55795359f4066f793325999472ddd429a22e"), looks := true }, kinds := [], alts := [], laidByText := true, laidKinds := [.data, .data], laidTests := true, laidLooks := .later }
def CodecClausesCardSaid : Prop := Claim7.holds Tryz.pinned (.plain (OpenSpec.ofChange codecClausesSpec)) codecClausesCard

/-- THE SECOND FORM's CARD OF 'hearsaylaw06.CodecClauses'. -/
def codecClausesUptoCard : Claim7 := { stood := { row := codecClausesUptoRow, standIns := [], harness := (true, "10dc5932f4bc91d13c34c1a6016b55795359f4066f793325999472ddd429a22e"), looks := true }, kinds := [], alts := [], laidByText := true, laidKinds := [.data, .data], laidTests := true, laidLooks := .later }
def CodecClausesUptoCardSaid : Prop := Claim7.holds Tryz.pinned (.plain (OpenSpec.upto codecClausesSpec)) codecClausesUptoCard
end Rows
end Go.Proofs.YtjnipcakjoiplaaGreatDoor
