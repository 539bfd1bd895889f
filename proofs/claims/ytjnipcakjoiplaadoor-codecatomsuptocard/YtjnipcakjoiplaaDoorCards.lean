/-
  DERIVED. GIVEN WITH THE SEED: THE CARDS: each row of YtjnipcakjoiplaaDoorRows.lean that lists a variable, with what it lists TIED to the program's text (the seventh form; the later family's looks); each row that meets fmt, with fmt's text TOLD by the authors' own Lean function (tested against real Go, not proved from fmt's source: count such statements apart). THE CARD IS WHAT COUNTS. Prove the row's statement (the work); the ties are given (YtjnipcakjoiplaaDoorTie.lean); close each card by the builder's one call (the guide's Derived/Test/ToyasCard.lean, 'card_holds'). Laid BY PROGRAM, IN A SANDBOX (cutbox-door.mjs). By AI agents, Wed Nov 11 2026. No macro, syntax, notation, axiom, sorry.
-/
import Derived.Test.YtjnipcakjoiplaaDoorRows
import GoSem.ClaimSeven
namespace Go.Proofs.YtjnipcakjoiplaaDoor
namespace Rows

/-- THE TIED CARD OF 'hearsaylaw06.CodecAtoms'. -/
def codecAtomsCard : Claim7 := { stood := { row := codecAtomsRow, standIns := [], harness := (true, "8c42445b2876a4332968621b82802c2de0c45f0b0c8bbc0d6df70cdcb1e684cb"), looks := true }, kinds := [], alts := [], laidByText := true, laidKinds := [.data], laidTests := true, laidLooks := .later }
def CodecAtomsCardSaid : Prop := Claim7.holds Tryd.pinned (.plain (OpenSpec.ofChange codecAtomsSpec)) codecAtomsCard

/-- THE SECOND FORM's CARD OF 'hearsaylaw06.CodecAtoms'. -/
def codecAtomsUptoCard : Claim7 := { stood := { row := codecAtomsUptoRow, standIns := [], harness := (true, "8c42445b2876a4332968621b82802c2de0c45f0b0c8bbc0d6df70cdcb1e684cb"), looks := true }, kinds := [], alts := [], laidByText := true, laidKinds := [.data], laidTests := true, laidLooks := .later }
def CodecAtomsUptoCardSaid : Prop := Claim7.holds Tryd.pinned (.plain (OpenSpec.upto codecAtomsSpec)) codecAtomsUptoCard
end Rows
end Go.Proofs.YtjnipcakjoiplaaDoor
