/-
  DERIVED. GIVEN WITH THE SEED: THE CARDS: each row of YtdfgijdededolabGreatDoorRows.lean that lists a variable, with what it lists TIED to the program's text (the seventh form; the later family's looks); each row that meets fmt, with fmt's text TOLD by the authors' own Lean function (tested against real Go, not proved from fmt's source: count such statements apart). THE CARD IS WHAT COUNTS. Prove the row's statement (the work); the ties are given (YtdfgijdededolabGreatDoorTie.lean); close each card by the builder's one call (the guide's Derived/Test/ToyasCard.lean, 'card_holds'). Laid BY PROGRAM, IN A SANDBOX (cutbox-door.mjs). By AI agents, Wed Nov 11 2026. No macro, syntax, notation, axiom, sorry.
-/
import Derived.Test.YtdfgijdededolabGreatDoorRows
import GoSem.ClaimSeven
namespace Go.Proofs.YtdfgijdededolabGreatDoor
namespace Rows

/-- THE TIED CARD OF 'hearsaylaw03.ClauseCounts'. -/
def clauseCountsCard : Claim7 := { stood := { row := clauseCountsRow, standIns := [], harness := (true, "75dbbc38789eddbc5aa98c8436f68609ed4bc7c869ffa191cd7a381ca2f034b1"), looks := false }, kinds := [], alts := [], laidByText := true, laidKinds := [.data, .data], laidTests := true, laidLooks := .later }
def ClauseCountsCardSaid : Prop := Claim7.holds Tryz.pinned (.plain (OpenSpec.ofChange clauseCountsSpec)) clauseCountsCard

/-- THE TIED CARD OF 'hearsaylaw03.ClauseOrders'. -/
def clauseOrdersCard : Claim7 := { stood := { row := clauseOrdersRow, standIns := [], harness := (true, "75dbbc38789eddbc5aa98c8436f68609ed4bc7c869ffa191cd7a381ca2f034b1"), looks := false }, kinds := [], alts := [], laidByText := true, laidKinds := [.data, .data], laidTests := true, laidLooks := .later }
def ClauseOrdersCardSaid : Prop := Claim7.holds Tryz.pinned (.plain (OpenSpec.ofChange clauseOrdersSpec)) clauseOrdersCard

/-- THE TIED CARD OF 'hearsaylaw03.ClauseApart'. -/
def clauseApartCard : Claim7 := { stood := { row := clauseApartRow, standIns := [], harness := (true, "75dbbc38789eddbc5aa98c8436f68609ed4bc7c869ffa191cd7a381ca2f034b1"), looks := false }, kinds := [], alts := [], laidByText := true, laidKinds := [.data, .data], laidTests := true, laidLooks := .later }
def ClauseApartCardSaid : Prop := Claim7.holds Tryz.pinned (.plain (OpenSpec.ofChange clauseApartSpec)) clauseApartCard

/-- THE SECOND FORM's CARD OF 'hearsaylaw03.ClauseCounts'. -/
def clauseCountsUptoCard : Claim7 := { stood := { row := clauseCountsUptoRow, standIns := [], harness := (true, "75dbbc38789eddbc5aa98c8436f68609ed4bc7c869ffa191cd7a381ca2f034b1"), looks := false }, kinds := [], alts := [], laidByText := true, laidKinds := [.data, .data], laidTests := true, laidLooks := .later }
def ClauseCountsUptoCardSaid : Prop := Claim7.holds Tryz.pinned (.plain (OpenSpec.upto clauseCountsSpec)) clauseCountsUptoCard

/-- THE SECOND FORM's CARD OF 'hearsaylaw03.ClauseOrders'. -/
def clauseOrdersUptoCard : Claim7 := { stood := { row := clauseOrdersUptoRow, standIns := [], harness := (true, "75dbbc38789eddbc5aa98c8436f68609ed4bc7c869ffa191cd7a381ca2f034b1"), looks := false }, kinds := [], alts := [], laidByText := true, laidKinds := [.data, .data], laidTests := true, laidLooks := .later }
def ClauseOrdersUptoCardSaid : Prop := Claim7.holds Tryz.pinned (.plain (OpenSpec.upto clauseOrdersSpec)) clauseOrdersUptoCard

/-- THE SECOND FORM's CARD OF 'hearsaylaw03.ClauseApart'. -/
def clauseApartUptoCard : Claim7 := { stood := { row := clauseApartUptoRow, standIns := [], harness := (true, "75dbbc38789eddbc5aa98c8436f68609ed4bc7c869ffa191cd7a381ca2f034b1"), looks := false }, kinds := [], alts := [], laidByText := true, laidKinds := [.data, .data], laidTests := true, laidLooks := .later }
def ClauseApartUptoCardSaid : Prop := Claim7.holds Tryz.pinned (.plain (OpenSpec.upto clauseApartSpec)) clauseApartUptoCard
end Rows
end Go.Proofs.YtdfgijdededolabGreatDoor
