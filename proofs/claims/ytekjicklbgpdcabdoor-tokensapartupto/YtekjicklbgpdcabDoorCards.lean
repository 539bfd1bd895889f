/-
  DERIVED. GIVEN WITH THE SEED: THE CARDS: each row of YtekjicklbgpdcabDoorRows.lean that lists a variable, with what it lists TIED to the program's text (the seventh form; the later family's looks); each row that meets fmt, with fmt's text TOLD by the authors' own Lean function (tested against real Go, not proved from fmt's source: count such statements apart). THE CARD IS WHAT COUNTS. Prove the row's statement (the work); the ties are given (YtekjicklbgpdcabDoorTie.lean); close each card by the builder's one call (the guide's Derived/Test/ToyasCard.lean, 'card_holds'). Laid BY PROGRAM, IN A SANDBOX (cutbox-door.mjs). By AI agents, Wed Nov 11 2026. No macro, syntax, notation, axiom, sorry.
-/
import Derived.Test.YtekjicklbgpdcabDoorRows
import GoSem.ClaimSeven
namespace Go.Proofs.YtekjicklbgpdcabDoor
namespace Rows

/-- THE TIED CARD OF 'hearsaylaw04.TokensAgain'. -/
def tokensAgainCard : Claim7 := { stood := { row := tokensAgainRow, standIns := [], harness := (true, "3c0624b91cf694cd69ad369669bda0208616c667d60e5bce25a3b1b4929699aa"), looks := true }, kinds := [], alts := [], laidByText := true, laidKinds := [.data, .data, .data, .sentinel, .sentinel, .data], laidTests := true, laidLooks := .later }
def TokensAgainCardSaid : Prop := Claim7.holds Tryd.pinned (.plain (OpenSpec.ofChange tokensAgainSpec)) tokensAgainCard

/-- THE TIED CARD OF 'hearsaylaw04.TokensApart'. -/
def tokensApartCard : Claim7 := { stood := { row := tokensApartRow, standIns := [], harness := (true, "3c0624b91cf694cd69ad369669bda0208616c667d60e5bce25a3b1b4929699aa"), looks := true }, kinds := [], alts := [], laidByText := true, laidKinds := [.data, .data, .data, .sentinel, .sentinel, .data], laidTests := true, laidLooks := .later }
def TokensApartCardSaid : Prop := Claim7.holds Tryd.pinned (.plain (OpenSpec.ofChange tokensApartSpec)) tokensApartCard

/-- THE TIED CARD OF 'hearsaylaw04.TokensCuts'. -/
def tokensCutsCard : Claim7 := { stood := { row := tokensCutsRow, standIns := [], harness := (true, "3c0624b91cf694cd69ad369669bda0208616c667d60e5bce25a3b1b4929699aa"), looks := true }, kinds := [], alts := [], laidByText := true, laidKinds := [.data, .data, .data, .data, .data, .sentinel, .sentinel, .data], laidTests := true, laidLooks := .later }
def TokensCutsCardSaid : Prop := Claim7.holds Tryd.pinned (.plain (OpenSpec.ofChange tokensCutsSpec)) tokensCutsCard

/-- THE TIED CARD OF 'hearsaylaw04.TokensSpells'. -/
def tokensSpellsCard : Claim7 := { stood := { row := tokensSpellsRow, standIns := [], harness := (true, "3c0624b91cf694cd69ad369669bda0208616c667d60e5bce25a3b1b4929699aa"), looks := true }, kinds := [], alts := [], laidByText := true, laidKinds := [.data, .data, .data, .data, .data, .sentinel, .sentinel, .data], laidTests := true, laidLooks := .later }
def TokensSpellsCardSaid : Prop := Claim7.holds Tryd.pinned (.plain (OpenSpec.ofChange tokensSpellsSpec)) tokensSpellsCard

/-- THE TIED CARD OF 'hearsaylaw04.TokensJoins'. -/
def tokensJoinsCard : Claim7 := { stood := { row := tokensJoinsRow, standIns := [], harness := (true, "3c0624b91cf694cd69ad369669bda0208616c667d60e5bce25a3b1b4929699aa"), looks := true }, kinds := [], alts := [], laidByText := true, laidKinds := [.data, .data, .data, .data, .data, .sentinel, .sentinel, .data], laidTests := true, laidLooks := .later }
def TokensJoinsCardSaid : Prop := Claim7.holds Tryd.pinned (.plain (OpenSpec.ofChange tokensJoinsSpec)) tokensJoinsCard

/-- THE SECOND FORM's CARD OF 'hearsaylaw04.TokensAgain'. -/
def tokensAgainUptoCard : Claim7 := { stood := { row := tokensAgainUptoRow, standIns := [], harness := (true, "3c0624b91cf694cd69ad369669bda0208616c667d60e5bce25a3b1b4929699aa"), looks := true }, kinds := [], alts := [], laidByText := true, laidKinds := [.data, .data, .data, .sentinel, .sentinel, .data], laidTests := true, laidLooks := .later }
def TokensAgainUptoCardSaid : Prop := Claim7.holds Tryd.pinned (.plain (OpenSpec.upto tokensAgainSpec)) tokensAgainUptoCard

/-- THE SECOND FORM's CARD OF 'hearsaylaw04.TokensApart'. -/
def tokensApartUptoCard : Claim7 := { stood := { row := tokensApartUptoRow, standIns := [], harness := (true, "3c0624b91cf694cd69ad369669bda0208616c667d60e5bce25a3b1b4929699aa"), looks := true }, kinds := [], alts := [], laidByText := true, laidKinds := [.data, .data, .data, .sentinel, .sentinel, .data], laidTests := true, laidLooks := .later }
def TokensApartUptoCardSaid : Prop := Claim7.holds Tryd.pinned (.plain (OpenSpec.upto tokensApartSpec)) tokensApartUptoCard

/-- THE SECOND FORM's CARD OF 'hearsaylaw04.TokensCuts'. -/
def tokensCutsUptoCard : Claim7 := { stood := { row := tokensCutsUptoRow, standIns := [], harness := (true, "3c0624b91cf694cd69ad369669bda0208616c667d60e5bce25a3b1b4929699aa"), looks := true }, kinds := [], alts := [], laidByText := true, laidKinds := [.data, .data, .data, .data, .data, .sentinel, .sentinel, .data], laidTests := true, laidLooks := .later }
def TokensCutsUptoCardSaid : Prop := Claim7.holds Tryd.pinned (.plain (OpenSpec.upto tokensCutsSpec)) tokensCutsUptoCard

/-- THE SECOND FORM's CARD OF 'hearsaylaw04.TokensSpells'. -/
def tokensSpellsUptoCard : Claim7 := { stood := { row := tokensSpellsUptoRow, standIns := [], harness := (true, "3c0624b91cf694cd69ad369669bda0208616c667d60e5bce25a3b1b4929699aa"), looks := true }, kinds := [], alts := [], laidByText := true, laidKinds := [.data, .data, .data, .data, .data, .sentinel, .sentinel, .data], laidTests := true, laidLooks := .later }
def TokensSpellsUptoCardSaid : Prop := Claim7.holds Tryd.pinned (.plain (OpenSpec.upto tokensSpellsSpec)) tokensSpellsUptoCard

/-- THE SECOND FORM's CARD OF 'hearsaylaw04.TokensJoins'. -/
def tokensJoinsUptoCard : Claim7 := { stood := { row := tokensJoinsUptoRow, standIns := [], harness := (true, "3c0624b91cf694cd69ad369669bda0208616c667d60e5bce25a3b1b4929699aa"), looks := true }, kinds := [], alts := [], laidByText := true, laidKinds := [.data, .data, .data, .data, .data, .sentinel, .sentinel, .data], laidTests := true, laidLooks := .later }
def TokensJoinsUptoCardSaid : Prop := Claim7.holds Tryd.pinned (.plain (OpenSpec.upto tokensJoinsSpec)) tokensJoinsUptoCard
end Rows
end Go.Proofs.YtekjicklbgpdcabDoor
