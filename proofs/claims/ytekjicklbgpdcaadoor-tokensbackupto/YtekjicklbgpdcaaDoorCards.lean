/-
  DERIVED. GIVEN WITH THE SEED: THE CARDS: each row of YtekjicklbgpdcaaDoorRows.lean that lists a variable, with what it lists TIED to the program's text (the seventh form; the later family's looks); each row that meets fmt, with fmt's text TOLD by the authors' own Lean function (tested against real Go, not proved from fmt's source: count such statements apart). THE CARD IS WHAT COUNTS. Prove the row's statement (the work); the ties are given (YtekjicklbgpdcaaDoorTie.lean); close each card by the builder's one call (the guide's Derived/Test/ToyasCard.lean, 'card_holds'). Laid BY PROGRAM, IN A SANDBOX (cutbox-door.mjs). By AI agents, Wed Nov 11 2026. No macro, syntax, notation, axiom, sorry.
-/
import Derived.Test.YtekjicklbgpdcaaDoorRows
import GoSem.ClaimSeven
namespace Go.Proofs.YtekjicklbgpdcaaDoor
namespace Rows

/-- THE TIED CARD OF 'hearsaylaw04.TokensWords'. -/
def tokensWordsCard : Claim7 := { stood := { row := tokensWordsRow, standIns := [], harness := (true, "c3fd951d02bcdd0629341cbef966942f407245f9b307c3394d92ca98eb7cff86"), looks := true }, kinds := [], alts := [], laidByText := true, laidKinds := [.data], laidTests := true, laidLooks := .later }
def TokensWordsCardSaid : Prop := Claim7.holds Tryd.pinned (.plain (OpenSpec.ofChange tokensWordsSpec)) tokensWordsCard

/-- THE TIED CARD OF 'hearsaylaw04.TokensFront'. -/
def tokensFrontCard : Claim7 := { stood := { row := tokensFrontRow, standIns := [], harness := (true, "c3fd951d02bcdd0629341cbef966942f407245f9b307c3394d92ca98eb7cff86"), looks := true }, kinds := [], alts := [], laidByText := true, laidKinds := [.data, .data, .data, .sentinel, .sentinel, .data], laidTests := true, laidLooks := .later }
def TokensFrontCardSaid : Prop := Claim7.holds Tryd.pinned (.plain (OpenSpec.ofChange tokensFrontSpec)) tokensFrontCard

/-- THE TIED CARD OF 'hearsaylaw04.TokensPlaces'. -/
def tokensPlacesCard : Claim7 := { stood := { row := tokensPlacesRow, standIns := [], harness := (true, "c3fd951d02bcdd0629341cbef966942f407245f9b307c3394d92ca98eb7cff86"), looks := true }, kinds := [], alts := [], laidByText := true, laidKinds := [.data, .data, .data, .sentinel, .sentinel, .data], laidTests := true, laidLooks := .later }
def TokensPlacesCardSaid : Prop := Claim7.holds Tryd.pinned (.plain (OpenSpec.ofChange tokensPlacesSpec)) tokensPlacesCard

/-- THE TIED CARD OF 'hearsaylaw04.TokensBlanks'. -/
def tokensBlanksCard : Claim7 := { stood := { row := tokensBlanksRow, standIns := [], harness := (true, "c3fd951d02bcdd0629341cbef966942f407245f9b307c3394d92ca98eb7cff86"), looks := true }, kinds := [], alts := [], laidByText := true, laidKinds := [.data, .data, .data, .sentinel, .sentinel, .data], laidTests := true, laidLooks := .later }
def TokensBlanksCardSaid : Prop := Claim7.holds Tryd.pinned (.plain (OpenSpec.ofChange tokensBlanksSpec)) tokensBlanksCard

/-- THE TIED CARD OF 'hearsaylaw04.TokensQuoted'. -/
def tokensQuotedCard : Claim7 := { stood := { row := tokensQuotedRow, standIns := [], harness := (true, "c3fd951d02bcdd0629341cbef966942f407245f9b307c3394d92ca98eb7cff86"), looks := true }, kinds := [], alts := [], laidByText := true, laidKinds := [.data, .data, .data, .sentinel, .sentinel, .data], laidTests := true, laidLooks := .later }
def TokensQuotedCardSaid : Prop := Claim7.holds Tryd.pinned (.plain (OpenSpec.ofChange tokensQuotedSpec)) tokensQuotedCard

/-- THE TIED CARD OF 'hearsaylaw04.TokensBack'. -/
def tokensBackCard : Claim7 := { stood := { row := tokensBackRow, standIns := [], harness := (true, "c3fd951d02bcdd0629341cbef966942f407245f9b307c3394d92ca98eb7cff86"), looks := true }, kinds := [], alts := [], laidByText := true, laidKinds := [.data, .data, .data, .sentinel, .sentinel, .data], laidTests := true, laidLooks := .later }
def TokensBackCardSaid : Prop := Claim7.holds Tryd.pinned (.plain (OpenSpec.ofChange tokensBackSpec)) tokensBackCard

/-- THE SECOND FORM's CARD OF 'hearsaylaw04.TokensWords'. -/
def tokensWordsUptoCard : Claim7 := { stood := { row := tokensWordsUptoRow, standIns := [], harness := (true, "c3fd951d02bcdd0629341cbef966942f407245f9b307c3394d92ca98eb7cff86"), looks := true }, kinds := [], alts := [], laidByText := true, laidKinds := [.data], laidTests := true, laidLooks := .later }
def TokensWordsUptoCardSaid : Prop := Claim7.holds Tryd.pinned (.plain (OpenSpec.upto tokensWordsSpec)) tokensWordsUptoCard

/-- THE SECOND FORM's CARD OF 'hearsaylaw04.TokensFront'. -/
def tokensFrontUptoCard : Claim7 := { stood := { row := tokensFrontUptoRow, standIns := [], harness := (true, "c3fd951d02bcdd0629341cbef966942f407245f9b307c3394d92ca98eb7cff86"), looks := true }, kinds := [], alts := [], laidByText := true, laidKinds := [.data, .data, .data, .sentinel, .sentinel, .data], laidTests := true, laidLooks := .later }
def TokensFrontUptoCardSaid : Prop := Claim7.holds Tryd.pinned (.plain (OpenSpec.upto tokensFrontSpec)) tokensFrontUptoCard

/-- THE SECOND FORM's CARD OF 'hearsaylaw04.TokensPlaces'. -/
def tokensPlacesUptoCard : Claim7 := { stood := { row := tokensPlacesUptoRow, standIns := [], harness := (true, "c3fd951d02bcdd0629341cbef966942f407245f9b307c3394d92ca98eb7cff86"), looks := true }, kinds := [], alts := [], laidByText := true, laidKinds := [.data, .data, .data, .sentinel, .sentinel, .data], laidTests := true, laidLooks := .later }
def TokensPlacesUptoCardSaid : Prop := Claim7.holds Tryd.pinned (.plain (OpenSpec.upto tokensPlacesSpec)) tokensPlacesUptoCard

/-- THE SECOND FORM's CARD OF 'hearsaylaw04.TokensBlanks'. -/
def tokensBlanksUptoCard : Claim7 := { stood := { row := tokensBlanksUptoRow, standIns := [], harness := (true, "c3fd951d02bcdd0629341cbef966942f407245f9b307c3394d92ca98eb7cff86"), looks := true }, kinds := [], alts := [], laidByText := true, laidKinds := [.data, .data, .data, .sentinel, .sentinel, .data], laidTests := true, laidLooks := .later }
def TokensBlanksUptoCardSaid : Prop := Claim7.holds Tryd.pinned (.plain (OpenSpec.upto tokensBlanksSpec)) tokensBlanksUptoCard

/-- THE SECOND FORM's CARD OF 'hearsaylaw04.TokensQuoted'. -/
def tokensQuotedUptoCard : Claim7 := { stood := { row := tokensQuotedUptoRow, standIns := [], harness := (true, "c3fd951d02bcdd0629341cbef966942f407245f9b307c3394d92ca98eb7cff86"), looks := true }, kinds := [], alts := [], laidByText := true, laidKinds := [.data, .data, .data, .sentinel, .sentinel, .data], laidTests := true, laidLooks := .later }
def TokensQuotedUptoCardSaid : Prop := Claim7.holds Tryd.pinned (.plain (OpenSpec.upto tokensQuotedSpec)) tokensQuotedUptoCard

/-- THE SECOND FORM's CARD OF 'hearsaylaw04.TokensBack'. -/
def tokensBackUptoCard : Claim7 := { stood := { row := tokensBackUptoRow, standIns := [], harness := (true, "c3fd951d02bcdd0629341cbef966942f407245f9b307c3394d92ca98eb7cff86"), looks := true }, kinds := [], alts := [], laidByText := true, laidKinds := [.data, .data, .data, .sentinel, .sentinel, .data], laidTests := true, laidLooks := .later }
def TokensBackUptoCardSaid : Prop := Claim7.holds Tryd.pinned (.plain (OpenSpec.upto tokensBackSpec)) tokensBackUptoCard
end Rows
end Go.Proofs.YtekjicklbgpdcaaDoor
