/-
  DERIVED. GIVEN WITH THE SEED: THE CARDS: each row of YtndjjfbpjpjciaaGreatDoorRows.lean that lists a variable, with what it lists TIED to the program's text (the seventh form; the later family's looks); each row that meets fmt, with fmt's text TOLD by the authors' own Lean function (tested against real Go, not proved from fmt's source: count such statements apart). THE CARD IS WHAT COUNTS. Prove the row's statement (the work); the ties are given (YtndjjfbpjpjciaaGreatDoorTie.lean); close each card by the builder's one call (the guide's Derived/Test/ToyasCard.lean, 'card_holds'). Laid BY PROGRAM, IN A SANDBOX (cutbox-door.mjs). By AI agents, Wed Nov 11 2026. No macro, syntax, notation, axiom, sorry.
-/
import Derived.Test.YtndjjfbpjpjciaaGreatDoorRows
import GoSem.ClaimSeven
namespace Go.Proofs.YtndjjfbpjpjciaaGreatDoor
namespace Rows

/-- THE TIED CARD OF 'pantrylaw17.RequestPlays'. -/
def requestPlaysCard : Claim7 := { stood := { row := requestPlaysRow, standIns := [], harness := (true, "6c444b3630495d6d3bce8debc33dcbd5440f6a4d94b5793a9d1a78dc516dc01b"), looks := true }, kinds := [], alts := [], laidByText := true, laidKinds := [.data, .data, .data, .data, .sentinel, .sentinel, .sentinel, .sentinel, .sentinel, .sentinel, .sentinel, .sentinel, .pinned], laidTests := true, laidLooks := .later }
def RequestPlaysCardSaid : Prop := Claim7.holds Tryz.pinned (.plain (OpenSpec.ofChange requestPlaysSpec)) requestPlaysCard

/-- THE TIED CARD OF 'pantrylaw17.RequestNone'. -/
def requestNoneCard : Claim7 := { stood := { row := requestNoneRow, standIns := [], harness := (true, "6c444b3630495d6d3bce8debc33dcbd5440f6a4d94b5793a9d1a78dc516dc01b"), looks := true }, kinds := [], alts := [], laidByText := true, laidKinds := [.data, .data, .data, .data, .sentinel, .sentinel, .sentinel, .sentinel, .sentinel, .sentinel, .sentinel, .sentinel, .pinned], laidTests := true, laidLooks := .later }
def RequestNoneCardSaid : Prop := Claim7.holds Tryz.pinned (.plain (OpenSpec.ofChange requestNoneSpec)) requestNoneCard

/-- THE TIED CARD OF 'pantrylaw17.RequestPieces'. -/
def requestPiecesCard : Claim7 := { stood := { row := requestPiecesRow, standIns := [], harness := (true, "6c444b3630495d6d3bce8debc33dcbd5440f6a4d94b5793a9d1a78dc516dc01b"), looks := true }, kinds := [], alts := [], laidByText := true, laidKinds := [.data, .data, .data, .data, .sentinel, .sentinel, .sentinel, .sentinel, .sentinel, .sentinel, .sentinel, .sentinel, .pinned], laidTests := true, laidLooks := .later }
def RequestPiecesCardSaid : Prop := Claim7.holds Tryz.pinned (.plain (OpenSpec.ofChange requestPiecesSpec)) requestPiecesCard

/-- THE TIED CARD OF 'pantrylaw17.RequestBack'. -/
def requestBackCard : Claim7 := { stood := { row := requestBackRow, standIns := [], harness := (true, "6c444b3630495d6d3bce8debc33dcbd5440f6a4d94b5793a9d1a78dc516dc01b"), looks := true }, kinds := [], alts := [], laidByText := true, laidKinds := [.data, .data, .data, .data, .sentinel, .sentinel, .sentinel, .sentinel, .sentinel, .sentinel, .sentinel, .sentinel, .pinned], laidTests := true, laidLooks := .later }
def RequestBackCardSaid : Prop := Claim7.holds Tryz.pinned (.plain (OpenSpec.ofChange requestBackSpec)) requestBackCard

/-- THE TIED CARD OF 'pantrylaw17.RequestQuotes'. -/
def requestQuotesCard : Claim7 := { stood := { row := requestQuotesRow, standIns := [], harness := (true, "6c444b3630495d6d3bce8debc33dcbd5440f6a4d94b5793a9d1a78dc516dc01b"), looks := true }, kinds := [], alts := [], laidByText := true, laidKinds := [.data, .data, .data, .data, .sentinel, .sentinel, .sentinel, .sentinel, .sentinel, .sentinel, .sentinel, .sentinel, .pinned], laidTests := true, laidLooks := .later }
def RequestQuotesCardSaid : Prop := Claim7.holds Tryz.pinned (.plain (OpenSpec.ofChange requestQuotesSpec)) requestQuotesCard

/-- THE SECOND FORM's CARD OF 'pantrylaw17.RequestPlays'. -/
def requestPlaysUptoCard : Claim7 := { stood := { row := requestPlaysUptoRow, standIns := [], harness := (true, "6c444b3630495d6d3bce8debc33dcbd5440f6a4d94b5793a9d1a78dc516dc01b"), looks := true }, kinds := [], alts := [], laidByText := true, laidKinds := [.data, .data, .data, .data, .sentinel, .sentinel, .sentinel, .sentinel, .sentinel, .sentinel, .sentinel, .sentinel, .pinned], laidTests := true, laidLooks := .later }
def RequestPlaysUptoCardSaid : Prop := Claim7.holds Tryz.pinned (.plain (OpenSpec.upto requestPlaysSpec)) requestPlaysUptoCard

/-- THE SECOND FORM's CARD OF 'pantrylaw17.RequestNone'. -/
def requestNoneUptoCard : Claim7 := { stood := { row := requestNoneUptoRow, standIns := [], harness := (true, "6c444b3630495d6d3bce8debc33dcbd5440f6a4d94b5793a9d1a78dc516dc01b"), looks := true }, kinds := [], alts := [], laidByText := true, laidKinds := [.data, .data, .data, .data, .sentinel, .sentinel, .sentinel, .sentinel, .sentinel, .sentinel, .sentinel, .sentinel, .pinned], laidTests := true, laidLooks := .later }
def RequestNoneUptoCardSaid : Prop := Claim7.holds Tryz.pinned (.plain (OpenSpec.upto requestNoneSpec)) requestNoneUptoCard

/-- THE SECOND FORM's CARD OF 'pantrylaw17.RequestPieces'. -/
def requestPiecesUptoCard : Claim7 := { stood := { row := requestPiecesUptoRow, standIns := [], harness := (true, "6c444b3630495d6d3bce8debc33dcbd5440f6a4d94b5793a9d1a78dc516dc01b"), looks := true }, kinds := [], alts := [], laidByText := true, laidKinds := [.data, .data, .data, .data, .sentinel, .sentinel, .sentinel, .sentinel, .sentinel, .sentinel, .sentinel, .sentinel, .pinned], laidTests := true, laidLooks := .later }
def RequestPiecesUptoCardSaid : Prop := Claim7.holds Tryz.pinned (.plain (OpenSpec.upto requestPiecesSpec)) requestPiecesUptoCard

/-- THE SECOND FORM's CARD OF 'pantrylaw17.RequestBack'. -/
def requestBackUptoCard : Claim7 := { stood := { row := requestBackUptoRow, standIns := [], harness := (true, "6c444b3630495d6d3bce8debc33dcbd5440f6a4d94b5793a9d1a78dc516dc01b"), looks := true }, kinds := [], alts := [], laidByText := true, laidKinds := [.data, .data, .data, .data, .sentinel, .sentinel, .sentinel, .sentinel, .sentinel, .sentinel, .sentinel, .sentinel, .pinned], laidTests := true, laidLooks := .later }
def RequestBackUptoCardSaid : Prop := Claim7.holds Tryz.pinned (.plain (OpenSpec.upto requestBackSpec)) requestBackUptoCard

/-- THE SECOND FORM's CARD OF 'pantrylaw17.RequestQuotes'. -/
def requestQuotesUptoCard : Claim7 := { stood := { row := requestQuotesUptoRow, standIns := [], harness := (true, "6c444b3630495d6d3bce8debc33dcbd5440f6a4d94b5793a9d1a78dc516dc01b"), looks := true }, kinds := [], alts := [], laidByText := true, laidKinds := [.data, .data, .data, .data, .sentinel, .sentinel, .sentinel, .sentinel, .sentinel, .sentinel, .sentinel, .sentinel, .pinned], laidTests := true, laidLooks := .later }
def RequestQuotesUptoCardSaid : Prop := Claim7.holds Tryz.pinned (.plain (OpenSpec.upto requestQuotesSpec)) requestQuotesUptoCard
end Rows
end Go.Proofs.YtndjjfbpjpjciaaGreatDoor
