/-
  DERIVED. GIVEN WITH THE SEED: THE CARDS: each row of YtehpdgkbggiejabDoorRows.lean that lists a variable, with what it lists TIED to the program's text (the seventh form; the later family's looks); each row that meets fmt, with fmt's text TOLD by the authors' own Lean function (tested against real Go, not proved from fmt's source: count such statements apart). THE CARD IS WHAT COUNTS. Prove the row's statement (the work); the ties are given (YtehpdgkbggiejabDoorTie.lean); close each card by the builder's one call (the guide's Derived/Test/ToyasCard.lean, 'card_holds'). Laid BY PROGRAM, IN A SANDBOX (cutbox-door.mjs). By AI agents, Wed Nov 11 2026. No macro, syntax, notation, axiom, sorry.
-/
import Derived.Test.YtehpdgkbggiejabDoorRows
import GoSem.ClaimSeven
namespace Go.Proofs.YtehpdgkbggiejabDoor
namespace Rows

/-- THE TIED CARD OF 'pantrylaw16.ReplyKnown'. -/
def replyKnownCard : Claim7 := { stood := { row := replyKnownRow, standIns := [], harness := (true, "965f341d95beab20846b31abbb4e57875d9160fe73527ac27353ab957d63226c"), looks := false }, kinds := [], alts := [], laidByText := true, laidKinds := [.data, .data, .data, .data, .pinned], laidTests := true, laidLooks := .later }
def ReplyKnownCardSaid : Prop := Claim7.holds Tryd.pinned (.plain (OpenSpec.ofChange replyKnownSpec)) replyKnownCard

/-- THE SECOND FORM's CARD OF 'pantrylaw16.ReplyKnown'. -/
def replyKnownUptoCard : Claim7 := { stood := { row := replyKnownUptoRow, standIns := [], harness := (true, "965f341d95beab20846b31abbb4e57875d9160fe73527ac27353ab957d63226c"), looks := false }, kinds := [], alts := [], laidByText := true, laidKinds := [.data, .data, .data, .data, .pinned], laidTests := true, laidLooks := .later }
def ReplyKnownUptoCardSaid : Prop := Claim7.holds Tryd.pinned (.plain (OpenSpec.upto replyKnownSpec)) replyKnownUptoCard
end Rows
end Go.Proofs.YtehpdgkbggiejabDoor
