/-
  DERIVED. GIVEN WITH THE SEED: THE CARDS: each row of YtoalnfkjpdgbiaaDoorRows.lean that lists a variable, with what it lists TIED to the program's text (the seventh form; the later family's looks); each row that meets fmt, with fmt's text TOLD by the authors' own Lean function (tested against real Go, not proved from fmt's source: count such statements apart). THE CARD IS WHAT COUNTS. Prove the row's statement (the work); the ties are given (YtoalnfkjpdgbiaaDoorTie.lean); close each card by the builder's one call (the guide's Derived/Test/ToyasCard.lean, 'card_holds'). Laid BY PROGRAM, IN A SANDBOX (cutbox-door.mjs). By AI agents, Wed Nov 11 2026. No macro, syntax, notation, axiom, sorry.
-/
import Derived.Test.YtoalnfkjpdgbiaaDoorRows
import GoSem.ClaimSeven
namespace Go.Proofs.YtoalnfkjpdgbiaaDoor
namespace Rows

/-- THE TIED CARD OF 'pantrylaw16.ReplyWrites'. -/
def replyWritesCard : Claim7 := { stood := { row := replyWritesRow, standIns := [], harness := (true, "23fc63bc0e3822bb5439e86b1a4299d18f46c3898fc733071d739e07c264caba"), looks := false }, kinds := [], alts := [], laidByText := true, laidKinds := [.data, .data, .data], laidTests := true, laidLooks := .later }
def ReplyWritesCardSaid : Prop := Claim7.holds Tryd.pinned (.plain (OpenSpec.ofChange replyWritesSpec)) replyWritesCard

/-- THE TIED CARD OF 'pantrylaw16.ReplyReads'. -/
def replyReadsCard : Claim7 := { stood := { row := replyReadsRow, standIns := [], harness := (true, "23fc63bc0e3822bb5439e86b1a4299d18f46c3898fc733071d739e07c264caba"), looks := false }, kinds := [], alts := [], laidByText := true, laidKinds := [.data, .pinned], laidTests := true, laidLooks := .later }
def ReplyReadsCardSaid : Prop := Claim7.holds Tryd.pinned (.plain (OpenSpec.ofChange replyReadsSpec)) replyReadsCard

/-- THE TIED CARD OF 'pantrylaw16.ReplyMakes'. -/
def replyMakesCard : Claim7 := { stood := { row := replyMakesRow, standIns := [], harness := (true, "23fc63bc0e3822bb5439e86b1a4299d18f46c3898fc733071d739e07c264caba"), looks := false }, kinds := [], alts := [], laidByText := true, laidKinds := [.data, .data, .data, .data, .pinned], laidTests := true, laidLooks := .later }
def ReplyMakesCardSaid : Prop := Claim7.holds Tryd.pinned (.plain (OpenSpec.ofChange replyMakesSpec)) replyMakesCard

/-- THE TIED CARD OF 'pantrylaw16.ReplyBack'. -/
def replyBackCard : Claim7 := { stood := { row := replyBackRow, standIns := [], harness := (true, "23fc63bc0e3822bb5439e86b1a4299d18f46c3898fc733071d739e07c264caba"), looks := false }, kinds := [], alts := [], laidByText := true, laidKinds := [.data, .data, .data, .data, .pinned], laidTests := true, laidLooks := .later }
def ReplyBackCardSaid : Prop := Claim7.holds Tryd.pinned (.plain (OpenSpec.ofChange replyBackSpec)) replyBackCard

/-- THE TIED CARD OF 'pantrylaw16.ReplyForm'. -/
def replyFormCard : Claim7 := { stood := { row := replyFormRow, standIns := [], harness := (true, "23fc63bc0e3822bb5439e86b1a4299d18f46c3898fc733071d739e07c264caba"), looks := false }, kinds := [], alts := [], laidByText := true, laidKinds := [.data, .data, .data, .data, .pinned], laidTests := true, laidLooks := .later }
def ReplyFormCardSaid : Prop := Claim7.holds Tryd.pinned (.plain (OpenSpec.ofChange replyFormSpec)) replyFormCard

/-- THE TIED CARD OF 'pantrylaw16.ReplyCommands'. -/
def replyCommandsCard : Claim7 := { stood := { row := replyCommandsRow, standIns := [], harness := (true, "23fc63bc0e3822bb5439e86b1a4299d18f46c3898fc733071d739e07c264caba"), looks := false }, kinds := [], alts := [], laidByText := true, laidKinds := [.data, .data, .data, .data, .pinned], laidTests := true, laidLooks := .later }
def ReplyCommandsCardSaid : Prop := Claim7.holds Tryd.pinned (.plain (OpenSpec.ofChange replyCommandsSpec)) replyCommandsCard

/-- THE SECOND FORM's CARD OF 'pantrylaw16.ReplyWrites'. -/
def replyWritesUptoCard : Claim7 := { stood := { row := replyWritesUptoRow, standIns := [], harness := (true, "23fc63bc0e3822bb5439e86b1a4299d18f46c3898fc733071d739e07c264caba"), looks := false }, kinds := [], alts := [], laidByText := true, laidKinds := [.data, .data, .data], laidTests := true, laidLooks := .later }
def ReplyWritesUptoCardSaid : Prop := Claim7.holds Tryd.pinned (.plain (OpenSpec.upto replyWritesSpec)) replyWritesUptoCard

/-- THE SECOND FORM's CARD OF 'pantrylaw16.ReplyReads'. -/
def replyReadsUptoCard : Claim7 := { stood := { row := replyReadsUptoRow, standIns := [], harness := (true, "23fc63bc0e3822bb5439e86b1a4299d18f46c3898fc733071d739e07c264caba"), looks := false }, kinds := [], alts := [], laidByText := true, laidKinds := [.data, .pinned], laidTests := true, laidLooks := .later }
def ReplyReadsUptoCardSaid : Prop := Claim7.holds Tryd.pinned (.plain (OpenSpec.upto replyReadsSpec)) replyReadsUptoCard

/-- THE SECOND FORM's CARD OF 'pantrylaw16.ReplyMakes'. -/
def replyMakesUptoCard : Claim7 := { stood := { row := replyMakesUptoRow, standIns := [], harness := (true, "23fc63bc0e3822bb5439e86b1a4299d18f46c3898fc733071d739e07c264caba"), looks := false }, kinds := [], alts := [], laidByText := true, laidKinds := [.data, .data, .data, .data, .pinned], laidTests := true, laidLooks := .later }
def ReplyMakesUptoCardSaid : Prop := Claim7.holds Tryd.pinned (.plain (OpenSpec.upto replyMakesSpec)) replyMakesUptoCard

/-- THE SECOND FORM's CARD OF 'pantrylaw16.ReplyBack'. -/
def replyBackUptoCard : Claim7 := { stood := { row := replyBackUptoRow, standIns := [], harness := (true, "23fc63bc0e3822bb5439e86b1a4299d18f46c3898fc733071d739e07c264caba"), looks := false }, kinds := [], alts := [], laidByText := true, laidKinds := [.data, .data, .data, .data, .pinned], laidTests := true, laidLooks := .later }
def ReplyBackUptoCardSaid : Prop := Claim7.holds Tryd.pinned (.plain (OpenSpec.upto replyBackSpec)) replyBackUptoCard

/-- THE SECOND FORM's CARD OF 'pantrylaw16.ReplyForm'. -/
def replyFormUptoCard : Claim7 := { stood := { row := replyFormUptoRow, standIns := [], harness := (true, "23fc63bc0e3822bb5439e86b1a4299d18f46c3898fc733071d739e07c264caba"), looks := false }, kinds := [], alts := [], laidByText := true, laidKinds := [.data, .data, .data, .data, .pinned], laidTests := true, laidLooks := .later }
def ReplyFormUptoCardSaid : Prop := Claim7.holds Tryd.pinned (.plain (OpenSpec.upto replyFormSpec)) replyFormUptoCard

/-- THE SECOND FORM's CARD OF 'pantrylaw16.ReplyCommands'. -/
def replyCommandsUptoCard : Claim7 := { stood := { row := replyCommandsUptoRow, standIns := [], harness := (true, "23fc63bc0e3822bb5439e86b1a4299d18f46c3898fc733071d739e07c264caba"), looks := false }, kinds := [], alts := [], laidByText := true, laidKinds := [.data, .data, .data, .data, .pinned], laidTests := true, laidLooks := .later }
def ReplyCommandsUptoCardSaid : Prop := Claim7.holds Tryd.pinned (.plain (OpenSpec.upto replyCommandsSpec)) replyCommandsUptoCard
end Rows
end Go.Proofs.YtoalnfkjpdgbiaaDoor
