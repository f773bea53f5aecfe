/-
  DERIVED. GIVEN WITH THE SEED: THE CARDS: each row of YtdpclcopckbgeabDoorRows.lean that lists a variable, with what it lists TIED to the program's text (the seventh form; the later family's looks); each row that meets fmt, with fmt's text TOLD by the authors' own Lean function (tested against real Go, not proved from fmt's source: count such statements apart). THE CARD IS WHAT COUNTS. Prove the row's statement (the work); the ties are given (YtdpclcopckbgeabDoorTie.lean); close each card by the builder's one call (the guide's Derived/Test/ToyasCard.lean, 'card_holds'). Laid BY PROGRAM, IN A SANDBOX (cutbox-door.mjs). By AI agents, Wed Nov 11 2026. No macro, syntax, notation, axiom, sorry.
-/
import Derived.Test.YtdpclcopckbgeabDoorRows
import GoSem.ClaimSeven
namespace Go.Proofs.YtdpclcopckbgeabDoor
namespace Rows

/-- THE TIED CARD OF 'pantrylaw01.DigitSums'. -/
def digitSumsCard : Claim7 := { stood := { row := digitSumsRow, standIns := [], harness := (true, "0e5e1fb4dc8b8fd3d9b7617c09322cc564bc5a431ef9006326780ee6fbcebbf7"), looks := false }, kinds := [], alts := [], laidByText := true, laidKinds := [.data, .data, .data], laidTests := true, laidLooks := .later }
def DigitSumsCardSaid : Prop := Claim7.holds Tryd.pinned (.plain (OpenSpec.ofChange digitSumsSpec)) digitSumsCard

/-- THE TIED CARD OF 'pantrylaw01.DigitKnown'. -/
def digitKnownCard : Claim7 := { stood := { row := digitKnownRow, standIns := [], harness := (true, "0e5e1fb4dc8b8fd3d9b7617c09322cc564bc5a431ef9006326780ee6fbcebbf7"), looks := false }, kinds := [], alts := [], laidByText := true, laidKinds := [.data, .data, .data], laidTests := true, laidLooks := .later }
def DigitKnownCardSaid : Prop := Claim7.holds Tryd.pinned (.plain (OpenSpec.ofChange digitKnownSpec)) digitKnownCard

/-- THE SECOND FORM's CARD OF 'pantrylaw01.DigitSums'. -/
def digitSumsUptoCard : Claim7 := { stood := { row := digitSumsUptoRow, standIns := [], harness := (true, "0e5e1fb4dc8b8fd3d9b7617c09322cc564bc5a431ef9006326780ee6fbcebbf7"), looks := false }, kinds := [], alts := [], laidByText := true, laidKinds := [.data, .data, .data], laidTests := true, laidLooks := .later }
def DigitSumsUptoCardSaid : Prop := Claim7.holds Tryd.pinned (.plain (OpenSpec.upto digitSumsSpec)) digitSumsUptoCard

/-- THE SECOND FORM's CARD OF 'pantrylaw01.DigitKnown'. -/
def digitKnownUptoCard : Claim7 := { stood := { row := digitKnownUptoRow, standIns := [], harness := (true, "0e5e1fb4dc8b8fd3d9b7617c09322cc564bc5a431ef9006326780ee6fbcebbf7"), looks := false }, kinds := [], alts := [], laidByText := true, laidKinds := [.data, .data, .data], laidTests := true, laidLooks := .later }
def DigitKnownUptoCardSaid : Prop := Claim7.holds Tryd.pinned (.plain (OpenSpec.upto digitKnownSpec)) digitKnownUptoCard
end Rows
end Go.Proofs.YtdpclcopckbgeabDoor
