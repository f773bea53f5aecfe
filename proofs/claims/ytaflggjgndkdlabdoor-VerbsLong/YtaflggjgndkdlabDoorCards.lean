/-
  DERIVED. GIVEN WITH THE SEED: THE CARDS: each row of YtaflggjgndkdlabDoorRows.lean that lists a variable, with what it lists TIED to the program's text (the seventh form; the later family's looks); each row that meets fmt, with fmt's text TOLD by the authors' own Lean function (tested against real Go, not proved from fmt's source: count such statements apart). THE CARD IS WHAT COUNTS. Prove the row's statement (the work); the ties are given (YtaflggjgndkdlabDoorTie.lean); close each card by the builder's one call (the guide's Derived/Test/ToyasCard.lean, 'card_holds'). Laid BY PROGRAM, IN A SANDBOX (cutbox-door.mjs). By AI agents, Wed Nov 11 2026. No macro, syntax, notation, axiom, sorry.
-/
import Derived.Test.YtaflggjgndkdlabDoorRows
import GoSem.ClaimSeven
namespace Go.Proofs.YtaflggjgndkdlabDoor
namespace Rows

/-- THE TIED CARD OF 'pantrylaw18.VerbsLong'. -/
def verbsLongCard : Claim7 := { stood := { row := verbsLongRow, standIns := [], harness := (true, "601ddde6a79d82b1c9879c6b9935d0f5c4cbe826e7b241d98afcd451a1a5bda0"), looks := false }, kinds := [], alts := [], laidByText := true, laidKinds := [.data, .pinned], laidTests := true, laidLooks := .later }
def VerbsLongCardSaid : Prop := Claim7.holds Tryd.pinned (.plain (OpenSpec.ofChange verbsLongSpec)) verbsLongCard

/-- THE SECOND FORM's CARD OF 'pantrylaw18.VerbsLong'. -/
def verbsLongUptoCard : Claim7 := { stood := { row := verbsLongUptoRow, standIns := [], harness := (true, "601ddde6a79d82b1c9879c6b9935d0f5c4cbe826e7b241d98afcd451a1a5bda0"), looks := false }, kinds := [], alts := [], laidByText := true, laidKinds := [.data, .pinned], laidTests := true, laidLooks := .later }
def VerbsLongUptoCardSaid : Prop := Claim7.holds Tryd.pinned (.plain (OpenSpec.upto verbsLongSpec)) verbsLongUptoCard
end Rows
end Go.Proofs.YtaflggjgndkdlabDoor
