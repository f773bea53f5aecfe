/-
  DERIVED. GIVEN WITH THE SEED: THE CARDS: each row of YtdpclcopckbgeaaDoorRows.lean that lists a variable, with what it lists TIED to the program's text (the seventh form; the later family's looks); each row that meets fmt, with fmt's text TOLD by the authors' own Lean function (tested against real Go, not proved from fmt's source: count such statements apart). THE CARD IS WHAT COUNTS. Prove the row's statement (the work); the ties are given (YtdpclcopckbgeaaDoorTie.lean); close each card by the builder's one call (the guide's Derived/Test/ToyasCard.lean, 'card_holds'). Laid BY PROGRAM, IN A SANDBOX (cutbox-door.mjs). By AI agents, Wed Nov 11 2026. No macro, syntax, notation, axiom, sorry.
-/
import Derived.Test.YtdpclcopckbgeaaDoorRows
import GoSem.ClaimSeven
namespace Go.Proofs.YtdpclcopckbgeaaDoor
namespace Rows

/-- THE TIED CARD OF 'pantrylaw01.DigitWrites'. -/
def digitWritesCard : Claim7 := { stood := { row := digitWritesRow, standIns := [], harness := (true, "d29b9cd58077a2523bda7aeb0358a57806444e82669cd80cd7b868b20dda0e34"), looks := false }, kinds := [], alts := [], laidByText := true, laidKinds := [.data, .data, .data], laidTests := true, laidLooks := .later }
def DigitWritesCardSaid : Prop := Claim7.holds Tryd.pinned (.plain (OpenSpec.ofChange digitWritesSpec)) digitWritesCard

/-- THE TIED CARD OF 'pantrylaw01.DigitBack'. -/
def digitBackCard : Claim7 := { stood := { row := digitBackRow, standIns := [], harness := (true, "d29b9cd58077a2523bda7aeb0358a57806444e82669cd80cd7b868b20dda0e34"), looks := false }, kinds := [], alts := [], laidByText := true, laidKinds := [.data, .data, .data], laidTests := true, laidLooks := .later }
def DigitBackCardSaid : Prop := Claim7.holds Tryd.pinned (.plain (OpenSpec.ofChange digitBackSpec)) digitBackCard

/-- THE TIED CARD OF 'pantrylaw01.DigitStretch'. -/
def digitStretchCard : Claim7 := { stood := { row := digitStretchRow, standIns := [], harness := (true, "d29b9cd58077a2523bda7aeb0358a57806444e82669cd80cd7b868b20dda0e34"), looks := false }, kinds := [], alts := [], laidByText := true, laidKinds := [.data, .data, .data], laidTests := true, laidLooks := .later }
def DigitStretchCardSaid : Prop := Claim7.holds Tryd.pinned (.plain (OpenSpec.ofChange digitStretchSpec)) digitStretchCard

/-- THE SECOND FORM's CARD OF 'pantrylaw01.DigitWrites'. -/
def digitWritesUptoCard : Claim7 := { stood := { row := digitWritesUptoRow, standIns := [], harness := (true, "d29b9cd58077a2523bda7aeb0358a57806444e82669cd80cd7b868b20dda0e34"), looks := false }, kinds := [], alts := [], laidByText := true, laidKinds := [.data, .data, .data], laidTests := true, laidLooks := .later }
def DigitWritesUptoCardSaid : Prop := Claim7.holds Tryd.pinned (.plain (OpenSpec.upto digitWritesSpec)) digitWritesUptoCard

/-- THE SECOND FORM's CARD OF 'pantrylaw01.DigitBack'. -/
def digitBackUptoCard : Claim7 := { stood := { row := digitBackUptoRow, standIns := [], harness := (true, "d29b9cd58077a2523bda7aeb0358a57806444e82669cd80cd7b868b20dda0e34"), looks := false }, kinds := [], alts := [], laidByText := true, laidKinds := [.data, .data, .data], laidTests := true, laidLooks := .later }
def DigitBackUptoCardSaid : Prop := Claim7.holds Tryd.pinned (.plain (OpenSpec.upto digitBackSpec)) digitBackUptoCard

/-- THE SECOND FORM's CARD OF 'pantrylaw01.DigitStretch'. -/
def digitStretchUptoCard : Claim7 := { stood := { row := digitStretchUptoRow, standIns := [], harness := (true, "d29b9cd58077a2523bda7aeb0358a57806444e82669cd80cd7b868b20dda0e34"), looks := false }, kinds := [], alts := [], laidByText := true, laidKinds := [.data, .data, .data], laidTests := true, laidLooks := .later }
def DigitStretchUptoCardSaid : Prop := Claim7.holds Tryd.pinned (.plain (OpenSpec.upto digitStretchSpec)) digitStretchUptoCard
end Rows
end Go.Proofs.YtdpclcopckbgeaaDoor
