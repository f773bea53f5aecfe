/-
  DERIVED. GIVEN WITH THE SEED: THE CARDS: each row of YtaflggjgndkdlaaDoorRows.lean that lists a variable, with what it lists TIED to the program's text (the seventh form; the later family's looks); each row that meets fmt, with fmt's text TOLD by the authors' own Lean function (tested against real Go, not proved from fmt's source: count such statements apart). THE CARD IS WHAT COUNTS. Prove the row's statement (the work); the ties are given (YtaflggjgndkdlaaDoorTie.lean); close each card by the builder's one call (the guide's Derived/Test/ToyasCard.lean, 'card_holds'). Laid BY PROGRAM, IN A SANDBOX (cutbox-door.mjs). By AI agents, Wed Nov 11 2026. No macro, syntax, notation, axiom, sorry.
-/
import Derived.Test.YtaflggjgndkdlaaDoorRows
import GoSem.ClaimSeven
namespace Go.Proofs.YtaflggjgndkdlaaDoor
namespace Rows

/-- THE TIED CARD OF 'pantrylaw18.VerbsFinds'. -/
def verbsFindsCard : Claim7 := { stood := { row := verbsFindsRow, standIns := [], harness := (true, "edb786b8928e9c8b21da8b2620fa82a328e57b893525a11faf7c7140c2ef3eb9"), looks := false }, kinds := [], alts := [], laidByText := true, laidKinds := [.data, .pinned], laidTests := true, laidLooks := .later }
def VerbsFindsCardSaid : Prop := Claim7.holds Tryd.pinned (.plain (OpenSpec.ofChange verbsFindsSpec)) verbsFindsCard

/-- THE TIED CARD OF 'pantrylaw18.VerbsChecks'. -/
def verbsChecksCard : Claim7 := { stood := { row := verbsChecksRow, standIns := [], harness := (true, "edb786b8928e9c8b21da8b2620fa82a328e57b893525a11faf7c7140c2ef3eb9"), looks := false }, kinds := [], alts := [], laidByText := true, laidKinds := [.data, .pinned], laidTests := true, laidLooks := .later }
def VerbsChecksCardSaid : Prop := Claim7.holds Tryd.pinned (.plain (OpenSpec.ofChange verbsChecksSpec)) verbsChecksCard

/-- THE TIED CARD OF 'pantrylaw18.VerbsNames'. -/
def verbsNamesCard : Claim7 := { stood := { row := verbsNamesRow, standIns := [], harness := (true, "edb786b8928e9c8b21da8b2620fa82a328e57b893525a11faf7c7140c2ef3eb9"), looks := false }, kinds := [], alts := [], laidByText := true, laidKinds := [.data, .pinned], laidTests := true, laidLooks := .later }
def VerbsNamesCardSaid : Prop := Claim7.holds Tryd.pinned (.plain (OpenSpec.ofChange verbsNamesSpec)) verbsNamesCard

/-- THE TIED CARD OF 'pantrylaw18.VerbsCapitals'. -/
def verbsCapitalsCard : Claim7 := { stood := { row := verbsCapitalsRow, standIns := [], harness := (true, "edb786b8928e9c8b21da8b2620fa82a328e57b893525a11faf7c7140c2ef3eb9"), looks := false }, kinds := [], alts := [], laidByText := true, laidKinds := [.data, .pinned], laidTests := true, laidLooks := .later }
def VerbsCapitalsCardSaid : Prop := Claim7.holds Tryd.pinned (.plain (OpenSpec.ofChange verbsCapitalsSpec)) verbsCapitalsCard

/-- THE TIED CARD OF 'pantrylaw18.VerbsFlags'. -/
def verbsFlagsCard : Claim7 := { stood := { row := verbsFlagsRow, standIns := [], harness := (true, "edb786b8928e9c8b21da8b2620fa82a328e57b893525a11faf7c7140c2ef3eb9"), looks := false }, kinds := [], alts := [], laidByText := true, laidKinds := [.data, .pinned], laidTests := true, laidLooks := .later }
def VerbsFlagsCardSaid : Prop := Claim7.holds Tryd.pinned (.plain (OpenSpec.ofChange verbsFlagsSpec)) verbsFlagsCard

/-- THE TIED CARD OF 'pantrylaw18.VerbsPlaces'. -/
def verbsPlacesCard : Claim7 := { stood := { row := verbsPlacesRow, standIns := [], harness := (true, "edb786b8928e9c8b21da8b2620fa82a328e57b893525a11faf7c7140c2ef3eb9"), looks := false }, kinds := [], alts := [], laidByText := true, laidKinds := [.data, .pinned], laidTests := true, laidLooks := .later }
def VerbsPlacesCardSaid : Prop := Claim7.holds Tryd.pinned (.plain (OpenSpec.ofChange verbsPlacesSpec)) verbsPlacesCard

/-- THE SECOND FORM's CARD OF 'pantrylaw18.VerbsFinds'. -/
def verbsFindsUptoCard : Claim7 := { stood := { row := verbsFindsUptoRow, standIns := [], harness := (true, "edb786b8928e9c8b21da8b2620fa82a328e57b893525a11faf7c7140c2ef3eb9"), looks := false }, kinds := [], alts := [], laidByText := true, laidKinds := [.data, .pinned], laidTests := true, laidLooks := .later }
def VerbsFindsUptoCardSaid : Prop := Claim7.holds Tryd.pinned (.plain (OpenSpec.upto verbsFindsSpec)) verbsFindsUptoCard

/-- THE SECOND FORM's CARD OF 'pantrylaw18.VerbsChecks'. -/
def verbsChecksUptoCard : Claim7 := { stood := { row := verbsChecksUptoRow, standIns := [], harness := (true, "edb786b8928e9c8b21da8b2620fa82a328e57b893525a11faf7c7140c2ef3eb9"), looks := false }, kinds := [], alts := [], laidByText := true, laidKinds := [.data, .pinned], laidTests := true, laidLooks := .later }
def VerbsChecksUptoCardSaid : Prop := Claim7.holds Tryd.pinned (.plain (OpenSpec.upto verbsChecksSpec)) verbsChecksUptoCard

/-- THE SECOND FORM's CARD OF 'pantrylaw18.VerbsNames'. -/
def verbsNamesUptoCard : Claim7 := { stood := { row := verbsNamesUptoRow, standIns := [], harness := (true, "edb786b8928e9c8b21da8b2620fa82a328e57b893525a11faf7c7140c2ef3eb9"), looks := false }, kinds := [], alts := [], laidByText := true, laidKinds := [.data, .pinned], laidTests := true, laidLooks := .later }
def VerbsNamesUptoCardSaid : Prop := Claim7.holds Tryd.pinned (.plain (OpenSpec.upto verbsNamesSpec)) verbsNamesUptoCard

/-- THE SECOND FORM's CARD OF 'pantrylaw18.VerbsCapitals'. -/
def verbsCapitalsUptoCard : Claim7 := { stood := { row := verbsCapitalsUptoRow, standIns := [], harness := (true, "edb786b8928e9c8b21da8b2620fa82a328e57b893525a11faf7c7140c2ef3eb9"), looks := false }, kinds := [], alts := [], laidByText := true, laidKinds := [.data, .pinned], laidTests := true, laidLooks := .later }
def VerbsCapitalsUptoCardSaid : Prop := Claim7.holds Tryd.pinned (.plain (OpenSpec.upto verbsCapitalsSpec)) verbsCapitalsUptoCard

/-- THE SECOND FORM's CARD OF 'pantrylaw18.VerbsFlags'. -/
def verbsFlagsUptoCard : Claim7 := { stood := { row := verbsFlagsUptoRow, standIns := [], harness := (true, "edb786b8928e9c8b21da8b2620fa82a328e57b893525a11faf7c7140c2ef3eb9"), looks := false }, kinds := [], alts := [], laidByText := true, laidKinds := [.data, .pinned], laidTests := true, laidLooks := .later }
def VerbsFlagsUptoCardSaid : Prop := Claim7.holds Tryd.pinned (.plain (OpenSpec.upto verbsFlagsSpec)) verbsFlagsUptoCard

/-- THE SECOND FORM's CARD OF 'pantrylaw18.VerbsPlaces'. -/
def verbsPlacesUptoCard : Claim7 := { stood := { row := verbsPlacesUptoRow, standIns := [], harness := (true, "edb786b8928e9c8b21da8b2620fa82a328e57b893525a11faf7c7140c2ef3eb9"), looks := false }, kinds := [], alts := [], laidByText := true, laidKinds := [.data, .pinned], laidTests := true, laidLooks := .later }
def VerbsPlacesUptoCardSaid : Prop := Claim7.holds Tryd.pinned (.plain (OpenSpec.upto verbsPlacesSpec)) verbsPlacesUptoCard
end Rows
end Go.Proofs.YtaflggjgndkdlaaDoor
