/-
  NARROWER THAN 'FOR EVERY INPUT', by the rows' own cells (each row's printed sentence says how): VerbsFinds: laid · VerbsChecks: laid · VerbsNames: laid · VerbsCapitals: laid · VerbsFlags: laid · VerbsPlaces: laid.
  DERIVED. THE GIVEN ROWS OF THIS SEAT. 6 by the template 'for every input the law returns true; each argument reads behind the call as it read before'; 0 by the template 'total and deterministic' (their statements: YtaflggjgndkdlaaDoorTotals.lean).
  GIVEN WITH THE SEED: the statements are not yours to turn. If you find one false, say at which input.
  Laid BY PROGRAM, IN A SANDBOX (cutbox-rows.mjs): the forced cells as the released guide's own fill.sh prints them over the translation 3029e0a4f576a83d… (all of the seat's roots in one cut). By AI agents, Wed Nov 11 2026. No macro, syntax, notation, axiom, sorry.
-/
import Derived.Test.YtaflggjgndkdlaaDoorChecked
import GoSem.PinnedTables
import GoSem.Claim
import GoSem.ClaimJoined
import GoSem.ClaimMapViews
import Derived.JoinedTies
import Derived.KernelRfl
namespace Go.Proofs.YtaflggjgndkdlaaDoor
/- THE CELL 'sum', in the pinned program and in every row, IS THE sha256 OF THE DUMP (.gsa) THAT YtaflggjgndkdlaaDoorProg.lean LOADS. Nothing in Lean hashes anything: it is a label: what it is worth is what the hold of that sum in a sandbox is worth. -/
noncomputable def Tryd.pinned : Pinned := { name := "ytaflggjgndkdlaadoor", sum := "3029e0a4f576a83db223347ae1fe38d42471f72006c2dcc881a3dde81700520e", checked := Tryd.checked }
namespace Rows
def none {H : Type} : Left H := { results := [], args := [] }

/- WHAT THE LISTED PACKAGE-LEVEL VARIABLES READ AS WHEN THE CALL BEGINS. Each datum BY PROGRAM (the guide's laid-datum.mjs) off the statement by which the dump's own 'gosem.cut.vars' lays the variable. In a bare row this is a premise. The card (YtaflggjgndkdlaaDoorCards.lean) ties it to the program's text. -/
def laid_unicode_utf8_acceptRanges {H : Type} : DataW H := .agg [.agg [.lit (.int .u8 128), .lit (.int .u8 191)], .agg [.lit (.int .u8 160), .lit (.int .u8 191)], .agg [.lit (.int .u8 128), .lit (.int .u8 159)], .agg [.lit (.int .u8 144), .lit (.int .u8 191)], .agg [.lit (.int .u8 128), .lit (.int .u8 143)], .agg [.lit (.int .u8 0), .lit (.int .u8 0)], .agg [.lit (.int .u8 0), .lit (.int .u8 0)], .agg [.lit (.int .u8 0), .lit (.int .u8 0)], .agg [.lit (.int .u8 0), .lit (.int .u8 0)], .agg [.lit (.int .u8 0), .lit (.int .u8 0)], .agg [.lit (.int .u8 0), .lit (.int .u8 0)], .agg [.lit (.int .u8 0), .lit (.int .u8 0)], .agg [.lit (.int .u8 0), .lit (.int .u8 0)], .agg [.lit (.int .u8 0), .lit (.int .u8 0)], .agg [.lit (.int .u8 0), .lit (.int .u8 0)], .agg [.lit (.int .u8 0), .lit (.int .u8 0)]]
/-- One of Go's own tables, pinned by name: the form's constant. -/
def laid_unicode_utf8_first : DataW Unit := Go.Pinned.utf8First

/-- 'pantrylaw18.VerbsFinds': WHATEVER THE INPUT: true; the input reads as it did. -/
def verbsFindsSpec : ChangeSpec := { name := "verbsFinds", fn := fun _ => fun
  | [d] => { results := [.lit (.bool true)], args := [d] }
  | _ => none }
def verbsFindsRow : OpenClaim := { program := "ytaflggjgndkdlaadoor", sum := "3029e0a4f576a83db223347ae1fe38d42471f72006c2dcc881a3dde81700520e", func := "pantry/pantrylaw18.VerbsFinds", spec := "verbsFinds", inPlace := ["internal/bytealg.IndexByteString", "internal/bytealg.IndexString"], unfollowed := true, recurses := true, named := ["unicode/utf8.first", "unicode/utf8.acceptRanges", "internal/bytealg.MaxLen"], apart := false, laid := [("unicode/utf8.acceptRanges", laid_unicode_utf8_acceptRanges), ("unicode/utf8.first", laid_unicode_utf8_first)] }
def VerbsFindsSaid : Prop := verbsFindsRow.holds Tryd.pinned (OpenSpec.ofChange verbsFindsSpec)

/-- ITS FALSE NEIGHBOUR: 'it returns false'. Refute it at one input. -/
def verbsFindsWrong : ChangeSpec := { name := "verbsFinds", fn := fun _ => fun
  | [d] => { results := [.lit (.bool false)], args := [d] }
  | _ => none }
def VerbsFindsWrongFalsely : Prop := verbsFindsRow.holds Tryd.pinned (OpenSpec.ofChange verbsFindsWrong)

/-- 'pantrylaw18.VerbsChecks': WHATEVER THE INPUT: true; the input reads as it did. -/
def verbsChecksSpec : ChangeSpec := { name := "verbsChecks", fn := fun _ => fun
  | [d] => { results := [.lit (.bool true)], args := [d] }
  | _ => none }
def verbsChecksRow : OpenClaim := { program := "ytaflggjgndkdlaadoor", sum := "3029e0a4f576a83db223347ae1fe38d42471f72006c2dcc881a3dde81700520e", func := "pantry/pantrylaw18.VerbsChecks", spec := "verbsChecks", inPlace := ["internal/bytealg.IndexByteString", "internal/bytealg.IndexString"], unfollowed := true, recurses := true, named := ["unicode/utf8.first", "unicode/utf8.acceptRanges", "internal/bytealg.MaxLen"], apart := false, laid := [("unicode/utf8.acceptRanges", laid_unicode_utf8_acceptRanges), ("unicode/utf8.first", laid_unicode_utf8_first)] }
def VerbsChecksSaid : Prop := verbsChecksRow.holds Tryd.pinned (OpenSpec.ofChange verbsChecksSpec)

/-- ITS FALSE NEIGHBOUR: 'it returns false'. Refute it at one input. -/
def verbsChecksWrong : ChangeSpec := { name := "verbsChecks", fn := fun _ => fun
  | [d] => { results := [.lit (.bool false)], args := [d] }
  | _ => none }
def VerbsChecksWrongFalsely : Prop := verbsChecksRow.holds Tryd.pinned (OpenSpec.ofChange verbsChecksWrong)

/-- 'pantrylaw18.VerbsNames': WHATEVER THE INPUT: true; the input reads as it did. -/
def verbsNamesSpec : ChangeSpec := { name := "verbsNames", fn := fun _ => fun
  | [] => { results := [.lit (.bool true)], args := [] }
  | _ => none }
def verbsNamesRow : OpenClaim := { program := "ytaflggjgndkdlaadoor", sum := "3029e0a4f576a83db223347ae1fe38d42471f72006c2dcc881a3dde81700520e", func := "pantry/pantrylaw18.VerbsNames", spec := "verbsNames", inPlace := ["internal/bytealg.CountString", "internal/bytealg.IndexByteString", "internal/bytealg.IndexString"], unfollowed := true, recurses := true, named := ["unicode/utf8.first", "unicode/utf8.acceptRanges", "internal/bytealg.MaxLen"], apart := false, laid := [("unicode/utf8.acceptRanges", laid_unicode_utf8_acceptRanges), ("unicode/utf8.first", laid_unicode_utf8_first)] }
def VerbsNamesSaid : Prop := verbsNamesRow.holds Tryd.pinned (OpenSpec.ofChange verbsNamesSpec)

/-- ITS FALSE NEIGHBOUR: 'it returns false'. Refute it at one input. -/
def verbsNamesWrong : ChangeSpec := { name := "verbsNames", fn := fun _ => fun
  | [] => { results := [.lit (.bool false)], args := [] }
  | _ => none }
def VerbsNamesWrongFalsely : Prop := verbsNamesRow.holds Tryd.pinned (OpenSpec.ofChange verbsNamesWrong)

/-- 'pantrylaw18.VerbsCapitals': WHATEVER THE INPUT: true; the input reads as it did. -/
def verbsCapitalsSpec : ChangeSpec := { name := "verbsCapitals", fn := fun _ => fun
  | [d1, d2, d3] => { results := [.lit (.bool true)], args := [d1, d2, d3] }
  | _ => none }
def verbsCapitalsRow : OpenClaim := { program := "ytaflggjgndkdlaadoor", sum := "3029e0a4f576a83db223347ae1fe38d42471f72006c2dcc881a3dde81700520e", func := "pantry/pantrylaw18.VerbsCapitals", spec := "verbsCapitals", inPlace := ["internal/bytealg.IndexByteString", "internal/bytealg.IndexString"], unfollowed := true, recurses := true, named := ["unicode/utf8.first", "unicode/utf8.acceptRanges", "internal/bytealg.MaxLen"], apart := false, laid := [("unicode/utf8.acceptRanges", laid_unicode_utf8_acceptRanges), ("unicode/utf8.first", laid_unicode_utf8_first)] }
def VerbsCapitalsSaid : Prop := verbsCapitalsRow.holds Tryd.pinned (OpenSpec.ofChange verbsCapitalsSpec)

/-- ITS FALSE NEIGHBOUR: 'it returns false'. Refute it at one input. -/
def verbsCapitalsWrong : ChangeSpec := { name := "verbsCapitals", fn := fun _ => fun
  | [d1, d2, d3] => { results := [.lit (.bool false)], args := [d1, d2, d3] }
  | _ => none }
def VerbsCapitalsWrongFalsely : Prop := verbsCapitalsRow.holds Tryd.pinned (OpenSpec.ofChange verbsCapitalsWrong)

/-- 'pantrylaw18.VerbsFlags': WHATEVER THE INPUT: true; the input reads as it did. -/
def verbsFlagsSpec : ChangeSpec := { name := "verbsFlags", fn := fun _ => fun
  | [] => { results := [.lit (.bool true)], args := [] }
  | _ => none }
def verbsFlagsRow : OpenClaim := { program := "ytaflggjgndkdlaadoor", sum := "3029e0a4f576a83db223347ae1fe38d42471f72006c2dcc881a3dde81700520e", func := "pantry/pantrylaw18.VerbsFlags", spec := "verbsFlags", inPlace := ["internal/bytealg.CountString", "internal/bytealg.IndexByteString", "internal/bytealg.IndexString"], unfollowed := true, recurses := true, named := ["unicode/utf8.first", "unicode/utf8.acceptRanges", "internal/bytealg.MaxLen"], apart := false, laid := [("unicode/utf8.acceptRanges", laid_unicode_utf8_acceptRanges), ("unicode/utf8.first", laid_unicode_utf8_first)] }
def VerbsFlagsSaid : Prop := verbsFlagsRow.holds Tryd.pinned (OpenSpec.ofChange verbsFlagsSpec)

/-- ITS FALSE NEIGHBOUR: 'it returns false'. Refute it at one input. -/
def verbsFlagsWrong : ChangeSpec := { name := "verbsFlags", fn := fun _ => fun
  | [] => { results := [.lit (.bool false)], args := [] }
  | _ => none }
def VerbsFlagsWrongFalsely : Prop := verbsFlagsRow.holds Tryd.pinned (OpenSpec.ofChange verbsFlagsWrong)

/-- 'pantrylaw18.VerbsPlaces': WHATEVER THE INPUT: true; the input reads as it did. -/
def verbsPlacesSpec : ChangeSpec := { name := "verbsPlaces", fn := fun _ => fun
  | [d] => { results := [.lit (.bool true)], args := [d] }
  | _ => none }
def verbsPlacesRow : OpenClaim := { program := "ytaflggjgndkdlaadoor", sum := "3029e0a4f576a83db223347ae1fe38d42471f72006c2dcc881a3dde81700520e", func := "pantry/pantrylaw18.VerbsPlaces", spec := "verbsPlaces", inPlace := ["internal/bytealg.IndexByteString", "internal/bytealg.IndexString"], unfollowed := true, recurses := true, named := ["unicode/utf8.first", "unicode/utf8.acceptRanges", "internal/bytealg.MaxLen"], apart := false, laid := [("unicode/utf8.acceptRanges", laid_unicode_utf8_acceptRanges), ("unicode/utf8.first", laid_unicode_utf8_first)] }
def VerbsPlacesSaid : Prop := verbsPlacesRow.holds Tryd.pinned (OpenSpec.ofChange verbsPlacesSpec)

/-- ITS FALSE NEIGHBOUR: 'it returns false'. Refute it at one input. -/
def verbsPlacesWrong : ChangeSpec := { name := "verbsPlaces", fn := fun _ => fun
  | [d] => { results := [.lit (.bool false)], args := [d] }
  | _ => none }
def VerbsPlacesWrongFalsely : Prop := verbsPlacesRow.holds Tryd.pinned (OpenSpec.ofChange verbsPlacesWrong)

/- THE SECOND FORM. 'bulk': how many values and letters a reading holds, each counted each time it is reached (what is shared counts as often as it is met; a slice's spare places count too). A statement '..UptoSaid' is the law's where the arguments, and the package variables that the reading takes, are together of bulk at most 1048576: NARROWER than '..Said'. Prove '..Said' where nothing that the law and all that it calls make is longer than what came in: it says more and counts as full. Else prove '..UptoSaid'. A law counts once. -/
mutual
def uptoBulk {H : Type} : DataW H → Nat
  | .lit (.string bytes) => bytes.length + 1
  | .lit _ => 1
  | .nil => 1
  | .ptr d => uptoBulk d + 1
  | .slice elems spare => uptoBulkAll elems + uptoBulkAll spare + 1
  | .agg parts => uptoBulkAll parts + 1
  | .iface _ d => uptoBulk d + 1
  | .map entries => uptoBulkEntries entries + 1
  | .held _ => 1
def uptoBulkAll {H : Type} : List (DataW H) → Nat
  | [] => 0
  | d :: r => uptoBulk d + uptoBulkAll r
def uptoBulkEntries {H : Type} : List (Lit × DataW H) → Nat
  | [] => 0
  | x :: r => uptoBulkEntry x + uptoBulkEntries r
def uptoBulkEntry {H : Type} : Lit × DataW H → Nat
  | (.string bytes, d) => bytes.length + uptoBulk d + 1
  | (_, d) => uptoBulk d + 1
 end
def uptoSmall : (H : Type) → List (DataW H) → Bool := fun _ ds => decide (uptoBulkAll ds ≤ 1048576)
def OpenSpec.upto (s : _root_.Go.ChangeSpec) : _root_.Go.OpenSpec := { _root_.Go.OpenSpec.ofChange s with cond := some uptoSmall }

/-- 'pantrylaw18.VerbsFinds', WHERE WHAT IT READS IS OF BULK AT MOST 1048576: true; the input reads as it did. -/
def verbsFindsUptoRow : OpenClaim := { program := "ytaflggjgndkdlaadoor", sum := "3029e0a4f576a83db223347ae1fe38d42471f72006c2dcc881a3dde81700520e", func := "pantry/pantrylaw18.VerbsFinds", spec := "verbsFinds", inPlace := ["internal/bytealg.IndexByteString", "internal/bytealg.IndexString"], unfollowed := true, recurses := true, named := ["unicode/utf8.first", "unicode/utf8.acceptRanges", "internal/bytealg.MaxLen"], apart := false, laid := [("unicode/utf8.acceptRanges", laid_unicode_utf8_acceptRanges), ("unicode/utf8.first", laid_unicode_utf8_first)], narrowed := true }
def VerbsFindsUptoSaid : Prop := verbsFindsUptoRow.holds Tryd.pinned (OpenSpec.upto verbsFindsSpec)

/-- 'pantrylaw18.VerbsChecks', WHERE WHAT IT READS IS OF BULK AT MOST 1048576: true; the input reads as it did. -/
def verbsChecksUptoRow : OpenClaim := { program := "ytaflggjgndkdlaadoor", sum := "3029e0a4f576a83db223347ae1fe38d42471f72006c2dcc881a3dde81700520e", func := "pantry/pantrylaw18.VerbsChecks", spec := "verbsChecks", inPlace := ["internal/bytealg.IndexByteString", "internal/bytealg.IndexString"], unfollowed := true, recurses := true, named := ["unicode/utf8.first", "unicode/utf8.acceptRanges", "internal/bytealg.MaxLen"], apart := false, laid := [("unicode/utf8.acceptRanges", laid_unicode_utf8_acceptRanges), ("unicode/utf8.first", laid_unicode_utf8_first)], narrowed := true }
def VerbsChecksUptoSaid : Prop := verbsChecksUptoRow.holds Tryd.pinned (OpenSpec.upto verbsChecksSpec)

/-- 'pantrylaw18.VerbsNames', WHERE WHAT IT READS IS OF BULK AT MOST 1048576: true; the input reads as it did. -/
def verbsNamesUptoRow : OpenClaim := { program := "ytaflggjgndkdlaadoor", sum := "3029e0a4f576a83db223347ae1fe38d42471f72006c2dcc881a3dde81700520e", func := "pantry/pantrylaw18.VerbsNames", spec := "verbsNames", inPlace := ["internal/bytealg.CountString", "internal/bytealg.IndexByteString", "internal/bytealg.IndexString"], unfollowed := true, recurses := true, named := ["unicode/utf8.first", "unicode/utf8.acceptRanges", "internal/bytealg.MaxLen"], apart := false, laid := [("unicode/utf8.acceptRanges", laid_unicode_utf8_acceptRanges), ("unicode/utf8.first", laid_unicode_utf8_first)], narrowed := true }
def VerbsNamesUptoSaid : Prop := verbsNamesUptoRow.holds Tryd.pinned (OpenSpec.upto verbsNamesSpec)

/-- 'pantrylaw18.VerbsCapitals', WHERE WHAT IT READS IS OF BULK AT MOST 1048576: true; the input reads as it did. -/
def verbsCapitalsUptoRow : OpenClaim := { program := "ytaflggjgndkdlaadoor", sum := "3029e0a4f576a83db223347ae1fe38d42471f72006c2dcc881a3dde81700520e", func := "pantry/pantrylaw18.VerbsCapitals", spec := "verbsCapitals", inPlace := ["internal/bytealg.IndexByteString", "internal/bytealg.IndexString"], unfollowed := true, recurses := true, named := ["unicode/utf8.first", "unicode/utf8.acceptRanges", "internal/bytealg.MaxLen"], apart := false, laid := [("unicode/utf8.acceptRanges", laid_unicode_utf8_acceptRanges), ("unicode/utf8.first", laid_unicode_utf8_first)], narrowed := true }
def VerbsCapitalsUptoSaid : Prop := verbsCapitalsUptoRow.holds Tryd.pinned (OpenSpec.upto verbsCapitalsSpec)

/-- 'pantrylaw18.VerbsFlags', WHERE WHAT IT READS IS OF BULK AT MOST 1048576: true; the input reads as it did. -/
def verbsFlagsUptoRow : OpenClaim := { program := "ytaflggjgndkdlaadoor", sum := "3029e0a4f576a83db223347ae1fe38d42471f72006c2dcc881a3dde81700520e", func := "pantry/pantrylaw18.VerbsFlags", spec := "verbsFlags", inPlace := ["internal/bytealg.CountString", "internal/bytealg.IndexByteString", "internal/bytealg.IndexString"], unfollowed := true, recurses := true, named := ["unicode/utf8.first", "unicode/utf8.acceptRanges", "internal/bytealg.MaxLen"], apart := false, laid := [("unicode/utf8.acceptRanges", laid_unicode_utf8_acceptRanges), ("unicode/utf8.first", laid_unicode_utf8_first)], narrowed := true }
def VerbsFlagsUptoSaid : Prop := verbsFlagsUptoRow.holds Tryd.pinned (OpenSpec.upto verbsFlagsSpec)

/-- 'pantrylaw18.VerbsPlaces', WHERE WHAT IT READS IS OF BULK AT MOST 1048576: true; the input reads as it did. -/
def verbsPlacesUptoRow : OpenClaim := { program := "ytaflggjgndkdlaadoor", sum := "3029e0a4f576a83db223347ae1fe38d42471f72006c2dcc881a3dde81700520e", func := "pantry/pantrylaw18.VerbsPlaces", spec := "verbsPlaces", inPlace := ["internal/bytealg.IndexByteString", "internal/bytealg.IndexString"], unfollowed := true, recurses := true, named := ["unicode/utf8.first", "unicode/utf8.acceptRanges", "internal/bytealg.MaxLen"], apart := false, laid := [("unicode/utf8.acceptRanges", laid_unicode_utf8_acceptRanges), ("unicode/utf8.first", laid_unicode_utf8_first)], narrowed := true }
def VerbsPlacesUptoSaid : Prop := verbsPlacesUptoRow.holds Tryd.pinned (OpenSpec.upto verbsPlacesSpec)

end Rows
end Go.Proofs.YtaflggjgndkdlaaDoor
