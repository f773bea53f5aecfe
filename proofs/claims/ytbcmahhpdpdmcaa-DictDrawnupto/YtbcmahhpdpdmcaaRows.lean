/-
  No cell of these rows narrows 'for every input' (looked for: loops, veiled, ifaces, maps, wideKeys, modest, calm, conditions, laid).
  DERIVED. THE GIVEN ROWS OF THIS SEAT. 6 by the template 'for every input the law returns true; each argument reads behind the call as it read before'; 0 by the template 'total and deterministic' (their statements: YtbcmahhpdpdmcaaTotals.lean).
  GIVEN WITH THE SEED: the statements are not yours to turn. If you find one false, say at which input.
  Laid BY PROGRAM, IN A SANDBOX (cutbox-rows.mjs): the forced cells as the released guide's own fill.sh prints them over the translation 74811c2861ab3209… (all of the seat's roots in one cut). By AI agents, Wed Nov 11 2026. No macro, syntax, notation, axiom, sorry.
-/
import Derived.Test.YtbcmahhpdpdmcaaChecked
import GoSem.Claim
import GoSem.ClaimJoined
import GoSem.ClaimMapViews
import Derived.JoinedTies
import Derived.KernelRfl
namespace Go.Proofs.Ytbcmahhpdpdmcaa
/- THE CELL 'sum', in the pinned program and in every row, IS THE sha256 OF THE DUMP (.gsa) THAT YtbcmahhpdpdmcaaProg.lean LOADS. Nothing in Lean hashes anything: it is a label: what it is worth is what the hold of that sum in a sandbox is worth. -/
noncomputable def Try.pinned : Pinned := { name := "ytbcmahhpdpdmcaa", sum := "74811c2861ab3209d377c52c4e05b55ef9d876356de4608e8f9ac6be4723bc53", checked := Try.checked }
namespace Rows
def none {H : Type} : Left H := { results := [], args := [] }

/-- 'pantrylaw05.DictPlays': WHATEVER THE INPUT: true; the input reads as it did. -/
def dictPlaysSpec : ChangeSpec := { name := "dictPlays", fn := fun _ => fun
  | [d1, d2, d3] => { results := [.lit (.bool true)], args := [d1, d2, d3] }
  | _ => none }
def dictPlaysRow : OpenClaim := { program := "ytbcmahhpdpdmcaa", sum := "74811c2861ab3209d377c52c4e05b55ef9d876356de4608e8f9ac6be4723bc53", func := "pantry/pantrylaw05.DictPlays", spec := "dictPlays", unfollowed := true, recurses := true, apart := false }
def DictPlaysSaid : Prop := dictPlaysRow.holds Try.pinned (OpenSpec.ofChange dictPlaysSpec)

/-- ITS FALSE NEIGHBOUR: 'it returns false'. Refute it at one input. -/
def dictPlaysWrong : ChangeSpec := { name := "dictPlays", fn := fun _ => fun
  | [d1, d2, d3] => { results := [.lit (.bool false)], args := [d1, d2, d3] }
  | _ => none }
def DictPlaysWrongFalsely : Prop := dictPlaysRow.holds Try.pinned (OpenSpec.ofChange dictPlaysWrong)

/-- 'pantrylaw05.DictIsTable': WHATEVER THE INPUT: true; the input reads as it did. -/
def dictIsTableSpec : ChangeSpec := { name := "dictIsTable", fn := fun _ => fun
  | [d1, d2] => { results := [.lit (.bool true)], args := [d1, d2] }
  | _ => none }
def dictIsTableRow : OpenClaim := { program := "ytbcmahhpdpdmcaa", sum := "74811c2861ab3209d377c52c4e05b55ef9d876356de4608e8f9ac6be4723bc53", func := "pantry/pantrylaw05.DictIsTable", spec := "dictIsTable", unfollowed := true, recurses := true, apart := false }
def DictIsTableSaid : Prop := dictIsTableRow.holds Try.pinned (OpenSpec.ofChange dictIsTableSpec)

/-- ITS FALSE NEIGHBOUR: 'it returns false'. Refute it at one input. -/
def dictIsTableWrong : ChangeSpec := { name := "dictIsTable", fn := fun _ => fun
  | [d1, d2] => { results := [.lit (.bool false)], args := [d1, d2] }
  | _ => none }
def DictIsTableWrongFalsely : Prop := dictIsTableRow.holds Try.pinned (OpenSpec.ofChange dictIsTableWrong)

/-- 'pantrylaw05.DictPlaced': WHATEVER THE INPUT: true; the input reads as it did. -/
def dictPlacedSpec : ChangeSpec := { name := "dictPlaced", fn := fun _ => fun
  | [d1, d2] => { results := [.lit (.bool true)], args := [d1, d2] }
  | _ => none }
def dictPlacedRow : OpenClaim := { program := "ytbcmahhpdpdmcaa", sum := "74811c2861ab3209d377c52c4e05b55ef9d876356de4608e8f9ac6be4723bc53", func := "pantry/pantrylaw05.DictPlaced", spec := "dictPlaced", unfollowed := true, recurses := true, apart := false }
def DictPlacedSaid : Prop := dictPlacedRow.holds Try.pinned (OpenSpec.ofChange dictPlacedSpec)

/-- ITS FALSE NEIGHBOUR: 'it returns false'. Refute it at one input. -/
def dictPlacedWrong : ChangeSpec := { name := "dictPlaced", fn := fun _ => fun
  | [d1, d2] => { results := [.lit (.bool false)], args := [d1, d2] }
  | _ => none }
def DictPlacedWrongFalsely : Prop := dictPlacedRow.holds Try.pinned (OpenSpec.ofChange dictPlacedWrong)

/-- 'pantrylaw05.DictLittle': WHATEVER THE INPUT: true; the input reads as it did. -/
def dictLittleSpec : ChangeSpec := { name := "dictLittle", fn := fun _ => fun
  | [d1, d2, d3] => { results := [.lit (.bool true)], args := [d1, d2, d3] }
  | _ => none }
def dictLittleRow : OpenClaim := { program := "ytbcmahhpdpdmcaa", sum := "74811c2861ab3209d377c52c4e05b55ef9d876356de4608e8f9ac6be4723bc53", func := "pantry/pantrylaw05.DictLittle", spec := "dictLittle", unfollowed := true, recurses := true, apart := false }
def DictLittleSaid : Prop := dictLittleRow.holds Try.pinned (OpenSpec.ofChange dictLittleSpec)

/-- ITS FALSE NEIGHBOUR: 'it returns false'. Refute it at one input. -/
def dictLittleWrong : ChangeSpec := { name := "dictLittle", fn := fun _ => fun
  | [d1, d2, d3] => { results := [.lit (.bool false)], args := [d1, d2, d3] }
  | _ => none }
def DictLittleWrongFalsely : Prop := dictLittleRow.holds Try.pinned (OpenSpec.ofChange dictLittleWrong)

/-- 'pantrylaw05.DictSeeds': WHATEVER THE INPUT: true; the input reads as it did. -/
def dictSeedsSpec : ChangeSpec := { name := "dictSeeds", fn := fun _ => fun
  | [d1, d2, d3] => { results := [.lit (.bool true)], args := [d1, d2, d3] }
  | _ => none }
def dictSeedsRow : OpenClaim := { program := "ytbcmahhpdpdmcaa", sum := "74811c2861ab3209d377c52c4e05b55ef9d876356de4608e8f9ac6be4723bc53", func := "pantry/pantrylaw05.DictSeeds", spec := "dictSeeds", unfollowed := true, recurses := true, apart := false }
def DictSeedsSaid : Prop := dictSeedsRow.holds Try.pinned (OpenSpec.ofChange dictSeedsSpec)

/-- ITS FALSE NEIGHBOUR: 'it returns false'. Refute it at one input. -/
def dictSeedsWrong : ChangeSpec := { name := "dictSeeds", fn := fun _ => fun
  | [d1, d2, d3] => { results := [.lit (.bool false)], args := [d1, d2, d3] }
  | _ => none }
def DictSeedsWrongFalsely : Prop := dictSeedsRow.holds Try.pinned (OpenSpec.ofChange dictSeedsWrong)

/-- 'pantrylaw05.DictDrawn': WHATEVER THE INPUT: true; the input reads as it did. -/
def dictDrawnSpec : ChangeSpec := { name := "dictDrawn", fn := fun _ => fun
  | [d1, d2, d3] => { results := [.lit (.bool true)], args := [d1, d2, d3] }
  | _ => none }
def dictDrawnRow : OpenClaim := { program := "ytbcmahhpdpdmcaa", sum := "74811c2861ab3209d377c52c4e05b55ef9d876356de4608e8f9ac6be4723bc53", func := "pantry/pantrylaw05.DictDrawn", spec := "dictDrawn", unfollowed := true, recurses := true, apart := false }
def DictDrawnSaid : Prop := dictDrawnRow.holds Try.pinned (OpenSpec.ofChange dictDrawnSpec)

/-- ITS FALSE NEIGHBOUR: 'it returns false'. Refute it at one input. -/
def dictDrawnWrong : ChangeSpec := { name := "dictDrawn", fn := fun _ => fun
  | [d1, d2, d3] => { results := [.lit (.bool false)], args := [d1, d2, d3] }
  | _ => none }
def DictDrawnWrongFalsely : Prop := dictDrawnRow.holds Try.pinned (OpenSpec.ofChange dictDrawnWrong)

/- THE SECOND FORM. 'bulk': how many values and letters a reading holds, each counted each time it is reached (what is shared counts as often as it is met; a slice's spare places count too). A statement '..UptoSaid' is the law's where the arguments, and the package variables that the reading takes, are together of bulk at most 1048576: NARROWER than '..Said'. Prove '..Said' where nothing that the law and all that it calls make is longer than what came in: it says more and counts as full. Else prove '..UptoSaid'. A law counts once. -/
mutual
def uptoBulk {H : Type} : DataW H → Nat
  | .lit (.string bytes) => bytes.length + 1
  | .lit _ => 1
  | .nil => 1
  | .ptr d => uptoBulk d + 1
  | .slice elems spare => uptoBulkAll elems + uptoBulkAll spare + 1
  | .agg parts => uptoBulkAll parts + 1
  | .iface _ d => uptoBulk d + 1
  | .map entries => uptoBulkEntries entries + 1
  | .held _ => 1
def uptoBulkAll {H : Type} : List (DataW H) → Nat
  | [] => 0
  | d :: r => uptoBulk d + uptoBulkAll r
def uptoBulkEntries {H : Type} : List (Lit × DataW H) → Nat
  | [] => 0
  | x :: r => uptoBulkEntry x + uptoBulkEntries r
def uptoBulkEntry {H : Type} : Lit × DataW H → Nat
  | (.string bytes, d) => bytes.length + uptoBulk d + 1
  | (_, d) => uptoBulk d + 1
 end
def uptoSmall : (H : Type) → List (DataW H) → Bool := fun _ ds => decide (uptoBulkAll ds ≤ 1048576)
def OpenSpec.upto (s : _root_.Go.ChangeSpec) : _root_.Go.OpenSpec := { _root_.Go.OpenSpec.ofChange s with cond := some uptoSmall }

/-- 'pantrylaw05.DictPlays', WHERE WHAT IT READS IS OF BULK AT MOST 1048576: true; the input reads as it did. -/
def dictPlaysUptoRow : OpenClaim := { program := "ytbcmahhpdpdmcaa", sum := "74811c2861ab3209d377c52c4e05b55ef9d876356de4608e8f9ac6be4723bc53", func := "pantry/pantrylaw05.DictPlays", spec := "dictPlays", unfollowed := true, recurses := true, apart := false, narrowed := true }
def DictPlaysUptoSaid : Prop := dictPlaysUptoRow.holds Try.pinned (OpenSpec.upto dictPlaysSpec)

/-- 'pantrylaw05.DictIsTable', WHERE WHAT IT READS IS OF BULK AT MOST 1048576: true; the input reads as it did. -/
def dictIsTableUptoRow : OpenClaim := { program := "ytbcmahhpdpdmcaa", sum := "74811c2861ab3209d377c52c4e05b55ef9d876356de4608e8f9ac6be4723bc53", func := "pantry/pantrylaw05.DictIsTable", spec := "dictIsTable", unfollowed := true, recurses := true, apart := false, narrowed := true }
def DictIsTableUptoSaid : Prop := dictIsTableUptoRow.holds Try.pinned (OpenSpec.upto dictIsTableSpec)

/-- 'pantrylaw05.DictPlaced', WHERE WHAT IT READS IS OF BULK AT MOST 1048576: true; the input reads as it did. -/
def dictPlacedUptoRow : OpenClaim := { program := "ytbcmahhpdpdmcaa", sum := "74811c2861ab3209d377c52c4e05b55ef9d876356de4608e8f9ac6be4723bc53", func := "pantry/pantrylaw05.DictPlaced", spec := "dictPlaced", unfollowed := true, recurses := true, apart := false, narrowed := true }
def DictPlacedUptoSaid : Prop := dictPlacedUptoRow.holds Try.pinned (OpenSpec.upto dictPlacedSpec)

/-- 'pantrylaw05.DictLittle', WHERE WHAT IT READS IS OF BULK AT MOST 1048576: true; the input reads as it did. -/
def dictLittleUptoRow : OpenClaim := { program := "ytbcmahhpdpdmcaa", sum := "74811c2861ab3209d377c52c4e05b55ef9d876356de4608e8f9ac6be4723bc53", func := "pantry/pantrylaw05.DictLittle", spec := "dictLittle", unfollowed := true, recurses := true, apart := false, narrowed := true }
def DictLittleUptoSaid : Prop := dictLittleUptoRow.holds Try.pinned (OpenSpec.upto dictLittleSpec)

/-- 'pantrylaw05.DictSeeds', WHERE WHAT IT READS IS OF BULK AT MOST 1048576: true; the input reads as it did. -/
def dictSeedsUptoRow : OpenClaim := { program := "ytbcmahhpdpdmcaa", sum := "74811c2861ab3209d377c52c4e05b55ef9d876356de4608e8f9ac6be4723bc53", func := "pantry/pantrylaw05.DictSeeds", spec := "dictSeeds", unfollowed := true, recurses := true, apart := false, narrowed := true }
def DictSeedsUptoSaid : Prop := dictSeedsUptoRow.holds Try.pinned (OpenSpec.upto dictSeedsSpec)

/-- 'pantrylaw05.DictDrawn', WHERE WHAT IT READS IS OF BULK AT MOST 1048576: true; the input reads as it did. -/
def dictDrawnUptoRow : OpenClaim := { program := "ytbcmahhpdpdmcaa", sum := "74811c2861ab3209d377c52c4e05b55ef9d876356de4608e8f9ac6be4723bc53", func := "pantry/pantrylaw05.DictDrawn", spec := "dictDrawn", unfollowed := true, recurses := true, apart := false, narrowed := true }
def DictDrawnUptoSaid : Prop := dictDrawnUptoRow.holds Try.pinned (OpenSpec.upto dictDrawnSpec)

end Rows
end Go.Proofs.Ytbcmahhpdpdmcaa
