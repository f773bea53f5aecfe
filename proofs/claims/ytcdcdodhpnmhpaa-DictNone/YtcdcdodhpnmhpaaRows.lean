/-
  No cell of these rows narrows 'for every input' (looked for: loops, veiled, ifaces, maps, wideKeys, modest, calm, conditions, laid).
  DERIVED. THE GIVEN ROWS OF THIS SEAT. 6 by the template 'for every input the law returns true; each argument reads behind the call as it read before'; 0 by the template 'total and deterministic' (their statements: YtcdcdodhpnmhpaaTotals.lean).
  GIVEN WITH THE SEED: the statements are not yours to turn. If you find one false, say at which input.
  Laid BY PROGRAM, IN A SANDBOX (cutbox-rows.mjs): the forced cells as the released guide's own fill.sh prints them over the translation 5cb9669a67fe5536… (all of the seat's roots in one cut). By AI agents, Wed Nov 11 2026. No macro, syntax, notation, axiom, sorry.
-/
import Derived.Test.YtcdcdodhpnmhpaaChecked
import GoSem.Claim
import GoSem.ClaimJoined
import GoSem.ClaimMapViews
import Derived.JoinedTies
import Derived.KernelRfl
namespace Go.Proofs.Ytcdcdodhpnmhpaa
/- THE CELL 'sum', in the pinned program and in every row, IS THE sha256 OF THE DUMP (.gsa) THAT YtcdcdodhpnmhpaaProg.lean LOADS. Nothing in Lean hashes anything: it is a label: what it is worth is what the hold of that sum in a sandbox is worth. -/
noncomputable def Try.pinned : Pinned := { name := "ytcdcdodhpnmhpaa", sum := "5cb9669a67fe5536f7de170dadf1aa9db483c50cc3aabc0c79eed84f45797ef3", checked := Try.checked }
namespace Rows
def none {H : Type} : Left H := { results := [], args := [] }

/-- 'pantrylaw05.DictPlays': WHATEVER THE INPUT: true; the input reads as it did. -/
def dictPlaysSpec : ChangeSpec := { name := "dictPlays", fn := fun _ => fun
  | [d1, d2, d3] => { results := [.lit (.bool true)], args := [d1, d2, d3] }
  | _ => none }
def dictPlaysRow : OpenClaim := { program := "ytcdcdodhpnmhpaa", sum := "5cb9669a67fe5536f7de170dadf1aa9db483c50cc3aabc0c79eed84f45797ef3", func := "pantry/pantrylaw05.DictPlays", spec := "dictPlays", unfollowed := true, recurses := true, apart := false }
def DictPlaysSaid : Prop := dictPlaysRow.holds Try.pinned (OpenSpec.ofChange dictPlaysSpec)

/-- ITS FALSE NEIGHBOUR: 'it returns false'. Refute it at one input. -/
def dictPlaysWrong : ChangeSpec := { name := "dictPlays", fn := fun _ => fun
  | [d1, d2, d3] => { results := [.lit (.bool false)], args := [d1, d2, d3] }
  | _ => none }
def DictPlaysWrongFalsely : Prop := dictPlaysRow.holds Try.pinned (OpenSpec.ofChange dictPlaysWrong)

/-- 'pantrylaw05.DictIsTable': WHATEVER THE INPUT: true; the input reads as it did. -/
def dictIsTableSpec : ChangeSpec := { name := "dictIsTable", fn := fun _ => fun
  | [d1, d2] => { results := [.lit (.bool true)], args := [d1, d2] }
  | _ => none }
def dictIsTableRow : OpenClaim := { program := "ytcdcdodhpnmhpaa", sum := "5cb9669a67fe5536f7de170dadf1aa9db483c50cc3aabc0c79eed84f45797ef3", func := "pantry/pantrylaw05.DictIsTable", spec := "dictIsTable", unfollowed := true, recurses := true, apart := false }
def DictIsTableSaid : Prop := dictIsTableRow.holds Try.pinned (OpenSpec.ofChange dictIsTableSpec)

/-- ITS FALSE NEIGHBOUR: 'it returns false'. Refute it at one input. -/
def dictIsTableWrong : ChangeSpec := { name := "dictIsTable", fn := fun _ => fun
  | [d1, d2] => { results := [.lit (.bool false)], args := [d1, d2] }
  | _ => none }
def DictIsTableWrongFalsely : Prop := dictIsTableRow.holds Try.pinned (OpenSpec.ofChange dictIsTableWrong)

/-- 'pantrylaw05.DictPlaced': WHATEVER THE INPUT: true; the input reads as it did. -/
def dictPlacedSpec : ChangeSpec := { name := "dictPlaced", fn := fun _ => fun
  | [d1, d2] => { results := [.lit (.bool true)], args := [d1, d2] }
  | _ => none }
def dictPlacedRow : OpenClaim := { program := "ytcdcdodhpnmhpaa", sum := "5cb9669a67fe5536f7de170dadf1aa9db483c50cc3aabc0c79eed84f45797ef3", func := "pantry/pantrylaw05.DictPlaced", spec := "dictPlaced", unfollowed := true, recurses := true, apart := false }
def DictPlacedSaid : Prop := dictPlacedRow.holds Try.pinned (OpenSpec.ofChange dictPlacedSpec)

/-- ITS FALSE NEIGHBOUR: 'it returns false'. Refute it at one input. -/
def dictPlacedWrong : ChangeSpec := { name := "dictPlaced", fn := fun _ => fun
  | [d1, d2] => { results := [.lit (.bool false)], args := [d1, d2] }
  | _ => none }
def DictPlacedWrongFalsely : Prop := dictPlacedRow.holds Try.pinned (OpenSpec.ofChange dictPlacedWrong)

/-- 'pantrylaw05.DictRanged': WHATEVER THE INPUT: true; the input reads as it did. -/
def dictRangedSpec : ChangeSpec := { name := "dictRanged", fn := fun _ => fun
  | [d1, d2, d3] => { results := [.lit (.bool true)], args := [d1, d2, d3] }
  | _ => none }
def dictRangedRow : OpenClaim := { program := "ytcdcdodhpnmhpaa", sum := "5cb9669a67fe5536f7de170dadf1aa9db483c50cc3aabc0c79eed84f45797ef3", func := "pantry/pantrylaw05.DictRanged", spec := "dictRanged", unfollowed := true, recurses := true, apart := false }
def DictRangedSaid : Prop := dictRangedRow.holds Try.pinned (OpenSpec.ofChange dictRangedSpec)

/-- ITS FALSE NEIGHBOUR: 'it returns false'. Refute it at one input. -/
def dictRangedWrong : ChangeSpec := { name := "dictRanged", fn := fun _ => fun
  | [d1, d2, d3] => { results := [.lit (.bool false)], args := [d1, d2, d3] }
  | _ => none }
def DictRangedWrongFalsely : Prop := dictRangedRow.holds Try.pinned (OpenSpec.ofChange dictRangedWrong)

/-- 'pantrylaw05.DictNone': WHATEVER THE INPUT: true; the input reads as it did. -/
def dictNoneSpec : ChangeSpec := { name := "dictNone", fn := fun _ => fun
  | [] => { results := [.lit (.bool true)], args := [] }
  | _ => none }
def dictNoneRow : OpenClaim := { program := "ytcdcdodhpnmhpaa", sum := "5cb9669a67fe5536f7de170dadf1aa9db483c50cc3aabc0c79eed84f45797ef3", func := "pantry/pantrylaw05.DictNone", spec := "dictNone", unfollowed := true, recurses := true, apart := false }
def DictNoneSaid : Prop := dictNoneRow.holds Try.pinned (OpenSpec.ofChange dictNoneSpec)

/-- ITS FALSE NEIGHBOUR: 'it returns false'. Refute it at one input. -/
def dictNoneWrong : ChangeSpec := { name := "dictNone", fn := fun _ => fun
  | [] => { results := [.lit (.bool false)], args := [] }
  | _ => none }
def DictNoneWrongFalsely : Prop := dictNoneRow.holds Try.pinned (OpenSpec.ofChange dictNoneWrong)

/-- 'pantrylaw05.DictKnown': WHATEVER THE INPUT: true; the input reads as it did. -/
def dictKnownSpec : ChangeSpec := { name := "dictKnown", fn := fun _ => fun
  | [] => { results := [.lit (.bool true)], args := [] }
  | _ => none }
def dictKnownRow : OpenClaim := { program := "ytcdcdodhpnmhpaa", sum := "5cb9669a67fe5536f7de170dadf1aa9db483c50cc3aabc0c79eed84f45797ef3", func := "pantry/pantrylaw05.DictKnown", spec := "dictKnown", unfollowed := true, recurses := true, apart := false }
def DictKnownSaid : Prop := dictKnownRow.holds Try.pinned (OpenSpec.ofChange dictKnownSpec)

/-- ITS FALSE NEIGHBOUR: 'it returns false'. Refute it at one input. -/
def dictKnownWrong : ChangeSpec := { name := "dictKnown", fn := fun _ => fun
  | [] => { results := [.lit (.bool false)], args := [] }
  | _ => none }
def DictKnownWrongFalsely : Prop := dictKnownRow.holds Try.pinned (OpenSpec.ofChange dictKnownWrong)

/- THE SECOND FORM. 'bulk': how many values and letters a reading holds, each counted each time it is reached (what is shared counts as often as it is met; a slice's spare places count too). A statement '..UptoSaid' is the law's where the arguments, and the package variables that the reading takes, are together of bulk at most 1048576: NARROWER than '..Said'. Prove '..Said' where nothing that the law and all that it calls make is longer than what came in: it says more and counts as full. Else prove '..UptoSaid'. A law counts once. -/
mutual
def uptoBulk {H : Type} : DataW H → Nat
  | .lit (.string bytes) => bytes.length + 1
  | .lit _ => 1
  | .nil => 1
  | .ptr d => uptoBulk d + 1
  | .slice elems spare => uptoBulkAll elems + uptoBulkAll spare + 1
  | .agg parts => uptoBulkAll parts + 1
  | .iface _ d => uptoBulk d + 1
  | .map entries => uptoBulkEntries entries + 1
  | .held _ => 1
def uptoBulkAll {H : Type} : List (DataW H) → Nat
  | [] => 0
  | d :: r => uptoBulk d + uptoBulkAll r
def uptoBulkEntries {H : Type} : List (Lit × DataW H) → Nat
  | [] => 0
  | x :: r => uptoBulkEntry x + uptoBulkEntries r
def uptoBulkEntry {H : Type} : Lit × DataW H → Nat
  | (.string bytes, d) => bytes.length + uptoBulk d + 1
  | (_, d) => uptoBulk d + 1
 end
def uptoSmall : (H : Type) → List (DataW H) → Bool := fun _ ds => decide (uptoBulkAll ds ≤ 1048576)
def OpenSpec.upto (s : _root_.Go.ChangeSpec) : _root_.Go.OpenSpec := { _root_.Go.OpenSpec.ofChange s with cond := some uptoSmall }

/-- 'pantrylaw05.DictPlays', WHERE WHAT IT READS IS OF BULK AT MOST 1048576: true; the input reads as it did. -/
def dictPlaysUptoRow : OpenClaim := { program := "ytcdcdodhpnmhpaa", sum := "5cb9669a67fe5536f7de170dadf1aa9db483c50cc3aabc0c79eed84f45797ef3", func := "pantry/pantrylaw05.DictPlays", spec := "dictPlays", unfollowed := true, recurses := true, apart := false, narrowed := true }
def DictPlaysUptoSaid : Prop := dictPlaysUptoRow.holds Try.pinned (OpenSpec.upto dictPlaysSpec)

/-- 'pantrylaw05.DictIsTable', WHERE WHAT IT READS IS OF BULK AT MOST 1048576: true; the input reads as it did. -/
def dictIsTableUptoRow : OpenClaim := { program := "ytcdcdodhpnmhpaa", sum := "5cb9669a67fe5536f7de170dadf1aa9db483c50cc3aabc0c79eed84f45797ef3", func := "pantry/pantrylaw05.DictIsTable", spec := "dictIsTable", unfollowed := true, recurses := true, apart := false, narrowed := true }
def DictIsTableUptoSaid : Prop := dictIsTableUptoRow.holds Try.pinned (OpenSpec.upto dictIsTableSpec)

/-- 'pantrylaw05.DictPlaced', WHERE WHAT IT READS IS OF BULK AT MOST 1048576: true; the input reads as it did. -/
def dictPlacedUptoRow : OpenClaim := { program := "ytcdcdodhpnmhpaa", sum := "5cb9669a67fe5536f7de170dadf1aa9db483c50cc3aabc0c79eed84f45797ef3", func := "pantry/pantrylaw05.DictPlaced", spec := "dictPlaced", unfollowed := true, recurses := true, apart := false, narrowed := true }
def DictPlacedUptoSaid : Prop := dictPlacedUptoRow.holds Try.pinned (OpenSpec.upto dictPlacedSpec)

/-- 'pantrylaw05.DictRanged', WHERE WHAT IT READS IS OF BULK AT MOST 1048576: true; the input reads as it did. -/
def dictRangedUptoRow : OpenClaim := { program := "ytcdcdodhpnmhpaa", sum := "5cb9669a67fe5536f7de170dadf1aa9db483c50cc3aabc0c79eed84f45797ef3", func := "pantry/pantrylaw05.DictRanged", spec := "dictRanged", unfollowed := true, recurses := true, apart := false, narrowed := true }
def DictRangedUptoSaid : Prop := dictRangedUptoRow.holds Try.pinned (OpenSpec.upto dictRangedSpec)

/-- 'pantrylaw05.DictNone', WHERE WHAT IT READS IS OF BULK AT MOST 1048576: true; the input reads as it did. -/
def dictNoneUptoRow : OpenClaim := { program := "ytcdcdodhpnmhpaa", sum := "5cb9669a67fe5536f7de170dadf1aa9db483c50cc3aabc0c79eed84f45797ef3", func := "pantry/pantrylaw05.DictNone", spec := "dictNone", unfollowed := true, recurses := true, apart := false, narrowed := true }
def DictNoneUptoSaid : Prop := dictNoneUptoRow.holds Try.pinned (OpenSpec.upto dictNoneSpec)

/-- 'pantrylaw05.DictKnown', WHERE WHAT IT READS IS OF BULK AT MOST 1048576: true; the input reads as it did. -/
def dictKnownUptoRow : OpenClaim := { program := "ytcdcdodhpnmhpaa", sum := "5cb9669a67fe5536f7de170dadf1aa9db483c50cc3aabc0c79eed84f45797ef3", func := "pantry/pantrylaw05.DictKnown", spec := "dictKnown", unfollowed := true, recurses := true, apart := false, narrowed := true }
def DictKnownUptoSaid : Prop := dictKnownUptoRow.holds Try.pinned (OpenSpec.upto dictKnownSpec)

end Rows
end Go.Proofs.Ytcdcdodhpnmhpaa
