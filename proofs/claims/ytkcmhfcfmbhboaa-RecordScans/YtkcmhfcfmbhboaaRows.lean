/-
  No cell of these rows narrows 'for every input' (looked for: loops, veiled, ifaces, maps, wideKeys, modest, calm, conditions, laid).
  DERIVED. THE GIVEN ROWS OF THIS SEAT. 3 by the template 'for every input the law returns true; each argument reads behind the call as it read before'; 0 by the template 'total and deterministic' (their statements: YtkcmhfcfmbhboaaTotals.lean).
  GIVEN WITH THE SEED: the statements are not yours to turn. If you find one false, say at which input.
  Laid BY PROGRAM, IN A SANDBOX (cutbox-rows.mjs): the forced cells as the released guide's own fill.sh prints them over the translation fc971d3062a93aeb… (all of the seat's roots in one cut). By AI agents, Wed Nov 11 2026. No macro, syntax, notation, axiom, sorry.
-/
import Derived.Test.YtkcmhfcfmbhboaaChecked
import GoSem.Claim
import GoSem.ClaimJoined
import GoSem.ClaimMapViews
import Derived.JoinedTies
import Derived.KernelRfl
namespace Go.Proofs.Ytkcmhfcfmbhboaa
/- THE CELL 'sum', in the pinned program and in every row, IS THE sha256 OF THE DUMP (.gsa) THAT YtkcmhfcfmbhboaaProg.lean LOADS. Nothing in Lean hashes anything: it is a label: what it is worth is what the hold of that sum in a sandbox is worth. -/
noncomputable def Try.pinned : Pinned := { name := "ytkcmhfcfmbhboaa", sum := "fc971d3062a93aeb1c7f57b5bb190b11aa5873ca3dbabb366d9ebb0fd0a87540", checked := Try.checked }
namespace Rows
def none {H : Type} : Left H := { results := [], args := [] }

/-- 'pantrylaw09.RecordTable': WHATEVER THE INPUT: true; the input reads as it did. -/
def recordTableSpec : ChangeSpec := { name := "recordTable", fn := fun _ => fun
  | [d1, d2] => { results := [.lit (.bool true)], args := [d1, d2] }
  | _ => none }
def recordTableRow : OpenClaim := { program := "ytkcmhfcfmbhboaa", sum := "fc971d3062a93aeb1c7f57b5bb190b11aa5873ca3dbabb366d9ebb0fd0a87540", func := "pantry/pantrylaw09.RecordTable", spec := "recordTable", inPlace := ["internal/bytealg.abigen_runtime_cmpstring"], unfollowed := true, recurses := true, apart := false }
def RecordTableSaid : Prop := recordTableRow.holds Try.pinned (OpenSpec.ofChange recordTableSpec)

/-- ITS FALSE NEIGHBOUR: 'it returns false'. Refute it at one input. -/
def recordTableWrong : ChangeSpec := { name := "recordTable", fn := fun _ => fun
  | [d1, d2] => { results := [.lit (.bool false)], args := [d1, d2] }
  | _ => none }
def RecordTableWrongFalsely : Prop := recordTableRow.holds Try.pinned (OpenSpec.ofChange recordTableWrong)

/-- 'pantrylaw09.RecordScans': WHATEVER THE INPUT: true; the input reads as it did. -/
def recordScansSpec : ChangeSpec := { name := "recordScans", fn := fun _ => fun
  | [d1, d2, d3] => { results := [.lit (.bool true)], args := [d1, d2, d3] }
  | _ => none }
def recordScansRow : OpenClaim := { program := "ytkcmhfcfmbhboaa", sum := "fc971d3062a93aeb1c7f57b5bb190b11aa5873ca3dbabb366d9ebb0fd0a87540", func := "pantry/pantrylaw09.RecordScans", spec := "recordScans", inPlace := ["internal/bytealg.abigen_runtime_cmpstring"], unfollowed := true, recurses := true, apart := false }
def RecordScansSaid : Prop := recordScansRow.holds Try.pinned (OpenSpec.ofChange recordScansSpec)

/-- ITS FALSE NEIGHBOUR: 'it returns false'. Refute it at one input. -/
def recordScansWrong : ChangeSpec := { name := "recordScans", fn := fun _ => fun
  | [d1, d2, d3] => { results := [.lit (.bool false)], args := [d1, d2, d3] }
  | _ => none }
def RecordScansWrongFalsely : Prop := recordScansRow.holds Try.pinned (OpenSpec.ofChange recordScansWrong)

/-- 'pantrylaw09.RecordDraws': WHATEVER THE INPUT: true; the input reads as it did. -/
def recordDrawsSpec : ChangeSpec := { name := "recordDraws", fn := fun _ => fun
  | [d1, d2, d3] => { results := [.lit (.bool true)], args := [d1, d2, d3] }
  | _ => none }
def recordDrawsRow : OpenClaim := { program := "ytkcmhfcfmbhboaa", sum := "fc971d3062a93aeb1c7f57b5bb190b11aa5873ca3dbabb366d9ebb0fd0a87540", func := "pantry/pantrylaw09.RecordDraws", spec := "recordDraws", inPlace := ["internal/bytealg.abigen_runtime_cmpstring"], unfollowed := true, recurses := true, apart := false }
def RecordDrawsSaid : Prop := recordDrawsRow.holds Try.pinned (OpenSpec.ofChange recordDrawsSpec)

/-- ITS FALSE NEIGHBOUR: 'it returns false'. Refute it at one input. -/
def recordDrawsWrong : ChangeSpec := { name := "recordDraws", fn := fun _ => fun
  | [d1, d2, d3] => { results := [.lit (.bool false)], args := [d1, d2, d3] }
  | _ => none }
def RecordDrawsWrongFalsely : Prop := recordDrawsRow.holds Try.pinned (OpenSpec.ofChange recordDrawsWrong)

/- THE SECOND FORM. 'bulk': how many values and letters a reading holds, each counted each time it is reached (what is shared counts as often as it is met; a slice's spare places count too). A statement '..UptoSaid' is the law's where the arguments, and the package variables that the reading takes, are together of bulk at most 1048576: NARROWER than '..Said'. Prove '..Said' where nothing that the law and all that it calls make is longer than what came in: it says more and counts as full. Else prove '..UptoSaid'. A law counts once. -/
mutual
def uptoBulk {H : Type} : DataW H → Nat
  | .lit (.string bytes) => bytes.length + 1
  | .lit _ => 1
  | .nil => 1
  | .ptr d => uptoBulk d + 1
  | .slice elems spare => uptoBulkAll elems + uptoBulkAll spare + 1
  | .agg parts => uptoBulkAll parts + 1
  | .iface _ d => uptoBulk d + 1
  | .map entries => uptoBulkEntries entries + 1
  | .held _ => 1
def uptoBulkAll {H : Type} : List (DataW H) → Nat
  | [] => 0
  | d :: r => uptoBulk d + uptoBulkAll r
def uptoBulkEntries {H : Type} : List (Lit × DataW H) → Nat
  | [] => 0
  | x :: r => uptoBulkEntry x + uptoBulkEntries r
def uptoBulkEntry {H : Type} : Lit × DataW H → Nat
  | (.string bytes, d) => bytes.length + uptoBulk d + 1
  | (_, d) => uptoBulk d + 1
 end
def uptoSmall : (H : Type) → List (DataW H) → Bool := fun _ ds => decide (uptoBulkAll ds ≤ 1048576)
def OpenSpec.upto (s : _root_.Go.ChangeSpec) : _root_.Go.OpenSpec := { _root_.Go.OpenSpec.ofChange s with cond := some uptoSmall }

/-- 'pantrylaw09.RecordTable', WHERE WHAT IT READS IS OF BULK AT MOST 1048576: true; the input reads as it did. -/
def recordTableUptoRow : OpenClaim := { program := "ytkcmhfcfmbhboaa", sum := "fc971d3062a93aeb1c7f57b5bb190b11aa5873ca3dbabb366d9ebb0fd0a87540", func := "pantry/pantrylaw09.RecordTable", spec := "recordTable", inPlace := ["internal/bytealg.abigen_runtime_cmpstring"], unfollowed := true, recurses := true, apart := false, narrowed := true }
def RecordTableUptoSaid : Prop := recordTableUptoRow.holds Try.pinned (OpenSpec.upto recordTableSpec)

/-- 'pantrylaw09.RecordScans', WHERE WHAT IT READS IS OF BULK AT MOST 1048576: true; the input reads as it did. -/
def recordScansUptoRow : OpenClaim := { program := "ytkcmhfcfmbhboaa", sum := "fc971d3062a93aeb1c7f57b5bb190b11aa5873ca3dbabb366d9ebb0fd0a87540", func := "pantry/pantrylaw09.RecordScans", spec := "recordScans", inPlace := ["internal/bytealg.abigen_runtime_cmpstring"], unfollowed := true, recurses := true, apart := false, narrowed := true }
def RecordScansUptoSaid : Prop := recordScansUptoRow.holds Try.pinned (OpenSpec.upto recordScansSpec)

/-- 'pantrylaw09.RecordDraws', WHERE WHAT IT READS IS OF BULK AT MOST 1048576: true; the input reads as it did. -/
def recordDrawsUptoRow : OpenClaim := { program := "ytkcmhfcfmbhboaa", sum := "fc971d3062a93aeb1c7f57b5bb190b11aa5873ca3dbabb366d9ebb0fd0a87540", func := "pantry/pantrylaw09.RecordDraws", spec := "recordDraws", inPlace := ["internal/bytealg.abigen_runtime_cmpstring"], unfollowed := true, recurses := true, apart := false, narrowed := true }
def RecordDrawsUptoSaid : Prop := recordDrawsUptoRow.holds Try.pinned (OpenSpec.upto recordDrawsSpec)

end Rows
end Go.Proofs.Ytkcmhfcfmbhboaa
