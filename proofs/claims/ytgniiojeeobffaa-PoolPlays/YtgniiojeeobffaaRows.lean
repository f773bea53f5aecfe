/-
  No cell of these rows narrows 'for every input' (looked for: loops, veiled, ifaces, maps, wideKeys, modest, calm, conditions, laid).
  DERIVED. THE GIVEN ROWS OF THIS SEAT. 5 by the template 'for every input the law returns true; each argument reads behind the call as it read before'; 0 by the template 'total and deterministic' (their statements: YtgniiojeeobffaaTotals.lean).
  GIVEN WITH THE SEED: the statements are not yours to turn. If you find one false, say at which input.
  Laid BY PROGRAM, IN A SANDBOX (cutbox-rows.mjs): the forced cells as the released guide's own fill.sh prints them over the translation fa95ae745f2aa2ff… (all of the seat's roots in one cut). By AI agents, Wed Nov 11 2026. No macro, syntax, notation, axiom, sorry.
-/
import Derived.Test.YtgniiojeeobffaaChecked
import GoSem.Claim
import GoSem.ClaimJoined
import GoSem.ClaimMapViews
import Derived.JoinedTies
import Derived.KernelRfl
namespace Go.Proofs.Ytgniiojeeobffaa
/- THE CELL 'sum', in the pinned program and in every row, IS THE sha256 OF THE DUMP (.gsa) THAT YtgniiojeeobffaaProg.lean LOADS. Nothing in Lean hashes anything: it is a label: what it is worth is what the hold of that sum in a sandbox is worth. -/
noncomputable def Try.pinned : Pinned := { name := "ytgniiojeeobffaa", sum := "fa95ae745f2aa2ff644ea40fcbfb53840d1dbe56dcae69cb2ad1edf0eaac0279", checked := Try.checked }
namespace Rows
def none {H : Type} : Left H := { results := [], args := [] }

/-- 'pantrylaw14.PoolPlays': WHATEVER THE INPUT: true; the input reads as it did. -/
def poolPlaysSpec : ChangeSpec := { name := "poolPlays", fn := fun _ => fun
  | [d1, d2, d3] => { results := [.lit (.bool true)], args := [d1, d2, d3] }
  | _ => none }
def poolPlaysRow : OpenClaim := { program := "ytgniiojeeobffaa", sum := "fa95ae745f2aa2ff644ea40fcbfb53840d1dbe56dcae69cb2ad1edf0eaac0279", func := "pantry/pantrylaw14.PoolPlays", spec := "poolPlays", inPlace := ["slices.overlaps[pantry/api.Candidate]"], unfollowed := true, recurses := true, apart := false }
def PoolPlaysSaid : Prop := poolPlaysRow.holds Try.pinned (OpenSpec.ofChange poolPlaysSpec)

/-- ITS FALSE NEIGHBOUR: 'it returns false'. Refute it at one input. -/
def poolPlaysWrong : ChangeSpec := { name := "poolPlays", fn := fun _ => fun
  | [d1, d2, d3] => { results := [.lit (.bool false)], args := [d1, d2, d3] }
  | _ => none }
def PoolPlaysWrongFalsely : Prop := poolPlaysRow.holds Try.pinned (OpenSpec.ofChange poolPlaysWrong)

/-- 'pantrylaw14.PoolNone': WHATEVER THE INPUT: true; the input reads as it did. -/
def poolNoneSpec : ChangeSpec := { name := "poolNone", fn := fun _ => fun
  | [] => { results := [.lit (.bool true)], args := [] }
  | _ => none }
def poolNoneRow : OpenClaim := { program := "ytgniiojeeobffaa", sum := "fa95ae745f2aa2ff644ea40fcbfb53840d1dbe56dcae69cb2ad1edf0eaac0279", func := "pantry/pantrylaw14.PoolNone", spec := "poolNone", inPlace := ["slices.overlaps[pantry/api.Candidate]"], unfollowed := true, recurses := true, apart := false }
def PoolNoneSaid : Prop := poolNoneRow.holds Try.pinned (OpenSpec.ofChange poolNoneSpec)

/-- ITS FALSE NEIGHBOUR: 'it returns false'. Refute it at one input. -/
def poolNoneWrong : ChangeSpec := { name := "poolNone", fn := fun _ => fun
  | [] => { results := [.lit (.bool false)], args := [] }
  | _ => none }
def PoolNoneWrongFalsely : Prop := poolNoneRow.holds Try.pinned (OpenSpec.ofChange poolNoneWrong)

/-- 'pantrylaw14.PoolSoonest': WHATEVER THE INPUT: true; the input reads as it did. -/
def poolSoonestSpec : ChangeSpec := { name := "poolSoonest", fn := fun _ => fun
  | [d1, d2] => { results := [.lit (.bool true)], args := [d1, d2] }
  | _ => none }
def poolSoonestRow : OpenClaim := { program := "ytgniiojeeobffaa", sum := "fa95ae745f2aa2ff644ea40fcbfb53840d1dbe56dcae69cb2ad1edf0eaac0279", func := "pantry/pantrylaw14.PoolSoonest", spec := "poolSoonest", inPlace := ["slices.overlaps[pantry/api.Candidate]"], unfollowed := true, recurses := true, apart := false }
def PoolSoonestSaid : Prop := poolSoonestRow.holds Try.pinned (OpenSpec.ofChange poolSoonestSpec)

/-- ITS FALSE NEIGHBOUR: 'it returns false'. Refute it at one input. -/
def poolSoonestWrong : ChangeSpec := { name := "poolSoonest", fn := fun _ => fun
  | [d1, d2] => { results := [.lit (.bool false)], args := [d1, d2] }
  | _ => none }
def PoolSoonestWrongFalsely : Prop := poolSoonestRow.holds Try.pinned (OpenSpec.ofChange poolSoonestWrong)

/-- 'pantrylaw14.PoolRises': WHATEVER THE INPUT: true; the input reads as it did. -/
def poolRisesSpec : ChangeSpec := { name := "poolRises", fn := fun _ => fun
  | [d1, d2] => { results := [.lit (.bool true)], args := [d1, d2] }
  | _ => none }
def poolRisesRow : OpenClaim := { program := "ytgniiojeeobffaa", sum := "fa95ae745f2aa2ff644ea40fcbfb53840d1dbe56dcae69cb2ad1edf0eaac0279", func := "pantry/pantrylaw14.PoolRises", spec := "poolRises", inPlace := ["slices.overlaps[pantry/api.Candidate]"], unfollowed := true, recurses := true, apart := false }
def PoolRisesSaid : Prop := poolRisesRow.holds Try.pinned (OpenSpec.ofChange poolRisesSpec)

/-- ITS FALSE NEIGHBOUR: 'it returns false'. Refute it at one input. -/
def poolRisesWrong : ChangeSpec := { name := "poolRises", fn := fun _ => fun
  | [d1, d2] => { results := [.lit (.bool false)], args := [d1, d2] }
  | _ => none }
def PoolRisesWrongFalsely : Prop := poolRisesRow.holds Try.pinned (OpenSpec.ofChange poolRisesWrong)

/-- 'pantrylaw14.PoolKnown': WHATEVER THE INPUT: true; the input reads as it did. -/
def poolKnownSpec : ChangeSpec := { name := "poolKnown", fn := fun _ => fun
  | [] => { results := [.lit (.bool true)], args := [] }
  | _ => none }
def poolKnownRow : OpenClaim := { program := "ytgniiojeeobffaa", sum := "fa95ae745f2aa2ff644ea40fcbfb53840d1dbe56dcae69cb2ad1edf0eaac0279", func := "pantry/pantrylaw14.PoolKnown", spec := "poolKnown", inPlace := ["slices.overlaps[pantry/api.Candidate]"], unfollowed := true, recurses := true, apart := false }
def PoolKnownSaid : Prop := poolKnownRow.holds Try.pinned (OpenSpec.ofChange poolKnownSpec)

/-- ITS FALSE NEIGHBOUR: 'it returns false'. Refute it at one input. -/
def poolKnownWrong : ChangeSpec := { name := "poolKnown", fn := fun _ => fun
  | [] => { results := [.lit (.bool false)], args := [] }
  | _ => none }
def PoolKnownWrongFalsely : Prop := poolKnownRow.holds Try.pinned (OpenSpec.ofChange poolKnownWrong)

/- THE SECOND FORM. 'bulk': how many values and letters a reading holds, each counted each time it is reached (what is shared counts as often as it is met; a slice's spare places count too). A statement '..UptoSaid' is the law's where the arguments, and the package variables that the reading takes, are together of bulk at most 1048576: NARROWER than '..Said'. Prove '..Said' where nothing that the law and all that it calls make is longer than what came in: it says more and counts as full. Else prove '..UptoSaid'. A law counts once. -/
mutual
def uptoBulk {H : Type} : DataW H → Nat
  | .lit (.string bytes) => bytes.length + 1
  | .lit _ => 1
  | .nil => 1
  | .ptr d => uptoBulk d + 1
  | .slice elems spare => uptoBulkAll elems + uptoBulkAll spare + 1
  | .agg parts => uptoBulkAll parts + 1
  | .iface _ d => uptoBulk d + 1
  | .map entries => uptoBulkEntries entries + 1
  | .held _ => 1
def uptoBulkAll {H : Type} : List (DataW H) → Nat
  | [] => 0
  | d :: r => uptoBulk d + uptoBulkAll r
def uptoBulkEntries {H : Type} : List (Lit × DataW H) → Nat
  | [] => 0
  | x :: r => uptoBulkEntry x + uptoBulkEntries r
def uptoBulkEntry {H : Type} : Lit × DataW H → Nat
  | (.string bytes, d) => bytes.length + uptoBulk d + 1
  | (_, d) => uptoBulk d + 1
 end
def uptoSmall : (H : Type) → List (DataW H) → Bool := fun _ ds => decide (uptoBulkAll ds ≤ 1048576)
def OpenSpec.upto (s : _root_.Go.ChangeSpec) : _root_.Go.OpenSpec := { _root_.Go.OpenSpec.ofChange s with cond := some uptoSmall }

/-- 'pantrylaw14.PoolPlays', WHERE WHAT IT READS IS OF BULK AT MOST 1048576: true; the input reads as it did. -/
def poolPlaysUptoRow : OpenClaim := { program := "ytgniiojeeobffaa", sum := "fa95ae745f2aa2ff644ea40fcbfb53840d1dbe56dcae69cb2ad1edf0eaac0279", func := "pantry/pantrylaw14.PoolPlays", spec := "poolPlays", inPlace := ["slices.overlaps[pantry/api.Candidate]"], unfollowed := true, recurses := true, apart := false, narrowed := true }
def PoolPlaysUptoSaid : Prop := poolPlaysUptoRow.holds Try.pinned (OpenSpec.upto poolPlaysSpec)

/-- 'pantrylaw14.PoolNone', WHERE WHAT IT READS IS OF BULK AT MOST 1048576: true; the input reads as it did. -/
def poolNoneUptoRow : OpenClaim := { program := "ytgniiojeeobffaa", sum := "fa95ae745f2aa2ff644ea40fcbfb53840d1dbe56dcae69cb2ad1edf0eaac0279", func := "pantry/pantrylaw14.PoolNone", spec := "poolNone", inPlace := ["slices.overlaps[pantry/api.Candidate]"], unfollowed := true, recurses := true, apart := false, narrowed := true }
def PoolNoneUptoSaid : Prop := poolNoneUptoRow.holds Try.pinned (OpenSpec.upto poolNoneSpec)

/-- 'pantrylaw14.PoolSoonest', WHERE WHAT IT READS IS OF BULK AT MOST 1048576: true; the input reads as it did. -/
def poolSoonestUptoRow : OpenClaim := { program := "ytgniiojeeobffaa", sum := "fa95ae745f2aa2ff644ea40fcbfb53840d1dbe56dcae69cb2ad1edf0eaac0279", func := "pantry/pantrylaw14.PoolSoonest", spec := "poolSoonest", inPlace := ["slices.overlaps[pantry/api.Candidate]"], unfollowed := true, recurses := true, apart := false, narrowed := true }
def PoolSoonestUptoSaid : Prop := poolSoonestUptoRow.holds Try.pinned (OpenSpec.upto poolSoonestSpec)

/-- 'pantrylaw14.PoolRises', WHERE WHAT IT READS IS OF BULK AT MOST 1048576: true; the input reads as it did. -/
def poolRisesUptoRow : OpenClaim := { program := "ytgniiojeeobffaa", sum := "fa95ae745f2aa2ff644ea40fcbfb53840d1dbe56dcae69cb2ad1edf0eaac0279", func := "pantry/pantrylaw14.PoolRises", spec := "poolRises", inPlace := ["slices.overlaps[pantry/api.Candidate]"], unfollowed := true, recurses := true, apart := false, narrowed := true }
def PoolRisesUptoSaid : Prop := poolRisesUptoRow.holds Try.pinned (OpenSpec.upto poolRisesSpec)

/-- 'pantrylaw14.PoolKnown', WHERE WHAT IT READS IS OF BULK AT MOST 1048576: true; the input reads as it did. -/
def poolKnownUptoRow : OpenClaim := { program := "ytgniiojeeobffaa", sum := "fa95ae745f2aa2ff644ea40fcbfb53840d1dbe56dcae69cb2ad1edf0eaac0279", func := "pantry/pantrylaw14.PoolKnown", spec := "poolKnown", inPlace := ["slices.overlaps[pantry/api.Candidate]"], unfollowed := true, recurses := true, apart := false, narrowed := true }
def PoolKnownUptoSaid : Prop := poolKnownUptoRow.holds Try.pinned (OpenSpec.upto poolKnownSpec)

end Rows
end Go.Proofs.Ytgniiojeeobffaa
