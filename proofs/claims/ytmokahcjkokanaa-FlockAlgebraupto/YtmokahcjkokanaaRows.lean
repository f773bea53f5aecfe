/-
  No cell of these rows narrows 'for every input' (looked for: loops, veiled, ifaces, maps, wideKeys, modest, calm, conditions, laid).
  DERIVED. THE GIVEN ROWS OF THIS SEAT. 4 by the template 'for every input the law returns true; each argument reads behind the call as it read before'; 0 by the template 'total and deterministic' (their statements: YtmokahcjkokanaaTotals.lean).
  GIVEN WITH THE SEED: the statements are not yours to turn. If you find one false, say at which input.
  Laid BY PROGRAM, IN A SANDBOX (cutbox-rows.mjs): the forced cells as the released guide's own fill.sh prints them over the translation 5ea186810b88c553… (all of the seat's roots in one cut). By AI agents, Wed Nov 11 2026. No macro, syntax, notation, axiom, sorry.
-/
import Derived.Test.YtmokahcjkokanaaChecked
import GoSem.Claim
import GoSem.ClaimJoined
import GoSem.ClaimMapViews
import Derived.JoinedTies
import Derived.KernelRfl
namespace Go.Proofs.Ytmokahcjkokanaa
/- THE CELL 'sum', in the pinned program and in every row, IS THE sha256 OF THE DUMP (.gsa) THAT YtmokahcjkokanaaProg.lean LOADS. Nothing in Lean hashes anything: it is a label: what it is worth is what the hold of that sum in a sandbox is worth. -/
noncomputable def Try.pinned : Pinned := { name := "ytmokahcjkokanaa", sum := "5ea186810b88c553d210046683b9ba497228d3a98794ecd024d04939f2edeb54", checked := Try.checked }
namespace Rows
def none {H : Type} : Left H := { results := [], args := [] }

/-- 'pantrylaw10.FlockIsSet': WHATEVER THE INPUT: true; the input reads as it did. -/
def flockIsSetSpec : ChangeSpec := { name := "flockIsSet", fn := fun _ => fun
  | [d1, d2] => { results := [.lit (.bool true)], args := [d1, d2] }
  | _ => none }
def flockIsSetRow : OpenClaim := { program := "ytmokahcjkokanaa", sum := "5ea186810b88c553d210046683b9ba497228d3a98794ecd024d04939f2edeb54", func := "pantry/pantrylaw10.FlockIsSet", spec := "flockIsSet", unfollowed := true, recurses := true, apart := false }
def FlockIsSetSaid : Prop := flockIsSetRow.holds Try.pinned (OpenSpec.ofChange flockIsSetSpec)

/-- ITS FALSE NEIGHBOUR: 'it returns false'. Refute it at one input. -/
def flockIsSetWrong : ChangeSpec := { name := "flockIsSet", fn := fun _ => fun
  | [d1, d2] => { results := [.lit (.bool false)], args := [d1, d2] }
  | _ => none }
def FlockIsSetWrongFalsely : Prop := flockIsSetRow.holds Try.pinned (OpenSpec.ofChange flockIsSetWrong)

/-- 'pantrylaw10.FlockAlgebra': WHATEVER THE INPUT: true; the input reads as it did. -/
def flockAlgebraSpec : ChangeSpec := { name := "flockAlgebra", fn := fun _ => fun
  | [d1, d2] => { results := [.lit (.bool true)], args := [d1, d2] }
  | _ => none }
def flockAlgebraRow : OpenClaim := { program := "ytmokahcjkokanaa", sum := "5ea186810b88c553d210046683b9ba497228d3a98794ecd024d04939f2edeb54", func := "pantry/pantrylaw10.FlockAlgebra", spec := "flockAlgebra", unfollowed := true, recurses := true, apart := false }
def FlockAlgebraSaid : Prop := flockAlgebraRow.holds Try.pinned (OpenSpec.ofChange flockAlgebraSpec)

/-- ITS FALSE NEIGHBOUR: 'it returns false'. Refute it at one input. -/
def flockAlgebraWrong : ChangeSpec := { name := "flockAlgebra", fn := fun _ => fun
  | [d1, d2] => { results := [.lit (.bool false)], args := [d1, d2] }
  | _ => none }
def FlockAlgebraWrongFalsely : Prop := flockAlgebraRow.holds Try.pinned (OpenSpec.ofChange flockAlgebraWrong)

/-- 'pantrylaw10.FlockMissed': WHATEVER THE INPUT: true; the input reads as it did. -/
def flockMissedSpec : ChangeSpec := { name := "flockMissed", fn := fun _ => fun
  | [d1, d2, d3, d4] => { results := [.lit (.bool true)], args := [d1, d2, d3, d4] }
  | _ => none }
def flockMissedRow : OpenClaim := { program := "ytmokahcjkokanaa", sum := "5ea186810b88c553d210046683b9ba497228d3a98794ecd024d04939f2edeb54", func := "pantry/pantrylaw10.FlockMissed", spec := "flockMissed", unfollowed := true, recurses := true, apart := false }
def FlockMissedSaid : Prop := flockMissedRow.holds Try.pinned (OpenSpec.ofChange flockMissedSpec)

/-- ITS FALSE NEIGHBOUR: 'it returns false'. Refute it at one input. -/
def flockMissedWrong : ChangeSpec := { name := "flockMissed", fn := fun _ => fun
  | [d1, d2, d3, d4] => { results := [.lit (.bool false)], args := [d1, d2, d3, d4] }
  | _ => none }
def FlockMissedWrongFalsely : Prop := flockMissedRow.holds Try.pinned (OpenSpec.ofChange flockMissedWrong)

/-- 'pantrylaw10.FlockKnown': WHATEVER THE INPUT: true; the input reads as it did. -/
def flockKnownSpec : ChangeSpec := { name := "flockKnown", fn := fun _ => fun
  | [] => { results := [.lit (.bool true)], args := [] }
  | _ => none }
def flockKnownRow : OpenClaim := { program := "ytmokahcjkokanaa", sum := "5ea186810b88c553d210046683b9ba497228d3a98794ecd024d04939f2edeb54", func := "pantry/pantrylaw10.FlockKnown", spec := "flockKnown", unfollowed := true, recurses := true, apart := false }
def FlockKnownSaid : Prop := flockKnownRow.holds Try.pinned (OpenSpec.ofChange flockKnownSpec)

/-- ITS FALSE NEIGHBOUR: 'it returns false'. Refute it at one input. -/
def flockKnownWrong : ChangeSpec := { name := "flockKnown", fn := fun _ => fun
  | [] => { results := [.lit (.bool false)], args := [] }
  | _ => none }
def FlockKnownWrongFalsely : Prop := flockKnownRow.holds Try.pinned (OpenSpec.ofChange flockKnownWrong)

/- THE SECOND FORM. 'bulk': how many values and letters a reading holds, each counted each time it is reached (what is shared counts as often as it is met; a slice's spare places count too). A statement '..UptoSaid' is the law's where the arguments, and the package variables that the reading takes, are together of bulk at most 1048576: NARROWER than '..Said'. Prove '..Said' where nothing that the law and all that it calls make is longer than what came in: it says more and counts as full. Else prove '..UptoSaid'. A law counts once. -/
mutual
def uptoBulk {H : Type} : DataW H → Nat
  | .lit (.string bytes) => bytes.length + 1
  | .lit _ => 1
  | .nil => 1
  | .ptr d => uptoBulk d + 1
  | .slice elems spare => uptoBulkAll elems + uptoBulkAll spare + 1
  | .agg parts => uptoBulkAll parts + 1
  | .iface _ d => uptoBulk d + 1
  | .map entries => uptoBulkEntries entries + 1
  | .held _ => 1
def uptoBulkAll {H : Type} : List (DataW H) → Nat
  | [] => 0
  | d :: r => uptoBulk d + uptoBulkAll r
def uptoBulkEntries {H : Type} : List (Lit × DataW H) → Nat
  | [] => 0
  | x :: r => uptoBulkEntry x + uptoBulkEntries r
def uptoBulkEntry {H : Type} : Lit × DataW H → Nat
  | (.string bytes, d) => bytes.length + uptoBulk d + 1
  | (_, d) => uptoBulk d + 1
 end
def uptoSmall : (H : Type) → List (DataW H) → Bool := fun _ ds => decide (uptoBulkAll ds ≤ 1048576)
def OpenSpec.upto (s : _root_.Go.ChangeSpec) : _root_.Go.OpenSpec := { _root_.Go.OpenSpec.ofChange s with cond := some uptoSmall }

/-- 'pantrylaw10.FlockIsSet', WHERE WHAT IT READS IS OF BULK AT MOST 1048576: true; the input reads as it did. -/
def flockIsSetUptoRow : OpenClaim := { program := "ytmokahcjkokanaa", sum := "5ea186810b88c553d210046683b9ba497228d3a98794ecd024d04939f2edeb54", func := "pantry/pantrylaw10.FlockIsSet", spec := "flockIsSet", unfollowed := true, recurses := true, apart := false, narrowed := true }
def FlockIsSetUptoSaid : Prop := flockIsSetUptoRow.holds Try.pinned (OpenSpec.upto flockIsSetSpec)

/-- 'pantrylaw10.FlockAlgebra', WHERE WHAT IT READS IS OF BULK AT MOST 1048576: true; the input reads as it did. -/
def flockAlgebraUptoRow : OpenClaim := { program := "ytmokahcjkokanaa", sum := "5ea186810b88c553d210046683b9ba497228d3a98794ecd024d04939f2edeb54", func := "pantry/pantrylaw10.FlockAlgebra", spec := "flockAlgebra", unfollowed := true, recurses := true, apart := false, narrowed := true }
def FlockAlgebraUptoSaid : Prop := flockAlgebraUptoRow.holds Try.pinned (OpenSpec.upto flockAlgebraSpec)

/-- 'pantrylaw10.FlockMissed', WHERE WHAT IT READS IS OF BULK AT MOST 1048576: true; the input reads as it did. -/
def flockMissedUptoRow : OpenClaim := { program := "ytmokahcjkokanaa", sum := "5ea186810b88c553d210046683b9ba497228d3a98794ecd024d04939f2edeb54", func := "pantry/pantrylaw10.FlockMissed", spec := "flockMissed", unfollowed := true, recurses := true, apart := false, narrowed := true }
def FlockMissedUptoSaid : Prop := flockMissedUptoRow.holds Try.pinned (OpenSpec.upto flockMissedSpec)

/-- 'pantrylaw10.FlockKnown', WHERE WHAT IT READS IS OF BULK AT MOST 1048576: true; the input reads as it did. -/
def flockKnownUptoRow : OpenClaim := { program := "ytmokahcjkokanaa", sum := "5ea186810b88c553d210046683b9ba497228d3a98794ecd024d04939f2edeb54", func := "pantry/pantrylaw10.FlockKnown", spec := "flockKnown", unfollowed := true, recurses := true, apart := false, narrowed := true }
def FlockKnownUptoSaid : Prop := flockKnownUptoRow.holds Try.pinned (OpenSpec.upto flockKnownSpec)

end Rows
end Go.Proofs.Ytmokahcjkokanaa
