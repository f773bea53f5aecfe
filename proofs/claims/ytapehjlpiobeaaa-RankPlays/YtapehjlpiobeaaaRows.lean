/-
  No cell of these rows narrows 'for every input' (looked for: loops, veiled, ifaces, maps, wideKeys, modest, calm, conditions, laid).
  DERIVED. THE GIVEN ROWS OF THIS SEAT. 3 by the template 'for every input the law returns true; each argument reads behind the call as it read before'; 0 by the template 'total and deterministic' (their statements: YtapehjlpiobeaaaTotals.lean).
  GIVEN WITH THE SEED: the statements are not yours to turn. If you find one false, say at which input.
  Laid BY PROGRAM, IN A SANDBOX (cutbox-rows.mjs): the forced cells as the released guide's own fill.sh prints them over the translation a1b6c8d214a31ff3… (all of the seat's roots in one cut). By AI agents, Wed Nov 11 2026. No macro, syntax, notation, axiom, sorry.
-/
import Derived.Test.YtapehjlpiobeaaaChecked
import GoSem.Claim
import GoSem.ClaimJoined
import GoSem.ClaimMapViews
import Derived.JoinedTies
import Derived.KernelRfl
namespace Go.Proofs.Ytapehjlpiobeaaa
/- THE CELL 'sum', in the pinned program and in every row, IS THE sha256 OF THE DUMP (.gsa) THAT YtapehjlpiobeaaaProg.lean LOADS. Nothing in Lean hashes anything: it is a label: what it is worth is what the hold of that sum in a sandbox is worth. -/
noncomputable def Try.pinned : Pinned := { name := "ytapehjlpiobeaaa", sum := "a1b6c8d214a31ff387bcd10ba5fe3f613e59cf8bde6d63ede3991fe6b330a87d", checked := Try.checked }
namespace Rows
def none {H : Type} : Left H := { results := [], args := [] }

/-- 'pantrylaw11.RankPlays': WHATEVER THE INPUT: true; the input reads as it did. -/
def rankPlaysSpec : ChangeSpec := { name := "rankPlays", fn := fun _ => fun
  | [d1, d2] => { results := [.lit (.bool true)], args := [d1, d2] }
  | _ => none }
def rankPlaysRow : OpenClaim := { program := "ytapehjlpiobeaaa", sum := "a1b6c8d214a31ff387bcd10ba5fe3f613e59cf8bde6d63ede3991fe6b330a87d", func := "pantry/pantrylaw11.RankPlays", spec := "rankPlays", inPlace := ["math.Float64frombits", "slices.overlaps[pantry/api.Ranked]", "slices.overlaps[[]pantry/api.Ranked]", "math.Float64bits"], unfollowed := true, recurses := true, apart := false }
def RankPlaysSaid : Prop := rankPlaysRow.holds Try.pinned (OpenSpec.ofChange rankPlaysSpec)

/-- ITS FALSE NEIGHBOUR: 'it returns false'. Refute it at one input. -/
def rankPlaysWrong : ChangeSpec := { name := "rankPlays", fn := fun _ => fun
  | [d1, d2] => { results := [.lit (.bool false)], args := [d1, d2] }
  | _ => none }
def RankPlaysWrongFalsely : Prop := rankPlaysRow.holds Try.pinned (OpenSpec.ofChange rankPlaysWrong)

/-- 'pantrylaw11.RankOrders': WHATEVER THE INPUT: true; the input reads as it did. -/
def rankOrdersSpec : ChangeSpec := { name := "rankOrders", fn := fun _ => fun
  | [d1, d2] => { results := [.lit (.bool true)], args := [d1, d2] }
  | _ => none }
def rankOrdersRow : OpenClaim := { program := "ytapehjlpiobeaaa", sum := "a1b6c8d214a31ff387bcd10ba5fe3f613e59cf8bde6d63ede3991fe6b330a87d", func := "pantry/pantrylaw11.RankOrders", spec := "rankOrders", inPlace := ["slices.overlaps[pantry/api.Ranked]", "slices.overlaps[[]pantry/api.Ranked]", "math.Float64frombits", "math.Float64bits"], unfollowed := true, recurses := true, apart := false }
def RankOrdersSaid : Prop := rankOrdersRow.holds Try.pinned (OpenSpec.ofChange rankOrdersSpec)

/-- ITS FALSE NEIGHBOUR: 'it returns false'. Refute it at one input. -/
def rankOrdersWrong : ChangeSpec := { name := "rankOrders", fn := fun _ => fun
  | [d1, d2] => { results := [.lit (.bool false)], args := [d1, d2] }
  | _ => none }
def RankOrdersWrongFalsely : Prop := rankOrdersRow.holds Try.pinned (OpenSpec.ofChange rankOrdersWrong)

/-- 'pantrylaw11.RankCopies': WHATEVER THE INPUT: true; the input reads as it did. -/
def rankCopiesSpec : ChangeSpec := { name := "rankCopies", fn := fun _ => fun
  | [d1, d2, d3] => { results := [.lit (.bool true)], args := [d1, d2, d3] }
  | _ => none }
def rankCopiesRow : OpenClaim := { program := "ytapehjlpiobeaaa", sum := "a1b6c8d214a31ff387bcd10ba5fe3f613e59cf8bde6d63ede3991fe6b330a87d", func := "pantry/pantrylaw11.RankCopies", spec := "rankCopies", inPlace := ["slices.overlaps[pantry/api.Ranked]", "slices.overlaps[[]pantry/api.Ranked]", "math.Float64frombits", "math.Float64bits"], unfollowed := true, recurses := true, apart := false }
def RankCopiesSaid : Prop := rankCopiesRow.holds Try.pinned (OpenSpec.ofChange rankCopiesSpec)

/-- ITS FALSE NEIGHBOUR: 'it returns false'. Refute it at one input. -/
def rankCopiesWrong : ChangeSpec := { name := "rankCopies", fn := fun _ => fun
  | [d1, d2, d3] => { results := [.lit (.bool false)], args := [d1, d2, d3] }
  | _ => none }
def RankCopiesWrongFalsely : Prop := rankCopiesRow.holds Try.pinned (OpenSpec.ofChange rankCopiesWrong)

/- THE SECOND FORM. 'bulk': how many values and letters a reading holds, each counted each time it is reached (what is shared counts as often as it is met; a slice's spare places count too). A statement '..UptoSaid' is the law's where the arguments, and the package variables that the reading takes, are together of bulk at most 1048576: NARROWER than '..Said'. Prove '..Said' where nothing that the law and all that it calls make is longer than what came in: it says more and counts as full. Else prove '..UptoSaid'. A law counts once. -/
mutual
def uptoBulk {H : Type} : DataW H → Nat
  | .lit (.string bytes) => bytes.length + 1
  | .lit _ => 1
  | .nil => 1
  | .ptr d => uptoBulk d + 1
  | .slice elems spare => uptoBulkAll elems + uptoBulkAll spare + 1
  | .agg parts => uptoBulkAll parts + 1
  | .iface _ d => uptoBulk d + 1
  | .map entries => uptoBulkEntries entries + 1
  | .held _ => 1
def uptoBulkAll {H : Type} : List (DataW H) → Nat
  | [] => 0
  | d :: r => uptoBulk d + uptoBulkAll r
def uptoBulkEntries {H : Type} : List (Lit × DataW H) → Nat
  | [] => 0
  | x :: r => uptoBulkEntry x + uptoBulkEntries r
def uptoBulkEntry {H : Type} : Lit × DataW H → Nat
  | (.string bytes, d) => bytes.length + uptoBulk d + 1
  | (_, d) => uptoBulk d + 1
 end
def uptoSmall : (H : Type) → List (DataW H) → Bool := fun _ ds => decide (uptoBulkAll ds ≤ 1048576)
def OpenSpec.upto (s : _root_.Go.ChangeSpec) : _root_.Go.OpenSpec := { _root_.Go.OpenSpec.ofChange s with cond := some uptoSmall }

/-- 'pantrylaw11.RankPlays', WHERE WHAT IT READS IS OF BULK AT MOST 1048576: true; the input reads as it did. -/
def rankPlaysUptoRow : OpenClaim := { program := "ytapehjlpiobeaaa", sum := "a1b6c8d214a31ff387bcd10ba5fe3f613e59cf8bde6d63ede3991fe6b330a87d", func := "pantry/pantrylaw11.RankPlays", spec := "rankPlays", inPlace := ["math.Float64frombits", "slices.overlaps[pantry/api.Ranked]", "slices.overlaps[[]pantry/api.Ranked]", "math.Float64bits"], unfollowed := true, recurses := true, apart := false, narrowed := true }
def RankPlaysUptoSaid : Prop := rankPlaysUptoRow.holds Try.pinned (OpenSpec.upto rankPlaysSpec)

/-- 'pantrylaw11.RankOrders', WHERE WHAT IT READS IS OF BULK AT MOST 1048576: true; the input reads as it did. -/
def rankOrdersUptoRow : OpenClaim := { program := "ytapehjlpiobeaaa", sum := "a1b6c8d214a31ff387bcd10ba5fe3f613e59cf8bde6d63ede3991fe6b330a87d", func := "pantry/pantrylaw11.RankOrders", spec := "rankOrders", inPlace := ["slices.overlaps[pantry/api.Ranked]", "slices.overlaps[[]pantry/api.Ranked]", "math.Float64frombits", "math.Float64bits"], unfollowed := true, recurses := true, apart := false, narrowed := true }
def RankOrdersUptoSaid : Prop := rankOrdersUptoRow.holds Try.pinned (OpenSpec.upto rankOrdersSpec)

/-- 'pantrylaw11.RankCopies', WHERE WHAT IT READS IS OF BULK AT MOST 1048576: true; the input reads as it did. -/
def rankCopiesUptoRow : OpenClaim := { program := "ytapehjlpiobeaaa", sum := "a1b6c8d214a31ff387bcd10ba5fe3f613e59cf8bde6d63ede3991fe6b330a87d", func := "pantry/pantrylaw11.RankCopies", spec := "rankCopies", inPlace := ["slices.overlaps[pantry/api.Ranked]", "slices.overlaps[[]pantry/api.Ranked]", "math.Float64frombits", "math.Float64bits"], unfollowed := true, recurses := true, apart := false, narrowed := true }
def RankCopiesUptoSaid : Prop := rankCopiesUptoRow.holds Try.pinned (OpenSpec.upto rankCopiesSpec)

end Rows
end Go.Proofs.Ytapehjlpiobeaaa
