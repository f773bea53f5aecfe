/-
  No cell of these rows narrows 'for every input' (looked for: loops, veiled, ifaces, maps, wideKeys, modest, calm, conditions, laid).
  DERIVED. THE GIVEN ROWS OF THIS SEAT. 3 by the template 'for every input the law returns true; each argument reads behind the call as it read before'; 0 by the template 'total and deterministic' (their statements: YtdpclcopckbgeaaTotals.lean).
  GIVEN WITH THE SEED: the statements are not yours to turn. If you find one false, say at which input.
  Laid BY PROGRAM, IN A SANDBOX (cutbox-rows.mjs): the forced cells as the released guide's own fill.sh prints them over the translation fbe00ca7184c5583… (all of the seat's roots in one cut). By AI agents, Wed Nov 11 2026. No macro, syntax, notation, axiom, sorry.
-/
import Derived.Test.YtdpclcopckbgeaaChecked
import GoSem.Claim
import GoSem.ClaimJoined
import GoSem.ClaimMapViews
import Derived.JoinedTies
import Derived.KernelRfl
namespace Go.Proofs.Ytdpclcopckbgeaa
/- THE CELL 'sum', in the pinned program and in every row, IS THE sha256 OF THE DUMP (.gsa) THAT YtdpclcopckbgeaaProg.lean LOADS. Nothing in Lean hashes anything: it is a label: what it is worth is what the hold of that sum in a sandbox is worth. -/
noncomputable def Try.pinned : Pinned := { name := "ytdpclcopckbgeaa", sum := "fbe00ca7184c55833b0e5593e428c05e8d3fe446a4f23ccf992d74d62437353f", checked := Try.checked }
namespace Rows
def none {H : Type} : Left H := { results := [], args := [] }

/-- 'pantrylaw01.DigitReads': WHATEVER THE INPUT: true; the input reads as it did. -/
def digitReadsSpec : ChangeSpec := { name := "digitReads", fn := fun _ => fun
  | [d] => { results := [.lit (.bool true)], args := [d] }
  | _ => none }
def digitReadsRow : OpenClaim := { program := "ytdpclcopckbgeaa", sum := "fbe00ca7184c55833b0e5593e428c05e8d3fe446a4f23ccf992d74d62437353f", func := "pantry/pantrylaw01.DigitReads", spec := "digitReads", apart := false }
def DigitReadsSaid : Prop := digitReadsRow.holds Try.pinned (OpenSpec.ofChange digitReadsSpec)

/-- ITS FALSE NEIGHBOUR: 'it returns false'. Refute it at one input. -/
def digitReadsWrong : ChangeSpec := { name := "digitReads", fn := fun _ => fun
  | [d] => { results := [.lit (.bool false)], args := [d] }
  | _ => none }
def DigitReadsWrongFalsely : Prop := digitReadsRow.holds Try.pinned (OpenSpec.ofChange digitReadsWrong)

/-- 'pantrylaw01.DigitAdds': WHATEVER THE INPUT: true; the input reads as it did. -/
def digitAddsSpec : ChangeSpec := { name := "digitAdds", fn := fun _ => fun
  | [d1, d2] => { results := [.lit (.bool true)], args := [d1, d2] }
  | _ => none }
def digitAddsRow : OpenClaim := { program := "ytdpclcopckbgeaa", sum := "fbe00ca7184c55833b0e5593e428c05e8d3fe446a4f23ccf992d74d62437353f", func := "pantry/pantrylaw01.DigitAdds", spec := "digitAdds", apart := false }
def DigitAddsSaid : Prop := digitAddsRow.holds Try.pinned (OpenSpec.ofChange digitAddsSpec)

/-- ITS FALSE NEIGHBOUR: 'it returns false'. Refute it at one input. -/
def digitAddsWrong : ChangeSpec := { name := "digitAdds", fn := fun _ => fun
  | [d1, d2] => { results := [.lit (.bool false)], args := [d1, d2] }
  | _ => none }
def DigitAddsWrongFalsely : Prop := digitAddsRow.holds Try.pinned (OpenSpec.ofChange digitAddsWrong)

/-- 'pantrylaw01.DigitSpans': WHATEVER THE INPUT: true; the input reads as it did. -/
def digitSpansSpec : ChangeSpec := { name := "digitSpans", fn := fun _ => fun
  | [d1, d2, d3] => { results := [.lit (.bool true)], args := [d1, d2, d3] }
  | _ => none }
def digitSpansRow : OpenClaim := { program := "ytdpclcopckbgeaa", sum := "fbe00ca7184c55833b0e5593e428c05e8d3fe446a4f23ccf992d74d62437353f", func := "pantry/pantrylaw01.DigitSpans", spec := "digitSpans", apart := false }
def DigitSpansSaid : Prop := digitSpansRow.holds Try.pinned (OpenSpec.ofChange digitSpansSpec)

/-- ITS FALSE NEIGHBOUR: 'it returns false'. Refute it at one input. -/
def digitSpansWrong : ChangeSpec := { name := "digitSpans", fn := fun _ => fun
  | [d1, d2, d3] => { results := [.lit (.bool false)], args := [d1, d2, d3] }
  | _ => none }
def DigitSpansWrongFalsely : Prop := digitSpansRow.holds Try.pinned (OpenSpec.ofChange digitSpansWrong)

/- THE SECOND FORM. 'bulk': how many values and letters a reading holds, each counted each time it is reached (what is shared counts as often as it is met; a slice's spare places count too). A statement '..UptoSaid' is the law's where the arguments, and the package variables that the reading takes, are together of bulk at most 1048576: NARROWER than '..Said'. Prove '..Said' where nothing that the law and all that it calls make is longer than what came in: it says more and counts as full. Else prove '..UptoSaid'. A law counts once. -/
mutual
def uptoBulk {H : Type} : DataW H → Nat
  | .lit (.string bytes) => bytes.length + 1
  | .lit _ => 1
  | .nil => 1
  | .ptr d => uptoBulk d + 1
  | .slice elems spare => uptoBulkAll elems + uptoBulkAll spare + 1
  | .agg parts => uptoBulkAll parts + 1
  | .iface _ d => uptoBulk d + 1
  | .map entries => uptoBulkEntries entries + 1
  | .held _ => 1
def uptoBulkAll {H : Type} : List (DataW H) → Nat
  | [] => 0
  | d :: r => uptoBulk d + uptoBulkAll r
def uptoBulkEntries {H : Type} : List (Lit × DataW H) → Nat
  | [] => 0
  | x :: r => uptoBulkEntry x + uptoBulkEntries r
def uptoBulkEntry {H : Type} : Lit × DataW H → Nat
  | (.string bytes, d) => bytes.length + uptoBulk d + 1
  | (_, d) => uptoBulk d + 1
 end
def uptoSmall : (H : Type) → List (DataW H) → Bool := fun _ ds => decide (uptoBulkAll ds ≤ 1048576)
def OpenSpec.upto (s : _root_.Go.ChangeSpec) : _root_.Go.OpenSpec := { _root_.Go.OpenSpec.ofChange s with cond := some uptoSmall }

/-- 'pantrylaw01.DigitReads', WHERE WHAT IT READS IS OF BULK AT MOST 1048576: true; the input reads as it did. -/
def digitReadsUptoRow : OpenClaim := { program := "ytdpclcopckbgeaa", sum := "fbe00ca7184c55833b0e5593e428c05e8d3fe446a4f23ccf992d74d62437353f", func := "pantry/pantrylaw01.DigitReads", spec := "digitReads", apart := false, narrowed := true }
def DigitReadsUptoSaid : Prop := digitReadsUptoRow.holds Try.pinned (OpenSpec.upto digitReadsSpec)

/-- 'pantrylaw01.DigitAdds', WHERE WHAT IT READS IS OF BULK AT MOST 1048576: true; the input reads as it did. -/
def digitAddsUptoRow : OpenClaim := { program := "ytdpclcopckbgeaa", sum := "fbe00ca7184c55833b0e5593e428c05e8d3fe446a4f23ccf992d74d62437353f", func := "pantry/pantrylaw01.DigitAdds", spec := "digitAdds", apart := false, narrowed := true }
def DigitAddsUptoSaid : Prop := digitAddsUptoRow.holds Try.pinned (OpenSpec.upto digitAddsSpec)

/-- 'pantrylaw01.DigitSpans', WHERE WHAT IT READS IS OF BULK AT MOST 1048576: true; the input reads as it did. -/
def digitSpansUptoRow : OpenClaim := { program := "ytdpclcopckbgeaa", sum := "fbe00ca7184c55833b0e5593e428c05e8d3fe446a4f23ccf992d74d62437353f", func := "pantry/pantrylaw01.DigitSpans", spec := "digitSpans", apart := false, narrowed := true }
def DigitSpansUptoSaid : Prop := digitSpansUptoRow.holds Try.pinned (OpenSpec.upto digitSpansSpec)

end Rows
end Go.Proofs.Ytdpclcopckbgeaa
