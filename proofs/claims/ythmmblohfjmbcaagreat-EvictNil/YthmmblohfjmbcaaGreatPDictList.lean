/-
  The cells of a row of entries.
-/
import Derived.Test.YthmmblohfjmbcaaGreatPDictTale
namespace Go.Proofs.YthmmblohfjmbcaaGreat.DP
open Go.RowKit
def enL (l : List Ent) : List Value := l.flatMap enE
theorem enL_len (l : List Ent) : (enL l).length = l.length * 2 := by
  unfold enL
  induction l with
  | nil => rfl
  | cons e l ih => rw [List.flatMap_cons, List.length_append, ih]; simp [enE]; omega
end Go.Proofs.YthmmblohfjmbcaaGreat.DP
