/-
  Contracts over this program: a table shrinks; an entry is taken out of its chain.
-/
import Derived.Test.YtcknmenhjipaeabDictGrow
namespace Go.Proofs.Ytcknmenhjipaeab
open Go.RowKit Go.Shelf
theorem fit_end {f m n : Nat} (h : n ≤ m) : Dc.fitF f m n = m := by
  cases f with
  | zero => rfl
  | succ f => simp only [Dc.fitF]; rw [if_neg (by omega)]
theorem fit_on {f m n : Nat} (h : m < n) : Dc.fitF (f + 1) m n = Dc.fitF f (2 * m) n := by
  simp only [Dc.fitF]; rw [if_pos h]
def heldS (b n : Nat) (ao bo : Option Addr) (L ca cb : Nat) (w : World) : Prop := w.cell? ⟨b, 1, none⟩ = some (.int .i64 n) ∧ w.cell? ⟨b, 2, none⟩ = some (.slice ao L ca) ∧ w.cell? ⟨b, 3, none⟩ = some (.slice bo 0 cb)
end Go.Proofs.Ytcknmenhjipaeab
