/-
  Contracts over this program: what the calls of a dict tell, and what they leave.
-/
import Derived.Test.YtapehjlpiobeaaaDictOk
import Derived.Test.YtapehjlpiobeaaaDictShrink
import Derived.Test.YtapehjlpiobeaaaDictTake
namespace Go.Proofs.Ytapehjlpiobeaaa
open Go.RowKit Go.Shelf
/-- a dict between two calls -/
def Dd (h : ByteArray → Nat) (N : Nat) (w : World) (r : Roles) (b seed : Nat) (s : Dc.St ByteArray Nat) : Prop := Dct w r b seed (Dc.all s).length s ∧ Okd h N s
theorem Dd.kept {h : ByteArray → Nat} {N : Nat} {w w' : World} {r : Roles} {b seed : Nat} {s : Dc.St ByteArray Nat} (hd : Dd h N w r b seed s) (hs : w.heap.size ≤ w'.heap.size) (hk : ∀ k, k < w.heap.size → r k ≠ (0, 0) → w'.heap[k]? = w.heap[k]?) : Dd h N w' r b seed s := ⟨hd.1.kept hs hk, hd.2⟩
theorem Dd.more {h : ByteArray → Nat} {N N' : Nat} {w : World} {r : Roles} {b seed : Nat} {s : Dc.St ByteArray Nat} (hd : Dd h N w r b seed s) (hN : N ≤ N') : Dd h N' w r b seed s := ⟨hd.1, hd.2.more hN⟩
theorem Dd.below {h : ByteArray → Nat} {N : Nat} {w w' : World} {r : Roles} {b seed : Nat} {s : Dc.St ByteArray Nat} (hd : Dd h N w r b seed s) (hb : Below w.heap.size w w') : Dd h N w' r b seed s := ⟨hd.1.below hb, hd.2⟩
set_option maxHeartbeats 400000 in
theorem new_any (h : ByteArray → Nat) (w : World) (seed N : Nat) :
    Calls Try.prog 22 #[.int .u64 seed] w fun e w' => e = .returned (.pointer (some ⟨w.heap.size, 0, none⟩)) ∧ Below w.heap.size w w' ∧ w'.heap.size = w.heap.size + 1 ∧ Dd h N w' (fun k => if k = w.heap.size then (5, 0) else (0, 0)) w.heap.size seed Dc.none0 := by
  go_enter Try.func22, Try.ntmps22
  go_wp2
  go_ret
  refine ⟨rfl, (Below.refl _ w).alloc (Nat.le_refl _) _, by simp, ⟨fun k hk => ?_, by simp, .slice none 0 0, .slice none 0 0, heap_alloc_new _ _, Tb.new, Tb.new⟩, okd_none h N⟩
  by_cases e : k = w.heap.size
  · rw [e]; simp
  · simp [e] at hk
set_option maxHeartbeats 400000 in
theorem len_any (w : World) (r : Roles) (b seed n : Nat) (s : Dc.St ByteArray Nat) (hD : Dct w r b seed n s) :
    Calls Try.prog 39 #[.pointer (some ⟨b, 0, none⟩)] w fun e w' => e = .returned (.int .i64 n) ∧ w' = w := by
  obtain ⟨ao, ca, bo, cb, h4, h5, h3⟩ := hD.cells
  obtain ⟨c0, c1, c2, c3, c4, cf⟩ := five h3
  clear hD h4 h5 h3 c0 c2 c3 c4 cf
  go_enter Try.func39, Try.ntmps39
  go_wp2
  go_ret
  exact ⟨rfl, rfl⟩
theorem set5 {a0 a1 a2 a3 a4 u0 u1 u2 u3 u4 : Value} {w : World} {b : Nat} {t : TypeId} {fr : Nat × Nat} (h : w.heap[b]? = some (.cells #[a0, a1, a2, a3, a4] t fr)) : (((((w.setCell ⟨b, 0, none⟩ u0).setCell ⟨b, 1, none⟩ u1).setCell ⟨b, 2, none⟩ u2).setCell ⟨b, 3, none⟩ u3).setCell ⟨b, 4, none⟩ u4).heap[b]? = some (.cells #[u0, u1, u2, u3, u4] t fr) :=
  cells_setCell (cells_setCell (cells_setCell (cells_setCell (cells_setCell h))))

end Go.Proofs.Ytapehjlpiobeaaa
