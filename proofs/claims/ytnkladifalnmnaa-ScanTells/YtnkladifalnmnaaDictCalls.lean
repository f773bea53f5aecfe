/-
  Contracts over this program: what the calls of a dict tell, and what they leave.
-/
import Derived.Test.YtnkladifalnmnaaDictOk
import Derived.Test.YtnkladifalnmnaaDictShrink
import Derived.Test.YtnkladifalnmnaaDictTake
namespace Go.Proofs.Ytnkladifalnmnaa
open Go.RowKit Go.Shelf
/-- a dict between two calls -/
def Dd (h : ByteArray → Nat) (N : Nat) (w : World) (r : Roles) (b seed : Nat) (s : Dc.St ByteArray Int) : Prop := Dct w r b seed (Dc.all s).length s ∧ Okd h N s
theorem Dd.kept {h : ByteArray → Nat} {N : Nat} {w w' : World} {r : Roles} {b seed : Nat} {s : Dc.St ByteArray Int} (hd : Dd h N w r b seed s) (hs : w.heap.size ≤ w'.heap.size) (hk : ∀ k, k < w.heap.size → r k ≠ (0, 0) → w'.heap[k]? = w.heap[k]?) : Dd h N w' r b seed s := ⟨hd.1.kept hs hk, hd.2⟩
theorem Dd.more {h : ByteArray → Nat} {N N' : Nat} {w : World} {r : Roles} {b seed : Nat} {s : Dc.St ByteArray Int} (hd : Dd h N w r b seed s) (hN : N ≤ N') : Dd h N' w r b seed s := ⟨hd.1, hd.2.more hN⟩
theorem Dd.below {h : ByteArray → Nat} {N : Nat} {w w' : World} {r : Roles} {b seed : Nat} {s : Dc.St ByteArray Int} (hd : Dd h N w r b seed s) (hb : Below w.heap.size w w') : Dd h N w' r b seed s := ⟨hd.1.below hb, hd.2⟩
set_option maxHeartbeats 400000 in
theorem new_any (h : ByteArray → Nat) (w : World) (seed N : Nat) :
    Calls Try.prog 8 #[.int .u64 seed] w fun e w' => e = .returned (.pointer (some ⟨w.heap.size, 0, none⟩)) ∧ Below w.heap.size w w' ∧ w'.heap.size = w.heap.size + 1 ∧ Dd h N w' (fun k => if k = w.heap.size then (5, 0) else (0, 0)) w.heap.size seed Dc.none0 := by
  go_enter Try.func8, Try.ntmps8
  go_wp2
  go_ret
  refine ⟨rfl, (Below.refl _ w).alloc (Nat.le_refl _) _, by simp, ⟨fun k hk => ?_, by simp, .slice none 0 0, .slice none 0 0, heap_alloc_new _ _, Tb.new, Tb.new⟩, okd_none h N⟩
  by_cases e : k = w.heap.size
  · rw [e]; simp
  · simp [e] at hk
set_option maxHeartbeats 400000 in
theorem len_any (w : World) (r : Roles) (b seed n : Nat) (s : Dc.St ByteArray Int) (hD : Dct w r b seed n s) :
    Calls Try.prog 19 #[.pointer (some ⟨b, 0, none⟩)] w fun e w' => e = .returned (.int .i64 n) ∧ w' = w := by
  obtain ⟨ao, ca, bo, cb, h4, h5, h3⟩ := hD.cells
  obtain ⟨c0, c1, c2, c3, c4, cf⟩ := five h3
  clear hD h4 h5 h3 c0 c2 c3 c4 cf
  go_enter Try.func19, Try.ntmps19
  go_wp2
  go_ret
  exact ⟨rfl, rfl⟩
set_option maxHeartbeats 400000 in
theorem sizes_any (w : World) (r : Roles) (b seed n : Nat) (s : Dc.St ByteArray Int) (hD : Dct w r b seed n s) :
    Calls Try.prog 23 #[.pointer (some ⟨b, 0, none⟩)] w fun e w' => e = .returned (.tuple #[.int .i64 s.old.length, .int .i64 s.young.length, .int .i64 s.pos]) ∧ ∃ q, w' = w.drewN q := by
  obtain ⟨ao, ca, bo, cb, h4, h5, h3⟩ := hD.cells
  obtain ⟨c0, c1, c2, c3, c4, cf⟩ := five h3
  clear hD h4 h5 h3 c0 c1 cf
  go_enter Try.func23, Try.ntmps23
  go_wp2_with fail
  go_quiet (fail)
  go_wp2
  refine bodyPost_ret (results_tmp3 rfl _ _ _) rfl ?_
  exact ⟨rfl, nq, rfl⟩
theorem set5 {a0 a1 a2 a3 a4 u0 u1 u2 u3 u4 : Value} {w : World} {b : Nat} {t : TypeId} {fr : Nat × Nat} (h : w.heap[b]? = some (.cells #[a0, a1, a2, a3, a4] t fr)) : (((((w.setCell ⟨b, 0, none⟩ u0).setCell ⟨b, 1, none⟩ u1).setCell ⟨b, 2, none⟩ u2).setCell ⟨b, 3, none⟩ u3).setCell ⟨b, 4, none⟩ u4).heap[b]? = some (.cells #[u0, u1, u2, u3, u4] t fr) :=
  cells_setCell (cells_setCell (cells_setCell (cells_setCell (cells_setCell h))))
set_option maxHeartbeats 400000 in
theorem clear_any (h : ByteArray → Nat) (w : World) (r : Roles) (b seed n N : Nat) (s : Dc.St ByteArray Int) (hD : Dct w r b seed n s) :
    Calls Try.prog 27 #[.pointer (some ⟨b, 0, none⟩)] w fun e w' => e = .returned (.tuple #[]) ∧ Dd h N w' r b seed Dc.none0 ∧ Fr w r w' r := by
  obtain ⟨ao, ca, bo, cb, h4, h5, h3⟩ := hD.cells
  obtain ⟨c0, c1, c2, c3, c4, cf⟩ := five h3
  have f0 := cf 0
  have f1 := cf 1
  have f2 := cf 2
  have f3 := cf 3
  have f4 := cf 4
  have HD := keep hD
  have H3 := keep h3
  clear hD h4 h5 h3 cf
  go_enter Try.func27, Try.ntmps27
  go_wp2
  go_end0
  have ho : Only b w (((((w.setCell ⟨b, 0, none⟩ (.int .u64 seed)).setCell ⟨b, 1, none⟩ (.int .i64 0)).setCell ⟨b, 2, none⟩ (.slice none 0 0)).setCell ⟨b, 3, none⟩ (.slice none 0 0)).setCell ⟨b, 4, none⟩ (.int .i64 0)) := (((((Only.refl b w).setCell 0 _).setCell 1 _).setCell 2 _).setCell 3 _).setCell 4 _
  exact ⟨rfl, ⟨ho.dct HD.out (s' := Dc.none0) (set5 H3.out) Tb.new Tb.new, okd_none h N⟩, ho.fr HD.out.2.1⟩
end Go.Proofs.Ytnkladifalnmnaa
