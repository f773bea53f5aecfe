/-
  Contracts over this program: a row told under its name; and what Find's own blocks are while it ranges over the pieces.
-/
import Derived.Test.YtaflggjgndkdlaaDoorVbSplit
import Derived.Test.YtaflggjgndkdlaaDoorVbUp
import Derived.Laws.Rows
namespace Go.Proofs.YtaflggjgndkdlaaDoor
open Go.RowKit
set_option linter.unusedVariables false
set_option maxHeartbeats 1000000 in
theorem row_any (n name : ByteArray) (r : Vb.Row) (w : World) : Calls Tryd.prog 25 #[rowV n r, .string name] w fun e w' => e = .returned (rowV name r) ∧ Below w.heap.size w w' := by
  obtain ⟨a, f, x, y, z⟩ := r
  unfold rowV rowL
  dsimp only
  go_enter Tryd.func25, Tryd.ntmps25
  go_wp2_with fail
  refine bodyPost_ret (v := .agg #[.string name, .int .i64 a, .int .i64 f, .int .i64 x, .int .i64 y, .int .i64 z]) ?_ rfl ⟨rfl, ((Below.refl _ w).alloc (Nat.le_refl _) _).alloc (by simp) _⟩
  rw [results_cell rfl]
  have hg := heap_alloc_new (w.alloc (.cells #[.string n, .int .i64 a, .int .i64 f, .int .i64 x, .int .i64 y, .int .i64 z] 44)) (.cells #[.string name, .int .i64 a, .int .i64 f, .int .i64 x, .int .i64 y, .int .i64 z] 23)
  rw [World.size_alloc] at hg
  have hld := run_loadVar_row (P := Tryd.prog) _ _ _ 23 _ _ _ hg Tryd.underlying23 (by first | rfl | exact .inl ⟨_, rfl⟩ | simp) (by kernel_rfl)
  simp [asAddr, Result.andThen, hld]
/-- blocks that stay: none of M's, and what lies in them -/
def Stay (Bs : List (Nat × Obj)) (M : Nat → Prop) (W : World) : Prop := ∀ x ∈ Bs, ¬ M x.1 ∧ W.heap[x.1]? = some x.2
theorem Stay.abd {Bs : List (Nat × Obj)} {M M' : Nat → Prop} {A B : World} (h : Stay Bs M A) (hs : Sep M A B) (hx : Ext M M' A B) : Stay Bs M' B := fun x hm => by
  obtain ⟨h1, h2⟩ := h x hm
  have hl := (Array.getElem?_eq_some_iff.1 h2).1
  exact ⟨hx.lt hl h1, (hs.2.2 _ hl h1).trans h2⟩
theorem Stay.below {Bs : List (Nat × Obj)} {M : Nat → Prop} {A B : World} (h : Stay Bs M A) (hb : Below A.heap.size A B) : Stay Bs M B := fun x hm => by
  obtain ⟨h1, h2⟩ := h x hm
  exact ⟨h1, (hb.block _ (Array.getElem?_eq_some_iff.1 h2).1).trans h2⟩
theorem setCells_row (g : Nat) (t : TypeId) : ∀ (vs : List Value) (o : Nat) (w : World) (cs : Array Value), w.heap[g]? = some (.cells cs t (0, 0)) → o + vs.length ≤ cs.size →
    ∃ cs', (w.setCells g o vs).heap[g]? = some (.cells cs' t (0, 0)) ∧ cs'.size = cs.size ∧ ∀ j, cs'[j]? = if o ≤ j ∧ j < o + vs.length then vs[j - o]? else cs[j]?
  | [], o, w, cs, h, _ => ⟨cs, h, rfl, fun j => by rw [if_neg (by simp)]⟩
  | v :: r, o, w, cs, h, hl => by
    rw [List.length_cons] at hl
    have h1 := heap_setCell_same w g o cs t v h
    obtain ⟨cs', q1, q2, q3⟩ := setCells_row g t r (o + 1) _ _ h1 (by rw [Array.size_setIfInBounds]; omega)
    refine ⟨cs', q1, by rw [q2, Array.size_setIfInBounds], fun j => ?_⟩
    rw [q3 j, List.length_cons]
    by_cases e : o + 1 ≤ j ∧ j < o + 1 + r.length
    · rw [if_pos e, if_pos (by omega), show j - o = (j - (o + 1)) + 1 by omega, List.getElem?_cons_succ]
    · rw [if_neg e, Array.getElem?_setIfInBounds]
      by_cases e2 : o = j
      · subst e2
        rw [if_pos rfl, if_pos (by omega), if_pos (by omega), Nat.sub_self]
        rfl
      · rw [if_neg e2, if_neg (by omega)]
/-- a whole row written anew -/
theorem setCells_whole (w : World) (g : Nat) (t : TypeId) (cs : Array Value) (vs : List Value) (h : w.heap[g]? = some (.cells cs t (0, 0))) (hl : vs.length = cs.size) : (w.setCells g 0 vs).heap[g]? = some (.cells vs.toArray t (0, 0)) := by
  obtain ⟨cs', q1, q2, q3⟩ := setCells_row g t vs 0 w cs h (by omega)
  rw [q1]
  congr 2
  apply Array.ext_getElem?
  intro j
  rw [q3 j]
  simp only [List.getElem?_toArray, Nat.zero_le, true_and, Nat.zero_add, Nat.sub_zero]
  split
  · rfl
  · rw [Array.getElem?_eq_none (by omega), List.getElem?_eq_none (by omega)]
theorem setCells_other (g k : Nat) (hk : k ≠ g) : ∀ (vs : List Value) (o : Nat) (w : World), (w.setCells g o vs).heap[k]? = w.heap[k]?
  | [], _, _ => rfl
  | v :: r, o, w => (setCells_other g k hk r (o + 1) _).trans (heap_setCell_other w ⟨g, o, none⟩ k v hk)
theorem there_row (w : World) (g n : Nat) (t : TypeId) (cs : Array Value) (h : w.heap[g]? = some (.cells cs t (0, 0))) (hn : n ≤ cs.size) : w.there g 0 n := fun j hj => by
  rw [Nat.zero_add]
  refine ⟨by rw [cell_of_row _ _ _ _ _ _ h, Array.getElem?_eq_getElem (by omega)]; rfl, frozen_of_row _ _ _ _ _ h⟩
end Go.Proofs.YtaflggjgndkdlaaDoor
