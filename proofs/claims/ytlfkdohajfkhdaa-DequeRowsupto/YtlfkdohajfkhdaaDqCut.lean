/-
  Contracts over this program: cut, texts taken out of a chunk; what it leans on.
-/
import Derived.Test.YtlfkdohajfkhdaaDqAt
namespace Go.Proofs.Ytlfkdohajfkhdaa
open Go.RowKit Go.Shelf
set_option linter.unusedVariables false
/-- only block b has turned -/
def Ob (b : Nat) (w w' : World) : Prop := (w'.os = w.os ∧ w'.tape = w.tape ∧ w'.output = w.output) ∧ w'.heap.size = w.heap.size ∧ ∀ k, k ≠ b → w'.heap[k]? = w.heap[k]?
theorem Ob.refl (b : Nat) (w : World) : Ob b w w := ⟨⟨rfl, rfl, rfl⟩, rfl, fun _ _ => rfl⟩
theorem Ob.trans {b : Nat} {w w1 w2 : World} (h : Ob b w w1) (g : Ob b w1 w2) : Ob b w w2 := ⟨⟨g.1.1.trans h.1.1, g.1.2.1.trans h.1.2.1, g.1.2.2.trans h.1.2.2⟩, g.2.1.trans h.2.1, fun k hk => (g.2.2 k hk).trans (h.2.2 k hk)⟩
theorem Ob.set (b i : Nat) (w : World) (u : Value) : Ob b w (w.setCell ⟨b, i, none⟩ u) := ⟨⟨rfl, rfl, rfl⟩, set_size _ _ _, fun k hk => Below.heap_setCell _ _ _ _ hk⟩
theorem Ob.drew {b : Nat} {w w' : World} (h : Ob b w w') : Ob b w w'.drew := h
theorem Ob.drewN {b : Nat} {w w' : World} (h : Ob b w w') (q : Nat) : Ob b w (w'.drewN q) := h
/-- texts from .. to-1 are taken out -/
theorem cut_list {X ts : List ByteArray} {f t : Nat} (hX : X.length = 32) (ht : X.take ts.length = ts) (hft : f ≤ t) (htl : t ≤ ts.length) (hl : ts.length ≤ 32) (Z : List ByteArray) (hz : Z.length = ts.length - (f + (ts.length - t))) : (layS (layS X f (ts.drop t)) (f + (ts.length - t)) Z).take (f + (ts.length - t)) = ts.take f ++ ts.drop t := by
  have h1 : f + (ts.drop t).length ≤ X.length := by rw [List.length_drop]; omega
  apply List.ext_getElem?
  intro i
  rw [List.getElem?_take]
  by_cases h : i < f + (ts.length - t)
  · rw [if_pos h, layS_at _ _ _ _ (by rw [layS_len, hz]; omega), if_neg (by omega), layS_at _ _ _ _ h1, List.length_drop]
    by_cases g : f ≤ i
    · rw [if_pos (by omega), List.getElem?_append_right (by rw [List.length_take]; omega), List.length_take, Nat.min_eq_left (by omega)]
    · rw [if_neg (by omega), List.getElem?_append_left (by rw [List.length_take]; omega), List.getElem?_take, if_pos (by omega), ← ht, List.getElem?_take, if_pos (by omega)]
  · rw [if_neg h, List.getElem?_eq_none (by rw [List.length_append, List.length_take, List.length_drop]; omega)]
theorem zero_str : ∀ w : World, (Go.zeroValue 9).run Try.prog w = .ok (.string .empty) w := fun w => by kernel_rfl
theorem zeroS (n : Nat) : (Builtin.zeroCells (Value.string .empty).cells n).toList = (List.replicate n ByteArray.empty).map Value.string := by
  unfold Builtin.zeroCells
  apply List.ext_getElem
  · simp [Value.cells]
  · intro i h1 h2
    simp [Value.cells, Nat.mod_one]
/-- clear of a stretch of a chunk -/
theorem clear_any (w : World) (c : Nat) (pv nv : Value) (n : Nat) (X : List ByteArray) (hc : Cx w c pv nv n X) (l k cap : Nat) (hl : l + k ≤ 32) (ty : TypeId) :
    (Builtin.clear_ #[32] ty #[.slice (some (sla c l)) k cap]).run Try.prog w = .ok (.tuple #[]) (w.setCells c (3 + l) ((List.replicate k ByteArray.empty).map Value.string)) := by
  cases k with
  | zero => simp [Builtin.clear_, run_underlying Try.underlying32, World.setCells]
  | succ k =>
    have hs : sla c l = ⟨c, 3 + l, none⟩ := by unfold sla; rw [if_neg (by omega)]
    obtain ⟨_, _, _, ct, cf⟩ := hc.cells
    have hst := run_storeCells_cells (P := Try.prog) c (3 + l) ((List.replicate (k + 1) ByteArray.empty).map Value.string) 0 w (fun j hj => by
      rw [List.length_map, List.length_replicate] at hj
      rw [Nat.add_zero, show 3 + l + j = 3 + (l + j) by omega, ct (l + j) _ (List.getElem?_eq_getElem (by rw [hc.1]; omega))]; rfl) (fun j hj => cf _) (fun v hv => by obtain ⟨x, _, rfl⟩ := List.mem_map.1 hv; rfl)
    rw [hs]
    have hst' : (storeCells ⟨c, 3 + l, none⟩ (Builtin.zeroCells (Value.string .empty).cells (k + 1)).toList).run Try.prog w = .ok () (w.setCells c (3 + l) ((List.replicate (k + 1) ByteArray.empty).map Value.string)) := by rw [zeroS]; exact hst
    simp [Builtin.clear_, run_underlying Try.underlying32]
    rw [show (Value.string { data := #[] }) = Value.string ByteArray.empty from rfl, hst']
    simp [Result.andThen]
end Go.Proofs.Ytlfkdohajfkhdaa
