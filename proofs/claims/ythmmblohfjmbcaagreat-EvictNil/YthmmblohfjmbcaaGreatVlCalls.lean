/-
  Contracts over this program: what a value holds, and what it tells of that.
-/
import Derived.Test.YthmmblohfjmbcaaGreatVlNo
import Derived.Test.YthmmblohfjmbcaaGreatVlTwin
namespace Go.Proofs.YthmmblohfjmbcaaGreat
open Go.RowKit Go.Shelf
set_option linter.unusedVariables false
set_option linter.unusedSimpArgs false
set_option maxRecDepth 100000
namespace Vl
/-- the value in block b holds x, of the type t -/
def Hol (w : World) (b : Nat) (t : TypeId) (x : Value) : Prop := w.heap[b]? = some (.cells #[.iface t x] 99 (0, 0))
theorem Hol.bel {w w' : World} {b : Nat} {t : TypeId} {x : Value} (h : Hol w b t x) (hb : Below w.heap.size w w') : Hol w' b t x := (hb.block b (Array.getElem?_eq_some_iff.1 h).1).trans h
theorem iface_nil (t : TypeId) (x : Value) (w : World) : (binOp .eql 97 (.iface t x) .nilIface).run Tryz.prog w = .ok (.bool false) w := by rfl
set_option maxHeartbeats 400000 in
theorem content_some {w : World} {b : Nat} {t : TypeId} {x : Value} (h : Hol w b t x) : Calls Tryz.prog 58 #[.pointer (some ⟨b, 0, none⟩)] w fun e w' => e = .returned (.iface t x) ∧ w' = w := by
  have c0 : w.cell? ⟨b, 0, none⟩ = some (.iface t x) := by rw [cell_of_row _ _ _ _ _ _ h]; rfl
  have hn := iface_nil t x
  clear h
  go_enter Tryz.func58, Tryz.ntmps58
  go_wp2
  go_ret
  exact ⟨rfl, rfl⟩
def zV : Value := .agg #[.int .i64 0, .string { data := #[] }, .slice none 0 0, .slice none 0 0, .slice none 0 0]
/-- the cells of plain data that is stored over nothing -/
theorem over {W2 : World} {B : Nat} {v0 v1 v2 v3 v4 : Value} (g2 : W2.heap[B]? = some (.cells #[.int .i64 0, .string { data := #[] }, .slice none 0 0, .slice none 0 0, .slice none 0 0] 209 (0, 0))) :
    (((((W2.setCell ⟨B, 0, none⟩ v0).setCell ⟨B, 1, none⟩ v1).setCell ⟨B, 2, none⟩ v2).setCell ⟨B, 3, none⟩ v3).setCell ⟨B, 4, none⟩ v4).heap[B]? = some (.cells #[v0, v1, v2, v3, v4] 209 (0, 0)) := by
  simp [World.setCell, Array.getElem?_modify, g2]
theorem over_same (W2 : World) (B : Nat) (v0 v1 v2 v3 v4 : Value) (k : Nat) (hk : k ≠ B) :
    (((((W2.setCell ⟨B, 0, none⟩ v0).setCell ⟨B, 1, none⟩ v1).setCell ⟨B, 2, none⟩ v2).setCell ⟨B, 3, none⟩ v3).setCell ⟨B, 4, none⟩ v4).heap[k]? = W2.heap[k]? := by
  rw [Below.heap_setCell _ _ _ _ hk, Below.heap_setCell _ _ _ _ hk, Below.heap_setCell _ _ _ _ hk, Below.heap_setCell _ _ _ _ hk, Below.heap_setCell _ _ _ _ hk]
theorem over_below {w W2 : World} (h : Below w.heap.size w W2) (v0 v1 v2 v3 v4 : Value) :
    Below w.heap.size w (((((W2.setCell ⟨w.heap.size, 0, none⟩ v0).setCell ⟨w.heap.size, 1, none⟩ v1).setCell ⟨w.heap.size, 2, none⟩ v2).setCell ⟨w.heap.size, 3, none⟩ v3).setCell ⟨w.heap.size, 4, none⟩ v4) :=
  ((((h.setCell (Nat.le_refl _) _).setCell (Nat.le_refl _) _).setCell (Nat.le_refl _) _).setCell (Nat.le_refl _) _).setCell (Nat.le_refl _) _
theorem own_ne {w : World} {B e s t : Nat} {v : Value} {n b : Nat} {xs : List Value} {cs : Array Value} {fr : Nat × Nat} (h : w.ownsRow B e s v n xs) (hg : w.heap[b]? = some (.cells cs t fr)) (hne : t ≠ e) : v.ownBlock ≠ some b := by
  intro hv
  rcases h.2 with ⟨rfl, _⟩ | ⟨g, cap, cur, rfl, _, hh, _⟩
  · cases hv
  · cases hv
    rw [hg] at hh
    cases hh
    exact hne rfl
theorem kept_but {w w' : World} {B e s : Nat} {v : Value} {n b : Nat} {xs : List Value} (h : w.ownsRow B e s v n xs) (hk : ∀ k, k ≠ b → w'.heap[k]? = w.heap[k]?) (hb : v.ownBlock ≠ some b) : w'.ownsRow B e s v n xs := by
  refine ⟨h.1, ?_⟩
  rcases h.2 with hn | ⟨g, cap, cur, rfl, hg, hgg, rest⟩
  · exact .inl hn
  · exact .inr ⟨g, cap, cur, rfl, hg, by rw [hk g (fun e => hb (by rw [← e]; rfl))]; exact hgg, rest⟩
theorem five_cells {w : World} {b : Nat} {v0 v1 v2 v3 v4 : Value} {t : TypeId} (h : w.heap[b]? = some (.cells #[v0, v1, v2, v3, v4] t (0, 0))) :
    w.cell? ⟨b, 0, none⟩ = some v0 ∧ w.cell? ⟨b, 1, none⟩ = some v1 ∧ w.cell? ⟨b, 2, none⟩ = some v2 ∧ w.cell? ⟨b, 3, none⟩ = some v3 ∧ w.cell? ⟨b, 4, none⟩ = some v4 := by
  refine ⟨?_, ?_, ?_, ?_, ?_⟩ <;> simp [World.cell?, h]
set_option maxHeartbeats 400000 in
theorem cost_text {w : World} {b : Nat} {s : ByteArray} (h : Hol w b 95 (.string s)) (hs : s.size ≤ maxLen) :
    Calls Tryz.prog 85 #[.pointer (some ⟨b, 0, none⟩)] w fun e w' => e = .returned (.int .i64 (s.size : Int)) ∧ w' = w := by
  have mC := content_some h
  have hm : ∀ w : World, (method 315 95 (.string s) "Cost").run Tryz.prog w = .ok (143, .string s) w := fun _ => by kernel_rfl
  unfold maxLen at hs
  clear h
  go_enter Tryz.func85, Tryz.ntmps85
  go_wp2_with fail
  refine mC.mono ?_
  rintro _ w1 ⟨rfl, rfl⟩
  go_wp2
  go_ret
  exact ⟨rfl, rfl⟩
set_option maxHeartbeats 400000 in
theorem empty_text {w : World} {b : Nat} {s : ByteArray} (h : Hol w b 95 (.string s)) :
    Calls Tryz.prog 38 #[.pointer (some ⟨b, 0, none⟩)] w fun e w' => e = .returned (.bool false) ∧ w' = w := by
  have mC := content_some h
  have ha : ∀ w : World, (Instr.typeAssert (.iface 95 (.string s)) 97 127 true).run Tryz.prog w = .ok (.tuple #[.nilIface, .bool false]) w := fun w => run_typeAssert_lacksB Tryz.underlying127 (by kernel_rfl) (by kernel_rfl) _ _ w
  clear h
  go_enter Tryz.func38, Tryz.ntmps38
  go_wp2_with fail
  refine mC.mono ?_
  rintro _ w1 ⟨rfl, rfl⟩
  go_wp2
  go_ret
  exact ⟨rfl, rfl⟩
end Vl
end Go.Proofs.YthmmblohfjmbcaaGreat
