/-
  The document's own signs as tables of bytes in memory, and what its item answers.
-/
import Derived.Test.YtmlpfijabdkbjaaGlobBase
import Derived.Deep.WholeRow
import Derived.Deep.MidRow
namespace Go.Proofs.Ytmlpfijabdkbjaa
open Go.RowKit
/-- the cells of a sign: is it a star, which bytes it means, the byte that it is, is it one -/
def row (s : Bool) (f : Nat → Bool) (o : UInt8) (p : Bool) : List Value := .bool s :: ((List.range 256).map (fun i => Value.bool (f i)) ++ [.int .u8 o.toNat, .bool p])
theorem row_len (s : Bool) (f : Nat → Bool) (o : UInt8) (p : Bool) : (row s f o p).length = 259 := by simp [row]
def zeroRow : Array Value := (row false (fun _ => false) 0 false).toArray
theorem zeroRow_size : zeroRow.size = 259 := by unfold zeroRow; rw [List.size_toArray, row_len]
theorem zero_sign : (∀ w, (zeroValue 36).run Try.prog w = .ok (.agg zeroRow) w) ∧ (Try.prog.info? 36).map (·.size) = some 259 :=
  zero_of_info (by kernel_rfl)
theorem row_star (s : Bool) (f : Nat → Bool) (o : UInt8) (p : Bool) : (row s f o p)[0]? = some (.bool s) := rfl
theorem row_byte (s : Bool) (f : Nat → Bool) (o : UInt8) (p : Bool) {i : Nat} (hi : i < 256) : (row s f o p)[1 + i]? = some (.bool (f i)) := by
  unfold row
  rw [Nat.add_comm, List.getElem?_cons_succ, List.getElem?_append_left (by simpa using hi), List.getElem?_map, List.getElem?_range hi]
  rfl
theorem row_one (s : Bool) (f : Nat → Bool) (o : UInt8) (p : Bool) : (row s f o p)[257]? = some (.int .u8 o.toNat) := by
  unfold row
  rw [List.getElem?_cons_succ, List.getElem?_append_right (by simp)]
  simp
theorem row_plain (s : Bool) (f : Nat → Bool) (o : UInt8) (p : Bool) : (row s f o p)[258]? = some (.bool p) := by
  unfold row
  rw [List.getElem?_cons_succ, List.getElem?_append_right (by simp)]
  simp
theorem row_ext {s' : Bool} {f' : Nat → Bool} {o' : UInt8} {p' : Bool} (l : List Value) (hl : l.length = 259) (h0 : l[0]? = some (.bool s')) (h1 : ∀ i, i < 256 → l[1 + i]? = some (.bool (f' i))) (h2 : l[257]? = some (.int .u8 o'.toNat)) (h3 : l[258]? = some (.bool p')) : l = row s' f' o' p' := by
  apply List.ext_getElem?
  intro j
  by_cases j0 : j = 0
  · subst j0; rw [h0, row_star]
  · by_cases j1 : j < 257
    · have e : j = 1 + (j - 1) := by omega
      rw [e, h1 _ (by omega), row_byte _ _ _ _ (by omega)]
    · by_cases j2 : j = 257
      · subst j2; rw [h2, row_one]
      · by_cases j3 : j = 258
        · subst j3; rw [h3, row_plain]
        · rw [List.getElem?_eq_none (by omega), List.getElem?_eq_none (by rw [row_len]; omega)]
/-- the sign lies in that block -/
def tabAt (w : World) (g : Nat) (s : Bool) (f : Nat → Bool) (o : UInt8) (p : Bool) : Prop := w.rangeAt g 0 (row s f o p) ∧ w.there g 0 259
theorem tab_cell {w : World} {g : Nat} {s : Bool} {f : Nat → Bool} {o : UInt8} {p : Bool} (h : tabAt w g s f o p) (j : Nat) {v : Value} (hv : (row s f o p)[j]? = some v) : w.cell? ⟨g, j, none⟩ = some v := by
  have := h.1 j v hv
  rwa [Nat.zero_add] at this
theorem tab_free {w : World} {g : Nat} {s : Bool} {f : Nat → Bool} {o : UInt8} {p : Bool} (h : tabAt w g s f o p) {j : Nat} (hj : j < 259) : w.frozen? ⟨g, j, none⟩ = false := by
  have := (h.2 j hj).2
  rwa [Nat.zero_add] at this
theorem tab_lt {w : World} {g : Nat} {s : Bool} {f : Nat → Bool} {o : UInt8} {p : Bool} (h : tabAt w g s f o p) : g < w.heap.size :=
  World.block_lt_of_cell? w _ (tab_cell h 0 (row_star s f o p))
theorem cell_on' {w w' : World} {a : Addr} {v : Value} (h : Below w.heap.size w w') (hc : w.cell? a = some v) : w'.cell? a = some v := by
  rw [h.cell (World.block_lt_of_cell? w a hc)]
  exact hc
theorem tab_below {w w' : World} {g : Nat} {s : Bool} {f : Nat → Bool} {o : UInt8} {p : Bool} (h : tabAt w g s f o p) (hb : Below w.heap.size w w') : tabAt w' g s f o p := by
  have hg := tab_lt h
  refine ⟨fun j v hv => cell_on' hb (h.1 j v hv), fun j hj => ?_⟩
  obtain ⟨h1, h2⟩ := h.2 j hj
  obtain ⟨v, hv⟩ := Option.isSome_iff_exists.1 h1
  exact ⟨by rw [cell_on' hb hv]; rfl, by rw [hb.frozen hg]; exact h2⟩
theorem tab_new (w : World) : tabAt (w.alloc (Obj.cells zeroRow 36)) w.heap.size false (fun _ => false) 0 false := by
  have hb := heap_alloc_last w (Obj.cells zeroRow 36)
  refine ⟨fun j v hv => ?_, fun j hj => ?_⟩
  · rw [Nat.zero_add, cell_of_row _ _ j zeroRow 36 (0, 0) hb]
    simpa [zeroRow] using hv
  · rw [Nat.zero_add, cell_of_row _ _ j zeroRow 36 (0, 0) hb]
    refine ⟨by rw [Array.getElem?_eq_getElem (by rw [zeroRow_size]; exact hj)]; rfl, ?_⟩
    unfold World.frozen?
    rw [hb]
    simp
/-- the table with one place turned -/
def upd (f : Nat → Bool) (i : Nat) (b : Bool) : Nat → Bool := fun j => if j = i then b else f j
theorem tab_set {w : World} {g : Nat} {s s' : Bool} {f f' : Nat → Bool} {o o' : UInt8} {p p' : Bool} (h : tabAt w g s f o p) (i : Nat) (v : Value) (hi : i < 259)
    (hr : ∀ j u, (row s' f' o' p')[j]? = some u → j ≠ i → (row s f o p)[j]? = some u) (hv : (row s' f' o' p')[i]? = some v) : tabAt (w.setCell ⟨g, i, none⟩ v) g s' f' o' p' := by
  have hth := h.2 i hi
  rw [Nat.zero_add] at hth
  refine ⟨fun j u hu => ?_, fun j hj => ?_⟩
  · rw [Nat.zero_add]
    by_cases hj : j = i
    · subst hj
      rw [hv] at hu
      cases hu
      obtain ⟨x, hx⟩ := Option.isSome_iff_exists.1 hth.1
      exact World.cell?_setCell_same w _ _ hx
    · rw [World.cell?_setCell_other w _ _ _ (by intro e; cases e; exact hj rfl)]
      exact tab_cell h j (hr j u hu hj)
  · rw [Nat.zero_add]
    obtain ⟨h1, h2⟩ := h.2 j hj
    rw [Nat.zero_add] at h1 h2
    refine ⟨?_, by rw [World.frozen?_setCell]; exact h2⟩
    by_cases hj : j = i
    · subst hj
      obtain ⟨x, hx⟩ := Option.isSome_iff_exists.1 h1
      rw [World.cell?_setCell_same w _ _ hx]; rfl
    · rw [World.cell?_setCell_other w _ _ _ (by intro e; cases e; exact hj rfl)]; exact h1
end Go.Proofs.Ytmlpfijabdkbjaa
