/-
  Contracts over this program: errors that are held against one another.
-/
import Derived.Test.YtndjjfbpjpjciaaGreatDoorWords
import Derived.Test.YtndjjfbpjpjciaaGreatDoorProg
import Derived.WalkKit
import Derived.Stop.LaidErr
import Derived.LaidEql
import Derived.Stop.IfaceNil
namespace Go.Proofs.YtndjjfbpjpjciaaGreatDoor
open Go.RowKit
set_option linter.unusedVariables false
theorem star_err : "*" ++ "errors.errorString" = "*errors.errorString" := by decide
theorem row_err (u : TypeId) (h : Tryz.prog.typeName? 3 u = some "*errors.errorString") : u = 190 :=
  typeName_ptr_named (nm := "errors.errorString") (by rw [star_err]; kernel_rfl) (by kernel_rfl) (by decide) u (by rw [star_err]; exact h)
/-- a variable holds an error of its own, with this text -/
def Er (w : World) (g : Nat) (a : Addr) (text : List UInt8) : Prop :=
  w.cell? ⟨g, 0, none⟩ = some (.iface 190 (.pointer (some a))) ∧ (∃ s : ByteArray, w.cell? a = some (.string s) ∧ s.data.toList = text) ∧ ∃ c t, w.heap[a.block]? = some (.cells c t (0, 0))
theorem Er.bel {w w' : World} {g : Nat} {a : Addr} {text : List UInt8} (h : Er w g a text) (hb : Below w.heap.size w w') : Er w' g a text := by
  obtain ⟨h1, ⟨s, h2, h3⟩, c, t, h4⟩ := h
  have l1 := World.block_lt_of_cell? _ _ h1
  have l2 := World.block_lt_of_cell? _ _ h2
  exact ⟨(hb.cell (p := ⟨g, 0, none⟩) l1).trans h1, ⟨s, (hb.cell l2).trans h2, h3⟩, c, t, (hb.block _ l2).trans h4⟩
theorem Er.ne {w : World} {g g' : Nat} {a a' : Addr} {x x' : List UInt8} (h : Er w g a x) (h' : Er w g' a' x') (hx : x ≠ x') : a ≠ a' := by
  rintro rfl
  obtain ⟨_, ⟨s, h2, h3⟩, _⟩ := h
  obtain ⟨_, ⟨s', h2', h3'⟩, _⟩ := h'
  rw [h2] at h2'
  cases h2'
  exact hx (h3.symm.trans h3')
set_option maxRecDepth 100000 in
theorem er_of {n : String} {text : List UInt8} {r : List (String × DataW Unit)} {W : World} {g : Nat}
    (h : laidMet Tryz.prog ((n, .iface "*errors.errorString" (.ptr (.agg [.lit (.string text)]))) :: r) W)
    (hg : Tryz.prog.globalNamed n = some g) (ht : (Tryz.prog.globals[g]?).map (·.type) = some 39) : ∃ a, Er W g a text := by
  obtain ⟨ps, ⟨g0, t0, cs0, f0, p0, q0, hg0, ht0, hv0, hd0, _, e0⟩, _, hrows⟩ := h
  obtain rfl := Option.some.inj (hg.symm.trans hg0)
  obtain rfl := Option.some.inj (ht.symm.trans ht0)
  subst e0
  obtain ⟨l0⟩ := cs0
  have ok0 : ∀ u v, l0 = [.iface u v] → Value.okWide Tryz.prog W .any 0 u v := fun u v e => by
    subst e
    exact (hrows g 0 (by simp [MemPlace.row])).2 u v (by simpa using World.var?_cell hg0 hv0 0)
  obtain ⟨a0, s0, rfl, hc0, hs0, hz0, rfl⟩ := errorString_of_trod Tryz.underlying39 row_err Tryz.underlying190 Tryz.underlying192 rfl rfl Tryz.underlying9 (by kernel_rfl) (by kernel_rfl) hd0 ok0
  obtain ⟨c, t, hb⟩ := (hrows a0.block a0.off (by simp [MemPlace.row])).1
  exact ⟨a0, by simpa using World.var?_cell hg0 hv0 0, ⟨s0, hc0, hs0⟩, c, t, hb⟩
/-- the six texts -/
def txE : Nat → List UInt8
  | 0 => [99, 111, 117, 110, 116]
  | 1 => [108, 101, 110, 103, 116, 104]
  | 2 => [109, 97, 114, 107]
  | 3 => [101, 110, 100]
  | 4 => [113, 117, 111, 116, 101]
  | _ => [116, 111, 111, 32, 98, 105, 103]
/-- the six errors of the package -/
def Six (w : World) (A : Nat → Addr) : Prop := ∀ i, i < 6 → Er w i (A i) (txE i)
theorem Six.bel {w w' : World} {A : Nat → Addr} (h : Six w A) (hb : Below w.heap.size w w') : Six w' A := fun i hi => (h i hi).bel hb
theorem txE_inj : ∀ i, i < 6 → ∀ j, j < 6 → i ≠ j → txE i ≠ txE j := by decide
theorem Six.ne {w : World} {A : Nat → Addr} (h : Six w A) {i j : Nat} (hi : i < 6) (hj : j < 6) (hij : i ≠ j) : A i ≠ A j := (h i hi).ne (h j hj) (txE_inj i hi j hj hij)
abbrev errV (a : Addr) : Value := .iface 190 (.pointer (some a))
theorem info_ptr : ∃ i : TypeInfo, Tryz.prog.info? 190 = some i ∧ i.comparable = true := by
  have h : (Tryz.prog.info? 190).map (fun i => i.comparable) = some true := by kernel_rfl
  cases e : Tryz.prog.info? 190 with
  | none => rw [e] at h; cases h
  | some i => rw [e] at h; exact ⟨i, rfl, by simpa using h⟩
theorem info_str : ∃ i : TypeInfo, Tryz.prog.info? 192 = some i ∧ i.size ≠ 0 := by
  have h : (Tryz.prog.info? 192).map (fun i => i.size) = some 1 := by kernel_rfl
  cases e : Tryz.prog.info? 192 with
  | none => rw [e] at h; cases h
  | some i => rw [e] at h; exact ⟨i, rfl, by simp at h; omega⟩
theorem eql_err (w : World) (A : Nat → Addr) (h : Six w A) (i j : Nat) (hi : i < 6) (hj : j < 6) :
    (binOp .eql 39 (errV (A i)) (errV (A j))).run Tryz.prog w = .ok (.bool (decide (i = j))) w := by
  obtain ⟨i0, h0, c0⟩ := info_ptr
  obtain ⟨i1, h1, z1⟩ := info_str
  by_cases e : i = j
  · subst e
    rw [decide_eq_true rfl]
    exact run_eql_iface_ptr_same w (A i) Tryz.underlying39 Tryz.underlying190 h0 c0 h1
  · rw [decide_eq_false e]
    obtain ⟨_, _, c, t, hb⟩ := h i hi
    obtain ⟨_, _, c', t', hb'⟩ := h j hj
    exact run_eql_iface_ptr_other w Tryz.underlying39 Tryz.underlying190 h0 c0 h1 z1 (h.ne hi hj e) hb hb'
theorem same_err (w : World) (A : Nat → Addr) (h : Six w A) (i j : Nat) (hi : i < 6) (hj : j < 6) :
    Calls Tryz.prog 13 #[errV (A i), errV (A j)] w fun e w' => e = .returned (.bool (decide (i = j))) ∧ w' = w := by
  have q := eql_err w A h i j hi hj
  generalize A i = a at *
  generalize A j = b at *
  generalize decide (i = j) = z at *
  clear h
  go_enter Tryz.func13, Tryz.ntmps13
  go_wp2
  go_ret
  exact ⟨rfl, rfl⟩
end Go.Proofs.YtndjjfbpjpjciaaGreatDoor
