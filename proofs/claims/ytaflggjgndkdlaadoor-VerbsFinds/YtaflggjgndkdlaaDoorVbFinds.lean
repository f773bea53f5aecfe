/-
  The walk of VerbsFinds: every name.
-/
import Derived.Test.YtaflggjgndkdlaaDoorVbRef4
import Derived.Laws.StructEq
namespace Go.Proofs.YtaflggjgndkdlaaDoor
open Go.RowKit
set_option linter.unusedVariables false
theorem stoodVf : Tryd.prog.stoodInHeld 23 = false := by kernel_rfl
theorem noGuardVf : Tryd.prog.eqGuardType Tryd.prog.depth 23 = false := by kernel_rfl
def getB : ByteArray := ⟨#[103, 101, 116]⟩
theorem get_up : Vb.up getB = ⟨#[71, 69, 84]⟩ := by decide +kernel
theorem get_find : Vb.find (Vb.up getB).toList = some (2, 0, 1, 1, 1) := by decide +kernel
theorem get_is : findV (Vb.up getB) = (.agg #[.string ⟨#[71, 69, 84]⟩, .int .i64 2, .int .i64 0, .int .i64 1, .int .i64 1, .int .i64 1], true) := by
  unfold findV
  rw [get_find, get_up]
  rfl
theorem get_any (w : World) : Calls Tryd.prog 9 #[.string ⟨#[103, 101, 116]⟩] w fun e w' => e = .returned (.tuple #[.agg #[.string ⟨#[71, 69, 84]⟩, .int .i64 2, .int .i64 0, .int .i64 1, .int .i64 1, .int .i64 1], .bool true]) ∧ Below w.heap.size w w' := by
  refine (find_any getB w (by decide)).mono ?_
  rintro e w' ⟨he, hb⟩
  unfold FndE at he
  rw [get_is] at he
  exact ⟨he, hb⟩
set_option maxRecDepth 100000 in
set_option maxHeartbeats 4000000 in
theorem finds_go (s : ByteArray) (w : World) (hs : s.size ≤ 9223372036854775807) : Calls Tryd.prog 3 #[.string s] w fun e w' => e = .returned (.bool true) ∧ Below w.heap.size w w' := by
  obtain ⟨PP, hPP⟩ : ∃ PP : Ending → World → Prop, PP = fun e w' => e = .returned (.bool true) ∧ Below w.heap.size w w' := ⟨_, rfl⟩
  rw [← hPP]
  have HP := keep hPP
  clear hPP
  obtain ⟨U, hU⟩ : ∃ U, U = Vb.up s := ⟨_, rfl⟩
  have m1 := keep (fun w => find_any s w hs)
  have m2 := keep (fun w => rfind_any s w hs)
  have m3 := keep get_any
  have m4 := keep (fun w => upper_any s w hs)
  have m5 := keep (fun w => rupper_any s w hs)
  rw [← hU] at m1 m2 m4 m5
  obtain ⟨n, ⟨ra, rf, rx, ry, rz⟩, q, hf, _⟩ := findV_form U
  unfold FndE at m1 m2
  rw [hf, row_form] at m1 m2
  dsimp only at m1 m2
  clear hU hs hf
  go_enter Tryd.func3, Tryd.ntmps3
  go_wp2_with fail
  refine (m1.out _).mono ?_
  rintro _ w1 ⟨rfl, hb1⟩
  obtain ⟨W1, hW1⟩ : ∃ W, w1.alloc (.cells #[.string n, .int .i64 ra, .int .i64 rf, .int .i64 rx, .int .i64 ry, .int .i64 rz] 23) = W := ⟨_, rfl⟩
  have g1 : W1.heap[w1.heap.size]? = some (.cells #[.string n, .int .i64 ra, .int .i64 rf, .int .i64 rx, .int .i64 ry, .int .i64 rz] 23) := by rw [← hW1]; exact heap_alloc_new _ _
  have b1 : Below w.heap.size w W1 := by rw [← hW1]; exact hb1.alloc hb1.size _
  have G1 := keep g1
  have B1 := keep b1
  clear g1 b1 hb1
  go_wp2_with fail
  refine (m2.out _).mono ?_
  rintro _ w2 ⟨rfl, hb2⟩
  obtain ⟨W2, hW2⟩ : ∃ W, w2.alloc (.cells #[.string n, .int .i64 ra, .int .i64 rf, .int .i64 rx, .int .i64 ry, .int .i64 rz] 23) = W := ⟨_, rfl⟩
  have g2 : W2.heap[w2.heap.size]? = some (.cells #[.string n, .int .i64 ra, .int .i64 rf, .int .i64 rx, .int .i64 ry, .int .i64 rz] 23) := by rw [← hW2]; exact heap_alloc_new _ _
  have b2 : Below W1.heap.size W1 W2 := by rw [← hW2]; exact hb2.alloc hb2.size _
  have G2 := keep g2
  have B2 := keep b2
  clear g2 b2 hb2
  go_wp2_with fail
  refine (m3.out _).mono ?_
  rintro _ w3 ⟨rfl, hb3⟩
  obtain ⟨W3, hW3⟩ : ∃ W, w3.alloc (.cells #[.string ⟨#[71, 69, 84]⟩, .int .i64 2, .int .i64 0, .int .i64 1, .int .i64 1, .int .i64 1] 23) = W := ⟨_, rfl⟩
  have g3 : W3.heap[w3.heap.size]? = some (.cells #[.string ⟨#[71, 69, 84]⟩, .int .i64 2, .int .i64 0, .int .i64 1, .int .i64 1, .int .i64 1] 23) := by rw [← hW3]; exact heap_alloc_new _ _
  have b3 : Below W2.heap.size W2 W3 := by rw [← hW3]; exact hb3.alloc hb3.size _
  have b13 : Below W1.heap.size W1 W3 := B2.out.trans (b3.mono B2.out.size)
  have g13 := (b13.block _ (Array.getElem?_eq_some_iff.1 G1.out).1).trans G1.out
  have g23 := (b3.block _ (Array.getElem?_eq_some_iff.1 G2.out).1).trans G2.out
  have b03 : Below w.heap.size w W3 := B1.out.trans (b13.mono B1.out.size)
  have G3 := keep g3
  have B03 := keep b03
  have a0 : W3.cell? ⟨w1.heap.size, 0, none⟩ = some (.string n) := by rw [cell_of_row _ _ _ _ _ _ g13]; rfl
  have a1 : W3.cell? ⟨w1.heap.size, 1, none⟩ = some (.int .i64 ra) := by rw [cell_of_row _ _ _ _ _ _ g13]; rfl
  have a2 : W3.cell? ⟨w1.heap.size, 2, none⟩ = some (.int .i64 rf) := by rw [cell_of_row _ _ _ _ _ _ g13]; rfl
  have a3 : W3.cell? ⟨w1.heap.size, 3, none⟩ = some (.int .i64 rx) := by rw [cell_of_row _ _ _ _ _ _ g13]; rfl
  have a4 : W3.cell? ⟨w1.heap.size, 4, none⟩ = some (.int .i64 ry) := by rw [cell_of_row _ _ _ _ _ _ g13]; rfl
  have a5 : W3.cell? ⟨w1.heap.size, 5, none⟩ = some (.int .i64 rz) := by rw [cell_of_row _ _ _ _ _ _ g13]; rfl
  have c0 : W3.cell? ⟨w2.heap.size, 0, none⟩ = some (.string n) := by rw [cell_of_row _ _ _ _ _ _ g23]; rfl
  have c1 : W3.cell? ⟨w2.heap.size, 1, none⟩ = some (.int .i64 ra) := by rw [cell_of_row _ _ _ _ _ _ g23]; rfl
  have c2 : W3.cell? ⟨w2.heap.size, 2, none⟩ = some (.int .i64 rf) := by rw [cell_of_row _ _ _ _ _ _ g23]; rfl
  have c3 : W3.cell? ⟨w2.heap.size, 3, none⟩ = some (.int .i64 rx) := by rw [cell_of_row _ _ _ _ _ _ g23]; rfl
  have c4 : W3.cell? ⟨w2.heap.size, 4, none⟩ = some (.int .i64 ry) := by rw [cell_of_row _ _ _ _ _ _ g23]; rfl
  have c5 : W3.cell? ⟨w2.heap.size, 5, none⟩ = some (.int .i64 rz) := by rw [cell_of_row _ _ _ _ _ _ g23]; rfl
  have hng := noGuardVf
  have hst := stoodVf
  clear g3 b3 b13 g13 g23 b03 hb3
  go_wp2_with fail
  refine (m4.out _).mono ?_
  rintro _ x4 ⟨rfl, y4⟩
  have Y4 := keep y4
  clear a0 a1 a2 a3 a4 a5 c0 c1 c2 c3 c4 c5 y4
  go_wp2_with fail
  refine (m5.out _).mono ?_
  rintro _ x5 ⟨rfl, y5⟩
  have z5 : Below W3.heap.size W3 x5 := Below.trans Y4.out (y5.mono Y4.out.size)
  have g35 := (z5.block _ (Array.getElem?_eq_some_iff.1 G3.out).1).trans G3.out
  have d1 : x5.cell? ⟨w3.heap.size, 1, none⟩ = some (.int .i64 2) := by rw [cell_of_row _ _ _ _ _ _ g35]; rfl
  have Z5 := keep z5
  clear y5 z5 g35
  go_wp2_with fail
  rw [HP.out]
  exact ⟨rfl, B03.out.trans (Z5.out.mono B03.out.size)⟩
end Go.Proofs.YtaflggjgndkdlaaDoor
