/-
  Contracts over this program: find where there is no such place; At.
-/
import Derived.Test.YtlfkdohajfkhdaaDqFind2
namespace Go.Proofs.Ytlfkdohajfkhdaa
open Go.RowKit Go.Shelf
set_option linter.unusedVariables false
/-- find, where there is no such place: bv the deque, or none -/
def w3i (w : World) (i : Int) : World := ((w.alloc (.cells #[.int .i64 i] 3)).alloc (.cells #[nul] 60)).alloc (.cells #[.int .i64 0] 3)
theorem w3i_below (w : World) (i : Int) : Below w.heap.size w (w3i w i) := (((Below.refl _ w).alloc (Nat.le_refl _) _).alloc (by simp) _).alloc (by simp; omega) _
theorem w3i_0 (w : World) (i : Int) : (w3i w i).heap[w.heap.size]? = some (.cells #[.int .i64 i] 3 (0, 0)) := by
  unfold w3i
  rw [Below.heap_alloc _ _ _ (by simp; omega), Below.heap_alloc _ _ _ (by simp)]
  exact heap_alloc_new _ _
theorem w3i_1 (w : World) (i : Int) : (w3i w i).heap[w.heap.size + 1]? = some (.cells #[nul] 60 (0, 0)) := by
  unfold w3i
  rw [Below.heap_alloc _ _ _ (by simp)]
  have := heap_alloc_new (w.alloc (.cells #[.int .i64 i] 3)) (.cells #[nul] 60)
  rwa [World.size_alloc] at this
theorem w3i_2 (w : World) (i : Int) : (w3i w i).heap[w.heap.size + 2]? = some (.cells #[.int .i64 0] 3 (0, 0)) := by
  unfold w3i
  have := heap_alloc_new ((w.alloc (.cells #[.int .i64 i] 3)).alloc (.cells #[nul] 60)) (.cells #[.int .i64 0] 3)
  rwa [World.size_alloc, World.size_alloc] at this
set_option maxRecDepth 100000 in
set_option maxHeartbeats 4000000 in
theorem find_out (w : World) (bv : Value) (N : Nat) (i : Int) (hN : N ≤ 1048576) (hL : ∀ w1, Below w.heap.size w w1 → Calls Try.prog 24 #[bv] w1 fun e w' => e = .returned (.int .i64 (N : Nat)) ∧ w' = w1) (hi : i < 0 ∨ (N : Int) ≤ i) :
    Calls Try.prog 53 #[bv, .int .i64 i] w fun e w' => e = .returned (.tuple #[nul, .int .i64 0]) ∧ Below w.heap.size w w' := by
  have c0 : (w3i w i).cell? ⟨w.heap.size, 0, none⟩ = some (.int .i64 i) := by rw [cell_of_row _ _ _ _ _ _ (w3i_0 w i)]; rfl
  have ML := keep fun q => hL ((w3i w i).drewN q) ((w3i_below w i).trans ((below_dr _ q).mono (w3i_below w i).size))
  have HB := keep (w3i_below w i)
  have h1 := w3i_1 w i
  have h2 := w3i_2 w i
  have hi2 : decide (i < 0) = true ∨ (decide (i < 0) = false ∧ decide ((N : Int) ≤ i) = true) := by
    simp only [decide_eq_true_eq, decide_eq_false_iff_not]; omega
  obtain ⟨W3, hW3⟩ : ∃ x, w3i w i = x := ⟨_, rfl⟩
  rw [hW3] at c0 ML HB h1 h2
  have hW3' := hW3
  unfold w3i at hW3'
  have k1 : W3.cell? ⟨w.heap.size + 1, 0, none⟩ = some nul := by rw [cell_of_row _ _ _ _ _ _ h1]; rfl
  have k2 : W3.cell? ⟨w.heap.size + 1 + 1, 0, none⟩ = some (.int .i64 0) := by rw [cell_of_row _ _ _ _ _ _ h2]; rfl
  have z1 : W3.frozen? ⟨w.heap.size + 1, 0, none⟩ = false := by simp [World.frozen?, h1]
  have z2 : W3.frozen? ⟨w.heap.size + 1 + 1, 0, none⟩ = false := by simp [World.frozen?, h2]
  have H1 := keep h1
  have H2 := keep h2
  clear hL hi hW3 h1 h2
  rcases hi2 with a1 | ⟨a1, a2⟩
  · refine callsIn_wide (n := 9) |>.1 (callsIn_of_wp_marks Try.func53 rfl trivial (wpIn_wide.2 ?_) rfl)
    simp only [Try.ntmps53, List.size_toArray, List.length_cons, List.length_nil, Nat.reduceAdd, Nat.reduceSub, Array.replicate_succ, Array.replicate_zero, List.push_toArray, List.append_toArray, List.nil_append, List.cons_append]
    go_wp2_with fail
    clear hW3'
    go_quiet (first | (go_at_call 24; refine Calls.quiet_of_same (ML.out _)))
    go_wp2
    have g1 : ((W3.setCell ⟨w.heap.size + 1, 0, none⟩ nul).setCell ⟨w.heap.size + 1 + 1, 0, none⟩ (.int .i64 0)).cell? ⟨w.heap.size + 1, 0, none⟩ = some nul := by
      rw [World.cell?_setCell_other _ _ _ _ (by simp)]; exact World.cell?_setCell_same _ _ _ k1
    have g2 : ((W3.setCell ⟨w.heap.size + 1, 0, none⟩ nul).setCell ⟨w.heap.size + 1 + 1, 0, none⟩ (.int .i64 0)).cell? ⟨w.heap.size + 1 + 1, 0, none⟩ = some (.int .i64 0) :=
      World.cell?_setCell_same _ _ (u := .int .i64 0) _ (by rw [World.cell?_setCell_other _ _ _ _ (by simp)]; exact k2)
    refine ⟨.tuple #[nul, .int .i64 0], results_cell2 rfl _ _ ⟨w.heap.size + 1, 0, none⟩ ⟨w.heap.size + 1 + 1, 0, none⟩ _ _ rfl rfl ?_ ?_, rfl, ?_⟩
    · go_simp
    · go_simp
    · exact (((HB.out.trans ((below_dr W3 nq).mono HB.out.size)).setCell (p := ⟨w.heap.size + 1, 0, none⟩) (by show w.heap.size ≤ w.heap.size + 1; omega) _).setCell (p := ⟨w.heap.size + 1 + 1, 0, none⟩) (by show w.heap.size ≤ w.heap.size + 1 + 1; omega) _)
  · refine callsIn_wide (n := 9) |>.1 (callsIn_of_wp_marks Try.func53 rfl trivial (wpIn_wide.2 ?_) rfl)
    simp only [Try.ntmps53, List.size_toArray, List.length_cons, List.length_nil, Nat.reduceAdd, Nat.reduceSub, Array.replicate_succ, Array.replicate_zero, List.push_toArray, List.append_toArray, List.nil_append, List.cons_append]
    go_wp2_with fail
    clear hW3'
    go_quiet (first | (go_at_call 24; refine Calls.quiet_of_same (ML.out _)))
    go_wp2
    have g1 : ((W3.setCell ⟨w.heap.size + 1, 0, none⟩ nul).setCell ⟨w.heap.size + 1 + 1, 0, none⟩ (.int .i64 0)).cell? ⟨w.heap.size + 1, 0, none⟩ = some nul := by
      rw [World.cell?_setCell_other _ _ _ _ (by simp)]; exact World.cell?_setCell_same _ _ _ k1
    have g2 : ((W3.setCell ⟨w.heap.size + 1, 0, none⟩ nul).setCell ⟨w.heap.size + 1 + 1, 0, none⟩ (.int .i64 0)).cell? ⟨w.heap.size + 1 + 1, 0, none⟩ = some (.int .i64 0) :=
      World.cell?_setCell_same _ _ (u := .int .i64 0) _ (by rw [World.cell?_setCell_other _ _ _ _ (by simp)]; exact k2)
    refine ⟨.tuple #[nul, .int .i64 0], results_cell2 rfl _ _ ⟨w.heap.size + 1, 0, none⟩ ⟨w.heap.size + 1 + 1, 0, none⟩ _ _ rfl rfl ?_ ?_, rfl, ?_⟩
    · go_simp
    · go_simp
    · exact (((HB.out.trans ((below_dr W3 nq).mono HB.out.size)).setCell (p := ⟨w.heap.size + 1, 0, none⟩) (by show w.heap.size ≤ w.heap.size + 1; omega) _).setCell (p := ⟨w.heap.size + 1 + 1, 0, none⟩) (by show w.heap.size ≤ w.heap.size + 1 + 1; omega) _)
theorem len_out (w : World) (b : Nat) (cs : List Chk) (hd : Dq w b cs) : ∀ w1, Below w.heap.size w w1 → Calls Try.prog 24 #[ptr b] w1 fun e w' => e = .returned (.int .i64 ((row cs).length : Nat)) ∧ w' = w1 :=
  fun w1 hb => len_any w1 b _ _ _ _ (hd.below hb).1.1
set_option maxRecDepth 100000 in
set_option maxHeartbeats 1000000 in
theorem at_in (w : World) (b : Nat) (cs : List Chk) (i : Nat) (hd : Dq w b cs) (s : ByteArray) (hs : (row cs)[i]? = some s) :
    Calls Try.prog 28 #[ptr b, .int .i64 i] w fun e w' => e = .returned (.tuple #[.string s, .bool true]) ∧ Below w.heap.size w w' := by
  have MF := keep (find_in w b cs i hd (List.getElem?_eq_some_iff.1 hs).1)
  have HD := keep hd
  have HS := keep hs
  clear hd hs
  go_enter Try.func28, Try.ntmps28
  go_wp2_with fail
  refine MF.out.mono ?_
  rintro _ w1 ⟨⟨A, c, ts, B, hA, rfl⟩, hb⟩
  have hs := HS.out
  obtain ⟨h1, h2, h3⟩ := hA
  have hd := HD.out.below hb
  subst h1
  rw [row_app, row_cons, List.getElem?_append_right h2, List.getElem?_append_left (by dsimp only; omega)] at hs
  have ck := (ch_app.1 hd.1.2.1).2.1
  have cl := ck.cells.2.2.2.1 _ _ hs
  have hp : i - (row A).length < ts.length := by omega
  have hle : ts.length ≤ 32 := ck.le
  generalize i - (row A).length = p at *
  have p0 : (0 : Int) ≤ (p : Int) := by omega
  have p1 : (p : Int) < 32 := by omega
  have HB := keep hb
  clear hb hd ck h2 h3 hs MF HD HS hle
  go_wp2
  go_ret2
  exact ⟨rfl, HB.out⟩
set_option maxRecDepth 100000 in
set_option maxHeartbeats 1000000 in
theorem at_out (w : World) (bv : Value) (N : Nat) (i : Int) (hN : N ≤ 1048576) (hL : ∀ w1, Below w.heap.size w w1 → Calls Try.prog 24 #[bv] w1 fun e w' => e = .returned (.int .i64 (N : Nat)) ∧ w' = w1) (hi : i < 0 ∨ (N : Int) ≤ i) :
    Calls Try.prog 28 #[bv, .int .i64 i] w fun e w' => e = .returned (.tuple #[.string .empty, .bool false]) ∧ Below w.heap.size w w' := by
  have MF := keep (find_out w bv N i hN hL hi)
  clear hL hi
  go_enter Try.func28, Try.ntmps28
  go_wp2_with fail
  refine MF.out.mono ?_
  rintro _ w1 ⟨rfl, hb⟩
  have HB := keep hb
  clear hb
  go_wp2
  go_ret2
  exact ⟨rfl, HB.out⟩
end Go.Proofs.Ytlfkdohajfkhdaa
