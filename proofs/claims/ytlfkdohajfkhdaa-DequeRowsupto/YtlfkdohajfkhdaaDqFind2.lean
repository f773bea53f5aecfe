/-
  Contracts over this program: find's own walk, from the end back; and find at any place.
-/
import Derived.Test.YtlfkdohajfkhdaaDqFind1
namespace Go.Proofs.Ytlfkdohajfkhdaa
open Go.RowKit Go.Shelf
attribute [local go_sem] Oper.semAt_some
set_option linter.unusedVariables false
theorem riF_get {cs : List Chk} {m : Nat} {x : Nat × Nat} (h : (riL 0 cs).reverse[m]? = some x) : ∃ A c ts B, cs = A ++ (c, ts) :: B ∧ B.length = m ∧ x = ((row A).length, c) := by
  have hl := (List.getElem?_eq_some_iff.1 h).1
  rw [List.length_reverse] at hl
  rw [List.getElem?_reverse hl] at h
  rw [riL_len] at hl h
  obtain ⟨A, c, ts, B, e, e1, e2⟩ := riL_get h
  refine ⟨A, c, ts, B, e, ?_, e2⟩
  have := congrArg List.length e
  rw [List.length_append, List.length_cons] at this
  omega
theorem FiX.undrew {w X : World} {Bi i : Nat} {cs : List Chk} {M : Nat → Prop} (h : FiX w Bi i cs M X.drew) : FiX w Bi i cs M X := by
  obtain ⟨A, c, ts, B, hA, h1, h2, h3, h4⟩ := h
  exact ⟨A, c, ts, B, hA, h1, h2, ⟨h3.os, h3.tape, h3.output, h3.size, h3.block⟩, h4⟩
set_option maxRecDepth 100000 in
set_option maxHeartbeats 4000000 in
theorem find_far (w : World) (b : Nat) (cs : List Chk) (i : Nat) (hd : Dq w b cs) (hi0 : ¬ i < (row cs).length / 2) (hi : i < (row cs).length) :
    Calls Try.prog 53 #[ptr b, .int .i64 i] w fun e w' => (∃ A c ts B, At cs i A c ts B ∧ e = .returned (.tuple #[ptr c, .int .i64 (i - (row A).length : Nat)])) ∧ Below w.heap.size w w' := by
  have hN := hd.1.2.2.2.2
  obtain ⟨N, hNN⟩ : ∃ N, N = (row cs).length := ⟨_, rfl⟩
  rw [← hNN] at hi hi0 hN
  have hb3 := w3_below w i
  have d3 := (hd.below hb3).1.1
  rw [← hNN] at d3
  have c0 : (w3 w i).cell? ⟨w.heap.size, 0, none⟩ = some (.int .i64 (i : Nat)) := by rw [cell_of_row _ _ _ _ _ _ (w3_0 w i)]; rfl
  have c2 := d3.four.2.2.1
  have ML := keep fun q => len_any ((w3 w i).drewN q) b _ _ N _ (show Ds _ _ _ _ _ _ from d3)
  have i1 : decide ((i : Int) < 0) = false := decide_eq_false (by omega)
  have i2 : decide ((N : Int) ≤ (i : Int)) = false := decide_eq_false (by omega)
  have i3 : ¬ (i : Int) < (N : Int) / 2 := by omega
  have i4 : ¬ N ≤ i := by omega
  have Nb : (N : Int) ≤ 1048576 := by omega
  obtain ⟨W3, hW3⟩ : ∃ x, w3 w i = x := ⟨_, rfl⟩
  rw [hW3] at c0 c2 ML
  have HW3 := keep hW3
  have hW3' := hW3
  unfold w3 at hW3'
  have HD := keep hd
  have HNN := keep hNN
  have HI := keep hi
  clear hd hNN hN hb3 d3 hW3 hi hi0
  refine callsIn_wide (n := 9) |>.1 (callsIn_of_wp_marks Try.func53 rfl trivial (wpIn_wide.2 ?_) rfl)
  simp only [Try.ntmps53, List.size_toArray, List.length_cons, List.length_nil, Nat.reduceAdd, Nat.reduceSub, Array.replicate_succ, Array.replicate_zero, List.push_toArray, List.append_toArray, List.nil_append, List.cons_append]
  go_wp2_with fail
  clear hW3'
  go_quiet (first | (go_at_call 24; refine Calls.quiet_of_same (ML.out _)))
  go_wp2_with fail
  go_quiet (fail)
  go_wp2_with fail
  refine (falling_any _ b).mono ?_
  rintro _ w4 ⟨rfl, hw4⟩
  have hq4 : w4.heap = (W3.alloc (.cells #[ptr b] 23)).heap ∧ w4.os = W3.os ∧ w4.tape = W3.tape ∧ w4.output = W3.output := by rw [hw4]; exact ⟨rfl, rfl, rfl, rfl⟩
  have hz3 : W3.heap.size = w.heap.size + 3 := by rw [← HW3.out]; exact w3_size w i
  have e3 : ∀ q1 : Nat, (W3.drewN q1).heap.size = w.heap.size + 3 := fun _ => hz3
  rw [e3]
  have hI0 : FiI w w.heap.size b i (fun m => i < (row (cs.take (cs.length - m))).length) (fun _ => False) 0 w4 := by
    have hb3 : Below w.heap.size w W3 := by rw [← HW3.out]; exact w3_below w i
    have hb34 : Below W3.heap.size W3 w4 := ⟨hq4.2.1, hq4.2.2.1, hq4.2.2.2, by rw [hq4.1]; simp, fun k hk => by rw [hq4.1]; exact Below.heap_alloc _ _ _ hk⟩
    refine ⟨⟨id, (hb34.block _ (by omega)).trans ?_⟩, ⟨id, (hb34.block _ (by omega)).trans ?_⟩, ⟨id, (hb34.block _ (by omega)).trans ?_⟩, ⟨id, ?_⟩, hb3.trans (hb34.mono hb3.size), fun _ h => h.elim, by show i < _; rw [Nat.sub_zero, List.take_length, ← HNN.out]; exact HI.out⟩
    · rw [← HW3.out]; exact w3_0 w i
    · rw [← HW3.out]; exact w3_1 w i
    · rw [← HW3.out]; exact w3_2 w i
    · rw [hq4.1, ← hz3]; exact heap_alloc_new _ _
  have HI0 := keep hI0
  clear hI0 hq4 hw4 e3 c0 c2 ML
  go_wp2
  refine (wpIn_wide (n := 9)).1 (range_own (α := Nat × Nat) (gf := 62) (lb := #[.pointer (some ⟨w.heap.size + 3, 0, none⟩)]) (by simp [Act.eval]) (enters_of Try.func62 (by kernel_rfl) rfl) (encs := riV) (L := (riL 0 cs).reverse) (fun _ => rfl)
    (fun W1 hb => falling_iter (w.heap.size + 3) b cs HD.out.2 HD.out.1.2.2.2.2 W1)
    (FiI w w.heap.size b i (fun m => i < (row (cs.take (cs.length - m))).length)) (fun c M m W1 => c = .ret ∧ FiX w w.heap.size i cs M W1) FiI.abd (fun c M M' m A B h hs hx => ⟨h.1, FiX.abd _ _ 0 _ _ h.2 hs hx⟩) HI0.out (rd_fall HD.out) ?round ?done ?stop)
  case done =>
    intro M' D W5 hI hD hDk hM'
    exfalso
    have := hI.2.2.2.2.2.2
    rw [List.length_reverse, riL_len, Nat.sub_self, List.take_zero] at this
    exact absurd this (Nat.not_lt_zero _)
  case stop =>
    rintro c' M' D m W5 hm ⟨rfl, A, c, ts, B, hA, ⟨j1, j1'⟩, ⟨j2, j2'⟩, j5, j6⟩ hD hDk hM'
    refine (wpIn_wide (n := 9)).2 ?_
    dsimp only
    clear HI0
    have e1 : W5.cell? ⟨w.heap.size + 1, 0, none⟩ = some (ptr c) := by rw [cell_of_row _ _ _ _ _ _ j1']; rfl
    have e2 : W5.cell? ⟨w.heap.size + 2, 0, none⟩ = some (.int .i64 (i - (row A).length : Nat)) := by rw [cell_of_row _ _ _ _ _ _ j2']; rfl
    have hD1 : D ≠ w.heap.size + 1 := fun e => j1 (e ▸ hD)
    have hD2 : D ≠ w.heap.size + 2 := fun e => j2 (e ▸ hD)
    go_wp2
    refine leave_mark hDk ?_
    have hl1 : ∀ k, k ≠ D → (W5.putObj D (.deferred none)).heap[k]? = W5.heap[k]? := fun k hk => World.putObj_heap_other hk
    have e1' : (W5.putObj D (.deferred none)).cell? ⟨w.heap.size + 1, 0, none⟩ = some (ptr c) := by rw [cell_of_row _ _ _ _ _ _ ((hl1 _ hD1.symm).trans j1')]; rfl
    have e2' : (W5.putObj D (.deferred none)).cell? ⟨w.heap.size + 1 + 1, 0, none⟩ = some (.int .i64 (i - (row A).length : Nat)) := by rw [cell_of_row _ _ _ _ _ _ ((hl1 _ hD2.symm).trans j2')]; rfl
    refine ⟨.tuple #[ptr c, .int .i64 (i - (row A).length : Nat)], results_cell2 rfl _ _ ⟨w.heap.size + 1, 0, none⟩ ⟨w.heap.size + 1 + 1, 0, none⟩ _ _ rfl rfl ?_ ?_, ⟨A, c, ts, B, hA, rfl⟩, j5.grown (grownBy_putObj' _ D _) j5.size (fun k e => by cases e; exact j6 D hD)⟩
    · go_simp
    · go_simp
  case round =>
    intro M' l' m x W1 hI hx hl hrec hM'
    obtain ⟨A, c, ts, B, hcs, hAl, rfl⟩ := riF_get hx
    have HI := keep hI
    have HM' := keep hM'
    clear hI hx hM' hrec HI0
    unfold riV
    gi_wp2
    refine ⟨Mk.refl _ _, fun rl => ?_⟩
    obtain ⟨W2, hW2⟩ : ∃ W2, W1.putObj l' (.loop rl) = W2 := ⟨_, rfl⟩
    rw [hW2]
    have hz2' : W2.heap.size = W1.heap.size := by rw [← hW2]; simp
    have hI2 := FiI.abd M' M' m W1 (W1.putObj l' (.loop rl)) HI.out (Sep.put _ _ hl) (Ext.refl _ _ _)
    rw [hW2] at hI2
    obtain ⟨⟨j1, j1'⟩, ⟨j2, j2'⟩, ⟨j3, j3'⟩, ⟨j4, j4'⟩, j5, j6, j7⟩ := hI2
    have ci : W2.cell? ⟨w.heap.size, 0, none⟩ = some (.int .i64 (i : Nat)) := by rw [cell_of_row _ _ _ _ _ _ j1']; rfl
    have hdq := HD.out.below j5
    rw [hcs] at hdq
    have cc := (ch_app.1 hdq.1.2.1).2.1.cells.2.2.1
    have hrl : (row A).length + ts.length ≤ 1048576 := by
      have := hdq.1.2.2.2.2
      rw [row_app, row_cons, List.length_append, List.length_append] at this
      dsimp only at this
      omega
    have hcl : cs.length = A.length + (m + 1) := by rw [hcs, List.length_append, List.length_cons, hAl]
    have etk : cs.take (cs.length - m) = A ++ [(c, ts)] := by rw [show cs.length - m = A.length + 1 by omega, hcs, List.take_length_add_append]; rfl
    have etk1 : cs.take (cs.length - (m + 1)) = A := by rw [show cs.length - (m + 1) = A.length by omega, hcs]; simp
    have e1 : (row (cs.take (cs.length - m))).length = (row A).length + ts.length := by rw [etk, row_app, row_cons, List.length_append]; simp [row]
    rw [e1] at j7
    have e1 : (row (cs.take (cs.length - (m + 1)))).length = (row A).length := by rw [etk1]
    obtain ⟨sA, hsA⟩ : ∃ x, x = (row A).length := ⟨_, rfl⟩
    obtain ⟨t, ht⟩ : ∃ x, x = ts.length := ⟨_, rfl⟩
    rw [← hsA, ← ht] at hrl j7
    rw [← hsA] at e1
    rw [← hsA]
    rw [← ht] at cc
    have hs1 : (sA : Int) + (t : Int) ≤ 1048576 := by omega
    have HSA := keep hsA
    have HTT := keep ht
    have HCS := keep hcs
    clear hsA ht hcs etk etk1 hcl
    by_cases hlt : sA ≤ i
    · have hz : (sA : Int) ≤ (i : Int) := by omega
      obtain ⟨p, hp⟩ : ∃ p, p = i - sA := ⟨_, rfl⟩
      have k2 : W2.drew.cell? ⟨w.heap.size + 1, 0, none⟩ = some nul := by show W2.cell? _ = _; rw [cell_of_row _ _ _ _ _ _ j2']; rfl
      have k3' : W2.cell? ⟨w.heap.size + 1 + 1, 0, none⟩ = some (.int .i64 0) := by rw [cell_of_row _ _ _ _ _ _ j3']; rfl
      have z2 : W2.drew.frozen? ⟨w.heap.size + 1, 0, none⟩ = false := by show W2.frozen? _ = _; simp [World.frozen?, j2']
      have z3' : W2.frozen? ⟨w.heap.size + 1 + 1, 0, none⟩ = false := by simp [World.frozen?, j3']
      have wr2 : IntKind.i64.wrap ((i : Int) - (sA : Int)) = (p : Int) := by rw [IntKind.wrap_i64]; omega
      have HP := keep hp
      clear hp
      gi_wp2_with fail
      refine region_round2 (S := fun W => W.cell? ⟨w.heap.size, 0, none⟩ = some (.int .i64 (i : Nat))) (by kernel_rfl) (by kernel_rfl) ci (fun hHeld => ?_)
      refine wpAnyH_take (i := 0) (oi := { dst := some 48, op := _, type := _, pos := _, after := _, guard := _ }) (v := ?v1) rfl (by kernel_rfl) (by kernel_rfl) (by kernel_rfl) (fun _ _ _ h => h) (Or.inl ⟨by rfl, ?hy1⟩) (by assumption) ?rest1
      case hy1 => (intro w hSw; obtain p0 := hSw; go_simp; try with_reducible rfl)
      try simp only [Act.put, List.setIfInBounds_toArray, List.set_cons_zero, List.set_cons_succ]
      refine wpAnyH_take (i := 1) (oi := { dst := some 49, op := _, type := _, pos := _, after := _, guard := _ }) (v := ?v2) rfl (by kernel_rfl) (by kernel_rfl) (by kernel_rfl) (fun _ _ _ h => h) (Or.inl ⟨by rfl, ?hy2⟩) (by assumption) ?rest2
      case hy2 => (intro w hSw; obtain p0 := hSw; go_simp; try with_reducible rfl)
      try simp only [Act.put, List.setIfInBounds_toArray, List.set_cons_zero, List.set_cons_succ]
      refine wpAnyH_take (i := 2) (oi := { dst := some 50, op := _, type := _, pos := _, after := _, guard := _ }) (v := ?v3) rfl (by kernel_rfl) (by kernel_rfl) (by kernel_rfl) (fun _ _ _ h => h) (Or.inl ⟨by rfl, ?hy3⟩) (by assumption) ?rest3
      case hy3 => (intro w hSw; obtain p0 := hSw; go_simp; try with_reducible rfl)
      try simp only [Act.put, List.setIfInBounds_toArray, List.set_cons_zero, List.set_cons_succ]
      refine wpAnyH_take (i := 3) (oi := { dst := some 51, op := _, type := _, pos := _, after := _, guard := _ }) (v := (.int .i64 (p : Int))) rfl (by kernel_rfl) (by kernel_rfl) (by kernel_rfl) (fun _ _ _ h => h) (Or.inl ⟨by rfl, ?hy4⟩) (by assumption) ?rest4
      case hy4 => (intro w hSw; obtain p0 := hSw; first | (go_simp; done) | (go_simp; simp [*]; done) | (simp [*]; go_simp; done))
      try simp only [Act.put, List.setIfInBounds_toArray, List.set_cons_zero, List.set_cons_succ]
      refine wpAnyH_ready (rs := [4]) (by kernel_rfl) (by simp) ?_
      refine AllReadyH.cons (o := { dst := none, op := _, type := _, pos := _, after := _, guard := _ }) rfl (fun K hK => ?_) AllReadyH.nil
      go_simp
      refine hK.out _ _ (by show (World.setCell _ _ _).cell? _ = _; rw [World.cell?_setCell_other _ _ _ _ (by simp)]; exact ci) (fun hHeld => ?_)
      try simp only [Act.put, List.setIfInBounds_toArray, List.set_cons_zero, List.set_cons_succ]
      clear hK
      refine wpAnyH_ready (rs := [5]) (by kernel_rfl) (by simp) ?_
      refine AllReadyH.cons (o := { dst := none, op := _, type := _, pos := _, after := _, guard := _ }) rfl (fun K hK => ?_) AllReadyH.nil
      go_simp
      refine hK.out _ _ (by show ((World.setCell _ _ _).setCell _ _).cell? _ = _; rw [World.cell?_setCell_other _ _ _ _ (by simp), World.cell?_setCell_other _ _ _ _ (by simp)]; exact ci) (fun hHeld => ?_)
      try simp only [Act.put, List.setIfInBounds_toArray, List.set_cons_zero, List.set_cons_succ]
      clear hK
      refine wpAnyH_done (by kernel_rfl) ?_ _
      simp only [noOut]
      clear hHeld
      have FIN := keep (fi_put (w := w) (Bi := w.heap.size) (i := i) (p := p) ⟨HCS.out, by rw [← HSA.out]; exact hlt, by rw [← HSA.out, ← HTT.out]; exact j7⟩ (by rw [← HSA.out]; exact HP.out) (Nat.le_refl _) j2 j2' j3 j3' j5 j6)
      gi_wp2
      exact ⟨FIN.out.1, rfl, FIN.out.2.undrew⟩
    · have hz : ¬ (sA : Int) ≤ (i : Int) := by omega
      have fin : Kept (FiI w w.heap.size b i (fun m => i < (row (cs.take (cs.length - m))).length) M' (m + 1) W2) := ⟨⟨j1, j1'⟩, ⟨j2, j2'⟩, ⟨j3, j3'⟩, ⟨j4, j4'⟩, j5, j6, by show i < _; rw [e1]; omega⟩
      gi_wp2
      exact ⟨Mk.refl _ _, fin.out⟩
/-- find at a place of the row -/
theorem find_in (w : World) (b : Nat) (cs : List Chk) (i : Nat) (hd : Dq w b cs) (hi : i < (row cs).length) :
    Calls Try.prog 53 #[ptr b, .int .i64 i] w fun e w' => (∃ A c ts B, At cs i A c ts B ∧ e = .returned (.tuple #[ptr c, .int .i64 (i - (row A).length : Nat)])) ∧ Below w.heap.size w w' := by
  by_cases h : i < (row cs).length / 2
  · exact find_near w b cs i hd h
  · exact find_far w b cs i hd h hi
end Go.Proofs.Ytlfkdohajfkhdaa
