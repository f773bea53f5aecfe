/-
  Contracts over this program: find where there is no such place; At.
-/
import Derived.Test.YtijclcedjgniaaaGreatQDqFind
import Derived.Test.YtijclcedjgniaaaGreatRounds
import Derived.RangeFuncCalls
import Derived.Shelf.RegionOpen
/-
  Contracts over this program: find's own walk.
-/
namespace Go.Proofs.YtijclcedjgniaaaGreat.DQ
open Go.RowKit Go.Shelf
attribute [local go_sem] Oper.semAt_some
set_option linter.unusedVariables false
/-- find's first steps: the three boxes -/
def w3 (w : World) (i : Nat) : World := ((w.alloc (.cells #[.int .i64 (i : Nat)] 3)).alloc (.cells #[nul] 160)).alloc (.cells #[.int .i64 0] 3)
theorem w3_size (w : World) (i : Nat) : (w3 w i).heap.size = w.heap.size + 3 := by simp [w3]
theorem w3_below (w : World) (i : Nat) : Below w.heap.size w (w3 w i) := (((Below.refl _ w).alloc (Nat.le_refl _) _).alloc (by simp) _).alloc (by simp; omega) _
theorem w3_0 (w : World) (i : Nat) : (w3 w i).heap[w.heap.size]? = some (.cells #[.int .i64 (i : Nat)] 3 (0, 0)) := by
  unfold w3
  rw [Below.heap_alloc _ _ _ (by simp; omega), Below.heap_alloc _ _ _ (by simp)]
  exact heap_alloc_new _ _
theorem w3_1 (w : World) (i : Nat) : (w3 w i).heap[w.heap.size + 1]? = some (.cells #[nul] 160 (0, 0)) := by
  unfold w3
  rw [Below.heap_alloc _ _ _ (by simp)]
  have := heap_alloc_new (w.alloc (.cells #[.int .i64 (i : Nat)] 3)) (.cells #[nul] 160)
  rwa [World.size_alloc] at this
theorem w3_2 (w : World) (i : Nat) : (w3 w i).heap[w.heap.size + 2]? = some (.cells #[.int .i64 0] 3 (0, 0)) := by
  unfold w3
  have := heap_alloc_new ((w.alloc (.cells #[.int .i64 (i : Nat)] 3)).alloc (.cells #[nul] 160)) (.cells #[.int .i64 0] 3)
  rwa [World.size_alloc, World.size_alloc] at this
theorem results_cell2 {P : Program} {fn : Func} {p p2 : Tmp} {ty ty2 : TypeId} (h : fn.results = #[.cell p ty, .cell p2 ty2]) (tmps : Array Value) (w : World) (a a2 : Addr) (v v2 : Value) (hp : tmps.getD p undef = .pointer (some a)) (hp2 : tmps.getD p2 undef = .pointer (some a2)) (hl : (loadVar ty a).run P w = .ok v w) (hl2 : (loadVar ty2 a2).run P w = .ok v2 w) : (results fn tmps).run P w = .ok (.tuple #[v, v2]) w := by
  have hp' : tmps[p]?.getD undef = .pointer (some a) := by simpa using hp
  have hp2' : tmps[p2]?.getD undef = .pointer (some a2) := by simpa using hp2
  simp [results, h, hp', hp2', asAddr, hl, hl2]
theorem fi_put {w W2 : World} {Bi i p : Nat} {cs : List Chk} {M' : Nat → Prop} {A B : List Chk} {c : Nat} {ts : List ByteArray} (hA : At cs i A c ts B) (hp : p = i - (row A).length) (hB : w.heap.size ≤ Bi) (j2 : ¬ M' (Bi + 1)) (j2' : W2.heap[Bi + 1]? = some (.cells #[nul] 160 (0, 0))) (j3 : ¬ M' (Bi + 2)) (j3' : W2.heap[Bi + 2]? = some (.cells #[.int .i64 0] 3 (0, 0)))
    (j5 : Below w.heap.size w W2) (j6 : ∀ k, M' k → w.heap.size ≤ k) : Mk M' W2 ((W2.setCell ⟨Bi + 1, 0, none⟩ (ptr c)).setCell ⟨Bi + 1 + 1, 0, none⟩ (.int .i64 (p : Nat))).drew.drew ∧ FiX w Bi i cs M' ((W2.setCell ⟨Bi + 1, 0, none⟩ (ptr c)).setCell ⟨Bi + 1 + 1, 0, none⟩ (.int .i64 (p : Nat))).drew.drew := by
  have h1 : (W2.setCell ⟨Bi + 1, 0, none⟩ (ptr c)).heap[Bi + 1]? = some (.cells #[ptr c] 160 (0, 0)) := cells_setCell j2'
  have h2 : (W2.setCell ⟨Bi + 1, 0, none⟩ (ptr c)).heap[Bi + 2]? = some (.cells #[.int .i64 0] 3 (0, 0)) := (Below.heap_setCell _ _ _ _ (by simp)).trans j3'
  refine ⟨⟨by show _ ≤ (World.setCell _ _ _).heap.size; rw [set_size, set_size]; exact Nat.le_refl _, fun k hk => ?_⟩, A, c, ts, B, hA, ⟨j2, ?_⟩, ⟨j3, ?_⟩, ?_, j6⟩
  · show (World.setCell _ _ _).heap[k]? = _
    have n1 : k ≠ Bi + 1 := fun e => j2 (by rw [← e]; exact hk)
    have n2 : k ≠ Bi + 1 + 1 := fun e => j3 (by rw [show Bi + 2 = k from e.symm]; exact hk)
    rw [Below.heap_setCell _ _ _ _ n2, Below.heap_setCell _ _ _ _ n1]
  · show (World.setCell _ _ _).heap[Bi + 1]? = _
    rw [Below.heap_setCell _ _ _ _ (by simp)]
    exact h1
  · rw [← hp]
    exact cells_setCell h2
  · exact ((j5.setCell (p := ⟨Bi + 1, 0, none⟩) (by show w.heap.size ≤ Bi + 1; omega) _).setCell (p := ⟨Bi + 1 + 1, 0, none⟩) (by show w.heap.size ≤ Bi + 1 + 1; omega) _).drew.drew
set_option maxRecDepth 100000 in
set_option maxHeartbeats 4000000 in
theorem find_near (w : World) (b : Nat) (cs : List Chk) (i : Nat) (hd : Dq w b cs) (hi : i < (row cs).length / 2) :
    Calls Tryz.prog 137 #[ptr b, .int .i64 i] w fun e w' => (∃ A c ts B, At cs i A c ts B ∧ e = .returned (.tuple #[ptr c, .int .i64 (i - (row A).length : Nat)])) ∧ Below w.heap.size w w' := by
  have hN := hd.1.2.2.2.2
  obtain ⟨N, hNN⟩ : ∃ N, N = (row cs).length := ⟨_, rfl⟩
  rw [← hNN] at hi hN
  have hb3 := w3_below w i
  have d3 := (hd.below hb3).1.1
  rw [← hNN] at d3
  have c0 : (w3 w i).cell? ⟨w.heap.size, 0, none⟩ = some (.int .i64 (i : Nat)) := by rw [cell_of_row _ _ _ _ _ _ (w3_0 w i)]; rfl
  have c2 := d3.four.2.2.1
  have ML := keep fun q => len_any ((w3 w i).drewN q) b _ _ N _ (show Ds _ _ _ _ _ _ from d3)
  have i1 : decide ((i : Int) < 0) = false := decide_eq_false (by omega)
  have i2 : decide ((N : Int) ≤ (i : Int)) = false := decide_eq_false (by omega)
  have i3 : (i : Int) < (N : Int) / 2 := by omega
  have Nb : (N : Int) ≤ 1048576 := by omega
  obtain ⟨W3, hW3⟩ : ∃ x, w3 w i = x := ⟨_, rfl⟩
  rw [hW3] at c0 c2 ML
  have HW3 := keep hW3
  have hW3' := hW3
  unfold w3 at hW3'
  have HD := keep hd
  have HNN := keep hNN
  clear hd hNN hN hb3 d3 hW3 hi
  refine callsIn_wide (n := 9) |>.1 (callsIn_of_wp_marks Tryz.func137 rfl trivial (wpIn_wide.2 ?_) rfl)
  simp only [Tryz.ntmps137, List.size_toArray, List.length_cons, List.length_nil, Nat.reduceAdd, Nat.reduceSub, Array.replicate_succ, Array.replicate_zero, List.push_toArray, List.append_toArray, List.nil_append, List.cons_append]
  go_wp2_with fail
  clear hW3'
  go_quiet (first | (go_at_call 78; refine Calls.quiet_of_same (ML.out _)))
  go_wp2_with fail
  go_quiet (fail)
  go_wp2_with fail
  refine (rising_any _ b).mono ?_
  rintro _ w4 ⟨rfl, hw4⟩
  have hq4 : w4.heap = (W3.alloc (.cells #[ptr b] 79)).heap ∧ w4.os = W3.os ∧ w4.tape = W3.tape ∧ w4.output = W3.output := by rw [hw4]; exact ⟨rfl, rfl, rfl, rfl⟩
  have hz3 : W3.heap.size = w.heap.size + 3 := by rw [← HW3.out]; exact w3_size w i
  have e3 : ∀ q1 : Nat, (W3.drewN q1).heap.size = w.heap.size + 3 := fun _ => hz3
  rw [e3]
  have hI0 : FiI w w.heap.size b i (fun m => (row (cs.take m)).length ≤ i) (fun _ => False) 0 w4 := by
    have hb3 : Below w.heap.size w W3 := by rw [← HW3.out]; exact w3_below w i
    have hb34 : Below W3.heap.size W3 w4 := ⟨hq4.2.1, hq4.2.2.1, hq4.2.2.2, by rw [hq4.1]; simp, fun k hk => by rw [hq4.1]; exact Below.heap_alloc _ _ _ hk⟩
    refine ⟨⟨id, (hb34.block _ (by omega)).trans ?_⟩, ⟨id, (hb34.block _ (by omega)).trans ?_⟩, ⟨id, (hb34.block _ (by omega)).trans ?_⟩, ⟨id, ?_⟩, hb3.trans (hb34.mono hb3.size), fun _ h => h.elim, Nat.zero_le _⟩
    · rw [← HW3.out]; exact w3_0 w i
    · rw [← HW3.out]; exact w3_1 w i
    · rw [← HW3.out]; exact w3_2 w i
    · rw [hq4.1, ← hz3]; exact heap_alloc_new _ _
  have HI0 := keep hI0
  clear hI0 hq4 hw4 e3 c0 c2 ML
  go_wp2
  refine (wpIn_wide (n := 9)).1 (range_own (α := Nat × Nat) (gf := 145) (lb := #[.pointer (some ⟨w.heap.size + 3, 0, none⟩)]) (by simp [Act.eval]) (enters_of Tryz.func145 (by kernel_rfl) rfl) (encs := riV) (L := riL 0 cs) (fun _ => rfl)
    (fun W1 hb => rising_iter (w.heap.size + 3) b cs HD.out.2 HD.out.1.2.2.2.2 W1)
    (FiI w w.heap.size b i (fun m => (row (cs.take m)).length ≤ i)) (fun c M m W1 => c = .ret ∧ FiX w w.heap.size i cs M W1) FiI.abd (fun c M M' m A B h hs hx => ⟨h.1, FiX.abd _ _ 0 _ _ h.2 hs hx⟩) HI0.out (rd_rise HD.out) ?round ?done ?stop)
  case done =>
    intro M' D W5 hI hD hDk hM'
    exfalso
    have := hI.2.2.2.2.2.2
    rw [riL_len, List.take_length, ← HNN.out] at this
    omega
  case stop =>
    rintro c' M' D m W5 hm ⟨rfl, A, c, ts, B, hA, ⟨j1, j1'⟩, ⟨j2, j2'⟩, j5, j6⟩ hD hDk hM'
    refine (wpIn_wide (n := 9)).2 ?_
    dsimp only
    clear HI0
    have e1 : W5.cell? ⟨w.heap.size + 1, 0, none⟩ = some (ptr c) := by rw [cell_of_row _ _ _ _ _ _ j1']; rfl
    have e2 : W5.cell? ⟨w.heap.size + 2, 0, none⟩ = some (.int .i64 (i - (row A).length : Nat)) := by rw [cell_of_row _ _ _ _ _ _ j2']; rfl
    have hD1 : D ≠ w.heap.size + 1 := fun e => j1 (e ▸ hD)
    have hD2 : D ≠ w.heap.size + 2 := fun e => j2 (e ▸ hD)
    go_wp2
    refine leave_mark hDk ?_
    have hl1 : ∀ k, k ≠ D → (W5.putObj D (.deferred none)).heap[k]? = W5.heap[k]? := fun k hk => World.putObj_heap_other hk
    have e1' : (W5.putObj D (.deferred none)).cell? ⟨w.heap.size + 1, 0, none⟩ = some (ptr c) := by rw [cell_of_row _ _ _ _ _ _ ((hl1 _ hD1.symm).trans j1')]; rfl
    have e2' : (W5.putObj D (.deferred none)).cell? ⟨w.heap.size + 1 + 1, 0, none⟩ = some (.int .i64 (i - (row A).length : Nat)) := by rw [cell_of_row _ _ _ _ _ _ ((hl1 _ hD2.symm).trans j2')]; rfl
    refine ⟨.tuple #[ptr c, .int .i64 (i - (row A).length : Nat)], results_cell2 rfl _ _ ⟨w.heap.size + 1, 0, none⟩ ⟨w.heap.size + 1 + 1, 0, none⟩ _ _ rfl rfl ?_ ?_, ⟨A, c, ts, B, hA, rfl⟩, j5.grown (grownBy_putObj' _ D _) j5.size (fun k e => by cases e; exact j6 D hD)⟩
    · go_simp
    · go_simp
  case round =>
    intro M' l' m x W1 hI hx hl hrec hM'
    obtain ⟨A, c, ts, B, hcs, hAl, rfl⟩ := riL_get hx
    have HI := keep hI
    have HM' := keep hM'
    clear hI hx hM' hrec HI0
    unfold riV
    gi_wp2
    refine ⟨Mk.refl _ _, fun rl => ?_⟩
    obtain ⟨W2, hW2⟩ : ∃ W2, W1.putObj l' (.loop rl) = W2 := ⟨_, rfl⟩
    rw [hW2]
    have hz2' : W2.heap.size = W1.heap.size := by rw [← hW2]; simp
    have hI2 := FiI.abd M' M' m W1 (W1.putObj l' (.loop rl)) HI.out (Sep.put _ _ hl) (Ext.refl _ _ _)
    rw [hW2] at hI2
    obtain ⟨⟨j1, j1'⟩, ⟨j2, j2'⟩, ⟨j3, j3'⟩, ⟨j4, j4'⟩, j5, j6, j7⟩ := hI2
    have ci : W2.cell? ⟨w.heap.size, 0, none⟩ = some (.int .i64 (i : Nat)) := by rw [cell_of_row _ _ _ _ _ _ j1']; rfl
    have hdq := HD.out.below j5
    rw [hcs] at hdq
    have cc := (ch_app.1 hdq.1.2.1).2.1.cells.2.2.1
    have hrl : (row A).length + ts.length ≤ 1048576 := by
      have := hdq.1.2.2.2.2
      rw [row_app, row_cons, List.length_append, List.length_append] at this
      dsimp only at this
      omega
    have etk : cs.take m = A := by rw [hcs, ← hAl]; simp
    rw [etk] at j7
    have etk1 : cs.take (m + 1) = A ++ [(c, ts)] := by rw [hcs, ← hAl, List.take_length_add_append]; rfl
    have e1 : (row (cs.take (m + 1))).length = (row A).length + ts.length := by rw [etk1, row_app, row_cons, List.length_append]; simp [row]
    obtain ⟨sA, hsA⟩ : ∃ x, x = (row A).length := ⟨_, rfl⟩
    obtain ⟨t, ht⟩ : ∃ x, x = ts.length := ⟨_, rfl⟩
    rw [← hsA, ← ht] at hrl e1
    rw [← hsA] at j7
    rw [← hsA]
    rw [← ht] at cc
    have hs1 : (sA : Int) + (t : Int) ≤ 1048576 := by omega
    have HSA := keep hsA
    have HTT := keep ht
    have HCS := keep hcs
    clear hsA ht hcs etk etk1
    by_cases hlt : i < sA + t
    · have hz : (i : Int) < (sA : Int) + (t : Int) := by omega
      obtain ⟨p, hp⟩ : ∃ p, p = i - sA := ⟨_, rfl⟩
      have k2 : W2.drew.drew.cell? ⟨w.heap.size + 1, 0, none⟩ = some nul := by show W2.cell? _ = _; rw [cell_of_row _ _ _ _ _ _ j2']; rfl
      have k3 : W2.drew.drew.cell? ⟨w.heap.size + 2, 0, none⟩ = some (.int .i64 0) := by show W2.cell? _ = _; rw [cell_of_row _ _ _ _ _ _ j3']; rfl
      have z2 : W2.drew.drew.frozen? ⟨w.heap.size + 1, 0, none⟩ = false := by show W2.frozen? _ = _; simp [World.frozen?, j2']
      have z3 : W2.drew.drew.frozen? ⟨w.heap.size + 2, 0, none⟩ = false := by show W2.frozen? _ = _; simp [World.frozen?, j3']
      gi_wp2_with fail
      refine region_round2 (S := fun W => W.cell? ⟨w.heap.size, 0, none⟩ = some (.int .i64 (i : Nat)) ∧ W.cell? ⟨c, 2, none⟩ = some (.int .i64 (t : Nat))) (by kernel_rfl) (by kernel_rfl) ⟨ci, cc⟩ (fun hHeld => ?_)
      have wr1 : IntKind.i64.wrap ((sA : Int) + (t : Int)) = (sA : Int) + (t : Int) := by rw [IntKind.wrap_i64]; omega
      have wr2 : IntKind.i64.wrap ((i : Int) - (sA : Int)) = (p : Int) := by rw [IntKind.wrap_i64]; omega
      have dz : decide ((i : Int) < (sA : Int) + (t : Int)) = true := decide_eq_true hz
      have HP := keep hp
      clear hp
      refine wpAnyH_take (i := 0) (oi := { dst := some 29, op := _, type := _, pos := _, after := _, guard := _ }) (v := ?v1) rfl (by kernel_rfl) (by kernel_rfl) (by kernel_rfl) (fun _ _ _ h => h) (Or.inl ⟨by rfl, ?hy1⟩) (by assumption) ?rest1
      case hy1 => (intro w hSw; obtain ⟨p0, p1⟩ := hSw; go_simp; try with_reducible rfl)
      try simp only [Act.put, List.setIfInBounds_toArray, List.set_cons_zero, List.set_cons_succ]
      refine wpAnyH_take (i := 1) (oi := { dst := some 30, op := _, type := _, pos := _, after := _, guard := _ }) (v := ?v2) rfl (by kernel_rfl) (by kernel_rfl) (by kernel_rfl) (fun _ _ _ h => h) (Or.inl ⟨by rfl, ?hy2⟩) (by assumption) ?rest2
      case hy2 => (intro w hSw; obtain ⟨p0, p1⟩ := hSw; go_simp; try with_reducible rfl)
      try simp only [Act.put, List.setIfInBounds_toArray, List.set_cons_zero, List.set_cons_succ]
      refine wpAnyH_take (i := 2) (oi := { dst := some 31, op := _, type := _, pos := _, after := _, guard := _ }) (v := ?v3) rfl (by kernel_rfl) (by kernel_rfl) (by kernel_rfl) (fun _ _ _ h => h) (Or.inl ⟨by rfl, ?hy3⟩) (by assumption) ?rest3
      case hy3 => (intro w hSw; obtain ⟨p0, p1⟩ := hSw; go_simp; try with_reducible rfl)
      try simp only [Act.put, List.setIfInBounds_toArray, List.set_cons_zero, List.set_cons_succ]
      refine wpAnyH_take (i := 3) (oi := { dst := some 32, op := _, type := _, pos := _, after := _, guard := _ }) (v := ?v4) rfl (by kernel_rfl) (by kernel_rfl) (by kernel_rfl) (fun _ _ _ h => h) (Or.inl ⟨by rfl, ?hy4⟩) (by assumption) ?rest4
      case hy4 => (intro w hSw; obtain ⟨p0, p1⟩ := hSw; go_simp; try with_reducible rfl)
      try simp only [Act.put, List.setIfInBounds_toArray, List.set_cons_zero, List.set_cons_succ]
      refine wpAnyH_take (i := 4) (oi := { dst := some 33, op := _, type := _, pos := _, after := _, guard := _ }) (v := ?v5) rfl (by kernel_rfl) (by kernel_rfl) (by kernel_rfl) (fun _ _ _ h => h) (Or.inl ⟨by rfl, ?hy5⟩) (by assumption) ?rest5
      case hy5 => (intro w hSw; obtain ⟨p0, p1⟩ := hSw; go_simp; try with_reducible rfl)
      try simp only [Act.put, List.setIfInBounds_toArray, List.set_cons_zero, List.set_cons_succ]
      refine wpAnyH_take (i := 5) (oi := { dst := some 34, op := _, type := _, pos := _, after := _, guard := _ }) (v := ?v6) rfl (by kernel_rfl) (by kernel_rfl) (by kernel_rfl) (fun _ _ _ h => h) (Or.inl ⟨by rfl, ?hy6⟩) (by assumption) ?rest6
      case hy6 => (intro w hSw; obtain ⟨p0, p1⟩ := hSw; go_simp; try with_reducible rfl)
      try simp only [Act.put, List.setIfInBounds_toArray, List.set_cons_zero, List.set_cons_succ]
      refine wpAnyH_take (i := 6) (oi := { dst := some 35, op := _, type := _, pos := _, after := _, guard := _ }) (v := (.int .i64 ((sA : Int) + (t : Int)))) rfl (by kernel_rfl) (by kernel_rfl) (by kernel_rfl) (fun _ _ _ h => h) (Or.inl ⟨by rfl, ?hy7⟩) (by assumption) ?rest7
      case hy7 => (intro w hSw; obtain ⟨p0, p1⟩ := hSw; first | (go_simp; done) | (go_simp; simp [*]; done) | (simp [*]; go_simp; done))
      try simp only [Act.put, List.setIfInBounds_toArray, List.set_cons_zero, List.set_cons_succ]
      refine wpAnyH_take (i := 7) (oi := { dst := some 36, op := _, type := _, pos := _, after := _, guard := _ }) (v := (.bool true)) rfl (by kernel_rfl) (by kernel_rfl) (by kernel_rfl) (fun _ _ _ h => h) (Or.inl ⟨by rfl, ?hy8⟩) (by assumption) ?rest8
      case hy8 => (intro w hSw; obtain ⟨p0, p1⟩ := hSw; first | (go_simp; done) | (go_simp; simp [*]; done) | (simp [*]; go_simp; done))
      try simp only [Act.put, List.setIfInBounds_toArray, List.set_cons_zero, List.set_cons_succ]
      refine wpAnyH_done (by kernel_rfl) ?_ _
      simp only [noOut]
      clear hHeld
      gi_wp2_with fail
      refine region_round2 (S := fun W => W.cell? ⟨w.heap.size, 0, none⟩ = some (.int .i64 (i : Nat))) (by kernel_rfl) (by kernel_rfl) ci (fun hHeld => ?_)
      refine wpAnyH_take (i := 0) (oi := { dst := some 37, op := _, type := _, pos := _, after := _, guard := _ }) (v := ?v9) rfl (by kernel_rfl) (by kernel_rfl) (by kernel_rfl) (fun _ _ _ h => h) (Or.inl ⟨by rfl, ?hy9⟩) (by assumption) ?rest9
      case hy9 => (intro w hSw; obtain p0 := hSw; go_simp; try with_reducible rfl)
      try simp only [Act.put, List.setIfInBounds_toArray, List.set_cons_zero, List.set_cons_succ]
      refine wpAnyH_take (i := 1) (oi := { dst := some 38, op := _, type := _, pos := _, after := _, guard := _ }) (v := ?v10) rfl (by kernel_rfl) (by kernel_rfl) (by kernel_rfl) (fun _ _ _ h => h) (Or.inl ⟨by rfl, ?hy10⟩) (by assumption) ?rest10
      case hy10 => (intro w hSw; obtain p0 := hSw; go_simp; try with_reducible rfl)
      try simp only [Act.put, List.setIfInBounds_toArray, List.set_cons_zero, List.set_cons_succ]
      refine wpAnyH_take (i := 2) (oi := { dst := some 39, op := _, type := _, pos := _, after := _, guard := _ }) (v := ?v11) rfl (by kernel_rfl) (by kernel_rfl) (by kernel_rfl) (fun _ _ _ h => h) (Or.inl ⟨by rfl, ?hy11⟩) (by assumption) ?rest11
      case hy11 => (intro w hSw; obtain p0 := hSw; go_simp; try with_reducible rfl)
      try simp only [Act.put, List.setIfInBounds_toArray, List.set_cons_zero, List.set_cons_succ]
      refine wpAnyH_take (i := 3) (oi := { dst := some 40, op := _, type := _, pos := _, after := _, guard := _ }) (v := (.int .i64 (p : Int))) rfl (by kernel_rfl) (by kernel_rfl) (by kernel_rfl) (fun _ _ _ h => h) (Or.inl ⟨by rfl, ?hy12⟩) (by assumption) ?rest12
      case hy12 => (intro w hSw; obtain p0 := hSw; first | (go_simp; done) | (go_simp; simp [*]; done) | (simp [*]; go_simp; done))
      try simp only [Act.put, List.setIfInBounds_toArray, List.set_cons_zero, List.set_cons_succ]
      refine wpAnyH_ready (rs := [4]) (by kernel_rfl) (by simp) ?_
      refine AllReadyH.cons (o := { dst := none, op := _, type := _, pos := _, after := _, guard := _ }) rfl (fun K hK => ?_) AllReadyH.nil
      go_simp
      refine hK.out _ _ (by show (World.setCell _ _ _).cell? _ = _; rw [World.cell?_setCell_other _ _ _ _ (by simp)]; exact ci) (fun hHeld => ?_)
      try simp only [Act.put, List.setIfInBounds_toArray, List.set_cons_zero, List.set_cons_succ]
      clear hK
      have k3' : W2.cell? ⟨w.heap.size + 1 + 1, 0, none⟩ = some (.int .i64 0) := k3
      have z3' : W2.frozen? ⟨w.heap.size + 1 + 1, 0, none⟩ = false := z3
      refine wpAnyH_ready (rs := [5]) (by kernel_rfl) (by simp) ?_
      refine AllReadyH.cons (o := { dst := none, op := _, type := _, pos := _, after := _, guard := _ }) rfl (fun K hK => ?_) AllReadyH.nil
      go_simp
      refine hK.out _ _ (by show ((World.setCell _ _ _).setCell _ _).cell? _ = _; rw [World.cell?_setCell_other _ _ _ _ (by simp), World.cell?_setCell_other _ _ _ _ (by simp)]; exact ci) (fun hHeld => ?_)
      try simp only [Act.put, List.setIfInBounds_toArray, List.set_cons_zero, List.set_cons_succ]
      clear hK
      refine wpAnyH_done (by kernel_rfl) ?_ _
      simp only [noOut]
      clear hHeld
      have FIN := keep (fi_put (w := w) (Bi := w.heap.size) (i := i) (p := p) ⟨HCS.out, by rw [← HSA.out]; exact j7, by rw [← HSA.out, ← HTT.out]; exact hlt⟩ (by rw [← HSA.out]; exact HP.out) (Nat.le_refl _) j2 j2' j3 j3' j5 j6)
      gi_wp2
      exact ⟨FIN.out.1, rfl, FIN.out.2⟩
    · have hz : ¬ (i : Int) < (sA : Int) + (t : Int) := by omega
      have fin : Kept (FiI w w.heap.size b i (fun m => (row (cs.take m)).length ≤ i) M' (m + 1) W2.drew) := ⟨⟨j1, j1'⟩, ⟨j2, j2'⟩, ⟨j3, j3'⟩, ⟨j4, j4'⟩, j5.drew, j6, by show _ ≤ i; rw [e1]; omega⟩
      have wr1 : IntKind.i64.wrap ((sA : Int) + (t : Int)) = (sA : Int) + (t : Int) := by rw [IntKind.wrap_i64]; omega
      have dz : decide ((i : Int) < (sA : Int) + (t : Int)) = false := decide_eq_false hz
      gi_wp2_with fail
      refine region_round2 (S := fun W => W.cell? ⟨w.heap.size, 0, none⟩ = some (.int .i64 (i : Nat)) ∧ W.cell? ⟨c, 2, none⟩ = some (.int .i64 (t : Nat))) (by kernel_rfl) (by kernel_rfl) ⟨ci, cc⟩ (fun hHeld => ?_)
      refine wpAnyH_take (i := 0) (oi := { dst := some 29, op := _, type := _, pos := _, after := _, guard := _ }) (v := ?v13) rfl (by kernel_rfl) (by kernel_rfl) (by kernel_rfl) (fun _ _ _ h => h) (Or.inl ⟨by rfl, ?hy13⟩) (by assumption) ?rest13
      case hy13 => (intro w hSw; obtain ⟨p0, p1⟩ := hSw; go_simp; try with_reducible rfl)
      try simp only [Act.put, List.setIfInBounds_toArray, List.set_cons_zero, List.set_cons_succ]
      refine wpAnyH_take (i := 1) (oi := { dst := some 30, op := _, type := _, pos := _, after := _, guard := _ }) (v := ?v14) rfl (by kernel_rfl) (by kernel_rfl) (by kernel_rfl) (fun _ _ _ h => h) (Or.inl ⟨by rfl, ?hy14⟩) (by assumption) ?rest14
      case hy14 => (intro w hSw; obtain ⟨p0, p1⟩ := hSw; go_simp; try with_reducible rfl)
      try simp only [Act.put, List.setIfInBounds_toArray, List.set_cons_zero, List.set_cons_succ]
      refine wpAnyH_take (i := 2) (oi := { dst := some 31, op := _, type := _, pos := _, after := _, guard := _ }) (v := ?v15) rfl (by kernel_rfl) (by kernel_rfl) (by kernel_rfl) (fun _ _ _ h => h) (Or.inl ⟨by rfl, ?hy15⟩) (by assumption) ?rest15
      case hy15 => (intro w hSw; obtain ⟨p0, p1⟩ := hSw; go_simp; try with_reducible rfl)
      try simp only [Act.put, List.setIfInBounds_toArray, List.set_cons_zero, List.set_cons_succ]
      refine wpAnyH_take (i := 3) (oi := { dst := some 32, op := _, type := _, pos := _, after := _, guard := _ }) (v := ?v16) rfl (by kernel_rfl) (by kernel_rfl) (by kernel_rfl) (fun _ _ _ h => h) (Or.inl ⟨by rfl, ?hy16⟩) (by assumption) ?rest16
      case hy16 => (intro w hSw; obtain ⟨p0, p1⟩ := hSw; go_simp; try with_reducible rfl)
      try simp only [Act.put, List.setIfInBounds_toArray, List.set_cons_zero, List.set_cons_succ]
      refine wpAnyH_take (i := 4) (oi := { dst := some 33, op := _, type := _, pos := _, after := _, guard := _ }) (v := ?v17) rfl (by kernel_rfl) (by kernel_rfl) (by kernel_rfl) (fun _ _ _ h => h) (Or.inl ⟨by rfl, ?hy17⟩) (by assumption) ?rest17
      case hy17 => (intro w hSw; obtain ⟨p0, p1⟩ := hSw; go_simp; try with_reducible rfl)
      try simp only [Act.put, List.setIfInBounds_toArray, List.set_cons_zero, List.set_cons_succ]
      refine wpAnyH_take (i := 5) (oi := { dst := some 34, op := _, type := _, pos := _, after := _, guard := _ }) (v := ?v18) rfl (by kernel_rfl) (by kernel_rfl) (by kernel_rfl) (fun _ _ _ h => h) (Or.inl ⟨by rfl, ?hy18⟩) (by assumption) ?rest18
      case hy18 => (intro w hSw; obtain ⟨p0, p1⟩ := hSw; go_simp; try with_reducible rfl)
      try simp only [Act.put, List.setIfInBounds_toArray, List.set_cons_zero, List.set_cons_succ]
      refine wpAnyH_take (i := 6) (oi := { dst := some 35, op := _, type := _, pos := _, after := _, guard := _ }) (v := (.int .i64 ((sA : Int) + (t : Int)))) rfl (by kernel_rfl) (by kernel_rfl) (by kernel_rfl) (fun _ _ _ h => h) (Or.inl ⟨by rfl, ?hy19⟩) (by assumption) ?rest19
      case hy19 => (intro w hSw; obtain ⟨p0, p1⟩ := hSw; first | (go_simp; done) | (go_simp; simp [*]; done) | (simp [*]; go_simp; done))
      try simp only [Act.put, List.setIfInBounds_toArray, List.set_cons_zero, List.set_cons_succ]
      refine wpAnyH_take (i := 7) (oi := { dst := some 36, op := _, type := _, pos := _, after := _, guard := _ }) (v := (.bool false)) rfl (by kernel_rfl) (by kernel_rfl) (by kernel_rfl) (fun _ _ _ h => h) (Or.inl ⟨by rfl, ?hy20⟩) (by assumption) ?rest20
      case hy20 => (intro w hSw; obtain ⟨p0, p1⟩ := hSw; first | (go_simp; done) | (go_simp; simp [*]; done) | (simp [*]; go_simp; done))
      try simp only [Act.put, List.setIfInBounds_toArray, List.set_cons_zero, List.set_cons_succ]
      refine wpAnyH_done (by kernel_rfl) ?_ _
      simp only [noOut]
      clear hHeld
      gi_wp2
      exact ⟨Mk.refl _ _, fin.out⟩
end Go.Proofs.YtijclcedjgniaaaGreat.DQ

/-
  Contracts over this program: find's own walk, from the end back; and find at any place.
-/
namespace Go.Proofs.YtijclcedjgniaaaGreat.DQ
open Go.RowKit Go.Shelf
attribute [local go_sem] Oper.semAt_some
set_option linter.unusedVariables false
theorem riF_get {cs : List Chk} {m : Nat} {x : Nat × Nat} (h : (riL 0 cs).reverse[m]? = some x) : ∃ A c ts B, cs = A ++ (c, ts) :: B ∧ B.length = m ∧ x = ((row A).length, c) := by
  have hl := (List.getElem?_eq_some_iff.1 h).1
  rw [List.length_reverse] at hl
  rw [List.getElem?_reverse hl] at h
  rw [riL_len] at hl h
  obtain ⟨A, c, ts, B, e, e1, e2⟩ := riL_get h
  refine ⟨A, c, ts, B, e, ?_, e2⟩
  have := congrArg List.length e
  rw [List.length_append, List.length_cons] at this
  omega
theorem FiX.undrew {w X : World} {Bi i : Nat} {cs : List Chk} {M : Nat → Prop} (h : FiX w Bi i cs M X.drew) : FiX w Bi i cs M X := by
  obtain ⟨A, c, ts, B, hA, h1, h2, h3, h4⟩ := h
  exact ⟨A, c, ts, B, hA, h1, h2, ⟨h3.os, h3.tape, h3.output, h3.size, h3.block⟩, h4⟩
set_option maxRecDepth 100000 in
set_option maxHeartbeats 4000000 in
theorem find_far (w : World) (b : Nat) (cs : List Chk) (i : Nat) (hd : Dq w b cs) (hi0 : ¬ i < (row cs).length / 2) (hi : i < (row cs).length) :
    Calls Tryz.prog 137 #[ptr b, .int .i64 i] w fun e w' => (∃ A c ts B, At cs i A c ts B ∧ e = .returned (.tuple #[ptr c, .int .i64 (i - (row A).length : Nat)])) ∧ Below w.heap.size w w' := by
  have hN := hd.1.2.2.2.2
  obtain ⟨N, hNN⟩ : ∃ N, N = (row cs).length := ⟨_, rfl⟩
  rw [← hNN] at hi hi0 hN
  have hb3 := w3_below w i
  have d3 := (hd.below hb3).1.1
  rw [← hNN] at d3
  have c0 : (w3 w i).cell? ⟨w.heap.size, 0, none⟩ = some (.int .i64 (i : Nat)) := by rw [cell_of_row _ _ _ _ _ _ (w3_0 w i)]; rfl
  have c2 := d3.four.2.2.1
  have ML := keep fun q => len_any ((w3 w i).drewN q) b _ _ N _ (show Ds _ _ _ _ _ _ from d3)
  have i1 : decide ((i : Int) < 0) = false := decide_eq_false (by omega)
  have i2 : decide ((N : Int) ≤ (i : Int)) = false := decide_eq_false (by omega)
  have i3 : ¬ (i : Int) < (N : Int) / 2 := by omega
  have i4 : ¬ N ≤ i := by omega
  have Nb : (N : Int) ≤ 1048576 := by omega
  obtain ⟨W3, hW3⟩ : ∃ x, w3 w i = x := ⟨_, rfl⟩
  rw [hW3] at c0 c2 ML
  have HW3 := keep hW3
  have hW3' := hW3
  unfold w3 at hW3'
  have HD := keep hd
  have HNN := keep hNN
  have HI := keep hi
  clear hd hNN hN hb3 d3 hW3 hi hi0
  refine callsIn_wide (n := 9) |>.1 (callsIn_of_wp_marks Tryz.func137 rfl trivial (wpIn_wide.2 ?_) rfl)
  simp only [Tryz.ntmps137, List.size_toArray, List.length_cons, List.length_nil, Nat.reduceAdd, Nat.reduceSub, Array.replicate_succ, Array.replicate_zero, List.push_toArray, List.append_toArray, List.nil_append, List.cons_append]
  go_wp2_with fail
  clear hW3'
  go_quiet (first | (go_at_call 78; refine Calls.quiet_of_same (ML.out _)))
  go_wp2_with fail
  go_quiet (fail)
  go_wp2_with fail
  refine (falling_any _ b).mono ?_
  rintro _ w4 ⟨rfl, hw4⟩
  have hq4 : w4.heap = (W3.alloc (.cells #[ptr b] 79)).heap ∧ w4.os = W3.os ∧ w4.tape = W3.tape ∧ w4.output = W3.output := by rw [hw4]; exact ⟨rfl, rfl, rfl, rfl⟩
  have hz3 : W3.heap.size = w.heap.size + 3 := by rw [← HW3.out]; exact w3_size w i
  have e3 : ∀ q1 : Nat, (W3.drewN q1).heap.size = w.heap.size + 3 := fun _ => hz3
  rw [e3]
  have hI0 : FiI w w.heap.size b i (fun m => i < (row (cs.take (cs.length - m))).length) (fun _ => False) 0 w4 := by
    have hb3 : Below w.heap.size w W3 := by rw [← HW3.out]; exact w3_below w i
    have hb34 : Below W3.heap.size W3 w4 := ⟨hq4.2.1, hq4.2.2.1, hq4.2.2.2, by rw [hq4.1]; simp, fun k hk => by rw [hq4.1]; exact Below.heap_alloc _ _ _ hk⟩
    refine ⟨⟨id, (hb34.block _ (by omega)).trans ?_⟩, ⟨id, (hb34.block _ (by omega)).trans ?_⟩, ⟨id, (hb34.block _ (by omega)).trans ?_⟩, ⟨id, ?_⟩, hb3.trans (hb34.mono hb3.size), fun _ h => h.elim, by show i < _; rw [Nat.sub_zero, List.take_length, ← HNN.out]; exact HI.out⟩
    · rw [← HW3.out]; exact w3_0 w i
    · rw [← HW3.out]; exact w3_1 w i
    · rw [← HW3.out]; exact w3_2 w i
    · rw [hq4.1, ← hz3]; exact heap_alloc_new _ _
  have HI0 := keep hI0
  clear hI0 hq4 hw4 e3 c0 c2 ML
  go_wp2
  refine (wpIn_wide (n := 9)).1 (range_own (α := Nat × Nat) (gf := 144) (lb := #[.pointer (some ⟨w.heap.size + 3, 0, none⟩)]) (by simp [Act.eval]) (enters_of Tryz.func144 (by kernel_rfl) rfl) (encs := riV) (L := (riL 0 cs).reverse) (fun _ => rfl)
    (fun W1 hb => falling_iter (w.heap.size + 3) b cs HD.out.2 HD.out.1.2.2.2.2 W1)
    (FiI w w.heap.size b i (fun m => i < (row (cs.take (cs.length - m))).length)) (fun c M m W1 => c = .ret ∧ FiX w w.heap.size i cs M W1) FiI.abd (fun c M M' m A B h hs hx => ⟨h.1, FiX.abd _ _ 0 _ _ h.2 hs hx⟩) HI0.out (rd_fall HD.out) ?round ?done ?stop)
  case done =>
    intro M' D W5 hI hD hDk hM'
    exfalso
    have := hI.2.2.2.2.2.2
    rw [List.length_reverse, riL_len, Nat.sub_self, List.take_zero] at this
    exact absurd this (Nat.not_lt_zero _)
  case stop =>
    rintro c' M' D m W5 hm ⟨rfl, A, c, ts, B, hA, ⟨j1, j1'⟩, ⟨j2, j2'⟩, j5, j6⟩ hD hDk hM'
    refine (wpIn_wide (n := 9)).2 ?_
    dsimp only
    clear HI0
    have e1 : W5.cell? ⟨w.heap.size + 1, 0, none⟩ = some (ptr c) := by rw [cell_of_row _ _ _ _ _ _ j1']; rfl
    have e2 : W5.cell? ⟨w.heap.size + 2, 0, none⟩ = some (.int .i64 (i - (row A).length : Nat)) := by rw [cell_of_row _ _ _ _ _ _ j2']; rfl
    have hD1 : D ≠ w.heap.size + 1 := fun e => j1 (e ▸ hD)
    have hD2 : D ≠ w.heap.size + 2 := fun e => j2 (e ▸ hD)
    go_wp2
    refine leave_mark hDk ?_
    have hl1 : ∀ k, k ≠ D → (W5.putObj D (.deferred none)).heap[k]? = W5.heap[k]? := fun k hk => World.putObj_heap_other hk
    have e1' : (W5.putObj D (.deferred none)).cell? ⟨w.heap.size + 1, 0, none⟩ = some (ptr c) := by rw [cell_of_row _ _ _ _ _ _ ((hl1 _ hD1.symm).trans j1')]; rfl
    have e2' : (W5.putObj D (.deferred none)).cell? ⟨w.heap.size + 1 + 1, 0, none⟩ = some (.int .i64 (i - (row A).length : Nat)) := by rw [cell_of_row _ _ _ _ _ _ ((hl1 _ hD2.symm).trans j2')]; rfl
    refine ⟨.tuple #[ptr c, .int .i64 (i - (row A).length : Nat)], results_cell2 rfl _ _ ⟨w.heap.size + 1, 0, none⟩ ⟨w.heap.size + 1 + 1, 0, none⟩ _ _ rfl rfl ?_ ?_, ⟨A, c, ts, B, hA, rfl⟩, j5.grown (grownBy_putObj' _ D _) j5.size (fun k e => by cases e; exact j6 D hD)⟩
    · go_simp
    · go_simp
  case round =>
    intro M' l' m x W1 hI hx hl hrec hM'
    obtain ⟨A, c, ts, B, hcs, hAl, rfl⟩ := riF_get hx
    have HI := keep hI
    have HM' := keep hM'
    clear hI hx hM' hrec HI0
    unfold riV
    gi_wp2
    refine ⟨Mk.refl _ _, fun rl => ?_⟩
    obtain ⟨W2, hW2⟩ : ∃ W2, W1.putObj l' (.loop rl) = W2 := ⟨_, rfl⟩
    rw [hW2]
    have hz2' : W2.heap.size = W1.heap.size := by rw [← hW2]; simp
    have hI2 := FiI.abd M' M' m W1 (W1.putObj l' (.loop rl)) HI.out (Sep.put _ _ hl) (Ext.refl _ _ _)
    rw [hW2] at hI2
    obtain ⟨⟨j1, j1'⟩, ⟨j2, j2'⟩, ⟨j3, j3'⟩, ⟨j4, j4'⟩, j5, j6, j7⟩ := hI2
    have ci : W2.cell? ⟨w.heap.size, 0, none⟩ = some (.int .i64 (i : Nat)) := by rw [cell_of_row _ _ _ _ _ _ j1']; rfl
    have hdq := HD.out.below j5
    rw [hcs] at hdq
    have cc := (ch_app.1 hdq.1.2.1).2.1.cells.2.2.1
    have hrl : (row A).length + ts.length ≤ 1048576 := by
      have := hdq.1.2.2.2.2
      rw [row_app, row_cons, List.length_append, List.length_append] at this
      dsimp only at this
      omega
    have hcl : cs.length = A.length + (m + 1) := by rw [hcs, List.length_append, List.length_cons, hAl]
    have etk : cs.take (cs.length - m) = A ++ [(c, ts)] := by rw [show cs.length - m = A.length + 1 by omega, hcs, List.take_length_add_append]; rfl
    have etk1 : cs.take (cs.length - (m + 1)) = A := by rw [show cs.length - (m + 1) = A.length by omega, hcs]; simp
    have e1 : (row (cs.take (cs.length - m))).length = (row A).length + ts.length := by rw [etk, row_app, row_cons, List.length_append]; simp [row]
    rw [e1] at j7
    have e1 : (row (cs.take (cs.length - (m + 1)))).length = (row A).length := by rw [etk1]
    obtain ⟨sA, hsA⟩ : ∃ x, x = (row A).length := ⟨_, rfl⟩
    obtain ⟨t, ht⟩ : ∃ x, x = ts.length := ⟨_, rfl⟩
    rw [← hsA, ← ht] at hrl j7
    rw [← hsA] at e1
    rw [← hsA]
    rw [← ht] at cc
    have hs1 : (sA : Int) + (t : Int) ≤ 1048576 := by omega
    have HSA := keep hsA
    have HTT := keep ht
    have HCS := keep hcs
    clear hsA ht hcs etk etk1 hcl
    by_cases hlt : sA ≤ i
    · have hz : (sA : Int) ≤ (i : Int) := by omega
      obtain ⟨p, hp⟩ : ∃ p, p = i - sA := ⟨_, rfl⟩
      have k2 : W2.drew.cell? ⟨w.heap.size + 1, 0, none⟩ = some nul := by show W2.cell? _ = _; rw [cell_of_row _ _ _ _ _ _ j2']; rfl
      have k3' : W2.cell? ⟨w.heap.size + 1 + 1, 0, none⟩ = some (.int .i64 0) := by rw [cell_of_row _ _ _ _ _ _ j3']; rfl
      have z2 : W2.drew.frozen? ⟨w.heap.size + 1, 0, none⟩ = false := by show W2.frozen? _ = _; simp [World.frozen?, j2']
      have z3' : W2.frozen? ⟨w.heap.size + 1 + 1, 0, none⟩ = false := by simp [World.frozen?, j3']
      have wr2 : IntKind.i64.wrap ((i : Int) - (sA : Int)) = (p : Int) := by rw [IntKind.wrap_i64]; omega
      have HP := keep hp
      clear hp
      gi_wp2_with fail
      refine region_round2 (S := fun W => W.cell? ⟨w.heap.size, 0, none⟩ = some (.int .i64 (i : Nat))) (by kernel_rfl) (by kernel_rfl) ci (fun hHeld => ?_)
      refine wpAnyH_take (i := 0) (oi := { dst := some 48, op := _, type := _, pos := _, after := _, guard := _ }) (v := ?v1) rfl (by kernel_rfl) (by kernel_rfl) (by kernel_rfl) (fun _ _ _ h => h) (Or.inl ⟨by rfl, ?hy1⟩) (by assumption) ?rest1
      case hy1 => (intro w hSw; obtain p0 := hSw; go_simp; try with_reducible rfl)
      try simp only [Act.put, List.setIfInBounds_toArray, List.set_cons_zero, List.set_cons_succ]
      refine wpAnyH_take (i := 1) (oi := { dst := some 49, op := _, type := _, pos := _, after := _, guard := _ }) (v := ?v2) rfl (by kernel_rfl) (by kernel_rfl) (by kernel_rfl) (fun _ _ _ h => h) (Or.inl ⟨by rfl, ?hy2⟩) (by assumption) ?rest2
      case hy2 => (intro w hSw; obtain p0 := hSw; go_simp; try with_reducible rfl)
      try simp only [Act.put, List.setIfInBounds_toArray, List.set_cons_zero, List.set_cons_succ]
      refine wpAnyH_take (i := 2) (oi := { dst := some 50, op := _, type := _, pos := _, after := _, guard := _ }) (v := ?v3) rfl (by kernel_rfl) (by kernel_rfl) (by kernel_rfl) (fun _ _ _ h => h) (Or.inl ⟨by rfl, ?hy3⟩) (by assumption) ?rest3
      case hy3 => (intro w hSw; obtain p0 := hSw; go_simp; try with_reducible rfl)
      try simp only [Act.put, List.setIfInBounds_toArray, List.set_cons_zero, List.set_cons_succ]
      refine wpAnyH_take (i := 3) (oi := { dst := some 51, op := _, type := _, pos := _, after := _, guard := _ }) (v := (.int .i64 (p : Int))) rfl (by kernel_rfl) (by kernel_rfl) (by kernel_rfl) (fun _ _ _ h => h) (Or.inl ⟨by rfl, ?hy4⟩) (by assumption) ?rest4
      case hy4 => (intro w hSw; obtain p0 := hSw; first | (go_simp; done) | (go_simp; simp [*]; done) | (simp [*]; go_simp; done))
      try simp only [Act.put, List.setIfInBounds_toArray, List.set_cons_zero, List.set_cons_succ]
      refine wpAnyH_ready (rs := [4]) (by kernel_rfl) (by simp) ?_
      refine AllReadyH.cons (o := { dst := none, op := _, type := _, pos := _, after := _, guard := _ }) rfl (fun K hK => ?_) AllReadyH.nil
      go_simp
      refine hK.out _ _ (by show (World.setCell _ _ _).cell? _ = _; rw [World.cell?_setCell_other _ _ _ _ (by simp)]; exact ci) (fun hHeld => ?_)
      try simp only [Act.put, List.setIfInBounds_toArray, List.set_cons_zero, List.set_cons_succ]
      clear hK
      refine wpAnyH_ready (rs := [5]) (by kernel_rfl) (by simp) ?_
      refine AllReadyH.cons (o := { dst := none, op := _, type := _, pos := _, after := _, guard := _ }) rfl (fun K hK => ?_) AllReadyH.nil
      go_simp
      refine hK.out _ _ (by show ((World.setCell _ _ _).setCell _ _).cell? _ = _; rw [World.cell?_setCell_other _ _ _ _ (by simp), World.cell?_setCell_other _ _ _ _ (by simp)]; exact ci) (fun hHeld => ?_)
      try simp only [Act.put, List.setIfInBounds_toArray, List.set_cons_zero, List.set_cons_succ]
      clear hK
      refine wpAnyH_done (by kernel_rfl) ?_ _
      simp only [noOut]
      clear hHeld
      have FIN := keep (fi_put (w := w) (Bi := w.heap.size) (i := i) (p := p) ⟨HCS.out, by rw [← HSA.out]; exact hlt, by rw [← HSA.out, ← HTT.out]; exact j7⟩ (by rw [← HSA.out]; exact HP.out) (Nat.le_refl _) j2 j2' j3 j3' j5 j6)
      gi_wp2
      exact ⟨FIN.out.1, rfl, FIN.out.2.undrew⟩
    · have hz : ¬ (sA : Int) ≤ (i : Int) := by omega
      have fin : Kept (FiI w w.heap.size b i (fun m => i < (row (cs.take (cs.length - m))).length) M' (m + 1) W2) := ⟨⟨j1, j1'⟩, ⟨j2, j2'⟩, ⟨j3, j3'⟩, ⟨j4, j4'⟩, j5, j6, by show i < _; rw [e1]; omega⟩
      gi_wp2
      exact ⟨Mk.refl _ _, fin.out⟩
/-- find at a place of the row -/
theorem find_in (w : World) (b : Nat) (cs : List Chk) (i : Nat) (hd : Dq w b cs) (hi : i < (row cs).length) :
    Calls Tryz.prog 137 #[ptr b, .int .i64 i] w fun e w' => (∃ A c ts B, At cs i A c ts B ∧ e = .returned (.tuple #[ptr c, .int .i64 (i - (row A).length : Nat)])) ∧ Below w.heap.size w w' := by
  by_cases h : i < (row cs).length / 2
  · exact find_near w b cs i hd h
  · exact find_far w b cs i hd h hi
end Go.Proofs.YtijclcedjgniaaaGreat.DQ

namespace Go.Proofs.YtijclcedjgniaaaGreat.DQ
open Go.RowKit Go.Shelf
set_option linter.unusedVariables false
/-- find, where there is no such place: bv the deque, or none -/
def w3i (w : World) (i : Int) : World := ((w.alloc (.cells #[.int .i64 i] 3)).alloc (.cells #[nul] 160)).alloc (.cells #[.int .i64 0] 3)
theorem w3i_below (w : World) (i : Int) : Below w.heap.size w (w3i w i) := (((Below.refl _ w).alloc (Nat.le_refl _) _).alloc (by simp) _).alloc (by simp; omega) _
theorem w3i_0 (w : World) (i : Int) : (w3i w i).heap[w.heap.size]? = some (.cells #[.int .i64 i] 3 (0, 0)) := by
  unfold w3i
  rw [Below.heap_alloc _ _ _ (by simp; omega), Below.heap_alloc _ _ _ (by simp)]
  exact heap_alloc_new _ _
theorem w3i_1 (w : World) (i : Int) : (w3i w i).heap[w.heap.size + 1]? = some (.cells #[nul] 160 (0, 0)) := by
  unfold w3i
  rw [Below.heap_alloc _ _ _ (by simp)]
  have := heap_alloc_new (w.alloc (.cells #[.int .i64 i] 3)) (.cells #[nul] 160)
  rwa [World.size_alloc] at this
theorem w3i_2 (w : World) (i : Int) : (w3i w i).heap[w.heap.size + 2]? = some (.cells #[.int .i64 0] 3 (0, 0)) := by
  unfold w3i
  have := heap_alloc_new ((w.alloc (.cells #[.int .i64 i] 3)).alloc (.cells #[nul] 160)) (.cells #[.int .i64 0] 3)
  rwa [World.size_alloc, World.size_alloc] at this
set_option maxRecDepth 100000 in
set_option maxHeartbeats 4000000 in
theorem find_out (w : World) (bv : Value) (N : Nat) (i : Int) (hN : N ≤ 1048576) (hL : ∀ w1, Below w.heap.size w w1 → Calls Tryz.prog 78 #[bv] w1 fun e w' => e = .returned (.int .i64 (N : Nat)) ∧ w' = w1) (hi : i < 0 ∨ (N : Int) ≤ i) :
    Calls Tryz.prog 137 #[bv, .int .i64 i] w fun e w' => e = .returned (.tuple #[nul, .int .i64 0]) ∧ Below w.heap.size w w' := by
  have c0 : (w3i w i).cell? ⟨w.heap.size, 0, none⟩ = some (.int .i64 i) := by rw [cell_of_row _ _ _ _ _ _ (w3i_0 w i)]; rfl
  have ML := keep fun q => hL ((w3i w i).drewN q) ((w3i_below w i).trans ((below_dr _ q).mono (w3i_below w i).size))
  have HB := keep (w3i_below w i)
  have h1 := w3i_1 w i
  have h2 := w3i_2 w i
  have hi2 : decide (i < 0) = true ∨ (decide (i < 0) = false ∧ decide ((N : Int) ≤ i) = true) := by
    simp only [decide_eq_true_eq, decide_eq_false_iff_not]; omega
  obtain ⟨W3, hW3⟩ : ∃ x, w3i w i = x := ⟨_, rfl⟩
  rw [hW3] at c0 ML HB h1 h2
  have hW3' := hW3
  unfold w3i at hW3'
  have k1 : W3.cell? ⟨w.heap.size + 1, 0, none⟩ = some nul := by rw [cell_of_row _ _ _ _ _ _ h1]; rfl
  have k2 : W3.cell? ⟨w.heap.size + 1 + 1, 0, none⟩ = some (.int .i64 0) := by rw [cell_of_row _ _ _ _ _ _ h2]; rfl
  have z1 : W3.frozen? ⟨w.heap.size + 1, 0, none⟩ = false := by simp [World.frozen?, h1]
  have z2 : W3.frozen? ⟨w.heap.size + 1 + 1, 0, none⟩ = false := by simp [World.frozen?, h2]
  have H1 := keep h1
  have H2 := keep h2
  clear hL hi hW3 h1 h2
  rcases hi2 with a1 | ⟨a1, a2⟩
  · refine callsIn_wide (n := 9) |>.1 (callsIn_of_wp_marks Tryz.func137 rfl trivial (wpIn_wide.2 ?_) rfl)
    simp only [Tryz.ntmps137, List.size_toArray, List.length_cons, List.length_nil, Nat.reduceAdd, Nat.reduceSub, Array.replicate_succ, Array.replicate_zero, List.push_toArray, List.append_toArray, List.nil_append, List.cons_append]
    go_wp2_with fail
    clear hW3'
    go_quiet (first | (go_at_call 78; refine Calls.quiet_of_same (ML.out _)))
    go_wp2
    have g1 : ((W3.setCell ⟨w.heap.size + 1, 0, none⟩ nul).setCell ⟨w.heap.size + 1 + 1, 0, none⟩ (.int .i64 0)).cell? ⟨w.heap.size + 1, 0, none⟩ = some nul := by
      rw [World.cell?_setCell_other _ _ _ _ (by simp)]; exact World.cell?_setCell_same _ _ _ k1
    have g2 : ((W3.setCell ⟨w.heap.size + 1, 0, none⟩ nul).setCell ⟨w.heap.size + 1 + 1, 0, none⟩ (.int .i64 0)).cell? ⟨w.heap.size + 1 + 1, 0, none⟩ = some (.int .i64 0) :=
      World.cell?_setCell_same _ _ (u := .int .i64 0) _ (by rw [World.cell?_setCell_other _ _ _ _ (by simp)]; exact k2)
    refine ⟨.tuple #[nul, .int .i64 0], results_cell2 rfl _ _ ⟨w.heap.size + 1, 0, none⟩ ⟨w.heap.size + 1 + 1, 0, none⟩ _ _ rfl rfl ?_ ?_, rfl, ?_⟩
    · go_simp
    · go_simp
    · exact (((HB.out.trans ((below_dr W3 nq).mono HB.out.size)).setCell (p := ⟨w.heap.size + 1, 0, none⟩) (by show w.heap.size ≤ w.heap.size + 1; omega) _).setCell (p := ⟨w.heap.size + 1 + 1, 0, none⟩) (by show w.heap.size ≤ w.heap.size + 1 + 1; omega) _)
  · refine callsIn_wide (n := 9) |>.1 (callsIn_of_wp_marks Tryz.func137 rfl trivial (wpIn_wide.2 ?_) rfl)
    simp only [Tryz.ntmps137, List.size_toArray, List.length_cons, List.length_nil, Nat.reduceAdd, Nat.reduceSub, Array.replicate_succ, Array.replicate_zero, List.push_toArray, List.append_toArray, List.nil_append, List.cons_append]
    go_wp2_with fail
    clear hW3'
    go_quiet (first | (go_at_call 78; refine Calls.quiet_of_same (ML.out _)))
    go_wp2
    have g1 : ((W3.setCell ⟨w.heap.size + 1, 0, none⟩ nul).setCell ⟨w.heap.size + 1 + 1, 0, none⟩ (.int .i64 0)).cell? ⟨w.heap.size + 1, 0, none⟩ = some nul := by
      rw [World.cell?_setCell_other _ _ _ _ (by simp)]; exact World.cell?_setCell_same _ _ _ k1
    have g2 : ((W3.setCell ⟨w.heap.size + 1, 0, none⟩ nul).setCell ⟨w.heap.size + 1 + 1, 0, none⟩ (.int .i64 0)).cell? ⟨w.heap.size + 1 + 1, 0, none⟩ = some (.int .i64 0) :=
      World.cell?_setCell_same _ _ (u := .int .i64 0) _ (by rw [World.cell?_setCell_other _ _ _ _ (by simp)]; exact k2)
    refine ⟨.tuple #[nul, .int .i64 0], results_cell2 rfl _ _ ⟨w.heap.size + 1, 0, none⟩ ⟨w.heap.size + 1 + 1, 0, none⟩ _ _ rfl rfl ?_ ?_, rfl, ?_⟩
    · go_simp
    · go_simp
    · exact (((HB.out.trans ((below_dr W3 nq).mono HB.out.size)).setCell (p := ⟨w.heap.size + 1, 0, none⟩) (by show w.heap.size ≤ w.heap.size + 1; omega) _).setCell (p := ⟨w.heap.size + 1 + 1, 0, none⟩) (by show w.heap.size ≤ w.heap.size + 1 + 1; omega) _)
theorem len_out (w : World) (b : Nat) (cs : List Chk) (hd : Dq w b cs) : ∀ w1, Below w.heap.size w w1 → Calls Tryz.prog 78 #[ptr b] w1 fun e w' => e = .returned (.int .i64 ((row cs).length : Nat)) ∧ w' = w1 :=
  fun w1 hb => len_any w1 b _ _ _ _ (hd.below hb).1.1
set_option maxRecDepth 100000 in
set_option maxHeartbeats 1000000 in
theorem at_in (w : World) (b : Nat) (cs : List Chk) (i : Nat) (hd : Dq w b cs) (s : ByteArray) (hs : (row cs)[i]? = some s) :
    Calls Tryz.prog 79 #[ptr b, .int .i64 i] w fun e w' => e = .returned (.tuple #[.string s, .bool true]) ∧ Below w.heap.size w w' := by
  have MF := keep (find_in w b cs i hd (List.getElem?_eq_some_iff.1 hs).1)
  have HD := keep hd
  have HS := keep hs
  clear hd hs
  go_enter Tryz.func79, Tryz.ntmps79
  go_wp2_with fail
  refine MF.out.mono ?_
  rintro _ w1 ⟨⟨A, c, ts, B, hA, rfl⟩, hb⟩
  have hs := HS.out
  obtain ⟨h1, h2, h3⟩ := hA
  have hd := HD.out.below hb
  subst h1
  rw [row_app, row_cons, List.getElem?_append_right h2, List.getElem?_append_left (by dsimp only; omega)] at hs
  have ck := (ch_app.1 hd.1.2.1).2.1
  have cl := ck.cells.2.2.2.1 _ _ hs
  have hp : i - (row A).length < ts.length := by omega
  have hle : ts.length ≤ 32 := ck.le
  generalize i - (row A).length = p at *
  have p0 : (0 : Int) ≤ (p : Int) := by omega
  have p1 : (p : Int) < 32 := by omega
  have HB := keep hb
  clear hb hd ck h2 h3 hs MF HD HS hle
  go_wp2
  go_ret2
  exact ⟨rfl, HB.out⟩
set_option maxRecDepth 100000 in
set_option maxHeartbeats 1000000 in
theorem at_out (w : World) (bv : Value) (N : Nat) (i : Int) (hN : N ≤ 1048576) (hL : ∀ w1, Below w.heap.size w w1 → Calls Tryz.prog 78 #[bv] w1 fun e w' => e = .returned (.int .i64 (N : Nat)) ∧ w' = w1) (hi : i < 0 ∨ (N : Int) ≤ i) :
    Calls Tryz.prog 79 #[bv, .int .i64 i] w fun e w' => e = .returned (.tuple #[.string .empty, .bool false]) ∧ Below w.heap.size w w' := by
  have MF := keep (find_out w bv N i hN hL hi)
  clear hL hi
  go_enter Tryz.func79, Tryz.ntmps79
  go_wp2_with fail
  refine MF.out.mono ?_
  rintro _ w1 ⟨rfl, hb⟩
  have HB := keep hb
  clear hb
  go_wp2
  go_ret2
  exact ⟨rfl, HB.out⟩
end Go.Proofs.YtijclcedjgniaaaGreat.DQ
