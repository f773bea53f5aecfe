/-
  Contracts over this program: Chunks tells how many texts each chunk has, in a row of its own.
-/
import Derived.Test.YtlfkdohajfkhdaaDqFind1
import Derived.Test.YtlfkdohajfkhdaaRounds
import Derived.RangeFuncCalls
import Derived.Shelf.RegionOpen
import Derived.Laws.MakeOwn
namespace Go.Proofs.Ytlfkdohajfkhdaa
open Go.RowKit Go.Shelf
attribute [local go_sem] Oper.semAt_some
set_option linter.unusedVariables false
theorem own_kept {w w' : World} {B e s : Nat} {v : Value} {n : Nat} {xs : List Value} (h : w.ownsRow B e s v n xs) (hk : ∀ k, v.ownBlock = some k → w'.heap[k]? = w.heap[k]?) : w'.ownsRow B e s v n xs := by
  refine ⟨h.1, ?_⟩
  rcases h.2 with hn | ⟨g, cap, cur, rfl, hb, hgg, rest⟩
  · exact .inl hn
  · exact .inr ⟨g, cap, cur, rfl, hb, by rw [hk g rfl]; exact hgg, rest⟩
theorem own_lt {w : World} {B e s : Nat} {v : Value} {n : Nat} {xs : List Value} (h : w.ownsRow B e s v n xs) {k : Nat} (hk : v.ownBlock = some k) : k < w.heap.size := (h.lt k hk).2
theorem own_form {w : World} {B e s : Nat} {v : Value} {n : Nat} {xs : List Value} (h : w.ownsRow B e s v n xs) : ∃ ao cp, v = .slice ao n cp ∧ (n = 0 ∨ ∃ g, ao = some ⟨g, 0, none⟩ ∧ g < w.heap.size) := by
  rcases h.2 with ⟨rfl, h0⟩ | ⟨g, cap, cur, rfl, _, hg, _⟩
  · exact ⟨none, 0, by rw [h0], .inl h0⟩
  · exact ⟨_, _, rfl, .inr ⟨g, rfl, (Array.getElem?_eq_some_iff.1 hg).1⟩⟩
theorem parts_of {P : Program} {t : TypeId} {z : Value} {s b : Nat} (h : (P.info? t).map (fun i => (i.zero, i.size, i.bytes)) = some (some z, s, b)) : ∃ i, P.info? t = some i ∧ i.zero = some z ∧ i.size = s ∧ i.bytes = b := by
  cases e : P.info? t with
  | none => rw [e] at h; cases h
  | some i =>
    rw [e] at h
    simp only [Option.map_some, Option.some.injEq, Prod.mk.injEq] at h
    exact ⟨i, rfl, h.1, h.2.1, h.2.2⟩
theorem info_intC : (Try.prog.info? 3).map (fun i => (i.zero, i.size, i.bytes)) = some (some (.int .i64 0), 1, 8) := by kernel_rfl
theorem info_strC : (Try.prog.info? 9).map (fun i => (i.zero, i.size, i.bytes)) = some (some (.string .empty), 1, 16) := by kernel_rfl
theorem wp_app_run {P : Program} {w w' : World} {o : Oper} {a : Act} {K : Act → World → Prop} {Q : Exit → Act → World → Prop} (s x : Operand) (t : TypeId)
    (hop : o.op = Op.call { callee := Callee.builtin Builtin.append, args := #[s, x], argTypes := #[t, t] }) (v v2 v' : Value) (hs : a.eval s = v) (hx : a.eval x = v2)
    (hrun : (Builtin.append_ #[t, t] o.type #[v, v2]).run P w = .ok v' w') (hK : K (a.put o.dst v') w') : o.wp P a w K Q := by
  unfold Oper.wp
  simp [execOp, hop, resolve, invoke, builtin, hs, hx, hrun, Result.andThen]
  exact hK
/-- how many texts each has -/
def cnts (cs : List Chk) : List Value := cs.map fun x => .int .i64 ((x.2.length : Nat) : Int)
theorem cnts_len (cs : List Chk) : (cnts cs).length = cs.length := by unfold cnts; simp
/-- while the chunks come; H: the box of the row, Bd: the box of the deque -/
def ChI (W : World) (H Bd b : Nat) (cs : List Chk) (M : Nat → Prop) (m : Nat) (w : World) : Prop :=
  (∃ v, (¬ M H ∧ w.heap[H]? = some (.cells #[v] 54 (0, 0))) ∧ w.ownsRow W.heap.size 3 1 v m (cnts (cs.take m)) ∧ ∀ k, v.ownBlock = some k → ¬ M k ∧ k ≠ H ∧ k ≠ Bd) ∧
    (¬ M Bd ∧ w.heap[Bd]? = some (.cells #[ptr b] 23 (0, 0))) ∧ Below W.heap.size W w ∧ ∀ k, M k → W.heap.size ≤ k
theorem ChI.abd {W : World} {H Bd b : Nat} {cs : List Chk} : Abd (ChI W H Bd b cs) := by
  rintro M M' m A B ⟨⟨v, ⟨h1, h1'⟩, h2, h3⟩, ⟨h4, h4'⟩, h5, h6⟩ hs hx
  refine ⟨⟨v, keepB hs hx _ _ h1 h1', own_kept h2 (fun k hk => hs.2.2 k (own_lt h2 hk) (h3 k hk).1), fun k hk => ⟨hx.lt (own_lt h2 hk) (h3 k hk).1, (h3 k hk).2⟩⟩, keepB hs hx _ _ h4 h4', h5.trans (hs.below h5.size h6), hx.ge h5.size h6⟩
theorem rd_of {w : World} {Bd b : Nat} {cs : List Chk} {m : Nat} {W1 : World} (hd : Dq w b cs) (h4 : W1.heap[Bd]? = some (.cells #[ptr b] 23 (0, 0))) (h5 : Below w.heap.size w W1) : RdR Bd b cs m W1 := by
  have hd1 := hd.below h5
  refine ⟨by rw [cell_of_row _ _ _ _ _ _ h4]; rfl, fun _ => hd1.1.1.four.1, fun A c ts B e _ => ?_⟩
  subst e
  have := (ch_app.1 hd1.1.2.1).2.1.cells
  exact ⟨this.2.1, this.2.2.1⟩
theorem cs_len {cs : List Chk} (hne : ∀ x ∈ cs, 1 ≤ x.2.length) : cs.length ≤ (row cs).length := by
  induction cs with
  | nil => simp
  | cons x r ih =>
    rw [row_cons, List.length_append, List.length_cons]
    have := hne x (by simp)
    have := ih (fun y hy => hne y (by simp [hy]))
    omega
set_option maxRecDepth 100000 in
set_option maxHeartbeats 2000000 in
theorem chunks_any (w : World) (b : Nat) (cs : List Chk) (hd : Dq w b cs) :
    Calls Try.prog 29 #[ptr b] w fun e w' => (∃ v, e = .returned v ∧ w'.ownsRow w.heap.size 3 1 v cs.length (cnts cs)) ∧ Below w.heap.size w w' := by
  have hcl : cs.length ≤ 1048576 := Nat.le_trans (cs_len hd.2) hd.1.2.2.2.2
  have HD := keep hd
  clear hd
  refine callsIn_wide (n := 9) |>.1 (callsIn_of_wp_marks Try.func29 rfl trivial (wpIn_wide.2 ?_) rfl)
  simp only [Try.ntmps29, List.size_toArray, List.length_cons, List.length_nil, Nat.reduceAdd, Nat.reduceSub, Array.replicate_succ, Array.replicate_zero, List.push_toArray, List.append_toArray, List.nil_append, List.cons_append]
  go_wp2_with fail
  refine (rising_any _ b).mono ?_
  rintro _ w2 ⟨rfl, hw2⟩
  have hz2 : w2.heap.size = w.heap.size + 2 := by rw [hw2]; simp
  have hb2 : Below w.heap.size w w2 := by rw [hw2]; exact ((Below.refl _ w).alloc (Nat.le_refl _) _).alloc (by simp) _
  have h2H : w2.heap[w.heap.size]? = some (.cells #[.slice none 0 0] 54 (0, 0)) := by rw [hw2, Below.heap_alloc _ _ _ (by simp)]; exact heap_alloc_new _ _
  have h2B : w2.heap[w.heap.size + 1]? = some (.cells #[ptr b] 23 (0, 0)) := by
    rw [hw2]
    have := heap_alloc_new (w.alloc (.cells #[.slice none 0 0] 54)) (.cells #[ptr b] 23)
    rwa [World.size_alloc] at this
  have HI0 : Kept (ChI w w.heap.size (w.heap.size + 1) b cs (fun _ => False) 0 w2) :=
    ⟨⟨.slice none 0 0, ⟨id, h2H⟩, ⟨rfl, .inl ⟨rfl, rfl⟩⟩, fun k hk => by cases hk⟩, ⟨id, h2B⟩, hb2, fun _ h => h.elim⟩
  have e3 : (w.alloc (.cells #[.slice none 0 0] 54)).heap.size = w.heap.size + 1 := by simp
  rw [e3]
  clear hw2 hb2 h2H h2B e3
  go_wp2
  obtain ⟨i0, hi0, hz0, hz1, hzb⟩ := parts_of info_intC
  refine (wpIn_wide (n := 9)).1 (range_own (α := Nat × Nat) (gf := 56) (lb := #[.pointer (some ⟨w.heap.size + 1, 0, none⟩)]) (by simp [Act.eval]) (enters_of Try.func56 (by kernel_rfl) rfl) (encs := riV) (L := riL 0 cs) (fun _ => rfl)
    (fun W1 hb => rising_iter (w.heap.size + 1) b cs HD.out.2 HD.out.1.2.2.2.2 W1)
    (ChI w w.heap.size (w.heap.size + 1) b cs) (fun _ _ _ _ => False) ChI.abd (fun _ _ _ _ _ _ h _ _ => h) HI0.out (fun M m W1 h => rd_of HD.out h.2.1.2 h.2.2.1) ?round ?done ?stop)
  case stop => exact fun _ _ _ _ _ _ h => h.elim
  case done =>
    intro M' D W5 hI hD hDk hM'
    rw [riL_len] at hI
    obtain ⟨⟨v, ⟨j1, j1'⟩, j2, j3⟩, ⟨j4, j4'⟩, j5, j6⟩ := hI
    rw [List.take_length] at j2
    have c5 : W5.cell? ⟨w.heap.size, 0, none⟩ = some v := by rw [cell_of_row _ _ _ _ _ _ j1']; rfl
    obtain ⟨ao, cp, rfl, _⟩ := own_form j2
    have J2 := keep j2
    have J5 := keep j5
    have HDK := keep hDk
    have hDW := j6 D hD
    have J3 := keep j3
    clear j1 j1' j2 j3 j4 j4' j5 j6 hDk hM' HI0
    go_wp2
    refine leave_mark HDK.out ?_
    refine ⟨_, results_tmp rfl _ _ _, ⟨.slice ao cs.length cp, rfl, own_kept J2.out (fun k hk => World.putObj_heap_other (fun e => (J3.out k hk).1 (e ▸ hD)))⟩, J5.out.grown (grownBy_putObj' _ D _) J5.out.size (fun k e => by cases e; exact hDW)⟩
  case round =>
    intro M' l' m x W1 hI hx hl hrec hM'
    obtain ⟨A, c, ts, B, hcs, hAl, rfl⟩ := riL_get hx
    have HI := keep hI
    have HM' := keep hM'
    clear hI hx hM' hrec HI0
    unfold riV
    gi_wp2
    refine ⟨Mk.refl _ _, fun rl => ?_⟩
    obtain ⟨W2, hW2⟩ : ∃ W2, W1.putObj l' (.loop rl) = W2 := ⟨_, rfl⟩
    rw [hW2]
    have hz2' : W2.heap.size = W1.heap.size := by rw [← hW2]; simp
    have hI2 := ChI.abd M' M' m W1 (W1.putObj l' (.loop rl)) HI.out (Sep.put _ _ hl) (Ext.refl _ _ _)
    rw [hW2] at hI2
    obtain ⟨⟨v, ⟨j1, j1'⟩, j2, j3⟩, ⟨j4, j4'⟩, j5, j6⟩ := hI2
    have hml : m < cs.length := by rw [hcs, List.length_append, List.length_cons]; omega
    obtain ⟨ao, cp, rfl, _⟩ := own_form j2
    have hdq := HD.out.below j5
    rw [hcs] at hdq
    have cc := (ch_app.1 hdq.1.2.1).2.1.cells.2.2.1
    have hHl : w.heap.size < W2.heap.size := (Array.getElem?_eq_some_iff.1 j1').1
    have hBl2 : w.heap.size + 1 < W2.heap.size := (Array.getElem?_eq_some_iff.1 j4').1
    have cH : W2.cell? ⟨w.heap.size, 0, none⟩ = some (.slice ao m cp) := by rw [cell_of_row _ _ _ _ _ _ j1']; rfl
    obtain ⟨t, ht⟩ : ∃ x, x = ts.length := ⟨_, rfl⟩
    rw [← ht] at cc
    have etk1 : cnts (cs.take (m + 1)) = cnts (cs.take m) ++ [.int .i64 (t : Int)] := by
      rw [hcs, ← hAl, List.take_length_add_append, ht]
      unfold cnts
      simp
    have HTK := keep etk1
    have j2d : W2.drew.ownsRow w.heap.size 3 1 (.slice ao m cp) m (cnts (cs.take m)) := j2
    obtain ⟨g, cap, W3, hrun, hown, hgr, hat, hg3⟩ := run_append_lies (P := Try.prog) (w := W2.drew.alloc (.cells #[.int .i64 (t : Int)] 3)) 54 54 w.heap.size 3 i0 _ 1 8 Try.underlying54 hi0 hz0 hz1 hzb rfl (by omega) (.slice ao m cp) m (cnts (cs.take m)) (j2d.alloc _) ⟨W2.heap.size, 0, none⟩ 1 1 [.int .i64 (t : Int)] rfl (World.news_of_block (cs := #[.int .i64 (t : Int)]) (t := 3) (fr := (0, 0)) (heap_alloc_new W2.drew _)) (by simp [Value.oneCell']) (by omega) (by unfold maxLen; omega) (by omega) (by show w.heap.size ≤ (W2.alloc _).heap.size; simp; omega) (W2.heap.size + 1) (by show (W2.alloc _).heap.size = _; simp)
    have MA := keep hrun
    have e3 : (W2.drew.alloc (.cells #[.int .i64 (t : Int)] 3)).heap.size = W2.heap.size + 1 := by show (W2.alloc _).heap.size = _; simp
    have hs3 : W2.heap.size + 1 ≤ W3.heap.size := by have h0 := hgr.size; rw [e3] at h0; exact h0
    have same : ∀ k, k < W2.heap.size → (Value.slice ao m cp).ownBlock ≠ some k → W3.heap[k]? = W2.heap[k]? := fun k hk hn => by
      rw [hgr.block k (by show k < (W2.alloc _).heap.size; simp; omega) (fun e => hn e.symm)]
      exact Below.heap_alloc W2 _ _ hk
    have h3H : W3.heap[w.heap.size]? = some (.cells #[.slice ao m cp] 54 (0, 0)) := (same _ hHl (fun e => (j3 _ e).2.1 rfl)).trans j1'
    have c3H : W3.cell? ⟨w.heap.size, 0, none⟩ = some (.slice ao m cp) := by rw [cell_of_row _ _ _ _ _ _ h3H]; rfl
    have f3H : W3.frozen? ⟨w.heap.size, 0, none⟩ = false := by simp [World.frozen?, h3H]
    have fin : Kept (rdPost (ChI w w.heap.size (w.heap.size + 1) b cs) (fun _ _ _ _ => False) M' (m + 1) W2 .normal { tmps := #[], defers := [] } (W3.setCell ⟨w.heap.size, 0, none⟩ (.slice (some ⟨g, 0, none⟩) (m + 1) cap))) := by
      have hgW : g ≠ w.heap.size := fun e => by
        rcases hat with h | h
        · exact (j3 _ h).2.1 e
        · omega
      have hgB : g ≠ w.heap.size + 1 := fun e => by
        rcases hat with h | h
        · exact (j3 _ h).2.2 e
        · omega
      have hgM : ¬ M' g := fun e => by
        rcases hat with h | h
        · exact (j3 _ h).1 e
        · have := HM'.out g e; omega
      have sameS : ∀ k, k ≠ w.heap.size → (W3.setCell ⟨w.heap.size, 0, none⟩ (.slice (some ⟨g, 0, none⟩) (m + 1) cap)).heap[k]? = W3.heap[k]? := fun k hk => Below.heap_setCell _ _ _ _ hk
      have hss : (W3.setCell ⟨w.heap.size, 0, none⟩ (.slice (some ⟨g, 0, none⟩) (m + 1) cap)).heap.size = W3.heap.size := by simp [World.setCell]
      refine ⟨⟨by rw [hss]; omega, fun k hk => ?_⟩, ⟨_, ⟨j1, cells_setCell h3H⟩, ?_, fun k hk => ?_⟩, ⟨j4, ?_⟩, ?_, j6⟩
      · have hkb := HM'.out k hk
        rw [sameS k (fun e => j1 (e ▸ hk)), same k (by omega) (fun e => (j3 k e).1 hk)]
      · rw [HTK.out]
        exact own_kept hown (fun k hk => by cases hk; exact sameS g hgW)
      · cases hk
        exact ⟨hgM, hgW, hgB⟩
      · rw [sameS _ (by omega), same _ hBl2 (fun e => (j3 _ e).2.2 rfl)]
        exact j4'
      · refine j5.trans ⟨hgr.os, hgr.tape, hgr.output, by rw [hss]; omega, fun k hk => ?_⟩
        rw [sameS k (by omega), same k (by omega) (fun e => ?_)]
        have := (j2.lt k e).1
        omega
    have C3 : Kept (W3.cell? ⟨c, 2, none⟩ = some (.int .i64 (t : Nat))) := by
      refine (World.cell?_of_block (same c (lt_cell cc) (fun e => ?_))).trans cc
      have h1 := (j2.lt c e).1
      have h2 := HD.out.1.lt (k := c) (.inr ⟨(c, ts), by rw [hcs]; simp, rfl⟩)
      omega
    clear hrun hown hgr hat same h3H j1 j1' j2 j3 j4 j4' j5 j6 hW2 hz2' j2d
    have HT := keep ht
    have ba : Below W2.heap.size W2 (W2.alloc (.cells #[.int .i64 (t : Int)] 3)) := (Below.refl _ _).alloc (Nat.le_refl _) _
    have SH4 : Kept ((W2.alloc (.cells #[.int .i64 (t : Int)] 3)).drew.cell? ⟨w.heap.size, 0, none⟩ = some (.slice ao m cp) ∧ (W2.alloc (.cells #[.int .i64 (t : Int)] 3)).drew.cell? ⟨c, 2, none⟩ = some (.int .i64 (t : Nat))) :=
      ⟨(ba.cell (p := ⟨w.heap.size, 0, none⟩) hHl).trans cH, (ba.cell (p := ⟨c, 2, none⟩) (lt_cell cc)).trans cc⟩
    have C4 : Kept ((W3.setCell ⟨w.heap.size, 0, none⟩ (.slice (some ⟨g, 0, none⟩) (m + 1) cap)).cell? ⟨c, 2, none⟩ = some (.int .i64 (t : Nat))) := by
      have h2 := HD.out.1.lt (k := c) (.inr ⟨(c, ts), by rw [hcs]; simp, rfl⟩)
      show (World.setCell _ _ _).cell? _ = _
      rw [World.cell?_setCell_other _ _ _ _ (by intro e; cases e)]
      exact C3.out
    have SH5 : Kept (W3.cell? ⟨w.heap.size, 0, none⟩ = some (.slice ao m cp) ∧ W3.cell? ⟨c, 2, none⟩ = some (.int .i64 (t : Nat))) := ⟨c3H, C3.out⟩
    clear ht etk1 ba hdq
    gi_wp2_with fail
    refine region_round2 (S := fun W => W.cell? ⟨c, 2, none⟩ = some (.int .i64 (t : Nat))) (by kernel_rfl) (by kernel_rfl) cc (fun hHeld => ?_)
    refine wpAnyH_take (i := 1) (oi := { dst := some 11, op := _, type := _, pos := _, after := _, guard := _ }) (v := ?v1) rfl (by kernel_rfl) (by kernel_rfl) (by kernel_rfl) (fun _ _ _ h => h) (Or.inl ⟨by rfl, ?hy1⟩) (by assumption) ?rest1
    case hy1 => (intro w hSw; obtain p1 := hSw; go_simp; try with_reducible rfl)
    try simp only [Act.put, List.setIfInBounds_toArray, List.set_cons_zero, List.set_cons_succ]
    refine wpAnyH_take (i := 2) (oi := { dst := some 12, op := _, type := _, pos := _, after := _, guard := _ }) (v := ?v2) rfl (by kernel_rfl) (by kernel_rfl) (by kernel_rfl) (fun _ _ _ h => h) (Or.inl ⟨by rfl, ?hy2⟩) (by assumption) ?rest2
    case hy2 => (intro w hSw; obtain p1 := hSw; go_simp; try with_reducible rfl)
    try simp only [Act.put, List.setIfInBounds_toArray, List.set_cons_zero, List.set_cons_succ]
    refine wpAnyH_take (i := 3) (oi := { dst := some 13, op := _, type := _, pos := _, after := _, guard := _ }) (v := ?v3) rfl (by kernel_rfl) (by kernel_rfl) (by kernel_rfl) (fun _ _ _ h => h) (Or.inl ⟨by rfl, ?hy3⟩) (by assumption) ?rest3
    case hy3 => (intro w hSw; obtain p1 := hSw; go_simp; try with_reducible rfl)
    try simp only [Act.put, List.setIfInBounds_toArray, List.set_cons_zero, List.set_cons_succ]
    refine wpAnyH_take (i := 4) (oi := { dst := some 14, op := _, type := _, pos := _, after := _, guard := _ }) (v := ?v4) rfl (by kernel_rfl) (by kernel_rfl) (by kernel_rfl) (fun _ _ _ h => h) (Or.inl ⟨by rfl, ?hy4⟩) (by assumption) ?rest4
    case hy4 => (intro w hSw; obtain p1 := hSw; go_simp; try with_reducible rfl)
    try simp only [Act.put, List.setIfInBounds_toArray, List.set_cons_zero, List.set_cons_succ]
    refine wpAnyH_ready (rs := [0, 5]) (by kernel_rfl) (by simp) ?_
    refine AllReadyH.cons (o := { dst := some 10, op := _, type := _, pos := _, after := _, guard := _ }) rfl (fun K hK => ?_) (AllReadyH.cons (o := { dst := some 15, op := _, type := _, pos := _, after := _, guard := _ }) rfl (fun K hK => ?_) AllReadyH.nil)
    · go_simp
      refine hK.out _ _ cc (fun hHeld => ?_)
      try simp only [Act.put, List.setIfInBounds_toArray, List.set_cons_zero, List.set_cons_succ]
      clear hK
      refine wpAnyH_ready (rs := [5]) (by kernel_rfl) (by simp) ?_
      refine AllReadyH.cons (o := { dst := some 15, op := _, type := _, pos := _, after := _, guard := _ }) rfl (fun K hK => ?_) AllReadyH.nil
      go_simp
      refine hK.out _ _ SH4.out.2 (fun hHeld => ?_)
      try simp only [Act.put, List.setIfInBounds_toArray, List.set_cons_zero, List.set_cons_succ]
      clear hK
      refine wpAnyH_ready (rs := [6]) (by kernel_rfl) (by simp) ?_
      refine AllReadyH.cons (o := { dst := some 16, op := _, type := _, pos := _, after := _, guard := _ }) rfl (fun K hK => ?_) AllReadyH.nil
      rw [if_pos (by rfl)]
      refine wp_app_run (.tmp 10) (.tmp 15) 54 rfl _ _ _ rfl rfl MA.out ?_
      refine hK.out _ _ C3.out (fun hHeld => ?_)
      try simp only [Act.put, List.setIfInBounds_toArray, List.set_cons_zero, List.set_cons_succ]
      clear hK
      refine wpAnyH_ready (rs := [7]) (by kernel_rfl) (by simp) ?_
      refine AllReadyH.cons (o := { dst := none, op := _, type := _, pos := _, after := _, guard := _ }) rfl (fun K hK => ?_) AllReadyH.nil
      go_simp
      refine hK.out _ _ C4.out (fun hHeld => ?_)
      try simp only [Act.put, List.setIfInBounds_toArray, List.set_cons_zero, List.set_cons_succ]
      clear hK
      refine wpAnyH_done (by kernel_rfl) ?_ _
      simp only [noOut]
      clear hHeld
      gi_wp2
      exact fin.out
    · go_simp
      refine hK.out _ _ SH4.out.2 (fun hHeld => ?_)
      try simp only [Act.put, List.setIfInBounds_toArray, List.set_cons_zero, List.set_cons_succ]
      clear hK
      have cA : (W2.alloc (.cells #[.int .i64 (t : Int)] 3)).cell? ⟨w.heap.size, 0, none⟩ = some (.slice ao m cp) := SH4.out.1
      refine wpAnyH_ready (rs := [0]) (by kernel_rfl) (by simp) ?_
      refine AllReadyH.cons (o := { dst := some 10, op := _, type := _, pos := _, after := _, guard := _ }) rfl (fun K hK => ?_) AllReadyH.nil
      go_simp
      refine hK.out _ _ SH4.out.2 (fun hHeld => ?_)
      try simp only [Act.put, List.setIfInBounds_toArray, List.set_cons_zero, List.set_cons_succ]
      clear hK cA
      refine wpAnyH_ready (rs := [6]) (by kernel_rfl) (by simp) ?_
      refine AllReadyH.cons (o := { dst := some 16, op := _, type := _, pos := _, after := _, guard := _ }) rfl (fun K hK => ?_) AllReadyH.nil
      rw [if_pos (by rfl)]
      refine wp_app_run (.tmp 10) (.tmp 15) 54 rfl _ _ _ rfl rfl MA.out ?_
      refine hK.out _ _ C3.out (fun hHeld => ?_)
      try simp only [Act.put, List.setIfInBounds_toArray, List.set_cons_zero, List.set_cons_succ]
      clear hK
      refine wpAnyH_ready (rs := [7]) (by kernel_rfl) (by simp) ?_
      refine AllReadyH.cons (o := { dst := none, op := _, type := _, pos := _, after := _, guard := _ }) rfl (fun K hK => ?_) AllReadyH.nil
      go_simp
      refine hK.out _ _ C4.out (fun hHeld => ?_)
      try simp only [Act.put, List.setIfInBounds_toArray, List.set_cons_zero, List.set_cons_succ]
      clear hK
      refine wpAnyH_done (by kernel_rfl) ?_ _
      simp only [noOut]
      clear hHeld
      gi_wp2
      exact fin.out
end Go.Proofs.Ytlfkdohajfkhdaa
