/-
  Contracts over this program: Each tells all texts with their places, as they stood when it was called.
-/
import Derived.Test.YtlfkdohajfkhdaaDqChunks
import Derived.Test.YtlfkdohajfkhdaaDqPart
import Derived.Laws.OwnMore
namespace Go.Proofs.Ytlfkdohajfkhdaa
open Go.RowKit Go.Shelf
attribute [local go_sem] Oper.semAt_some
set_option linter.unusedVariables false
theorem sl_to (w : World) (c h : Nat) (hh : h ≤ 32) : (Instr.sliceAt 70 (.pointer (some ⟨c, 3, none⟩)) none (some (.int .i64 (h : Int))) none).run Try.prog w = .ok (.slice (some ⟨c, 3, none⟩) h 32) w := by
  rw [run_sliceAt_array_h w 70 ⟨c, 3, none⟩ arr_is .i64 (h : Int) (by omega) (by rw [arr_len]; omega), arr_size, arr_len, Int.toNat_natCast, Result.andThen_ok]
  congr 1
/-- the texts with their places -/
def riT : Nat → List ByteArray → List (Nat × ByteArray)
  | _, [] => []
  | s, t :: r => (s, t) :: riT (s + 1) r
def rtV (x : Nat × ByteArray) : Array Value := #[.int .i64 (x.1 : Int), .string x.2]
theorem riT_len : ∀ (l : List ByteArray) (s : Nat), (riT s l).length = l.length
  | [], _ => rfl
  | t :: r, s => by simp [riT, riT_len r]
theorem riT_at : ∀ (l : List ByteArray) (s m : Nat), (riT s l)[m]? = (l[m]?).map fun t => (s + m, t)
  | [], s, m => by simp [riT]
  | t :: r, s, 0 => by simp [riT]
  | t :: r, s, m + 1 => by
    show (riT (s + 1) r)[m]? = _
    rw [riT_at r (s + 1) m, List.getElem?_cons_succ]
    congr 1
    funext x
    congr 1
    omega
set_option maxHeartbeats 400000 in
theorem each_any (w : World) (b : Value) (hb : b = .pointer none ∨ ∃ x, b = ptr x) :
    Calls Try.prog 16 #[b] w fun e w' => e = .returned (.func (.func 47) #[] #[.pointer (some ⟨w.heap.size, 0, none⟩)]) ∧ w' = w.alloc (.cells #[b] 23) := by
  have hmf : ∀ (fn : Fn) (first cap : Array Value) (w : World), (Instr.makeFunc fn first cap).run Try.prog w = .ok (.func fn first cap) w := fun _ _ _ _ => rfl
  rcases hb with rfl | ⟨x, rfl⟩
  · go_enter Try.func16, Try.ntmps16
    go_wp2
    go_ret
    exact ⟨rfl, rfl⟩
  · go_enter Try.func16, Try.ntmps16
    go_wp2
    go_ret
    exact ⟨rfl, rfl⟩
theorem make_texts (w : World) (n : Nat) (hn : n ≤ 1048576) :
    ∃ w', (Instr.makeSlice 32 (.int .i64 0) (.int .i64 (n : Int))).run Try.prog w = .ok (.slice (some ⟨w.heap.size, 0, none⟩) 0 n) w' ∧ w'.ownsRow w.heap.size 9 1 (.slice (some ⟨w.heap.size, 0, none⟩) 0 n) 0 [] ∧ w.grownBy w' none ∧ w.heap.size < w'.heap.size := by
  obtain ⟨i0, hi0, hz0, hz1, hz2⟩ := parts_of info_strC
  obtain ⟨w', h1, h2, h3⟩ := run_make_own (P := Try.prog) w w.heap.size 32 9 i0 _ 1 Try.underlying32 hi0 hz0 hz1 .i64 .i64 n (by rw [hz2]; omega) (by unfold maxLen; omega) (Nat.le_refl _)
  exact ⟨w', h1, h2, h3, own_lt h2 rfl⟩
/-- while the texts are taken down; g: their row, H: its box, Bd: the box of the deque -/
def EdI (W : World) (g H Bd b n : Nat) (cs : List Chk) (M : Nat → Prop) (m : Nat) (w : World) : Prop :=
  (¬ M H ∧ w.heap[H]? = some (.cells #[.slice (some ⟨g, 0, none⟩) (row (cs.take m)).length n] 32 (0, 0))) ∧ (¬ M g ∧ w.ownsRow W.heap.size 9 1 (.slice (some ⟨g, 0, none⟩) (row (cs.take m)).length n) (row (cs.take m)).length ((row (cs.take m)).map Value.string)) ∧
    (¬ M Bd ∧ w.heap[Bd]? = some (.cells #[ptr b] 23 (0, 0))) ∧ Below W.heap.size W w ∧ ∀ k, M k → W.heap.size ≤ k
theorem EdI.abd {W : World} {g H Bd b n : Nat} {cs : List Chk} : Abd (EdI W g H Bd b n cs) := by
  rintro M M' m A B ⟨⟨h1, h1'⟩, ⟨h2, h2'⟩, ⟨h4, h4'⟩, h5, h6⟩ hs hx
  have hSl := own_lt h2' (k := g) rfl
  exact ⟨keepB hs hx _ _ h1 h1', ⟨hx.lt hSl h2, own_kept h2' (fun k hk => by cases hk; exact hs.2.2 _ hSl h2)⟩, keepB hs hx _ _ h4 h4', h5.trans (hs.below h5.size h6), hx.ge h5.size h6⟩
/-- while they are told; v: the row, D: what is taken at the return -/
def EdS (J : (Nat → Prop) → Nat → World → Prop) (W : World) (v : Value) (D : Nat) (es : List ByteArray) (m : Nat) (w : World) : Prop :=
  ∃ M : Nat → Prop, J M m w ∧ (∀ k, v.ownBlock = some k → M k) ∧ w.ownsRow W.heap.size 9 1 v es.length (es.map Value.string) ∧ (M D ∧ w.heap[D]? = some (.deferred (some []))) ∧ (∀ k, M k → W.heap.size ≤ k ∧ k < w.heap.size) ∧ W.heap.size ≤ w.heap.size
set_option maxRecDepth 100000 in
set_option maxHeartbeats 2000000 in
theorem each_iter (Bd b : Nat) (cs : List Chk) (W : World) (hd : Dq W b cs) (hBd : W.cell? ⟨Bd, 0, none⟩ = some (ptr b)) :
    Iter Try.prog 47 #[.pointer (some ⟨Bd, 0, none⟩)] rtV (fun _ _ => True) (riT 0 (row cs)) W := by
  intro l J Jx hJ hJx _ hY h0
  have hBl : Bd < W.heap.size := lt_cell hBd
  obtain ⟨n, hn⟩ : ∃ n, (row cs).length = n := ⟨_, rfl⟩
  have hN : n ≤ 1048576 := by rw [← hn]; exact hd.1.2.2.2.2
  have mL := len_any W b _ _ n _ (by have := hd.1.1; rw [hn] at this; exact this)
  obtain ⟨w1, mk, hS2, hg2, hlt2⟩ := make_texts W n hN
  have hb1 : Below W.heap.size W w1 := (Below.refl _ W).grown hg2 (Nat.le_refl _) (fun k h => by cases h)
  obtain ⟨w2, hw2⟩ : ∃ w2, w1.alloc (.cells #[.slice (some ⟨W.heap.size, 0, none⟩) 0 n] 32) = w2 := ⟨_, rfl⟩
  have hb12 : Below w1.heap.size w1 w2 := by rw [← hw2]; exact (Below.refl _ w1).alloc (Nat.le_refl _) _
  have hz2 : w2.heap.size = w1.heap.size + 1 := by rw [← hw2]; simp
  have h2S : w2.heap[w1.heap.size]? = some (.cells #[.slice (some ⟨W.heap.size, 0, none⟩) 0 n] 32 (0, 0)) := by rw [← hw2]; exact heap_alloc_new _ _
  have hb2 : Below W.heap.size W w2 := hb1.trans (hb12.mono hb1.size)
  have c2B : w2.cell? ⟨Bd, 0, none⟩ = some (ptr b) := (hb2.cell (p := ⟨Bd, 0, none⟩) hBl).trans hBd
  have HY := keep hY
  have HD := keep hd
  have H0 := keep h0
  have HN := keep hn
  clear hY hd h0 hn
  refine callsIn_wide (n := 9) |>.1 (callsIn_of_wp_marks Try.func47 rfl trivial (wpIn_wide.2 ?_) rfl)
  simp only [Try.ntmps47, List.size_toArray, List.length_cons, List.length_nil, Nat.reduceAdd, Nat.reduceSub, Array.replicate_succ, Array.replicate_zero, List.push_toArray, List.append_toArray, List.nil_append, List.cons_append]
  go_wp2_with fail
  refine mL.mono ?_
  rintro _ w' ⟨rfl, hw'⟩
  obtain rfl := hw'.symm
  go_wp2_with fail
  refine (rising_any _ b).mono ?_
  rintro _ w4 ⟨rfl, hw4⟩
  have hz4 : w4.heap.size = w2.heap.size + 1 := by rw [hw4]; simp
  have hb24 : Below w2.heap.size w2 w4 := by rw [hw4]; exact (Below.refl _ w2).alloc (Nat.le_refl _) _
  have h4B : w4.heap[w2.heap.size]? = some (.cells #[ptr b] 23 (0, 0)) := by rw [hw4]; exact heap_alloc_new _ _
  have h4S := (hb24.block w1.heap.size (by omega)).trans h2S
  have hb4 : Below W.heap.size W w4 := hb2.trans (hb24.mono hb2.size)
  have hI0 : EdI W W.heap.size w1.heap.size w2.heap.size b n cs (fun _ => False) 0 w4 :=
    ⟨⟨id, h4S⟩, ⟨id, own_kept hS2 (fun k hk => by cases hk; exact (hb24.block W.heap.size (by omega)).trans (hb12.block W.heap.size hlt2))⟩, ⟨id, h4B⟩, hb4, fun _ h => h.elim⟩
  have HI0 := keep hI0
  clear hw4 hb24 h4S h4B hb4 hI0 mk hS2 hg2 hw2 hb12 h2S hb2 mL hb1 c2B
  go_wp2
  obtain ⟨i0, hi0, hze, hzs, hzb⟩ := parts_of info_strC
  refine (wpIn_wide (n := 9)).1 (range_own (α := Nat × Nat) (gf := 56) (lb := #[.pointer (some ⟨w2.heap.size, 0, none⟩)]) (by simp [Act.eval]) (enters_of Try.func56 (by kernel_rfl) rfl) (encs := riV) (L := riL 0 cs) (fun _ => rfl)
    (fun W1 hb => rising_iter w2.heap.size b cs HD.out.2 HD.out.1.2.2.2.2 W1)
    (EdI W W.heap.size w1.heap.size w2.heap.size b n cs) (fun _ _ _ _ => False) EdI.abd (fun _ _ _ _ _ _ h _ _ => h) HI0.out (fun M m W1 h => rd_of HD.out h.2.2.1.2 h.2.2.2.1) ?round ?done ?stop)
  case stop => exact fun _ _ _ _ _ _ h => h.elim
  case round =>
    intro M' l' m x W1 hI hx hl hrec hM'
    obtain ⟨A, c, ts, B, hcs, hAl, rfl⟩ := riL_get hx
    have HI := keep hI
    have HM' := keep hM'
    clear hI hx hM' hrec HI0
    unfold riV
    gi_wp2
    refine ⟨Mk.refl _ _, fun rl => ?_⟩
    obtain ⟨W2, hW2⟩ : ∃ W2, W1.putObj l' (.loop rl) = W2 := ⟨_, rfl⟩
    rw [hW2]
    have hz2' : W2.heap.size = W1.heap.size := by rw [← hW2]; simp
    have hI2 := EdI.abd M' M' m W1 (W1.putObj l' (.loop rl)) HI.out (Sep.put _ _ hl) (Ext.refl _ _ _)
    rw [hW2] at hI2
    obtain ⟨⟨j1, j1'⟩, ⟨j2, j2'⟩, ⟨j4, j4'⟩, j5, j6⟩ := hI2
    have hdq := HD.out.below j5
    rw [hcs] at hdq
    have hck := (ch_app.1 hdq.1.2.1).2.1
    have cc := hck.cells.2.2.1
    have ccs := hck.cells.2.2.2.1
    have hle := hck.le
    have etk1 : row (cs.take (m + 1)) = row (cs.take m) ++ ts := by
      rw [hcs, ← hAl, List.take_length_add_append, List.take_left, row_app]
      simp [row]
    have htot : (row (cs.take m)).length + ts.length ≤ n := by
      rw [← HN.out, ← List.length_append, ← etk1]
      conv => rhs; rw [← List.take_append_drop (m + 1) cs, row_app, List.length_append]
      omega
    have h1t : 1 ≤ ts.length := HD.out.2 (c, ts) (by rw [hcs]; simp)
    obtain ⟨k0, hk0⟩ : ∃ k0, (row (cs.take m)).length = k0 := ⟨_, rfl⟩
    rw [hk0] at j1' j2' htot
    have cS : W2.cell? ⟨w1.heap.size, 0, none⟩ = some (.slice (some ⟨W.heap.size, 0, none⟩) k0 n) := by rw [cell_of_row _ _ _ _ _ _ j1']; rfl
    have hSl := own_lt j2' (k := W.heap.size) rfl
    have hBl2 : w1.heap.size < W2.heap.size := (Array.getElem?_eq_some_iff.1 j1').1
    have hB22 : w2.heap.size < W2.heap.size := (Array.getElem?_eq_some_iff.1 j4').1
    have hcl := HD.out.1.lt (k := c) (.inr ⟨(c, ts), by rw [hcs]; simp, rfl⟩)
    have j2d : W2.drew.ownsRow W.heap.size 9 1 (.slice (some ⟨W.heap.size, 0, none⟩) k0 n) k0 ((row (cs.take m)).map Value.string) := j2'
    obtain ⟨t, ht⟩ : ∃ t, ts.length = t := ⟨_, rfl⟩
    rw [ht] at cc hle htot h1t
    have add3 : ∀ i, (⟨c, 3, none⟩ : Addr).add i = ⟨c, 3 + i, none⟩ := by intro i; unfold Addr.add; split <;> simp_all
    obtain ⟨W3, hrun, hown, hgr⟩ := run_append_fits (P := Try.prog) W2.drew W.heap.size 32 32 9 i0 1 Try.underlying32 hi0 hzs W.heap.size k0 n ((row (cs.take m)).map Value.string) j2d ⟨c, 3, none⟩ t 32 (ts.map Value.string) (by simp [ht]) (fun j u hu => by
      rw [add3]
      rw [List.getElem?_map] at hu
      cases e : ts[j]? with
      | none => rw [e] at hu; cases hu
      | some y => rw [e] at hu; cases hu; exact ccs j y e) (fun u hu => by obtain ⟨y, _, rfl⟩ := List.mem_map.1 hu; rfl) htot
    have MA := keep hrun
    have hs3 : W2.heap.size ≤ W3.heap.size := hgr.size
    have same : ∀ k, k < W2.heap.size → k ≠ W.heap.size → W3.heap[k]? = W2.heap[k]? := fun k hk hn => hgr.block k hk (fun e => hn (Option.some.inj e))
    have h3S := (same w1.heap.size hBl2 (by omega)).trans j1'
    have c3S : W3.cell? ⟨w1.heap.size, 0, none⟩ = some (.slice (some ⟨W.heap.size, 0, none⟩) k0 n) := by rw [cell_of_row _ _ _ _ _ _ h3S]; rfl
    have f3S : W3.frozen? ⟨w1.heap.size, 0, none⟩ = false := by simp [World.frozen?, h3S]
    have sameS : ∀ k, k ≠ w1.heap.size → (W3.setCell ⟨w1.heap.size, 0, none⟩ (.slice (some ⟨W.heap.size, 0, none⟩) (k0 + t) n)).heap[k]? = W3.heap[k]? := fun k hk => Below.heap_setCell _ _ _ _ hk
    have hss : (W3.setCell ⟨w1.heap.size, 0, none⟩ (.slice (some ⟨W.heap.size, 0, none⟩) (k0 + t) n)).heap.size = W3.heap.size := by simp [World.setCell]
    have C3 : Kept (W3.cell? ⟨c, 2, none⟩ = some (.int .i64 (t : Nat))) := (World.cell?_of_block (same c (lt_cell cc) (by omega))).trans cc
    have C4 : Kept ((W3.setCell ⟨w1.heap.size, 0, none⟩ (.slice (some ⟨W.heap.size, 0, none⟩) (k0 + t) n)).cell? ⟨c, 2, none⟩ = some (.int .i64 (t : Nat))) := (World.cell?_of_block (sameS c (by omega))).trans C3.out
    have e1 : row (cs.take (m + 1)) = row (cs.take m) ++ ts := etk1
    have e2 : (row (cs.take (m + 1))).length = k0 + t := by rw [e1, List.length_append, hk0, ht]
    have fin : Kept (rdPost (EdI W W.heap.size w1.heap.size w2.heap.size b n cs) (fun _ _ _ _ => False) M' (m + 1) W2 .normal { tmps := #[], defers := [] } (W3.setCell ⟨w1.heap.size, 0, none⟩ (.slice (some ⟨W.heap.size, 0, none⟩) (k0 + t) n))) := by
      refine ⟨⟨by rw [hss]; exact hs3, fun k hk => ?_⟩, ⟨j1, by rw [e2]; exact cells_setCell h3S⟩, ⟨j2, ?_⟩, ⟨j4, ?_⟩, ?_, j6⟩
      · have hkb := HM'.out k hk
        rw [sameS k (fun e => j1 (e ▸ hk)), same k (by omega) (fun e => j2 (e ▸ hk))]
      · rw [e2, e1, List.map_append]
        exact own_kept hown (fun k hk => by cases hk; exact sameS W.heap.size (by omega))
      · rw [sameS _ (by omega), same _ hB22 (by omega)]; exact j4'
      · refine j5.trans ⟨hgr.os, hgr.tape, hgr.output, by rw [hss]; exact hs3, fun k hk => ?_⟩
        rw [sameS k (by omega), same k (by omega) (by omega)]
    have hsl : ∀ w, (Instr.sliceAt 70 (.pointer (some ⟨c, 3, none⟩)) none (some (.int .i64 (t : Int))) none).run Try.prog w = .ok (.slice (some ⟨c, 3, none⟩) t 32) w := fun w => sl_to w c t hle
    clear hrun hown hgr same h3S sameS j1 j1' j2 j2' j4 j4' j5 j6 hW2 hz2' j2d hs3 hss e1 e2 etk1 hdq hck ccs hk0 ht
    gi_wp2_with fail
    refine region_round2 (S := fun W => W.cell? ⟨c, 2, none⟩ = some (.int .i64 (t : Nat))) (by kernel_rfl) (by kernel_rfl) cc (fun hHeld => ?_)
    refine wpAnyH_take (i := 1) (oi := { dst := some 16, op := _, type := _, pos := _, after := _, guard := _ }) (v := ?v1) rfl (by kernel_rfl) (by kernel_rfl) (by kernel_rfl) (fun _ _ _ h => h) (Or.inl ⟨by rfl, ?hy1⟩) (by assumption) ?rest1
    case hy1 => (intro w hSw; obtain p1 := hSw; go_simp; try with_reducible rfl)
    try simp only [Act.put, List.setIfInBounds_toArray, List.set_cons_zero, List.set_cons_succ]
    refine wpAnyH_take (i := 2) (oi := { dst := some 17, op := _, type := _, pos := _, after := _, guard := _ }) (v := ?v2) rfl (by kernel_rfl) (by kernel_rfl) (by kernel_rfl) (fun _ _ _ h => h) (Or.inl ⟨by rfl, ?hy2⟩) (by assumption) ?rest2
    case hy2 => (intro w hSw; obtain p1 := hSw; go_simp; try with_reducible rfl)
    try simp only [Act.put, List.setIfInBounds_toArray, List.set_cons_zero, List.set_cons_succ]
    refine wpAnyH_take (i := 3) (oi := { dst := some 18, op := _, type := _, pos := _, after := _, guard := _ }) (v := ?v3) rfl (by kernel_rfl) (by kernel_rfl) (by kernel_rfl) (fun _ _ _ h => h) (Or.inl ⟨by rfl, ?hy3⟩) (by assumption) ?rest3
    case hy3 => (intro w hSw; obtain p1 := hSw; go_simp; try with_reducible rfl)
    try simp only [Act.put, List.setIfInBounds_toArray, List.set_cons_zero, List.set_cons_succ]
    refine wpAnyH_take (i := 4) (oi := { dst := some 19, op := _, type := _, pos := _, after := _, guard := _ }) (v := ?v4) rfl (by kernel_rfl) (by kernel_rfl) (by kernel_rfl) (fun _ _ _ h => h) (Or.inl ⟨by rfl, ?hy4⟩) (by assumption) ?rest4
    case hy4 => (intro w hSw; obtain p1 := hSw; go_simp; try with_reducible rfl)
    try simp only [Act.put, List.setIfInBounds_toArray, List.set_cons_zero, List.set_cons_succ]
    refine wpAnyH_take (i := 5) (oi := { dst := some 20, op := _, type := _, pos := _, after := _, guard := _ }) (v := ?v5) rfl (by kernel_rfl) (by kernel_rfl) (by kernel_rfl) (fun _ _ _ h => h) (Or.inl ⟨by rfl, ?hy5⟩) (by assumption) ?rest5
    case hy5 => (intro w hSw; obtain p1 := hSw; go_simp; try with_reducible rfl)
    try simp only [Act.put, List.setIfInBounds_toArray, List.set_cons_zero, List.set_cons_succ]
    refine wpAnyH_take (i := 6) (oi := { dst := some 21, op := _, type := _, pos := _, after := _, guard := _ }) (v := ?v6) rfl (by kernel_rfl) (by kernel_rfl) (by kernel_rfl) (fun _ _ _ h => h) (Or.inl ⟨by rfl, ?hy6⟩) (by assumption) ?rest6
    case hy6 => (intro w hSw; obtain p1 := hSw; go_simp; try with_reducible rfl)
    try simp only [Act.put, List.setIfInBounds_toArray, List.set_cons_zero, List.set_cons_succ]
    refine wpAnyH_take (i := 7) (oi := { dst := some 22, op := _, type := _, pos := _, after := _, guard := _ }) (v := ?v7) rfl (by kernel_rfl) (by kernel_rfl) (by kernel_rfl) (fun _ _ _ h => h) (Or.inl ⟨by rfl, ?hy7⟩) (by assumption) ?rest7
    case hy7 => (intro w hSw; obtain p1 := hSw; go_simp; try with_reducible rfl)
    try simp only [Act.put, List.setIfInBounds_toArray, List.set_cons_zero, List.set_cons_succ]
    refine wpAnyH_take (i := 8) (oi := { dst := some 23, op := _, type := _, pos := _, after := _, guard := _ }) (v := (.slice (some ⟨c, 3, none⟩) t 32)) rfl (by kernel_rfl) (by kernel_rfl) (by kernel_rfl) (fun _ _ _ h => h) (Or.inl ⟨by rfl, ?hy8⟩) (by assumption) ?rest8
    case hy8 => (intro w hSw; obtain p1 := hSw; first | (go_simp; done) | (go_simp; simp [*]; done) | (simp [*]; go_simp; done))
    try simp only [Act.put, List.setIfInBounds_toArray, List.set_cons_zero, List.set_cons_succ]
    refine wpAnyH_ready (rs := [0]) (by kernel_rfl) (by simp) ?_
    refine AllReadyH.cons (o := { dst := some 15, op := _, type := _, pos := _, after := _, guard := _ }) rfl (fun K hK => ?_) AllReadyH.nil
    go_simp
    refine hK.out _ _ cc (fun hHeld => ?_)
    try simp only [Act.put, List.setIfInBounds_toArray, List.set_cons_zero, List.set_cons_succ]
    clear hK
    refine wpAnyH_ready (rs := [9]) (by kernel_rfl) (by simp) ?_
    refine AllReadyH.cons (o := { dst := some 24, op := _, type := _, pos := _, after := _, guard := _ }) rfl (fun K hK => ?_) AllReadyH.nil
    rw [if_pos (by rfl)]
    refine wp_app_run (.tmp 15) (.tmp 23) 32 rfl _ _ _ rfl rfl MA.out ?_
    refine hK.out _ _ C3.out (fun hHeld => ?_)
    try simp only [Act.put, List.setIfInBounds_toArray, List.set_cons_zero, List.set_cons_succ]
    clear hK
    refine wpAnyH_ready (rs := [10]) (by kernel_rfl) (by simp) ?_
    refine AllReadyH.cons (o := { dst := none, op := _, type := _, pos := _, after := _, guard := _ }) rfl (fun K hK => ?_) AllReadyH.nil
    go_simp
    refine hK.out _ _ C4.out (fun hHeld => ?_)
    try simp only [Act.put, List.setIfInBounds_toArray, List.set_cons_zero, List.set_cons_succ]
    clear hK
    refine wpAnyH_done (by kernel_rfl) ?_ _
    simp only [noOut]
    clear hHeld
    gi_wp2
    exact fin.out
  case done =>
    intro M' D W5 hI hD hDk hM'
    rw [riL_len] at hI
    obtain ⟨⟨j1, j1'⟩, ⟨j2, j2'⟩, ⟨j4, j4'⟩, j5, j6⟩ := hI
    rw [List.take_length] at j1' j2'
    obtain ⟨es, hes⟩ : ∃ es, row cs = es := ⟨_, rfl⟩
    have hen : es.length = n := by rw [← hes]; exact HN.out
    rw [hes, hen] at j1' j2'
    rw [hes] at HY
    have HES := keep hes
    have HEN := keep hen
    have cH : W5.cell? ⟨w1.heap.size, 0, none⟩ = some (.slice (some ⟨W.heap.size, 0, none⟩) n n) := by rw [cell_of_row _ _ _ _ _ _ j1']; rfl
    have HS : Kept (EdS J W (.slice (some ⟨W.heap.size, 0, none⟩) n n) D es 0 W5) :=
      ⟨fun k => W.heap.size ≤ k ∧ k < W5.heap.size, hJ _ _ _ _ _ H0.out (Sep.of_below j5) (fun k hk => .inr hk), fun k hk => ⟨(j2'.lt k hk).1, (j2'.lt k hk).2⟩, by rw [hen]; exact j2', ⟨⟨j6 D hD, (Array.getElem?_eq_some_iff.1 hDk).1⟩, hDk⟩, fun k hk => hk, j5.size⟩
    clear j1 j1' j2 j2' j4 j4' j5 j6 hes hen hDk hM' HI0 H0
    go_wp2
    refine (wpIn_wide (n := 9)).1 ?_
    gi_loopw [27] (fun i wr => ∃ m : Nat, m ≤ n ∧ i = .int .i64 m ∧ Kept (EdS J W (.slice (some ⟨W.heap.size, 0, none⟩) n n) D es m wr)) (fun i _ => n - (intOf i).toNat)
    case atStart => exact ⟨0, Nat.zero_le _, rfl, HS⟩
    case round =>
      obtain ⟨m, hm, rfl, KS⟩ := hrel
      obtain ⟨M, q1, q2, q3, ⟨q4, q4'⟩, q5, q6⟩ := KS.out
      by_cases hlt : m < n
      · have hltz : (m : Int) < (n : Int) := by omega
        have hz0 : (0 : Int) ≤ (m : Int) := by omega
        obtain ⟨t, het⟩ : ∃ t, es[m]? = some t := ⟨_, List.getElem?_eq_getElem (by rw [HEN.out]; exact hlt)⟩
        have he : (riT 0 es)[m]? = some (m, t) := by rw [riT_at, het]; simp
        have add : ∀ i, (⟨W.heap.size, 0, none⟩ : Addr).add i = ⟨W.heap.size, i, none⟩ := by intro i; unfold Addr.add; split <;> simp_all
        have c0 := q3.cells (g := W.heap.size) rfl m (.string t) (by rw [List.getElem?_map, het]; rfl)
        rw [add] at c0
        obtain ⟨fn, tmps, assign, body, hy, hR⟩ := (HY.out M m (m, t) wr q1 he q5).at 8
        unfold rtV at hy
        dsimp only at hy
        have HR := keep hR
        have fin : Kept (∀ W7, Mk M wr W7 → ∀ J', Abd J' → J' M (m + 1) W7 → EdS J' W (.slice (some ⟨W.heap.size, 0, none⟩) n n) D es (m + 1) W7) := fun W7 hk J' hJ' h7 =>
          ⟨M, h7, q2, own_kept q3 (fun k hk' => hk.2 k (q2 k hk')), ⟨q4, (hk.2 _ q4).trans q4'⟩, fun k h => by have := q5 k h; have := hk.1; omega, Nat.le_trans q6 hk.1⟩
        clear q1 q2 q3 q4 q4' q5 q6 he het hR KS add
        gi_wp2
        refine RoundIn.mono HR.out ?_
        rintro e W7 ⟨hk7, (⟨rfl, hJ7⟩ | ⟨rfl, hJx7⟩)⟩
        · have F7 := keep (fin.out W7 hk7 J hJ hJ7)
          clear hk7 hJ7 fin HR
          gi_wp2
          go_roundw
          case rel => exact ⟨m + 1, by omega, by go_num, F7⟩
          case measure => simp [intOf]; omega
        · have F7 := keep (fin.out W7 hk7 Jx hJx hJx7)
          clear hk7 hJx7 fin HR
          gi_wp2
          obtain ⟨M7, p1, p2, p3, ⟨p4, p4'⟩, p5, p6⟩ := F7.out
          refine leave_mark p4' ?_
          refine ⟨_, results_none rfl _ _ _, ⟨_, rfl⟩, M7, fun k hk => ?_, .inr ⟨m, by rw [riT_len, HES.out, HEN.out]; exact hlt, hJx _ _ _ _ _ p1 (Sep.put _ _ p4) (Ext.refl _ _ _)⟩⟩
          have := p5 k hk
          simp; omega
      · have hltz : ¬ (m : Int) < (n : Int) := by omega
        obtain rfl : m = n := by omega
        clear KS
        gi_wp2
        refine leave_mark q4' ?_
        refine ⟨_, results_none rfl _ _ _, ⟨_, rfl⟩, M, fun k hk => ?_, .inl (by rw [riT_len, HES.out, HEN.out]; exact hJ _ _ _ _ _ q1 (Sep.put _ _ q4) (Ext.refl _ _ _))⟩
        have := q5 k hk
        simp; omega
end Go.Proofs.Ytlfkdohajfkhdaa
