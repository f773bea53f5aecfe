/-
  Contracts over this program: a first text is laid into an empty dict of texts.
-/
import Derived.Test.YtcdcdodhpnmhpaaDictNone0
namespace Go.Proofs.Ytcdcdodhpnmhpaa
open Go.RowKit Go.Shelf
attribute [local go_sem] Oper.semAt_some
set_option maxHeartbeats 400000 in
theorem liveb_str (w : World) (b seed : Nat) (hd : Ds w b seed) : Calls Try.prog 96 #[.pointer (some ⟨b, 0, none⟩)] w fun e w' => e = .returned (.int .i64 0) ∧ Below w.heap.size w w' := by
  obtain ⟨c0, c1, c2, c3, c4, cf⟩ := five hd
  clear hd
  go_enter Try.func96, Try.ntmps96
  go_wp2_with fail
  go_quiet (fail)
  go_wp2
  go_ret
  exact ⟨rfl, below_drewN (Below.refl _ _) _⟩
set_option maxRecDepth 100000 in
set_option maxHeartbeats 1000000 in
theorem all1_str (W : World) (l Bd b seed : Nat) (hBd : W.cell? ⟨Bd, 0, none⟩ = some (.pointer (some ⟨b, 0, none⟩))) (hd : Ds W b seed) :
    Calls Try.prog 95 (#[.func (.yield l) #[] #[]] ++ #[.pointer (some ⟨Bd, 0, none⟩)]) W fun e w' => (∃ v, e = .returned v) ∧ Below W.heap.size W w' := by
  have hBl : Bd < W.heap.size := lt_cell hBd
  have hc1 : (W.alloc (.cells #[.func (.yield l) #[] #[]] 139)).cell? ⟨Bd, 0, none⟩ = some (.pointer (some ⟨b, 0, none⟩)) := (((Below.refl _ W).alloc (Nat.le_refl _) _).cell (p := ⟨Bd, 0, none⟩) hBl).trans hBd
  have hb := (Below.refl _ W).alloc (Nat.le_refl _) (.cells #[.func (.yield l) #[] #[]] 139)
  have hbl : b < W.heap.size := (Array.getElem?_eq_some_iff.1 hd).1
  have mL := liveb_str (W.alloc (.cells #[.func (.yield l) #[] #[]] 139)) b seed ((hb.block b hbl).trans hd)
  have HB := keep hb
  clear hb hd
  refine callsIn_wide (n := 9) |>.1 (callsIn_of_wp_marks Try.func95 rfl trivial (wpIn_wide.2 ?_) rfl)
  simp only [Try.ntmps95, List.size_toArray, List.length_cons, List.length_nil, Nat.reduceAdd, Nat.reduceSub, Array.replicate_succ, Array.replicate_zero, List.push_toArray, List.append_toArray, List.nil_append, List.cons_append]
  go_wp2_with fail
  refine mL.mono ?_
  rintro _ w2 ⟨rfl, hb2⟩
  have HB2 := keep (HB.out.trans (hb2.mono HB.out.size))
  clear mL hb2 hc1
  go_wp2
  go_loopw [10] (fun i wr => i = .int .i64 0 ∧ wr = w2) (fun _ _ => 0)
  case atStart => exact ⟨rfl, rfl⟩
  case round =>
    obtain ⟨rfl, rfl⟩ := hrel
    go_wp2
    exact ⟨_, results_none rfl _ _ _, ⟨_, rfl⟩, HB2.out⟩
theorem idx0_str (w : World) : (Instr.index 142 (.agg #[.slice none 0 0, .slice none 0 0]) (.int .i64 0)).run Try.prog w = .ok (.slice none 0 0) w := by kernel_rfl
theorem idx1_str (w : World) : (Instr.index 142 (.agg #[.slice none 0 0, .slice none 0 0]) (.int .i64 1)).run Try.prog w = .ok (.slice none 0 0) w := by kernel_rfl
set_option maxRecDepth 100000 in
set_option maxHeartbeats 1000000 in
theorem find_str {h : ByteArray → Nat} {seed : Nat} (hH : HashIs seed h) (w : World) (b : Nat) (key : ByteArray) (hk : key.size ≤ maxLen) (hd : Ds w b seed) :
    Calls Try.prog 68 #[.pointer (some ⟨b, 0, none⟩), .string key] w fun e w' => e = .returned (.tuple #[.slice none 0 0, .int .i64 0, .int .i64 (-1)]) ∧ Below w.heap.size w w' := by
  obtain ⟨c0, c1, c2, c3, c4, cf⟩ := five hd
  have mH := (hH key hk).2 w
  clear hd c1 c4 cf
  go_enter Try.func68, Try.ntmps68
  go_wp2_with fail
  refine mH.mono ?_
  rintro _ w' ⟨rfl, hw'⟩
  subst hw'
  go_wp2_with fail
  go_quiet (fail)
  go_wp2
  clear mH c0
  go_loopw [27] (fun i wr => ∃ k : Nat, k ≤ 2 ∧ i = .int .i64 k ∧ Kept (Below w'.heap.size w' wr)) (fun i _ => 2 - (intOf i).toNat)
  case atStart => exact ⟨0, by omega, rfl, below_drewN (Below.refl _ _) _⟩
  case round =>
    obtain ⟨k, hk2, rfl, BW⟩ := hrel
    have hk3 : k = 0 ∨ k = 1 ∨ k = 2 := by omega
    rcases hk3 with rfl | rfl | rfl
    · have ix := idx0_str wr
      go_wp2
      go_roundw
      case measure => simp [intOf]
      case rel => exact ⟨1, by omega, rfl, BW⟩
    · have ix := idx1_str wr
      go_wp2
      go_roundw
      case measure => simp [intOf]
      case rel => exact ⟨2, by omega, rfl, BW⟩
    · go_wp2
      refine bodyPost_ret (results_tmp3 rfl _ _ _) rfl ?_
      exact ⟨rfl, BW.out⟩
set_option maxHeartbeats 400000 in
theorem of_str (w : World) (ao : Option Addr) (n cap x : Nat) (hn : 0 < n) (hm : n ≤ maxLen) (hx : x < Dw.M) :
    Calls Try.prog 101 #[.slice ao n cap, .int .u64 x] w fun e w' => e = .returned (.int .i64 (x % n : Nat)) ∧ w' = w := by
  unfold maxLen at hm
  have hx' := Dw.le_of hx
  have h1 : IntKind.u64.wrap (n : Int) = (n : Int) := by rw [IntKind.wrap_u64]; omega
  have h2 : ((n : Int) == 0) = false := beq_eq_false_iff_ne.2 (by omega)
  have h2' : 1 ≤ (n : Int) := by omega
  have h3 : x % n < n := Nat.mod_lt _ hn
  clear hx
  go_enter Try.func101, Try.ntmps101
  go_wp2
  go_ret
  exact ⟨ret_u (by simp), rfl⟩
theorem info_chn_str : (Try.prog.info? 113).map (fun i => (i.zero, i.size, i.bytes)) = some (some (.slice none 0 0), 1, 24) := by kernel_rfl
theorem info_ent_str : (Try.prog.info? 112).map (fun i => (i.zero, i.size, i.bytes)) = some (some (.agg #[.string .empty, .string .empty]), 2, 32) := by kernel_rfl
/-- a table of four empty buckets -/
def T4 (w : World) (g : Nat) : Prop := ∃ cur, w.heap[g]? = some (.cells cur 113 (0, 0)) ∧ ∀ i, i < 4 → cur[i]? = some (.slice none 0 0)
theorem make_str (w : World) : ∃ w', (Instr.makeSlice 104 (.int .i64 4) (.int .i64 4)).run Try.prog w = .ok (.slice (some ⟨w.heap.size, 0, none⟩) 4 4) w' ∧ T4 w' w.heap.size ∧ w.grownBy w' none ∧ w.heap.size < w'.heap.size := by
  obtain ⟨i0, hi0, hz0, hz1, hz2⟩ := info_parts info_chn_str
  obtain ⟨w', h1, h2, h3⟩ := run_make_full (P := Try.prog) w 0 104 113 i0 (.slice none 0 0) 1 Try.underlying104 hi0 hz0 hz1 .i64 .i64 4 (by rw [hz2]; omega) (by unfold maxLen; omega) (Nat.zero_le _)
  refine ⟨w', h1, ?_, h3, own_lt h2 rfl⟩
  rcases h2.2 with ⟨e, _⟩ | ⟨g', cap', cur, e, _, hh, _, _, _, q⟩
  · cases e
  · cases e
    refine ⟨cur, hh, fun i hi => ?_⟩
    have hm := made_at (z := .slice none 0 0) (n := 4 * 1) (i := i) (by omega)
    have q' : List.take (4 * 1) cur.toList = (madeCells #[.slice none 0 0] (4 * 1)).toList := q
    rw [← q', List.getElem?_take, if_pos (by omega), Array.getElem?_toList] at hm
    exact hm
set_option maxRecDepth 100000 in
set_option maxHeartbeats 1000000 in
theorem grow_str (w : World) (b seed : Nat) (hd : Ds w b seed) :
    Calls Try.prog 69 #[.pointer (some ⟨b, 0, none⟩)] w fun x w' => x = .returned (.tuple #[]) ∧ w'.heap[b]? = some (.cells #[.int .u64 seed, .int .i64 0, .slice (some ⟨w.heap.size, 0, none⟩) 4 4, .slice none 0 0, .int .i64 0] 106 (0, 0)) ∧ T4 w' w.heap.size ∧ Sep (· = b) w w' ∧ w.heap.size < w'.heap.size := by
  obtain ⟨c0, c1, c2, c3, c4, cf⟩ := five hd
  have hbl : b < w.heap.size := (Array.getElem?_eq_some_iff.1 hd).1
  have hneb : ¬ b = w.heap.size := by omega
  obtain ⟨w1, m1, m2, m3, m4⟩ := make_str w
  have d2 : (w1.setCell ⟨b, 2, none⟩ (.slice (some ⟨w.heap.size, 0, none⟩) 4 4)).heap[b]? = _ := cells_setCell ((m3.block b hbl (by simp)).trans hd)
  obtain ⟨k0, k1, k2, k3, k4, kf⟩ := five (v2 := .slice (some ⟨w.heap.size, 0, none⟩) 4 4) d2
  have m0 : w1.cell? ⟨b, 2, none⟩ = some (.slice none 0 0) := (m3.cell (a := ⟨b, 2, none⟩) c2 (by simp))
  have f0 : w1.frozen? ⟨b, 2, none⟩ = false := by rw [World.frozen?_of_block (w := w) (a := ⟨b, 2, none⟩) (m3.block b hbl (by simp))]; exact cf 2
  have FIN : Kept (∀ W', Below (w1.setCell ⟨b, 2, none⟩ (.slice (some ⟨w.heap.size, 0, none⟩) 4 4)).heap.size (w1.setCell ⟨b, 2, none⟩ (.slice (some ⟨w.heap.size, 0, none⟩) 4 4)) W' → W'.heap[b]? = some (.cells #[.int .u64 seed, .int .i64 0, .slice (some ⟨w.heap.size, 0, none⟩) 4 4, .slice none 0 0, .int .i64 0] 106 (0, 0)) ∧ T4 W' w.heap.size ∧ Sep (· = b) w W' ∧ w.heap.size < W'.heap.size) := fun W' hb => by
    have hss : (w1.setCell ⟨b, 2, none⟩ (.slice (some ⟨w.heap.size, 0, none⟩) 4 4)).heap.size = w1.heap.size := by simp [World.setCell]
    have so : ∀ k, k ≠ b → (w1.setCell ⟨b, 2, none⟩ (.slice (some ⟨w.heap.size, 0, none⟩) 4 4)).heap[k]? = w1.heap[k]? := fun k hk => Below.heap_setCell _ _ _ _ hk
    have hs := hb.size
    rw [hss] at hs
    refine ⟨(hb.block b (by rw [hss]; omega)).trans d2, ?_, ⟨⟨hb.os.trans m3.os, hb.tape.trans m3.tape, hb.output.trans m3.output⟩, by omega, fun k hk hn => ?_⟩, by omega⟩
    · obtain ⟨cur, q1, q2⟩ := m2
      exact ⟨cur, (hb.block _ (by rw [hss]; exact m4)).trans ((so _ (by omega)).trans q1), q2⟩
    · rw [hb.block k (by rw [hss]; omega), so k hn]
      exact m3.block k hk (by simp)
  clear hd c0 c1 c3 c4 cf m2 m3 m4 k0 k4 kf d2
  generalize hW : w1.setCell ⟨b, 2, none⟩ (.slice (some ⟨w.heap.size, 0, none⟩) 4 4) = W at *
  go_enter Try.func69, Try.ntmps69
  go_wp2_with fail
  clear hW m0 f0 m1 c2
  have k1 : W.cell? ⟨b, 1, none⟩ = some (.int .i64 0) := k1
  go_quiet (first | (go_at_call 70; refine Calls.quiet_of_same (moving_str _ b (by simpa using k3))))
  go_wp2
  go_end0
  exact ⟨rfl, FIN.out _ (below_drewN (Below.refl _ _) _)⟩
/-- the entry's own box -/
def heldT (B : Nat) (e1 e2 : ByteArray) (w : World) : Prop := w.cell? ⟨B, 0, none⟩ = some (.string e1) ∧ w.cell? ⟨B, 1, none⟩ = some (.string e2)
theorem heldT_new (w : World) (e1 e2 : ByteArray) : heldT w.heap.size e1 e2 (w.alloc (.cells #[.string e1, .string e2] 112)).drew := by
  have h : (w.alloc (.cells #[.string e1, .string e2] 112)).drew.heap[w.heap.size]? = _ := heap_alloc_new w (.cells #[.string e1, .string e2] 112)
  exact ⟨by rw [cell_of_row _ _ _ _ _ _ h]; rfl, by rw [cell_of_row _ _ _ _ _ _ h]; rfl⟩
theorem heldT_kept {B : Nat} {e1 e2 : ByteArray} {w w' : World} (h : heldT B e1 e2 w) (hk : w'.heap[B]? = w.heap[B]?) : heldT B e1 e2 w' :=
  ⟨(World.cell?_of_block (w := w) (a := ⟨B, 0, none⟩) hk).trans h.1, (World.cell?_of_block (w := w) (a := ⟨B, 1, none⟩) hk).trans h.2⟩
theorem heldT_alloc {B : Nat} {e1 e2 : ByteArray} {w : World} (h : heldT B e1 e2 w) (o : Obj) : heldT B e1 e2 (w.alloc o) :=
  heldT_kept h (Below.heap_alloc _ _ _ (World.block_lt_of_cell? w _ h.1))
theorem heldT_set {B g i : Nat} {e1 e2 : ByteArray} {w : World} (h : heldT B e1 e2 w) (hne : ¬ g = B) (u : Value) : heldT B e1 e2 (w.setCell ⟨g, i, none⟩ u) :=
  heldT_kept h (Below.heap_setCell _ _ _ _ (fun e => hne e.symm))
theorem heldT_far {B : Nat} {e1 e2 : ByteArray} {w w' : World} {row : Option Nat} (h : heldT B e1 e2 w) (hg : w.grownBy w' row) (hne : row ≠ some B) : heldT B e1 e2 w' :=
  heldT_kept h (hg.block B (World.block_lt_of_cell? w _ h.1) (Ne.symm hne))
set_option maxRecDepth 100000 in
set_option maxHeartbeats 2000000 in
theorem push_str {h : ByteArray → Nat} {seed : Nat} (hH : HashIs seed h) (w : World) (g : Nat) (e1 e2 : ByteArray) (hk : e1.size ≤ maxLen) (hT : T4 w g) :
    Calls Try.prog 71 #[.slice (some ⟨g, 0, none⟩) 4 4, .int .u64 seed, .agg #[.string e1, .string e2]] w fun x w' => x = .returned (.tuple #[]) ∧ Sep (· = g) w w' := by
  obtain ⟨cur, hcur, hc4⟩ := hT
  have hgl : g < w.heap.size := (Array.getElem?_eq_some_iff.1 hcur).1
  have mH := (hH e1 hk).2 (w.alloc (.cells #[.string e1, .string e2] 112))
  have mO := of_str (w.alloc (.cells #[.string e1, .string e2] 112)) (some ⟨g, 0, none⟩) 4 4 (h e1) (by omega) (by unfold maxLen; omega) (hH e1 hk).1
  obtain ⟨i, hi⟩ : ∃ i, h e1 % 4 = i := ⟨_, rfl⟩
  have hi4 : i < 4 := by omega
  rw [hi] at mO
  have hv1 : w.cell? ⟨g, i, none⟩ = some (.slice none 0 0) := by rw [cell_of_row _ _ _ _ _ _ hcur]; exact hc4 i hi4
  have hfr : w.frozen? ⟨g, i, none⟩ = false := by simp [World.frozen?, hcur]
  obtain ⟨i0, hi0, hz0, hz1, hz2⟩ := info_parts info_ent_str
  have hi0' : (0 : Int) ≤ (i : Int) := Int.natCast_nonneg _
  have hi1 : (i : Int) < 4 := by omega
  have hne : ¬ g = w.heap.size := by omega
  have hown0 : ∀ w' : World, w'.ownsRow 0 112 2 (.slice none 0 0) 0 [] := fun _ => ⟨rfl, .inl ⟨rfl, rfl⟩⟩
  have HOWN := keep hown0
  have FIN : Kept (∀ (w3 : World) (u : Value), ((w.alloc (.cells #[.string e1, .string e2] 112)).alloc (.cells #[.string e1, .string e2] 112)).drew.grownBy w3 (Value.slice none 0 0).ownBlock → Sep (· = g) w (w3.setCell ⟨g, i, none⟩ u)) := fun w3 u hg => by
    have hs := two_size hg
    refine ⟨⟨hg.os, hg.tape, hg.output⟩, by simp [World.setCell]; omega, fun k hk hn => ?_⟩
    rw [Below.heap_setCell _ _ _ _ hn]
    exact two_block hg k hk (by simp [Value.ownBlock])
  clear hcur hc4 hi hH hown0
  generalize h e1 = x at *
  go_enter Try.func71, Try.ntmps71
  go_wp2_with fail
  refine mH.mono ?_
  rintro _ w' ⟨rfl, hw'⟩
  subst hw'
  go_wp2_with fail
  refine mO.mono ?_
  rintro _ w' ⟨rfl, hw'⟩
  subst hw'
  clear mH mO
  go_wp2_with fail
  refine wp_region_held_drew (S := heldT w.heap.size e1 e2) (by kernel_rfl) (heldT_new w e1 e2) (fun hHeld => ?_)
  refine wpAnyH_take (i := 0) (oi := { dst := some 13, op := _, type := _, pos := _, after := _, guard := _ }) (v := ?v1) rfl (by kernel_rfl) (by kernel_rfl) (by kernel_rfl) (fun _ _ _ h => h) (Or.inl ⟨by rfl, ?hy1⟩) (by assumption) ?rest1
  case hy1 => (intro w hSw; go_simp; try with_reducible rfl)
  try simp only [Act.put, List.setIfInBounds_toArray, List.set_cons_zero, List.set_cons_succ]
  refine wpAnyH_take (i := 1) (oi := { dst := some 14, op := _, type := _, pos := _, after := _, guard := _ }) (v := ?v2) rfl (by kernel_rfl) (by kernel_rfl) (by kernel_rfl) (fun _ _ _ h => h) (Or.inl ⟨by rfl, ?hy2⟩) (by assumption) ?rest2
  case hy2 => (intro w hSw; go_simp; try with_reducible rfl)
  try simp only [Act.put, List.setIfInBounds_toArray, List.set_cons_zero, List.set_cons_succ]
  refine wpAnyH_take (i := 2) (oi := { dst := some 15, op := _, type := _, pos := _, after := _, guard := _ }) (v := ?v3) rfl (by kernel_rfl) (by kernel_rfl) (by kernel_rfl) (fun _ _ _ h => h) (Or.inl ⟨by rfl, ?hy3⟩) (by assumption) ?rest3
  case hy3 => (intro w hSw; go_simp; try with_reducible rfl)
  try simp only [Act.put, List.setIfInBounds_toArray, List.set_cons_zero, List.set_cons_succ]
  refine wpAnyH_take (i := 3) (oi := { dst := some 16, op := _, type := _, pos := _, after := _, guard := _ }) (v := ?v4) rfl (by kernel_rfl) (by kernel_rfl) (by kernel_rfl) (fun _ _ _ h => h) (Or.inl ⟨by rfl, ?hy4⟩) (by assumption) ?rest4
  case hy4 => (intro w hSw; go_simp; try with_reducible rfl)
  try simp only [Act.put, List.setIfInBounds_toArray, List.set_cons_zero, List.set_cons_succ]
  refine wpAnyH_take (i := 4) (oi := { dst := some 17, op := _, type := _, pos := _, after := _, guard := _ }) (v := ?v5) rfl (by kernel_rfl) (by kernel_rfl) (by kernel_rfl) (fun _ _ _ h => h) (Or.inl ⟨by rfl, ?hy5⟩) (by assumption) ?rest5
  case hy5 => (intro w hSw; go_simp; try with_reducible rfl)
  try simp only [Act.put, List.setIfInBounds_toArray, List.set_cons_zero, List.set_cons_succ]
  refine wpAnyH_take (i := 6) (oi := { dst := some 19, op := _, type := _, pos := _, after := _, guard := _ }) (v := ?v6) rfl (by kernel_rfl) (by kernel_rfl) (by kernel_rfl) (fun _ _ _ h => h) (Or.inl ⟨by rfl, ?hy6⟩) (by assumption) ?rest6
  case hy6 => (intro w hSw; obtain ⟨q0, q1⟩ := hSw; go_simp; try with_reducible rfl)
  try simp only [Act.put, List.setIfInBounds_toArray, List.set_cons_zero, List.set_cons_succ]
  refine wpAnyH_ready (rs := [5, 7]) (by kernel_rfl) (by simp) ?_
  refine AllReadyH.cons (o := { dst := some 18, op := _, type := _, pos := _, after := _, guard := _ }) rfl (fun K hK => ?_) (AllReadyH.cons (o := { dst := some 20, op := _, type := _, pos := _, after := _, guard := _ }) rfl (fun K hK => ?_) AllReadyH.nil)
  · have hg1 := one_cell hv1 (.cells #[.string e1, .string e2] 112)
    go_simp
    refine hK.out _ _ hHeld (fun hHeld => ?_)
    try simp only [Act.put, List.setIfInBounds_toArray, List.set_cons_zero, List.set_cons_succ]
    refine wpAnyH_ready (rs := [7]) (by kernel_rfl) (by simp) ?_
    refine AllReadyH.cons (o := { dst := some 20, op := _, type := _, pos := _, after := _, guard := _ }) rfl (fun K hK => ?_) AllReadyH.nil
    go_simp
    refine hK.out _ _ (heldT_alloc hHeld _) (fun hHeld => ?_)
    try simp only [Act.put, List.setIfInBounds_toArray, List.set_cons_zero, List.set_cons_succ]
    refine wpAnyH_ready (rs := [8]) (by kernel_rfl) (by simp) ?_
    refine AllReadyH.cons (o := { dst := some 21, op := _, type := _, pos := _, after := _, guard := _ }) rfl (fun K hK => ?_) AllReadyH.nil
    refine step_append_lies _ (by rfl) _ _ _ (by rfl) 0 112 i0 _ 2 32 Try.underlying113 hi0 hz0 hz1 hz2 rfl (by omega) (.slice none 0 0) 0 [] (by rfl) (HOWN.out _)
        ⟨w.heap.size + 1, 0, none⟩ 1 1 [.string e1, .string e2] (by rfl) (by rfl) (World.news_of_block (cs := #[.string e1, .string e2]) (t := 112) (fr := (0, 0)) (two_new w _ _)) (by simp [Value.oneCell'])
        (by omega) (by unfold maxLen; omega) (by omega) (by simp) (w.heap.size + 2) (by simp) ?_
    intro gg cap' w3 hown hgrow hat hlt3
    have hc3 : w3.cell? ⟨g, i, none⟩ = some (.slice none 0 0) := (by rw [hgrow.cell_far _ (by simp; omega) (by simp [Value.ownBlock])]; exact two_cell hv1 _ _)
    have hf3 : w3.frozen? ⟨g, i, none⟩ = false := (by rw [hgrow.frozen_far _ (by simp; omega) (by simp [Value.ownBlock])]; exact two_frozen hv1 hfr _ _)
    refine hK.out _ _ (heldT_far hHeld hgrow (by simp [Value.ownBlock])) (fun hHeld => ?_)
    try simp only [Act.put, List.setIfInBounds_toArray, List.set_cons_zero, List.set_cons_succ]
    refine wpAnyH_take (i := 9) (oi := { dst := some 22, op := _, type := _, pos := _, after := _, guard := _ }) (v := ?v7) rfl (by kernel_rfl) (by kernel_rfl) (by kernel_rfl) (fun _ _ _ h => h) (Or.inl ⟨by rfl, ?hy7⟩) (by assumption) ?rest7
    case hy7 => (intro w hSw; go_simp; try with_reducible rfl)
    try simp only [Act.put, List.setIfInBounds_toArray, List.set_cons_zero, List.set_cons_succ]
    refine wpAnyH_ready (rs := [10]) (by kernel_rfl) (by simp) ?_
    refine AllReadyH.cons (o := { dst := none, op := _, type := _, pos := _, after := _, guard := _ }) rfl (fun K hK => ?_) AllReadyH.nil
    go_simp
    refine hK.out _ _ (heldT_set hHeld hne _) (fun hHeld => ?_)
    refine wpAnyH_done (by kernel_rfl) ?_ _
    go_wp2
    go_end0
    exact ⟨rfl, FIN.out w3 _ hgrow⟩
  · go_simp
    refine hK.out _ _ (heldT_alloc hHeld _) (fun hHeld => ?_)
    try simp only [Act.put, List.setIfInBounds_toArray, List.set_cons_zero, List.set_cons_succ]
    refine wpAnyH_ready (rs := [5]) (by kernel_rfl) (by simp) ?_
    refine AllReadyH.cons (o := { dst := some 18, op := _, type := _, pos := _, after := _, guard := _ }) rfl (fun K hK => ?_) AllReadyH.nil
    have hg1 := two_cell hv1 (.cells #[.string e1, .string e2] 112) (.cells #[.string e1, .string e2] 112)
    go_simp
    refine hK.out _ _ hHeld (fun hHeld => ?_)
    try simp only [Act.put, List.setIfInBounds_toArray, List.set_cons_zero, List.set_cons_succ]
    refine wpAnyH_ready (rs := [8]) (by kernel_rfl) (by simp) ?_
    refine AllReadyH.cons (o := { dst := some 21, op := _, type := _, pos := _, after := _, guard := _ }) rfl (fun K hK => ?_) AllReadyH.nil
    refine step_append_lies _ (by rfl) _ _ _ (by rfl) 0 112 i0 _ 2 32 Try.underlying113 hi0 hz0 hz1 hz2 rfl (by omega) (.slice none 0 0) 0 [] (by rfl) (HOWN.out _)
        ⟨w.heap.size + 1, 0, none⟩ 1 1 [.string e1, .string e2] (by rfl) (by rfl) (World.news_of_block (cs := #[.string e1, .string e2]) (t := 112) (fr := (0, 0)) (two_new w _ _)) (by simp [Value.oneCell'])
        (by omega) (by unfold maxLen; omega) (by omega) (by simp) (w.heap.size + 2) (by simp) ?_
    intro gg cap' w3 hown hgrow hat hlt3
    have hc3 : w3.cell? ⟨g, i, none⟩ = some (.slice none 0 0) := (by rw [hgrow.cell_far _ (by simp; omega) (by simp [Value.ownBlock])]; exact two_cell hv1 _ _)
    have hf3 : w3.frozen? ⟨g, i, none⟩ = false := (by rw [hgrow.frozen_far _ (by simp; omega) (by simp [Value.ownBlock])]; exact two_frozen hv1 hfr _ _)
    refine hK.out _ _ (heldT_far hHeld hgrow (by simp [Value.ownBlock])) (fun hHeld => ?_)
    try simp only [Act.put, List.setIfInBounds_toArray, List.set_cons_zero, List.set_cons_succ]
    refine wpAnyH_take (i := 9) (oi := { dst := some 22, op := _, type := _, pos := _, after := _, guard := _ }) (v := ?v8) rfl (by kernel_rfl) (by kernel_rfl) (by kernel_rfl) (fun _ _ _ h => h) (Or.inl ⟨by rfl, ?hy8⟩) (by assumption) ?rest8
    case hy8 => (intro w hSw; go_simp; try with_reducible rfl)
    try simp only [Act.put, List.setIfInBounds_toArray, List.set_cons_zero, List.set_cons_succ]
    refine wpAnyH_ready (rs := [10]) (by kernel_rfl) (by simp) ?_
    refine AllReadyH.cons (o := { dst := none, op := _, type := _, pos := _, after := _, guard := _ }) rfl (fun K hK => ?_) AllReadyH.nil
    go_simp
    refine hK.out _ _ (heldT_set hHeld hne _) (fun hHeld => ?_)
    refine wpAnyH_done (by kernel_rfl) ?_ _
    go_wp2
    go_end0
    exact ⟨rfl, FIN.out w3 _ hgrow⟩
set_option maxRecDepth 100000 in
set_option maxHeartbeats 1000000 in
theorem set_str {h : ByteArray → Nat} {seed : Nat} (hH : HashIs seed h) (w : World) (b : Nat) (key v : ByteArray) (hk : key.size ≤ maxLen) (hd : Ds w b seed) :
    Calls Try.prog 33 #[.pointer (some ⟨b, 0, none⟩), .string key, .string v] w fun e w' => e = .returned (.bool true) ∧ Sep (· = b) w w' := by
  have hbl : b < w.heap.size := (Array.getElem?_eq_some_iff.1 hd).1
  have HD := keep hd
  clear hd
  go_enter Try.func33, Try.ntmps33
  go_wp2_with fail
  refine (step_str w b seed HD.out).mono ?_
  rintro _ w' ⟨rfl, hw'⟩
  subst hw'
  go_wp2_with fail
  refine (find_str hH w' b key hk HD.out).mono ?_
  rintro _ w2 ⟨rfl, hb2⟩
  have hd2 : Ds w2 b seed := (hb2.block b hbl).trans HD.out
  have mG := grow_str w2 b seed hd2
  clear hd2
  go_wp2_with fail
  refine mG.mono ?_
  rintro _ w3 ⟨rfl, hd3, hT3, hb3, hs3⟩
  have hs2 := hb2.size
  obtain ⟨c0, c1, c2, c3, c4, cf⟩ := five hd3
  have mM := moving_str w3 b c3
  have mP := push_str hH w3 w2.heap.size key v hk hT3
  have HD3 := keep hd3
  clear mG hT3 hd3
  go_wp2_with fail
  refine mM.mono ?_
  rintro _ w5 ⟨rfl, hw5⟩
  subst hw5
  clear mM
  go_wp2_with fail
  refine mP.mono ?_
  rintro _ w4 ⟨rfl, hb4⟩
  have hd4 := (hb4.2.2 b (by have := hb3.2.1; omega) (by omega)).trans HD3.out
  obtain ⟨d0, d1, d2, d3, d4, df⟩ := five hd4
  have f1 := df 1
  have HB : Kept (∀ u, Sep (· = b) w' (w4.setCell ⟨b, 1, none⟩ u)) := fun u => by
    have q3 := hb3.2.1
    have q4 := hb4.2.1
    refine ⟨⟨hb4.1.1.trans (hb3.1.1.trans hb2.os), hb4.1.2.1.trans (hb3.1.2.1.trans hb2.tape), hb4.1.2.2.trans (hb3.1.2.2.trans hb2.output)⟩, by simp [World.setCell]; omega, fun k hk hn => ?_⟩
    rw [Below.heap_setCell _ _ _ _ hn, hb4.2.2 k (by omega) (by omega), hb3.2.2 k (by omega) hn]
    exact hb2.block k hk
  clear mP c0 c1 c2 c3 c4 cf hb4 hb3 hb2 hd4 df d0 d2 d3 d4
  go_wp2
  go_ret
  exact ⟨rfl, HB.out _⟩
end Go.Proofs.Ytcdcdodhpnmhpaa
