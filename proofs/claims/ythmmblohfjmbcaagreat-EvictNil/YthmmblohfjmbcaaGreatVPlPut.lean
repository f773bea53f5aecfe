/-
  Contracts over this program: one comes into a row, at its place.
-/
import Derived.Test.YthmmblohfjmbcaaGreatVPlMem
namespace Go.Proofs.YthmmblohfjmbcaaGreat.DV
open Go.RowKit Go.Shelf
set_option linter.unusedVariables false
set_option maxRecDepth 100000
theorem bs_any (w : World) (v : Value) (l : List Ent) (c : Ent) (h : Row w v l) (hm : l.Pairwise (fun a b => snr a b = true)) (hn : l.length ≤ 2000000) :
    Calls Tryz.prog 88 #[v, agE c, .func (.func 89) #[] #[]] w fun e w' => Bs l c w e w' := by
  rcases h.form with ⟨rfl, rfl⟩ | ⟨g, cp, rfl, hc1, hc2⟩
  · exact bs_nil none 0 c w _
  · exact bs_some g l.length cp l c w rfl hn (cel_of h) hm
theorem Row.slice {w : World} {v : Value} {l : List Ent} (h : Row w v l) : ∃ ao n c, v = .slice ao n c := by
  rcases h.form with ⟨rfl, _⟩ | ⟨g, c, rfl, _⟩ <;> exact ⟨_, _, _, rfl⟩
/-- one has come in -/
def Ins (w : World) (v : Value) (l' : List Ent) (e : Ending) (w' : World) : Prop :=
  ∃ v', e = .returned v' ∧ Row w' v' l' ∧ (v'.ownBlock = v.ownBlock ∨ ∃ k, v'.ownBlock = some k ∧ w.heap.size ≤ k) ∧ w.grownBy w' v.ownBlock
theorem enR_put (l : List Ent) (p : Nat) (e : Ent) : enR (l.take p ++ e :: l.drop p) = (enR l).take (p * 2) ++ mc e.1 e.2 ++ (enR l).drop (p * 2) := by
  rw [enR_app, enR_take, List.append_assoc, ← enR_drop]; rfl
theorem put_len (l : List Ent) (p : Nat) (e : Ent) (hp : p ≤ l.length) : (l.take p ++ e :: l.drop p).length = l.length + 1 := by
  rw [List.length_append, List.length_cons, List.length_take, List.length_drop]; omega
set_option maxHeartbeats 1000000 in
theorem ins_nil (w : World) (vb : Nat) (k : ByteArray) (x : Int) (hv : w.heap[vb]? = some (.cells #[.string k, .int .u64 x] 65 (0, 0))) :
    Calls Tryz.prog 90 #[.slice none 0 0, .int .i64 0, .slice (some ⟨vb, 0, none⟩) 1 1] w fun e w' => Ins w (.slice none 0 0) [(k, x)] e w' := by
  obtain ⟨i0, hi0, hz0, hz1, hz2⟩ := info_parts info_rk
  have uT := Tryz.underlying48
  have hC : w.ownsRow 0 65 2 (.slice none 0 0) 0 [] := ⟨rfl, .inl ⟨rfl, rfl⟩⟩
  obtain ⟨g', cap', W, r1, r2, r3, r4, r5⟩ := run_append_lies (P := Tryz.prog) w 48 48 0 65 i0 _ 2 24 uT hi0 hz0 hz1 hz2 (by simp [Value.cells]) (by decide) _ 0 [] hC ⟨vb, 0, none⟩ 1 1 (mc k x) rfl (mc_cell hv) mc_one (by decide) (by unfold maxLen; omega) (by omega) (Nat.zero_le _) w.heap.size rfl
  have hs0 : ∀ w, (Instr.slice 48 (.slice none 0 0) (some (.int .i64 0)) none none).run Tryz.prog w = .ok (.slice none 0 0) w := fun w => by
    have hb := fun code => run_sliceBound (P := Tryz.prog) (w := w) .i64 0 0 code (by omega) (by omega)
    simp [Instr.slice, Instr.sliceBounds, run_underlying uT, hb]
  have R1 := keep r1
  have HP : Kept (Ins w (.slice none 0 0) [(k, x)] (.returned (.slice (some ⟨g', 0, none⟩) 1 cap')) W) := by
    refine ⟨_, rfl, r2, ?_, r3⟩
    rcases r4 with e | e
    · cases e
    · exact .inr ⟨g', rfl, Nat.le_of_eq e.symm⟩
  generalize Ins w (.slice none 0 0) [(k, x)] = Q at *
  clear hC hv r1 r2 r3 r4 r5
  go_enter Tryz.func90, Tryz.ntmps90
  go_wp2_with (at_builtin; refine wpList_app_run rfl _ _ _ _ rfl _ _ _ rfl rfl R1.out ?_)
  first | exact HP.out | (go_ret; exact HP.out)
theorem ins_any (w : World) (v : Value) (l : List Ent) (vb p : Nat) (c : Ent) (h : Row w v l) (hv : w.heap[vb]? = some (.cells #[.string c.1, .int .u64 c.2] 65 (0, 0))) (hvg : v.ownBlock ≠ some vb) (hn : l.length ≤ 100000) (hp : p ≤ l.length) :
    Calls Tryz.prog 90 #[v, .int .i64 (p : Int), .slice (some ⟨vb, 0, none⟩) 1 1] w fun e w' => Ins w v (l.take p ++ c :: l.drop p) e w' := by
  rcases h.form with ⟨rfl, rfl⟩ | ⟨g, cp, rfl, hc1, hc2⟩
  · obtain rfl : p = 0 := by simpa using hp
    exact ins_nil w vb c.1 c.2 hv
  · refine (insM_any w g l.length cp vb p (enR l) c.1 c.2 h hv (fun e => hvg (by rw [e]; rfl)) hn hp enR_one).mono ?_
    rintro e w' ⟨g', cap', rfl, h1, h2, h3⟩
    refine ⟨_, rfl, ?_, ?_, h3⟩
    · unfold Row
      rw [put_len l p c hp, enR_put]
      exact h1
    · rcases h2 with rfl | h2
      · exact .inl rfl
      · exact .inr ⟨g', rfl, h2⟩
/-- one put into a row at its place -/
def put (c : Ent) (l : List Ent) : List Ent := l.filter (fun x => snr x c) ++ c :: l.filter (fun x => !snr x c)
theorem put_is {l : List Ent} {c : Ent} {k : Nat} (h : ∀ t x, l[t]? = some x → snr x c = decide (t < k)) : l.take k ++ c :: l.drop k = put c l := by
  have e := List.take_append_drop k l
  have h1 : ∀ x ∈ l.take k, snr x c = true := fun x hx => by
    obtain ⟨t, ht⟩ := List.mem_iff_getElem?.1 hx
    rw [List.getElem?_take] at ht
    split at ht
    · rw [h t x ht]; simpa
    · cases ht
  have h2 : ∀ x ∈ l.drop k, snr x c = false := fun x hx => by
    obtain ⟨t, ht⟩ := List.mem_iff_getElem?.1 hx
    rw [List.getElem?_drop] at ht
    rw [h _ x ht]; simp
  have f1 : l.filter (fun x => snr x c) = l.take k := by
    conv => lhs; rw [← e]
    rw [List.filter_append, List.filter_eq_self.2 h1, List.filter_eq_nil_iff.2 (fun x hx => by rw [h2 x hx]; simp), List.append_nil]
  have f2 : l.filter (fun x => !snr x c) = l.drop k := by
    conv => lhs; rw [← e]
    rw [List.filter_append, List.filter_eq_nil_iff.2 (fun x hx => by rw [h1 x hx]; simp), List.filter_eq_self.2 (fun x hx => by rw [h2 x hx]; rfl), List.nil_append]
  unfold put
  rw [f1, f2]
def S3 (b : Nat) (H : Nat) (c : Ent) (W : World) : Prop := W.cell? ⟨H, 0, none⟩ = some (.string c.1) ∧ W.cell? ⟨H, 1, none⟩ = some (.int .u64 c.2)
theorem S3.bel {b H : Nat} {c : Ent} {w w' : World} (h : S3 b H c w) (hb : Below w.heap.size w w') : S3 b H c w' := by
  have nu : ∀ {p : Addr} {v : Value}, w.cell? p = some v → w'.cell? p = some v := fun {p v} h => (hb.cell (p := p) (World.block_lt_of_cell? _ _ h)).trans h
  exact ⟨nu h.1, nu h.2⟩
def Putd (w : World) (b m : Nat) (v : Value) (l' : List Ent) (e : Ending) (w' : World) : Prop :=
  e = .returned (.tuple #[]) ∧ ∃ v', Pl w' b v' m l' ∧ Fm (bl b v) w (bl b v') w'
set_option maxHeartbeats 1000000 in
theorem putIn_any (w : World) (b m : Nat) (v : Value) (l : List Ent) (c : Ent) (h : Pl w b v m l) (hm : l.Pairwise (fun a b => snr a b = true)) (hn : l.length ≤ 100000) :
    Calls Tryz.prog 68 #[.pointer (some ⟨b, 0, none⟩), agE c] w fun e w' => Putd w b m v (put c l) e w' := by
  obtain ⟨W1, hW1⟩ : ∃ W1, w.alloc (.cells #[.string c.1, .int .u64 c.2] 65) = W1 := ⟨_, rfl⟩
  have hb1 : Below w.heap.size w W1 := by rw [← hW1]; exact (Below.refl _ w).alloc (Nat.le_refl _) _
  have hs1 : W1.heap.size = w.heap.size + 1 := by rw [← hW1]; simp
  have g1 : W1.heap[w.heap.size]? = some (.cells #[.string c.1, .int .u64 c.2] 65 (0, 0)) := by rw [← hW1]; exact heap_alloc_new _ _
  have h1 : Pl W1 b v m l := h.bel hb1
  have hbl : b < w.heap.size := h.lt b (by simp [bl])
  have hs : S3 b w.heap.size c W1.drew := ⟨(cells_two g1).1, (cells_two g1).2.1⟩
  have mB := bs_any W1.drew v l c h1.2.1 hm (by omega)
  obtain ⟨c1, c2⟩ := c
  unfold agE at *
  dsimp only at *
  have MB := keep mB
  have H0 := keep h
  have H1 := keep h1
  have HS := keep hs
  have HA : Kept (Below w.heap.size w W1 ∧ W1.heap.size = w.heap.size + 1 ∧ b < w.heap.size ∧ l.length ≤ 100000) := ⟨hb1, hs1, hbl, hn⟩
  obtain ⟨_, k1, _⟩ := h1.cells
  have K1 : Kept (W1.drew.cell? ⟨b, 1, none⟩ = some v) := k1
  have HQ : Kept (∀ w', (∃ v', Pl w' b v' m (put (c1, c2) l) ∧ Fm (bl b v) w (bl b v') w') → Putd w b m v (put (c1, c2) l) (.returned (.tuple #[])) w') := fun w' h => ⟨rfl, h⟩
  generalize Putd w b m v (put (c1, c2) l) = Q at *
  clear h h1 hs mB hb1 hs1 hbl hm hn g1 k1
  go_enter Tryz.func68, Tryz.ntmps68
  go_wp2_with fail
  try rw [hW1]
  refine wp_region_held_drew (S := fun W => W.cell? ⟨b, 1, none⟩ = some v ∧ S3 b w.heap.size (c1, c2) W) (by kernel_rfl) ⟨K1.out, HS.out⟩ (fun hHeld => ?_)
  refine wpAnyH_take (i := 0) (oi := { dst := some 7, op := _, type := _, pos := _, after := _, guard := _ }) (v := ?v1) rfl (by kernel_rfl) (by kernel_rfl) (by kernel_rfl) (fun _ _ _ h => h) (Or.inl ⟨by rfl, ?hy1⟩) (by assumption) ?rest1
  case hy1 => (intro w hSw; obtain ⟨p0,p1,p2⟩ := hSw; go_simp; try with_reducible rfl)
  try simp only [Act.put, List.setIfInBounds_toArray, List.set_cons_zero, List.set_cons_succ]
  refine wpAnyH_take (i := 1) (oi := { dst := some 8, op := _, type := _, pos := _, after := _, guard := _ }) (v := ?v2) rfl (by kernel_rfl) (by kernel_rfl) (by kernel_rfl) (fun _ _ _ h => h) (Or.inl ⟨by rfl, ?hy2⟩) (by assumption) ?rest2
  case hy2 => (intro w hSw; obtain ⟨p0,p1,p2⟩ := hSw; go_simp; try with_reducible rfl)
  try simp only [Act.put, List.setIfInBounds_toArray, List.set_cons_zero, List.set_cons_succ]
  refine wpAnyH_take (i := 2) (oi := { dst := some 9, op := _, type := _, pos := _, after := _, guard := _ }) (v := ?v3) rfl (by kernel_rfl) (by kernel_rfl) (by kernel_rfl) (fun _ _ _ h => h) (Or.inl ⟨by rfl, ?hy3⟩) (by assumption) ?rest3
  case hy3 => (intro w hSw; obtain ⟨p0,p1,p2⟩ := hSw; go_simp; try with_reducible rfl)
  try simp only [Act.put, List.setIfInBounds_toArray, List.set_cons_zero, List.set_cons_succ]
  refine wpAnyH_take (i := 3) (oi := { dst := some 10, op := _, type := _, pos := _, after := _, guard := _ }) (v := (v)) rfl (by kernel_rfl) (by kernel_rfl) (by kernel_rfl) (fun _ _ _ h => h) (Or.inl ⟨by rfl, ?hy4⟩) (by assumption) ?rest4
  case hy4 => (intro w hSw; obtain ⟨p0,p1,p2⟩ := hSw; first | (go_simp; done) | (go_simp; simp [*]; done) | (simp [*]; go_simp; done))
  try simp only [Act.put, List.setIfInBounds_toArray, List.set_cons_zero, List.set_cons_succ]
  refine wpAnyH_take (i := 4) (oi := { dst := some 11, op := _, type := _, pos := _, after := _, guard := _ }) (v := (.agg #[.string c1, .int .u64 c2])) rfl (by kernel_rfl) (by kernel_rfl) (by kernel_rfl) (fun _ _ _ h => h) (Or.inl ⟨by rfl, ?hy5⟩) (by assumption) ?rest5
  case hy5 => (intro w hSw; obtain ⟨p0,p1,p2⟩ := hSw; first | (go_simp; done) | (go_simp; simp [*]; done) | (simp [*]; go_simp; done))
  try simp only [Act.put, List.setIfInBounds_toArray, List.set_cons_zero, List.set_cons_succ]
  refine wpAnyH_ready (rs := [5]) (by kernel_rfl) (by simp) ?_
  refine AllReadyH.cons (o := { dst := some 12, op := _, type := _, pos := _, after := _, guard := _ }) rfl (fun K hK => ?_) AllReadyH.nil
  go_simp
  refine MB.out.mono ?_
  rintro _ w2 ⟨⟨k, bb, rfl, hk, hpre⟩, hb2⟩
  have k2 : w2.cell? ⟨b, 1, none⟩ = some v := (hb2.cell (p := ⟨b, 1, none⟩) (World.block_lt_of_cell? _ _ K1.out)).trans K1.out
  have s2 : S3 b w.heap.size (c1, c2) w2 := HS.out.bel hb2
  refine hK.out _ _ ⟨k2, s2⟩ (fun hHeld => ?_)
  try simp only [Act.put, List.setIfInBounds_toArray, List.set_cons_zero, List.set_cons_succ]
  clear hK
  refine wpAnyH_take (i := 6) (oi := { dst := some 6, op := _, type := _, pos := _, after := _, guard := _ }) (v := ?v6) rfl (by kernel_rfl) (by kernel_rfl) (by kernel_rfl) (fun _ _ _ h => h) (Or.inl ⟨by rfl, ?hy6⟩) (by assumption) ?rest6
  case hy6 => (intro w hSw; go_simp; try with_reducible rfl)
  try simp only [Act.put, List.setIfInBounds_toArray, List.set_cons_zero, List.set_cons_succ]
  refine wpAnyH_take (i := 7) (oi := { dst := some 13, op := _, type := _, pos := _, after := _, guard := _ }) (v := ?v7) rfl (by kernel_rfl) (by kernel_rfl) (by kernel_rfl) (fun _ _ _ h => h) (Or.inl ⟨by rfl, ?hy7⟩) (by assumption) ?rest7
  case hy7 => (intro w hSw; go_simp; try with_reducible rfl)
  try simp only [Act.put, List.setIfInBounds_toArray, List.set_cons_zero, List.set_cons_succ]
  refine wpAnyH_take (i := 8) (oi := { dst := some 14, op := _, type := _, pos := _, after := _, guard := _ }) (v := ?v8) rfl (by kernel_rfl) (by kernel_rfl) (by kernel_rfl) (fun _ _ _ h => h) (Or.inl ⟨by rfl, ?hy8⟩) (by assumption) ?rest8
  case hy8 => (intro w hSw; go_simp; try with_reducible rfl)
  try simp only [Act.put, List.setIfInBounds_toArray, List.set_cons_zero, List.set_cons_succ]
  refine wpAnyH_take (i := 9) (oi := { dst := some 4, op := _, type := _, pos := _, after := _, guard := _ }) (v := ?v9) rfl (by kernel_rfl) (by kernel_rfl) (by kernel_rfl) (fun _ _ _ h => h) (Or.inl ⟨by rfl, ?hy9⟩) (by assumption) ?rest9
  case hy9 => (intro w hSw; go_simp; try with_reducible rfl)
  try simp only [Act.put, List.setIfInBounds_toArray, List.set_cons_zero, List.set_cons_succ]
  refine wpAnyH_take (i := 10) (oi := { dst := some 5, op := _, type := _, pos := _, after := _, guard := _ }) (v := ?v10) rfl (by kernel_rfl) (by kernel_rfl) (by kernel_rfl) (fun _ _ _ h => h) (Or.inl ⟨by rfl, ?hy10⟩) (by assumption) ?rest10
  case hy10 => (intro w hSw; go_simp; try with_reducible rfl)
  try simp only [Act.put, List.setIfInBounds_toArray, List.set_cons_zero, List.set_cons_succ]
  refine wpAnyH_done (by kernel_rfl) ?_ _
  clear hHeld MB
  have hb12 : Below w.heap.size w w2 := Below.up (w := w) (W := W1) HA.out.1 ((Below.refl W1.heap.size W1).drew.trans hb2)
  have hp2 : Pl w2 b v m l := H0.out.bel hb12
  obtain ⟨W3, hW3⟩ : ∃ W3, w2.drew.alloc (.cells #[.string c1, .int .u64 c2] 65) = W3 := ⟨_, rfl⟩
  have hb3 : Below w2.heap.size w2 W3 := by rw [← hW3]; exact (Below.refl _ w2).drew.alloc (Nat.le_refl _) _
  have g3 : W3.heap[w2.heap.size]? = some (.cells #[.string c1, .int .u64 c2] 65 (0, 0)) := by rw [← hW3]; exact heap_alloc_new w2.drew _
  have hp3 : Pl W3 b v m l := hp2.bel hb3
  have mI := ins_any W3 v l w2.heap.size k (c1, c2) hp3.2.1 g3 (fun e => by have := hp2.2.1.lt e; omega) HA.out.2.2.2 hk
  have hlast : ∀ w4 v4, Row w4 v4 (l.take k ++ (c1, c2) :: l.drop k) → (v4.ownBlock = v.ownBlock ∨ ∃ k, v4.ownBlock = some k ∧ W3.heap.size ≤ k) → W3.grownBy w4 v.ownBlock →
      S3 b w.heap.size (c1, c2) w4 ∧ w4.cell? ⟨b, 1, none⟩ = some v ∧ w4.frozen? ⟨b, 1, none⟩ = false ∧ ∀ W5, W5 = w4.setCell ⟨b, 1, none⟩ v4 → S3 b w.heap.size (c1, c2) W5 ∧ ∃ v', Pl W5 b v' m (put (c1, c2) l) ∧ Fm (bl b v) w (bl b v') W5 := by
    intro w4 v4 r4 o4 gr
    obtain ⟨hb01, hs1, hbl, _⟩ := HA.out
    have hbb : W3.heap.size = w2.heap.size + 1 := by rw [← hW3]; simp
    have hsz2 : w.heap.size + 1 ≤ w2.heap.size := by have h := hb2.size; have h' : W1.drew.heap.size = W1.heap.size := rfl; omega
    have kb : w4.heap[b]? = W3.heap[b]? := gr.block b (by omega) (fun e => hp3.2.2 e.symm)
    have hb4 := kb.trans hp3.1
    have nH : some w.heap.size ≠ v.ownBlock := fun e => by have := H0.out.2.1.lt e.symm; omega
    have kH : w4.heap[w.heap.size]? = W3.heap[w.heap.size]? := gr.block _ (by omega) nH
    have s3 : S3 b w.heap.size (c1, c2) W3 := s2.bel hb3
    have s4 : S3 b w.heap.size (c1, c2) w4 := ⟨(World.cell?_of_block (w := W3) (a := ⟨w.heap.size, 0, none⟩) kH).trans s3.1, (World.cell?_of_block (w := W3) (a := ⟨w.heap.size, 1, none⟩) kH).trans s3.2⟩
    obtain ⟨_, q1, q2⟩ := cells_two hb4
    refine ⟨s4, q1, q2 _, ?_⟩
    rintro W5 rfl
    have kk : ∀ j, j ≠ b → (w4.setCell ⟨b, 1, none⟩ v4).heap[j]? = w4.heap[j]? := fun j hj => Below.heap_setCell _ _ _ _ hj
    have hHb : w.heap.size ≠ b := by omega
    have vb4 : v4.ownBlock ≠ some b := by
      rcases o4 with e | ⟨j, e, hj⟩
      · rw [e]; exact hp3.2.2
      · rw [e]; intro e'; injection e' with e'; omega
    refine ⟨⟨(World.cell?_of_block (w := w4) (a := ⟨w.heap.size, 0, none⟩) (kk _ hHb)).trans s4.1, (World.cell?_of_block (w := w4) (a := ⟨w.heap.size, 1, none⟩) (kk _ hHb)).trans s4.2⟩, v4, ⟨cells_set hb4, ?_, vb4⟩, ?_⟩
    · rw [← put_is hpre]
      exact r4.kept (fun j hj => kk j (fun e => vb4 (by rw [hj, e])))
    · have b3 : Below w.heap.size w W3 := Below.up hb12 hb3
      refine ⟨⟨?_, ?_, ?_⟩, ?_, fun j hj hnm => ?_⟩
      · exact gr.os.trans b3.os
      · exact gr.tape.trans b3.tape
      · exact gr.output.trans b3.output
      · have := gr.size; simp [World.setCell]; omega
      · have h1 : j ≠ b := fun e => hnm (by rw [e]; simp [bl])
        have h2 : some j ≠ v.ownBlock := fun e => hnm (by simp [bl, ← e])
        refine ⟨(kk j h1).trans ((gr.block j (by omega) h2).trans (b3.block j hj)), ?_⟩
        intro hj'
        rcases List.mem_cons.1 hj' with e | hj'
        · exact h1 e
        · rcases o4 with e | ⟨i, e, hi⟩
          · rw [e] at hj'; exact h2 (Eq.symm (by simpa using hj'))
          · rw [e] at hj'
            have : j = i := by simpa using hj'
            omega
  have HL := keep hlast
  have MI := keep mI
  have S2 : Kept (S3 b w.heap.size (c1, c2) w2.drew) := s2
  have SW3 : Kept (S3 b w.heap.size (c1, c2) W3) := s2.bel hb3
  have X2 : Kept (w2.drew.cell? ⟨b, 1, none⟩ = some v) := k2
  have X3 : Kept (W3.cell? ⟨b, 1, none⟩ = some v) := hp3.cells.2.1
  clear hlast mI hp3 g3 hp2 hb12 s2 k2 hpre hk hb2 hb3
  go_wp2_with fail
  refine wp_region_held_drew (S := S3 b w.heap.size (c1, c2)) (by kernel_rfl) S2.out (fun hHeld => ?_)
  refine wpAnyH_take (i := 0) (oi := { dst := some 15, op := _, type := _, pos := _, after := _, guard := _ }) (v := ?v11) rfl (by kernel_rfl) (by kernel_rfl) (by kernel_rfl) (fun _ _ _ h => h) (Or.inl ⟨by rfl, ?hy11⟩) (by assumption) ?rest11
  case hy11 => (intro w hSw; obtain ⟨p1,p2⟩ := hSw; go_simp; try with_reducible rfl)
  try simp only [Act.put, List.setIfInBounds_toArray, List.set_cons_zero, List.set_cons_succ]
  refine wpAnyH_take (i := 1) (oi := { dst := some 16, op := _, type := _, pos := _, after := _, guard := _ }) (v := ?v12) rfl (by kernel_rfl) (by kernel_rfl) (by kernel_rfl) (fun _ _ _ h => h) (Or.inl ⟨by rfl, ?hy12⟩) (by assumption) ?rest12
  case hy12 => (intro w hSw; obtain ⟨p1,p2⟩ := hSw; go_simp; try with_reducible rfl)
  try simp only [Act.put, List.setIfInBounds_toArray, List.set_cons_zero, List.set_cons_succ]
  refine wpAnyH_take (i := 2) (oi := { dst := some 17, op := _, type := _, pos := _, after := _, guard := _ }) (v := ?v13) rfl (by kernel_rfl) (by kernel_rfl) (by kernel_rfl) (fun _ _ _ h => h) (Or.inl ⟨by rfl, ?hy13⟩) (by assumption) ?rest13
  case hy13 => (intro w hSw; obtain ⟨p1,p2⟩ := hSw; go_simp; try with_reducible rfl)
  try simp only [Act.put, List.setIfInBounds_toArray, List.set_cons_zero, List.set_cons_succ]
  refine wpAnyH_take (i := 3) (oi := { dst := some 18, op := _, type := _, pos := _, after := _, guard := _ }) (v := ?v14) rfl (by kernel_rfl) (by kernel_rfl) (by kernel_rfl) (fun _ _ _ h => h) (Or.inl ⟨by rfl, ?hy14⟩) (by assumption) ?rest14
  case hy14 => (intro w hSw; obtain ⟨p1,p2⟩ := hSw; go_simp; try with_reducible rfl)
  try simp only [Act.put, List.setIfInBounds_toArray, List.set_cons_zero, List.set_cons_succ]
  refine wpAnyH_take (i := 5) (oi := { dst := some 20, op := _, type := _, pos := _, after := _, guard := _ }) (v := ?v15) rfl (by kernel_rfl) (by kernel_rfl) (by kernel_rfl) (fun _ _ _ h => h) (Or.inl ⟨by rfl, ?hy15⟩) (by assumption) ?rest15
  case hy15 => (intro w hSw; obtain ⟨p1,p2⟩ := hSw; go_simp; try with_reducible rfl)
  try simp only [Act.put, List.setIfInBounds_toArray, List.set_cons_zero, List.set_cons_succ]
  refine wpAnyH_take (i := 6) (oi := { dst := some 21, op := _, type := _, pos := _, after := _, guard := _ }) (v := (.agg #[.string c1, .int .u64 c2])) rfl (by kernel_rfl) (by kernel_rfl) (by kernel_rfl) (fun _ _ _ h => h) (Or.inl ⟨by rfl, ?hy16⟩) (by assumption) ?rest16
  case hy16 => (intro w hSw; obtain ⟨p1,p2⟩ := hSw; first | (go_simp; done) | (go_simp; simp [*]; done) | (simp [*]; go_simp; done))
  try simp only [Act.put, List.setIfInBounds_toArray, List.set_cons_zero, List.set_cons_succ]
  refine wpAnyH_ready (rs := [4, 7]) (by kernel_rfl) (by simp) ?_
  refine AllReadyH.cons (o := { dst := some 19, op := _, type := _, pos := _, after := _, guard := _ }) rfl (fun K hK => ?_) (AllReadyH.cons (o := { dst := some 22, op := _, type := _, pos := _, after := _, guard := _ }) rfl (fun K hK => ?_) AllReadyH.nil)
  · have cL := X2.out
    go_simp
    refine hK.out _ _ S2.out (fun hHeld => ?_)
    try simp only [Act.put, List.setIfInBounds_toArray, List.set_cons_zero, List.set_cons_succ]
    clear hK cL
    refine wpAnyH_ready (rs := [7]) (by kernel_rfl) (by simp) ?_
    refine AllReadyH.cons (o := { dst := some 22, op := _, type := _, pos := _, after := _, guard := _ }) rfl (fun K hK => ?_) AllReadyH.nil
    go_simp
    try rw [hW3]
    refine hK.out _ _ SW3.out (fun hHeld => ?_)
    try simp only [Act.put, List.setIfInBounds_toArray, List.set_cons_zero, List.set_cons_succ]
    clear hK
    refine wpAnyH_ready (rs := [8]) (by kernel_rfl) (by simp) ?_
    refine AllReadyH.cons (o := { dst := some 23, op := _, type := _, pos := _, after := _, guard := _ }) rfl (fun K hK => ?_) AllReadyH.nil
    go_simp
    refine MI.out.mono ?_
    rintro _ w4 ⟨v4, rfl, r4, o4, gr⟩
    obtain ⟨ao4, n4, c4, rfl⟩ := r4.slice
    obtain ⟨s4, cT, cF, hl⟩ := HL.out w4 _ r4 o4 gr
    obtain ⟨W5, hW5⟩ : ∃ W5, w4.setCell ⟨b, 1, none⟩ (.slice ao4 n4 c4) = W5 := ⟨_, rfl⟩
    have HL5 := keep (hl W5 hW5.symm)
    refine hK.out _ _ s4 (fun hHeld => ?_)
    try simp only [Act.put, List.setIfInBounds_toArray, List.set_cons_zero, List.set_cons_succ]
    clear hK hl r4 o4 gr HL MI
    refine wpAnyH_take (i := 9) (oi := { dst := some 24, op := _, type := _, pos := _, after := _, guard := _ }) (v := ?v17) rfl (by kernel_rfl) (by kernel_rfl) (by kernel_rfl) (fun _ _ _ h => h) (Or.inl ⟨by rfl, ?hy17⟩) (by assumption) ?rest17
    case hy17 => (intro w hSw; go_simp; try with_reducible rfl)
    try simp only [Act.put, List.setIfInBounds_toArray, List.set_cons_zero, List.set_cons_succ]
    refine wpAnyH_take (i := 10) (oi := { dst := some 25, op := _, type := _, pos := _, after := _, guard := _ }) (v := ?v18) rfl (by kernel_rfl) (by kernel_rfl) (by kernel_rfl) (fun _ _ _ h => h) (Or.inl ⟨by rfl, ?hy18⟩) (by assumption) ?rest18
    case hy18 => (intro w hSw; go_simp; try with_reducible rfl)
    try simp only [Act.put, List.setIfInBounds_toArray, List.set_cons_zero, List.set_cons_succ]
    refine wpAnyH_ready (rs := [11]) (by kernel_rfl) (by simp) ?_
    refine AllReadyH.cons (o := { dst := none, op := _, type := _, pos := _, after := _, guard := _ }) rfl (fun K hK => ?_) AllReadyH.nil
    go_simp
    try rw [hW5]
    refine hK.out _ _ HL5.out.1 (fun hHeld => ?_)
    try simp only [Act.put, List.setIfInBounds_toArray, List.set_cons_zero, List.set_cons_succ]
    clear hK cT cF
    refine wpAnyH_done (by kernel_rfl) ?_ _
    clear hHeld
    go_wp2
    first | exact HQ.out _ HL5.out.2 | (go_end0; exact HQ.out _ HL5.out.2)
  · go_simp
    try rw [hW3]
    refine hK.out _ _ SW3.out (fun hHeld => ?_)
    try simp only [Act.put, List.setIfInBounds_toArray, List.set_cons_zero, List.set_cons_succ]
    clear hK
    have cL := X3.out
    refine wpAnyH_ready (rs := [4]) (by kernel_rfl) (by simp) ?_
    refine AllReadyH.cons (o := { dst := some 19, op := _, type := _, pos := _, after := _, guard := _ }) rfl (fun K hK => ?_) AllReadyH.nil
    go_simp
    refine hK.out _ _ SW3.out (fun hHeld => ?_)
    try simp only [Act.put, List.setIfInBounds_toArray, List.set_cons_zero, List.set_cons_succ]
    clear hK cL
    refine wpAnyH_ready (rs := [8]) (by kernel_rfl) (by simp) ?_
    refine AllReadyH.cons (o := { dst := some 23, op := _, type := _, pos := _, after := _, guard := _ }) rfl (fun K hK => ?_) AllReadyH.nil
    go_simp
    refine MI.out.mono ?_
    rintro _ w4 ⟨v4, rfl, r4, o4, gr⟩
    obtain ⟨ao4, n4, c4, rfl⟩ := r4.slice
    obtain ⟨s4, cT, cF, hl⟩ := HL.out w4 _ r4 o4 gr
    obtain ⟨W5, hW5⟩ : ∃ W5, w4.setCell ⟨b, 1, none⟩ (.slice ao4 n4 c4) = W5 := ⟨_, rfl⟩
    have HL5 := keep (hl W5 hW5.symm)
    refine hK.out _ _ s4 (fun hHeld => ?_)
    try simp only [Act.put, List.setIfInBounds_toArray, List.set_cons_zero, List.set_cons_succ]
    clear hK hl r4 o4 gr HL MI
    refine wpAnyH_take (i := 9) (oi := { dst := some 24, op := _, type := _, pos := _, after := _, guard := _ }) (v := ?v19) rfl (by kernel_rfl) (by kernel_rfl) (by kernel_rfl) (fun _ _ _ h => h) (Or.inl ⟨by rfl, ?hy19⟩) (by assumption) ?rest19
    case hy19 => (intro w hSw; go_simp; try with_reducible rfl)
    try simp only [Act.put, List.setIfInBounds_toArray, List.set_cons_zero, List.set_cons_succ]
    refine wpAnyH_take (i := 10) (oi := { dst := some 25, op := _, type := _, pos := _, after := _, guard := _ }) (v := ?v20) rfl (by kernel_rfl) (by kernel_rfl) (by kernel_rfl) (fun _ _ _ h => h) (Or.inl ⟨by rfl, ?hy20⟩) (by assumption) ?rest20
    case hy20 => (intro w hSw; go_simp; try with_reducible rfl)
    try simp only [Act.put, List.setIfInBounds_toArray, List.set_cons_zero, List.set_cons_succ]
    refine wpAnyH_ready (rs := [11]) (by kernel_rfl) (by simp) ?_
    refine AllReadyH.cons (o := { dst := none, op := _, type := _, pos := _, after := _, guard := _ }) rfl (fun K hK => ?_) AllReadyH.nil
    go_simp
    try rw [hW5]
    refine hK.out _ _ HL5.out.1 (fun hHeld => ?_)
    try simp only [Act.put, List.setIfInBounds_toArray, List.set_cons_zero, List.set_cons_succ]
    clear hK cT cF
    refine wpAnyH_done (by kernel_rfl) ?_ _
    clear hHeld
    go_wp2
    first | exact HQ.out _ HL5.out.2 | (go_end0; exact HQ.out _ HL5.out.2)
end Go.Proofs.YthmmblohfjmbcaaGreat.DV
