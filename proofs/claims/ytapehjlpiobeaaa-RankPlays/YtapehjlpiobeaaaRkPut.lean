/-
  Contracts over this program: putIn.
-/
import Derived.Test.YtapehjlpiobeaaaRkPart
namespace Go.Proofs.Ytapehjlpiobeaaa
open Go.RowKit Go.Shelf
set_option linter.unusedVariables false
set_option linter.unusedSimpArgs false
/-- a new member's place among all -/
def Pl (L : List Ent) (e : Ent) (L' : List Ent) : Prop := ∃ l1 l2, L = l1 ++ l2 ∧ L' = l1 ++ e :: l2 ∧ (∀ a ∈ l1, ahd a e = true) ∧ ∀ a ∈ l2, ahd a e = false
theorem put_end {T : List Rw} {e : Ent} {i : Nat} {x : Rw} (hx : T[i]? = some x) (hi : i + 1 = T.length) (hs : ∀ a ∈ flat T, ahd a e = true) :
    Pl (flat T) e (flat (T.take i) ++ (x.2.2.take x.2.2.length ++ e :: x.2.2.drop x.2.2.length) ++ flat (T.drop (i + 1))) := by
  refine ⟨flat T, [], (List.append_nil _).symm, ?_, hs, fun a h => absurd h (by simp)⟩
  rw [flat_at hx, List.drop_of_length_le (by omega : T.length ≤ i + 1), List.take_length, List.drop_length]
  simp [flat_nil]
theorem put_mid {T : List Rw} {e : Ent} {i p : Nat} {x : Rw} (hx : T[i]? = some x) (s1 : ∀ a ∈ flat (T.take i), ahd a e = true) (s2 : ∀ a ∈ x.2.2.take p, ahd a e = true) (s3 : ∀ a ∈ x.2.2.drop p, ahd a e = false) (s4 : ∀ a ∈ flat (T.drop (i + 1)), ahd a e = false) :
    Pl (flat T) e (flat (T.take i) ++ (x.2.2.take p ++ e :: x.2.2.drop p) ++ flat (T.drop (i + 1))) := by
  refine ⟨flat (T.take i) ++ x.2.2.take p, x.2.2.drop p ++ flat (T.drop (i + 1)), ?_, ?_, fun a ha => ?_, fun a ha => ?_⟩
  · rw [flat_at hx]
    conv => lhs; rw [← List.take_append_drop p x.2.2]
    simp only [List.append_assoc]
  · simp only [List.append_assoc, List.cons_append]
  · rcases List.mem_append.1 ha with h | h
    · exact s1 a h
    · exact s2 a h
  · rcases List.mem_append.1 ha with h | h
    · exact s3 a h
    · exact s4 a h
def Putd (R : Nat) (u0 u1 u3 rv : Value) (T : List Rw) (e : Ent) (w w' : World) : Prop := ∃ L', Pl (flat T) e L' ∧ Chg R u0 u1 u3 rv T L' w w'
set_option maxRecDepth 100000 in
set_option maxHeartbeats 2000000 in
theorem putIn_nil (w : World) (R : Nat) (u0 u1 u3 rv : Value) (e : Ent) (hL : Lay w R u0 u1 u3 rv []) :
    Calls Try.prog 54 #[.pointer (some ⟨R, 0, none⟩), agE e] w fun en w' => en = .returned (.tuple #[]) ∧ Putd R u0 u1 u3 rv [] e w w' := by
  have sf : ∀ (x : Nat) (w : World) (a : Addr), (store a (.float .f64 x)).run Try.prog w = stored Try.prog w a (.float .f64 x) .plain := fun x w a => run_store _ w a _ _ rfl
  obtain ⟨i0, hi0, hz0, hz1, hz2⟩ := info_parts info_rw
  have uT := Try.underlying61
  obtain ⟨e1, e2⟩ := e
  obtain ⟨W0, hW0⟩ : ∃ W0, w.alloc (.cells #[.string e1, .float .f64 e2] 46) = W0 := ⟨_, rfl⟩
  obtain ⟨W1, hW1⟩ : ∃ W1, W0.drew.alloc (.cells #[.string e1, .float .f64 e2] 46) = W1 := ⟨_, rfl⟩
  obtain ⟨W2, hW2⟩ : ∃ W2, W1.alloc (.cells #[.slice (some ⟨W0.heap.size, 0, none⟩) 1 1] 41) = W2 := ⟨_, rfl⟩
  have hb0 : Below w.heap.size w W0 := by rw [← hW0]; exact (Below.refl _ w).alloc (Nat.le_refl _) _
  have hb1 : Below W0.heap.size W0 W1 := by rw [← hW1]; exact (Below.refl _ W0).drew.alloc (Nat.le_refl _) _
  have hb2 : Below W1.heap.size W1 W2 := by rw [← hW2]; exact (Below.refl _ W1).alloc (Nat.le_refl _) _
  have hb02 : Below w.heap.size w W2 := Below.up (Below.up hb0 hb1) hb2
  have hs0 : W0.heap.size = w.heap.size + 1 := by rw [← hW0]; simp
  have hs1 : W1.heap.size = W0.heap.size + 1 := by rw [← hW1]; show (W0.alloc _).heap.size = _; simp
  have hh0 : W0.heap[w.heap.size]? = some (.cells #[.string e1, .float .f64 e2] 46 (0, 0)) := by rw [← hW0]; exact heap_alloc_new _ _
  have hh1 : W1.heap[W0.heap.size]? = some (.cells #[.string e1, .float .f64 e2] 46 (0, 0)) := by rw [← hW1]; exact heap_alloc_new W0.drew _
  have hh2 : W2.heap[W1.heap.size]? = some (.cells #[.slice (some ⟨W0.heap.size, 0, none⟩) 1 1] 41 (0, 0)) := by rw [← hW2]; exact heap_alloc_new _ _
  have hL2 := hL.below hb02
  have hown : W2.ownsRow 0 41 1 rv 0 [] := hL2.2.1.1
  obtain ⟨g', c', W3, r1, r2, r3, r4, r5⟩ := run_append_lies (P := Try.prog) W2 61 61 0 41 i0 _ 1 24 uT hi0 hz0 hz1 hz2 (by simp [Value.cells]) (by decide) rv 0 [] hown ⟨W1.heap.size, 0, none⟩ 1 1 [.slice (some ⟨W0.heap.size, 0, none⟩) 1 1] rfl (fun j u hj => by
    cases j with
    | zero => cases hj; rw [add_at, cell_of_row _ _ _ _ _ _ hh2]; rfl
    | succ j => simp at hj) (fun u hu => by simp at hu; subst hu; rfl) (by decide) (by unfold maxLen; omega) (by omega) (Nat.zero_le _) W2.heap.size rfl
  rw [Nat.zero_add, List.nil_append] at r2
  rw [Nat.zero_add] at r1
  obtain ⟨o, c, hrv⟩ := hL.2.1.len
  have hrow2 : W2.heap[W0.heap.size]? = some (.cells #[.string e1, .float .f64 e2] 46 (0, 0)) := by rw [hb2.block _ (by omega)]; exact hh1
  have hbl : ∀ k, rv.ownBlock = some k → k < w.heap.size := fun k hk => hL.lt k (by unfold bl; simp [hk])
  have hrow3 : W3.heap[W0.heap.size]? = some (.cells #[.string e1, .float .f64 e2] 46 (0, 0)) := by rw [r3.block _ (by have := hb2.size; omega) (fun e => by have := hbl _ e.symm; omega)]; exact hrow2
  have hrow : Row W3 (W0.heap.size, 1, [(e1, e2)]) := own_of hrow3 (Nat.le_refl 1) (show 1 ≤ maxLen by decide) rfl rfl rfl
  have hRl : R < w.heap.size := hL.lt R (by simp)
  have hRn : ∀ k, rv.ownBlock = some k → k ≠ R := fun k hk e => hL.2.2 (by unfold bl; simp [← e, hk])
  have hg' : rv.ownBlock = some g' ∨ w.heap.size ≤ g' := r4.imp id (fun e => by rw [e]; exact hb02.size)
  have hg0 : g' ≠ W0.heap.size := fun e => by
    rcases r4 with h | h
    · have := hbl _ h; omega
    · have := hb2.size; omega
  have hR3 : W3.heap[R]? = w.heap[R]? := by rw [r3.block R (by have := hb02.size; omega) (fun e => hRn R e.symm rfl)]; exact hb02.block R hRl
  have hrws : Rws W3 (.slice (some ⟨g', 0, none⟩) 1 c') [(W0.heap.size, 1, [(e1, e2)])] := by
    refine ⟨r2, fun x hx => ?_, ?_⟩
    · simp at hx; subst hx; exact hrow
    · rw [bl_some]; simp; exact hg0
  have hput := hL.put hR3 hrws (by
    rw [bl_some]; simp
    refine ⟨fun e => ?_, by omega⟩
    rcases hg' with h | h
    · exact hRn g' h e.symm
    · omega) ⟨r3.os.trans hb02.os, r3.tape.trans hb02.tape, r3.output.trans hb02.output⟩ (Nat.le_trans hb02.size r3.size) (fun k hk hkm => by
    simp only [List.mem_cons, not_or] at hkm
    have hkr : rv.ownBlock ≠ some k := fun e => hkm.2 (by unfold bl; simp [e])
    refine ⟨by rw [r3.block k (by have := hb02.size; omega) (fun e => hkr e.symm)]; exact hb02.block k hk, ?_⟩
    rw [bl_some]; simp
    refine ⟨fun e => ?_, by omega⟩
    rcases hg' with h | h
    · exact hkr (by rw [e]; exact h)
    · omega)
  have HP : Kept (Putd R u0 u1 u3 rv [] (e1, e2) w (W3.setCell ⟨R, 2, none⟩ (.slice (some ⟨g', 0, none⟩) 1 c'))) := by
    refine ⟨[(e1, e2)], ⟨[], [], rfl, rfl, fun a h => absurd h (by simp), fun a h => absurd h (by simp)⟩, _, _, hput.1, rfl, fun u hu => ?_, hput.2⟩
    simp at hu; subst hu; exact ⟨by simp, by simp⟩
  have t3 := four (hR3.trans hL.1)
  have T2 := keep t3.2.2.1
  have TF := keep (t3.2.2.2.2 2)
  have R1 := keep r1
  subst hrv
  have lenz : ([] : List Rw).length = 0 := rfl
  rw [lenz] at *
  have d0 := (four (hL.below hb0).1).2.2.1
  have cell0 : ∀ W, Below W0.heap.size W0 W → W.cell? ⟨R, 2, none⟩ = some (.slice o 0 c) ∧ W.cell? ⟨w.heap.size, 0, none⟩ = some (.string e1) ∧ W.cell? ⟨w.heap.size, 1, none⟩ = some (.float .f64 e2) := fun W hW => by
    have q : W.heap[w.heap.size]? = some (.cells #[.string e1, .float .f64 e2] 46 (0, 0)) := by rw [hW.block _ (by omega)]; exact hh0
    exact ⟨(hW.cell (p := ⟨R, 2, none⟩) (by rw [hs0]; show R < _; omega)).trans d0, by simp [World.cell?, q], by simp [World.cell?, q]⟩
  have CA := keep (cell0 W0.drew (Below.refl _ W0).drew)
  have CB := keep (cell0 W1 hb1)
  have CC := keep (cell0 W2 (Below.up hb1 hb2))
  have CD : Kept (W3.cell? ⟨w.heap.size, 0, none⟩ = some (.string e1) ∧ W3.cell? ⟨w.heap.size, 1, none⟩ = some (.float .f64 e2)) := by
    have q : W3.heap[w.heap.size]? = W2.heap[w.heap.size]? := r3.block _ (by have := hb2.size; omega) (fun e => by have := hbl _ e.symm; omega)
    exact ⟨(World.cell?_of_block (w := W2) (a := ⟨w.heap.size, 0, none⟩) q).trans CC.out.2.1, (World.cell?_of_block (w := W2) (a := ⟨w.heap.size, 1, none⟩) q).trans CC.out.2.2⟩
  have CE : Kept ((W3.setCell ⟨R, 2, none⟩ (.slice (some ⟨g', 0, none⟩) 1 c')).cell? ⟨w.heap.size, 0, none⟩ = some (.string e1) ∧ (W3.setCell ⟨R, 2, none⟩ (.slice (some ⟨g', 0, none⟩) 1 c')).cell? ⟨w.heap.size, 1, none⟩ = some (.float .f64 e2)) := by
    have q : (W3.setCell ⟨R, 2, none⟩ (.slice (some ⟨g', 0, none⟩) 1 c')).heap[w.heap.size]? = W3.heap[w.heap.size]? := Below.heap_setCell _ _ _ _ (by show w.heap.size ≠ R; omega)
    exact ⟨(World.cell?_of_block (w := W3) (a := ⟨w.heap.size, 0, none⟩) q).trans CD.out.1, (World.cell?_of_block (w := W3) (a := ⟨w.heap.size, 1, none⟩) q).trans CD.out.2⟩
  have HS1 := keep hs1
  unfold agE
  dsimp only
  clear hL hb0 hb1 hb2 hb02 hs0 hh0 hh1 hh2 hL2 hown r1 r2 r3 r4 r5 hrow2 hbl hrow3 hrow hRl hRn hg' hg0 hR3 hrws hput t3 cell0 hs1
  go_enter Try.func54, Try.ntmps54
  go_wp2_with fail
  try rw [hW0]
  refine wp_region_held_drew (S := fun W => W.cell? ⟨w.heap.size, 0, none⟩ = some (.string e1) ∧ W.cell? ⟨w.heap.size, 1, none⟩ = some (.float .f64 e2)) (by kernel_rfl) CA.out.2 (fun hHeld => ?_)
  refine wpAnyH_take (i := 0) (oi := { dst := some 12, op := _, type := _, pos := _, after := _, guard := _ }) (v := ?v351) rfl (by kernel_rfl) (by kernel_rfl) (by kernel_rfl) (fun _ _ _ h => h) (Or.inl ⟨by rfl, ?hy351⟩) (by assumption) ?rest351
  case hy351 => (intro w hSw; obtain ⟨p0,p1⟩ := hSw; go_simp; try with_reducible rfl)
  try simp only [Act.put, List.setIfInBounds_toArray, List.set_cons_zero, List.set_cons_succ]
  refine wpAnyH_take (i := 1) (oi := { dst := some 13, op := _, type := _, pos := _, after := _, guard := _ }) (v := ?v352) rfl (by kernel_rfl) (by kernel_rfl) (by kernel_rfl) (fun _ _ _ h => h) (Or.inl ⟨by rfl, ?hy352⟩) (by assumption) ?rest352
  case hy352 => (intro w hSw; obtain ⟨p0,p1⟩ := hSw; go_simp; try with_reducible rfl)
  try simp only [Act.put, List.setIfInBounds_toArray, List.set_cons_zero, List.set_cons_succ]
  refine wpAnyH_take (i := 2) (oi := { dst := some 14, op := _, type := _, pos := _, after := _, guard := _ }) (v := ?v353) rfl (by kernel_rfl) (by kernel_rfl) (by kernel_rfl) (fun _ _ _ h => h) (Or.inl ⟨by rfl, ?hy353⟩) (by assumption) ?rest353
  case hy353 => (intro w hSw; obtain ⟨p0,p1⟩ := hSw; go_simp; try with_reducible rfl)
  try simp only [Act.put, List.setIfInBounds_toArray, List.set_cons_zero, List.set_cons_succ]
  refine wpAnyH_take (i := 3) (oi := { dst := some 15, op := _, type := _, pos := _, after := _, guard := _ }) (v := ?v354) rfl (by kernel_rfl) (by kernel_rfl) (by kernel_rfl) (fun _ _ _ h => h) (Or.inl ⟨by rfl, ?hy354⟩) (by assumption) ?rest354
  case hy354 => (intro w hSw; obtain ⟨p0,p1⟩ := hSw; go_simp; try with_reducible rfl)
  try simp only [Act.put, List.setIfInBounds_toArray, List.set_cons_zero, List.set_cons_succ]
  refine wpAnyH_take (i := 5) (oi := { dst := some 17, op := _, type := _, pos := _, after := _, guard := _ }) (v := (.agg #[.string e1, .float .f64 e2])) rfl (by kernel_rfl) (by kernel_rfl) (by kernel_rfl) (fun _ _ _ h => h) (Or.inl ⟨by rfl, ?hy355⟩) (by assumption) ?rest355
  case hy355 => (intro w hSw; obtain ⟨p0,p1⟩ := hSw; first | (go_simp; done) | (go_simp; simp [*]; done) | (simp [*]; go_simp; done))
  try simp only [Act.put, List.setIfInBounds_toArray, List.set_cons_zero, List.set_cons_succ]
  refine wpAnyH_ready (rs := [4, 6]) (by kernel_rfl) (by simp) ?_
  refine AllReadyH.cons (o := { dst := some 16, op := _, type := _, pos := _, after := _, guard := _ }) rfl (fun K hK => ?_) (AllReadyH.cons (o := { dst := some 18, op := _, type := _, pos := _, after := _, guard := _ }) rfl (fun K hK => ?_) AllReadyH.nil)
  · have cL := CA.out.1
    go_simp
    refine hK.out _ _ CA.out.2 (fun hHeld => ?_)
    try simp only [Act.put, List.setIfInBounds_toArray, List.set_cons_zero, List.set_cons_succ]
    clear hK cL
    refine wpAnyH_ready (rs := [6]) (by kernel_rfl) (by simp) ?_
    refine AllReadyH.cons (o := { dst := some 18, op := _, type := _, pos := _, after := _, guard := _ }) rfl (fun K hK => ?_) AllReadyH.nil
    go_simp
    try rw [hW1]
    refine hK.out _ _ CB.out.2 (fun hHeld => ?_)
    try simp only [Act.put, List.setIfInBounds_toArray, List.set_cons_zero, List.set_cons_succ]
    clear hK
    refine wpAnyH_ready (rs := [7]) (by kernel_rfl) (by simp) ?_
    refine AllReadyH.cons (o := { dst := some 19, op := _, type := _, pos := _, after := _, guard := _ }) rfl (fun K hK => ?_) AllReadyH.nil
    go_simp
    try rw [hW2]
    refine hK.out _ _ CC.out.2 (fun hHeld => ?_)
    try simp only [Act.put, List.setIfInBounds_toArray, List.set_cons_zero, List.set_cons_succ]
    clear hK
    refine wpAnyH_ready (rs := [8]) (by kernel_rfl) (by simp) ?_
    refine AllReadyH.cons (o := { dst := some 20, op := _, type := _, pos := _, after := _, guard := _ }) rfl (fun K hK => ?_) AllReadyH.nil
    rw [if_pos (by rfl)]
    refine wp_app_run (.tmp 16) (.tmp 19) 61 61 rfl _ _ _ rfl rfl R1.out ?_
    refine hK.out _ _ CD.out (fun hHeld => ?_)
    try simp only [Act.put, List.setIfInBounds_toArray, List.set_cons_zero, List.set_cons_succ]
    clear hK
    refine wpAnyH_take (i := 9) (oi := { dst := some 21, op := _, type := _, pos := _, after := _, guard := _ }) (v := ?v356) rfl (by kernel_rfl) (by kernel_rfl) (by kernel_rfl) (fun _ _ _ h => h) (Or.inl ⟨by rfl, ?hy356⟩) (by assumption) ?rest356
    case hy356 => (intro w hSw; go_simp; try with_reducible rfl)
    try simp only [Act.put, List.setIfInBounds_toArray, List.set_cons_zero, List.set_cons_succ]
    refine wpAnyH_take (i := 10) (oi := { dst := some 22, op := _, type := _, pos := _, after := _, guard := _ }) (v := ?v357) rfl (by kernel_rfl) (by kernel_rfl) (by kernel_rfl) (fun _ _ _ h => h) (Or.inl ⟨by rfl, ?hy357⟩) (by assumption) ?rest357
    case hy357 => (intro w hSw; go_simp; try with_reducible rfl)
    try simp only [Act.put, List.setIfInBounds_toArray, List.set_cons_zero, List.set_cons_succ]
    have t2 := T2.out
    have tf := TF.out
    refine wpAnyH_ready (rs := [11]) (by kernel_rfl) (by simp) ?_
    refine AllReadyH.cons (o := { dst := none, op := _, type := _, pos := _, after := _, guard := _ }) rfl (fun K hK => ?_) AllReadyH.nil
    go_simp
    refine hK.out _ _ CE.out (fun hHeld => ?_)
    try simp only [Act.put, List.setIfInBounds_toArray, List.set_cons_zero, List.set_cons_succ]
    clear hK t2 tf
    refine wpAnyH_done (by kernel_rfl) ?_ _
    clear hHeld
    go_wp2
    refine bodyPost_ret (results_none rfl _ _ _) rfl ?_
    exact ⟨rfl, HP.out⟩
  · go_simp
    try rw [hW1]
    refine hK.out _ _ CB.out.2 (fun hHeld => ?_)
    try simp only [Act.put, List.setIfInBounds_toArray, List.set_cons_zero, List.set_cons_succ]
    clear hK
    refine wpAnyH_ready (rs := [4, 7]) (by kernel_rfl) (by simp) ?_
    refine AllReadyH.cons (o := { dst := some 16, op := _, type := _, pos := _, after := _, guard := _ }) rfl (fun K hK => ?_) (AllReadyH.cons (o := { dst := some 19, op := _, type := _, pos := _, after := _, guard := _ }) rfl (fun K hK => ?_) AllReadyH.nil)
    · have cL := CB.out.1
      go_simp
      refine hK.out _ _ CB.out.2 (fun hHeld => ?_)
      try simp only [Act.put, List.setIfInBounds_toArray, List.set_cons_zero, List.set_cons_succ]
      clear hK cL
      refine wpAnyH_ready (rs := [7]) (by kernel_rfl) (by simp) ?_
      refine AllReadyH.cons (o := { dst := some 19, op := _, type := _, pos := _, after := _, guard := _ }) rfl (fun K hK => ?_) AllReadyH.nil
      go_simp
      try rw [hW2]
      refine hK.out _ _ CC.out.2 (fun hHeld => ?_)
      try simp only [Act.put, List.setIfInBounds_toArray, List.set_cons_zero, List.set_cons_succ]
      clear hK
      refine wpAnyH_ready (rs := [8]) (by kernel_rfl) (by simp) ?_
      refine AllReadyH.cons (o := { dst := some 20, op := _, type := _, pos := _, after := _, guard := _ }) rfl (fun K hK => ?_) AllReadyH.nil
      rw [if_pos (by rfl)]
      refine wp_app_run (.tmp 16) (.tmp 19) 61 61 rfl _ _ _ rfl rfl R1.out ?_
      refine hK.out _ _ CD.out (fun hHeld => ?_)
      try simp only [Act.put, List.setIfInBounds_toArray, List.set_cons_zero, List.set_cons_succ]
      clear hK
      refine wpAnyH_take (i := 9) (oi := { dst := some 21, op := _, type := _, pos := _, after := _, guard := _ }) (v := ?v358) rfl (by kernel_rfl) (by kernel_rfl) (by kernel_rfl) (fun _ _ _ h => h) (Or.inl ⟨by rfl, ?hy358⟩) (by assumption) ?rest358
      case hy358 => (intro w hSw; go_simp; try with_reducible rfl)
      try simp only [Act.put, List.setIfInBounds_toArray, List.set_cons_zero, List.set_cons_succ]
      refine wpAnyH_take (i := 10) (oi := { dst := some 22, op := _, type := _, pos := _, after := _, guard := _ }) (v := ?v359) rfl (by kernel_rfl) (by kernel_rfl) (by kernel_rfl) (fun _ _ _ h => h) (Or.inl ⟨by rfl, ?hy359⟩) (by assumption) ?rest359
      case hy359 => (intro w hSw; go_simp; try with_reducible rfl)
      try simp only [Act.put, List.setIfInBounds_toArray, List.set_cons_zero, List.set_cons_succ]
      have t2 := T2.out
      have tf := TF.out
      refine wpAnyH_ready (rs := [11]) (by kernel_rfl) (by simp) ?_
      refine AllReadyH.cons (o := { dst := none, op := _, type := _, pos := _, after := _, guard := _ }) rfl (fun K hK => ?_) AllReadyH.nil
      go_simp
      refine hK.out _ _ CE.out (fun hHeld => ?_)
      try simp only [Act.put, List.setIfInBounds_toArray, List.set_cons_zero, List.set_cons_succ]
      clear hK t2 tf
      refine wpAnyH_done (by kernel_rfl) ?_ _
      clear hHeld
      go_wp2
      refine bodyPost_ret (results_none rfl _ _ _) rfl ?_
      exact ⟨rfl, HP.out⟩
    · go_simp
      try rw [hW2]
      refine hK.out _ _ CC.out.2 (fun hHeld => ?_)
      try simp only [Act.put, List.setIfInBounds_toArray, List.set_cons_zero, List.set_cons_succ]
      clear hK
      have cL := CC.out.1
      refine wpAnyH_ready (rs := [4]) (by kernel_rfl) (by simp) ?_
      refine AllReadyH.cons (o := { dst := some 16, op := _, type := _, pos := _, after := _, guard := _ }) rfl (fun K hK => ?_) AllReadyH.nil
      go_simp
      refine hK.out _ _ CC.out.2 (fun hHeld => ?_)
      try simp only [Act.put, List.setIfInBounds_toArray, List.set_cons_zero, List.set_cons_succ]
      clear hK cL
      refine wpAnyH_ready (rs := [8]) (by kernel_rfl) (by simp) ?_
      refine AllReadyH.cons (o := { dst := some 20, op := _, type := _, pos := _, after := _, guard := _ }) rfl (fun K hK => ?_) AllReadyH.nil
      rw [if_pos (by rfl)]
      refine wp_app_run (.tmp 16) (.tmp 19) 61 61 rfl _ _ _ rfl rfl R1.out ?_
      refine hK.out _ _ CD.out (fun hHeld => ?_)
      try simp only [Act.put, List.setIfInBounds_toArray, List.set_cons_zero, List.set_cons_succ]
      clear hK
      refine wpAnyH_take (i := 9) (oi := { dst := some 21, op := _, type := _, pos := _, after := _, guard := _ }) (v := ?v360) rfl (by kernel_rfl) (by kernel_rfl) (by kernel_rfl) (fun _ _ _ h => h) (Or.inl ⟨by rfl, ?hy360⟩) (by assumption) ?rest360
      case hy360 => (intro w hSw; go_simp; try with_reducible rfl)
      try simp only [Act.put, List.setIfInBounds_toArray, List.set_cons_zero, List.set_cons_succ]
      refine wpAnyH_take (i := 10) (oi := { dst := some 22, op := _, type := _, pos := _, after := _, guard := _ }) (v := ?v361) rfl (by kernel_rfl) (by kernel_rfl) (by kernel_rfl) (fun _ _ _ h => h) (Or.inl ⟨by rfl, ?hy361⟩) (by assumption) ?rest361
      case hy361 => (intro w hSw; go_simp; try with_reducible rfl)
      try simp only [Act.put, List.setIfInBounds_toArray, List.set_cons_zero, List.set_cons_succ]
      have t2 := T2.out
      have tf := TF.out
      refine wpAnyH_ready (rs := [11]) (by kernel_rfl) (by simp) ?_
      refine AllReadyH.cons (o := { dst := none, op := _, type := _, pos := _, after := _, guard := _ }) rfl (fun K hK => ?_) AllReadyH.nil
      go_simp
      refine hK.out _ _ CE.out (fun hHeld => ?_)
      try simp only [Act.put, List.setIfInBounds_toArray, List.set_cons_zero, List.set_cons_succ]
      clear hK t2 tf
      refine wpAnyH_done (by kernel_rfl) ?_ _
      clear hHeld
      go_wp2
      refine bodyPost_ret (results_none rfl _ _ _) rfl ?_
      exact ⟨rfl, HP.out⟩
set_option maxRecDepth 100000 in
set_option maxHeartbeats 4000000 in
theorem putIn_some (w : World) (R : Nat) (u0 u1 u3 rv : Value) (T : List Rw) (e : Ent) (hL : Lay w R u0 u1 u3 rv T) (hG : Gd T) (hRis : Ris (flat T)) (hnum : Num e) (hb : (flat T).length ≤ 1500000) (hne0 : 0 < T.length) :
    Calls Try.prog 54 #[.pointer (some ⟨R, 0, none⟩), agE e] w fun en w' => en = .returned (.tuple #[]) ∧ Putd R u0 u1 u3 rv T e w w' := by
  have sf : ∀ (x : Nat) (w : World) (a : Addr), (store a (.float .f64 x)).run Try.prog w = stored Try.prog w a (.float .f64 x) .plain := fun x w a => run_store _ w a _ _ rfl
  have hne : ∀ x ∈ T, x.2.2 ≠ [] := fun x hx => (hG x hx).1
  have hTl : T.length ≤ 1500000 := Nat.le_trans (gd_len hne) hb
  obtain ⟨gt, c, hrv, hc1, hc2⟩ := hL.2.1.form hne0
  subst hrv
  obtain ⟨n, hn'⟩ : ∃ n, T.length = n := ⟨_, rfl⟩
  obtain ⟨W0, hW0⟩ : ∃ W0, w.alloc (.cells #[.string e.1, .float .f64 e.2] 46) = W0 := ⟨_, rfl⟩
  have hb0 : Below w.heap.size w W0 := by rw [← hW0]; exact (Below.refl _ w).alloc (Nat.le_refl _) _
  have hs0 : W0.heap.size = w.heap.size + 1 := by rw [← hW0]; simp
  have hh0 : W0.heap[w.heap.size]? = some (.cells #[.string e.1, .float .f64 e.2] 46 (0, 0)) := by rw [← hW0]; exact heap_alloc_new _ _
  have ce0 : W0.cell? ⟨w.heap.size, 0, none⟩ = some (.string e.1) := by simp [World.cell?, hh0]
  have ce1 : W0.cell? ⟨w.heap.size, 1, none⟩ = some (.float .f64 e.2) := by simp [World.cell?, hh0]
  have d2 := (four (hL.below hb0).1).2.2.1
  rw [hn'] at d2
  have mN := notAhead_any e W0
  have MS := keep (fun w1 (hb1 : Below W0.heap.size W0 w1) (hr : Rch 64 #[.pointer (some ⟨W0.heap.size, 0, none⟩)] (fun a => ahd a e) w1) => rseek_any w1 R u0 u1 u3 _ T _ _ _ (hL.below (Below.up hb0 hb1)) hne (fun x hx => by have := (hG x hx).2; omega) (by omega) hr (mo_ahd hRis hnum))
  obtain ⟨e1, e2⟩ := e
  dsimp only at *
  -- behind the seeking: a row, a place in it
  have TAIL : ∀ (w2 : World) (i p : Nat) (x : Rw), Below w.heap.size w w2 → w2.heap[w.heap.size]? = some (.cells #[.string e1, .float .f64 e2] 46 (0, 0)) → T[i]? = some x → p ≤ x.2.2.length → Pl (flat T) (e1, e2) (flat (T.take i) ++ (x.2.2.take p ++ (e1, e2) :: x.2.2.drop p) ++ flat (T.drop (i + 1))) →
      (w2.cell? ⟨R, 2, none⟩ = some (.slice (some ⟨gt, 0, none⟩) n c) ∧ w2.cell? ⟨gt, i, none⟩ = some (.slice (some ⟨x.1, 0, none⟩) x.2.2.length x.2.1) ∧ i < n ∧ x.2.2.length ≤ 1024) ∧
      Kept (Calls Try.prog 74 #[.slice (some ⟨x.1, 0, none⟩) x.2.2.length x.2.1, .int .i64 p, .slice (some ⟨w2.heap.size, 0, none⟩) 1 1] (w2.drew.alloc (.cells #[.string e1, .float .f64 e2] 46)) fun en w4 => ∃ g' c', en = .returned (.slice (some ⟨g', 0, none⟩) (x.2.2.length + 1) c') ∧
        (w4.cell? ⟨R, 2, none⟩ = some (.slice (some ⟨gt, 0, none⟩) n c) ∧ w4.cell? ⟨w.heap.size, 0, none⟩ = some (.string e1) ∧ w4.cell? ⟨w.heap.size, 1, none⟩ = some (.float .f64 e2)) ∧ w4.cell? ⟨gt, i, none⟩ = some (.slice (some ⟨x.1, 0, none⟩) x.2.2.length x.2.1) ∧ w4.frozen? ⟨gt, i, none⟩ = false ∧
        Kept (∀ W5, W5 = w4.setCell ⟨gt, i, none⟩ (.slice (some ⟨g', 0, none⟩) (x.2.2.length + 1) c') → (W5.cell? ⟨R, 2, none⟩ = some (.slice (some ⟨gt, 0, none⟩) n c) ∧ W5.cell? ⟨w.heap.size, 0, none⟩ = some (.string e1) ∧ W5.cell? ⟨w.heap.size, 1, none⟩ = some (.float .f64 e2)) ∧ W5.cell? ⟨gt, i, none⟩ = some (.slice (some ⟨g', 0, none⟩) (x.2.2.length + 1) c') ∧
          (x.2.2.length + 1 ≤ 1024 → Putd R u0 u1 u3 (.slice (some ⟨gt, 0, none⟩) T.length c) T (e1, e2) w W5) ∧
          (1024 < x.2.2.length + 1 → Calls Try.prog 75 #[.pointer (some ⟨R, 0, none⟩), .int .i64 i] W5 fun en w' => en = .returned (.tuple #[]) ∧ Putd R u0 u1 u3 (.slice (some ⟨gt, 0, none⟩) T.length c) T (e1, e2) w w'))) := by
    intro w2 i p x hb2 hhe hx hp hPl
    have hil : i < T.length := (List.getElem?_eq_some_iff.1 hx).1
    have hL2 := hL.below hb2
    rw [hn'] at hL2 hil
    have hcx := hL2.2.1.at hx
    have hRx := hL2.2.1.2.1 x (List.mem_of_getElem? hx)
    have hxG := hG x (List.mem_of_getElem? hx)
    obtain ⟨gx, cx, mx⟩ := x
    unfold rwV at hcx
    dsimp only at hcx hxG hp hPl ⊢
    refine ⟨⟨(four hL2.1).2.2.1, hcx, hil, hxG.2⟩, ?_⟩
    obtain ⟨W3, hW3⟩ : ∃ W3, w2.drew.alloc (.cells #[.string e1, .float .f64 e2] 46) = W3 := ⟨_, rfl⟩
    rw [hW3]
    have hb3 : Below w2.heap.size w2 W3 := by rw [← hW3]; exact (Below.refl _ w2).drew.alloc (Nat.le_refl _) _
    have hh3 : W3.heap[w2.heap.size]? = some (.cells #[.string e1, .float .f64 e2] 46 (0, 0)) := by rw [← hW3]; exact heap_alloc_new w2.drew _
    have hL3 := hL2.below hb3
    have hRx3 : W3.ownsRow 0 46 2 (.slice (some ⟨gx, 0, none⟩) mx.length cx) mx.length (enR mx) := hRx.kept (hb3.block _ hRx.lt)
    have hgx2 : gx < w2.heap.size := hRx.lt
    refine (insM_any W3 gx mx.length cx w2.heap.size p (enR mx) e1 e2 hRx3 hh3 (by omega) (by have := hxG.2; omega) hp enR_one).mono ?_
    rintro _ w4 ⟨g', c', rfl, o4, s4, gr4⟩
    rw [← enR_put mx p (e1, e2)] at o4
    obtain ⟨my, hmy⟩ : ∃ my, mx.take p ++ (e1, e2) :: mx.drop p = my := ⟨_, rfl⟩
    rw [hmy] at o4 hPl
    have hmyl : my.length = mx.length + 1 := by rw [← hmy]; simp [List.length_take, List.length_drop]; omega
    have hgxt : gt ≠ gx := fun e => (hL2.2.1.apart hx) e.symm
    have hRgx : R ≠ gx := fun e => hL2.2.2 (by rw [bl_some, e]; exact List.mem_cons.2 (.inr (List.mem_map.2 ⟨_, List.mem_of_getElem? hx, rfl⟩)))
    have hsz3 := hb3.size
    have hgt2 : gt < w2.heap.size := hL2.lt gt (by rw [bl_some]; simp)
    have hR2 : R < w2.heap.size := hL2.lt R (by simp)
    have hkR : w4.heap[R]? = W3.heap[R]? := gr4.block R (by omega) (fun e => hRgx (Option.some.inj e))
    have hkT : w4.heap[gt]? = W3.heap[gt]? := gr4.block gt (by omega) (fun e => hgxt (Option.some.inj e))
    have hbx : w.heap.size < w2.heap.size := (Array.getElem?_eq_some_iff.1 hhe).1
    have hwx : w.heap.size ≠ gx := fun e => by
      have h1 := hL.2.1.2.1 (gx, cx, mx) (List.mem_of_getElem? hx)
      have h2 : gx < w.heap.size := h1.lt
      omega
    have hke : w4.heap[w.heap.size]? = some (.cells #[.string e1, .float .f64 e2] 46 (0, 0)) := by rw [gr4.block _ (by omega) (fun e => hwx (Option.some.inj e)), hb3.block _ hbx]; exact hhe
    have hR4 := four (hkR.trans hL3.1)
    refine ⟨g', c', rfl, ⟨hR4.2.2.1, by simp [World.cell?, hke], by simp [World.cell?, hke]⟩, (World.cell?_of_block (w := W3) (a := ⟨gt, i, none⟩) hkT).trans (hL3.2.1.at hx), by rw [World.frozen?_of_block (w := W3) (a := ⟨gt, i, none⟩) hkT]; exact hL3.2.1.free i, ?_⟩
    intro W5 hW5
    have hrow : Row w4 (g', c', my) := by unfold Row rwV; dsimp only; rw [hmyl]; exact o4
    have hsg : g' = gx ∨ w2.heap.size ≤ g' := s4.imp id (fun h => by omega)
    have hgr : w2.grownBy w4 (some gx) := ⟨gr4.os.trans hb3.os, gr4.tape.trans hb3.tape, gr4.output.trans hb3.output, Nat.le_trans hb3.size gr4.size, fun k hk hne => (gr4.block k (by omega) hne).trans (hb3.block k hk)⟩
    obtain ⟨q1, q2⟩ := hL2.row hx hrow hsg hgr
    rw [show rwV (g', c', my) = .slice (some ⟨g', 0, none⟩) (mx.length + 1) c' by unfold rwV; dsimp only; rw [hmyl], ← hW5] at q1 q2
    have hset : (T.set i (g', c', my))[i]? = some (g', c', my) := by rw [List.getElem?_set, if_pos rfl, if_pos (by omega)]
    have hfl : flat (T.set i (g', c', my)) = flat (T.take i) ++ my ++ flat (T.drop (i + 1)) := flat_set hx
    have hwg : w.heap.size ≠ gt := fun e => by have := hL.lt gt (by rw [hn', bl_some]; simp); omega
    have hke5 : W5.heap[w.heap.size]? = some (.cells #[.string e1, .float .f64 e2] 46 (0, 0)) := by rw [hW5, Below.heap_setCell _ _ _ _ hwg]; exact hke
    have hat5 := q1.2.1.at hset
    rw [show rwV (g', c', my) = .slice (some ⟨g', 0, none⟩) (mx.length + 1) c' by unfold rwV; dsimp only; rw [hmyl]] at hat5
    have hF5 := (Fm.below hb2).trans q2
    have hor : ∀ u ∈ T.set i (g', c', my), u = (g', c', my) ∨ u ∈ T := fun u hu => (List.mem_or_eq_of_mem_set hu).symm
    refine ⟨⟨(four q1.1).2.2.1, by simp [World.cell?, hke5], by simp [World.cell?, hke5]⟩, hat5, fun hle => ?_, fun hgt => ?_⟩
    · rw [hn']
      refine ⟨_, hPl, _, _, q1, hfl, fun u hu => ?_, hF5⟩
      rcases hor u hu with rfl | hu
      · exact ⟨fun e => (by have e : my = [] := e; rw [e] at hmyl; simp at hmyl), by show my.length ≤ 1024; omega⟩
      · exact hG u hu
    · refine (part_any W5 R u0 u1 u3 _ (T.set i (g', c', my)) i (g', c', my) q1 hset (fun u hu hne => ?_) (by show my.length = 1025; have := hxG.2; omega) (by rw [List.length_set]; omega)).mono ?_
      · rcases hor u hu with h | hu
        · exact absurd h hne
        · exact hG u hu
      · rintro _ w6 ⟨rfl, rv6, T6, t1, t2, t3, t4⟩
        rw [hn']
        exact ⟨rfl, _, hPl, rv6, T6, t1, by rw [t2, hfl], t3, hF5.trans t4⟩
  have PM : Kept (∀ i p, Sk T (fun a => ahd a (e1, e2)) i p → (i = n ∧ p = 0 ∧ ∃ x, T[n - 1]? = some x ∧ Pl (flat T) (e1, e2) (flat (T.take (n - 1)) ++ (x.2.2.take x.2.2.length ++ (e1, e2) :: x.2.2.drop x.2.2.length) ++ flat (T.drop (n - 1 + 1)))) ∨
      (i < n ∧ ∃ x, T[i]? = some x ∧ p ≤ x.2.2.length ∧ Pl (flat T) (e1, e2) (flat (T.take i) ++ (x.2.2.take p ++ (e1, e2) :: x.2.2.drop p) ++ flat (T.drop (i + 1))))) := by
    intro i p hs
    rcases hs with ⟨h1, h2, h3⟩ | ⟨x, hx, hp, s1, s2, s3, s4⟩
    · left
      have hx : T[n - 1]? = some T[n - 1] := List.getElem?_eq_getElem (by omega)
      exact ⟨by omega, h2, _, hx, put_end hx (by omega) h3⟩
    · right
      have := (List.getElem?_eq_some_iff.1 hx).1
      exact ⟨by omega, x, hx, by omega, put_mid hx s1 s2 s3 s4⟩
  have TL := keep TAIL
  have HB0 := keep hb0
  have HH0 := keep hh0
  have HS0 := keep hs0
  have HNN := keep (show 0 < n by omega)
  have HTL := keep (show n ≤ 1500000 by omega)
  have hn0 : ((n : Int) == 0) = false := beq_eq_false_iff_ne.2 (by omega)
  have hn0' : ¬ n = 0 := by omega
  clear hL hG hRis hb hne hTl hb0 hh0 hnum hs0 hne0 hc1 hc2 TAIL hn'
  unfold agE at *
  dsimp only at *
  go_enter Try.func54, Try.ntmps54
  go_wp2_with fail
  try rw [hW0]
  refine mN.mono ?_
  rintro _ w1 ⟨rfl, hb1, hr1⟩
  have HB1 := keep hb1
  have mS := MS.out w1 hb1 hr1
  clear hb1 hr1 MS mN
  go_wp2_with fail
  refine mS.mono ?_
  rintro _ w2 ⟨⟨i, p, rfl, hsk⟩, hb2⟩
  have hb02 : Below W0.heap.size W0 w2 := Below.up HB1.out hb2
  have hbw2 : Below w.heap.size w w2 := Below.up HB0.out hb02
  have hhe : w2.heap[w.heap.size]? = some (.cells #[.string e1, .float .f64 e2] 46 (0, 0)) := by rw [hb02.block _ (by have := HS0.out; omega)]; exact HH0.out
  have b0 : w2.cell? ⟨w.heap.size, 0, none⟩ = some (.string e1) := by simp [World.cell?, hhe]
  have b1 : w2.cell? ⟨w.heap.size, 1, none⟩ = some (.float .f64 e2) := by simp [World.cell?, hhe]
  rcases PM.out i p hsk with ⟨hi', rfl, x, hx, hPl⟩ | ⟨hin, x, hx, hp, hPl⟩
  · obtain rfl := hi'.symm
    obtain ⟨m, hm⟩ : ∃ m, n - 1 = m := ⟨_, rfl⟩
    rw [hm] at hx hPl
    have hw1 : IntKind.i64.wrap ((n : Int) - 1) = (m : Int) := by have := HNN.out; have := HTL.out; rw [IntKind.wrap_i64]; omega
    have he1 : ((n : Int) == (n : Int)) = true := beq_self_eq_true _
    obtain ⟨⟨a1, a2, a3, a4⟩, mI⟩ := TL.out w2 m x.2.2.length x hbw2 hhe hx (Nat.le_refl _) hPl
    have MI := keep mI.out
    obtain ⟨gx, cx, mx⟩ := x
    dsimp only at a2 a4 MI
    obtain ⟨lx, hlx⟩ : ∃ lx, mx.length = lx := ⟨_, rfl⟩
    rw [hlx] at a2 a4 MI
    have hnm := HNN.out
    have i0 : (0 : Int) ≤ (m : Int) := by omega
    have i1 : (m : Int) < (n : Int) := by omega
    have A4 := keep a4
    have S2 : Kept (w2.drew.cell? ⟨R, 2, none⟩ = some (.slice (some ⟨gt, 0, none⟩) n c) ∧ w2.drew.cell? ⟨w.heap.size, 0, none⟩ = some (.string e1) ∧ w2.drew.cell? ⟨w.heap.size, 1, none⟩ = some (.float .f64 e2)) := ⟨a1, b0, b1⟩
    obtain ⟨W3, hW3⟩ : ∃ W3, w2.drew.alloc (.cells #[.string e1, .float .f64 e2] 46) = W3 := ⟨_, rfl⟩
    have hb3 : Below w2.heap.size w2 W3 := by rw [← hW3]; exact (Below.refl _ w2).drew.alloc (Nat.le_refl _) _
    have S3 : Kept (W3.cell? ⟨R, 2, none⟩ = some (.slice (some ⟨gt, 0, none⟩) n c) ∧ W3.cell? ⟨w.heap.size, 0, none⟩ = some (.string e1) ∧ W3.cell? ⟨w.heap.size, 1, none⟩ = some (.float .f64 e2)) := ⟨(hb3.cell (p := ⟨R, 2, none⟩) (World.block_lt_of_cell? _ _ a1)).trans a1, (hb3.cell (p := ⟨w.heap.size, 0, none⟩) (World.block_lt_of_cell? _ _ b0)).trans b0, (hb3.cell (p := ⟨w.heap.size, 1, none⟩) (World.block_lt_of_cell? _ _ b1)).trans b1⟩
    have X2 : Kept (w2.drew.cell? ⟨gt, m, none⟩ = some (.slice (some ⟨gx, 0, none⟩) lx cx)) := a2
    have X3 : Kept (W3.cell? ⟨gt, m, none⟩ = some (.slice (some ⟨gx, 0, none⟩) lx cx)) := (hb3.cell (p := ⟨gt, m, none⟩) (World.block_lt_of_cell? _ _ a2)).trans a2
    rw [hW3] at MI
    clear hx hPl hbw2 hhe mI hb3 a4 hb02 hb2 TL PM hsk hm hnm a3
    go_wp2_with fail
    refine wp_region_held_drew (S := fun W => W.cell? ⟨R, 2, none⟩ = some (.slice (some ⟨gt, 0, none⟩) n c) ∧ W.cell? ⟨w.heap.size, 0, none⟩ = some (.string e1) ∧ W.cell? ⟨w.heap.size, 1, none⟩ = some (.float .f64 e2)) (by kernel_rfl) S2.out (fun hHeld => ?_)
    refine wpAnyH_take (i := 0) (oi := { dst := some 47, op := _, type := _, pos := _, after := _, guard := _ }) (v := ?v362) rfl (by kernel_rfl) (by kernel_rfl) (by kernel_rfl) (fun _ _ _ h => h) (Or.inl ⟨by rfl, ?hy362⟩) (by assumption) ?rest362
    case hy362 => (intro w hSw; obtain ⟨p0,p1,p2⟩ := hSw; go_simp; try with_reducible rfl)
    try simp only [Act.put, List.setIfInBounds_toArray, List.set_cons_zero, List.set_cons_succ]
    refine wpAnyH_take (i := 1) (oi := { dst := some 48, op := _, type := _, pos := _, after := _, guard := _ }) (v := ?v363) rfl (by kernel_rfl) (by kernel_rfl) (by kernel_rfl) (fun _ _ _ h => h) (Or.inl ⟨by rfl, ?hy363⟩) (by assumption) ?rest363
    case hy363 => (intro w hSw; obtain ⟨p0,p1,p2⟩ := hSw; go_simp; try with_reducible rfl)
    try simp only [Act.put, List.setIfInBounds_toArray, List.set_cons_zero, List.set_cons_succ]
    refine wpAnyH_take (i := 2) (oi := { dst := some 49, op := _, type := _, pos := _, after := _, guard := _ }) (v := ?v364) rfl (by kernel_rfl) (by kernel_rfl) (by kernel_rfl) (fun _ _ _ h => h) (Or.inl ⟨by rfl, ?hy364⟩) (by assumption) ?rest364
    case hy364 => (intro w hSw; obtain ⟨p0,p1,p2⟩ := hSw; go_simp; try with_reducible rfl)
    try simp only [Act.put, List.setIfInBounds_toArray, List.set_cons_zero, List.set_cons_succ]
    refine wpAnyH_take (i := 3) (oi := { dst := some 50, op := _, type := _, pos := _, after := _, guard := _ }) (v := ?v365) rfl (by kernel_rfl) (by kernel_rfl) (by kernel_rfl) (fun _ _ _ h => h) (Or.inl ⟨by rfl, ?hy365⟩) (by assumption) ?rest365
    case hy365 => (intro w hSw; obtain ⟨p0,p1,p2⟩ := hSw; go_simp; try with_reducible rfl)
    try simp only [Act.put, List.setIfInBounds_toArray, List.set_cons_zero, List.set_cons_succ]
    refine wpAnyH_take (i := 4) (oi := { dst := some 51, op := _, type := _, pos := _, after := _, guard := _ }) (v := ?v366) rfl (by kernel_rfl) (by kernel_rfl) (by kernel_rfl) (fun _ _ _ h => h) (Or.inl ⟨by rfl, ?hy366⟩) (by assumption) ?rest366
    case hy366 => (intro w hSw; obtain ⟨p0,p1,p2⟩ := hSw; go_simp; try with_reducible rfl)
    try simp only [Act.put, List.setIfInBounds_toArray, List.set_cons_zero, List.set_cons_succ]
    refine wpAnyH_take (i := 5) (oi := { dst := some 52, op := _, type := _, pos := _, after := _, guard := _ }) (v := ?v367) rfl (by kernel_rfl) (by kernel_rfl) (by kernel_rfl) (fun _ _ _ h => h) (Or.inl ⟨by rfl, ?hy367⟩) (by assumption) ?rest367
    case hy367 => (intro w hSw; obtain ⟨p0,p1,p2⟩ := hSw; go_simp; try with_reducible rfl)
    try simp only [Act.put, List.setIfInBounds_toArray, List.set_cons_zero, List.set_cons_succ]
    refine wpAnyH_take (i := 6) (oi := { dst := some 53, op := _, type := _, pos := _, after := _, guard := _ }) (v := ?v368) rfl (by kernel_rfl) (by kernel_rfl) (by kernel_rfl) (fun _ _ _ h => h) (Or.inl ⟨by rfl, ?hy368⟩) (by assumption) ?rest368
    case hy368 => (intro w hSw; obtain ⟨p0,p1,p2⟩ := hSw; go_simp; try with_reducible rfl)
    try simp only [Act.put, List.setIfInBounds_toArray, List.set_cons_zero, List.set_cons_succ]
    refine wpAnyH_take (i := 7) (oi := { dst := some 54, op := _, type := _, pos := _, after := _, guard := _ }) (v := ?v369) rfl (by kernel_rfl) (by kernel_rfl) (by kernel_rfl) (fun _ _ _ h => h) (Or.inl ⟨by rfl, ?hy369⟩) (by assumption) ?rest369
    case hy369 => (intro w hSw; obtain ⟨p0,p1,p2⟩ := hSw; go_simp; try with_reducible rfl)
    try simp only [Act.put, List.setIfInBounds_toArray, List.set_cons_zero, List.set_cons_succ]
    refine wpAnyH_take (i := 8) (oi := { dst := some 55, op := _, type := _, pos := _, after := _, guard := _ }) (v := ?v370) rfl (by kernel_rfl) (by kernel_rfl) (by kernel_rfl) (fun _ _ _ h => h) (Or.inl ⟨by rfl, ?hy370⟩) (by assumption) ?rest370
    case hy370 => (intro w hSw; obtain ⟨p0,p1,p2⟩ := hSw; go_simp; try with_reducible rfl)
    try simp only [Act.put, List.setIfInBounds_toArray, List.set_cons_zero, List.set_cons_succ]
    refine wpAnyH_take (i := 9) (oi := { dst := some 56, op := _, type := _, pos := _, after := _, guard := _ }) (v := ?v371) rfl (by kernel_rfl) (by kernel_rfl) (by kernel_rfl) (fun _ _ _ h => h) (Or.inl ⟨by rfl, ?hy371⟩) (by assumption) ?rest371
    case hy371 => (intro w hSw; obtain ⟨p0,p1,p2⟩ := hSw; go_simp; try with_reducible rfl)
    try simp only [Act.put, List.setIfInBounds_toArray, List.set_cons_zero, List.set_cons_succ]
    refine wpAnyH_take (i := 10) (oi := { dst := some 57, op := _, type := _, pos := _, after := _, guard := _ }) (v := (.pointer (some ⟨gt, m, none⟩))) rfl (by kernel_rfl) (by kernel_rfl) (by kernel_rfl) (fun _ _ _ h => h) (Or.inl ⟨by rfl, ?hy372⟩) (by assumption) ?rest372
    case hy372 => (intro w hSw; obtain ⟨p0,p1,p2⟩ := hSw; first | (go_simp; done) | (go_simp; simp [*]; done) | (simp [*]; go_simp; done))
    try simp only [Act.put, List.setIfInBounds_toArray, List.set_cons_zero, List.set_cons_succ]
    refine wpAnyH_take (i := 12) (oi := { dst := some 59, op := _, type := _, pos := _, after := _, guard := _ }) (v := ?v373) rfl (by kernel_rfl) (by kernel_rfl) (by kernel_rfl) (fun _ _ _ h => h) (Or.inl ⟨by rfl, ?hy373⟩) (by assumption) ?rest373
    case hy373 => (intro w hSw; obtain ⟨p0,p1,p2⟩ := hSw; go_simp; try with_reducible rfl)
    try simp only [Act.put, List.setIfInBounds_toArray, List.set_cons_zero, List.set_cons_succ]
    refine wpAnyH_take (i := 13) (oi := { dst := some 60, op := _, type := _, pos := _, after := _, guard := _ }) (v := (.agg #[.string e1, .float .f64 e2])) rfl (by kernel_rfl) (by kernel_rfl) (by kernel_rfl) (fun _ _ _ h => h) (Or.inl ⟨by rfl, ?hy374⟩) (by assumption) ?rest374
    case hy374 => (intro w hSw; obtain ⟨p0,p1,p2⟩ := hSw; first | (go_simp; done) | (go_simp; simp [*]; done) | (simp [*]; go_simp; done))
    try simp only [Act.put, List.setIfInBounds_toArray, List.set_cons_zero, List.set_cons_succ]
    refine wpAnyH_ready (rs := [11, 14]) (by kernel_rfl) (by simp) ?_
    refine AllReadyH.cons (o := { dst := some 58, op := _, type := _, pos := _, after := _, guard := _ }) rfl (fun K hK => ?_) (AllReadyH.cons (o := { dst := some 61, op := _, type := _, pos := _, after := _, guard := _ }) rfl (fun K hK => ?_) AllReadyH.nil)
    · have cL := X2.out
      go_simp
      refine hK.out _ _ S2.out (fun hHeld => ?_)
      try simp only [Act.put, List.setIfInBounds_toArray, List.set_cons_zero, List.set_cons_succ]
      clear hK cL
      refine wpAnyH_ready (rs := [14]) (by kernel_rfl) (by simp) ?_
      refine AllReadyH.cons (o := { dst := some 61, op := _, type := _, pos := _, after := _, guard := _ }) rfl (fun K hK => ?_) AllReadyH.nil
      go_simp
      try rw [hW3]
      refine hK.out _ _ S3.out (fun hHeld => ?_)
      try simp only [Act.put, List.setIfInBounds_toArray, List.set_cons_zero, List.set_cons_succ]
      clear hK
      refine wpAnyH_ready (rs := [15]) (by kernel_rfl) (by simp) ?_
      refine AllReadyH.cons (o := { dst := some 62, op := _, type := _, pos := _, after := _, guard := _ }) rfl (fun K hK => ?_) AllReadyH.nil
      go_simp
      refine MI.out.mono ?_
      rintro _ w4 ⟨g', c', rfl, s4, cT, cF, hlast⟩
      obtain ⟨W5, hW5⟩ : ∃ W5, w4.setCell ⟨gt, m, none⟩ (.slice (some ⟨g', 0, none⟩) (lx + 1) c') = W5 := ⟨_, rfl⟩
      obtain ⟨s5, cT5, last1, last2⟩ := hlast.out W5 hW5.symm
      have T5 := keep cT5
      have L1 := keep last1
      have L2 := keep last2
      have S5 := keep s5
      clear hlast last1 last2 MI
      refine hK.out _ _ s4 (fun hHeld => ?_)
      try simp only [Act.put, List.setIfInBounds_toArray, List.set_cons_zero, List.set_cons_succ]
      clear hK s5 cT5 s4
      refine wpAnyH_take (i := 16) (oi := { dst := some 63, op := _, type := _, pos := _, after := _, guard := _ }) (v := (.pointer (some ⟨gt, m, none⟩))) rfl (by kernel_rfl) (by kernel_rfl) (by kernel_rfl) (fun _ _ _ h => h) (Or.inl ⟨by rfl, ?hy375⟩) (by assumption) ?rest375
      case hy375 => (intro w hSw; first | (go_simp; done) | (go_simp; simp [*]; done) | (simp [*]; go_simp; done))
      try simp only [Act.put, List.setIfInBounds_toArray, List.set_cons_zero, List.set_cons_succ]
      refine wpAnyH_ready (rs := [17]) (by kernel_rfl) (by simp) ?_
      refine AllReadyH.cons (o := { dst := none, op := _, type := _, pos := _, after := _, guard := _ }) rfl (fun K hK => ?_) AllReadyH.nil
      go_simp
      try rw [hW5]
      refine hK.out _ _ S5.out (fun hHeld => ?_)
      try simp only [Act.put, List.setIfInBounds_toArray, List.set_cons_zero, List.set_cons_succ]
      clear hK cT cF
      refine wpAnyH_done (by kernel_rfl) ?_ _
      clear hHeld
      have r5 := S5.out.1
      have t5 := T5.out
      by_cases hbig : 1024 < lx + 1
      · have hg1 : decide ((1024 : Int) < ((lx + 1 : Nat) : Int)) = true := decide_eq_true (by omega)
        have hg2 : (1024 : Int) < (lx : Int) + 1 := by omega
        have mP := L2.out hbig
        clear L1 L2
        go_wp2_with fail
        refine mP.mono ?_
        rintro _ w6 ⟨rfl, hz⟩
        have Z := keep hz
        clear hz mP
        go_wp2
        go_end0
        exact ⟨rfl, Z.out⟩
      · have hg1 : decide ((1024 : Int) < ((lx + 1 : Nat) : Int)) = false := decide_eq_false (by omega)
        have hg2 : ¬ (1024 : Int) < (lx : Int) + 1 := by omega
        have Z := keep (L1.out (by omega))
        clear L1 L2
        go_wp2
        go_end0
        exact ⟨rfl, Z.out⟩
    · go_simp
      try rw [hW3]
      refine hK.out _ _ S3.out (fun hHeld => ?_)
      try simp only [Act.put, List.setIfInBounds_toArray, List.set_cons_zero, List.set_cons_succ]
      clear hK
      have cL := X3.out
      refine wpAnyH_ready (rs := [11]) (by kernel_rfl) (by simp) ?_
      refine AllReadyH.cons (o := { dst := some 58, op := _, type := _, pos := _, after := _, guard := _ }) rfl (fun K hK => ?_) AllReadyH.nil
      go_simp
      refine hK.out _ _ S3.out (fun hHeld => ?_)
      try simp only [Act.put, List.setIfInBounds_toArray, List.set_cons_zero, List.set_cons_succ]
      clear hK cL
      refine wpAnyH_ready (rs := [15]) (by kernel_rfl) (by simp) ?_
      refine AllReadyH.cons (o := { dst := some 62, op := _, type := _, pos := _, after := _, guard := _ }) rfl (fun K hK => ?_) AllReadyH.nil
      go_simp
      refine MI.out.mono ?_
      rintro _ w4 ⟨g', c', rfl, s4, cT, cF, hlast⟩
      obtain ⟨W5, hW5⟩ : ∃ W5, w4.setCell ⟨gt, m, none⟩ (.slice (some ⟨g', 0, none⟩) (lx + 1) c') = W5 := ⟨_, rfl⟩
      obtain ⟨s5, cT5, last1, last2⟩ := hlast.out W5 hW5.symm
      have T5 := keep cT5
      have L1 := keep last1
      have L2 := keep last2
      have S5 := keep s5
      clear hlast last1 last2 MI
      refine hK.out _ _ s4 (fun hHeld => ?_)
      try simp only [Act.put, List.setIfInBounds_toArray, List.set_cons_zero, List.set_cons_succ]
      clear hK s5 cT5 s4
      refine wpAnyH_take (i := 16) (oi := { dst := some 63, op := _, type := _, pos := _, after := _, guard := _ }) (v := (.pointer (some ⟨gt, m, none⟩))) rfl (by kernel_rfl) (by kernel_rfl) (by kernel_rfl) (fun _ _ _ h => h) (Or.inl ⟨by rfl, ?hy376⟩) (by assumption) ?rest376
      case hy376 => (intro w hSw; first | (go_simp; done) | (go_simp; simp [*]; done) | (simp [*]; go_simp; done))
      try simp only [Act.put, List.setIfInBounds_toArray, List.set_cons_zero, List.set_cons_succ]
      refine wpAnyH_ready (rs := [17]) (by kernel_rfl) (by simp) ?_
      refine AllReadyH.cons (o := { dst := none, op := _, type := _, pos := _, after := _, guard := _ }) rfl (fun K hK => ?_) AllReadyH.nil
      go_simp
      try rw [hW5]
      refine hK.out _ _ S5.out (fun hHeld => ?_)
      try simp only [Act.put, List.setIfInBounds_toArray, List.set_cons_zero, List.set_cons_succ]
      clear hK cT cF
      refine wpAnyH_done (by kernel_rfl) ?_ _
      clear hHeld
      have r5 := S5.out.1
      have t5 := T5.out
      by_cases hbig : 1024 < lx + 1
      · have hg1 : decide ((1024 : Int) < ((lx + 1 : Nat) : Int)) = true := decide_eq_true (by omega)
        have hg2 : (1024 : Int) < (lx : Int) + 1 := by omega
        have mP := L2.out hbig
        clear L1 L2
        go_wp2_with fail
        refine mP.mono ?_
        rintro _ w6 ⟨rfl, hz⟩
        have Z := keep hz
        clear hz mP
        go_wp2
        go_end0
        exact ⟨rfl, Z.out⟩
      · have hg1 : decide ((1024 : Int) < ((lx + 1 : Nat) : Int)) = false := decide_eq_false (by omega)
        have hg2 : ¬ (1024 : Int) < (lx : Int) + 1 := by omega
        have Z := keep (L1.out (by omega))
        clear L1 L2
        go_wp2
        go_end0
        exact ⟨rfl, Z.out⟩
  · have he1 : ((i : Int) == (n : Int)) = false := beq_eq_false_iff_ne.2 (by omega)
    have he2 : ¬ (i : Int) = (n : Int) := by omega
    obtain ⟨⟨a1, a2, a3, a4⟩, mI⟩ := TL.out w2 i p x hbw2 hhe hx hp hPl
    have MI := keep mI.out
    obtain ⟨gx, cx, mx⟩ := x
    dsimp only at a2 a4 MI
    obtain ⟨lx, hlx⟩ : ∃ lx, mx.length = lx := ⟨_, rfl⟩
    rw [hlx] at a2 a4 MI

    have i0 : (0 : Int) ≤ (i : Int) := by omega
    have i1 : (i : Int) < (n : Int) := by omega
    have A4 := keep a4
    have S2 : Kept (w2.drew.cell? ⟨R, 2, none⟩ = some (.slice (some ⟨gt, 0, none⟩) n c) ∧ w2.drew.cell? ⟨w.heap.size, 0, none⟩ = some (.string e1) ∧ w2.drew.cell? ⟨w.heap.size, 1, none⟩ = some (.float .f64 e2)) := ⟨a1, b0, b1⟩
    obtain ⟨W3, hW3⟩ : ∃ W3, w2.drew.alloc (.cells #[.string e1, .float .f64 e2] 46) = W3 := ⟨_, rfl⟩
    have hb3 : Below w2.heap.size w2 W3 := by rw [← hW3]; exact (Below.refl _ w2).drew.alloc (Nat.le_refl _) _
    have S3 : Kept (W3.cell? ⟨R, 2, none⟩ = some (.slice (some ⟨gt, 0, none⟩) n c) ∧ W3.cell? ⟨w.heap.size, 0, none⟩ = some (.string e1) ∧ W3.cell? ⟨w.heap.size, 1, none⟩ = some (.float .f64 e2)) := ⟨(hb3.cell (p := ⟨R, 2, none⟩) (World.block_lt_of_cell? _ _ a1)).trans a1, (hb3.cell (p := ⟨w.heap.size, 0, none⟩) (World.block_lt_of_cell? _ _ b0)).trans b0, (hb3.cell (p := ⟨w.heap.size, 1, none⟩) (World.block_lt_of_cell? _ _ b1)).trans b1⟩
    have X2 : Kept (w2.drew.cell? ⟨gt, i, none⟩ = some (.slice (some ⟨gx, 0, none⟩) lx cx)) := a2
    have X3 : Kept (W3.cell? ⟨gt, i, none⟩ = some (.slice (some ⟨gx, 0, none⟩) lx cx)) := (hb3.cell (p := ⟨gt, i, none⟩) (World.block_lt_of_cell? _ _ a2)).trans a2
    rw [hW3] at MI
    clear hx hPl hbw2 hhe mI hb3 a4 hb02 hb2 TL PM hsk hp hin a3
    go_wp2_with fail
    refine wp_region_held_drew (S := fun W => W.cell? ⟨R, 2, none⟩ = some (.slice (some ⟨gt, 0, none⟩) n c) ∧ W.cell? ⟨w.heap.size, 0, none⟩ = some (.string e1) ∧ W.cell? ⟨w.heap.size, 1, none⟩ = some (.float .f64 e2)) (by kernel_rfl) S2.out (fun hHeld => ?_)
    refine wpAnyH_take (i := 0) (oi := { dst := some 47, op := _, type := _, pos := _, after := _, guard := _ }) (v := ?v377) rfl (by kernel_rfl) (by kernel_rfl) (by kernel_rfl) (fun _ _ _ h => h) (Or.inl ⟨by rfl, ?hy377⟩) (by assumption) ?rest377
    case hy377 => (intro w hSw; obtain ⟨p0,p1,p2⟩ := hSw; go_simp; try with_reducible rfl)
    try simp only [Act.put, List.setIfInBounds_toArray, List.set_cons_zero, List.set_cons_succ]
    refine wpAnyH_take (i := 1) (oi := { dst := some 48, op := _, type := _, pos := _, after := _, guard := _ }) (v := ?v378) rfl (by kernel_rfl) (by kernel_rfl) (by kernel_rfl) (fun _ _ _ h => h) (Or.inl ⟨by rfl, ?hy378⟩) (by assumption) ?rest378
    case hy378 => (intro w hSw; obtain ⟨p0,p1,p2⟩ := hSw; go_simp; try with_reducible rfl)
    try simp only [Act.put, List.setIfInBounds_toArray, List.set_cons_zero, List.set_cons_succ]
    refine wpAnyH_take (i := 2) (oi := { dst := some 49, op := _, type := _, pos := _, after := _, guard := _ }) (v := ?v379) rfl (by kernel_rfl) (by kernel_rfl) (by kernel_rfl) (fun _ _ _ h => h) (Or.inl ⟨by rfl, ?hy379⟩) (by assumption) ?rest379
    case hy379 => (intro w hSw; obtain ⟨p0,p1,p2⟩ := hSw; go_simp; try with_reducible rfl)
    try simp only [Act.put, List.setIfInBounds_toArray, List.set_cons_zero, List.set_cons_succ]
    refine wpAnyH_take (i := 3) (oi := { dst := some 50, op := _, type := _, pos := _, after := _, guard := _ }) (v := ?v380) rfl (by kernel_rfl) (by kernel_rfl) (by kernel_rfl) (fun _ _ _ h => h) (Or.inl ⟨by rfl, ?hy380⟩) (by assumption) ?rest380
    case hy380 => (intro w hSw; obtain ⟨p0,p1,p2⟩ := hSw; go_simp; try with_reducible rfl)
    try simp only [Act.put, List.setIfInBounds_toArray, List.set_cons_zero, List.set_cons_succ]
    refine wpAnyH_take (i := 4) (oi := { dst := some 51, op := _, type := _, pos := _, after := _, guard := _ }) (v := ?v381) rfl (by kernel_rfl) (by kernel_rfl) (by kernel_rfl) (fun _ _ _ h => h) (Or.inl ⟨by rfl, ?hy381⟩) (by assumption) ?rest381
    case hy381 => (intro w hSw; obtain ⟨p0,p1,p2⟩ := hSw; go_simp; try with_reducible rfl)
    try simp only [Act.put, List.setIfInBounds_toArray, List.set_cons_zero, List.set_cons_succ]
    refine wpAnyH_take (i := 5) (oi := { dst := some 52, op := _, type := _, pos := _, after := _, guard := _ }) (v := ?v382) rfl (by kernel_rfl) (by kernel_rfl) (by kernel_rfl) (fun _ _ _ h => h) (Or.inl ⟨by rfl, ?hy382⟩) (by assumption) ?rest382
    case hy382 => (intro w hSw; obtain ⟨p0,p1,p2⟩ := hSw; go_simp; try with_reducible rfl)
    try simp only [Act.put, List.setIfInBounds_toArray, List.set_cons_zero, List.set_cons_succ]
    refine wpAnyH_take (i := 6) (oi := { dst := some 53, op := _, type := _, pos := _, after := _, guard := _ }) (v := ?v383) rfl (by kernel_rfl) (by kernel_rfl) (by kernel_rfl) (fun _ _ _ h => h) (Or.inl ⟨by rfl, ?hy383⟩) (by assumption) ?rest383
    case hy383 => (intro w hSw; obtain ⟨p0,p1,p2⟩ := hSw; go_simp; try with_reducible rfl)
    try simp only [Act.put, List.setIfInBounds_toArray, List.set_cons_zero, List.set_cons_succ]
    refine wpAnyH_take (i := 7) (oi := { dst := some 54, op := _, type := _, pos := _, after := _, guard := _ }) (v := ?v384) rfl (by kernel_rfl) (by kernel_rfl) (by kernel_rfl) (fun _ _ _ h => h) (Or.inl ⟨by rfl, ?hy384⟩) (by assumption) ?rest384
    case hy384 => (intro w hSw; obtain ⟨p0,p1,p2⟩ := hSw; go_simp; try with_reducible rfl)
    try simp only [Act.put, List.setIfInBounds_toArray, List.set_cons_zero, List.set_cons_succ]
    refine wpAnyH_take (i := 8) (oi := { dst := some 55, op := _, type := _, pos := _, after := _, guard := _ }) (v := ?v385) rfl (by kernel_rfl) (by kernel_rfl) (by kernel_rfl) (fun _ _ _ h => h) (Or.inl ⟨by rfl, ?hy385⟩) (by assumption) ?rest385
    case hy385 => (intro w hSw; obtain ⟨p0,p1,p2⟩ := hSw; go_simp; try with_reducible rfl)
    try simp only [Act.put, List.setIfInBounds_toArray, List.set_cons_zero, List.set_cons_succ]
    refine wpAnyH_take (i := 9) (oi := { dst := some 56, op := _, type := _, pos := _, after := _, guard := _ }) (v := ?v386) rfl (by kernel_rfl) (by kernel_rfl) (by kernel_rfl) (fun _ _ _ h => h) (Or.inl ⟨by rfl, ?hy386⟩) (by assumption) ?rest386
    case hy386 => (intro w hSw; obtain ⟨p0,p1,p2⟩ := hSw; go_simp; try with_reducible rfl)
    try simp only [Act.put, List.setIfInBounds_toArray, List.set_cons_zero, List.set_cons_succ]
    refine wpAnyH_take (i := 10) (oi := { dst := some 57, op := _, type := _, pos := _, after := _, guard := _ }) (v := (.pointer (some ⟨gt, i, none⟩))) rfl (by kernel_rfl) (by kernel_rfl) (by kernel_rfl) (fun _ _ _ h => h) (Or.inl ⟨by rfl, ?hy387⟩) (by assumption) ?rest387
    case hy387 => (intro w hSw; obtain ⟨p0,p1,p2⟩ := hSw; first | (go_simp; done) | (go_simp; simp [*]; done) | (simp [*]; go_simp; done))
    try simp only [Act.put, List.setIfInBounds_toArray, List.set_cons_zero, List.set_cons_succ]
    refine wpAnyH_take (i := 12) (oi := { dst := some 59, op := _, type := _, pos := _, after := _, guard := _ }) (v := ?v388) rfl (by kernel_rfl) (by kernel_rfl) (by kernel_rfl) (fun _ _ _ h => h) (Or.inl ⟨by rfl, ?hy388⟩) (by assumption) ?rest388
    case hy388 => (intro w hSw; obtain ⟨p0,p1,p2⟩ := hSw; go_simp; try with_reducible rfl)
    try simp only [Act.put, List.setIfInBounds_toArray, List.set_cons_zero, List.set_cons_succ]
    refine wpAnyH_take (i := 13) (oi := { dst := some 60, op := _, type := _, pos := _, after := _, guard := _ }) (v := (.agg #[.string e1, .float .f64 e2])) rfl (by kernel_rfl) (by kernel_rfl) (by kernel_rfl) (fun _ _ _ h => h) (Or.inl ⟨by rfl, ?hy389⟩) (by assumption) ?rest389
    case hy389 => (intro w hSw; obtain ⟨p0,p1,p2⟩ := hSw; first | (go_simp; done) | (go_simp; simp [*]; done) | (simp [*]; go_simp; done))
    try simp only [Act.put, List.setIfInBounds_toArray, List.set_cons_zero, List.set_cons_succ]
    refine wpAnyH_ready (rs := [11, 14]) (by kernel_rfl) (by simp) ?_
    refine AllReadyH.cons (o := { dst := some 58, op := _, type := _, pos := _, after := _, guard := _ }) rfl (fun K hK => ?_) (AllReadyH.cons (o := { dst := some 61, op := _, type := _, pos := _, after := _, guard := _ }) rfl (fun K hK => ?_) AllReadyH.nil)
    · have cL := X2.out
      go_simp
      refine hK.out _ _ S2.out (fun hHeld => ?_)
      try simp only [Act.put, List.setIfInBounds_toArray, List.set_cons_zero, List.set_cons_succ]
      clear hK cL
      refine wpAnyH_ready (rs := [14]) (by kernel_rfl) (by simp) ?_
      refine AllReadyH.cons (o := { dst := some 61, op := _, type := _, pos := _, after := _, guard := _ }) rfl (fun K hK => ?_) AllReadyH.nil
      go_simp
      try rw [hW3]
      refine hK.out _ _ S3.out (fun hHeld => ?_)
      try simp only [Act.put, List.setIfInBounds_toArray, List.set_cons_zero, List.set_cons_succ]
      clear hK
      refine wpAnyH_ready (rs := [15]) (by kernel_rfl) (by simp) ?_
      refine AllReadyH.cons (o := { dst := some 62, op := _, type := _, pos := _, after := _, guard := _ }) rfl (fun K hK => ?_) AllReadyH.nil
      go_simp
      refine MI.out.mono ?_
      rintro _ w4 ⟨g', c', rfl, s4, cT, cF, hlast⟩
      obtain ⟨W5, hW5⟩ : ∃ W5, w4.setCell ⟨gt, i, none⟩ (.slice (some ⟨g', 0, none⟩) (lx + 1) c') = W5 := ⟨_, rfl⟩
      obtain ⟨s5, cT5, last1, last2⟩ := hlast.out W5 hW5.symm
      have T5 := keep cT5
      have L1 := keep last1
      have L2 := keep last2
      have S5 := keep s5
      clear hlast last1 last2 MI
      refine hK.out _ _ s4 (fun hHeld => ?_)
      try simp only [Act.put, List.setIfInBounds_toArray, List.set_cons_zero, List.set_cons_succ]
      clear hK s5 cT5 s4
      refine wpAnyH_take (i := 16) (oi := { dst := some 63, op := _, type := _, pos := _, after := _, guard := _ }) (v := (.pointer (some ⟨gt, i, none⟩))) rfl (by kernel_rfl) (by kernel_rfl) (by kernel_rfl) (fun _ _ _ h => h) (Or.inl ⟨by rfl, ?hy390⟩) (by assumption) ?rest390
      case hy390 => (intro w hSw; first | (go_simp; done) | (go_simp; simp [*]; done) | (simp [*]; go_simp; done))
      try simp only [Act.put, List.setIfInBounds_toArray, List.set_cons_zero, List.set_cons_succ]
      refine wpAnyH_ready (rs := [17]) (by kernel_rfl) (by simp) ?_
      refine AllReadyH.cons (o := { dst := none, op := _, type := _, pos := _, after := _, guard := _ }) rfl (fun K hK => ?_) AllReadyH.nil
      go_simp
      try rw [hW5]
      refine hK.out _ _ S5.out (fun hHeld => ?_)
      try simp only [Act.put, List.setIfInBounds_toArray, List.set_cons_zero, List.set_cons_succ]
      clear hK cT cF
      refine wpAnyH_done (by kernel_rfl) ?_ _
      clear hHeld
      have r5 := S5.out.1
      have t5 := T5.out
      by_cases hbig : 1024 < lx + 1
      · have hg1 : decide ((1024 : Int) < ((lx + 1 : Nat) : Int)) = true := decide_eq_true (by omega)
        have hg2 : (1024 : Int) < (lx : Int) + 1 := by omega
        have mP := L2.out hbig
        clear L1 L2
        go_wp2_with fail
        refine mP.mono ?_
        rintro _ w6 ⟨rfl, hz⟩
        have Z := keep hz
        clear hz mP
        go_wp2
        go_end0
        exact ⟨rfl, Z.out⟩
      · have hg1 : decide ((1024 : Int) < ((lx + 1 : Nat) : Int)) = false := decide_eq_false (by omega)
        have hg2 : ¬ (1024 : Int) < (lx : Int) + 1 := by omega
        have Z := keep (L1.out (by omega))
        clear L1 L2
        go_wp2
        go_end0
        exact ⟨rfl, Z.out⟩
    · go_simp
      try rw [hW3]
      refine hK.out _ _ S3.out (fun hHeld => ?_)
      try simp only [Act.put, List.setIfInBounds_toArray, List.set_cons_zero, List.set_cons_succ]
      clear hK
      have cL := X3.out
      refine wpAnyH_ready (rs := [11]) (by kernel_rfl) (by simp) ?_
      refine AllReadyH.cons (o := { dst := some 58, op := _, type := _, pos := _, after := _, guard := _ }) rfl (fun K hK => ?_) AllReadyH.nil
      go_simp
      refine hK.out _ _ S3.out (fun hHeld => ?_)
      try simp only [Act.put, List.setIfInBounds_toArray, List.set_cons_zero, List.set_cons_succ]
      clear hK cL
      refine wpAnyH_ready (rs := [15]) (by kernel_rfl) (by simp) ?_
      refine AllReadyH.cons (o := { dst := some 62, op := _, type := _, pos := _, after := _, guard := _ }) rfl (fun K hK => ?_) AllReadyH.nil
      go_simp
      refine MI.out.mono ?_
      rintro _ w4 ⟨g', c', rfl, s4, cT, cF, hlast⟩
      obtain ⟨W5, hW5⟩ : ∃ W5, w4.setCell ⟨gt, i, none⟩ (.slice (some ⟨g', 0, none⟩) (lx + 1) c') = W5 := ⟨_, rfl⟩
      obtain ⟨s5, cT5, last1, last2⟩ := hlast.out W5 hW5.symm
      have T5 := keep cT5
      have L1 := keep last1
      have L2 := keep last2
      have S5 := keep s5
      clear hlast last1 last2 MI
      refine hK.out _ _ s4 (fun hHeld => ?_)
      try simp only [Act.put, List.setIfInBounds_toArray, List.set_cons_zero, List.set_cons_succ]
      clear hK s5 cT5 s4
      refine wpAnyH_take (i := 16) (oi := { dst := some 63, op := _, type := _, pos := _, after := _, guard := _ }) (v := (.pointer (some ⟨gt, i, none⟩))) rfl (by kernel_rfl) (by kernel_rfl) (by kernel_rfl) (fun _ _ _ h => h) (Or.inl ⟨by rfl, ?hy391⟩) (by assumption) ?rest391
      case hy391 => (intro w hSw; first | (go_simp; done) | (go_simp; simp [*]; done) | (simp [*]; go_simp; done))
      try simp only [Act.put, List.setIfInBounds_toArray, List.set_cons_zero, List.set_cons_succ]
      refine wpAnyH_ready (rs := [17]) (by kernel_rfl) (by simp) ?_
      refine AllReadyH.cons (o := { dst := none, op := _, type := _, pos := _, after := _, guard := _ }) rfl (fun K hK => ?_) AllReadyH.nil
      go_simp
      try rw [hW5]
      refine hK.out _ _ S5.out (fun hHeld => ?_)
      try simp only [Act.put, List.setIfInBounds_toArray, List.set_cons_zero, List.set_cons_succ]
      clear hK cT cF
      refine wpAnyH_done (by kernel_rfl) ?_ _
      clear hHeld
      have r5 := S5.out.1
      have t5 := T5.out
      by_cases hbig : 1024 < lx + 1
      · have hg1 : decide ((1024 : Int) < ((lx + 1 : Nat) : Int)) = true := decide_eq_true (by omega)
        have hg2 : (1024 : Int) < (lx : Int) + 1 := by omega
        have mP := L2.out hbig
        clear L1 L2
        go_wp2_with fail
        refine mP.mono ?_
        rintro _ w6 ⟨rfl, hz⟩
        have Z := keep hz
        clear hz mP
        go_wp2
        go_end0
        exact ⟨rfl, Z.out⟩
      · have hg1 : decide ((1024 : Int) < ((lx + 1 : Nat) : Int)) = false := decide_eq_false (by omega)
        have hg2 : ¬ (1024 : Int) < (lx : Int) + 1 := by omega
        have Z := keep (L1.out (by omega))
        clear L1 L2
        go_wp2
        go_end0
        exact ⟨rfl, Z.out⟩
end Go.Proofs.Ytapehjlpiobeaaa
