/-
  Contracts over this program: Trim.
-/
import Derived.Test.YtlfkdohajfkhdaaDqTrim0
import Derived.Test.YtlfkdohajfkhdaaDqFind1
namespace Go.Proofs.Ytlfkdohajfkhdaa
open Go.RowKit Go.Shelf
attribute [local go_sem] Oper.semAt_some
set_option linter.unusedVariables false
set_option maxHeartbeats 400000 in
theorem trim_nil (w : World) (f t : Int) : Calls Try.prog 23 #[nul, .int .i64 f, .int .i64 t] w fun e w' => e = .returned (.tuple #[]) ∧ Below w.heap.size w w' := by
  go_enter Try.func23, Try.ntmps23
  go_wp2
  refine bodyPost_ret (results_none rfl _ _ _) rfl ?_
  exact ⟨rfl, (((Below.refl _ w).alloc (Nat.le_refl _) _).alloc (by simp) _).alloc (by simp; omega) _⟩
/-- the three boxes -/
def w3t (w : World) (b : Nat) (f t : Int) : World := ((w.alloc (.cells #[ptr b] 23)).alloc (.cells #[.int .i64 f] 3)).alloc (.cells #[.int .i64 t] 3)
theorem w3t_size (w : World) (b : Nat) (f t : Int) : (w3t w b f t).heap.size = w.heap.size + 3 := by simp [w3t]
theorem w3t_below (w : World) (b : Nat) (f t : Int) : Below w.heap.size w (w3t w b f t) := (((Below.refl _ w).alloc (Nat.le_refl _) _).alloc (by simp) _).alloc (by simp; omega) _
theorem w3t_0 (w : World) (b : Nat) (f t : Int) : (w3t w b f t).heap[w.heap.size]? = some (.cells #[ptr b] 23 (0, 0)) := by
  unfold w3t
  rw [Below.heap_alloc _ _ _ (by simp; omega), Below.heap_alloc _ _ _ (by simp)]
  exact heap_alloc_new _ _
theorem w3t_1 (w : World) (b : Nat) (f t : Int) : (w3t w b f t).heap[w.heap.size + 1]? = some (.cells #[.int .i64 f] 3 (0, 0)) := by
  unfold w3t
  rw [Below.heap_alloc _ _ _ (by simp)]
  have := heap_alloc_new (w.alloc (.cells #[ptr b] 23)) (.cells #[.int .i64 f] 3)
  rwa [World.size_alloc] at this
theorem w3t_2 (w : World) (b : Nat) (f t : Int) : (w3t w b f t).heap[w.heap.size + 2]? = some (.cells #[.int .i64 t] 3 (0, 0)) := by
  unfold w3t
  have := heap_alloc_new ((w.alloc (.cells #[ptr b] 23)).alloc (.cells #[.int .i64 f] 3)) (.cells #[.int .i64 t] 3)
  rwa [World.size_alloc, World.size_alloc] at this
theorem takeC_big {L : List (List ByteArray)} {T : Nat} (hL : ∀ t ∈ L, 1 ≤ t.length) (h : L.flatten.length ≤ T) : takeC T L = L := by
  have := takeC_app [] L T hL h
  rw [List.append_nil] at this
  rw [this]
  simp [takeC]
def trimC (f t : Int) (L : List (List ByteArray)) : List (List ByteArray) := dropC f.toNat (takeC t.toNat L)
/-- a piece of code that ends as it should, whatever is behind it -/
def onlyN (R : Act → World → Prop) : Exit → Act → World → Prop
  | .normal, a, w => R a w
  | _, _, _ => False
theorem code_only {P : Program} {c : Code} {Q : Exit → Act → World → Prop} {a : Act} {w : World} (R : Act → World → Prop) (h : c.wp P (onlyN R) a w) (hR : ∀ a w, R a w → Q .normal a w) : c.wp P Q a w :=
  (wpIn_wide (n := 9)).1 (wpIn_mono ((wpIn_wide (n := 9)).2 h) (fun e a w h => by cases e <;> first | exact hR _ _ h | exact h.elim))
/-- behind the first lines: the boxes hold what they are to -/
def TrB (w : World) (b : Nat) (f t : Int) (w' : World) : Prop := w'.heap[w.heap.size]? = some (.cells #[ptr b] 23 (0, 0)) ∧ w'.heap[w.heap.size + 1]? = some (.cells #[.int .i64 f] 3 (0, 0)) ∧ w'.heap[w.heap.size + 2]? = some (.cells #[.int .i64 t] 3 (0, 0)) ∧ Below w.heap.size w w' ∧ w'.heap.size = w.heap.size + 3
theorem trB {w : World} {b : Nat} {f t f' t' : Int} : TrB w b f' t' (((w3t w b f t).setCell ⟨w.heap.size + 1, 0, none⟩ (.int .i64 f')).setCell ⟨w.heap.size + 1 + 1, 0, none⟩ (.int .i64 t')) := by
  refine ⟨?_, ?_, ?_, ?_, ?_⟩
  · rw [Below.heap_setCell _ _ _ _ (by show w.heap.size ≠ w.heap.size + 1 + 1; omega), Below.heap_setCell _ _ _ _ (by simp)]; exact w3t_0 w b f t
  · rw [Below.heap_setCell _ _ _ _ (by simp)]; exact cells_setCell (w3t_1 w b f t)
  · exact cells_setCell ((Below.heap_setCell _ _ _ _ (by simp)).trans (w3t_2 w b f t))
  · exact ((w3t_below w b f t).setCell (p := ⟨w.heap.size + 1, 0, none⟩) (by show w.heap.size ≤ w.heap.size + 1; omega) _).setCell (p := ⟨w.heap.size + 1 + 1, 0, none⟩) (by show w.heap.size ≤ w.heap.size + 1 + 1; omega) _
  · rw [set_size, set_size, w3t_size]
theorem TrB.drew {w : World} {b : Nat} {f t : Int} {w' : World} (h : TrB w b f t w') : TrB w b f t w'.drew := ⟨h.1, h.2.1, h.2.2.1, h.2.2.2.1.drew, h.2.2.2.2⟩
theorem cell0 {w : World} {k : Nat} {v : Value} {t : TypeId} {fr : Nat × Nat} (h : w.heap[k]? = some (.cells #[v] t fr)) : w.cell? ⟨k, 0, none⟩ = some v := by rw [cell_of_row _ _ _ _ _ _ h]; rfl
theorem trim_none {cs : List Chk} {f t : Int} (h : (if ((row cs).length : Int) < t then ((row cs).length : Int) else t) ≤ (if f < 0 then (0 : Int) else f)) : trimC f t (tx cs) = [] := by
  unfold trimC
  refine dropC_all _ _ ?_
  rw [takeC_flat, List.length_take, row_len_tx]
  split at h <;> split at h <;> omega
theorem trim_some {cs : List Chk} (hne : ∀ x ∈ cs, 1 ≤ x.2.length) {f t : Int} {F T : Nat} (hF : (if f < 0 then (0 : Int) else f) = (F : Int)) (hT : (if ((row cs).length : Int) < t then ((row cs).length : Int) else t) = (T : Int)) : trimC f t (tx cs) = dropC F (takeC T (tx cs)) := by
  unfold trimC
  have e1 : f.toNat = F := by split at hF <;> omega
  rw [e1]
  congr 1
  split at hT
  · rw [takeC_big (tx_ne hne) (by rw [row_len_tx]; omega), takeC_big (tx_ne hne) (by rw [row_len_tx]; omega)]
  · rw [show t.toNat = T by omega]
theorem trim_clear {w W4 : World} {b : Nat} {cs : List Chk} {f l : Value} {n c : Nat} (hb : Below w.heap.size w W4) (h : Ds W4 b f l n c) :
    Dq ((((W4.setCell ⟨b, 0, none⟩ (.pointer none)).setCell ⟨b, 1, none⟩ (.pointer none)).setCell ⟨b, 2, none⟩ (.int .i64 0)).setCell ⟨b, 3, none⟩ (.int .i64 0)) b [] ∧ Fd b cs w ((((W4.setCell ⟨b, 0, none⟩ (.pointer none)).setCell ⟨b, 1, none⟩ (.pointer none)).setCell ⟨b, 2, none⟩ (.int .i64 0)).setCell ⟨b, 3, none⟩ (.int .i64 0)) [] := by
  have h4 : Ds ((((W4.setCell ⟨b, 0, none⟩ (.pointer none)).setCell ⟨b, 1, none⟩ (.pointer none)).setCell ⟨b, 2, none⟩ (.int .i64 0)).setCell ⟨b, 3, none⟩ (.int .i64 0)) b nul nul 0 0 := (((h.set0 nul).set1 nul).set2 0).set3 0
  have ho : Ob b W4 ((((W4.setCell ⟨b, 0, none⟩ (.pointer none)).setCell ⟨b, 1, none⟩ (.pointer none)).setCell ⟨b, 2, none⟩ (.int .i64 0)).setCell ⟨b, 3, none⟩ (.int .i64 0)) := (((Ob.set b 0 W4 _).trans (Ob.set b 1 _ _)).trans (Ob.set b 2 _ _)).trans (Ob.set b 3 _ _)
  refine ⟨⟨⟨h4, trivial, by simp, fun t h => by simp [row] at h, by simp [row]⟩, fun x h => by cases h⟩, ⟨⟨ho.1.1.trans hb.os, ho.1.2.1.trans hb.tape, ho.1.2.2.trans hb.output⟩, by rw [ho.2.1]; exact hb.size, fun k hk hn => (ho.2.2 k (fun e => hn (.inl e))).trans (hb.block k hk)⟩, ?_⟩
  rintro k (e | ⟨x, hx, _⟩)
  · exact .inl (.inl e)
  · cases hx
/-- the blocks that stay as they are while Trim goes through the chunks -/
abbrev bx (n b : Nat) (F T : Nat) : List (Nat × Obj) := [(n, .cells #[ptr b] 23 (0, 0)), (n + 1, .cells #[.int .i64 (F : Int)] 3 (0, 0)), (n + 2, .cells #[.int .i64 (T : Int)] 3 (0, 0))]
set_option maxRecDepth 100000 in
set_option maxHeartbeats 4000000 in
theorem trim_any (w : World) (b : Nat) (cs : List Chk) (f t : Int) (hd : Dq w b cs) :
    Calls Try.prog 23 #[ptr b, .int .i64 f, .int .i64 t] w fun e w' => e = .returned (.tuple #[]) ∧ ∃ cs', Dq w' b cs' ∧ Fd b cs w w' cs' ∧ tx cs' = trimC f t (tx cs) := by
  have hN := hd.1.2.2.2.2
  obtain ⟨N, hNN⟩ : ∃ N, N = (row cs).length := ⟨_, rfl⟩
  rw [← hNN] at hN
  have hb3 := w3t_below w b f t
  have d3 := (hd.below hb3).1.1
  rw [← hNN] at d3
  have c0 : (w3t w b f t).cell? ⟨w.heap.size, 0, none⟩ = some (ptr b) := by rw [cell_of_row _ _ _ _ _ _ (w3t_0 w b f t)]; rfl
  have c1 : (w3t w b f t).cell? ⟨w.heap.size + 1, 0, none⟩ = some (.int .i64 f) := by rw [cell_of_row _ _ _ _ _ _ (w3t_1 w b f t)]; rfl
  have c2 : (w3t w b f t).cell? ⟨w.heap.size + 2, 0, none⟩ = some (.int .i64 t) := by rw [cell_of_row _ _ _ _ _ _ (w3t_2 w b f t)]; rfl
  have z1 : (w3t w b f t).frozen? ⟨w.heap.size + 1, 0, none⟩ = false := by simp [World.frozen?, w3t_1]
  have z2 : (w3t w b f t).frozen? ⟨w.heap.size + 2, 0, none⟩ = false := by simp [World.frozen?, w3t_2]
  have cn := d3.four.2.2.1
  obtain ⟨W3, hW3⟩ : ∃ x, w3t w b f t = x := ⟨_, rfl⟩
  rw [hW3] at c0 c1 c2 z1 z2 cn
  have HW3 := keep hW3
  have hW3' := hW3
  unfold w3t at hW3'
  have HD := keep hd
  have HNN := keep hNN
  clear hd hNN hN hb3 d3 hW3
  refine callsIn_wide (n := 9) |>.1 (callsIn_of_wp_marks Try.func23 rfl trivial (wpIn_wide.2 ?_) rfl)
  simp only [Try.ntmps23, List.size_toArray, List.length_cons, List.length_nil, Nat.reduceAdd, Nat.reduceSub, Array.replicate_succ, Array.replicate_zero, List.push_toArray, List.append_toArray, List.nil_append, List.cons_append]
  obtain ⟨f', hf'⟩ : ∃ x, (if f < 0 then (0 : Int) else f) = x := ⟨_, rfl⟩
  obtain ⟨t', ht'⟩ : ∃ x, (if (N : Int) < t then (N : Int) else t) = x := ⟨_, rfl⟩
  have hbl : b < w.heap.size := HD.out.1.lt (.inl rfl)
  have HS := keep fun (W : World) (k : Nat) (u : Value) (h : W.cell? ⟨w.heap.size, 0, none⟩ = some (ptr b) ∧ W.cell? ⟨b, 2, none⟩ = some (.int .i64 (N : Nat))) (hk : w.heap.size < k) => (show (W.setCell ⟨k, 0, none⟩ u).cell? ⟨w.heap.size, 0, none⟩ = some (ptr b) ∧ (W.setCell ⟨k, 0, none⟩ u).cell? ⟨b, 2, none⟩ = some (.int .i64 (N : Nat)) from
    ⟨by rw [World.cell?_setCell_other _ _ _ _ (by intro e; injection e with e; omega)]; exact h.1, by rw [World.cell?_setCell_other _ _ _ _ (by intro e; injection e with e; omega)]; exact h.2⟩)
  have c2' : (W3.setCell ⟨w.heap.size + 1, 0, none⟩ (.int .i64 f')).cell? ⟨w.heap.size + 1 + 1, 0, none⟩ = some (.int .i64 t) := by rw [World.cell?_setCell_other _ _ _ _ (by simp)]; exact c2
  have z2' : (W3.setCell ⟨w.heap.size + 1, 0, none⟩ (.int .i64 f')).frozen? ⟨w.heap.size + 1 + 1, 0, none⟩ = false := by rw [World.frozen?_setCell]; exact z2
  go_wp2_with fail
  clear hW3'
  refine code_only (fun a wx => a = { tmps := #[ptr b, .int .i64 f, .int .i64 t, .pointer (some ⟨w.heap.size, 0, none⟩), .pointer (some ⟨w.heap.size + 1, 0, none⟩), .pointer (some ⟨w.heap.size + 1 + 1, 0, none⟩), undef, undef, undef, undef, ptr b, .bool false, .int .i64 f, .int .i64 f', .int .i64 t, ptr b, ptr b, .pointer (some ⟨b, 2, none⟩), .int .i64 (N : Nat), .int .i64 t', undef, undef, undef, undef, undef, undef, undef, undef, undef, undef, undef, undef, undef, undef, undef, undef, undef, undef, undef, undef, undef, undef, undef, undef, undef, undef, undef, undef, undef, undef, undef, undef, undef, undef, undef, undef, undef, undef, undef, undef, undef, undef, undef, undef, undef, undef, undef], defers := [] } ∧ Kept (TrB w b f' t' wx)) ?first ?rest
  case first =>
    refine wp_region_held_drew (S := fun W => W.cell? ⟨w.heap.size, 0, none⟩ = some (ptr b) ∧ W.cell? ⟨b, 2, none⟩ = some (.int .i64 (N : Nat))) (by kernel_rfl) ⟨c0, cn⟩ (fun hHeld => ?_)
    refine wpAnyH_take (i := 3) (oi := { dst := some 15, op := _, type := _, pos := _, after := _, guard := _ }) (v := ?v1) rfl (by kernel_rfl) (by kernel_rfl) (by kernel_rfl) (fun _ _ _ h => h) (Or.inl ⟨by rfl, ?hy1⟩) (by assumption) ?rest1
    case hy1 => (intro w hSw; obtain ⟨p0, p1⟩ := hSw; go_simp; try with_reducible rfl)
    try simp only [Act.put, List.setIfInBounds_toArray, List.set_cons_zero, List.set_cons_succ]
    refine wpAnyH_take (i := 4) (oi := { dst := some 16, op := _, type := _, pos := _, after := _, guard := _ }) (v := ?v2) rfl (by kernel_rfl) (by kernel_rfl) (by kernel_rfl) (fun _ _ _ h => h) (Or.inl ⟨by rfl, ?hy2⟩) (by assumption) ?rest2
    case hy2 => (intro w hSw; obtain ⟨p0, p1⟩ := hSw; go_simp; try with_reducible rfl)
    try simp only [Act.put, List.setIfInBounds_toArray, List.set_cons_zero, List.set_cons_succ]
    refine wpAnyH_take (i := 5) (oi := { dst := some 17, op := _, type := _, pos := _, after := _, guard := _ }) (v := ?v3) rfl (by kernel_rfl) (by kernel_rfl) (by kernel_rfl) (fun _ _ _ h => h) (Or.inl ⟨by rfl, ?hy3⟩) (by assumption) ?rest3
    case hy3 => (intro w hSw; obtain ⟨p0, p1⟩ := hSw; go_simp; try with_reducible rfl)
    try simp only [Act.put, List.setIfInBounds_toArray, List.set_cons_zero, List.set_cons_succ]
    refine wpAnyH_take (i := 6) (oi := { dst := some 18, op := _, type := _, pos := _, after := _, guard := _ }) (v := ?v4) rfl (by kernel_rfl) (by kernel_rfl) (by kernel_rfl) (fun _ _ _ h => h) (Or.inl ⟨by rfl, ?hy4⟩) (by assumption) ?rest4
    case hy4 => (intro w hSw; obtain ⟨p0, p1⟩ := hSw; go_simp; try with_reducible rfl)
    try simp only [Act.put, List.setIfInBounds_toArray, List.set_cons_zero, List.set_cons_succ]
    refine wpAnyH_ready (rs := [0, 2]) (by kernel_rfl) (by simp) ?_
    refine AllReadyH.cons (o := { dst := some 12, op := _, type := _, pos := _, after := _, guard := _ }) rfl (fun K hK => ?_) (AllReadyH.cons (o := { dst := some 14, op := _, type := _, pos := _, after := _, guard := _ }) rfl (fun K hK => ?_) AllReadyH.nil)
    · go_simp
      refine hK.out _ _ hHeld (fun hHeld => ?_)
      try simp only [Act.put, List.setIfInBounds_toArray, List.set_cons_zero, List.set_cons_succ]
      clear hK
      refine wpAnyH_take (i := 1) (oi := { dst := some 13, op := _, type := _, pos := _, after := _, guard := _ }) (v := (.int .i64 f')) rfl (by kernel_rfl) (by kernel_rfl) (by kernel_rfl) (fun _ _ _ h => h) (Or.inl ⟨by rfl, ?hy5⟩) (by assumption) ?rest5
      case hy5 => (intro w hSw; first | (go_simp; done) | (go_simp; simp [*]; done) | (simp [*]; go_simp; done))
      try simp only [Act.put, List.setIfInBounds_toArray, List.set_cons_zero, List.set_cons_succ]
      refine wpAnyH_ready (rs := [2, 8]) (by kernel_rfl) (by simp) ?_
      refine AllReadyH.cons (o := { dst := some 14, op := _, type := _, pos := _, after := _, guard := _ }) rfl (fun K hK => ?_) (AllReadyH.cons (o := { dst := none, op := _, type := _, pos := _, after := _, guard := _ }) rfl (fun K hK => ?_) AllReadyH.nil)
      · go_simp
        refine hK.out _ _ hHeld (fun hHeld => ?_)
        try simp only [Act.put, List.setIfInBounds_toArray, List.set_cons_zero, List.set_cons_succ]
        clear hK
        refine wpAnyH_take (i := 7) (oi := { dst := some 19, op := _, type := _, pos := _, after := _, guard := _ }) (v := (.int .i64 t')) rfl (by kernel_rfl) (by kernel_rfl) (by kernel_rfl) (fun _ _ _ h => h) (Or.inl ⟨by rfl, ?hy6⟩) (by assumption) ?rest6
        case hy6 => (intro w hSw; first | (go_simp; done) | (go_simp; simp [*]; done) | (simp [*]; go_simp; done))
        try simp only [Act.put, List.setIfInBounds_toArray, List.set_cons_zero, List.set_cons_succ]
        refine wpAnyH_ready (rs := [8]) (by kernel_rfl) (by simp) ?_
        refine AllReadyH.cons (o := { dst := none, op := _, type := _, pos := _, after := _, guard := _ }) rfl (fun K hK => ?_) AllReadyH.nil
        go_simp
        refine hK.out _ _ (HS.out _ _ _ hHeld (by omega)) (fun hHeld => ?_)
        try simp only [Act.put, List.setIfInBounds_toArray, List.set_cons_zero, List.set_cons_succ]
        clear hK
        refine wpAnyH_ready (rs := [9]) (by kernel_rfl) (by simp) ?_
        refine AllReadyH.cons (o := { dst := none, op := _, type := _, pos := _, after := _, guard := _ }) rfl (fun K hK => ?_) AllReadyH.nil
        go_simp
        refine hK.out _ _ (HS.out _ _ _ hHeld (by omega)) (fun hHeld => ?_)
        try simp only [Act.put, List.setIfInBounds_toArray, List.set_cons_zero, List.set_cons_succ]
        clear hK
        refine wpAnyH_done (by kernel_rfl) ?_ _
        refine ⟨rfl, ?_⟩
        rw [← HW3.out]
        exact trB.drew
      · go_simp
        refine hK.out _ _ (HS.out _ _ _ hHeld (by omega)) (fun hHeld => ?_)
        try simp only [Act.put, List.setIfInBounds_toArray, List.set_cons_zero, List.set_cons_succ]
        clear hK
        refine wpAnyH_ready (rs := [2]) (by kernel_rfl) (by simp) ?_
        refine AllReadyH.cons (o := { dst := some 14, op := _, type := _, pos := _, after := _, guard := _ }) rfl (fun K hK => ?_) AllReadyH.nil
        go_simp
        refine hK.out _ _ hHeld (fun hHeld => ?_)
        try simp only [Act.put, List.setIfInBounds_toArray, List.set_cons_zero, List.set_cons_succ]
        clear hK
        refine wpAnyH_take (i := 7) (oi := { dst := some 19, op := _, type := _, pos := _, after := _, guard := _ }) (v := (.int .i64 t')) rfl (by kernel_rfl) (by kernel_rfl) (by kernel_rfl) (fun _ _ _ h => h) (Or.inl ⟨by rfl, ?hy7⟩) (by assumption) ?rest7
        case hy7 => (intro w hSw; first | (go_simp; done) | (go_simp; simp [*]; done) | (simp [*]; go_simp; done))
        try simp only [Act.put, List.setIfInBounds_toArray, List.set_cons_zero, List.set_cons_succ]
        refine wpAnyH_ready (rs := [9]) (by kernel_rfl) (by simp) ?_
        refine AllReadyH.cons (o := { dst := none, op := _, type := _, pos := _, after := _, guard := _ }) rfl (fun K hK => ?_) AllReadyH.nil
        go_simp
        refine hK.out _ _ (HS.out _ _ _ hHeld (by omega)) (fun hHeld => ?_)
        try simp only [Act.put, List.setIfInBounds_toArray, List.set_cons_zero, List.set_cons_succ]
        clear hK
        refine wpAnyH_done (by kernel_rfl) ?_ _
        refine ⟨rfl, ?_⟩
        rw [← HW3.out]
        exact trB.drew
    · go_simp
      refine hK.out _ _ hHeld (fun hHeld => ?_)
      try simp only [Act.put, List.setIfInBounds_toArray, List.set_cons_zero, List.set_cons_succ]
      clear hK
      refine wpAnyH_take (i := 7) (oi := { dst := some 19, op := _, type := _, pos := _, after := _, guard := _ }) (v := (.int .i64 t')) rfl (by kernel_rfl) (by kernel_rfl) (by kernel_rfl) (fun _ _ _ h => h) (Or.inl ⟨by rfl, ?hy8⟩) (by assumption) ?rest8
      case hy8 => (intro w hSw; first | (go_simp; done) | (go_simp; simp [*]; done) | (simp [*]; go_simp; done))
      try simp only [Act.put, List.setIfInBounds_toArray, List.set_cons_zero, List.set_cons_succ]
      refine wpAnyH_ready (rs := [0]) (by kernel_rfl) (by simp) ?_
      refine AllReadyH.cons (o := { dst := some 12, op := _, type := _, pos := _, after := _, guard := _ }) rfl (fun K hK => ?_) AllReadyH.nil
      go_simp
      refine hK.out _ _ hHeld (fun hHeld => ?_)
      try simp only [Act.put, List.setIfInBounds_toArray, List.set_cons_zero, List.set_cons_succ]
      clear hK
      refine wpAnyH_take (i := 1) (oi := { dst := some 13, op := _, type := _, pos := _, after := _, guard := _ }) (v := (.int .i64 f')) rfl (by kernel_rfl) (by kernel_rfl) (by kernel_rfl) (fun _ _ _ h => h) (Or.inl ⟨by rfl, ?hy9⟩) (by assumption) ?rest9
      case hy9 => (intro w hSw; first | (go_simp; done) | (go_simp; simp [*]; done) | (simp [*]; go_simp; done))
      try simp only [Act.put, List.setIfInBounds_toArray, List.set_cons_zero, List.set_cons_succ]
      refine wpAnyH_ready (rs := [8]) (by kernel_rfl) (by simp) ?_
      refine AllReadyH.cons (o := { dst := none, op := _, type := _, pos := _, after := _, guard := _ }) rfl (fun K hK => ?_) AllReadyH.nil
      go_simp
      refine hK.out _ _ (HS.out _ _ _ hHeld (by omega)) (fun hHeld => ?_)
      try simp only [Act.put, List.setIfInBounds_toArray, List.set_cons_zero, List.set_cons_succ]
      clear hK
      refine wpAnyH_ready (rs := [9]) (by kernel_rfl) (by simp) ?_
      refine AllReadyH.cons (o := { dst := none, op := _, type := _, pos := _, after := _, guard := _ }) rfl (fun K hK => ?_) AllReadyH.nil
      go_simp
      refine hK.out _ _ (HS.out _ _ _ hHeld (by omega)) (fun hHeld => ?_)
      try simp only [Act.put, List.setIfInBounds_toArray, List.set_cons_zero, List.set_cons_succ]
      clear hK
      refine wpAnyH_done (by kernel_rfl) ?_ _
      refine ⟨rfl, ?_⟩
      rw [← HW3.out]
      exact trB.drew
  case rest =>
    rintro _ W4 ⟨rfl, TB⟩
    have c0 := cell0 TB.out.1
    have c1 := cell0 TB.out.2.1
    have c2 := cell0 TB.out.2.2.1
    have hd4 := HD.out.below TB.out.2.2.2.1
    clear cn z2 z1 HS c2' z2' HW3
    by_cases hle : t' ≤ f'
    · have dle : decide (t' ≤ f') = true := decide_eq_true hle
      have hds := hd4.1.1
      have HDS := keep hds
      obtain ⟨d0, d1, d2, d3, dz⟩ := hds.four
      have z0 := dz 0
      have z1 := dz 1
      have z2 := dz 2
      have z3 := dz 3
      have hT : Kept (trimC f t (tx cs) = []) := trim_none (by rw [← HNN.out, ht', hf']; exact hle)
      clear hd4 dz hle hf' ht'
      go_wp2
      refine ⟨_, results_none rfl _ _ _, rfl, [], (trim_clear (cs := cs) TB.out.2.2.2.1 HDS.out).1, (trim_clear TB.out.2.2.2.1 HDS.out).2, ?_⟩
      rw [hT.out]
      rfl
    · have dle : decide (t' ≤ f') = false := decide_eq_false hle
      obtain ⟨F, hF⟩ : ∃ F : Nat, f' = (F : Int) := ⟨f'.toNat, by split at hf' <;> omega⟩
      obtain ⟨T, hT⟩ : ∃ T : Nat, t' = (T : Int) := ⟨t'.toNat, by omega⟩
      have hTN : T ≤ N := by split at ht' <;> omega
      have HTR : Kept (trimC f t (tx cs) = dropC F (takeC T (tx cs))) := trim_some HD.out.2 (hf'.trans hF) (by rw [← HNN.out]; exact ht'.trans hT)
      subst hF hT
      have HTN := keep hTN
      have hTF : ¬ T ≤ F := by omega
      have hTF2 : F < T := by omega
      have hTF3 : decide (T ≤ F) = false := decide_eq_false hTF
      clear hf' ht' hTN hd4
      go_wp2_with fail
      refine (falling_any _ b).mono ?_
      rintro _ w5 ⟨rfl, hw5⟩
      have hz4 := TB.out.2.2.2.2
      have HI0 : Kept (TrI w b cs (bx w.heap.size b F T ++ [(w.heap.size + 3, .cells #[ptr b] 23 (0, 0))]) (GF T cs) (fun _ => False) 0 w5) := by
        have ba : Below W4.heap.size W4 w5 := by rw [hw5]; exact (Below.refl _ _).alloc (Nat.le_refl _) _
        have hb5 := TB.out.2.2.2.1.trans (ba.mono TB.out.2.2.2.1.size)
        refine ⟨⟨cs, GF.first T cs, (HD.out.below hb5).1, fun _ h => h⟩, fun p hp => ?_, Sep.of_below hb5, fun k hk => HD.out.1.lt hk, fun _ h => h.elim⟩
        simp only [List.cons_append, List.nil_append, List.mem_cons, List.not_mem_nil, or_false] at hp
        rcases hp with rfl | rfl | rfl | rfl
        · exact ⟨⟨id, (ba.block _ (by dsimp only; omega)).trans TB.out.1⟩, Nat.le_refl _⟩
        · exact ⟨⟨id, (ba.block _ (by dsimp only; omega)).trans TB.out.2.1⟩, by dsimp only; omega⟩
        · exact ⟨⟨id, (ba.block _ (by dsimp only; omega)).trans TB.out.2.2.1⟩, by dsimp only; omega⟩
        · refine ⟨⟨id, ?_⟩, by dsimp only; omega⟩
          dsimp only
          rw [hw5, ← hz4]
          exact heap_alloc_new _ _
      rw [hz4]
      clear hw5 hz4 c0 c1 c2 TB
      go_wp2
      refine (wpIn_wide (n := 9)).1 (range_own (α := Nat × Nat) (gf := 62) (lb := #[.pointer (some ⟨w.heap.size + 3, 0, none⟩)]) (by simp [Act.eval]) (enters_of Try.func62 (by kernel_rfl) rfl) (encs := riV) (L := (riL 0 cs).reverse) (fun _ => rfl)
        (fun W1 hb => falling_iter (w.heap.size + 3) b cs HD.out.2 HD.out.1.2.2.2.2 W1)
        (TrI w b cs (bx w.heap.size b F T ++ [(w.heap.size + 3, .cells #[ptr b] 23 (0, 0))]) (GF T cs)) (fun c M m W1 => c = .exit 0 ∧ TrI w b cs (bx w.heap.size b F T ++ [(w.heap.size + 3, .cells #[ptr b] 23 (0, 0))]) (fun _ cs' => tx cs' = takeC T (tx cs)) M m W1) TrI.abd (fun c M M' m A B h hs hx => ⟨h.1, TrI.abd _ _ _ _ _ h.2 hs hx⟩) HI0.out (fun M m W1 h => h.rdF (by simp)) ?round ?done ?stop)
      case done =>
        intro M' D W5 hI hD hDk hM'
        rw [List.length_reverse, riL_len] at hI
        have TI := hI.any (G' := fun _ cs' => tx cs' = takeC T (tx cs)) (m' := 0) (fun cs' h => h.last)
        clear hI HI0
        obtain ⟨⟨cs1, g1, g2, g3⟩, g4, g5, g6, g7⟩ := TI
        have hd1 : Dq W5 b cs1 := dq_of_tx g2 (by rw [g1]; exact takeC_ne _ _ (tx_ne HD.out.2))
        have cb := cell0 (g4 (w.heap.size, .cells #[ptr b] 23 (0, 0)) (by simp)).1.2
        have HD1 := keep hd1
        have HT1 := keep g1
        have HDK := keep hDk
        have G5 := keep g5
        have G6 := keep g6
        have G3 := keep g3
        have G4 := keep g4
        have hDw := g7 D hD
        clear g1 g2 g3 g4 g5 g6 g7 hd1 hDk hD hM'
        go_wp2_with fail
        refine (rising_any _ b).mono ?_
        rintro _ w6 ⟨rfl, hw6⟩
        obtain ⟨Bd2, hBd2⟩ : ∃ x, W5.heap.size = x := ⟨_, rfl⟩
        have HI1 : Kept (TrI w b cs (bx w.heap.size b F T ++ [(Bd2, .cells #[ptr b] 23 (0, 0)), (D, .deferred (some []))]) (GR F cs1) (fun _ => False) 0 w6) := by
          have ba : Below W5.heap.size W5 w6 := by rw [hw6]; exact (Below.refl _ _).alloc (Nat.le_refl _) _
          refine ⟨⟨cs1, GR.first F cs1, HD1.out.1.kept fun k hk => ba.block k (HD1.out.1.lt hk), G3.out⟩, fun p hp => ?_, G5.out.trans (Sep.of_below ba), G6.out, fun _ h => h.elim⟩
          rcases List.mem_append.1 hp with hp | hp
          · have g := G4.out p (by simp at hp ⊢; rcases hp with h | h | h <;> simp [h])
            exact ⟨⟨id, (ba.block _ (Array.getElem?_eq_some_iff.1 g.1.2).1).trans g.1.2⟩, g.2⟩
          · simp only [List.mem_cons, List.not_mem_nil, or_false] at hp
            rcases hp with rfl | rfl
            · refine ⟨⟨id, ?_⟩, ?_⟩
              · dsimp only; rw [hw6, ← hBd2]; exact heap_alloc_new _ _
              · dsimp only; have := G5.out.2.1; omega
            · refine ⟨⟨id, ?_⟩, hDw⟩
              exact (ba.block _ (Array.getElem?_eq_some_iff.1 HDK.out).1).trans HDK.out
        rw [hBd2]
        have END := keep fun (W7 W8 : World) (M7 : Nat → Prop) (D2 m7 : Nat) (hI : TrI w b cs (bx w.heap.size b F T ++ [(Bd2, .cells #[ptr b] 23 (0, 0)), (D, .deferred (some []))]) (fun _ cs' => tx cs' = dropC F (tx cs1)) M7 m7 W7) (hD2 : M7 D2) (hs : Sep (· ∈ [D2, D]) W7 W8) =>
          (show ∃ cs', Dq W8 b cs' ∧ Fd b cs w W8 cs' ∧ tx cs' = trimC f t (tx cs) from by
            obtain ⟨⟨cs2, q1, q2, q3⟩, q4, q5, q6, q7⟩ := hI
            have far : ∀ k, k < w.heap.size → ¬ k ∈ [D2, D] := fun k hk e => by
              simp only [List.mem_cons, List.not_mem_nil, or_false] at e
              have := q7 D2 hD2
              omega
            refine ⟨cs2, dq_of_tx (q2.kept fun k hk => hs.2.2 k (q2.lt hk) (far k (q6 k (q3 k hk)))) (by rw [q1, HT1.out]; exact dropC_ne _ _ (takeC_ne _ _ (tx_ne HD.out.2))), ⟨⟨⟨hs.1.1.trans q5.1.1, hs.1.2.1.trans q5.1.2.1, hs.1.2.2.trans q5.1.2.2⟩, Nat.le_trans q5.2.1 hs.2.1, fun k hk hn => (hs.2.2 k (Nat.lt_of_lt_of_le hk q5.2.1) (far k hk)).trans (q5.2.2 k hk hn)⟩, fun k hk => .inl (q3 k hk)⟩, ?_⟩
            rw [q1, HT1.out, HTR.out])
        clear hw6 hBd2 hDw G3 G4 G5 G6 HDK cb
        go_wp2
        refine (wpIn_wide (n := 9)).1 (range_own (α := Nat × Nat) (gf := 56) (lb := #[.pointer (some ⟨Bd2, 0, none⟩)]) (by simp [Act.eval]) (enters_of Try.func56 (by kernel_rfl) rfl) (encs := riV) (L := riL 0 cs1) (fun _ => rfl)
          (fun W1 hb => rising_iter Bd2 b cs1 HD1.out.2 HD1.out.1.2.2.2.2 W1)
          (TrI w b cs (bx w.heap.size b F T ++ [(Bd2, .cells #[ptr b] 23 (0, 0)), (D, .deferred (some []))]) (GR F cs1)) (fun c M m W1 => c = .exit 2 ∧ TrI w b cs (bx w.heap.size b F T ++ [(Bd2, .cells #[ptr b] 23 (0, 0)), (D, .deferred (some []))]) (fun _ cs' => tx cs' = dropC F (tx cs1)) M m W1) TrI.abd (fun c M M' m A B h hs hx => ⟨h.1, TrI.abd _ _ _ _ _ h.2 hs hx⟩) HI1.out (fun M m W1 h => h.rdR (by simp)) ?round1 ?done1 ?stop1)
        case done1 =>
          intro M7 D2 W7 hI7 hD2 hDk2 hM7
          rw [riL_len] at hI7
          have hI7 := hI7.any (G' := fun _ cs' => tx cs' = dropC F (tx cs1)) (m' := 0) (fun cs' h => h.last)
          have hDk := (hI7.2.1 (D, .deferred (some [])) (by simp)).1
          clear HI1
          go_wp2
          refine leave_marks [D2, D] _ (by simp; exact fun e => hDk.1 (e ▸ hD2)) (by intro x hx; simp only [List.mem_cons, List.not_mem_nil, or_false] at hx; rcases hx with rfl | rfl; exact hDk2; exact hDk.2) (fun W8 hs => ?_)
          exact ⟨_, results_none rfl _ _ _, rfl, END.out W7 W8 M7 D2 0 hI7 hD2 hs⟩
        case stop1 =>
          rintro c' M7 D2 m7 W7 hm7 ⟨rfl, hI7⟩ hD2 hDk2 hM7
          have hDk := (hI7.2.1 (D, .deferred (some [])) (by simp)).1
          refine (wpIn_wide (n := 9)).2 ?_
          dsimp only
          clear HI1
          go_wp2
          refine leave_marks [D2, D] _ (by simp; exact fun e => hDk.1 (e ▸ hD2)) (by intro x hx; simp only [List.mem_cons, List.not_mem_nil, or_false] at hx; rcases hx with rfl | rfl; exact hDk2; exact hDk.2) (fun W8 hs => ?_)
          exact ⟨_, results_none rfl _ _ _, rfl, END.out W7 W8 M7 D2 _ hI7 hD2 hs⟩
        case round1 =>
          intro M' l' m x W1 hI hx hl hrec hM'
          obtain ⟨A, c, ts, B, hcs, hAl, rfl⟩ := riL_get hx
          have HI := keep hI
          have HM' := keep hM'
          clear hI hx hM' hrec HI1 END
          unfold riV
          gi_wp2
          refine ⟨Mk.refl _ _, fun rl => ?_⟩
          obtain ⟨W2, hW2⟩ : ∃ W2, W1.putObj l' (.loop rl) = W2 := ⟨_, rfl⟩
          rw [hW2]
          have hz2' : W2.heap.size = W1.heap.size := by rw [← hW2]; simp
          have hI2 := TrI.abd M' M' m W1 (W1.putObj l' (.loop rl)) HI.out (Sep.put _ _ hl) (Ext.refl _ _ _)
          rw [hW2] at hI2
          have HI2 := keep hI2
          obtain ⟨⟨cs', g1, g2, g3⟩, g4, g5, g6, g7⟩ := hI2
          have G1 := keep g1
          obtain ⟨R, hR, _⟩ := g1.at hcs hAl
          rw [hR] at g2 g3
          have cc := (ch_app.1 g2.2.1).2.1.cells.2.2.1
          have cb := cell0 (g4 (w.heap.size, .cells #[ptr b] 23 (0, 0)) (by simp)).1.2
          have cF := cell0 (g4 (w.heap.size + 1, .cells #[.int .i64 (F : Int)] 3 (0, 0)) (by simp)).1.2
          have hne1 : 1 ≤ ts.length := HD1.out.2 (c, ts) (by rw [hcs]; simp)
          have hrl : (row A).length + ts.length ≤ 1048576 := by
            have := HD1.out.1.2.2.2.2
            rw [hcs, row_app, row_cons, List.length_append, List.length_append] at this
            dsimp only at this
            omega
          have HFM : Kept (F ≤ 1048576) := by have := HTN.out; have := HNN.out; have := HD.out.1.2.2.2.2; show F ≤ _; omega
          have HMl : Kept (∀ k, M' k → k < W2.heap.size) := fun k hk => by have := HM'.out k hk; omega
          obtain ⟨sA, hsA⟩ : ∃ x, x = (row A).length := ⟨_, rfl⟩
          obtain ⟨n, hn⟩ : ∃ x, x = ts.length := ⟨_, rfl⟩
          rw [← hsA, ← hn] at hrl
          rw [← hn] at cc hne1
          rw [← hsA]
          have HSA := keep hsA
          have HTT := keep hn
          have HCS := keep hcs
          have HAL := keep hAl
          have HR := keep hR
          have G2 := keep g2
          have G3 := keep g3
          clear hsA hn hcs hAl hR g1 g2 g3 g4 g5 g6 g7 hW2 hz2'
          by_cases hlt : F ≤ sA
          · have dz : decide ((F : Int) ≤ (sA : Int)) = true := decide_eq_true (by omega)
            have fin : Kept (TrI w b cs (bx w.heap.size b F T ++ [(Bd2, .cells #[ptr b] 23 (0, 0)), (D, .deferred (some []))]) (fun _ cs' => tx cs' = dropC F (tx cs1)) M' (m + 1) W2) :=
              HI2.out.any (fun cs' h => h.stop HD1.out.2 HCS.out HAL.out (by rw [← HSA.out]; exact hlt))
            gi_wp2
            exact ⟨Mk.refl _ _, rfl, fin.out⟩
          · have dz : decide ((F : Int) ≤ (sA : Int)) = false := decide_eq_false (by omega)
            obtain ⟨q, hq⟩ : ∃ q, q = min (F - sA) n := ⟨_, rfl⟩
            have wr2 : IntKind.i64.wrap ((F : Int) - (sA : Int)) = (F : Int) - (sA : Int) := by have := HFM.out; rw [IntKind.wrap_i64]; omega
            have mn : (if (n : Int) < (F : Int) - (sA : Int) then (n : Int) else (F : Int) - (sA : Int)) = (q : Int) := by split <;> omega
            obtain ⟨hst1, hst2⟩ := G1.out.step HCS.out HAL.out (k := q) (by rw [← HSA.out]; omega) (by rw [← HSA.out, ← HTT.out]; exact hq) (by rw [← HTT.out]; exact hne1)
            have g2' := G2.out
            have g3' := G3.out
            rw [← HR.out, hst1] at g2' g3'
            have mC := keep (cut_any W2.drew b c [] B ts 0 q (g2'.kept (fun _ _ => rfl)) (by omega) (by rw [← HTT.out]; omega))
            have FIN := keep fun (w' : World) (k1 : Dq0 w' b (cutC [] c (ts.take 0 ++ ts.drop q) B)) (k2 : Fd b ([] ++ (c, ts) :: B) W2.drew w' (cutC [] c (ts.take 0 ++ ts.drop q) B)) =>
              TrI.cut (G' := GR F cs1) (m' := m + 1) HI2.out.drew HMl.out g3' k1 k2 hst2
            have dz2 : decide (F ≤ sA) = false := decide_eq_false hlt
            clear hst1 hst2 g2' g3' hq
            gi_wp2_with fail
            refine region_round2 (S := fun W => W.cell? ⟨w.heap.size, 0, none⟩ = some (ptr b) ∧ W.cell? ⟨w.heap.size + 1, 0, none⟩ = some (.int .i64 (F : Int))) (by kernel_rfl) (by kernel_rfl) ⟨cb, cF⟩ (fun hHeld => ?_)
            refine wpAnyH_take (i := 0) (oi := { dst := some 56, op := _, type := _, pos := _, after := _, guard := _ }) (v := ?v10) rfl (by kernel_rfl) (by kernel_rfl) (by kernel_rfl) (fun _ _ _ h => h) (Or.inl ⟨by rfl, ?hy10⟩) (by assumption) ?rest10
            case hy10 => (intro w hSw; obtain ⟨p0, p1⟩ := hSw; go_simp; try with_reducible rfl)
            try simp only [Act.put, List.setIfInBounds_toArray, List.set_cons_zero, List.set_cons_succ]
            refine wpAnyH_take (i := 1) (oi := { dst := some 57, op := _, type := _, pos := _, after := _, guard := _ }) (v := ?v11) rfl (by kernel_rfl) (by kernel_rfl) (by kernel_rfl) (fun _ _ _ h => h) (Or.inl ⟨by rfl, ?hy11⟩) (by assumption) ?rest11
            case hy11 => (intro w hSw; obtain ⟨p0, p1⟩ := hSw; go_simp; try with_reducible rfl)
            try simp only [Act.put, List.setIfInBounds_toArray, List.set_cons_zero, List.set_cons_succ]
            refine wpAnyH_take (i := 2) (oi := { dst := some 58, op := _, type := _, pos := _, after := _, guard := _ }) (v := ?v12) rfl (by kernel_rfl) (by kernel_rfl) (by kernel_rfl) (fun _ _ _ h => h) (Or.inl ⟨by rfl, ?hy12⟩) (by assumption) ?rest12
            case hy12 => (intro w hSw; obtain ⟨p0, p1⟩ := hSw; go_simp; try with_reducible rfl)
            try simp only [Act.put, List.setIfInBounds_toArray, List.set_cons_zero, List.set_cons_succ]
            refine wpAnyH_take (i := 3) (oi := { dst := some 59, op := _, type := _, pos := _, after := _, guard := _ }) (v := ?v13) rfl (by kernel_rfl) (by kernel_rfl) (by kernel_rfl) (fun _ _ _ h => h) (Or.inl ⟨by rfl, ?hy13⟩) (by assumption) ?rest13
            case hy13 => (intro w hSw; obtain ⟨p0, p1⟩ := hSw; go_simp; try with_reducible rfl)
            try simp only [Act.put, List.setIfInBounds_toArray, List.set_cons_zero, List.set_cons_succ]
            refine wpAnyH_take (i := 4) (oi := { dst := some 60, op := _, type := _, pos := _, after := _, guard := _ }) (v := (.int .i64 ((F : Int) - (sA : Int)))) rfl (by kernel_rfl) (by kernel_rfl) (by kernel_rfl) (fun _ _ _ h => h) (Or.inl ⟨by rfl, ?hy14⟩) (by assumption) ?rest14
            case hy14 => (intro w hSw; obtain ⟨p0, p1⟩ := hSw; first | (go_simp; done) | (go_simp; simp [*]; done) | (simp [*]; go_simp; done))
            try simp only [Act.put, List.setIfInBounds_toArray, List.set_cons_zero, List.set_cons_succ]
            refine wpAnyH_take (i := 5) (oi := { dst := some 61, op := _, type := _, pos := _, after := _, guard := _ }) (v := ?v15) rfl (by kernel_rfl) (by kernel_rfl) (by kernel_rfl) (fun _ _ _ h => h) (Or.inl ⟨by rfl, ?hy15⟩) (by assumption) ?rest15
            case hy15 => (intro w hSw; obtain ⟨p0, p1⟩ := hSw; go_simp; try with_reducible rfl)
            try simp only [Act.put, List.setIfInBounds_toArray, List.set_cons_zero, List.set_cons_succ]
            refine wpAnyH_take (i := 6) (oi := { dst := some 62, op := _, type := _, pos := _, after := _, guard := _ }) (v := ?v16) rfl (by kernel_rfl) (by kernel_rfl) (by kernel_rfl) (fun _ _ _ h => h) (Or.inl ⟨by rfl, ?hy16⟩) (by assumption) ?rest16
            case hy16 => (intro w hSw; obtain ⟨p0, p1⟩ := hSw; go_simp; try with_reducible rfl)
            try simp only [Act.put, List.setIfInBounds_toArray, List.set_cons_zero, List.set_cons_succ]
            refine wpAnyH_take (i := 7) (oi := { dst := some 63, op := _, type := _, pos := _, after := _, guard := _ }) (v := ?v17) rfl (by kernel_rfl) (by kernel_rfl) (by kernel_rfl) (fun _ _ _ h => h) (Or.inl ⟨by rfl, ?hy17⟩) (by assumption) ?rest17
            case hy17 => (intro w hSw; obtain ⟨p0, p1⟩ := hSw; go_simp; try with_reducible rfl)
            try simp only [Act.put, List.setIfInBounds_toArray, List.set_cons_zero, List.set_cons_succ]
            refine wpAnyH_ready (rs := [8]) (by kernel_rfl) (by simp) ?_
            refine AllReadyH.cons (o := { dst := some 64, op := _, type := _, pos := _, after := _, guard := _ }) rfl (fun K hK => ?_) AllReadyH.nil
            go_simp
            refine hK.out _ _ hHeld (fun hHeld => ?_)
            try simp only [Act.put, List.setIfInBounds_toArray, List.set_cons_zero, List.set_cons_succ]
            clear hK
            refine wpAnyH_take (i := 9) (oi := { dst := some 65, op := _, type := _, pos := _, after := _, guard := _ }) (v := (.int .i64 (q : Int))) rfl (by kernel_rfl) (by kernel_rfl) (by kernel_rfl) (fun _ _ _ h => h) (Or.inl ⟨by rfl, ?hy18⟩) (by assumption) ?rest18
            case hy18 => (intro w hSw; first | (go_simp; done) | (go_simp; simp [*]; done) | (simp [*]; go_simp; done))
            try simp only [Act.put, List.setIfInBounds_toArray, List.set_cons_zero, List.set_cons_succ]
            refine wpAnyH_ready (rs := [10]) (by kernel_rfl) (by simp) ?_
            refine AllReadyH.cons (o := { dst := some 66, op := _, type := _, pos := _, after := _, guard := _ }) rfl (fun K hK => ?_) AllReadyH.nil
            go_simp
            refine mC.out.mono ?_
            rintro _ w' ⟨rfl, k1, k2⟩
            have fin := FIN.out w' k1 k2
            have FI := keep fin
            refine hK.out _ _ ⟨cell0 (fin.2.2.1 (w.heap.size, .cells #[ptr b] 23 (0, 0)) (by simp)).1.2, cell0 (fin.2.2.1 (w.heap.size + 1, .cells #[.int .i64 (F : Int)] 3 (0, 0)) (by simp)).1.2⟩ (fun hHeld => ?_)
            try simp only [Act.put, List.setIfInBounds_toArray, List.set_cons_zero, List.set_cons_succ]
            clear hK fin k1 k2
            refine wpAnyH_done (by kernel_rfl) ?_ _
            simp only [noOut]
            clear hHeld
            gi_wp2
            exact FI.out
      case stop =>
        rintro c' M' D m W5 hm ⟨rfl, TI⟩ hD hDk hM'
        refine (wpIn_wide (n := 9)).2 ?_
        dsimp only
        clear HI0
        obtain ⟨⟨cs1, g1, g2, g3⟩, g4, g5, g6, g7⟩ := TI
        have hd1 : Dq W5 b cs1 := dq_of_tx g2 (by rw [g1]; exact takeC_ne _ _ (tx_ne HD.out.2))
        have cb := cell0 (g4 (w.heap.size, .cells #[ptr b] 23 (0, 0)) (by simp)).1.2
        have HD1 := keep hd1
        have HT1 := keep g1
        have HDK := keep hDk
        have G5 := keep g5
        have G6 := keep g6
        have G3 := keep g3
        have G4 := keep g4
        have hDw := g7 D hD
        clear g1 g2 g3 g4 g5 g6 g7 hd1 hDk hD hM'
        go_wp2_with fail
        refine (rising_any _ b).mono ?_
        rintro _ w6 ⟨rfl, hw6⟩
        obtain ⟨Bd2, hBd2⟩ : ∃ x, W5.heap.size = x := ⟨_, rfl⟩
        have HI1 : Kept (TrI w b cs (bx w.heap.size b F T ++ [(Bd2, .cells #[ptr b] 23 (0, 0)), (D, .deferred (some []))]) (GR F cs1) (fun _ => False) 0 w6) := by
          have ba : Below W5.heap.size W5 w6 := by rw [hw6]; exact (Below.refl _ _).alloc (Nat.le_refl _) _
          refine ⟨⟨cs1, GR.first F cs1, HD1.out.1.kept fun k hk => ba.block k (HD1.out.1.lt hk), G3.out⟩, fun p hp => ?_, G5.out.trans (Sep.of_below ba), G6.out, fun _ h => h.elim⟩
          rcases List.mem_append.1 hp with hp | hp
          · have g := G4.out p (by simp at hp ⊢; rcases hp with h | h | h <;> simp [h])
            exact ⟨⟨id, (ba.block _ (Array.getElem?_eq_some_iff.1 g.1.2).1).trans g.1.2⟩, g.2⟩
          · simp only [List.mem_cons, List.not_mem_nil, or_false] at hp
            rcases hp with rfl | rfl
            · refine ⟨⟨id, ?_⟩, ?_⟩
              · dsimp only; rw [hw6, ← hBd2]; exact heap_alloc_new _ _
              · dsimp only; have := G5.out.2.1; omega
            · refine ⟨⟨id, ?_⟩, hDw⟩
              exact (ba.block _ (Array.getElem?_eq_some_iff.1 HDK.out).1).trans HDK.out
        rw [hBd2]
        have END := keep fun (W7 W8 : World) (M7 : Nat → Prop) (D2 m7 : Nat) (hI : TrI w b cs (bx w.heap.size b F T ++ [(Bd2, .cells #[ptr b] 23 (0, 0)), (D, .deferred (some []))]) (fun _ cs' => tx cs' = dropC F (tx cs1)) M7 m7 W7) (hD2 : M7 D2) (hs : Sep (· ∈ [D2, D]) W7 W8) =>
          (show ∃ cs', Dq W8 b cs' ∧ Fd b cs w W8 cs' ∧ tx cs' = trimC f t (tx cs) from by
            obtain ⟨⟨cs2, q1, q2, q3⟩, q4, q5, q6, q7⟩ := hI
            have far : ∀ k, k < w.heap.size → ¬ k ∈ [D2, D] := fun k hk e => by
              simp only [List.mem_cons, List.not_mem_nil, or_false] at e
              have := q7 D2 hD2
              omega
            refine ⟨cs2, dq_of_tx (q2.kept fun k hk => hs.2.2 k (q2.lt hk) (far k (q6 k (q3 k hk)))) (by rw [q1, HT1.out]; exact dropC_ne _ _ (takeC_ne _ _ (tx_ne HD.out.2))), ⟨⟨⟨hs.1.1.trans q5.1.1, hs.1.2.1.trans q5.1.2.1, hs.1.2.2.trans q5.1.2.2⟩, Nat.le_trans q5.2.1 hs.2.1, fun k hk hn => (hs.2.2 k (Nat.lt_of_lt_of_le hk q5.2.1) (far k hk)).trans (q5.2.2 k hk hn)⟩, fun k hk => .inl (q3 k hk)⟩, ?_⟩
            rw [q1, HT1.out, HTR.out])
        clear hw6 hBd2 hDw G3 G4 G5 G6 HDK cb
        go_wp2
        refine (wpIn_wide (n := 9)).1 (range_own (α := Nat × Nat) (gf := 56) (lb := #[.pointer (some ⟨Bd2, 0, none⟩)]) (by simp [Act.eval]) (enters_of Try.func56 (by kernel_rfl) rfl) (encs := riV) (L := riL 0 cs1) (fun _ => rfl)
          (fun W1 hb => rising_iter Bd2 b cs1 HD1.out.2 HD1.out.1.2.2.2.2 W1)
          (TrI w b cs (bx w.heap.size b F T ++ [(Bd2, .cells #[ptr b] 23 (0, 0)), (D, .deferred (some []))]) (GR F cs1)) (fun c M m W1 => c = .exit 2 ∧ TrI w b cs (bx w.heap.size b F T ++ [(Bd2, .cells #[ptr b] 23 (0, 0)), (D, .deferred (some []))]) (fun _ cs' => tx cs' = dropC F (tx cs1)) M m W1) TrI.abd (fun c M M' m A B h hs hx => ⟨h.1, TrI.abd _ _ _ _ _ h.2 hs hx⟩) HI1.out (fun M m W1 h => h.rdR (by simp)) ?round2 ?done2 ?stop2)
        case done2 =>
          intro M7 D2 W7 hI7 hD2 hDk2 hM7
          rw [riL_len] at hI7
          have hI7 := hI7.any (G' := fun _ cs' => tx cs' = dropC F (tx cs1)) (m' := 0) (fun cs' h => h.last)
          have hDk := (hI7.2.1 (D, .deferred (some [])) (by simp)).1
          clear HI1
          go_wp2
          refine leave_marks [D2, D] _ (by simp; exact fun e => hDk.1 (e ▸ hD2)) (by intro x hx; simp only [List.mem_cons, List.not_mem_nil, or_false] at hx; rcases hx with rfl | rfl; exact hDk2; exact hDk.2) (fun W8 hs => ?_)
          exact ⟨_, results_none rfl _ _ _, rfl, END.out W7 W8 M7 D2 0 hI7 hD2 hs⟩
        case stop2 =>
          rintro c' M7 D2 m7 W7 hm7 ⟨rfl, hI7⟩ hD2 hDk2 hM7
          have hDk := (hI7.2.1 (D, .deferred (some [])) (by simp)).1
          refine (wpIn_wide (n := 9)).2 ?_
          dsimp only
          clear HI1
          go_wp2
          refine leave_marks [D2, D] _ (by simp; exact fun e => hDk.1 (e ▸ hD2)) (by intro x hx; simp only [List.mem_cons, List.not_mem_nil, or_false] at hx; rcases hx with rfl | rfl; exact hDk2; exact hDk.2) (fun W8 hs => ?_)
          exact ⟨_, results_none rfl _ _ _, rfl, END.out W7 W8 M7 D2 _ hI7 hD2 hs⟩
        case round2 =>
          intro M' l' m x W1 hI hx hl hrec hM'
          obtain ⟨A, c, ts, B, hcs, hAl, rfl⟩ := riL_get hx
          have HI := keep hI
          have HM' := keep hM'
          clear hI hx hM' hrec HI1 END
          unfold riV
          gi_wp2
          refine ⟨Mk.refl _ _, fun rl => ?_⟩
          obtain ⟨W2, hW2⟩ : ∃ W2, W1.putObj l' (.loop rl) = W2 := ⟨_, rfl⟩
          rw [hW2]
          have hz2' : W2.heap.size = W1.heap.size := by rw [← hW2]; simp
          have hI2 := TrI.abd M' M' m W1 (W1.putObj l' (.loop rl)) HI.out (Sep.put _ _ hl) (Ext.refl _ _ _)
          rw [hW2] at hI2
          have HI2 := keep hI2
          obtain ⟨⟨cs', g1, g2, g3⟩, g4, g5, g6, g7⟩ := hI2
          have G1 := keep g1
          obtain ⟨R, hR, _⟩ := g1.at hcs hAl
          rw [hR] at g2 g3
          have cc := (ch_app.1 g2.2.1).2.1.cells.2.2.1
          have cb := cell0 (g4 (w.heap.size, .cells #[ptr b] 23 (0, 0)) (by simp)).1.2
          have cF := cell0 (g4 (w.heap.size + 1, .cells #[.int .i64 (F : Int)] 3 (0, 0)) (by simp)).1.2
          have hne1 : 1 ≤ ts.length := HD1.out.2 (c, ts) (by rw [hcs]; simp)
          have hrl : (row A).length + ts.length ≤ 1048576 := by
            have := HD1.out.1.2.2.2.2
            rw [hcs, row_app, row_cons, List.length_append, List.length_append] at this
            dsimp only at this
            omega
          have HFM : Kept (F ≤ 1048576) := by have := HTN.out; have := HNN.out; have := HD.out.1.2.2.2.2; show F ≤ _; omega
          have HMl : Kept (∀ k, M' k → k < W2.heap.size) := fun k hk => by have := HM'.out k hk; omega
          obtain ⟨sA, hsA⟩ : ∃ x, x = (row A).length := ⟨_, rfl⟩
          obtain ⟨n, hn⟩ : ∃ x, x = ts.length := ⟨_, rfl⟩
          rw [← hsA, ← hn] at hrl
          rw [← hn] at cc hne1
          rw [← hsA]
          have HSA := keep hsA
          have HTT := keep hn
          have HCS := keep hcs
          have HAL := keep hAl
          have HR := keep hR
          have G2 := keep g2
          have G3 := keep g3
          clear hsA hn hcs hAl hR g1 g2 g3 g4 g5 g6 g7 hW2 hz2'
          by_cases hlt : F ≤ sA
          · have dz : decide ((F : Int) ≤ (sA : Int)) = true := decide_eq_true (by omega)
            have fin : Kept (TrI w b cs (bx w.heap.size b F T ++ [(Bd2, .cells #[ptr b] 23 (0, 0)), (D, .deferred (some []))]) (fun _ cs' => tx cs' = dropC F (tx cs1)) M' (m + 1) W2) :=
              HI2.out.any (fun cs' h => h.stop HD1.out.2 HCS.out HAL.out (by rw [← HSA.out]; exact hlt))
            gi_wp2
            exact ⟨Mk.refl _ _, rfl, fin.out⟩
          · have dz : decide ((F : Int) ≤ (sA : Int)) = false := decide_eq_false (by omega)
            obtain ⟨q, hq⟩ : ∃ q, q = min (F - sA) n := ⟨_, rfl⟩
            have wr2 : IntKind.i64.wrap ((F : Int) - (sA : Int)) = (F : Int) - (sA : Int) := by have := HFM.out; rw [IntKind.wrap_i64]; omega
            have mn : (if (n : Int) < (F : Int) - (sA : Int) then (n : Int) else (F : Int) - (sA : Int)) = (q : Int) := by split <;> omega
            obtain ⟨hst1, hst2⟩ := G1.out.step HCS.out HAL.out (k := q) (by rw [← HSA.out]; omega) (by rw [← HSA.out, ← HTT.out]; exact hq) (by rw [← HTT.out]; exact hne1)
            have g2' := G2.out
            have g3' := G3.out
            rw [← HR.out, hst1] at g2' g3'
            have mC := keep (cut_any W2.drew b c [] B ts 0 q (g2'.kept (fun _ _ => rfl)) (by omega) (by rw [← HTT.out]; omega))
            have FIN := keep fun (w' : World) (k1 : Dq0 w' b (cutC [] c (ts.take 0 ++ ts.drop q) B)) (k2 : Fd b ([] ++ (c, ts) :: B) W2.drew w' (cutC [] c (ts.take 0 ++ ts.drop q) B)) =>
              TrI.cut (G' := GR F cs1) (m' := m + 1) HI2.out.drew HMl.out g3' k1 k2 hst2
            have dz2 : decide (F ≤ sA) = false := decide_eq_false hlt
            clear hst1 hst2 g2' g3' hq
            gi_wp2_with fail
            refine region_round2 (S := fun W => W.cell? ⟨w.heap.size, 0, none⟩ = some (ptr b) ∧ W.cell? ⟨w.heap.size + 1, 0, none⟩ = some (.int .i64 (F : Int))) (by kernel_rfl) (by kernel_rfl) ⟨cb, cF⟩ (fun hHeld => ?_)
            refine wpAnyH_take (i := 0) (oi := { dst := some 56, op := _, type := _, pos := _, after := _, guard := _ }) (v := ?v19) rfl (by kernel_rfl) (by kernel_rfl) (by kernel_rfl) (fun _ _ _ h => h) (Or.inl ⟨by rfl, ?hy19⟩) (by assumption) ?rest19
            case hy19 => (intro w hSw; obtain ⟨p0, p1⟩ := hSw; go_simp; try with_reducible rfl)
            try simp only [Act.put, List.setIfInBounds_toArray, List.set_cons_zero, List.set_cons_succ]
            refine wpAnyH_take (i := 1) (oi := { dst := some 57, op := _, type := _, pos := _, after := _, guard := _ }) (v := ?v20) rfl (by kernel_rfl) (by kernel_rfl) (by kernel_rfl) (fun _ _ _ h => h) (Or.inl ⟨by rfl, ?hy20⟩) (by assumption) ?rest20
            case hy20 => (intro w hSw; obtain ⟨p0, p1⟩ := hSw; go_simp; try with_reducible rfl)
            try simp only [Act.put, List.setIfInBounds_toArray, List.set_cons_zero, List.set_cons_succ]
            refine wpAnyH_take (i := 2) (oi := { dst := some 58, op := _, type := _, pos := _, after := _, guard := _ }) (v := ?v21) rfl (by kernel_rfl) (by kernel_rfl) (by kernel_rfl) (fun _ _ _ h => h) (Or.inl ⟨by rfl, ?hy21⟩) (by assumption) ?rest21
            case hy21 => (intro w hSw; obtain ⟨p0, p1⟩ := hSw; go_simp; try with_reducible rfl)
            try simp only [Act.put, List.setIfInBounds_toArray, List.set_cons_zero, List.set_cons_succ]
            refine wpAnyH_take (i := 3) (oi := { dst := some 59, op := _, type := _, pos := _, after := _, guard := _ }) (v := ?v22) rfl (by kernel_rfl) (by kernel_rfl) (by kernel_rfl) (fun _ _ _ h => h) (Or.inl ⟨by rfl, ?hy22⟩) (by assumption) ?rest22
            case hy22 => (intro w hSw; obtain ⟨p0, p1⟩ := hSw; go_simp; try with_reducible rfl)
            try simp only [Act.put, List.setIfInBounds_toArray, List.set_cons_zero, List.set_cons_succ]
            refine wpAnyH_take (i := 4) (oi := { dst := some 60, op := _, type := _, pos := _, after := _, guard := _ }) (v := (.int .i64 ((F : Int) - (sA : Int)))) rfl (by kernel_rfl) (by kernel_rfl) (by kernel_rfl) (fun _ _ _ h => h) (Or.inl ⟨by rfl, ?hy23⟩) (by assumption) ?rest23
            case hy23 => (intro w hSw; obtain ⟨p0, p1⟩ := hSw; first | (go_simp; done) | (go_simp; simp [*]; done) | (simp [*]; go_simp; done))
            try simp only [Act.put, List.setIfInBounds_toArray, List.set_cons_zero, List.set_cons_succ]
            refine wpAnyH_take (i := 5) (oi := { dst := some 61, op := _, type := _, pos := _, after := _, guard := _ }) (v := ?v24) rfl (by kernel_rfl) (by kernel_rfl) (by kernel_rfl) (fun _ _ _ h => h) (Or.inl ⟨by rfl, ?hy24⟩) (by assumption) ?rest24
            case hy24 => (intro w hSw; obtain ⟨p0, p1⟩ := hSw; go_simp; try with_reducible rfl)
            try simp only [Act.put, List.setIfInBounds_toArray, List.set_cons_zero, List.set_cons_succ]
            refine wpAnyH_take (i := 6) (oi := { dst := some 62, op := _, type := _, pos := _, after := _, guard := _ }) (v := ?v25) rfl (by kernel_rfl) (by kernel_rfl) (by kernel_rfl) (fun _ _ _ h => h) (Or.inl ⟨by rfl, ?hy25⟩) (by assumption) ?rest25
            case hy25 => (intro w hSw; obtain ⟨p0, p1⟩ := hSw; go_simp; try with_reducible rfl)
            try simp only [Act.put, List.setIfInBounds_toArray, List.set_cons_zero, List.set_cons_succ]
            refine wpAnyH_take (i := 7) (oi := { dst := some 63, op := _, type := _, pos := _, after := _, guard := _ }) (v := ?v26) rfl (by kernel_rfl) (by kernel_rfl) (by kernel_rfl) (fun _ _ _ h => h) (Or.inl ⟨by rfl, ?hy26⟩) (by assumption) ?rest26
            case hy26 => (intro w hSw; obtain ⟨p0, p1⟩ := hSw; go_simp; try with_reducible rfl)
            try simp only [Act.put, List.setIfInBounds_toArray, List.set_cons_zero, List.set_cons_succ]
            refine wpAnyH_ready (rs := [8]) (by kernel_rfl) (by simp) ?_
            refine AllReadyH.cons (o := { dst := some 64, op := _, type := _, pos := _, after := _, guard := _ }) rfl (fun K hK => ?_) AllReadyH.nil
            go_simp
            refine hK.out _ _ hHeld (fun hHeld => ?_)
            try simp only [Act.put, List.setIfInBounds_toArray, List.set_cons_zero, List.set_cons_succ]
            clear hK
            refine wpAnyH_take (i := 9) (oi := { dst := some 65, op := _, type := _, pos := _, after := _, guard := _ }) (v := (.int .i64 (q : Int))) rfl (by kernel_rfl) (by kernel_rfl) (by kernel_rfl) (fun _ _ _ h => h) (Or.inl ⟨by rfl, ?hy27⟩) (by assumption) ?rest27
            case hy27 => (intro w hSw; first | (go_simp; done) | (go_simp; simp [*]; done) | (simp [*]; go_simp; done))
            try simp only [Act.put, List.setIfInBounds_toArray, List.set_cons_zero, List.set_cons_succ]
            refine wpAnyH_ready (rs := [10]) (by kernel_rfl) (by simp) ?_
            refine AllReadyH.cons (o := { dst := some 66, op := _, type := _, pos := _, after := _, guard := _ }) rfl (fun K hK => ?_) AllReadyH.nil
            go_simp
            refine mC.out.mono ?_
            rintro _ w' ⟨rfl, k1, k2⟩
            have fin := FIN.out w' k1 k2
            have FI := keep fin
            refine hK.out _ _ ⟨cell0 (fin.2.2.1 (w.heap.size, .cells #[ptr b] 23 (0, 0)) (by simp)).1.2, cell0 (fin.2.2.1 (w.heap.size + 1, .cells #[.int .i64 (F : Int)] 3 (0, 0)) (by simp)).1.2⟩ (fun hHeld => ?_)
            try simp only [Act.put, List.setIfInBounds_toArray, List.set_cons_zero, List.set_cons_succ]
            clear hK fin k1 k2
            refine wpAnyH_done (by kernel_rfl) ?_ _
            simp only [noOut]
            clear hHeld
            gi_wp2
            exact FI.out
      case round =>
        intro M' l' m x W1 hI hx hl hrec hM'
        obtain ⟨A, c, ts, B, hcs, hBl, rfl⟩ := riF_get hx
        have HI := keep hI
        have HM' := keep hM'
        clear hI hx hM' hrec HI0
        unfold riV
        gi_wp2
        refine ⟨Mk.refl _ _, fun rl => ?_⟩
        obtain ⟨W2, hW2⟩ : ∃ W2, W1.putObj l' (.loop rl) = W2 := ⟨_, rfl⟩
        rw [hW2]
        have hz2' : W2.heap.size = W1.heap.size := by rw [← hW2]; simp
        have hI2 := TrI.abd M' M' m W1 (W1.putObj l' (.loop rl)) HI.out (Sep.put _ _ hl) (Ext.refl _ _ _)
        rw [hW2] at hI2
        have HI2 := keep hI2
        obtain ⟨⟨cs', g1, g2, g3⟩, g4, g5, g6, g7⟩ := hI2
        have G1 := keep g1
        obtain ⟨R, hR, _⟩ := g1.at hcs hBl
        rw [hR] at g2 g3
        have cc := (ch_app.1 g2.2.1).2.1.cells.2.2.1
        have cb := cell0 (g4 (w.heap.size, .cells #[ptr b] 23 (0, 0)) (by simp)).1.2
        have cT := cell0 (g4 (w.heap.size + 2, .cells #[.int .i64 (T : Int)] 3 (0, 0)) (by simp)).1.2
        have hne1 : 1 ≤ ts.length := HD.out.2 (c, ts) (by rw [hcs]; simp)
        have hrl : (row A).length + ts.length ≤ 1048576 := by
          have := HD.out.1.2.2.2.2
          rw [hcs, row_app, row_cons, List.length_append, List.length_append] at this
          dsimp only at this
          omega
        have HTM : Kept (T ≤ 1048576) := by have := HTN.out; have := HNN.out; have := HD.out.1.2.2.2.2; show T ≤ _; omega
        have HMl : Kept (∀ k, M' k → k < W2.heap.size) := fun k hk => by have := HM'.out k hk; omega
        obtain ⟨sA, hsA⟩ : ∃ x, x = (row A).length := ⟨_, rfl⟩
        obtain ⟨n, hn⟩ : ∃ x, x = ts.length := ⟨_, rfl⟩
        rw [← hsA, ← hn] at hrl
        rw [← hn] at cc hne1
        rw [← hsA]
        have HSA := keep hsA
        have HTT := keep hn
        have HCS := keep hcs
        have HBL := keep hBl
        have HR := keep hR
        have G2 := keep g2
        have G3 := keep g3
        have wr1 : IntKind.i64.wrap ((sA : Int) + (n : Int)) = (sA : Int) + (n : Int) := by rw [IntKind.wrap_i64]; omega
        clear hsA hn hcs hBl hR g1 g2 g3 g4 g5 g6 g7 hW2 hz2'
        by_cases hlt : sA + n ≤ T
        · have dz : decide ((sA : Int) + (n : Int) ≤ (T : Int)) = true := decide_eq_true (by omega)
          have fin : Kept (TrI w b cs (bx w.heap.size b F T ++ [(w.heap.size + 3, .cells #[ptr b] 23 (0, 0))]) (fun _ cs' => tx cs' = takeC T (tx cs)) M' (m + 1) W2.drew) :=
            (HI2.out.any (fun cs' h => h.stop HD.out.2 HCS.out HBL.out (by rw [← HSA.out, ← HTT.out]; exact hlt))).drew
          gi_wp2_with fail
          refine region_round2 (S := fun W => W.cell? ⟨w.heap.size + 2, 0, none⟩ = some (.int .i64 (T : Int)) ∧ W.cell? ⟨c, 2, none⟩ = some (.int .i64 (n : Nat))) (by kernel_rfl) (by kernel_rfl) ⟨cT, cc⟩ (fun hHeld => ?_)
          refine wpAnyH_take (i := 0) (oi := { dst := some 30, op := _, type := _, pos := _, after := _, guard := _ }) (v := ?v28) rfl (by kernel_rfl) (by kernel_rfl) (by kernel_rfl) (fun _ _ _ h => h) (Or.inl ⟨by rfl, ?hy28⟩) (by assumption) ?rest28
          case hy28 => (intro w hSw; obtain ⟨p0, p1⟩ := hSw; go_simp; try with_reducible rfl)
          try simp only [Act.put, List.setIfInBounds_toArray, List.set_cons_zero, List.set_cons_succ]
          refine wpAnyH_take (i := 1) (oi := { dst := some 31, op := _, type := _, pos := _, after := _, guard := _ }) (v := ?v29) rfl (by kernel_rfl) (by kernel_rfl) (by kernel_rfl) (fun _ _ _ h => h) (Or.inl ⟨by rfl, ?hy29⟩) (by assumption) ?rest29
          case hy29 => (intro w hSw; obtain ⟨p0, p1⟩ := hSw; go_simp; try with_reducible rfl)
          try simp only [Act.put, List.setIfInBounds_toArray, List.set_cons_zero, List.set_cons_succ]
          refine wpAnyH_take (i := 2) (oi := { dst := some 32, op := _, type := _, pos := _, after := _, guard := _ }) (v := ?v30) rfl (by kernel_rfl) (by kernel_rfl) (by kernel_rfl) (fun _ _ _ h => h) (Or.inl ⟨by rfl, ?hy30⟩) (by assumption) ?rest30
          case hy30 => (intro w hSw; obtain ⟨p0, p1⟩ := hSw; go_simp; try with_reducible rfl)
          try simp only [Act.put, List.setIfInBounds_toArray, List.set_cons_zero, List.set_cons_succ]
          refine wpAnyH_take (i := 3) (oi := { dst := some 33, op := _, type := _, pos := _, after := _, guard := _ }) (v := ?v31) rfl (by kernel_rfl) (by kernel_rfl) (by kernel_rfl) (fun _ _ _ h => h) (Or.inl ⟨by rfl, ?hy31⟩) (by assumption) ?rest31
          case hy31 => (intro w hSw; obtain ⟨p0, p1⟩ := hSw; go_simp; try with_reducible rfl)
          try simp only [Act.put, List.setIfInBounds_toArray, List.set_cons_zero, List.set_cons_succ]
          refine wpAnyH_take (i := 4) (oi := { dst := some 34, op := _, type := _, pos := _, after := _, guard := _ }) (v := ?v32) rfl (by kernel_rfl) (by kernel_rfl) (by kernel_rfl) (fun _ _ _ h => h) (Or.inl ⟨by rfl, ?hy32⟩) (by assumption) ?rest32
          case hy32 => (intro w hSw; obtain ⟨p0, p1⟩ := hSw; go_simp; try with_reducible rfl)
          try simp only [Act.put, List.setIfInBounds_toArray, List.set_cons_zero, List.set_cons_succ]
          refine wpAnyH_take (i := 5) (oi := { dst := some 35, op := _, type := _, pos := _, after := _, guard := _ }) (v := (.int .i64 ((sA : Int) + (n : Int)))) rfl (by kernel_rfl) (by kernel_rfl) (by kernel_rfl) (fun _ _ _ h => h) (Or.inl ⟨by rfl, ?hy33⟩) (by assumption) ?rest33
          case hy33 => (intro w hSw; obtain ⟨p0, p1⟩ := hSw; first | (go_simp; done) | (go_simp; simp [*]; done) | (simp [*]; go_simp; done))
          try simp only [Act.put, List.setIfInBounds_toArray, List.set_cons_zero, List.set_cons_succ]
          refine wpAnyH_take (i := 6) (oi := { dst := some 36, op := _, type := _, pos := _, after := _, guard := _ }) (v := ?v34) rfl (by kernel_rfl) (by kernel_rfl) (by kernel_rfl) (fun _ _ _ h => h) (Or.inl ⟨by rfl, ?hy34⟩) (by assumption) ?rest34
          case hy34 => (intro w hSw; obtain ⟨p0, p1⟩ := hSw; go_simp; try with_reducible rfl)
          try simp only [Act.put, List.setIfInBounds_toArray, List.set_cons_zero, List.set_cons_succ]
          refine wpAnyH_take (i := 7) (oi := { dst := some 37, op := _, type := _, pos := _, after := _, guard := _ }) (v := (.bool true)) rfl (by kernel_rfl) (by kernel_rfl) (by kernel_rfl) (fun _ _ _ h => h) (Or.inl ⟨by rfl, ?hy35⟩) (by assumption) ?rest35
          case hy35 => (intro w hSw; obtain ⟨p0, p1⟩ := hSw; first | (go_simp; done) | (go_simp; simp [*]; done) | (simp [*]; go_simp; done))
          try simp only [Act.put, List.setIfInBounds_toArray, List.set_cons_zero, List.set_cons_succ]
          refine wpAnyH_done (by kernel_rfl) ?_ _
          simp only [noOut]
          clear hHeld
          gi_wp2
          exact ⟨Mk.refl _ _, rfl, fin.out⟩
        · have dz : decide ((sA : Int) + (n : Int) ≤ (T : Int)) = false := decide_eq_false (by omega)
          obtain ⟨q, hq⟩ : ∃ q, q = T - sA := ⟨_, rfl⟩
          have wr2 : IntKind.i64.wrap ((T : Int) - (sA : Int)) = (T : Int) - (sA : Int) := by have := HTM.out; rw [IntKind.wrap_i64]; omega
          have mx : (if (T : Int) - (sA : Int) < 0 then (0 : Int) else (T : Int) - (sA : Int)) = (q : Int) := by split <;> omega
          have mx2 : (if (T : Int) < (sA : Int) then (0 : Int) else (T : Int) - (sA : Int)) = (q : Int) := by split <;> omega
          have hqn : q < n := by omega
          obtain ⟨hst1, hst2⟩ := G1.out.step HD.out.2 HCS.out HBL.out (by rw [← HSA.out, ← HTT.out]; omega)
          have g2' := G2.out
          have g3' := G3.out
          rw [← HR.out, hst1] at g2' g3'
          have mC := keep (cut_any W2.drew.drew b c A [] ts q n (g2'.kept (fun _ _ => rfl)) hqn (by rw [HTT.out]; exact Nat.le_refl _))
          have FIN := keep fun (w' : World) (k1 : Dq0 w' b (cutC A c (ts.take q ++ ts.drop n) [])) (k2 : Fd b (A ++ (c, ts) :: []) W2.drew.drew w' (cutC A c (ts.take q ++ ts.drop n) [])) =>
            TrI.cut (G' := GF T cs) (m' := m + 1) HI2.out.drew.drew HMl.out g3' k1 k2 (by rw [hq, HSA.out, HTT.out]; exact hst2)
          clear hst1 hst2 g2' g3' hlt hqn hq
          gi_wp2_with fail
          refine region_round2 (S := fun W => W.cell? ⟨w.heap.size + 2, 0, none⟩ = some (.int .i64 (T : Int)) ∧ W.cell? ⟨c, 2, none⟩ = some (.int .i64 (n : Nat))) (by kernel_rfl) (by kernel_rfl) ⟨cT, cc⟩ (fun hHeld => ?_)
          refine wpAnyH_take (i := 0) (oi := { dst := some 30, op := _, type := _, pos := _, after := _, guard := _ }) (v := ?v36) rfl (by kernel_rfl) (by kernel_rfl) (by kernel_rfl) (fun _ _ _ h => h) (Or.inl ⟨by rfl, ?hy36⟩) (by assumption) ?rest36
          case hy36 => (intro w hSw; obtain ⟨p0, p1⟩ := hSw; go_simp; try with_reducible rfl)
          try simp only [Act.put, List.setIfInBounds_toArray, List.set_cons_zero, List.set_cons_succ]
          refine wpAnyH_take (i := 1) (oi := { dst := some 31, op := _, type := _, pos := _, after := _, guard := _ }) (v := ?v37) rfl (by kernel_rfl) (by kernel_rfl) (by kernel_rfl) (fun _ _ _ h => h) (Or.inl ⟨by rfl, ?hy37⟩) (by assumption) ?rest37
          case hy37 => (intro w hSw; obtain ⟨p0, p1⟩ := hSw; go_simp; try with_reducible rfl)
          try simp only [Act.put, List.setIfInBounds_toArray, List.set_cons_zero, List.set_cons_succ]
          refine wpAnyH_take (i := 2) (oi := { dst := some 32, op := _, type := _, pos := _, after := _, guard := _ }) (v := ?v38) rfl (by kernel_rfl) (by kernel_rfl) (by kernel_rfl) (fun _ _ _ h => h) (Or.inl ⟨by rfl, ?hy38⟩) (by assumption) ?rest38
          case hy38 => (intro w hSw; obtain ⟨p0, p1⟩ := hSw; go_simp; try with_reducible rfl)
          try simp only [Act.put, List.setIfInBounds_toArray, List.set_cons_zero, List.set_cons_succ]
          refine wpAnyH_take (i := 3) (oi := { dst := some 33, op := _, type := _, pos := _, after := _, guard := _ }) (v := ?v39) rfl (by kernel_rfl) (by kernel_rfl) (by kernel_rfl) (fun _ _ _ h => h) (Or.inl ⟨by rfl, ?hy39⟩) (by assumption) ?rest39
          case hy39 => (intro w hSw; obtain ⟨p0, p1⟩ := hSw; go_simp; try with_reducible rfl)
          try simp only [Act.put, List.setIfInBounds_toArray, List.set_cons_zero, List.set_cons_succ]
          refine wpAnyH_take (i := 4) (oi := { dst := some 34, op := _, type := _, pos := _, after := _, guard := _ }) (v := ?v40) rfl (by kernel_rfl) (by kernel_rfl) (by kernel_rfl) (fun _ _ _ h => h) (Or.inl ⟨by rfl, ?hy40⟩) (by assumption) ?rest40
          case hy40 => (intro w hSw; obtain ⟨p0, p1⟩ := hSw; go_simp; try with_reducible rfl)
          try simp only [Act.put, List.setIfInBounds_toArray, List.set_cons_zero, List.set_cons_succ]
          refine wpAnyH_take (i := 5) (oi := { dst := some 35, op := _, type := _, pos := _, after := _, guard := _ }) (v := (.int .i64 ((sA : Int) + (n : Int)))) rfl (by kernel_rfl) (by kernel_rfl) (by kernel_rfl) (fun _ _ _ h => h) (Or.inl ⟨by rfl, ?hy41⟩) (by assumption) ?rest41
          case hy41 => (intro w hSw; obtain ⟨p0, p1⟩ := hSw; first | (go_simp; done) | (go_simp; simp [*]; done) | (simp [*]; go_simp; done))
          try simp only [Act.put, List.setIfInBounds_toArray, List.set_cons_zero, List.set_cons_succ]
          refine wpAnyH_take (i := 6) (oi := { dst := some 36, op := _, type := _, pos := _, after := _, guard := _ }) (v := ?v42) rfl (by kernel_rfl) (by kernel_rfl) (by kernel_rfl) (fun _ _ _ h => h) (Or.inl ⟨by rfl, ?hy42⟩) (by assumption) ?rest42
          case hy42 => (intro w hSw; obtain ⟨p0, p1⟩ := hSw; go_simp; try with_reducible rfl)
          try simp only [Act.put, List.setIfInBounds_toArray, List.set_cons_zero, List.set_cons_succ]
          refine wpAnyH_take (i := 7) (oi := { dst := some 37, op := _, type := _, pos := _, after := _, guard := _ }) (v := (.bool false)) rfl (by kernel_rfl) (by kernel_rfl) (by kernel_rfl) (fun _ _ _ h => h) (Or.inl ⟨by rfl, ?hy43⟩) (by assumption) ?rest43
          case hy43 => (intro w hSw; obtain ⟨p0, p1⟩ := hSw; first | (go_simp; done) | (go_simp; simp [*]; done) | (simp [*]; go_simp; done))
          try simp only [Act.put, List.setIfInBounds_toArray, List.set_cons_zero, List.set_cons_succ]
          refine wpAnyH_done (by kernel_rfl) ?_ _
          simp only [noOut]
          clear hHeld
          gi_wp2_with fail
          refine region_round2 (S := fun W => W.cell? ⟨w.heap.size, 0, none⟩ = some (ptr b) ∧ W.cell? ⟨w.heap.size + 2, 0, none⟩ = some (.int .i64 (T : Int))) (by kernel_rfl) (by kernel_rfl) ⟨cb, cT⟩ (fun hHeld => ?_)
          refine wpAnyH_take (i := 0) (oi := { dst := some 38, op := _, type := _, pos := _, after := _, guard := _ }) (v := ?v44) rfl (by kernel_rfl) (by kernel_rfl) (by kernel_rfl) (fun _ _ _ h => h) (Or.inl ⟨by rfl, ?hy44⟩) (by assumption) ?rest44
          case hy44 => (intro w hSw; obtain ⟨p0, p1⟩ := hSw; go_simp; try with_reducible rfl)
          try simp only [Act.put, List.setIfInBounds_toArray, List.set_cons_zero, List.set_cons_succ]
          refine wpAnyH_take (i := 1) (oi := { dst := some 39, op := _, type := _, pos := _, after := _, guard := _ }) (v := ?v45) rfl (by kernel_rfl) (by kernel_rfl) (by kernel_rfl) (fun _ _ _ h => h) (Or.inl ⟨by rfl, ?hy45⟩) (by assumption) ?rest45
          case hy45 => (intro w hSw; obtain ⟨p0, p1⟩ := hSw; go_simp; try with_reducible rfl)
          try simp only [Act.put, List.setIfInBounds_toArray, List.set_cons_zero, List.set_cons_succ]
          refine wpAnyH_take (i := 2) (oi := { dst := some 40, op := _, type := _, pos := _, after := _, guard := _ }) (v := ?v46) rfl (by kernel_rfl) (by kernel_rfl) (by kernel_rfl) (fun _ _ _ h => h) (Or.inl ⟨by rfl, ?hy46⟩) (by assumption) ?rest46
          case hy46 => (intro w hSw; obtain ⟨p0, p1⟩ := hSw; go_simp; try with_reducible rfl)
          try simp only [Act.put, List.setIfInBounds_toArray, List.set_cons_zero, List.set_cons_succ]
          refine wpAnyH_take (i := 3) (oi := { dst := some 41, op := _, type := _, pos := _, after := _, guard := _ }) (v := ?v47) rfl (by kernel_rfl) (by kernel_rfl) (by kernel_rfl) (fun _ _ _ h => h) (Or.inl ⟨by rfl, ?hy47⟩) (by assumption) ?rest47
          case hy47 => (intro w hSw; obtain ⟨p0, p1⟩ := hSw; go_simp; try with_reducible rfl)
          try simp only [Act.put, List.setIfInBounds_toArray, List.set_cons_zero, List.set_cons_succ]
          refine wpAnyH_take (i := 4) (oi := { dst := some 42, op := _, type := _, pos := _, after := _, guard := _ }) (v := (.int .i64 ((T : Int) - (sA : Int)))) rfl (by kernel_rfl) (by kernel_rfl) (by kernel_rfl) (fun _ _ _ h => h) (Or.inl ⟨by rfl, ?hy48⟩) (by assumption) ?rest48
          case hy48 => (intro w hSw; obtain ⟨p0, p1⟩ := hSw; first | (go_simp; done) | (go_simp; simp [*]; done) | (simp [*]; go_simp; done))
          try simp only [Act.put, List.setIfInBounds_toArray, List.set_cons_zero, List.set_cons_succ]
          refine wpAnyH_take (i := 5) (oi := { dst := some 43, op := _, type := _, pos := _, after := _, guard := _ }) (v := (.int .i64 (q : Int))) rfl (by kernel_rfl) (by kernel_rfl) (by kernel_rfl) (fun _ _ _ h => h) (Or.inl ⟨by rfl, ?hy49⟩) (by assumption) ?rest49
          case hy49 => (intro w hSw; obtain ⟨p0, p1⟩ := hSw; first | (go_simp; done) | (go_simp; simp [*]; done) | (simp [*]; go_simp; done))
          try simp only [Act.put, List.setIfInBounds_toArray, List.set_cons_zero, List.set_cons_succ]
          refine wpAnyH_take (i := 6) (oi := { dst := some 44, op := _, type := _, pos := _, after := _, guard := _ }) (v := ?v50) rfl (by kernel_rfl) (by kernel_rfl) (by kernel_rfl) (fun _ _ _ h => h) (Or.inl ⟨by rfl, ?hy50⟩) (by assumption) ?rest50
          case hy50 => (intro w hSw; obtain ⟨p0, p1⟩ := hSw; go_simp; try with_reducible rfl)
          try simp only [Act.put, List.setIfInBounds_toArray, List.set_cons_zero, List.set_cons_succ]
          refine wpAnyH_take (i := 7) (oi := { dst := some 45, op := _, type := _, pos := _, after := _, guard := _ }) (v := ?v51) rfl (by kernel_rfl) (by kernel_rfl) (by kernel_rfl) (fun _ _ _ h => h) (Or.inl ⟨by rfl, ?hy51⟩) (by assumption) ?rest51
          case hy51 => (intro w hSw; obtain ⟨p0, p1⟩ := hSw; go_simp; try with_reducible rfl)
          try simp only [Act.put, List.setIfInBounds_toArray, List.set_cons_zero, List.set_cons_succ]
          refine wpAnyH_take (i := 8) (oi := { dst := some 46, op := _, type := _, pos := _, after := _, guard := _ }) (v := ?v52) rfl (by kernel_rfl) (by kernel_rfl) (by kernel_rfl) (fun _ _ _ h => h) (Or.inl ⟨by rfl, ?hy52⟩) (by assumption) ?rest52
          case hy52 => (intro w hSw; obtain ⟨p0, p1⟩ := hSw; go_simp; try with_reducible rfl)
          try simp only [Act.put, List.setIfInBounds_toArray, List.set_cons_zero, List.set_cons_succ]
          refine wpAnyH_ready (rs := [9]) (by kernel_rfl) (by simp) ?_
          refine AllReadyH.cons (o := { dst := some 47, op := _, type := _, pos := _, after := _, guard := _ }) rfl (fun K hK => ?_) AllReadyH.nil
          go_simp
          refine hK.out _ _ hHeld (fun hHeld => ?_)
          try simp only [Act.put, List.setIfInBounds_toArray, List.set_cons_zero, List.set_cons_succ]
          clear hK
          refine wpAnyH_ready (rs := [10]) (by kernel_rfl) (by simp) ?_
          refine AllReadyH.cons (o := { dst := some 48, op := _, type := _, pos := _, after := _, guard := _ }) rfl (fun K hK => ?_) AllReadyH.nil
          go_simp
          refine mC.out.mono ?_
          rintro _ w' ⟨rfl, k1, k2⟩
          have fin := FIN.out w' k1 k2
          have FI := keep fin
          refine hK.out _ _ ⟨cell0 (fin.2.2.1 (w.heap.size, .cells #[ptr b] 23 (0, 0)) (by simp)).1.2, cell0 (fin.2.2.1 (w.heap.size + 2, .cells #[.int .i64 (T : Int)] 3 (0, 0)) (by simp)).1.2⟩ (fun hHeld => ?_)
          try simp only [Act.put, List.setIfInBounds_toArray, List.set_cons_zero, List.set_cons_succ]
          clear hK fin k1 k2
          refine wpAnyH_done (by kernel_rfl) ?_ _
          simp only [noOut]
          clear hHeld
          gi_wp2
          exact FI.out
end Go.Proofs.Ytlfkdohajfkhdaa
