/-
  Contracts over this program: slices.Insert of one candidate, where there is no room.
-/
import Derived.Test.YthmmblohfjmbcaaGreatVPlIns
namespace Go.Proofs.YthmmblohfjmbcaaGreat.DV
open Go.RowKit Go.Shelf
set_option linter.unusedVariables false
set_option linter.unusedSimpArgs false
set_option maxRecDepth 100000 in
set_option maxHeartbeats 400000 in
theorem insM_grow (w : World) (g n cap vb p : Nat) (xs : List Value) (k : ByteArray) (x : Int) (hC : w.ownsRow 0 65 2 (.slice (some ⟨g, 0, none⟩) n cap) n xs) (hv : w.heap[vb]? = some (.cells #[.string k, .int .u64 x] 65 (0, 0))) (hvg : vb ≠ g) (hn : n ≤ 100000) (hp : p < n) (hr : cap < n + 1) (h1 : ∀ u ∈ xs, u.oneCell' = true) :
    Calls Tryz.prog 90 #[.slice (some ⟨g, 0, none⟩) n cap, .int .i64 p, .slice (some ⟨vb, 0, none⟩) 1 1] w fun e w' => Insd w g n (xs.take (p * 2) ++ mc k x ++ xs.drop (p * 2)) e w' := by
  obtain ⟨i0, hi0, hz0, hz1, hz2⟩ := info_parts info_rk
  obtain ⟨cur, hcur, hcc, hcm, hsz, htk, hxl⟩ := own_cur hC
  unfold maxLen at hcm
  have uT := Tryz.underlying48
  obtain ⟨n1, hn1⟩ : ∃ n1, n1 = n + 1 := ⟨_, rfl⟩
  obtain ⟨p1, hp1⟩ : ∃ p1, p1 = p + 1 := ⟨_, rfl⟩
  obtain ⟨oP, hoP⟩ : ∃ o, o = p * 2 := ⟨_, rfl⟩
  obtain ⟨oQ, hoQ⟩ : ∃ o, o = p1 * 2 := ⟨_, rfl⟩
  obtain ⟨lP, hlP⟩ : ∃ o, o = n1 - p := ⟨_, rfl⟩
  obtain ⟨lQ, hlQ⟩ : ∃ o, o = n1 - p1 := ⟨_, rfl⟩
  have hw1 : IntKind.i64.wrap ((n : Int) + 1) = (n1 : Int) := by rw [IntKind.wrap_i64]; omega
  have hw2 : IntKind.i64.wrap ((p : Int) + 1) = (p1 : Int) := by rw [IntKind.wrap_i64]; omega
  have hw3 : IntKind.i64.wrap ((n1 : Int) - (p : Int)) = (lP : Int) := by rw [IntKind.wrap_i64]; omega
  have hs0 : ∀ w, (Instr.slice 48 (.slice (some ⟨g, 0, none⟩) n cap) (some (.int .i64 (p : Int))) none none).run Tryz.prog w = .ok (.slice (some ⟨g, oP, none⟩) lQ (cap - p)) w := fun w => by
    rw [slice_run w _ _ uT i0 hi0 ⟨g, 0, none⟩ n cap p n cap _ _ _ (.inl ⟨rfl, rfl⟩) (.inl ⟨rfl, rfl, rfl⟩) (.inr ⟨rfl, by omega⟩), if_neg (by omega), hz1, add_at, Nat.zero_add, hoP, show n - p = lQ by omega]
  obtain ⟨cP, hcP⟩ : ∃ o, o = cap - p := ⟨_, rfl⟩
  rw [← hcP] at hs0
  have hs1 : ∀ w, (Instr.slice 48 (.slice (some ⟨g, 0, none⟩) n cap) none (some (.int .i64 (p : Int))) none).run Tryz.prog w = .ok (.slice (some ⟨g, 0, none⟩) p cap) w := fun w => by
    rw [slice_run w _ _ uT i0 hi0 ⟨g, 0, none⟩ n cap 0 p cap _ _ _ (.inl ⟨rfl, rfl⟩) (.inr ⟨rfl, by omega⟩) (.inl ⟨rfl, rfl⟩)]
    rw [Nat.zero_mul, add_at, Nat.zero_add, ite_self]; rfl
  have hold : (Builtin.firstCells i0.size p (.slice (some ⟨g, 0, none⟩) p cap)).run Tryz.prog w.drew = .ok (xs.take (p * 2)).toArray w.drew := by
    rw [hz1]
    refine run_firstCells_some w.drew 2 p ⟨g, 0, none⟩ p cap (xs.take (p * 2)) (by rw [List.length_take, hxl]; omega) (fun j v hj => ?_)
    rw [List.getElem?_take] at hj
    split at hj
    · exact row_cells (a := 0) (w := w.drew) hcur htk j v (by simpa using hj)
    · cases hj
  have hap := Lib.run_append_grow_zeros (P := Tryz.prog) w 48 3 48 65 i0 _ .i64 .i64 uT Tryz.underlying3 hi0 hz0 (some ⟨g, 0, none⟩) p cap (xs.take (p * 2)) hold lP (by omega) (by omega) (by omega) (by omega) (by rw [hz2]; omega) (by rw [hz2]; exact growslice_fits (by omega) (by omega))
  rw [show p + lP = n1 by omega] at hap
  obtain ⟨G, hG⟩ : ∃ G, G = grownCap w n1 cap 65 := ⟨_, rfl⟩
  rw [← hG] at hap
  have hGn : n1 ≤ G := by rw [hG]; exact grownCap_ge w _ _ _
  have hGm : G ≤ maxLen := by rw [hG]; exact grownCap_le_maxLen w n1 cap _ (by unfold maxLen; omega)
  obtain ⟨ROW, hROW⟩ : ∃ ROW : Array Value, ROW = (xs.take (p * 2)).toArray ++ Builtin.zeroCells (Value.agg #[.string .empty, .int .u64 0]).cells lP ++ Builtin.zeroCells (Value.agg #[.string .empty, .int .u64 0]).cells (G - n1) := ⟨_, rfl⟩
  rw [← hROW] at hap
  have hRl : ROW.size = G * 2 := by
    rw [hROW]
    simp only [Array.size_append, List.size_toArray, size_zeroCells, List.length_take, hxl]
    simp only [Value.cells, List.size_toArray, List.length_cons, List.length_nil]
    omega
  have hRt : ROW.toList.take (p * 2) = xs.take (p * 2) := by
    rw [hROW]
    simp only [Array.toList_append, List.append_assoc]
    exact List.take_left' (by rw [List.length_take, hxl]; omega)
  obtain ⟨H, hH⟩ : ∃ H, H = w.heap.size := ⟨_, rfl⟩
  obtain ⟨W1, hW1⟩ : ∃ W1, W1 = w.drew.alloc (.cells ROW 65) := ⟨_, rfl⟩
  rw [← hW1, ← hH] at hap
  have hgl : g < w.heap.size := (Array.getElem?_eq_some_iff.1 hcur).1
  have hvl : vb < w.heap.size := (Array.getElem?_eq_some_iff.1 hv).1
  have hg1 : W1.heap[H]? = some (.cells ROW 65 (0, 0)) := by rw [hW1, hH]; exact heap_alloc_new w.drew _
  have hk1 : ∀ j, j < w.heap.size → W1.heap[j]? = w.heap[j]? := fun j hj => by rw [hW1]; exact Below.heap_alloc w.drew _ j hj
  have hs2 : ∀ w, (Instr.slice 48 (.slice (some ⟨H, 0, none⟩) n1 G) (some (.int .i64 (p : Int))) none none).run Tryz.prog w = .ok (.slice (some ⟨H, oP, none⟩) lP (G - p)) w := fun w => by
    rw [slice_run w _ _ uT i0 hi0 ⟨H, 0, none⟩ n1 G p n1 G _ _ _ (.inl ⟨rfl, rfl⟩) (.inl ⟨rfl, rfl, rfl⟩) (.inr ⟨rfl, by omega⟩), if_neg (by omega), hz1, add_at, Nat.zero_add, hoP, hlP]
  have hs3 : ∀ w, (Instr.slice 48 (.slice (some ⟨H, 0, none⟩) n1 G) (some (.int .i64 (p1 : Int))) none none).run Tryz.prog w = .ok (.slice (some ⟨H, oQ, none⟩) lQ (G - p1)) w := fun w => by
    rw [slice_run w _ _ uT i0 hi0 ⟨H, 0, none⟩ n1 G p1 n1 G _ _ _ (.inl ⟨rfl, rfl⟩) (.inl ⟨rfl, rfl, rfl⟩) (.inr ⟨rfl, by omega⟩), if_neg (by omega), hz1, add_at, Nat.zero_add, hoQ, hlQ]
  obtain ⟨cA, hcA⟩ : ∃ o, o = G - p := ⟨_, rfl⟩
  obtain ⟨cB, hcB⟩ : ∃ o, o = G - p1 := ⟨_, rfl⟩
  rw [← hcA] at hs2
  rw [← hcB] at hs3
  have hcp1 := copy_to (P := Tryz.prog) W1 48 65 3 65 uT i0 hi0 H oP lP 1 1 cA 1 ⟨vb, 0, none⟩ ROW (mc k x) hg1 (Nat.min_eq_left (by omega)) (by rw [hz1]; rfl) (mc_cell ((hk1 vb hvl).trans hv)) (by rw [hz1, hRl]; omega) mc_one
  rw [hz1] at hcp1
  obtain ⟨L1, hL1⟩ : ∃ L1, L1 = ROW.toList.take oP ++ mc k x ++ ROW.toList.drop (oP + 1 * 2) := ⟨_, rfl⟩
  rw [← hL1] at hcp1
  have hL1l : L1.length = G * 2 := by rw [hL1]; simp only [List.length_append, List.length_take, mc, List.length_cons, List.length_nil, List.length_drop, Array.length_toList, hRl]; omega
  obtain ⟨W2, hW2⟩ : ∃ W2, W2 = W1.setRow H L1.toArray := ⟨_, rfl⟩
  rw [← hW2] at hcp1
  have hg2 : W2.heap[H]? = some (.cells L1.toArray 65 (0, 0)) := by rw [hW2]; exact setRow_heap W1 H ROW _ _ _ hg1
  have hk2 : ∀ j, j < w.heap.size → W2.heap[j]? = w.heap[j]? := fun j hj => by rw [hW2, setRow_other W1 H j _ (by omega)]; exact hk1 j hj
  have hl2 : (xs.drop (p * 2)).length = lQ * 2 := by rw [List.length_drop, hxl]; omega
  have hcp2 := copy_to (P := Tryz.prog) W2.drew 48 65 3 65 uT i0 hi0 H oQ lQ lQ lQ cB cP ⟨g, oP, none⟩ L1.toArray (xs.drop (p * 2)) hg2 (Nat.min_self _) (by rw [hz1]; exact hl2) (by rw [hoP]; exact row_cells (w := W2.drew) ((hk2 g hgl).trans hcur) htk) (by rw [hz1]; simp [hL1l]; omega) (fun u hu => h1 u (List.mem_of_mem_drop hu))
  rw [hz1] at hcp2
  have hfin : (L1.take oQ ++ xs.drop (p * 2) ++ L1.drop (oQ + lQ * 2)).take (n1 * 2) = xs.take (p * 2) ++ mc k x ++ xs.drop (p * 2) := by
    have := row_new (vs := mc k x) (c := oQ) (N := n1 * 2) (n := n * 2) hRt hxl (a := p * 2) (b := p * 2) (Nat.le_refl _) (by omega) (by simp [mc]; omega) (by omega) (by rw [Array.length_toList, hRl]; omega)
    rw [hoP, show p * 2 + 1 * 2 = oQ by omega] at hL1
    rw [← hL1] at this
    rw [show oQ + lQ * 2 = n1 * 2 by omega]
    exact this
  obtain ⟨W3, hW3⟩ : ∃ W3, W3 = W2.drew.setRow H (L1.toArray.toList.take oQ ++ xs.drop (p * 2) ++ L1.toArray.toList.drop (oQ + lQ * 2)).toArray := ⟨_, rfl⟩
  rw [← hW3] at hcp2
  have hsz3 : w.heap.size ≤ W3.heap.size := by rw [hW3, hW2, hW1]; simp
  have HP : Kept (Insd w g n (xs.take (p * 2) ++ mc k x ++ xs.drop (p * 2)) (.returned (.slice (some ⟨H, 0, none⟩) n1 G)) W3) := by
    subst hn1
    refine ⟨H, G, rfl, own_of (by rw [hW3]; exact setRow_heap W2.drew H _ _ _ _ hg2) hGn hGm ?_ (by simpa using hfin) ?_, .inr (by omega), ⟨by rw [hW3, hW2, hW1]; rfl, by rw [hW3, hW2, hW1]; rfl, by rw [hW3, hW2, hW1]; rfl, hsz3, fun j hj _ => ?_⟩⟩
    · simp [List.length_take, List.length_drop, hL1l, hxl]; omega
    · simp [mc, List.length_take, List.length_drop, hxl]; omega
    · rw [hW3, setRow_other W2.drew H j _ (by omega)]; exact hk2 j hj
  have AP := keep hap
  have C1 := keep hcp1
  have C2 := keep hcp2
  have hne : ((p : Int) == (n : Int)) = false := beq_eq_false_iff_ne.2 (by omega)
  have hne' : ¬ (p : Int) = (n : Int) := by omega
  have hgt : (cap : Int) < (n1 : Int) := by omega
  have hgt' : decide ((cap : Int) < (n1 : Int)) = true := decide_eq_true hgt
  clear hC hv hn hcur hcc hcm hsz htk hxl hl2 hap hcp1 hcp2 hL1 hL1l hW1 hW2 hW3 hg1 hg2 hk1 hk2 hfin hp hr h1 hvg hn1 hp1 hoP hoQ hlP hlQ hcP hcA hcB hold hG hGn hGm hROW hRl hRt hgl hvl hsz3 hH
  go_enter Tryz.func90, Tryz.ntmps90
  have c1 := C1.out
  go_wp2_with (at_builtin; refine wpList_app_run rfl _ _ _ _ rfl _ _ _ rfl rfl AP.out ?_)
  clear AP C1
  refine wp_region_held_drew (S := fun _ => True) (by kernel_rfl) trivial (fun hHeld => ?_)
  refine wpAnyH_take (i := 0) (oi := { dst := some 46, op := _, type := _, pos := _, after := _, guard := _ }) (v := ?v1) rfl (by kernel_rfl) (by kernel_rfl) (by kernel_rfl) (fun _ _ _ h => h) (Or.inl ⟨by rfl, ?hy1⟩) (by assumption) ?rest1
  case hy1 => (intro w hSw; go_simp; try with_reducible rfl)
  try simp only [Act.put, List.setIfInBounds_toArray, List.set_cons_zero, List.set_cons_succ]
  refine wpAnyH_take (i := 1) (oi := { dst := some 47, op := _, type := _, pos := _, after := _, guard := _ }) (v := ?v2) rfl (by kernel_rfl) (by kernel_rfl) (by kernel_rfl) (fun _ _ _ h => h) (Or.inl ⟨by rfl, ?hy2⟩) (by assumption) ?rest2
  case hy2 => (intro w hSw; go_simp; try with_reducible rfl)
  try simp only [Act.put, List.setIfInBounds_toArray, List.set_cons_zero, List.set_cons_succ]
  refine wpAnyH_take (i := 2) (oi := { dst := some 48, op := _, type := _, pos := _, after := _, guard := _ }) (v := ?v3) rfl (by kernel_rfl) (by kernel_rfl) (by kernel_rfl) (fun _ _ _ h => h) (Or.inl ⟨by rfl, ?hy3⟩) (by assumption) ?rest3
  case hy3 => (intro w hSw; go_simp; try with_reducible rfl)
  try simp only [Act.put, List.setIfInBounds_toArray, List.set_cons_zero, List.set_cons_succ]
  refine wpAnyH_take (i := 3) (oi := { dst := some 49, op := _, type := _, pos := _, after := _, guard := _ }) (v := (.int .i64 (p1 : Int))) rfl (by kernel_rfl) (by kernel_rfl) (by kernel_rfl) (fun _ _ _ h => h) (Or.inl ⟨by rfl, ?hy4⟩) (by assumption) ?rest4
  case hy4 => (intro w hSw; first | (go_simp; done) | (go_simp; simp [*]; done) | (simp [*]; go_simp; done))
  try simp only [Act.put, List.setIfInBounds_toArray, List.set_cons_zero, List.set_cons_succ]
  refine wpAnyH_take (i := 4) (oi := { dst := some 50, op := _, type := _, pos := _, after := _, guard := _ }) (v := (.slice (some ⟨H, oQ, none⟩) lQ cB)) rfl (by kernel_rfl) (by kernel_rfl) (by kernel_rfl) (fun _ _ _ h => h) (Or.inl ⟨by rfl, ?hy5⟩) (by assumption) ?rest5
  case hy5 => (intro w hSw; first | (go_simp; done) | (go_simp; simp [*]; done) | (simp [*]; go_simp; done))
  try simp only [Act.put, List.setIfInBounds_toArray, List.set_cons_zero, List.set_cons_succ]
  refine wpAnyH_take (i := 5) (oi := { dst := some 51, op := _, type := _, pos := _, after := _, guard := _ }) (v := ?v6) rfl (by kernel_rfl) (by kernel_rfl) (by kernel_rfl) (fun _ _ _ h => h) (Or.inl ⟨by rfl, ?hy6⟩) (by assumption) ?rest6
  case hy6 => (intro w hSw; go_simp; try with_reducible rfl)
  try simp only [Act.put, List.setIfInBounds_toArray, List.set_cons_zero, List.set_cons_succ]
  refine wpAnyH_take (i := 6) (oi := { dst := some 52, op := _, type := _, pos := _, after := _, guard := _ }) (v := ?v7) rfl (by kernel_rfl) (by kernel_rfl) (by kernel_rfl) (fun _ _ _ h => h) (Or.inl ⟨by rfl, ?hy7⟩) (by assumption) ?rest7
  case hy7 => (intro w hSw; go_simp; try with_reducible rfl)
  try simp only [Act.put, List.setIfInBounds_toArray, List.set_cons_zero, List.set_cons_succ]
  refine wpAnyH_take (i := 7) (oi := { dst := some 53, op := _, type := _, pos := _, after := _, guard := _ }) (v := (.slice (some ⟨g, oP, none⟩) lQ cP)) rfl (by kernel_rfl) (by kernel_rfl) (by kernel_rfl) (fun _ _ _ h => h) (Or.inl ⟨by rfl, ?hy8⟩) (by assumption) ?rest8
  case hy8 => (intro w hSw; first | (go_simp; done) | (go_simp; simp [*]; done) | (simp [*]; go_simp; done))
  try simp only [Act.put, List.setIfInBounds_toArray, List.set_cons_zero, List.set_cons_succ]
  refine wpAnyH_ready (rs := [8]) (by kernel_rfl) (by simp) ?_
  refine AllReadyH.cons (o := { dst := some 54, op := _, type := _, pos := _, after := _, guard := _ }) rfl (fun K hK => ?_) AllReadyH.nil
  rw [if_pos (by rfl)]
  refine wp_cp_run (.tmp 50) (.tmp 53) 48 48 rfl _ _ _ rfl rfl C2.out ?_
  refine hK.out _ _ trivial (fun hHeld => ?_)
  try simp only [Act.put, List.setIfInBounds_toArray, List.set_cons_zero, List.set_cons_succ]
  clear hK
  refine wpAnyH_done (by kernel_rfl) ?_ _
  clear hHeld C2
  go_wp2
  go_ret
  exact HP.out
theorem insM_any (w : World) (g n cap vb p : Nat) (xs : List Value) (k : ByteArray) (x : Int) (hC : w.ownsRow 0 65 2 (.slice (some ⟨g, 0, none⟩) n cap) n xs) (hv : w.heap[vb]? = some (.cells #[.string k, .int .u64 x] 65 (0, 0))) (hvg : vb ≠ g) (hn : n ≤ 100000) (hp : p ≤ n) (h1 : ∀ u ∈ xs, u.oneCell' = true) :
    Calls Tryz.prog 90 #[.slice (some ⟨g, 0, none⟩) n cap, .int .i64 p, .slice (some ⟨vb, 0, none⟩) 1 1] w fun e w' => Insd w g n (xs.take (p * 2) ++ mc k x ++ xs.drop (p * 2)) e w' := by
  rcases Nat.lt_or_eq_of_le hp with h | rfl
  · rcases Nat.lt_or_ge cap (n + 1) with h' | h'
    · exact insM_grow w g n cap vb p xs k x hC hv hvg hn h h' h1
    · exact insM_room w g n cap vb p xs k x hC hv hvg hn h h' h1
  · have hl := hC.1
    rw [List.take_of_length_le (by omega), List.drop_of_length_le (by omega), List.append_nil]
    exact insM_end w g p cap vb xs k x hC hv hn
end Go.Proofs.YthmmblohfjmbcaaGreat.DV
