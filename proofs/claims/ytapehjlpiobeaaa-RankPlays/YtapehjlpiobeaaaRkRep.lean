/-
  Contracts over this program: slices.Replace of one row by two.
-/
import Derived.Test.YtapehjlpiobeaaaRkIns2
namespace Go.Proofs.Ytapehjlpiobeaaa
open Go.RowKit Go.Shelf
set_option linter.unusedVariables false
set_option linter.unusedSimpArgs false
theorem two_one {va vb : Value} (ha : va.oneCell' = true) (hb : vb.oneCell' = true) : ∀ u ∈ [va, vb], u.oneCell' = true := by
  intro u hu
  simp only [List.mem_cons, List.not_mem_nil, or_false] at hu
  rcases hu with rfl | rfl <;> assumption
theorem duo_cell {w : World} {g : Nat} {va vb : Value} {t : TypeId} (h : w.heap[g]? = some (.cells #[va, vb] t (0, 0))) : ∀ j u, [va, vb][j]? = some u → w.cell? ((⟨g, 0, none⟩ : Addr).add j) = some u := by
  intro j u hu
  rw [add_at, Nat.zero_add, cell_of_row w g j _ _ _ h]
  have : (#[va, vb] : Array Value)[j]? = [va, vb][j]? := by simp
  rw [this, hu]
/-- one row gives way to two -/
def rp (xs : List Value) (p : Nat) (va vb : Value) : List Value := xs.take p ++ [va, vb] ++ xs.drop (p + 1)
def Repd (w : World) (g n : Nat) (ys : List Value) (e : Ending) (w' : World) : Prop :=
  ∃ g' cap', e = .returned (.slice (some ⟨g', 0, none⟩) (n + 1) cap') ∧ w'.ownsRow 0 41 1 (.slice (some ⟨g', 0, none⟩) (n + 1) cap') (n + 1) ys ∧ (g' = g ∨ w.heap.size ≤ g') ∧ w.grownBy w' (some g)
set_option maxRecDepth 100000 in
set_option maxHeartbeats 600000 in
theorem rep_end (w : World) (g n cap vg p : Nat) (xs : List Value) (va vb : Value) (hC : w.ownsRow 0 41 1 (.slice (some ⟨g, 0, none⟩) n cap) n xs) (hv : w.heap[vg]? = some (.cells #[va, vb] 41 (0, 0))) (hvg : vg ≠ g) (hn : n ≤ 2000000) (hp : p + 1 = n) (h1 : ∀ u ∈ xs, u.oneCell' = true) (ha1 : va.oneCell' = true) (hb1 : vb.oneCell' = true) :
    Calls Try.prog 83 #[.slice (some ⟨g, 0, none⟩) n cap, .int .i64 p, .int .i64 ((p : Int) + 1), .slice (some ⟨vg, 0, none⟩) 2 2] w fun e w' => Repd w g n (rp xs p va vb) e w' := by
  obtain ⟨i0, hi0, hz0, hz1, hz2⟩ := info_parts info_rw
  obtain ⟨cur, hcur, hcc, hcm, hsz, htk, hxl⟩ := own_cur hC
  rw [Nat.mul_one] at hsz htk hxl
  have hcm' := hcm
  unfold maxLen at hcm
  have uT := Try.underlying61
  obtain ⟨q1, hq1⟩ : ∃ q : Int, (p : Int) + 1 = q := ⟨_, rfl⟩
  obtain ⟨p1, hp1⟩ : ∃ p1, p1 = p + 1 := ⟨_, rfl⟩
  have hq1' : q1 = (p1 : Int) := by omega
  rw [hq1]
  subst hq1'
  obtain ⟨n1, hn1⟩ : ∃ n1, n1 = n + 1 := ⟨_, rfl⟩
  obtain ⟨p2, hp2⟩ : ∃ p2, p2 = p + 2 := ⟨_, rfl⟩
  have hs0 : ∃ v, ∀ w, (Instr.slice 61 (.slice (some ⟨g, 0, none⟩) n cap) (some (.int .i64 (p : Int))) (some (.int .i64 (p1 : Int))) none).run Try.prog w = .ok v w :=
    ⟨_, fun w => slice_run w _ _ uT i0 hi0 ⟨g, 0, none⟩ n cap p p1 cap _ _ _ (.inl ⟨rfl, rfl⟩) (.inr ⟨rfl, by omega⟩) (.inr ⟨rfl, by omega⟩)⟩
  obtain ⟨v0, hs0⟩ := hs0
  have hs1 : ∀ w, (Instr.slice 61 (.slice (some ⟨g, 0, none⟩) n cap) none (some (.int .i64 (p : Int))) none).run Try.prog w = .ok (.slice (some ⟨g, 0, none⟩) p cap) w := fun w => by
    rw [slice_run w _ _ uT i0 hi0 ⟨g, 0, none⟩ n cap 0 p cap _ _ _ (.inl ⟨rfl, rfl⟩) (.inr ⟨rfl, by omega⟩) (.inl ⟨rfl, rfl⟩)]
    rw [Nat.zero_mul, add_at, Nat.zero_add, ite_self]; rfl
  have hne : ((p : Int) == (p1 : Int)) = false := beq_eq_false_iff_ne.2 (by omega)
  have hne' : ¬ (p : Int) = (p1 : Int) := by omega
  have hw2 : IntKind.i64.wrap ((p : Int) + 2) = (p2 : Int) := by rw [IntKind.wrap_i64]; omega
  have hCp : w.ownsRow 0 41 1 (.slice (some ⟨g, 0, none⟩) p cap) p (xs.take p) := own_of hcur (by omega) hcm' (by rw [Nat.mul_one]; exact hsz) (by rw [Nat.mul_one]; exact take_pre htk (by omega)) (by rw [List.length_take, hxl]; omega)
  obtain ⟨g', cap', W, r1, r2, r3, r4, r5⟩ := run_append_lies (P := Try.prog) w 61 61 0 41 i0 _ 1 24 uT hi0 hz0 hz1 hz2 (by simp [Value.cells]) (by decide) _ p _ hCp ⟨vg, 0, none⟩ 2 2 [va, vb] rfl (duo_cell hv) (two_one ha1 hb1) (by decide) (by unfold maxLen; omega) (by omega) (Nat.zero_le _) w.heap.size rfl
  rw [← hp2] at r1 r2
  have R1 := keep r1
  have hpn : p2 = n + 1 := by omega
  have HP : Kept (Repd w g n (rp xs p va vb) (.returned (.slice (some ⟨g', 0, none⟩) p2 cap')) W) := by
    unfold rp
    rw [List.drop_of_length_le (by omega), List.append_nil]
    subst hpn
    exact ⟨g', cap', rfl, r2, r4.imp (fun e => (Option.some.inj e).symm) (fun e => Nat.le_of_eq e.symm), r3⟩
  have he : ((p1 : Int) == (n : Int)) = true := beq_iff_eq.2 (by omega)
  have hl : decide ((p2 : Int) < (n : Int)) = false := decide_eq_false (by omega)
  have hl' : ¬ (p2 : Int) < (n : Int) := by omega
  have he' : (p1 : Int) = (n : Int) := by omega
  have hpn1 : p1 = n := by omega
  clear hC hv hn hcur hcc hcm hcm' hsz htk hxl r1 r2 r3 r4 r5 hvg hp h1 ha1 hb1 hq1 hp2 hn1 hw2 hCp hpn he'
  subst hpn1
  clear hp1 he
  go_enter Try.func83, Try.ntmps83
  go_wp2_with (at_builtin; refine wpList_app_run rfl _ _ _ _ rfl _ _ _ rfl rfl R1.out ?_)
  go_ret
  exact HP.out
set_option maxRecDepth 100000 in
set_option maxHeartbeats 600000 in
theorem rep_grow (w : World) (g n cap vg p : Nat) (xs : List Value) (va vb : Value) (hC : w.ownsRow 0 41 1 (.slice (some ⟨g, 0, none⟩) n cap) n xs) (hv : w.heap[vg]? = some (.cells #[va, vb] 41 (0, 0))) (hvg : vg ≠ g) (hn : n ≤ 2000000) (hp : p + 1 < n) (hr : cap < n + 1) (h1 : ∀ u ∈ xs, u.oneCell' = true) (ha1 : va.oneCell' = true) (hb1 : vb.oneCell' = true) :
    Calls Try.prog 83 #[.slice (some ⟨g, 0, none⟩) n cap, .int .i64 p, .int .i64 ((p : Int) + 1), .slice (some ⟨vg, 0, none⟩) 2 2] w fun e w' => Repd w g n (rp xs p va vb) e w' := by
  obtain ⟨i0, hi0, hz0, hz1, hz2⟩ := info_parts info_rw
  obtain ⟨cur, hcur, hcc, hcm, hsz, htk, hxl⟩ := own_cur hC
  rw [Nat.mul_one] at hsz htk hxl
  have hcm' := hcm
  unfold maxLen at hcm
  have uT := Try.underlying61
  obtain ⟨q1, hq1⟩ : ∃ q : Int, (p : Int) + 1 = q := ⟨_, rfl⟩
  obtain ⟨p1, hp1⟩ : ∃ p1, p1 = p + 1 := ⟨_, rfl⟩
  have hq1' : q1 = (p1 : Int) := by omega
  rw [hq1]
  subst hq1'
  obtain ⟨n1, hn1⟩ : ∃ n1, n1 = n + 1 := ⟨_, rfl⟩
  obtain ⟨p2, hp2⟩ : ∃ p2, p2 = p + 2 := ⟨_, rfl⟩
  have hs0 : ∃ v, ∀ w, (Instr.slice 61 (.slice (some ⟨g, 0, none⟩) n cap) (some (.int .i64 (p : Int))) (some (.int .i64 (p1 : Int))) none).run Try.prog w = .ok v w :=
    ⟨_, fun w => slice_run w _ _ uT i0 hi0 ⟨g, 0, none⟩ n cap p p1 cap _ _ _ (.inl ⟨rfl, rfl⟩) (.inr ⟨rfl, by omega⟩) (.inr ⟨rfl, by omega⟩)⟩
  obtain ⟨v0, hs0⟩ := hs0
  have hs1 : ∀ w, (Instr.slice 61 (.slice (some ⟨g, 0, none⟩) n cap) none (some (.int .i64 (p : Int))) none).run Try.prog w = .ok (.slice (some ⟨g, 0, none⟩) p cap) w := fun w => by
    rw [slice_run w _ _ uT i0 hi0 ⟨g, 0, none⟩ n cap 0 p cap _ _ _ (.inl ⟨rfl, rfl⟩) (.inr ⟨rfl, by omega⟩) (.inl ⟨rfl, rfl⟩)]
    rw [Nat.zero_mul, add_at, Nat.zero_add, ite_self]; rfl
  have hne : ((p : Int) == (p1 : Int)) = false := beq_eq_false_iff_ne.2 (by omega)
  have hne' : ¬ (p : Int) = (p1 : Int) := by omega
  have hw2 : IntKind.i64.wrap ((p : Int) + 2) = (p2 : Int) := by rw [IntKind.wrap_i64]; omega
  obtain ⟨lJ, hlJ⟩ : ∃ o, o = n - p1 := ⟨_, rfl⟩
  obtain ⟨cJ, hcJ⟩ : ∃ o, o = cap - p1 := ⟨_, rfl⟩
  have hs2 : ∀ w, (Instr.slice 61 (.slice (some ⟨g, 0, none⟩) n cap) (some (.int .i64 (p1 : Int))) none none).run Try.prog w = .ok (.slice (some ⟨g, p1, none⟩) lJ cJ) w := fun w => by
    rw [slice_run w _ _ uT i0 hi0 ⟨g, 0, none⟩ n cap p1 n cap _ _ _ (.inl ⟨rfl, rfl⟩) (.inl ⟨rfl, rfl, rfl⟩) (.inr ⟨rfl, by omega⟩), if_neg (by omega), hz1, add_at, Nat.zero_add, Nat.mul_one, hlJ, hcJ]
  have hw3 : IntKind.i64.wrap ((p2 : Int) + (lJ : Int)) = (n1 : Int) := by rw [IntKind.wrap_i64]; omega
  have he : ((p1 : Int) == (n : Int)) = false := beq_eq_false_iff_ne.2 (by omega)
  have he' : ¬ (p1 : Int) = (n : Int) := by omega
  have hl2 : (xs.drop p1).length = lJ := by rw [List.length_drop, hxl]; omega
  obtain ⟨lP, hlP⟩ : ∃ o, o = n1 - p := ⟨_, rfl⟩
  have hw4 : IntKind.i64.wrap ((n1 : Int) - (p : Int)) = (lP : Int) := by rw [IntKind.wrap_i64]; omega
  have hold : (Builtin.firstCells i0.size p (.slice (some ⟨g, 0, none⟩) p cap)).run Try.prog w.drew.drew = .ok (xs.take p).toArray w.drew.drew := by
    rw [hz1]
    refine run_firstCells_some w.drew.drew 1 p ⟨g, 0, none⟩ p cap (xs.take p) (by rw [List.length_take, hxl]; omega) (fun j v hj => ?_)
    rw [List.getElem?_take] at hj
    split at hj
    · exact row_cells (a := 0) (w := w.drew.drew) hcur htk j v (by simpa using hj)
    · cases hj
  have hap := Lib.run_append_grow_zeros (P := Try.prog) w.drew 61 3 61 41 i0 _ .i64 .i64 uT Try.underlying3 hi0 hz0 (some ⟨g, 0, none⟩) p cap (xs.take p) hold lP (by omega) (by omega) (by omega) (by omega) (by rw [hz2]; omega) (by rw [hz2]; exact growslice_fits (by omega) (by omega))
  rw [show p + lP = n1 by omega] at hap
  obtain ⟨G, hG⟩ : ∃ G, G = grownCap w.drew n1 cap 41 := ⟨_, rfl⟩
  rw [← hG] at hap
  have hGn : n1 ≤ G := by rw [hG]; exact grownCap_ge w.drew _ _ _
  have hGm : G ≤ maxLen := by rw [hG]; exact grownCap_le_maxLen w.drew n1 cap _ (by unfold maxLen; omega)
  obtain ⟨ROW, hROW⟩ : ∃ ROW : Array Value, ROW = (xs.take p).toArray ++ Builtin.zeroCells (Value.slice none 0 0).cells lP ++ Builtin.zeroCells (Value.slice none 0 0).cells (G - n1) := ⟨_, rfl⟩
  rw [← hROW] at hap
  have hRl : ROW.size = G := by
    rw [hROW]
    simp only [Array.size_append, List.size_toArray, size_zeroCells, List.length_take, hxl]
    simp only [Value.cells, List.size_toArray, List.length_cons, List.length_nil]
    omega
  have hRt : ROW.toList.take p = xs.take p := by
    rw [hROW]
    simp only [Array.toList_append, List.append_assoc]
    exact List.take_left' (by rw [List.length_take, hxl]; omega)
  obtain ⟨H, hH⟩ : ∃ H, H = w.heap.size := ⟨_, rfl⟩
  obtain ⟨W1, hW1⟩ : ∃ W1, W1 = w.drew.drew.alloc (.cells ROW 41) := ⟨_, rfl⟩
  rw [← hW1, show w.drew.heap.size = H from hH.symm] at hap
  have hgl : g < w.heap.size := (Array.getElem?_eq_some_iff.1 hcur).1
  have hvl : vg < w.heap.size := (Array.getElem?_eq_some_iff.1 hv).1
  have hg1 : W1.heap[H]? = some (.cells ROW 41 (0, 0)) := by rw [hW1, hH]; exact heap_alloc_new w.drew.drew _
  have hk1 : ∀ j, j < w.heap.size → W1.heap[j]? = w.heap[j]? := fun j hj => by rw [hW1]; exact Below.heap_alloc w.drew.drew _ j hj
  obtain ⟨cA, hcA⟩ : ∃ o, o = G - p := ⟨_, rfl⟩
  obtain ⟨cB, hcB⟩ : ∃ o, o = G - p2 := ⟨_, rfl⟩
  have hs3 : ∀ w, (Instr.slice 61 (.slice (some ⟨H, 0, none⟩) n1 G) (some (.int .i64 (p : Int))) none none).run Try.prog w = .ok (.slice (some ⟨H, p, none⟩) lP cA) w := fun w => by
    rw [slice_run w _ _ uT i0 hi0 ⟨H, 0, none⟩ n1 G p n1 G _ _ _ (.inl ⟨rfl, rfl⟩) (.inl ⟨rfl, rfl, rfl⟩) (.inr ⟨rfl, by omega⟩), if_neg (by omega), hz1, add_at, Nat.zero_add, Nat.mul_one, hlP, hcA]
  have hs4 : ∀ w, (Instr.slice 61 (.slice (some ⟨H, 0, none⟩) n1 G) (some (.int .i64 (p2 : Int))) none none).run Try.prog w = .ok (.slice (some ⟨H, p2, none⟩) lJ cB) w := fun w => by
    rw [slice_run w _ _ uT i0 hi0 ⟨H, 0, none⟩ n1 G p2 n1 G _ _ _ (.inl ⟨rfl, rfl⟩) (.inl ⟨rfl, rfl, rfl⟩) (.inr ⟨rfl, by omega⟩), if_neg (by omega), hz1, add_at, Nat.zero_add, Nat.mul_one, show n1 - p2 = lJ by omega, hcB]
  have hcp1 := copy_to (P := Try.prog) W1 61 41 3 41 uT i0 hi0 H p lP 2 2 cA 2 ⟨vg, 0, none⟩ ROW [va, vb] hg1 (Nat.min_eq_left (by omega)) (by rw [hz1]; rfl) (duo_cell ((hk1 vg hvl).trans hv)) (by rw [hz1, hRl]; omega) (two_one ha1 hb1)
  rw [hz1] at hcp1
  obtain ⟨L1, hL1⟩ : ∃ L1, L1 = ROW.toList.take p ++ [va, vb] ++ ROW.toList.drop (p + 2 * 1) := ⟨_, rfl⟩
  rw [← hL1] at hcp1
  have hL1l : L1.length = G := by rw [hL1]; simp only [List.length_append, List.length_take, List.length_cons, List.length_nil, List.length_drop, Array.length_toList, hRl]; omega
  obtain ⟨W2, hW2⟩ : ∃ W2, W2 = W1.setRow H L1.toArray := ⟨_, rfl⟩
  rw [← hW2] at hcp1
  have hg2 : W2.heap[H]? = some (.cells L1.toArray 41 (0, 0)) := by rw [hW2]; exact setRow_heap W1 H ROW _ _ _ hg1
  have hk2 : ∀ j, j < w.heap.size → W2.heap[j]? = w.heap[j]? := fun j hj => by rw [hW2, setRow_other W1 H j _ (by omega)]; exact hk1 j hj
  have hcp2 := copy_to (P := Try.prog) W2.drew 61 41 3 41 uT i0 hi0 H p2 lJ lJ lJ cB cJ ⟨g, p1, none⟩ L1.toArray (xs.drop p1) hg2 (Nat.min_self _) (by rw [hz1, Nat.mul_one]; exact hl2) (row_cells (w := W2.drew) ((hk2 g hgl).trans hcur) htk) (by rw [hz1]; simp [hL1l]; omega) (fun u hu => h1 u (List.mem_of_mem_drop hu))
  rw [hz1] at hcp2
  have hfin : (L1.take p2 ++ xs.drop p1 ++ L1.drop (p2 + lJ * 1)).take n1 = xs.take p ++ [va, vb] ++ xs.drop p1 := by
    have := row_new (vs := [va, vb]) (c := p2) (N := n1) (n := n) hRt hxl (a := p) (b := p1) (by omega) (by omega) (by simp; omega) (by omega) (by rw [Array.length_toList, hRl]; omega)
    rw [show p + 2 * 1 = p2 by omega] at hL1
    rw [← hL1] at this
    rw [show p2 + lJ * 1 = n1 by omega]
    exact this
  obtain ⟨W3, hW3⟩ : ∃ W3, W3 = W2.drew.setRow H (L1.toArray.toList.take p2 ++ xs.drop p1 ++ L1.toArray.toList.drop (p2 + lJ * 1)).toArray := ⟨_, rfl⟩
  rw [← hW3] at hcp2
  have hsz3 : w.heap.size ≤ W3.heap.size := by rw [hW3, hW2, hW1]; simp
  have HP : Kept (Repd w g n (rp xs p va vb) (.returned (.slice (some ⟨H, 0, none⟩) n1 G)) W3) := by
    unfold rp
    rw [← hp1]
    subst hn1
    refine ⟨H, G, rfl, own_of (by rw [hW3]; exact setRow_heap W2.drew H _ _ _ _ hg2) hGn hGm ?_ (by simpa using hfin) ?_, .inr (by omega), ⟨by rw [hW3, hW2, hW1]; rfl, by rw [hW3, hW2, hW1]; rfl, by rw [hW3, hW2, hW1]; rfl, hsz3, fun j hj _ => ?_⟩⟩
    · simp [List.length_take, List.length_drop, hL1l, hxl]; omega
    · simp [List.length_take, List.length_drop, hxl]; omega
    · rw [hW3, setRow_other W2.drew H j _ (by omega)]; exact hk2 j hj
  have AP := keep hap
  have C1 := keep hcp1
  have C2 := keep hcp2
  have hgt : (cap : Int) < (n1 : Int) := by omega
  have hgt' : decide ((cap : Int) < (n1 : Int)) = true := decide_eq_true hgt
  clear hC hv hn hcur hcc hcm hcm' hsz htk hxl hl2 hap hcp1 hcp2 hL1 hL1l hW1 hW2 hW3 hg1 hg2 hk1 hk2 hfin hp hr h1 hvg hn1 hp1 hp2 hq1 hlP hlJ hcJ hcA hcB hold hG hGn hGm hROW hRl hRt hgl hvl hsz3 hH ha1 hb1
  go_enter Try.func83, Try.ntmps83
  have c1 := C1.out
  go_wp2_with fail
  refine wp_region_held_drew (S := fun _ => True) (by kernel_rfl) trivial (fun hHeld => ?_)
  refine wpAnyH_take (i := 0) (oi := { dst := some 45, op := _, type := _, pos := _, after := _, guard := _ }) (v := ?v109) rfl (by kernel_rfl) (by kernel_rfl) (by kernel_rfl) (fun _ _ _ h => h) (Or.inl ⟨by rfl, ?hy109⟩) (by assumption) ?rest109
  case hy109 => (intro w hSw; go_simp; try with_reducible rfl)
  try simp only [Act.put, List.setIfInBounds_toArray, List.set_cons_zero, List.set_cons_succ]
  refine wpAnyH_take (i := 1) (oi := { dst := some 46, op := _, type := _, pos := _, after := _, guard := _ }) (v := ?v110) rfl (by kernel_rfl) (by kernel_rfl) (by kernel_rfl) (fun _ _ _ h => h) (Or.inl ⟨by rfl, ?hy110⟩) (by assumption) ?rest110
  case hy110 => (intro w hSw; go_simp; try with_reducible rfl)
  try simp only [Act.put, List.setIfInBounds_toArray, List.set_cons_zero, List.set_cons_succ]
  refine wpAnyH_take (i := 2) (oi := { dst := some 47, op := _, type := _, pos := _, after := _, guard := _ }) (v := (.slice (some ⟨g, 0, none⟩) p cap)) rfl (by kernel_rfl) (by kernel_rfl) (by kernel_rfl) (fun _ _ _ h => h) (Or.inl ⟨by rfl, ?hy111⟩) (by assumption) ?rest111
  case hy111 => (intro w hSw; first | (go_simp; done) | (go_simp; simp [*]; done) | (simp [*]; go_simp; done))
  try simp only [Act.put, List.setIfInBounds_toArray, List.set_cons_zero, List.set_cons_succ]
  refine wpAnyH_take (i := 3) (oi := { dst := some 48, op := _, type := _, pos := _, after := _, guard := _ }) (v := (.int .i64 (p : Int))) rfl (by kernel_rfl) (by kernel_rfl) (by kernel_rfl) (fun _ _ _ h => h) (Or.inl ⟨by rfl, ?hy112⟩) (by assumption) ?rest112
  case hy112 => (intro w hSw; first | (go_simp; done) | (go_simp; simp [*]; done) | (simp [*]; go_simp; done))
  try simp only [Act.put, List.setIfInBounds_toArray, List.set_cons_zero, List.set_cons_succ]
  refine wpAnyH_take (i := 4) (oi := { dst := some 49, op := _, type := _, pos := _, after := _, guard := _ }) (v := ?v113) rfl (by kernel_rfl) (by kernel_rfl) (by kernel_rfl) (fun _ _ _ h => h) (Or.inl ⟨by rfl, ?hy113⟩) (by assumption) ?rest113
  case hy113 => (intro w hSw; go_simp; try with_reducible rfl)
  try simp only [Act.put, List.setIfInBounds_toArray, List.set_cons_zero, List.set_cons_succ]
  refine wpAnyH_take (i := 5) (oi := { dst := some 50, op := _, type := _, pos := _, after := _, guard := _ }) (v := (.int .i64 2)) rfl (by kernel_rfl) (by kernel_rfl) (by kernel_rfl) (fun _ _ _ h => h) (Or.inl ⟨by rfl, ?hy114⟩) (by assumption) ?rest114
  case hy114 => (intro w hSw; first | (go_simp; done) | (go_simp; simp [*]; done) | (simp [*]; go_simp; done))
  try simp only [Act.put, List.setIfInBounds_toArray, List.set_cons_zero, List.set_cons_succ]
  refine wpAnyH_take (i := 6) (oi := { dst := some 51, op := _, type := _, pos := _, after := _, guard := _ }) (v := (.int .i64 (p2 : Int))) rfl (by kernel_rfl) (by kernel_rfl) (by kernel_rfl) (fun _ _ _ h => h) (Or.inl ⟨by rfl, ?hy115⟩) (by assumption) ?rest115
  case hy115 => (intro w hSw; first | (go_simp; done) | (go_simp; simp [*]; done) | (simp [*]; go_simp; done))
  try simp only [Act.put, List.setIfInBounds_toArray, List.set_cons_zero, List.set_cons_succ]
  refine wpAnyH_take (i := 7) (oi := { dst := some 52, op := _, type := _, pos := _, after := _, guard := _ }) (v := ?v116) rfl (by kernel_rfl) (by kernel_rfl) (by kernel_rfl) (fun _ _ _ h => h) (Or.inl ⟨by rfl, ?hy116⟩) (by assumption) ?rest116
  case hy116 => (intro w hSw; go_simp; try with_reducible rfl)
  try simp only [Act.put, List.setIfInBounds_toArray, List.set_cons_zero, List.set_cons_succ]
  refine wpAnyH_take (i := 8) (oi := { dst := some 53, op := _, type := _, pos := _, after := _, guard := _ }) (v := ?v117) rfl (by kernel_rfl) (by kernel_rfl) (by kernel_rfl) (fun _ _ _ h => h) (Or.inl ⟨by rfl, ?hy117⟩) (by assumption) ?rest117
  case hy117 => (intro w hSw; go_simp; try with_reducible rfl)
  try simp only [Act.put, List.setIfInBounds_toArray, List.set_cons_zero, List.set_cons_succ]
  refine wpAnyH_take (i := 9) (oi := { dst := some 54, op := _, type := _, pos := _, after := _, guard := _ }) (v := (.slice (some ⟨g, p1, none⟩) lJ cJ)) rfl (by kernel_rfl) (by kernel_rfl) (by kernel_rfl) (fun _ _ _ h => h) (Or.inl ⟨by rfl, ?hy118⟩) (by assumption) ?rest118
  case hy118 => (intro w hSw; first | (go_simp; done) | (go_simp; simp [*]; done) | (simp [*]; go_simp; done))
  try simp only [Act.put, List.setIfInBounds_toArray, List.set_cons_zero, List.set_cons_succ]
  refine wpAnyH_take (i := 10) (oi := { dst := some 55, op := _, type := _, pos := _, after := _, guard := _ }) (v := (.int .i64 (lJ : Int))) rfl (by kernel_rfl) (by kernel_rfl) (by kernel_rfl) (fun _ _ _ h => h) (Or.inl ⟨by rfl, ?hy119⟩) (by assumption) ?rest119
  case hy119 => (intro w hSw; first | (go_simp; done) | (go_simp; simp [*]; done) | (simp [*]; go_simp; done))
  try simp only [Act.put, List.setIfInBounds_toArray, List.set_cons_zero, List.set_cons_succ]
  refine wpAnyH_take (i := 11) (oi := { dst := some 56, op := _, type := _, pos := _, after := _, guard := _ }) (v := (.int .i64 (n1 : Int))) rfl (by kernel_rfl) (by kernel_rfl) (by kernel_rfl) (fun _ _ _ h => h) (Or.inl ⟨by rfl, ?hy120⟩) (by assumption) ?rest120
  case hy120 => (intro w hSw; first | (go_simp; done) | (go_simp; simp [*]; done) | (simp [*]; go_simp; done))
  try simp only [Act.put, List.setIfInBounds_toArray, List.set_cons_zero, List.set_cons_succ]
  refine wpAnyH_take (i := 12) (oi := { dst := some 10, op := _, type := _, pos := _, after := _, guard := _ }) (v := ?v121) rfl (by kernel_rfl) (by kernel_rfl) (by kernel_rfl) (fun _ _ _ h => h) (Or.inl ⟨by rfl, ?hy121⟩) (by assumption) ?rest121
  case hy121 => (intro w hSw; go_simp; try with_reducible rfl)
  try simp only [Act.put, List.setIfInBounds_toArray, List.set_cons_zero, List.set_cons_succ]
  refine wpAnyH_done (by kernel_rfl) ?_ _
  clear hHeld
  go_wp2_with (at_builtin; refine wpList_app_run rfl _ _ _ _ rfl _ _ _ rfl rfl AP.out ?_)
  clear AP C1
  refine wp_region_held_drew (S := fun _ => True) (by kernel_rfl) trivial (fun hHeld => ?_)
  refine wpAnyH_take (i := 0) (oi := { dst := some 73, op := _, type := _, pos := _, after := _, guard := _ }) (v := ?v122) rfl (by kernel_rfl) (by kernel_rfl) (by kernel_rfl) (fun _ _ _ h => h) (Or.inl ⟨by rfl, ?hy122⟩) (by assumption) ?rest122
  case hy122 => (intro w hSw; go_simp; try with_reducible rfl)
  try simp only [Act.put, List.setIfInBounds_toArray, List.set_cons_zero, List.set_cons_succ]
  refine wpAnyH_take (i := 1) (oi := { dst := some 74, op := _, type := _, pos := _, after := _, guard := _ }) (v := ?v123) rfl (by kernel_rfl) (by kernel_rfl) (by kernel_rfl) (fun _ _ _ h => h) (Or.inl ⟨by rfl, ?hy123⟩) (by assumption) ?rest123
  case hy123 => (intro w hSw; go_simp; try with_reducible rfl)
  try simp only [Act.put, List.setIfInBounds_toArray, List.set_cons_zero, List.set_cons_succ]
  refine wpAnyH_take (i := 2) (oi := { dst := some 75, op := _, type := _, pos := _, after := _, guard := _ }) (v := ?v124) rfl (by kernel_rfl) (by kernel_rfl) (by kernel_rfl) (fun _ _ _ h => h) (Or.inl ⟨by rfl, ?hy124⟩) (by assumption) ?rest124
  case hy124 => (intro w hSw; go_simp; try with_reducible rfl)
  try simp only [Act.put, List.setIfInBounds_toArray, List.set_cons_zero, List.set_cons_succ]
  refine wpAnyH_take (i := 3) (oi := { dst := some 76, op := _, type := _, pos := _, after := _, guard := _ }) (v := (.int .i64 2)) rfl (by kernel_rfl) (by kernel_rfl) (by kernel_rfl) (fun _ _ _ h => h) (Or.inl ⟨by rfl, ?hy125⟩) (by assumption) ?rest125
  case hy125 => (intro w hSw; first | (go_simp; done) | (go_simp; simp [*]; done) | (simp [*]; go_simp; done))
  try simp only [Act.put, List.setIfInBounds_toArray, List.set_cons_zero, List.set_cons_succ]
  refine wpAnyH_take (i := 4) (oi := { dst := some 77, op := _, type := _, pos := _, after := _, guard := _ }) (v := (.int .i64 (p2 : Int))) rfl (by kernel_rfl) (by kernel_rfl) (by kernel_rfl) (fun _ _ _ h => h) (Or.inl ⟨by rfl, ?hy126⟩) (by assumption) ?rest126
  case hy126 => (intro w hSw; first | (go_simp; done) | (go_simp; simp [*]; done) | (simp [*]; go_simp; done))
  try simp only [Act.put, List.setIfInBounds_toArray, List.set_cons_zero, List.set_cons_succ]
  refine wpAnyH_take (i := 5) (oi := { dst := some 78, op := _, type := _, pos := _, after := _, guard := _ }) (v := (.slice (some ⟨H, p2, none⟩) lJ cB)) rfl (by kernel_rfl) (by kernel_rfl) (by kernel_rfl) (fun _ _ _ h => h) (Or.inl ⟨by rfl, ?hy127⟩) (by assumption) ?rest127
  case hy127 => (intro w hSw; first | (go_simp; done) | (go_simp; simp [*]; done) | (simp [*]; go_simp; done))
  try simp only [Act.put, List.setIfInBounds_toArray, List.set_cons_zero, List.set_cons_succ]
  refine wpAnyH_take (i := 6) (oi := { dst := some 79, op := _, type := _, pos := _, after := _, guard := _ }) (v := ?v128) rfl (by kernel_rfl) (by kernel_rfl) (by kernel_rfl) (fun _ _ _ h => h) (Or.inl ⟨by rfl, ?hy128⟩) (by assumption) ?rest128
  case hy128 => (intro w hSw; go_simp; try with_reducible rfl)
  try simp only [Act.put, List.setIfInBounds_toArray, List.set_cons_zero, List.set_cons_succ]
  refine wpAnyH_take (i := 7) (oi := { dst := some 80, op := _, type := _, pos := _, after := _, guard := _ }) (v := ?v129) rfl (by kernel_rfl) (by kernel_rfl) (by kernel_rfl) (fun _ _ _ h => h) (Or.inl ⟨by rfl, ?hy129⟩) (by assumption) ?rest129
  case hy129 => (intro w hSw; go_simp; try with_reducible rfl)
  try simp only [Act.put, List.setIfInBounds_toArray, List.set_cons_zero, List.set_cons_succ]
  refine wpAnyH_take (i := 8) (oi := { dst := some 81, op := _, type := _, pos := _, after := _, guard := _ }) (v := (.slice (some ⟨g, p1, none⟩) lJ cJ)) rfl (by kernel_rfl) (by kernel_rfl) (by kernel_rfl) (fun _ _ _ h => h) (Or.inl ⟨by rfl, ?hy130⟩) (by assumption) ?rest130
  case hy130 => (intro w hSw; first | (go_simp; done) | (go_simp; simp [*]; done) | (simp [*]; go_simp; done))
  try simp only [Act.put, List.setIfInBounds_toArray, List.set_cons_zero, List.set_cons_succ]
  refine wpAnyH_ready (rs := [9]) (by kernel_rfl) (by simp) ?_
  refine AllReadyH.cons (o := { dst := some 82, op := _, type := _, pos := _, after := _, guard := _ }) rfl (fun K hK => ?_) AllReadyH.nil
  rw [if_pos (by rfl)]
  refine wp_cp_run (.tmp 78) (.tmp 81) 61 61 rfl _ _ _ rfl rfl C2.out ?_
  refine hK.out _ _ trivial (fun hHeld => ?_)
  try simp only [Act.put, List.setIfInBounds_toArray, List.set_cons_zero, List.set_cons_succ]
  clear hK
  refine wpAnyH_done (by kernel_rfl) ?_ _
  clear hHeld C2
  go_wp2
  go_ret
  exact HP.out
set_option maxRecDepth 100000 in
set_option maxHeartbeats 600000 in
theorem rep_room (w : World) (g n cap vg p : Nat) (xs : List Value) (va vb : Value) (hC : w.ownsRow 0 41 1 (.slice (some ⟨g, 0, none⟩) n cap) n xs) (hv : w.heap[vg]? = some (.cells #[va, vb] 41 (0, 0))) (hvg : vg ≠ g) (hn : n ≤ 2000000) (hp : p + 1 < n) (hr : n + 1 ≤ cap) (h1 : ∀ u ∈ xs, u.oneCell' = true) (ha1 : va.oneCell' = true) (hb1 : vb.oneCell' = true) :
    Calls Try.prog 83 #[.slice (some ⟨g, 0, none⟩) n cap, .int .i64 p, .int .i64 ((p : Int) + 1), .slice (some ⟨vg, 0, none⟩) 2 2] w fun e w' => Repd w g n (rp xs p va vb) e w' := by
  obtain ⟨i0, hi0, hz0, hz1, hz2⟩ := info_parts info_rw
  obtain ⟨cur, hcur, hcc, hcm, hsz, htk, hxl⟩ := own_cur hC
  rw [Nat.mul_one] at hsz htk hxl
  have hcm' := hcm
  unfold maxLen at hcm
  have uT := Try.underlying61
  obtain ⟨q1, hq1⟩ : ∃ q : Int, (p : Int) + 1 = q := ⟨_, rfl⟩
  obtain ⟨p1, hp1⟩ : ∃ p1, p1 = p + 1 := ⟨_, rfl⟩
  have hq1' : q1 = (p1 : Int) := by omega
  rw [hq1]
  subst hq1'
  obtain ⟨n1, hn1⟩ : ∃ n1, n1 = n + 1 := ⟨_, rfl⟩
  obtain ⟨p2, hp2⟩ : ∃ p2, p2 = p + 2 := ⟨_, rfl⟩
  have hs0 : ∃ v, ∀ w, (Instr.slice 61 (.slice (some ⟨g, 0, none⟩) n cap) (some (.int .i64 (p : Int))) (some (.int .i64 (p1 : Int))) none).run Try.prog w = .ok v w :=
    ⟨_, fun w => slice_run w _ _ uT i0 hi0 ⟨g, 0, none⟩ n cap p p1 cap _ _ _ (.inl ⟨rfl, rfl⟩) (.inr ⟨rfl, by omega⟩) (.inr ⟨rfl, by omega⟩)⟩
  obtain ⟨v0, hs0⟩ := hs0
  have hs1 : ∀ w, (Instr.slice 61 (.slice (some ⟨g, 0, none⟩) n cap) none (some (.int .i64 (p : Int))) none).run Try.prog w = .ok (.slice (some ⟨g, 0, none⟩) p cap) w := fun w => by
    rw [slice_run w _ _ uT i0 hi0 ⟨g, 0, none⟩ n cap 0 p cap _ _ _ (.inl ⟨rfl, rfl⟩) (.inr ⟨rfl, by omega⟩) (.inl ⟨rfl, rfl⟩)]
    rw [Nat.zero_mul, add_at, Nat.zero_add, ite_self]; rfl
  have hne : ((p : Int) == (p1 : Int)) = false := beq_eq_false_iff_ne.2 (by omega)
  have hne' : ¬ (p : Int) = (p1 : Int) := by omega
  have hw2 : IntKind.i64.wrap ((p : Int) + 2) = (p2 : Int) := by rw [IntKind.wrap_i64]; omega
  obtain ⟨lJ, hlJ⟩ : ∃ o, o = n - p1 := ⟨_, rfl⟩
  obtain ⟨cJ, hcJ⟩ : ∃ o, o = cap - p1 := ⟨_, rfl⟩
  have hs2 : ∀ w, (Instr.slice 61 (.slice (some ⟨g, 0, none⟩) n cap) (some (.int .i64 (p1 : Int))) none none).run Try.prog w = .ok (.slice (some ⟨g, p1, none⟩) lJ cJ) w := fun w => by
    rw [slice_run w _ _ uT i0 hi0 ⟨g, 0, none⟩ n cap p1 n cap _ _ _ (.inl ⟨rfl, rfl⟩) (.inl ⟨rfl, rfl, rfl⟩) (.inr ⟨rfl, by omega⟩), if_neg (by omega), hz1, add_at, Nat.zero_add, Nat.mul_one, hlJ, hcJ]
  have hw3 : IntKind.i64.wrap ((p2 : Int) + (lJ : Int)) = (n1 : Int) := by rw [IntKind.wrap_i64]; omega
  have he : ((p1 : Int) == (n : Int)) = false := beq_eq_false_iff_ne.2 (by omega)
  have he' : ¬ (p1 : Int) = (n : Int) := by omega
  have hl2 : (xs.drop p1).length = lJ := by rw [List.length_drop, hxl]; omega
  obtain ⟨lP, hlP⟩ : ∃ o, o = n1 - p := ⟨_, rfl⟩
  obtain ⟨cA, hcA⟩ : ∃ o, o = cap - p := ⟨_, rfl⟩
  obtain ⟨cB, hcB⟩ : ∃ o, o = cap - p2 := ⟨_, rfl⟩
  have hs3 : ∀ w, (Instr.slice 61 (.slice (some ⟨g, 0, none⟩) n cap) none (some (.int .i64 (n1 : Int))) none).run Try.prog w = .ok (.slice (some ⟨g, 0, none⟩) n1 cap) w := fun w => by
    rw [slice_run w _ _ uT i0 hi0 ⟨g, 0, none⟩ n cap 0 n1 cap _ _ _ (.inl ⟨rfl, rfl⟩) (.inr ⟨rfl, by omega⟩) (.inl ⟨rfl, rfl⟩)]
    rw [Nat.zero_mul, add_at, Nat.zero_add, ite_self]; rfl
  have hs4 : ∀ w, (Instr.slice 61 (.slice (some ⟨g, 0, none⟩) n1 cap) (some (.int .i64 (p2 : Int))) none none).run Try.prog w = .ok (.slice (some ⟨g, p2, none⟩) lJ cB) w := fun w => by
    rw [slice_run w _ _ uT i0 hi0 ⟨g, 0, none⟩ n1 cap p2 n1 cap _ _ _ (.inl ⟨rfl, rfl⟩) (.inl ⟨rfl, rfl, rfl⟩) (.inr ⟨rfl, by omega⟩), if_neg (by omega), hz1, add_at, Nat.zero_add, Nat.mul_one, show n1 - p2 = lJ by omega, hcB]
  have hs5 : ∀ w, (Instr.slice 61 (.slice (some ⟨g, 0, none⟩) n1 cap) (some (.int .i64 (p : Int))) none none).run Try.prog w = .ok (.slice (some ⟨g, p, none⟩) lP cA) w := fun w => by
    rw [slice_run w _ _ uT i0 hi0 ⟨g, 0, none⟩ n1 cap p n1 cap _ _ _ (.inl ⟨rfl, rfl⟩) (.inl ⟨rfl, rfl, rfl⟩) (.inr ⟨rfl, by omega⟩), if_neg (by omega), hz1, add_at, Nat.zero_add, Nat.mul_one, hlP, hcA]
  have hov : (callFunc 87 #[.slice (some ⟨g, p2, none⟩) lJ cB, .slice (some ⟨vg, 0, none⟩) 2 2]).run Try.prog w.drew = .ok (.value (.bool false)) w.drew := by
    rw [run_callFunc_extern Try.func87 (by kernel_rfl) (by kernel_rfl) (by kernel_rfl) (e := Extern.SlicesOverlaps.overlaps #[61, 61] #[4]) (by kernel_rfl),
      Lib.run_overlaps_apart w.drew 61 4 41 uT 1 (fun w => by rw [size_run w _ i0 hi0, hz1]) ⟨g, p2, none⟩ ⟨vg, 0, none⟩ lJ cB 2 2 (fun e => hvg e.symm) 41 41 cap 2 (by show w.shape? g = _; simp [World.shape?, hcur, hsz]) (by show w.shape? vg = _; simp [World.shape?, hv]) (by decide) (by show w.frozen? _ = _; simp [World.frozen?, hcur]) (by show w.frozen? _ = _; simp [World.frozen?, hcur])]
    rfl
  have hcp1 := copy_to (P := Try.prog) w.drew.drew 61 41 3 41 uT i0 hi0 g p2 lJ lJ lJ cB cJ ⟨g, p1, none⟩ cur (xs.drop p1) hcur (Nat.min_self _) (by rw [hz1, Nat.mul_one]; exact hl2) (row_cells (w := w.drew.drew) hcur htk) (by rw [hz1, hsz]; omega) (fun u hu => h1 u (List.mem_of_mem_drop hu))
  rw [hz1] at hcp1
  obtain ⟨L1, hL1⟩ : ∃ L1, L1 = cur.toList.take p2 ++ xs.drop p1 ++ cur.toList.drop (p2 + lJ * 1) := ⟨_, rfl⟩
  rw [← hL1] at hcp1
  have hL1l : L1.length = cap := by rw [hL1]; simp only [List.length_append, List.length_take, hl2, List.length_drop, Array.length_toList, hsz]; omega
  obtain ⟨W1, hW1⟩ : ∃ W1, W1 = w.drew.drew.setRow g L1.toArray := ⟨_, rfl⟩
  rw [← hW1] at hcp1
  have hg1 : W1.heap[g]? = some (.cells L1.toArray 41 (0, 0)) := by rw [hW1]; exact setRow_heap w.drew.drew g cur _ _ _ hcur
  have hv1 : W1.heap[vg]? = some (.cells #[va, vb] 41 (0, 0)) := by rw [hW1, setRow_other w.drew.drew g vg _ hvg]; exact hv
  have hcp2 := copy_to (P := Try.prog) W1 61 41 3 41 uT i0 hi0 g p lP 2 2 cA 2 ⟨vg, 0, none⟩ L1.toArray [va, vb] hg1 (Nat.min_eq_left (by omega)) (by rw [hz1]; rfl) (duo_cell hv1) (by rw [hz1]; simp [hL1l]; omega) (two_one ha1 hb1)
  rw [hz1] at hcp2
  have hfin : ((L1.take p ++ [va, vb] ++ L1.drop (p + 2 * 1)).take n1) = xs.take p ++ [va, vb] ++ xs.drop p1 := by
    have := row_in (vs := [va, vb]) (c := p2) (N := n1) (M := 0) htk (by rw [Array.length_toList, hsz]; omega) (a := p) (b := p1) (by omega) (by omega) (by simp; omega) (by rw [Array.length_toList, hsz]; omega) (by omega)
    rw [show p2 + lJ * 1 = n1 by omega] at hL1
    rw [← hL1] at this
    rw [show p + 2 * 1 = p2 by omega]
    exact this
  obtain ⟨W2, hW2⟩ : ∃ W2, W2 = W1.setRow g (L1.toArray.toList.take p ++ [va, vb] ++ L1.toArray.toList.drop (p + 2 * 1)).toArray := ⟨_, rfl⟩
  rw [← hW2] at hcp2
  have hO : Only g w W2 := by
    rw [hW2, hW1]
    exact (only_row (w := w.drew.drew) (g := g) _).trans (only_row _)
  have HP : Kept (Repd w g n (rp xs p va vb) (.returned (.slice (some ⟨g, 0, none⟩) n1 cap)) W2) := by
    unfold rp
    rw [← hp1]
    subst hn1
    refine ⟨g, cap, rfl, own_of (by rw [hW2]; exact setRow_heap W1 g _ _ _ _ hg1) hr hcm' ?_ (by simpa using hfin) ?_, .inl rfl, ⟨hO.1.1, hO.1.2.1, hO.1.2.2, Nat.le_of_eq hO.2.1.symm, fun k _ hk => hO.2.2 k (fun e => hk (by rw [e]))⟩⟩
    · simp [List.length_take, List.length_drop, hL1l]; omega
    · simp [List.length_take, List.length_drop, hxl]; omega
  have C1 := keep hcp1
  have C2 := keep hcp2
  have hgt : ¬ (cap : Int) < (n1 : Int) := by omega
  have hgt' : decide ((cap : Int) < (n1 : Int)) = false := decide_eq_false hgt
  have hle : ¬ (p2 : Int) ≤ (p1 : Int) := by omega
  have hle' : decide ((p2 : Int) ≤ (p1 : Int)) = false := decide_eq_false hle
  clear hC hv hn hcur hcc hcm hcm' hsz htk hxl hl2 hcp1 hcp2 hL1 hL1l hW1 hW2 hg1 hv1 hfin hO hp hr h1 hvg hn1 hp1 hp2 hq1 hlP hlJ hcJ hcA hcB ha1 hb1
  go_enter Try.func83, Try.ntmps83
  go_wp2_with fail
  refine wp_region_held_drew (S := fun _ => True) (by kernel_rfl) trivial (fun hHeld => ?_)
  refine wpAnyH_take (i := 0) (oi := { dst := some 45, op := _, type := _, pos := _, after := _, guard := _ }) (v := ?v131) rfl (by kernel_rfl) (by kernel_rfl) (by kernel_rfl) (fun _ _ _ h => h) (Or.inl ⟨by rfl, ?hy131⟩) (by assumption) ?rest131
  case hy131 => (intro w hSw; go_simp; try with_reducible rfl)
  try simp only [Act.put, List.setIfInBounds_toArray, List.set_cons_zero, List.set_cons_succ]
  refine wpAnyH_take (i := 1) (oi := { dst := some 46, op := _, type := _, pos := _, after := _, guard := _ }) (v := ?v132) rfl (by kernel_rfl) (by kernel_rfl) (by kernel_rfl) (fun _ _ _ h => h) (Or.inl ⟨by rfl, ?hy132⟩) (by assumption) ?rest132
  case hy132 => (intro w hSw; go_simp; try with_reducible rfl)
  try simp only [Act.put, List.setIfInBounds_toArray, List.set_cons_zero, List.set_cons_succ]
  refine wpAnyH_take (i := 2) (oi := { dst := some 47, op := _, type := _, pos := _, after := _, guard := _ }) (v := (.slice (some ⟨g, 0, none⟩) p cap)) rfl (by kernel_rfl) (by kernel_rfl) (by kernel_rfl) (fun _ _ _ h => h) (Or.inl ⟨by rfl, ?hy133⟩) (by assumption) ?rest133
  case hy133 => (intro w hSw; first | (go_simp; done) | (go_simp; simp [*]; done) | (simp [*]; go_simp; done))
  try simp only [Act.put, List.setIfInBounds_toArray, List.set_cons_zero, List.set_cons_succ]
  refine wpAnyH_take (i := 3) (oi := { dst := some 48, op := _, type := _, pos := _, after := _, guard := _ }) (v := (.int .i64 (p : Int))) rfl (by kernel_rfl) (by kernel_rfl) (by kernel_rfl) (fun _ _ _ h => h) (Or.inl ⟨by rfl, ?hy134⟩) (by assumption) ?rest134
  case hy134 => (intro w hSw; first | (go_simp; done) | (go_simp; simp [*]; done) | (simp [*]; go_simp; done))
  try simp only [Act.put, List.setIfInBounds_toArray, List.set_cons_zero, List.set_cons_succ]
  refine wpAnyH_take (i := 4) (oi := { dst := some 49, op := _, type := _, pos := _, after := _, guard := _ }) (v := ?v135) rfl (by kernel_rfl) (by kernel_rfl) (by kernel_rfl) (fun _ _ _ h => h) (Or.inl ⟨by rfl, ?hy135⟩) (by assumption) ?rest135
  case hy135 => (intro w hSw; go_simp; try with_reducible rfl)
  try simp only [Act.put, List.setIfInBounds_toArray, List.set_cons_zero, List.set_cons_succ]
  refine wpAnyH_take (i := 5) (oi := { dst := some 50, op := _, type := _, pos := _, after := _, guard := _ }) (v := (.int .i64 2)) rfl (by kernel_rfl) (by kernel_rfl) (by kernel_rfl) (fun _ _ _ h => h) (Or.inl ⟨by rfl, ?hy136⟩) (by assumption) ?rest136
  case hy136 => (intro w hSw; first | (go_simp; done) | (go_simp; simp [*]; done) | (simp [*]; go_simp; done))
  try simp only [Act.put, List.setIfInBounds_toArray, List.set_cons_zero, List.set_cons_succ]
  refine wpAnyH_take (i := 6) (oi := { dst := some 51, op := _, type := _, pos := _, after := _, guard := _ }) (v := (.int .i64 (p2 : Int))) rfl (by kernel_rfl) (by kernel_rfl) (by kernel_rfl) (fun _ _ _ h => h) (Or.inl ⟨by rfl, ?hy137⟩) (by assumption) ?rest137
  case hy137 => (intro w hSw; first | (go_simp; done) | (go_simp; simp [*]; done) | (simp [*]; go_simp; done))
  try simp only [Act.put, List.setIfInBounds_toArray, List.set_cons_zero, List.set_cons_succ]
  refine wpAnyH_take (i := 7) (oi := { dst := some 52, op := _, type := _, pos := _, after := _, guard := _ }) (v := ?v138) rfl (by kernel_rfl) (by kernel_rfl) (by kernel_rfl) (fun _ _ _ h => h) (Or.inl ⟨by rfl, ?hy138⟩) (by assumption) ?rest138
  case hy138 => (intro w hSw; go_simp; try with_reducible rfl)
  try simp only [Act.put, List.setIfInBounds_toArray, List.set_cons_zero, List.set_cons_succ]
  refine wpAnyH_take (i := 8) (oi := { dst := some 53, op := _, type := _, pos := _, after := _, guard := _ }) (v := ?v139) rfl (by kernel_rfl) (by kernel_rfl) (by kernel_rfl) (fun _ _ _ h => h) (Or.inl ⟨by rfl, ?hy139⟩) (by assumption) ?rest139
  case hy139 => (intro w hSw; go_simp; try with_reducible rfl)
  try simp only [Act.put, List.setIfInBounds_toArray, List.set_cons_zero, List.set_cons_succ]
  refine wpAnyH_take (i := 9) (oi := { dst := some 54, op := _, type := _, pos := _, after := _, guard := _ }) (v := (.slice (some ⟨g, p1, none⟩) lJ cJ)) rfl (by kernel_rfl) (by kernel_rfl) (by kernel_rfl) (fun _ _ _ h => h) (Or.inl ⟨by rfl, ?hy140⟩) (by assumption) ?rest140
  case hy140 => (intro w hSw; first | (go_simp; done) | (go_simp; simp [*]; done) | (simp [*]; go_simp; done))
  try simp only [Act.put, List.setIfInBounds_toArray, List.set_cons_zero, List.set_cons_succ]
  refine wpAnyH_take (i := 10) (oi := { dst := some 55, op := _, type := _, pos := _, after := _, guard := _ }) (v := (.int .i64 (lJ : Int))) rfl (by kernel_rfl) (by kernel_rfl) (by kernel_rfl) (fun _ _ _ h => h) (Or.inl ⟨by rfl, ?hy141⟩) (by assumption) ?rest141
  case hy141 => (intro w hSw; first | (go_simp; done) | (go_simp; simp [*]; done) | (simp [*]; go_simp; done))
  try simp only [Act.put, List.setIfInBounds_toArray, List.set_cons_zero, List.set_cons_succ]
  refine wpAnyH_take (i := 11) (oi := { dst := some 56, op := _, type := _, pos := _, after := _, guard := _ }) (v := (.int .i64 (n1 : Int))) rfl (by kernel_rfl) (by kernel_rfl) (by kernel_rfl) (fun _ _ _ h => h) (Or.inl ⟨by rfl, ?hy142⟩) (by assumption) ?rest142
  case hy142 => (intro w hSw; first | (go_simp; done) | (go_simp; simp [*]; done) | (simp [*]; go_simp; done))
  try simp only [Act.put, List.setIfInBounds_toArray, List.set_cons_zero, List.set_cons_succ]
  refine wpAnyH_take (i := 12) (oi := { dst := some 10, op := _, type := _, pos := _, after := _, guard := _ }) (v := ?v143) rfl (by kernel_rfl) (by kernel_rfl) (by kernel_rfl) (fun _ _ _ h => h) (Or.inl ⟨by rfl, ?hy143⟩) (by assumption) ?rest143
  case hy143 => (intro w hSw; go_simp; try with_reducible rfl)
  try simp only [Act.put, List.setIfInBounds_toArray, List.set_cons_zero, List.set_cons_succ]
  refine wpAnyH_done (by kernel_rfl) ?_ _
  clear hHeld
  go_wp2_with (simp only [hov])
  refine wp_region_held_drew (S := fun _ => True) (by kernel_rfl) trivial (fun hHeld => ?_)
  refine wpAnyH_take (i := 0) (oi := { dst := some 121, op := _, type := _, pos := _, after := _, guard := _ }) (v := ?v144) rfl (by kernel_rfl) (by kernel_rfl) (by kernel_rfl) (fun _ _ _ h => h) (Or.inl ⟨by rfl, ?hy144⟩) (by assumption) ?rest144
  case hy144 => (intro w hSw; go_simp; try with_reducible rfl)
  try simp only [Act.put, List.setIfInBounds_toArray, List.set_cons_zero, List.set_cons_succ]
  refine wpAnyH_take (i := 1) (oi := { dst := some 122, op := _, type := _, pos := _, after := _, guard := _ }) (v := ?v145) rfl (by kernel_rfl) (by kernel_rfl) (by kernel_rfl) (fun _ _ _ h => h) (Or.inl ⟨by rfl, ?hy145⟩) (by assumption) ?rest145
  case hy145 => (intro w hSw; go_simp; try with_reducible rfl)
  try simp only [Act.put, List.setIfInBounds_toArray, List.set_cons_zero, List.set_cons_succ]
  refine wpAnyH_take (i := 2) (oi := { dst := some 123, op := _, type := _, pos := _, after := _, guard := _ }) (v := ?v146) rfl (by kernel_rfl) (by kernel_rfl) (by kernel_rfl) (fun _ _ _ h => h) (Or.inl ⟨by rfl, ?hy146⟩) (by assumption) ?rest146
  case hy146 => (intro w hSw; go_simp; try with_reducible rfl)
  try simp only [Act.put, List.setIfInBounds_toArray, List.set_cons_zero, List.set_cons_succ]
  refine wpAnyH_take (i := 3) (oi := { dst := some 124, op := _, type := _, pos := _, after := _, guard := _ }) (v := (.int .i64 2)) rfl (by kernel_rfl) (by kernel_rfl) (by kernel_rfl) (fun _ _ _ h => h) (Or.inl ⟨by rfl, ?hy147⟩) (by assumption) ?rest147
  case hy147 => (intro w hSw; first | (go_simp; done) | (go_simp; simp [*]; done) | (simp [*]; go_simp; done))
  try simp only [Act.put, List.setIfInBounds_toArray, List.set_cons_zero, List.set_cons_succ]
  refine wpAnyH_take (i := 4) (oi := { dst := some 125, op := _, type := _, pos := _, after := _, guard := _ }) (v := (.int .i64 (p2 : Int))) rfl (by kernel_rfl) (by kernel_rfl) (by kernel_rfl) (fun _ _ _ h => h) (Or.inl ⟨by rfl, ?hy148⟩) (by assumption) ?rest148
  case hy148 => (intro w hSw; first | (go_simp; done) | (go_simp; simp [*]; done) | (simp [*]; go_simp; done))
  try simp only [Act.put, List.setIfInBounds_toArray, List.set_cons_zero, List.set_cons_succ]
  refine wpAnyH_take (i := 5) (oi := { dst := some 126, op := _, type := _, pos := _, after := _, guard := _ }) (v := (.slice (some ⟨g, p2, none⟩) lJ cB)) rfl (by kernel_rfl) (by kernel_rfl) (by kernel_rfl) (fun _ _ _ h => h) (Or.inl ⟨by rfl, ?hy149⟩) (by assumption) ?rest149
  case hy149 => (intro w hSw; first | (go_simp; done) | (go_simp; simp [*]; done) | (simp [*]; go_simp; done))
  try simp only [Act.put, List.setIfInBounds_toArray, List.set_cons_zero, List.set_cons_succ]
  refine wpAnyH_take (i := 6) (oi := { dst := some 127, op := _, type := _, pos := _, after := _, guard := _ }) (v := ?v150) rfl (by kernel_rfl) (by kernel_rfl) (by kernel_rfl) (fun _ _ _ h => h) (Or.inl ⟨by rfl, ?hy150⟩) (by assumption) ?rest150
  case hy150 => (intro w hSw; go_simp; try with_reducible rfl)
  try simp only [Act.put, List.setIfInBounds_toArray, List.set_cons_zero, List.set_cons_succ]
  refine wpAnyH_take (i := 7) (oi := { dst := some 128, op := _, type := _, pos := _, after := _, guard := _ }) (v := ?v151) rfl (by kernel_rfl) (by kernel_rfl) (by kernel_rfl) (fun _ _ _ h => h) (Or.inl ⟨by rfl, ?hy151⟩) (by assumption) ?rest151
  case hy151 => (intro w hSw; go_simp; try with_reducible rfl)
  try simp only [Act.put, List.setIfInBounds_toArray, List.set_cons_zero, List.set_cons_succ]
  refine wpAnyH_take (i := 8) (oi := { dst := some 129, op := _, type := _, pos := _, after := _, guard := _ }) (v := (.slice (some ⟨g, p1, none⟩) lJ cJ)) rfl (by kernel_rfl) (by kernel_rfl) (by kernel_rfl) (fun _ _ _ h => h) (Or.inl ⟨by rfl, ?hy152⟩) (by assumption) ?rest152
  case hy152 => (intro w hSw; first | (go_simp; done) | (go_simp; simp [*]; done) | (simp [*]; go_simp; done))
  try simp only [Act.put, List.setIfInBounds_toArray, List.set_cons_zero, List.set_cons_succ]
  refine wpAnyH_ready (rs := [9]) (by kernel_rfl) (by simp) ?_
  refine AllReadyH.cons (o := { dst := some 130, op := _, type := _, pos := _, after := _, guard := _ }) rfl (fun K hK => ?_) AllReadyH.nil
  rw [if_pos (by rfl)]
  refine wp_cp_run (.tmp 126) (.tmp 129) 61 61 rfl _ _ _ rfl rfl C1.out ?_
  refine hK.out _ _ trivial (fun hHeld => ?_)
  try simp only [Act.put, List.setIfInBounds_toArray, List.set_cons_zero, List.set_cons_succ]
  clear hK
  refine wpAnyH_done (by kernel_rfl) ?_ _
  clear hHeld C1
  have c2 := C2.out
  clear C2
  go_wp2
  go_ret
  exact HP.out
theorem rep_any (w : World) (g n cap vg p : Nat) (xs : List Value) (va vb : Value) (hC : w.ownsRow 0 41 1 (.slice (some ⟨g, 0, none⟩) n cap) n xs) (hv : w.heap[vg]? = some (.cells #[va, vb] 41 (0, 0))) (hvg : vg ≠ g) (hn : n ≤ 2000000) (hp : p < n) (h1 : ∀ u ∈ xs, u.oneCell' = true) (ha1 : va.oneCell' = true) (hb1 : vb.oneCell' = true) :
    Calls Try.prog 83 #[.slice (some ⟨g, 0, none⟩) n cap, .int .i64 p, .int .i64 ((p : Int) + 1), .slice (some ⟨vg, 0, none⟩) 2 2] w fun e w' => Repd w g n (rp xs p va vb) e w' := by
  rcases Nat.lt_or_eq_of_le (show p + 1 ≤ n from hp) with h | h
  · rcases Nat.lt_or_ge cap (n + 1) with h' | h'
    · exact rep_grow w g n cap vg p xs va vb hC hv hvg hn h h' h1 ha1 hb1
    · exact rep_room w g n cap vg p xs va vb hC hv hvg hn h h' h1 ha1 hb1
  · exact rep_end w g n cap vg p xs va vb hC hv hvg hn h h1 ha1 hb1
end Go.Proofs.Ytapehjlpiobeaaa
