/-
  Contracts over this program: slices.Insert of one candidate.
-/
import Derived.Test.YthmmblohfjmbcaaGreatVPlDel
import Derived.Lib.Overlaps
import Derived.Lib.AppendZerosOnto
namespace Go.Proofs.YthmmblohfjmbcaaGreat.DV
open Go.RowKit Go.Shelf
set_option linter.unusedVariables false
set_option linter.unusedSimpArgs false
/-- the cells of a member -/
def mc (k : ByteArray) (x : Int) : List Value := [.string k, .int .u64 x]
theorem mc_one {k : ByteArray} {x : Int} : ∀ u ∈ mc k x, u.oneCell' = true := by
  intro u hu
  simp only [mc, List.mem_cons, List.not_mem_nil, or_false] at hu
  rcases hu with rfl | rfl <;> rfl
theorem mc_cell {w : World} {vb : Nat} {k : ByteArray} {x : Int} {t : TypeId} (h : w.heap[vb]? = some (.cells #[.string k, .int .u64 x] t (0, 0))) : ∀ j u, (mc k x)[j]? = some u → w.cell? ((⟨vb, 0, none⟩ : Addr).add j) = some u := by
  intro j u hu
  rw [add_at, Nat.zero_add, cell_of_row w vb j _ _ _ h]
  have : (#[Value.string k, Value.int .u64 x] : Array Value)[j]? = (mc k x)[j]? := by simp [mc]
  rw [this, hu]
theorem far_cell {w w' : World} {g : Nat} {cs : List Value} {o : Nat} (h : w'.heap[g]? = w.heap[g]?) (hc : ∀ j u, cs[j]? = some u → w.cell? ((⟨g, o, none⟩ : Addr).add j) = some u) : ∀ j u, cs[j]? = some u → w'.cell? ((⟨g, o, none⟩ : Addr).add j) = some u := by
  intro j u hu
  have := hc j u hu
  rw [add_at] at this ⊢
  rw [World.cell?_of_block (w := w) (a := ⟨g, o + j, none⟩) h]
  exact this
/-- what stands in a row, where it stands -/
theorem row_cells {w : World} {g : Nat} {cur : Array Value} {t : TypeId} {xs : List Value} {n a : Nat} (hcur : w.heap[g]? = some (.cells cur t (0, 0))) (htk : cur.toList.take n = xs) : ∀ j u, (xs.drop a)[j]? = some u → w.cell? ((⟨g, a, none⟩ : Addr).add j) = some u := by
  intro j u hu
  rw [add_at, cell_of_row w g _ cur _ _ hcur]
  rw [List.getElem?_drop, ← htk, List.getElem?_take] at hu
  split at hu
  · simpa using hu
  · cases hu
def Insd (w : World) (g n : Nat) (ys : List Value) (e : Ending) (w' : World) : Prop :=
  ∃ g' cap', e = .returned (.slice (some ⟨g', 0, none⟩) (n + 1) cap') ∧ w'.ownsRow 0 65 2 (.slice (some ⟨g', 0, none⟩) (n + 1) cap') (n + 1) ys ∧ (g' = g ∨ w.heap.size ≤ g') ∧ w.grownBy w' (some g)
set_option maxRecDepth 100000 in
set_option maxHeartbeats 1000000 in
theorem insM_end (w : World) (g n cap vb : Nat) (xs : List Value) (k : ByteArray) (x : Int) (hC : w.ownsRow 0 65 2 (.slice (some ⟨g, 0, none⟩) n cap) n xs) (hv : w.heap[vb]? = some (.cells #[.string k, .int .u64 x] 65 (0, 0))) (hn : n ≤ 100000) :
    Calls Tryz.prog 90 #[.slice (some ⟨g, 0, none⟩) n cap, .int .i64 n, .slice (some ⟨vb, 0, none⟩) 1 1] w fun e w' => Insd w g n (xs ++ mc k x) e w' := by
  obtain ⟨i0, hi0, hz0, hz1, hz2⟩ := info_parts info_rk
  obtain ⟨cur, hcur, hcc, hcm, hsz, htk, hxl⟩ := own_cur hC
  have uT := Tryz.underlying48
  have hs0 : ∃ v, ∀ w, (Instr.slice 48 (.slice (some ⟨g, 0, none⟩) n cap) (some (.int .i64 (n : Int))) none none).run Tryz.prog w = .ok v w :=
    ⟨_, fun w => slice_run w _ _ uT i0 hi0 ⟨g, 0, none⟩ n cap n n cap _ _ _ (.inl ⟨rfl, rfl⟩) (.inl ⟨rfl, rfl, rfl⟩) (.inr ⟨rfl, by omega⟩)⟩
  obtain ⟨v0, hs0⟩ := hs0
  obtain ⟨g', cap', W, r1, r2, r3, r4, r5⟩ := run_append_lies (P := Tryz.prog) w 48 48 0 65 i0 _ 2 24 uT hi0 hz0 hz1 hz2 (by simp [Value.cells]) (by decide) _ n xs hC ⟨vb, 0, none⟩ 1 1 (mc k x) rfl (mc_cell hv) mc_one (by decide) (by unfold maxLen; omega) (by omega) (Nat.zero_le _) w.heap.size rfl
  have R1 := keep r1
  have HP : Kept (Insd w g n (xs ++ mc k x) (.returned (.slice (some ⟨g', 0, none⟩) (n + 1) cap')) W) :=
    ⟨g', cap', rfl, r2, r4.imp (fun e => (Option.some.inj e).symm) (fun e => Nat.le_of_eq e.symm), r3⟩
  clear hC hv hn hcur hcc hcm hsz htk hxl r1 r2 r3 r4 r5
  go_enter Tryz.func90, Tryz.ntmps90
  go_wp2_with (at_builtin; refine wpList_app_run rfl _ _ _ _ rfl _ _ _ rfl rfl R1.out ?_)
  go_ret
  exact HP.out
set_option maxRecDepth 100000 in
set_option maxHeartbeats 1000000 in
theorem insM_room (w : World) (g n cap vb p : Nat) (xs : List Value) (k : ByteArray) (x : Int) (hC : w.ownsRow 0 65 2 (.slice (some ⟨g, 0, none⟩) n cap) n xs) (hv : w.heap[vb]? = some (.cells #[.string k, .int .u64 x] 65 (0, 0))) (hvg : vb ≠ g) (hn : n ≤ 100000) (hp : p < n) (hr : n + 1 ≤ cap) (h1 : ∀ u ∈ xs, u.oneCell' = true) :
    Calls Tryz.prog 90 #[.slice (some ⟨g, 0, none⟩) n cap, .int .i64 p, .slice (some ⟨vb, 0, none⟩) 1 1] w fun e w' => Insd w g n (xs.take (p * 2) ++ mc k x ++ xs.drop (p * 2)) e w' := by
  obtain ⟨i0, hi0, hz0, hz1, hz2⟩ := info_parts info_rk
  obtain ⟨cur, hcur, hcc, hcm, hsz, htk, hxl⟩ := own_cur hC
  unfold maxLen at hcm
  have uT := Tryz.underlying48
  obtain ⟨n1, hn1⟩ : ∃ n1, n1 = n + 1 := ⟨_, rfl⟩
  obtain ⟨p1, hp1⟩ : ∃ p1, p1 = p + 1 := ⟨_, rfl⟩
  have hw1 : IntKind.i64.wrap ((n : Int) + 1) = (n1 : Int) := by rw [IntKind.wrap_i64]; omega
  have hw2 : IntKind.i64.wrap ((p : Int) + 1) = (p1 : Int) := by rw [IntKind.wrap_i64]; omega
  have hs0 : ∃ v, ∀ w, (Instr.slice 48 (.slice (some ⟨g, 0, none⟩) n cap) (some (.int .i64 (p : Int))) none none).run Tryz.prog w = .ok v w :=
    ⟨_, fun w => slice_run w _ _ uT i0 hi0 ⟨g, 0, none⟩ n cap p n cap _ _ _ (.inl ⟨rfl, rfl⟩) (.inl ⟨rfl, rfl, rfl⟩) (.inr ⟨rfl, by omega⟩)⟩
  obtain ⟨v0, hs0⟩ := hs0
  have hs1 : ∀ w, (Instr.slice 48 (.slice (some ⟨g, 0, none⟩) n cap) none (some (.int .i64 (n1 : Int))) none).run Tryz.prog w = .ok (.slice (some ⟨g, 0, none⟩) n1 cap) w := fun w => by
    rw [slice_run w _ _ uT i0 hi0 ⟨g, 0, none⟩ n cap 0 n1 cap _ _ _ (.inl ⟨rfl, rfl⟩) (.inr ⟨rfl, by omega⟩) (.inl ⟨rfl, rfl⟩)]
    rw [Nat.zero_mul, add_at, Nat.zero_add, ite_self]; rfl
  obtain ⟨oP, hoP⟩ : ∃ o, o = p * 2 := ⟨_, rfl⟩
  obtain ⟨oQ, hoQ⟩ : ∃ o, o = p1 * 2 := ⟨_, rfl⟩
  obtain ⟨lP, hlP⟩ : ∃ o, o = n1 - p := ⟨_, rfl⟩
  obtain ⟨lQ, hlQ⟩ : ∃ o, o = n1 - p1 := ⟨_, rfl⟩
  obtain ⟨cP, hcP⟩ : ∃ o, o = cap - p := ⟨_, rfl⟩
  obtain ⟨cQ, hcQ⟩ : ∃ o, o = cap - p1 := ⟨_, rfl⟩
  have hs2 : ∀ w, (Instr.slice 48 (.slice (some ⟨g, 0, none⟩) n1 cap) (some (.int .i64 (p1 : Int))) none none).run Tryz.prog w = .ok (.slice (some ⟨g, oQ, none⟩) lQ cQ) w := fun w => by
    rw [slice_run w _ _ uT i0 hi0 ⟨g, 0, none⟩ n1 cap p1 n1 cap _ _ _ (.inl ⟨rfl, rfl⟩) (.inl ⟨rfl, rfl, rfl⟩) (.inr ⟨rfl, by omega⟩), if_neg (by omega), hz1, add_at, Nat.zero_add, hoQ, hlQ, hcQ]
  have hs3 : ∀ w, (Instr.slice 48 (.slice (some ⟨g, 0, none⟩) n1 cap) (some (.int .i64 (p : Int))) none none).run Tryz.prog w = .ok (.slice (some ⟨g, oP, none⟩) lP cP) w := fun w => by
    rw [slice_run w _ _ uT i0 hi0 ⟨g, 0, none⟩ n1 cap p n1 cap _ _ _ (.inl ⟨rfl, rfl⟩) (.inl ⟨rfl, rfl, rfl⟩) (.inr ⟨rfl, by omega⟩), if_neg (by omega), hz1, add_at, Nat.zero_add, hoP, hlP, hcP]
  have hov : (callFunc 109 #[.slice (some ⟨vb, 0, none⟩) 1 1, .slice (some ⟨g, oQ, none⟩) lQ cQ]).run Tryz.prog w = .ok (.value (.bool false)) w := by
    rw [run_callFunc_extern Tryz.func109 (by kernel_rfl) (by kernel_rfl) (by kernel_rfl) (e := Extern.SlicesOverlaps.overlaps #[48, 48] #[4]) (by kernel_rfl),
      Lib.run_overlaps_apart w 48 4 65 uT 2 (fun w => by rw [size_run w _ i0 hi0, hz1]) ⟨vb, 0, none⟩ ⟨g, oQ, none⟩ 1 1 lQ cQ hvg 65 65 2 (cap * 2) (by simp [World.shape?, hv]) (by simp [World.shape?, hcur, hsz]) (by omega) (by simp [World.frozen?, hv]) (by simp [World.frozen?, hv])]
    rfl
  have hl2 : (xs.drop (p * 2)).length = lQ * 2 := by rw [List.length_drop, hxl]; omega
  have hcp1 := copy_to (P := Tryz.prog) w.drew 48 65 3 65 uT i0 hi0 g oQ lQ lP lQ cQ cP ⟨g, oP, none⟩ cur (xs.drop (p * 2)) hcur (Nat.min_eq_right (by omega)) (by rw [hz1]; exact hl2) (by rw [hoP]; exact row_cells (w := w.drew) hcur htk) (by rw [hz1, hsz]; omega) (fun u hu => h1 u (List.mem_of_mem_drop hu))
  rw [hz1] at hcp1
  obtain ⟨L1, hL1⟩ : ∃ L1, L1 = cur.toList.take oQ ++ xs.drop (p * 2) ++ cur.toList.drop (oQ + lQ * 2) := ⟨_, rfl⟩
  rw [← hL1] at hcp1
  have hL1l : L1.length = cap * 2 := by rw [hL1]; simp only [List.length_append, List.length_take, hl2, List.length_drop, Array.length_toList, hsz]; omega
  obtain ⟨W1, hW1⟩ : ∃ W1, W1 = w.drew.setRow g L1.toArray := ⟨_, rfl⟩
  rw [← hW1] at hcp1
  have hg1 : W1.heap[g]? = some (.cells L1.toArray 65 (0, 0)) := by rw [hW1]; exact setRow_heap w.drew g cur _ _ _ hcur
  have hv1 : W1.heap[vb]? = some (.cells #[.string k, .int .u64 x] 65 (0, 0)) := by rw [hW1, setRow_other w.drew g vb _ hvg]; exact hv
  have hcp2 := copy_to (P := Tryz.prog) W1 48 65 3 65 uT i0 hi0 g oP lP 1 1 cP 1 ⟨vb, 0, none⟩ L1.toArray (mc k x) hg1 (Nat.min_eq_left (by omega)) (by rw [hz1]; rfl) (mc_cell hv1) (by rw [hz1]; simp [hL1l]; omega) mc_one
  rw [hz1] at hcp2
  have hfin : ((L1.take oP ++ mc k x ++ L1.drop (oP + 1 * 2)).take (n1 * 2)) = xs.take (p * 2) ++ mc k x ++ xs.drop (p * 2) := by
    have := row_in (vs := mc k x) (c := oQ) (N := n1 * 2) (M := 0) htk (by rw [Array.length_toList, hsz]; omega) (a := p * 2) (b := p * 2) (Nat.le_refl _) (by omega) (by simp [mc]; omega) (by rw [Array.length_toList, hsz]; omega) (by omega)
    rw [show oQ + lQ * 2 = n1 * 2 by omega] at hL1
    rw [← hL1] at this
    rw [hoP, show p * 2 + 1 * 2 = oQ by omega]
    exact this
  obtain ⟨W2, hW2⟩ : ∃ W2, W2 = W1.setRow g (L1.toArray.toList.take oP ++ mc k x ++ L1.toArray.toList.drop (oP + 1 * 2)).toArray := ⟨_, rfl⟩
  rw [← hW2] at hcp2
  have hO : Only g w W2 := by
    rw [hW2, hW1]
    exact (only_row (w := w.drew) (g := g) _).trans (only_row _)
  have HP : Kept (Insd w g n (xs.take (p * 2) ++ mc k x ++ xs.drop (p * 2)) (.returned (.slice (some ⟨g, 0, none⟩) n1 cap)) W2) := by
    subst hn1
    refine ⟨g, cap, rfl, own_of (by rw [hW2]; exact setRow_heap W1 g _ _ _ _ hg1) hr (by unfold maxLen; omega) ?_ (by simpa using hfin) ?_, .inl rfl, ⟨hO.1.1, hO.1.2.1, hO.1.2.2, Nat.le_of_eq hO.2.1.symm, fun k _ hk => hO.2.2 k (fun e => hk (by rw [e]))⟩⟩
    · simp [mc, List.length_take, List.length_drop, hL1l]; omega
    · simp [mc, List.length_take, List.length_drop, hxl]; omega
  have C1 := keep hcp1
  have C2 := keep hcp2
  have hne : ((p : Int) == (n : Int)) = false := beq_eq_false_iff_ne.2 (by omega)
  have hne' : ¬ (p : Int) = (n : Int) := by omega
  have hgt : ¬ (cap : Int) < (n1 : Int) := by omega
  have hgt' : decide ((cap : Int) < (n1 : Int)) = false := decide_eq_false hgt
  clear hC hv hn hcur hcc hcm hsz htk hxl hl2 hcp1 hcp2 hL1 hL1l hW1 hW2 hg1 hv1 hfin hO hp hr h1 hvg hn1 hp1 hoP hoQ hlP hlQ hcP hcQ
  go_enter Tryz.func90, Tryz.ntmps90
  go_wp2_with (simp only [hov])
  refine wp_region_held_drew (S := fun _ => True) (by kernel_rfl) trivial (fun hHeld => ?_)
  refine wpAnyH_take (i := 0) (oi := { dst := some 69, op := _, type := _, pos := _, after := _, guard := _ }) (v := ?v1) rfl (by kernel_rfl) (by kernel_rfl) (by kernel_rfl) (fun _ _ _ h => h) (Or.inl ⟨by rfl, ?hy1⟩) (by assumption) ?rest1
  case hy1 => (intro w hSw; go_simp; try with_reducible rfl)
  try simp only [Act.put, List.setIfInBounds_toArray, List.set_cons_zero, List.set_cons_succ]
  refine wpAnyH_take (i := 1) (oi := { dst := some 70, op := _, type := _, pos := _, after := _, guard := _ }) (v := ?v2) rfl (by kernel_rfl) (by kernel_rfl) (by kernel_rfl) (fun _ _ _ h => h) (Or.inl ⟨by rfl, ?hy2⟩) (by assumption) ?rest2
  case hy2 => (intro w hSw; go_simp; try with_reducible rfl)
  try simp only [Act.put, List.setIfInBounds_toArray, List.set_cons_zero, List.set_cons_succ]
  refine wpAnyH_take (i := 2) (oi := { dst := some 71, op := _, type := _, pos := _, after := _, guard := _ }) (v := ?v3) rfl (by kernel_rfl) (by kernel_rfl) (by kernel_rfl) (fun _ _ _ h => h) (Or.inl ⟨by rfl, ?hy3⟩) (by assumption) ?rest3
  case hy3 => (intro w hSw; go_simp; try with_reducible rfl)
  try simp only [Act.put, List.setIfInBounds_toArray, List.set_cons_zero, List.set_cons_succ]
  refine wpAnyH_take (i := 3) (oi := { dst := some 72, op := _, type := _, pos := _, after := _, guard := _ }) (v := (.int .i64 (p1 : Int))) rfl (by kernel_rfl) (by kernel_rfl) (by kernel_rfl) (fun _ _ _ h => h) (Or.inl ⟨by rfl, ?hy4⟩) (by assumption) ?rest4
  case hy4 => (intro w hSw; first | (go_simp; done) | (go_simp; simp [*]; done) | (simp [*]; go_simp; done))
  try simp only [Act.put, List.setIfInBounds_toArray, List.set_cons_zero, List.set_cons_succ]
  refine wpAnyH_take (i := 4) (oi := { dst := some 73, op := _, type := _, pos := _, after := _, guard := _ }) (v := (.slice (some ⟨g, oQ, none⟩) lQ cQ)) rfl (by kernel_rfl) (by kernel_rfl) (by kernel_rfl) (fun _ _ _ h => h) (Or.inl ⟨by rfl, ?hy5⟩) (by assumption) ?rest5
  case hy5 => (intro w hSw; first | (go_simp; done) | (go_simp; simp [*]; done) | (simp [*]; go_simp; done))
  try simp only [Act.put, List.setIfInBounds_toArray, List.set_cons_zero, List.set_cons_succ]
  refine wpAnyH_take (i := 5) (oi := { dst := some 74, op := _, type := _, pos := _, after := _, guard := _ }) (v := ?v6) rfl (by kernel_rfl) (by kernel_rfl) (by kernel_rfl) (fun _ _ _ h => h) (Or.inl ⟨by rfl, ?hy6⟩) (by assumption) ?rest6
  case hy6 => (intro w hSw; go_simp; try with_reducible rfl)
  try simp only [Act.put, List.setIfInBounds_toArray, List.set_cons_zero, List.set_cons_succ]
  refine wpAnyH_take (i := 6) (oi := { dst := some 75, op := _, type := _, pos := _, after := _, guard := _ }) (v := ?v7) rfl (by kernel_rfl) (by kernel_rfl) (by kernel_rfl) (fun _ _ _ h => h) (Or.inl ⟨by rfl, ?hy7⟩) (by assumption) ?rest7
  case hy7 => (intro w hSw; go_simp; try with_reducible rfl)
  try simp only [Act.put, List.setIfInBounds_toArray, List.set_cons_zero, List.set_cons_succ]
  refine wpAnyH_take (i := 7) (oi := { dst := some 76, op := _, type := _, pos := _, after := _, guard := _ }) (v := (.slice (some ⟨g, oP, none⟩) lP cP)) rfl (by kernel_rfl) (by kernel_rfl) (by kernel_rfl) (fun _ _ _ h => h) (Or.inl ⟨by rfl, ?hy8⟩) (by assumption) ?rest8
  case hy8 => (intro w hSw; first | (go_simp; done) | (go_simp; simp [*]; done) | (simp [*]; go_simp; done))
  try simp only [Act.put, List.setIfInBounds_toArray, List.set_cons_zero, List.set_cons_succ]
  refine wpAnyH_ready (rs := [8]) (by kernel_rfl) (by simp) ?_
  refine AllReadyH.cons (o := { dst := some 77, op := _, type := _, pos := _, after := _, guard := _ }) rfl (fun K hK => ?_) AllReadyH.nil
  rw [if_pos (by rfl)]
  refine wp_cp_run (.tmp 73) (.tmp 76) 48 48 rfl _ _ _ rfl rfl C1.out ?_
  refine hK.out _ _ trivial (fun hHeld => ?_)
  try simp only [Act.put, List.setIfInBounds_toArray, List.set_cons_zero, List.set_cons_succ]
  clear hK
  refine wpAnyH_done (by kernel_rfl) ?_ _
  clear hHeld C1
  have c2 := C2.out
  clear C2
  go_wp2
  go_ret
  exact HP.out
end Go.Proofs.YthmmblohfjmbcaaGreat.DV
