/-
  Contracts over this program: slices.Delete of one element, of a row of candidates.
-/
import Derived.Test.YthmmblohfjmbcaaGreatVPlBase
namespace Go.Proofs.YthmmblohfjmbcaaGreat.DV
open Go.RowKit Go.Shelf
set_option linter.unusedVariables false
set_option linter.unusedSimpArgs false
theorem info_rk : (Tryz.prog.info? 65).map (fun i => (i.zero, i.size, i.bytes)) = some (some (.agg #[.string .empty, .int .u64 0]), 2, 24) := by kernel_rfl
set_option maxRecDepth 100000 in
set_option maxHeartbeats 1000000 in
theorem delM_any (w : World) (g n m cap p : Nat) (xs : List Value) (hC : w.ownsRow 0 65 2 (.slice (some ⟨g, 0, none⟩) n cap) n xs) (hnm : n = m + 1) (hp : p ≤ m) (h1 : ∀ u ∈ xs, u.oneCell' = true) :
    Calls Tryz.prog 57 #[.slice (some ⟨g, 0, none⟩) n cap, .int .i64 p, .int .i64 ((p : Int) + 1)] w fun e w' => e = .returned (.slice (some ⟨g, 0, none⟩) m cap) ∧ w'.ownsRow 0 65 2 (.slice (some ⟨g, 0, none⟩) m cap) m (xs.take (p * 2) ++ xs.drop ((p + 1) * 2)) ∧ Only g w w' := by
  obtain ⟨i0, hi0, hz0, hz1, hz2⟩ := info_parts info_rk
  obtain ⟨cur, hcur, hcc, hcm, hsz, htk, hxl⟩ := own_cur hC
  unfold maxLen at hcm
  have uT := Tryz.underlying48
  obtain ⟨q1, hq1⟩ : ∃ q : Int, (p : Int) + 1 = q := ⟨_, rfl⟩
  have hq1' : q1 = ((p + 1 : Nat) : Int) := by omega
  have hs0 : ∃ v, ∀ w, (Instr.slice 48 (.slice (some ⟨g, 0, none⟩) n cap) (some (.int .i64 (p : Int))) (some (.int .i64 q1)) (some (.int .i64 (n : Int)))).run Tryz.prog w = .ok v w := by
    rw [hq1']
    exact ⟨_, fun w => slice_run w _ _ uT i0 hi0 ⟨g, 0, none⟩ n cap p (p + 1) n _ _ _ (.inr ⟨rfl, hcc⟩) (.inr ⟨rfl, by omega⟩) (.inr ⟨rfl, by omega⟩)⟩
  obtain ⟨v0, hs0⟩ := hs0
  have hs1 : ∀ w, (Instr.slice 48 (.slice (some ⟨g, 0, none⟩) n cap) none (some (.int .i64 (p : Int))) none).run Tryz.prog w = .ok (.slice (some ⟨g, 0, none⟩) p cap) w := fun w => by
    rw [slice_run w _ _ uT i0 hi0 ⟨g, 0, none⟩ n cap 0 p cap _ _ _ (.inl ⟨rfl, rfl⟩) (.inr ⟨rfl, by omega⟩) (.inl ⟨rfl, rfl⟩)]
    rw [Nat.zero_mul, add_at, Nat.zero_add, ite_self]; rfl
  obtain ⟨A, hA, hs2⟩ : ∃ A : Addr, (A = ⟨g, (p + 1) * 2, none⟩ ∨ m - p = 0) ∧ ∀ w, (Instr.slice 48 (.slice (some ⟨g, 0, none⟩) n cap) (some (.int .i64 q1)) none none).run Tryz.prog w = .ok (.slice (some A) (m - p) (cap - (p + 1))) w := by
    refine ⟨if cap = p + 1 then ⟨g, 0, none⟩ else ⟨g, (p + 1) * 2, none⟩, ?_, fun w => ?_⟩
    · by_cases hcp : cap = p + 1
      · exact .inr (by omega)
      · rw [if_neg hcp]; exact .inl rfl
    · rw [hq1', slice_run w _ _ uT i0 hi0 ⟨g, 0, none⟩ n cap (p + 1) n cap _ _ _ (.inl ⟨rfl, rfl⟩) (.inl ⟨rfl, rfl, rfl⟩) (.inr ⟨rfl, by omega⟩), hz1, add_at, Nat.zero_add, show n - (p + 1) = m - p by omega]
  have hs3 : ∀ w, (Instr.slice 48 (.slice (some ⟨g, 0, none⟩) m cap) (some (.int .i64 (m : Int))) (some (.int .i64 (n : Int))) none).run Tryz.prog w = .ok (.slice (some ⟨g, m * 2, none⟩) 1 (cap - m)) w := fun w => by
    rw [slice_run w _ _ uT i0 hi0 ⟨g, 0, none⟩ m cap m n cap _ _ _ (.inl ⟨rfl, rfl⟩) (.inr ⟨rfl, by omega⟩) (.inr ⟨rfl, by omega⟩), if_neg (by omega), hz1, add_at, Nat.zero_add, show n - m = 1 by omega]
  have hcell : ∀ j u, (xs.drop ((p + 1) * 2))[j]? = some u → w.drew.cell? (A.add j) = some u := fun j u hu => by
    rcases hA with rfl | h0
    · rw [add_at]
      show w.cell? _ = _
      rw [cell_of_row w g _ cur _ _ hcur]
      rw [List.getElem?_drop, ← htk, List.getElem?_take] at hu
      split at hu
      · simpa using hu
      · cases hu
    · have hj := (List.getElem?_eq_some_iff.1 hu).1
      rw [List.length_drop, hxl] at hj
      omega
  have hap := run_append_room (P := Tryz.prog) w.drew 48 48 65 i0 uT hi0 g p cap cur hcur A (m - p) (cap - (p + 1)) (xs.drop ((p + 1) * 2)) (by rw [List.length_drop, hxl, hz1]; omega) hcell (fun u hu => h1 u (List.mem_of_mem_drop hu)) (by omega) (by rw [List.length_drop, hxl, hz1, hsz]; omega)
  rw [hz1, show p + (m - p) = m by omega] at hap
  have hsz1 : (cur.toList.take (p * 2) ++ xs.drop ((p + 1) * 2) ++ cur.toList.drop (p * 2 + (xs.drop ((p + 1) * 2)).length)).length = cap * 2 := by
    simp only [List.length_append, List.length_take, List.length_drop, Array.length_toList, hsz, hxl]; omega
  have htk1 : (cur.toList.take (p * 2) ++ xs.drop ((p + 1) * 2) ++ cur.toList.drop (p * 2 + (xs.drop ((p + 1) * 2)).length)).take (m * 2) = xs.take (p * 2) ++ xs.drop ((p + 1) * 2) := by
    have := row_cut (N := p * 2 + (xs.drop ((p + 1) * 2)).length) htk (by rw [Array.length_toList, hsz]; exact Nat.mul_le_mul_right _ hcc) (a := p * 2) (b := (p + 1) * 2) (by omega) (by omega)
    rwa [show p * 2 + (n * 2 - (p + 1) * 2) = m * 2 by omega] at this
  have hl1 : (xs.take (p * 2) ++ xs.drop ((p + 1) * 2)).length = m * 2 := by
    simp only [List.length_append, List.length_take, List.length_drop, hxl]; omega
  generalize (cur.toList.take (p * 2) ++ xs.drop ((p + 1) * 2) ++ cur.toList.drop (p * 2 + (xs.drop ((p + 1) * 2)).length)) = L1 at hap hsz1 htk1
  obtain ⟨w1, hw1⟩ : ∃ w1, w1 = w.drew.setRow g L1.toArray := ⟨_, rfl⟩
  rw [← hw1] at hap
  have hg1 : w1.heap[g]? = some (.cells L1.toArray 65 (0, 0)) := by rw [hw1]; exact setRow_heap w.drew g cur _ _ _ hcur
  have ho1 : Only g w w1 := by rw [hw1]; exact only_row (w := w.drew) _
  obtain ⟨cur2, hcl, hs2', htk2⟩ := clear_run (P := Tryz.prog) w1 48 65 0 65 _ uT Tryz.zeroValue65 (by simp [Value.cells, Value.oneCell']) g (m * 2) 1 (cap - m) L1.toArray hg1 (by simp [Value.cells, hsz1]; omega)
  have hfin : (w1.setRow g cur2).ownsRow 0 65 2 (.slice (some ⟨g, 0, none⟩) m cap) m (xs.take (p * 2) ++ xs.drop ((p + 1) * 2)) :=
    own_of (setRow_heap w1 g _ _ _ _ hg1) (by omega) (by unfold maxLen; omega) (by rw [hs2']; simpa using hsz1) (by rw [htk2]; simpa using htk1) hl1
  have HF := keep hfin
  have HO := keep (ho1.trans (only_row (w := w1) cur2))
  have hne : ((p : Int) == q1) = false := beq_eq_false_iff_ne.2 (by omega)
  have hne' : ¬ (p : Int) = q1 := by omega
  have HAP := keep hap
  try simp only [Nat.mul_one] at hs3 hcl
  rw [hq1]
  clear hap hC h1 hxl hcell hcur hsz htk hsz1 htk1 hl1 hw1 hg1 ho1 hs2' htk2 hfin hA hq1 hq1' hnm hp hcc hcm
  generalize w1.setRow g cur2 = w2 at *
  go_enter Tryz.func57, Tryz.ntmps57
  go_wp2_with fail
  refine wp_region_held_drew (S := fun _ => True) (by kernel_rfl) trivial (fun hHeld => ?_)
  refine wpAnyH_take (i := 0) (oi := { dst := some 20, op := _, type := _, pos := _, after := _, guard := _ }) (v := ?v1) rfl (by kernel_rfl) (by kernel_rfl) (by kernel_rfl) (fun _ _ _ h => h) (Or.inl ⟨by rfl, ?hy1⟩) (by assumption) ?rest1
  case hy1 => (intro w hSw; go_simp; try with_reducible rfl)
  try simp only [Act.put, List.setIfInBounds_toArray, List.set_cons_zero, List.set_cons_succ]
  refine wpAnyH_take (i := 1) (oi := { dst := some 21, op := _, type := _, pos := _, after := _, guard := _ }) (v := ?v2) rfl (by kernel_rfl) (by kernel_rfl) (by kernel_rfl) (fun _ _ _ h => h) (Or.inl ⟨by rfl, ?hy2⟩) (by assumption) ?rest2
  case hy2 => (intro w hSw; go_simp; try with_reducible rfl)
  try simp only [Act.put, List.setIfInBounds_toArray, List.set_cons_zero, List.set_cons_succ]
  refine wpAnyH_take (i := 2) (oi := { dst := some 22, op := _, type := _, pos := _, after := _, guard := _ }) (v := (.slice (some ⟨g, 0, none⟩) p cap)) rfl (by kernel_rfl) (by kernel_rfl) (by kernel_rfl) (fun _ _ _ h => h) (Or.inl ⟨by rfl, ?hy3⟩) (by assumption) ?rest3
  case hy3 => (intro w hSw; first | (go_simp; done) | (go_simp; simp [*]; done) | (simp [*]; go_simp; done))
  try simp only [Act.put, List.setIfInBounds_toArray, List.set_cons_zero, List.set_cons_succ]
  refine wpAnyH_take (i := 3) (oi := { dst := some 23, op := _, type := _, pos := _, after := _, guard := _ }) (v := ?v4) rfl (by kernel_rfl) (by kernel_rfl) (by kernel_rfl) (fun _ _ _ h => h) (Or.inl ⟨by rfl, ?hy4⟩) (by assumption) ?rest4
  case hy4 => (intro w hSw; go_simp; try with_reducible rfl)
  try simp only [Act.put, List.setIfInBounds_toArray, List.set_cons_zero, List.set_cons_succ]
  refine wpAnyH_take (i := 4) (oi := { dst := some 24, op := _, type := _, pos := _, after := _, guard := _ }) (v := ?v5) rfl (by kernel_rfl) (by kernel_rfl) (by kernel_rfl) (fun _ _ _ h => h) (Or.inl ⟨by rfl, ?hy5⟩) (by assumption) ?rest5
  case hy5 => (intro w hSw; go_simp; try with_reducible rfl)
  try simp only [Act.put, List.setIfInBounds_toArray, List.set_cons_zero, List.set_cons_succ]
  refine wpAnyH_take (i := 5) (oi := { dst := some 25, op := _, type := _, pos := _, after := _, guard := _ }) (v := (.slice (some A) (m - p) (cap - (p + 1)))) rfl (by kernel_rfl) (by kernel_rfl) (by kernel_rfl) (fun _ _ _ h => h) (Or.inl ⟨by rfl, ?hy6⟩) (by assumption) ?rest6
  case hy6 => (intro w hSw; first | (go_simp; done) | (go_simp; simp [*]; done) | (simp [*]; go_simp; done))
  try simp only [Act.put, List.setIfInBounds_toArray, List.set_cons_zero, List.set_cons_succ]
  refine wpAnyH_ready (rs := [6]) (by kernel_rfl) (by simp) ?_
  refine AllReadyH.cons (o := { dst := some 26, op := _, type := _, pos := _, after := _, guard := _ }) rfl (fun K hK => ?_) AllReadyH.nil
  rw [if_pos (by rfl)]
  refine wp_app_run (.tmp 22) (.tmp 25) 48 48 rfl _ _ _ rfl rfl HAP.out ?_
  refine hK.out _ _ trivial (fun hHeld => ?_)
  try simp only [Act.put, List.setIfInBounds_toArray, List.set_cons_zero, List.set_cons_succ]
  clear hK
  refine wpAnyH_take (i := 7) (oi := { dst := some 0, op := _, type := _, pos := _, after := _, guard := _ }) (v := ?v7) rfl (by kernel_rfl) (by kernel_rfl) (by kernel_rfl) (fun _ _ _ h => h) (Or.inl ⟨by rfl, ?hy7⟩) (by assumption) ?rest7
  case hy7 => (intro w hSw; go_simp; try with_reducible rfl)
  try simp only [Act.put, List.setIfInBounds_toArray, List.set_cons_zero, List.set_cons_succ]
  refine wpAnyH_done (by kernel_rfl) ?_ _
  clear hHeld HAP
  go_wp2
  go_ret
  exact ⟨rfl, HF.out, HO.out⟩
end Go.Proofs.YthmmblohfjmbcaaGreat.DV
