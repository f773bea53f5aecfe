/-
  Contracts over this program: a configuration that is refused; no space.
-/
import Derived.Test.YtijclcedjgniaaaGreatKsNew
namespace Go.Proofs.YtijclcedjgniaaaGreat
open Go.RowKit Go.Shelf
set_option linter.unusedVariables false
set_option maxRecDepth 100000
namespace Ks
set_option maxHeartbeats 1000000 in
theorem new_bad (w : World) (seed : Nat) (most pol smp : Int) (h : most < 0 ∨ pol < 0 ∨ 2 < pol ∨ sf pol smp = false) :
    Calls Tryz.prog 8 #[.agg #[.int .u64 seed, .int .i64 most, .int .i64 pol, .int .i64 smp]] w fun e w' => e = .returned (.tuple #[.pointer none, .int .i64 3]) ∧ Below w.heap.size w w' := by
  obtain ⟨W1, hW1⟩ : ∃ W1, w.alloc (.cells #[.int .u64 seed, .int .i64 most, .int .i64 pol, .int .i64 smp] 24) = W1 := ⟨_, rfl⟩
  have hb1 : Below w.heap.size w W1 := by rw [← hW1]; exact (Below.refl _ w).alloc (Nat.le_refl _) _
  have hx : W1.heap[w.heap.size]? = some (.cells #[.int .u64 seed, .int .i64 most, .int .i64 pol, .int .i64 smp] 24 (0, 0)) := by rw [← hW1]; exact heap_alloc_new _ _
  obtain ⟨g, hg⟩ : ∃ g, w.heap.size = g := ⟨_, rfl⟩
  have c0 : W1.cell? ⟨g, 0, none⟩ = some (.int .u64 seed) := by rw [← hg, cell_of_row _ _ _ _ _ _ hx]; rfl
  have c1 : W1.cell? ⟨g, 1, none⟩ = some (.int .i64 most) := by rw [← hg, cell_of_row _ _ _ _ _ _ hx]; rfl
  have c2 : W1.cell? ⟨g, 2, none⟩ = some (.int .i64 pol) := by rw [← hg, cell_of_row _ _ _ _ _ _ hx]; rfl
  have c3 : W1.cell? ⟨g, 3, none⟩ = some (.int .i64 smp) := by rw [← hg, cell_of_row _ _ _ _ _ _ hx]; rfl
  have HB := keep hb1
  have HG := keep hg
  clear hx hb1
  by_cases h1 : most < 0
  · clear h
    go_enter Tryz.func8, Tryz.ntmps8
    go_wp2
    refine bodyPost_ret (results_tmp2 rfl _ _ _) rfl ?_
    first | exact ⟨rfl, HB.out⟩ | exact ⟨rfl, by rw [← HG.out]; exact HB.out⟩
  · by_cases h2 : pol < 0
    · clear h
      go_enter Tryz.func8, Tryz.ntmps8
      go_wp2
      refine bodyPost_ret (results_tmp2 rfl _ _ _) rfl ?_
      first | exact ⟨rfl, HB.out⟩ | exact ⟨rfl, by rw [← HG.out]; exact HB.out⟩
    · by_cases h3 : 2 < pol
      · clear h
        go_enter Tryz.func8, Tryz.ntmps8
        go_wp2
        refine bodyPost_ret (results_tmp2 rfl _ _ _) rfl ?_
        first | exact ⟨rfl, HB.out⟩ | exact ⟨rfl, by rw [← HG.out]; exact HB.out⟩
      · have h4 : sf pol smp = false := h.resolve_left h1 |>.resolve_left h2 |>.resolve_left h3
        have mF := fit_any W1 seed most pol smp
        rw [h4] at mF
        clear h h4
        go_enter Tryz.func8, Tryz.ntmps8
        go_wp2_with fail
        refine mF.mono ?_
        rintro _ w2 ⟨rfl, hb⟩
        have HB2 := keep (HB.out.trans (hb.mono HB.out.size))
        clear mF hb c0 c1 c2 c3
        go_wp2
        refine bodyPost_ret (results_tmp2 rfl _ _ _) rfl ?_
        first | exact ⟨rfl, HB2.out⟩ | exact ⟨rfl, by rw [← HG.out]; exact HB2.out⟩
set_option maxHeartbeats 400000 in
theorem living_nil (w : World) : Calls Tryz.prog 61 #[.pointer none] w fun e w' => e = .returned (.tuple #[.pointer none, .pointer none]) ∧ w' = w := by
  go_enter Tryz.func61, Tryz.ntmps61
  go_wp2
  refine bodyPost_ret (results_tmp2 rfl _ _ _) rfl ?_
  exact ⟨rfl, rfl⟩
set_option maxHeartbeats 400000 in
theorem dlen_nil (w : World) : Calls Tryz.prog 65 #[.pointer none] w fun e w' => e = .returned (.int .i64 0) ∧ w' = w := by
  go_enter Tryz.func65, Tryz.ntmps65
  go_wp2
  go_ret
  exact ⟨rfl, rfl⟩
set_option maxHeartbeats 400000 in
theorem len_nil (w : World) : Calls Tryz.prog 20 #[.pointer none] w fun e w' => e = .returned (.int .i64 0) ∧ w' = w := by
  have mL := living_nil w
  have mD := dlen_nil w
  go_enter Tryz.func20, Tryz.ntmps20
  go_wp2_with fail
  refine mL.mono ?_
  rintro _ w1 ⟨rfl, rfl⟩
  clear mL
  go_wp2_with fail
  refine mD.mono ?_
  rintro _ w2 ⟨rfl, rfl⟩
  clear mD
  go_wp2
  go_ret
  exact ⟨rfl, rfl⟩
set_option maxHeartbeats 400000 in
theorem clear_nil (w : World) : Calls Tryz.prog 36 #[.pointer none] w fun e w' => e = .returned (.tuple #[]) ∧ w' = w := by
  go_enter Tryz.func36, Tryz.ntmps36
  go_wp2
  refine bodyPost_ret (results_none rfl _ _ _) rfl ?_
  exact ⟨rfl, rfl⟩
set_option maxHeartbeats 400000 in
theorem stored_nil (w : World) : Calls Tryz.prog 10 #[.pointer none] w fun e w' => e = .returned (.slice none 0 0) ∧ Below w.heap.size w w' := by
  go_enter Tryz.func10, Tryz.ntmps10
  go_wp2
  go_ret
  first | exact ⟨rfl, Below.refl _ _⟩ | exact ⟨rfl, (Below.refl _ _).alloc (Nat.le_refl _) _⟩
set_option maxHeartbeats 400000 in
theorem delete_nil (w : World) (key : ByteArray) : Calls Tryz.prog 37 #[.pointer none, .string key] w fun e w' => e = .returned (.bool false) ∧ w' = w := by
  have mM := meet_nil w key
  go_enter Tryz.func37, Tryz.ntmps37
  go_wp2_with fail
  refine mM.mono ?_
  rintro _ w1 ⟨rfl, rfl⟩
  clear mM
  go_wp2
  go_ret
  exact ⟨rfl, rfl⟩
set_option maxHeartbeats 400000 in
theorem config_nil (w : World) : Calls Tryz.prog 39 #[.pointer none] w fun e w' => e = .returned (.agg #[.int .u64 0, .int .i64 0, .int .i64 0, .int .i64 0]) ∧ Below w.heap.size w w' := by
  go_enter Tryz.func39, Tryz.ntmps39
  go_wp2
  refine bodyPost_ret (results_cell_row rfl _ _ _ _ _ _ _ rfl (heap_alloc_new _ _) Tryz.underlying24 rfl (by kernel_rfl)) rfl ?_
  exact ⟨rfl, (Below.refl _ _).alloc (Nat.le_refl _) _⟩
set_option maxHeartbeats 400000 in
theorem past_nil (w : World) : Calls Tryz.prog 83 #[.pointer none] w fun e w' => e = .returned (.slice none 0 0) ∧ Below w.heap.size w w' := by
  go_enter Tryz.func83, Tryz.ntmps83
  go_wp2
  go_ret
  first | exact ⟨rfl, Below.refl _ _⟩ | exact ⟨rfl, (Below.refl _ _).alloc (Nat.le_refl _) _⟩
/-- Sweep where none is past -/
theorem cut0 (w : World) : (Instr.slice 146 (.slice none 0 0) none (some (.int .i64 0)) none).run Tryz.prog w = .ok (.slice none 0 0) w := by rfl
set_option maxHeartbeats 1000000 in
theorem sweep_nil (w : World) (n : Int) (hn : 0 < n) : Calls Tryz.prog 38 #[.pointer none, .int .i64 n] w fun e w' => e = .returned (.int .i64 0) ∧ Below w.heap.size w w' := by
  have mP := past_nil w
  have hn' : ¬ n < 0 := by omega
  have c0 := cut0
  go_enter Tryz.func38, Tryz.ntmps38
  go_wp2_with fail
  refine mP.mono ?_
  rintro _ w1 ⟨rfl, hb⟩
  have HB := keep hb
  clear mP hb
  go_wp2
  refine wp_loop (fun a w' => a = { tmps := #[.pointer none, .int .i64 n, undef, undef, .int .i64 0, .slice none 0 0, undef, undef, .pointer none, .slice none 0 0, .slice none 0 0, .int .i64 n, .slice none 0 0, .int .i64 0, .int .i64 0, .int .i64 0, .slice none 0 0, .slice none 0 0, .int .i64 0, .int .i64 0, undef, undef, undef, undef, undef, undef, undef, undef, undef, undef, undef, undef], defers := [] } ∧ w' = w1) (fun _ _ => 0) ⟨rfl, rfl⟩ ?_
  rintro a wr ⟨rfl, hw⟩
  obtain rfl := hw.symm
  go_wp2
  go_ret
  first | exact ⟨rfl, HB.out⟩ | exact ⟨rfl, by rw [← HG.out]; exact HB.out⟩
end Ks
end Go.Proofs.YtijclcedjgniaaaGreat
