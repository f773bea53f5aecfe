/-
  Contracts over this program: a configuration that is refused; no space.
-/
import Derived.Test.YthmmblohfjmbcaaGreatKsNew
namespace Go.Proofs.YthmmblohfjmbcaaGreat
open Go.RowKit Go.Shelf
set_option linter.unusedVariables false
set_option maxRecDepth 100000
namespace Ks
set_option maxHeartbeats 1000000 in
theorem new_bad (w : World) (seed : Nat) (most pol smp : Int) (h : most < 0 ∨ pol < 0 ∨ 2 < pol ∨ sf pol smp = false) :
    Calls Tryz.prog 4 #[.agg #[.int .u64 seed, .int .i64 most, .int .i64 pol, .int .i64 smp]] w fun e w' => e = .returned (.tuple #[.pointer none, .int .i64 3]) ∧ Below w.heap.size w w' := by
  obtain ⟨W1, hW1⟩ : ∃ W1, w.alloc (.cells #[.int .u64 seed, .int .i64 most, .int .i64 pol, .int .i64 smp] 24) = W1 := ⟨_, rfl⟩
  have hb1 : Below w.heap.size w W1 := by rw [← hW1]; exact (Below.refl _ w).alloc (Nat.le_refl _) _
  have hx : W1.heap[w.heap.size]? = some (.cells #[.int .u64 seed, .int .i64 most, .int .i64 pol, .int .i64 smp] 24 (0, 0)) := by rw [← hW1]; exact heap_alloc_new _ _
  obtain ⟨g, hg⟩ : ∃ g, w.heap.size = g := ⟨_, rfl⟩
  have c0 : W1.cell? ⟨g, 0, none⟩ = some (.int .u64 seed) := by rw [← hg, cell_of_row _ _ _ _ _ _ hx]; rfl
  have c1 : W1.cell? ⟨g, 1, none⟩ = some (.int .i64 most) := by rw [← hg, cell_of_row _ _ _ _ _ _ hx]; rfl
  have c2 : W1.cell? ⟨g, 2, none⟩ = some (.int .i64 pol) := by rw [← hg, cell_of_row _ _ _ _ _ _ hx]; rfl
  have c3 : W1.cell? ⟨g, 3, none⟩ = some (.int .i64 smp) := by rw [← hg, cell_of_row _ _ _ _ _ _ hx]; rfl
  have HB := keep hb1
  have HG := keep hg
  clear hx hb1
  by_cases h1 : most < 0
  · clear h
    go_enter Tryz.func4, Tryz.ntmps4
    go_wp2
    refine bodyPost_ret (results_tmp2 rfl _ _ _) rfl ?_
    first | exact ⟨rfl, HB.out⟩ | exact ⟨rfl, by rw [← HG.out]; exact HB.out⟩
  · by_cases h2 : pol < 0
    · clear h
      go_enter Tryz.func4, Tryz.ntmps4
      go_wp2
      refine bodyPost_ret (results_tmp2 rfl _ _ _) rfl ?_
      first | exact ⟨rfl, HB.out⟩ | exact ⟨rfl, by rw [← HG.out]; exact HB.out⟩
    · by_cases h3 : 2 < pol
      · clear h
        go_enter Tryz.func4, Tryz.ntmps4
        go_wp2
        refine bodyPost_ret (results_tmp2 rfl _ _ _) rfl ?_
        first | exact ⟨rfl, HB.out⟩ | exact ⟨rfl, by rw [← HG.out]; exact HB.out⟩
      · have h4 : sf pol smp = false := h.resolve_left h1 |>.resolve_left h2 |>.resolve_left h3
        have mF := fit_any W1 seed most pol smp
        rw [h4] at mF
        clear h h4
        go_enter Tryz.func4, Tryz.ntmps4
        go_wp2_with fail
        refine mF.mono ?_
        rintro _ w2 ⟨rfl, hb⟩
        have HB2 := keep (HB.out.trans (hb.mono HB.out.size))
        clear mF hb c0 c1 c2 c3
        go_wp2
        refine bodyPost_ret (results_tmp2 rfl _ _ _) rfl ?_
        first | exact ⟨rfl, HB2.out⟩ | exact ⟨rfl, by rw [← HG.out]; exact HB2.out⟩
set_option maxHeartbeats 400000 in
theorem living_nil (w : World) : Calls Tryz.prog 48 #[.pointer none] w fun e w' => e = .returned (.tuple #[.pointer none, .pointer none]) ∧ w' = w := by
  go_enter Tryz.func48, Tryz.ntmps48
  go_wp2
  refine bodyPost_ret (results_tmp2 rfl _ _ _) rfl ?_
  exact ⟨rfl, rfl⟩
set_option maxHeartbeats 400000 in
theorem dlen_nil (w : World) : Calls Tryz.prog 71 #[.pointer none] w fun e w' => e = .returned (.int .i64 0) ∧ w' = w := by
  go_enter Tryz.func71, Tryz.ntmps71
  go_wp2
  go_ret
  exact ⟨rfl, rfl⟩
set_option maxHeartbeats 400000 in
theorem len_nil (w : World) : Calls Tryz.prog 140 #[.pointer none] w fun e w' => e = .returned (.int .i64 0) ∧ w' = w := by
  have mL := living_nil w
  have mD := dlen_nil w
  go_enter Tryz.func140, Tryz.ntmps140
  go_wp2_with fail
  refine mL.mono ?_
  rintro _ w1 ⟨rfl, rfl⟩
  clear mL
  go_wp2_with fail
  refine mD.mono ?_
  rintro _ w2 ⟨rfl, rfl⟩
  clear mD
  go_wp2
  go_ret
  exact ⟨rfl, rfl⟩
set_option maxHeartbeats 400000 in
theorem delete_nil (w : World) (key : ByteArray) : Calls Tryz.prog 34 #[.pointer none, .string key] w fun e w' => e = .returned (.bool false) ∧ w' = w := by
  have mM := meet_nil w key
  go_enter Tryz.func34, Tryz.ntmps34
  go_wp2_with fail
  refine mM.mono ?_
  rintro _ w1 ⟨rfl, rfl⟩
  clear mM
  go_wp2
  go_ret
  exact ⟨rfl, rfl⟩
set_option maxHeartbeats 400000 in
theorem config_nil (w : World) : Calls Tryz.prog 24 #[.pointer none] w fun e w' => e = .returned (.agg #[.int .u64 0, .int .i64 0, .int .i64 0, .int .i64 0]) ∧ Below w.heap.size w w' := by
  go_enter Tryz.func24, Tryz.ntmps24
  go_wp2
  refine bodyPost_ret (results_cell_row rfl _ _ _ _ _ _ _ rfl (heap_alloc_new _ _) Tryz.underlying24 rfl (by kernel_rfl)) rfl ?_
  exact ⟨rfl, (Below.refl _ _).alloc (Nat.le_refl _) _⟩
set_option maxHeartbeats 400000 in
theorem past_nil (w : World) : Calls Tryz.prog 31 #[.pointer none] w fun e w' => e = .returned (.slice none 0 0) ∧ Below w.heap.size w w' := by
  go_enter Tryz.func31, Tryz.ntmps31
  go_wp2
  go_ret
  first | exact ⟨rfl, Below.refl _ _⟩ | exact ⟨rfl, (Below.refl _ _).alloc (Nat.le_refl _) _⟩
/-- Sweep where none is past -/
theorem cut0 (w : World) : (Instr.slice 85 (.slice none 0 0) none (some (.int .i64 0)) none).run Tryz.prog w = .ok (.slice none 0 0) w := by rfl
set_option maxHeartbeats 1000000 in
theorem sweep_nil (w : World) (n : Int) (hn : 0 < n) : Calls Tryz.prog 17 #[.pointer none, .int .i64 n] w fun e w' => e = .returned (.int .i64 0) ∧ Below w.heap.size w w' := by
  have mP := past_nil w
  have hn' : ¬ n < 0 := by omega
  have c0 := cut0
  go_enter Tryz.func17, Tryz.ntmps17
  go_wp2_with fail
  refine mP.mono ?_
  rintro _ w1 ⟨rfl, hb⟩
  have HB := keep hb
  clear mP hb
  go_wp2
  refine wp_loop (fun a w' => a = { tmps := #[.pointer none, .int .i64 n, undef, undef, .int .i64 0, .slice none 0 0, undef, undef, .pointer none, .slice none 0 0, .slice none 0 0, .int .i64 n, .slice none 0 0, .int .i64 0, .int .i64 0, .int .i64 0, .slice none 0 0, .slice none 0 0, .int .i64 0, .int .i64 0, undef, undef, undef, undef, undef, undef, undef, undef, undef, undef, undef, undef], defers := [] } ∧ w' = w1) (fun _ _ => 0) ⟨rfl, rfl⟩ ?_
  rintro a wr ⟨rfl, hw⟩
  obtain rfl := hw.symm
  go_wp2
  go_ret
  first | exact ⟨rfl, HB.out⟩ | exact ⟨rfl, by rw [← HG.out]; exact HB.out⟩
end Ks
end Go.Proofs.YthmmblohfjmbcaaGreat
