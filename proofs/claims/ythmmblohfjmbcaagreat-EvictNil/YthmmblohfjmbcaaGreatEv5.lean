/-
  EvictNil, walked: one of the three is missing.
-/
import Derived.Test.YthmmblohfjmbcaaGreatEv4
namespace Go.Proofs.YthmmblohfjmbcaaGreat
open Go.RowKit Go.Shelf
set_option linter.unusedVariables false
set_option linter.unusedSimpArgs false
set_option maxRecDepth 100000
namespace Ks
theorem ints_bel {w w' : World} {v : Value} {Z : List Nat} (h : DQ.Ints w v Z) (hb : Below w.heap.size w w') : DQ.Ints w' v Z := by
  rcases h with h | ⟨a, cap, rfl, h2, h3, h4⟩
  · exact .inl h
  · refine .inr ⟨a, cap, rfl, h2, h3, fun j hj => ?_⟩
    rw [hb.cell (p := a.add j) (World.block_lt_of_cell? _ _ (h4 j hj))]
    exact h4 j hj
set_option maxHeartbeats 1000000 in
theorem round_nil (w : World) (ps pp pr : Option Addr) (h : ps = none ∨ pp = none ∨ pr = none) : Calls Tryz.prog 7 #[.pointer ps, .pointer pp, .pointer pr] w fun e w' => e = .returned (.tuple #[]) ∧ w' = w := by
  cases ps with
  | none =>
    clear h
    go_enter Tryz.func7, Tryz.ntmps7
    go_wp2
    refine bodyPost_ret (results_none rfl _ _ _) rfl ?_
    exact ⟨rfl, rfl⟩
  | some a =>
    cases pp with
    | none =>
      clear h
      go_enter Tryz.func7, Tryz.ntmps7
      go_wp2
      refine bodyPost_ret (results_none rfl _ _ _) rfl ?_
      exact ⟨rfl, rfl⟩
    | some c =>
      obtain rfl : pr = none := by simpa using h
      clear h
      go_enter Tryz.func7, Tryz.ntmps7
      go_wp2
      refine bodyPost_ret (results_none rfl _ _ _) rfl ?_
      exact ⟨rfl, rfl⟩
set_option maxHeartbeats 1000000 in
theorem enforce_nil (w : World) (ps pp pr : Option Addr) (h : ps = none ∨ pp = none ∨ pr = none) : Calls Tryz.prog 8 #[.pointer ps, .pointer pp, .pointer pr] w fun e w' => e = .returned (.tuple #[.int .i64 0, .int .i64 1]) ∧ w' = w := by
  cases ps with
  | none =>
    clear h
    go_enter Tryz.func8, Tryz.ntmps8
    go_wp2
    refine bodyPost_ret (results_tmp2 rfl _ _ _) rfl ?_
    exact ⟨rfl, rfl⟩
  | some a =>
    cases pp with
    | none =>
      clear h
      go_enter Tryz.func8, Tryz.ntmps8
      go_wp2
      refine bodyPost_ret (results_tmp2 rfl _ _ _) rfl ?_
      exact ⟨rfl, rfl⟩
    | some c =>
      obtain rfl : pr = none := by simpa using h
      clear h
      go_enter Tryz.func8, Tryz.ntmps8
      go_wp2
      refine bodyPost_ret (results_tmp2 rfl _ _ _) rfl ?_
      exact ⟨rfl, rfl⟩
theorem space_any (w : World) (seed : Nat) (hsd : seed < Dw.M) (most pol smp : Int) :
    Calls Tryz.prog 4 #[.agg #[.int .u64 seed, .int .i64 most, .int .i64 pol, .int .i64 smp]] w fun e w' => (∃ ps c, e = .returned (.tuple #[.pointer ps, .int .i64 c])) ∧ Below w.heap.size w w' := by
  by_cases h : most < 0 ∨ pol < 0 ∨ 2 < pol ∨ sf pol smp = false
  · refine (new_bad w seed most pol smp h).mono ?_
    rintro _ w' ⟨rfl, hb⟩
    exact ⟨⟨none, _, rfl⟩, hb⟩
  · refine (new_ok w seed hsd most pol smp (fun e => h (.inl e)) (fun e => h (.inr (.inl e))) (fun e => h (.inr (.inr (.inl e)))) ?_).mono ?_
    · cases e : sf pol smp with
      | true => rfl
      | false => exact absurd (.inr (.inr (.inr e))) h
    · rintro _ w' ⟨b, bm, bd, tb, rfl, hb, _⟩
      exact ⟨⟨_, _, rfl⟩, hb⟩
set_option maxHeartbeats 4000000 in
theorem nil_walk (W : World) (which : Int) (seed : Nat) (hsd : seed < Dw.M) (most pol smp : Int) (v : Value) (Z : List Nat) (hv : DQ.Ints W v Z) (hz : Z.length * 8 ≤ 140737488355328) :
    Calls Tryz.prog 3 #[.int .i64 which, .agg #[.int .u64 seed, .int .i64 most, .int .i64 pol, .int .i64 smp], v] W fun e w' => e = .returned (.bool true) ∧ Below W.heap.size W w' := by
  obtain ⟨X, hX⟩ : ∃ X, W.heap.size = X := ⟨_, rfl⟩
  obtain ⟨W1, hW1⟩ : ∃ W1, W.alloc (.cells #[.int .u64 seed, .int .i64 most, .int .i64 pol, .int .i64 smp] 24) = W1 := ⟨_, rfl⟩
  have hb1 : Below W.heap.size W W1 := by rw [← hW1]; exact (Below.refl _ W).alloc (Nat.le_refl _) _
  have g1 : W1.heap[X]? = some (.cells #[.int .u64 seed, .int .i64 most, .int .i64 pol, .int .i64 smp] 24 (0, 0)) := by rw [← hW1, ← hX]; exact heap_alloc_new _ _
  have c0 : W1.cell? ⟨X, 0, none⟩ = some (.int .u64 seed) := by simp [World.cell?, g1]
  have c1 : W1.cell? ⟨X, 1, none⟩ = some (.int .i64 most) := by simp [World.cell?, g1]
  have c2 : W1.cell? ⟨X, 2, none⟩ = some (.int .i64 pol) := by simp [World.cell?, g1]
  have c3 : W1.cell? ⟨X, 3, none⟩ = some (.int .i64 smp) := by simp [World.cell?, g1]
  have B1 := keep hb1
  have MS := keep (space_any W1 seed hsd most pol smp)
  have MD := keep (fun w1 (hb : Below W.heap.size W w1) => DQ.new_any w1 v Z (ints_bel hv hb) hz)
  clear hb1 g1 hsd hv hz
  go_enter Tryz.func3, Tryz.ntmps3
  go_wp2_with fail
  refine MS.out.mono ?_
  rintro _ w2 ⟨⟨ps, cd, rfl⟩, hb2⟩
  have B2 := keep (bel2 B1.out hb2)
  clear MS hb2 c0 c1 c2 c3 B1
  go_wp2_with fail
  refine (pool5 w2).mono ?_
  rintro _ w3 ⟨rfl, _, hb3⟩
  have B3 := keep (bel2 B2.out hb3)
  obtain ⟨pp, hpp⟩ : ∃ pp, w2.heap.size = pp := ⟨_, rfl⟩
  rw [hpp]
  have M3 := keep (MD.out w3 B3.out)
  clear hb3 B2 MD hpp
  go_wp2_with fail
  refine M3.out.mono ?_
  rintro _ w4 ⟨r, gg, rfl, _, _, _, _, _, hb4⟩
  have B4 := keep (bel2 B3.out hb4)
  clear M3 hb4 B3
  by_cases h0 : which = 0
  · subst h0
    go_wp2_with fail
    refine (round_nil w4 _ _ _ (.inl rfl)).mono ?_
    rintro _ w5 ⟨rfl, rfl⟩
    go_wp2_with fail
    refine (enforce_nil w5 _ _ _ (.inl rfl)).mono ?_
    rintro _ w6 ⟨rfl, rfl⟩
    go_wp2_with fail
    refine (wakes_any w6).mono ?_
    rintro _ w7 ⟨rfl, hb7⟩
    have B7 := keep (bel2 B4.out hb7)
    clear hb7
    go_wp2
    go_ret
    exact ⟨rfl, by first | exact B7.out | (rw [hX]; exact B7.out)⟩
  · have h0' : (which == 0) = false := beq_eq_false_iff_ne.2 h0
    by_cases h1 : which = 1
    · subst h1
      go_wp2_with fail
      refine (round_nil w4 _ _ _ (.inr (.inl rfl))).mono ?_
      rintro _ w5 ⟨rfl, rfl⟩
      go_wp2_with fail
      refine (enforce_nil w5 _ _ _ (.inr (.inl rfl))).mono ?_
      rintro _ w6 ⟨rfl, rfl⟩
      go_wp2_with fail
      refine (wakes_any w6).mono ?_
      rintro _ w7 ⟨rfl, hb7⟩
      have B7 := keep (bel2 B4.out hb7)
      clear hb7
      go_wp2
      go_ret
      exact ⟨rfl, by first | exact B7.out | (rw [hX]; exact B7.out)⟩
    · have h1' : (which == 1) = false := beq_eq_false_iff_ne.2 h1
      go_wp2_with fail
      refine (round_nil w4 _ _ _ (.inr (.inr rfl))).mono ?_
      rintro _ w5 ⟨rfl, rfl⟩
      go_wp2_with fail
      refine (enforce_nil w5 _ _ _ (.inr (.inr rfl))).mono ?_
      rintro _ w6 ⟨rfl, rfl⟩
      go_wp2_with fail
      refine (wakes_any w6).mono ?_
      rintro _ w7 ⟨rfl, hb7⟩
      have B7 := keep (bel2 B4.out hb7)
      clear hb7
      go_wp2
      go_ret
      exact ⟨rfl, by first | exact B7.out | (rw [hX]; exact B7.out)⟩
end Ks
end Go.Proofs.YthmmblohfjmbcaaGreat
