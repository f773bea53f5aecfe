/-
  Contracts over this program: the calls of no pool.
-/
import Derived.Test.YtgniiojeeobffaaPlWakes
namespace Go.Proofs.Ytgniiojeeobffaa
open Go.RowKit Go.Shelf
set_option linter.unusedVariables false
set_option linter.unusedSimpArgs false
set_option maxRecDepth 100000
set_option maxHeartbeats 1000000 in
theorem ntake (w : World) : Calls Try.prog 13 #[.pointer none] w fun e w' => e = .returned (.tuple #[.agg #[.string { data := #[] }, .int .u64 0], .bool false]) ∧ Below w.heap.size w w' := by
  obtain ⟨W1, hW1⟩ : ∃ W1, w.alloc (.cells #[.string { data := #[] }, .int .u64 0] 32) = W1 := ⟨_, rfl⟩
  have hb1 : Below w.heap.size w W1 := by rw [← hW1]; exact (Below.refl _ w).alloc (Nat.le_refl _) _
  have g1 : W1.heap[w.heap.size]? = some (.cells #[.string { data := #[] }, .int .u64 0] 32 (0, 0)) := by rw [← hW1]; exact heap_alloc_new _ _
  obtain ⟨c0, c1, c2⟩ := cells_two g1
  obtain ⟨W5, hW5⟩ : ∃ W5, (W1.setCell ⟨w.heap.size, 0, none⟩ (.string { data := #[] })).setCell ⟨w.heap.size, 1, none⟩ (.int .u64 0) = W5 := ⟨_, rfl⟩
  obtain ⟨g5, o5⟩ := two_set g1 hW5
  have hb5 : Below w.heap.size w W5 := by rw [← hW5]; exact (hb1.setCell (Nat.le_refl _) _).setCell (Nat.le_refl _) _
  have G5 := keep g5
  have HB := keep hb5
  clear g1 hb1 g5 o5 hb5
  go_enter Try.func13, Try.ntmps13
  go_wp2
  refine bodyPost_ret (results_ct rfl _ W5 w.heap.size 32 #[.string { data := #[] }, .int .u64 0] (0, 0) _ rfl G5.out Try.underlying32 rfl size_cd) rfl ?_
  exact ⟨rfl, HB.out⟩
set_option maxHeartbeats 1000000 in
theorem nclear (w : World) : Calls Try.prog 14 #[.pointer none] w fun e w' => e = .returned (.tuple #[]) ∧ w' = w := by
  go_enter Try.func14, Try.ntmps14
  go_wp2
  go_end0
  exact ⟨rfl, rfl⟩
set_option maxHeartbeats 1000000 in
theorem noffer (w : World) (k : ByteArray) (x : Int) : Calls Try.prog 15 #[.pointer none, .agg #[.string k, .int .u64 x]] w fun e w' => e = .returned (.bool false) ∧ Below w.heap.size w w' := by
  have HB : Kept (∀ o, Below w.heap.size w (w.alloc o)) := fun o => (Below.refl _ w).alloc (Nat.le_refl _) _
  go_enter Try.func15, Try.ntmps15
  go_wp2
  go_ret
  exact ⟨rfl, HB.out _⟩
set_option maxHeartbeats 1000000 in
theorem ndrop (w : World) (k : ByteArray) : Calls Try.prog 16 #[.pointer none, .string k] w fun e w' => e = .returned (.bool false) ∧ Below w.heap.size w w' := by
  have HB : Kept (∀ o, Below w.heap.size w (w.alloc o)) := fun o => (Below.refl _ w).alloc (Nat.le_refl _) _
  go_enter Try.func16, Try.ntmps16
  go_wp2
  go_ret
  exact ⟨rfl, HB.out _⟩
set_option maxHeartbeats 1000000 in
theorem ncands (w : World) : Calls Try.prog 17 #[.pointer none] w fun e w' => e = .returned (.slice none 0 0) ∧ w' = w := by
  go_enter Try.func17, Try.ntmps17
  go_wp2
  go_ret
  exact ⟨rfl, rfl⟩
set_option maxHeartbeats 2000000 in
theorem none_walk (w : World) : Calls Try.prog 4 #[] w fun e w' => e = .returned (.bool true) ∧ Below w.heap.size w w' := by
  have MW := keep (wakes_any w)
  have und := und_cd
  have stood := stood_cd
  have gua := guard_cd
  have er : ∀ w, (binOp .eql 32 (.agg #[.string { data := #[] }, .int .u64 0]) (.agg #[.string { data := #[] }, .int .u64 0])).run Try.prog w = .ok (.bool true) w := fun w => by
    have := eq_run (⟨#[]⟩, 0) (⟨#[]⟩, 0) w
    rwa [eqE_self] at this
  go_enter Try.func4, Try.ntmps4
  go_wp2_with fail
  refine MW.out.mono ?_
  rintro _ w1 ⟨rfl, hb1⟩
  have B1 := keep hb1
  clear hb1 MW
  go_wp2_with fail
  refine (ntake w1).mono ?_
  rintro _ w2 ⟨rfl, hb2⟩
  have B2 := keep (Below.up B1.out hb2)
  clear hb2 B1
  obtain ⟨W3, hW3⟩ : ∃ W3, w2.alloc (.cells #[.string { data := #[] }, .int .u64 0] 32) = W3 := ⟨_, rfl⟩
  have hb3 : Below w2.heap.size w2 W3 := by rw [← hW3]; exact (Below.refl _ w2).alloc (Nat.le_refl _) _
  have g3 : W3.heap[w2.heap.size]? = some (.cells #[.string { data := #[] }, .int .u64 0] 32 (0, 0)) := by rw [← hW3]; exact heap_alloc_new _ _
  obtain ⟨c0, c1, c2⟩ := cells_two g3
  obtain ⟨W4, hW4⟩ : ∃ W4, (W3.setCell ⟨w2.heap.size, 0, none⟩ (.string { data := #[] })).setCell ⟨w2.heap.size, 1, none⟩ (.int .u64 0) = W4 := ⟨_, rfl⟩
  obtain ⟨g4, o4⟩ := two_set g3 hW4
  have hb4 : Below w2.heap.size w2 W4 := by rw [← hW4]; exact (hb3.setCell (Nat.le_refl _) _).setCell (Nat.le_refl _) _
  have B3 := keep (Below.up B2.out hb4)
  have HS3 := keep (Array.getElem?_eq_some_iff.1 g4).1
  have G3 := keep g4
  clear hb3 g3 g4 o4 hb4
  go_wp2_with fail
  refine (nclear W4).mono ?_
  rintro _ w4 ⟨rfl, hw⟩
  obtain rfl := hw.symm
  clear c0 c1 c2
  go_wp2_with fail
  refine (noffer _ _ _).mono ?_
  rintro _ w5 ⟨rfl, hb5⟩
  have B5 := keep (Below.up B3.out hb5)
  have g5 := (hb5.block _ HS3.out).trans G3.out
  have hs5 := Nat.lt_of_lt_of_le HS3.out hb5.size
  have G5 := keep g5
  have HS5 := keep hs5
  clear hb5 g5 hs5
  go_wp2_with fail
  refine (ndrop _ _).mono ?_
  rintro _ w6 ⟨rfl, hb6⟩
  have B6 := keep (Below.up B5.out hb6)
  obtain ⟨c0, c1, c2⟩ := cells_two ((hb6.block _ HS5.out).trans G5.out)
  clear hb6
  go_wp2_with fail
  refine (ncands _).mono ?_
  rintro _ w7 ⟨rfl, hw⟩
  obtain rfl := hw.symm
  go_wp2
  go_ret
  exact ⟨by simp, B6.out⟩
end Go.Proofs.Ytgniiojeeobffaa
