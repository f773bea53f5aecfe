/-
  Contracts over this program: no dictionary, and one of texts without buckets: Next ends at once.
-/
import Derived.Test.YtnkladifalnmnaaScanNext
import Derived.Test.YtnkladifalnmnaaDictKnownM
namespace Go.Proofs.Ytnkladifalnmnaa
open Go.RowKit Go.Shelf
attribute [local go_sem] Oper.semAt_some
set_option maxHeartbeats 400000 in
theorem sizes_nilS (w : World) : Calls Try.prog 31 #[.pointer none] w fun e w' => e = .returned (.tuple #[.int .i64 0, .int .i64 0, .int .i64 0]) ∧ w' = w := by
  go_enter Try.func31, Try.ntmps31
  go_wp2
  refine bodyPost_ret (results_tmp3 rfl _ _ _) rfl ?_
  exact ⟨rfl, rfl⟩
/-- an empty dict of texts -/
def Ds (w : World) (b seed : Nat) : Prop := w.heap[b]? = some (.cells #[.int .u64 seed, .int .i64 0, .slice none 0 0, .slice none 0 0, .int .i64 0] 75 (0, 0))
set_option maxHeartbeats 400000 in
theorem new_str (w : World) (seed : Nat) : Calls Try.prog 16 #[.int .u64 seed] w fun e w' => e = .returned (.pointer (some ⟨w.heap.size, 0, none⟩)) ∧ w' = w.alloc (.cells #[.int .u64 seed, .int .i64 0, .slice none 0 0, .slice none 0 0, .int .i64 0] 75) := by
  go_enter Try.func16, Try.ntmps16
  go_wp2
  go_ret
  exact ⟨rfl, rfl⟩
set_option maxHeartbeats 400000 in
theorem sizes_str (w : World) (b seed : Nat) (hd : Ds w b seed) : Calls Try.prog 31 #[.pointer (some ⟨b, 0, none⟩)] w fun e w' => e = .returned (.tuple #[.int .i64 0, .int .i64 0, .int .i64 0]) ∧ Below w.heap.size w w' := by
  obtain ⟨c0, c1, c2, c3, c4, cf⟩ := five hd
  clear hd
  go_enter Try.func31, Try.ntmps31
  go_wp2_with fail
  go_quiet (fail)
  go_wp2
  refine bodyPost_ret (results_tmp3 rfl _ _ _) rfl ?_
  exact ⟨rfl, below_drewN (Below.refl _ _) _⟩
set_option maxHeartbeats 400000 in
theorem next_str (w : World) (b : Value) (c : Nat) (cnt : Int) (m : Calls Try.prog 31 #[b] w fun e w' => e = .returned (.tuple #[.int .i64 0, .int .i64 0, .int .i64 0]) ∧ Below w.heap.size w w') :
    Calls Try.prog 15 #[b, .int .u64 c, .int .i64 cnt] w fun e w' => e = .returned (.tuple #[.int .u64 0, .slice none 0 0]) ∧ Below w.heap.size w w' := by
  go_enter Try.func15, Try.ntmps15
  go_wp2_with fail
  refine m.mono ?_
  rintro _ w1 ⟨rfl, hb⟩
  have HB := keep hb
  clear hb m
  go_wp2
  go_ret2
  exact ⟨rfl, HB.out⟩
end Go.Proofs.Ytnkladifalnmnaa
