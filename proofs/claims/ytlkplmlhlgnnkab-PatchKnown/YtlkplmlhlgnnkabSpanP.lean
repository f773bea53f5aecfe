/-
  Contracts over this program: what digit.fromFront and digit.Span answer at any numbers.
-/
import Derived.Test.YtlkplmlhlgnnkabProg
import Derived.Test.YtlkplmlhlgnnkabPlain
import Derived.WalkKit
import Derived.OpenShut
import Derived.Outline
import Derived.WalkLawsBesides
namespace Go.Proofs.Ytlkplmlhlgnnkab
open Go.RowKit
set_option maxHeartbeats 400000 in
theorem fromFront_any (i s : Int) (w : World) (h1 : -9223372036854775808 ≤ i) (h2 : i ≤ 9223372036854775807) (h3 : 0 ≤ s) (h4 : s ≤ 9223372036854775807) :
    Calls Try.prog 15 #[.int .i64 i, .int .i64 s] w fun e w' => e = .returned (.int .i64 (Pl.rl i s)) ∧ w' = w := by
  by_cases c : i < 0
  · rw [Pl.rl_neg c]
    go_enter Try.func15, Try.ntmps15
    go_wp2
    go_ret
    exact ⟨rfl, rfl⟩
  · rw [Pl.rl_pos c]
    go_enter Try.func15, Try.ntmps15
    go_wp2
    go_ret
    exact ⟨rfl, rfl⟩
theorem ret_sp {k l : IntKind} {a b c d : Int} (h : a = c) (g : b = d) : Ending.returned (.tuple #[.int k a, .int l b]) = .returned (.tuple #[.int k c, .int l d]) := by rw [h, g]
theorem ret_spb {k : IntKind} {a c : Int} {b d : Bool} (h : a = c) (g : b = d) : Ending.returned (.tuple #[.int k a, .bool b]) = .returned (.tuple #[.int k c, .bool d]) := by rw [h, g]
set_option maxHeartbeats 400000 in
theorem span_row (a b n m : Int) (w : World) (h1 : -9223372036854775808 ≤ a) (h2 : a ≤ 9223372036854775807) (h3 : -9223372036854775808 ≤ b) (h4 : b ≤ 9223372036854775807) (h7 : (n < 0 ∧ m = 0) ∨ (0 ≤ n ∧ m = n)) (h5 : 0 ≤ m) (h6 : m ≤ 9223372036854775807) :
    Calls Try.prog 14 #[.int .i64 a, .int .i64 b, .int .i64 n] w fun e w' => e = .returned (.tuple #[.int .i64 (Pl.sp1 a b m), .int .i64 (Pl.sp2 a b m)]) ∧ w' = w := by
  have r1 := Pl.rl_bd a m h1 h2 h5 h6
  have r2 := Pl.rl_bd b m h3 h4 h5 h6
  rcases h7 with ⟨hn, rfl⟩ | ⟨hn, rfl⟩
  all_goals
    go_enter Try.func14, Try.ntmps14
    go_wp2_with (go_at_call 15; refine (fromFront_any _ _ _ (by omega) (by omega) (by omega) (by omega)).mono ?_; rintro e w' ⟨rfl, rfl⟩)
    all_goals
      go_ret2
      exact ⟨ret_sp (by unfold Pl.sp1 Pl.frm Pl.til; (repeat' split) <;> omega) (by unfold Pl.sp2 Pl.frm Pl.til; (repeat' split) <;> omega), rfl⟩
theorem row_or (n : Int) : (n < 0 ∧ Pl.row n = 0) ∨ (0 ≤ n ∧ Pl.row n = n) := by
  unfold Pl.row; split <;> omega
theorem span_any (a b n : Int) (w : World) (h1 : -9223372036854775808 ≤ a) (h2 : a ≤ 9223372036854775807) (h3 : -9223372036854775808 ≤ b) (h4 : b ≤ 9223372036854775807) (h6 : n ≤ 9223372036854775807) :
    Calls Try.prog 14 #[.int .i64 a, .int .i64 b, .int .i64 n] w fun e w' => e = .returned (.tuple #[.int .i64 (Pl.sp1 a b (Pl.row n)), .int .i64 (Pl.sp2 a b (Pl.row n))]) ∧ w' = w :=
  span_row a b n (Pl.row n) w h1 h2 h3 h4 (row_or n) (Pl.row_bd n h6).1 (Pl.row_bd n h6).2
end Go.Proofs.Ytlkplmlhlgnnkab
