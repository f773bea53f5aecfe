/-
  Contracts over this program: what digit.Add answers.
-/
import Derived.Test.YtdpclcopckbgeabDoorWakes
namespace Go.Proofs.YtdpclcopckbgeabDoor
open Go.RowKit
set_option maxHeartbeats 400000 in
theorem add_in (a b : Int) (w : World) (h1 : -9223372036854775808 ≤ a) (h2 : a ≤ 9223372036854775807) (h3 : -9223372036854775808 ≤ b) (h4 : b ≤ 9223372036854775807) (h5 : -9223372036854775808 ≤ a + b) (h6 : a + b ≤ 9223372036854775807) :
    Calls Tryd.prog 6 #[.int .i64 a, .int .i64 b] w fun e w' => e = .returned (.tuple #[.int .i64 (a + b), .int .i64 0]) ∧ w' = w := by
  by_cases c1 : 0 < b
  · have c2 : ¬ 9223372036854775807 - b < a := by omega
    go_enter Tryd.func6, Tryd.ntmps6
    go_wp2
    go_ret2
    exact ⟨rfl, rfl⟩
  · by_cases c3 : b < 0
    · have c2 : ¬ a < -9223372036854775808 - b := by omega
      go_enter Tryd.func6, Tryd.ntmps6
      go_wp2
      go_ret2
      exact ⟨rfl, rfl⟩
    · obtain rfl : b = 0 := by omega
      go_enter Tryd.func6, Tryd.ntmps6
      go_wp2
      go_ret2
      exact ⟨ret_ii (by omega) rfl, rfl⟩
theorem add_in' (a b : Int) (w : World) (h1 : -9223372036854775808 ≤ a) (h2 : a ≤ 9223372036854775807) (h3 : -9223372036854775808 ≤ b) (h4 : b ≤ 9223372036854775807) (h5 : -9223372036854775808 ≤ a + b) (h6 : a + b ≤ 9223372036854775807) :
    Calls Tryd.prog 6 #[.int .i64 a, .int .i64 b] w fun e w' => e = .returned (.tuple #[.int .i64 (b + a), .int .i64 0]) ∧ w' = w := by
  have h := add_in a b w h1 h2 h3 h4 h5 h6
  rw [Int.add_comm a b] at h
  exact h
set_option maxHeartbeats 400000 in
theorem add_out (a b : Int) (w : World) (h1 : -9223372036854775808 ≤ a) (h2 : a ≤ 9223372036854775807) (h3 : -9223372036854775808 ≤ b) (h4 : b ≤ 9223372036854775807) (h5 : a + b < -9223372036854775808 ∨ 9223372036854775807 < a + b) :
    Calls Tryd.prog 6 #[.int .i64 a, .int .i64 b] w fun e w' => e = .returned (.tuple #[.int .i64 0, .int .i64 11]) ∧ w' = w := by
  rcases h5 with h5 | h5
  · have c1 : ¬ 0 < b := by omega
    have c3 : b < 0 := by omega
    have c2 : a < -9223372036854775808 - b := by omega
    go_enter Tryd.func6, Tryd.ntmps6
    go_wp2
    go_ret2
    exact ⟨rfl, rfl⟩
  · have c1 : 0 < b := by omega
    have c2 : 9223372036854775807 - b < a := by omega
    go_enter Tryd.func6, Tryd.ntmps6
    go_wp2
    go_ret2
    exact ⟨rfl, rfl⟩
end Go.Proofs.YtdpclcopckbgeabDoor
