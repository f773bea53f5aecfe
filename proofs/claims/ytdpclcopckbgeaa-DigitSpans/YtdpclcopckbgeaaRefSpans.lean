/-
  Contracts over this program: what the document's own real, Span and Place answer at any numbers.
-/
import Derived.Test.YtdpclcopckbgeaaSpans
namespace Go.Proofs.Ytdpclcopckbgeaa
open Go.RowKit
set_option maxHeartbeats 400000 in
theorem real_any (i s : Int) (w : World) (h1 : -9223372036854775808 ≤ i) (h2 : i ≤ 9223372036854775807) (h3 : 0 ≤ s) (h4 : s ≤ 9223372036854775807) :
    Calls Try.prog 22 #[.int .i64 i, .int .i64 s] w fun e w' => e = .returned (.int .i64 (Pl.rl i s)) ∧ w' = w := by
  by_cases c : i < 0
  · rw [Pl.rl_neg c]
    go_enter Try.func22, Try.ntmps22
    go_wp2
    go_ret
    exact ⟨rfl, rfl⟩
  · rw [Pl.rl_pos c]
    go_enter Try.func22, Try.ntmps22
    go_wp2
    go_ret
    exact ⟨rfl, rfl⟩
set_option maxHeartbeats 400000 in
theorem rspan_row (a b n m : Int) (w : World) (h1 : -9223372036854775808 ≤ a) (h2 : a ≤ 9223372036854775807) (h3 : -9223372036854775808 ≤ b) (h4 : b ≤ 9223372036854775807) (h7 : (n < 0 ∧ m = 0) ∨ (0 ≤ n ∧ m = n)) (h5 : 0 ≤ m) (h6 : m ≤ 9223372036854775807) :
    Calls Try.prog 13 #[.int .i64 a, .int .i64 b, .int .i64 n] w fun e w' => e = .returned (.tuple #[.int .i64 (Pl.sp1 a b m), .int .i64 (Pl.sp2 a b m)]) ∧ w' = w := by
  have r1 := Pl.rl_bd a m h1 h2 h5 h6
  have r2 := Pl.rl_bd b m h3 h4 h5 h6
  rcases h7 with ⟨hn, rfl⟩ | ⟨hn, rfl⟩
  all_goals
    go_enter Try.func13, Try.ntmps13
    go_wp2_with (go_at_call 22; refine (real_any _ _ _ (by omega) (by omega) (by omega) (by omega)).mono ?_; rintro e w' ⟨rfl, rfl⟩)
    all_goals
      go_ret2
      exact ⟨ret_sp (by unfold Pl.sp1 Pl.frm Pl.til; (repeat' split) <;> omega) (by unfold Pl.sp2 Pl.frm Pl.til; (repeat' split) <;> omega), rfl⟩
theorem rspan_any (a b n : Int) (w : World) (h1 : -9223372036854775808 ≤ a) (h2 : a ≤ 9223372036854775807) (h3 : -9223372036854775808 ≤ b) (h4 : b ≤ 9223372036854775807) (h6 : n ≤ 9223372036854775807) :
    Calls Try.prog 13 #[.int .i64 a, .int .i64 b, .int .i64 n] w fun e w' => e = .returned (.tuple #[.int .i64 (Pl.sp1 a b (Pl.row n)), .int .i64 (Pl.sp2 a b (Pl.row n))]) ∧ w' = w :=
  rspan_row a b n (Pl.row n) w h1 h2 h3 h4 (row_or n) (Pl.row_bd n h6).1 (Pl.row_bd n h6).2
set_option maxHeartbeats 400000 in
theorem rplace_row (i n m : Int) (w : World) (h1 : -9223372036854775808 ≤ i) (h2 : i ≤ 9223372036854775807) (h7 : (n < 0 ∧ m = 0) ∨ (0 ≤ n ∧ m = n)) (h5 : 0 ≤ m) (h6 : m ≤ 9223372036854775807) :
    Calls Try.prog 15 #[.int .i64 i, .int .i64 n] w fun e w' => e = .returned (.tuple #[.int .i64 (Pl.pl1 i m), .bool (Pl.inR i m)]) ∧ w' = w := by
  have r1 := Pl.rl_bd i m h1 h2 h5 h6
  by_cases c1 : Pl.rl i m < 0
  · obtain ⟨hf, hg⟩ := Pl.inR_no (i := i) (m := m) (by omega)
    rw [hf, hg]; clear hf hg
    rcases h7 with ⟨hn, rfl⟩ | ⟨hn, rfl⟩
    all_goals
      go_enter Try.func15, Try.ntmps15
      go_wp2_with (go_at_call 22; refine (real_any _ _ _ (by omega) (by omega) (by omega) (by omega)).mono ?_; rintro e w' ⟨rfl, rfl⟩)
      go_ret2
      exact ⟨rfl, rfl⟩
  · by_cases c2 : m ≤ Pl.rl i m
    · obtain ⟨hf, hg⟩ := Pl.inR_no (i := i) (m := m) (by omega)
      rw [hf, hg]; clear hf hg
      rcases h7 with ⟨hn, rfl⟩ | ⟨hn, rfl⟩
      all_goals
        go_enter Try.func15, Try.ntmps15
        go_wp2_with (go_at_call 22; refine (real_any _ _ _ (by omega) (by omega) (by omega) (by omega)).mono ?_; rintro e w' ⟨rfl, rfl⟩)
        go_ret2
        exact ⟨rfl, rfl⟩
    · obtain ⟨hf, hg⟩ := Pl.inR_yes (i := i) (m := m) (by omega) (by omega)
      rw [hf, hg]; clear hf hg
      rcases h7 with ⟨hn, rfl⟩ | ⟨hn, rfl⟩
      · omega
      · go_enter Try.func15, Try.ntmps15
        go_wp2_with (go_at_call 22; refine (real_any _ _ _ (by omega) (by omega) (by omega) (by omega)).mono ?_; rintro e w' ⟨rfl, rfl⟩)
        go_ret2
        exact ⟨rfl, rfl⟩
theorem rplace_any (i n : Int) (w : World) (h1 : -9223372036854775808 ≤ i) (h2 : i ≤ 9223372036854775807) (h6 : n ≤ 9223372036854775807) :
    Calls Try.prog 15 #[.int .i64 i, .int .i64 n] w fun e w' => e = .returned (.tuple #[.int .i64 (Pl.pl1 i (Pl.row n)), .bool (Pl.inR i (Pl.row n))]) ∧ w' = w :=
  rplace_row i n (Pl.row n) w h1 h2 (row_or n) (Pl.row_bd n h6).1 (Pl.row_bd n h6).2
end Go.Proofs.Ytdpclcopckbgeaa
