/-
  Plain mathematics on places in rows, and contracts over this program: counted; Span and Place at known answers.
-/
import Derived.Test.YtdpclcopckbgeaaDoorWakes
namespace Go.Proofs.YtdpclcopckbgeaaDoor
open Go.RowKit
namespace Pl
def cnt (i n : Int) : Int := if i < 0 then (if i ≤ -2000 then -2000 else i) + n else i
theorem cnt_bd (i n : Int) (h1 : -9223372036854775808 ≤ i) (h2 : i ≤ 9223372036854775807) (h3 : 0 < n) (h4 : n ≤ 1000) : -9223372036854775808 ≤ cnt i n ∧ cnt i n ≤ 9223372036854775807 := by
  unfold cnt; (repeat' split) <;> omega
theorem st_small (a b : Int) : sp1 a b 0 = 0 ∧ sp2 a b 0 = 0 := by
  unfold sp1 sp2 til frm; (repeat' split) <;> omega
theorem st_bd (a b n : Int) (hn : 0 < n) : 0 ≤ sp1 a b n ∧ sp1 a b n ≤ sp2 a b n ∧ sp2 a b n ≤ n := by
  unfold sp1 sp2 til frm; (repeat' split) <;> omega
/-- what the law asks of each place, out of Span's answer -/
theorem st_facts (a b n : Int) (hn : 0 < n) (hm : n ≤ 1000) :
    (sp1 a b n = 0 ∧ sp2 a b n = 0 ∧ ∀ k : Int, 0 ≤ k → k < n → ((cnt a n ≤ k ∧ ¬ k ≤ cnt b n) ∨ ¬ cnt a n ≤ k)) ∨
    (0 ≤ sp1 a b n ∧ sp1 a b n < sp2 a b n ∧ sp2 a b n ≤ n ∧ ∀ k : Int, 0 ≤ k → k < n → ((cnt a n ≤ k ∧ k ≤ cnt b n ∧ sp1 a b n ≤ k ∧ k < sp2 a b n) ∨ (cnt a n ≤ k ∧ ¬ k ≤ cnt b n ∧ sp1 a b n ≤ k ∧ ¬ k < sp2 a b n) ∨ (¬ cnt a n ≤ k ∧ ¬ sp1 a b n ≤ k))) := by
  by_cases h : til b n < frm a n
  · left
    refine ⟨by unfold sp1; rw [if_pos h], by unfold sp2; rw [if_pos h], ?_⟩
    intro k h0 h1
    unfold til frm rl at h
    unfold cnt
    revert h
    (repeat' split) <;> omega
  · right
    have e1 : sp1 a b n = frm a n := by unfold sp1; rw [if_neg h]
    have e2 : sp2 a b n = til b n + 1 := by unfold sp2; rw [if_neg h]
    rw [e1, e2]
    refine ⟨?_, ?_, ?_, ?_⟩
    · unfold frm; split <;> omega
    · omega
    · unfold til; split <;> omega
    · intro k h0 h1
      unfold til frm rl at *
      unfold cnt
      revert h
      (repeat' split) <;> omega
theorem pl_yes (i n : Int) (hn : 0 < n) (hm : n ≤ 1000) (h : 0 ≤ rl i n ∧ rl i n < n) : inR i n = true ∧ pl1 i n = cnt i n ∧ 0 ≤ cnt i n ∧ cnt i n < n := by
  obtain ⟨g1, g2⟩ := inR_yes h.1 h.2
  refine ⟨g1, ?_, ?_, ?_⟩
  · rw [g2]; unfold rl cnt at *; revert h; (repeat' split) <;> omega
  · unfold rl cnt at *; revert h; (repeat' split) <;> omega
  · unfold rl cnt at *; revert h; (repeat' split) <;> omega
theorem pl_no (i n : Int) (hn : 0 < n) (hm : n ≤ 1000) (h : ¬ (0 ≤ rl i n ∧ rl i n < n)) : inR i n = false ∧ pl1 i n = 0 ∧ ∀ k : Int, 0 ≤ k → k < n → k ≠ cnt i n := by
  obtain ⟨g1, g2⟩ := inR_no h
  refine ⟨g1, g2, ?_⟩
  intro k h0 h1
  unfold rl at h
  unfold cnt
  revert h
  (repeat' split) <;> omega
theorem pl_none (i : Int) : inR i 0 = false ∧ pl1 i 0 = 0 := inR_no (by omega)
end Pl
theorem ret_i {k : IntKind} {a b : Int} (h : a = b) : Ending.returned (.int k a) = .returned (.int k b) := by rw [h]
set_option maxHeartbeats 400000 in
theorem counted_any (i n : Int) (w : World) (h1 : -9223372036854775808 ≤ i) (h2 : i ≤ 9223372036854775807) (h3 : 0 < n) (h4 : n ≤ 1000) :
    Calls Tryd.prog 13 #[.int .i64 i, .int .i64 n] w fun e w' => e = .returned (.int .i64 (Pl.cnt i n)) ∧ w' = w := by
  by_cases c : i < 0
  · by_cases c2 : i ≤ -2000
    · have e : Pl.cnt i n = -2000 + n := by unfold Pl.cnt; rw [if_pos c, if_pos c2]
      rw [e]; clear e
      go_enter Tryd.func13, Tryd.ntmps13
      go_wp2
      go_ret
      exact ⟨ret_i (by omega), rfl⟩
    · have e : Pl.cnt i n = i + n := by unfold Pl.cnt; rw [if_pos c, if_neg c2]
      rw [e]; clear e
      go_enter Tryd.func13, Tryd.ntmps13
      go_wp2
      go_ret
      exact ⟨ret_i (by omega), rfl⟩
  · have e : Pl.cnt i n = i := by unfold Pl.cnt; rw [if_neg c]
    rw [e]; clear e
    go_enter Tryd.func13, Tryd.ntmps13
    go_wp2
    go_ret
    exact ⟨rfl, rfl⟩
theorem counted_at {i n A : Int} (w : World) (h1 : -9223372036854775808 ≤ i) (h2 : i ≤ 9223372036854775807) (h3 : 0 < n) (h4 : n ≤ 1000) (h : Pl.cnt i n = A) :
    Calls Tryd.prog 13 #[.int .i64 i, .int .i64 n] w fun e w' => e = .returned (.int .i64 A) ∧ w' = w := by
  have g := counted_any i n w h1 h2 h3 h4
  rw [h] at g
  exact g
theorem span_at {a b n m f t : Int} (w : World) (h1 : -9223372036854775808 ≤ a) (h2 : a ≤ 9223372036854775807) (h3 : -9223372036854775808 ≤ b) (h4 : b ≤ 9223372036854775807) (h6 : n ≤ 9223372036854775807) (hm : Pl.row n = m) (e1 : Pl.sp1 a b m = f) (e2 : Pl.sp2 a b m = t) :
    Calls Tryd.prog 11 #[.int .i64 a, .int .i64 b, .int .i64 n] w fun e w' => e = .returned (.tuple #[.int .i64 f, .int .i64 t]) ∧ w' = w := by
  have g := span_any a b n w h1 h2 h3 h4 h6
  rw [hm, e1, e2] at g
  exact g
theorem place_at {i n m p : Int} {o : Bool} (w : World) (h1 : -9223372036854775808 ≤ i) (h2 : i ≤ 9223372036854775807) (h6 : n ≤ 9223372036854775807) (hm : Pl.row n = m) (e1 : Pl.pl1 i m = p) (e2 : Pl.inR i m = o) :
    Calls Tryd.prog 12 #[.int .i64 i, .int .i64 n] w fun e w' => e = .returned (.tuple #[.int .i64 p, .bool o]) ∧ w' = w := by
  have g := place_any i n w h1 h2 h6
  rw [hm, e1, e2] at g
  exact g
theorem row_neg {n : Int} (h : n ≤ 0) : Pl.row n = 0 := by unfold Pl.row; split <;> omega
theorem row_pos {n : Int} (h : 0 < n) : Pl.row n = n := by unfold Pl.row; split <;> omega
end Go.Proofs.YtdpclcopckbgeaaDoor
