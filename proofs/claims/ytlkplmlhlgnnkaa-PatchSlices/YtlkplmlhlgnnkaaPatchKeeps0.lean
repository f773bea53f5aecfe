/-
  Contracts over this program: the statement PatchKeeps at any input.
-/
import Derived.Test.YtlkplmlhlgnnkaaPatchCounts0
namespace Go.Proofs.Ytlkplmlhlgnnkaa
open Go.RowKit
set_option linter.unusedVariables false
theorem cut_at (n p m : Nat) (hm : 0 < m) (h : p + m ≤ n) : sf (p : Int) ((p : Int) + (m : Int) - 1) n = p ∧ st (p : Int) ((p : Int) + (m : Int) - 1) n = p + m := by
  have hr : Pl.row (n : Int) = (n : Int) := by unfold Pl.row; rw [if_neg (by omega)]
  unfold sf st
  rw [hr]
  simp only [Pl.sp1, Pl.sp2, Pl.frm, Pl.til, Pl.rl]
  constructor <;> (repeat' split) <;> omega
theorem ext_mid (s : ByteArray) (a b : Nat) : (s.extract a b).data.toList = (s.data.toList.drop a).take (b - a) := by
  rw [ByteArray.data_extract, Array.toList_extract, List.extract_eq_take_drop]
theorem getD_at (s : ByteArray) (j : Nat) (h : j < s.size) : s[j] = s.data.toList.getD j 0 := by
  rw [List.getD_eq_getElem?_getD, List.getElem?_eq_getElem (by rw [len_is]; exact h)]
  simp
  rfl
/-- what the walk needs of a text laid over another one -/
theorem over_facts (s v : ByteArray) (p : Nat) (hv : 0 < v.size) (hs : s.size ≤ 1048576) (hp : p + v.size ≤ 1048576) :
    ∃ S : ByteArray, ovl s p v = (S, 0) ∧ ovl S p v = (S, 0) ∧ S.size = max s.size (p + v.size) ∧ S.extract p (p + v.size) = v ∧
      (∀ j (h : j < S.size), (∀ (g : p ≤ j ∧ j < p + v.size), S[j] = v[j - p]'(by omega)) ∧ (¬ (p ≤ j ∧ j < p + v.size) → ∀ (g : j < s.size), S[j] = s[j]) ∧ (¬ (p ≤ j ∧ j < p + v.size) → ¬ j < s.size → S[j] = 0)) := by
  have e1 : ovl s p v = (⟨(Pt.over s.data.toList p v.data.toList).toArray⟩, 0) := by
    unfold ovl
    rw [if_neg (by omega), if_neg (by omega), Int.toNat_natCast, if_neg (by omega)]
  have l1 := Pt.over_len s.data.toList p v.data.toList
  rw [len_is, len_is] at l1
  have e2 : ovl ⟨(Pt.over s.data.toList p v.data.toList).toArray⟩ p v = (⟨(Pt.over s.data.toList p v.data.toList).toArray⟩, 0) := by
    unfold ovl
    rw [if_neg (by omega), if_neg (by omega), Int.toNat_natCast, mk_size, l1, if_neg (by omega), mk_list, Pt.over_twice]
  refine ⟨_, e1, e2, by rw [mk_size]; exact l1, ?_, fun j h => ?_⟩
  · refine by_list ?_
    rw [ext_mid, mk_list, show p + v.size - p = v.data.toList.length by rw [len_is]; omega]
    exact Pt.over_cut _ _ _
  · have ea := Pt.over_at s.data.toList p v.data.toList j
    rw [len_is] at ea
    refine ⟨fun g => ?_, fun g g2 => ?_, fun g g2 => ?_⟩
    · rw [getD_at _ _ h, mk_list, ea, if_pos g, getD_at]
    · rw [getD_at _ _ h, mk_list, ea, if_neg g, getD_at]
    · rw [getD_at _ _ h, mk_list, ea, if_neg g, List.getD_eq_getElem?_getD, List.getElem?_eq_none (by rw [len_is]; omega)]; rfl
set_option maxRecDepth 100000 in
set_option maxHeartbeats 2000000 in
theorem keeps_ahead (s v : ByteArray) (i : Int) (w : World) (hs : s.size ≤ reachBytes) (hv : v.size ≤ reachBytes) (h1 : -9223372036854775808 ≤ i) (h2 : i < 0) :
    Calls Try.prog 6 #[.string s, .int .i64 i, .string v] w fun e w' => e = .returned (.bool true) ∧ Below w.heap.size w w' := by
  have SB := keep fun w => overlay_any s i v w h1 (by omega) (Nat.le_trans hs (by decide)) (Nat.le_trans hv (by decide))
  have e1 : ovl s i v = (.empty, 3) := by unfold ovl; rw [if_pos h2]
  rw [e1] at SB
  have hem : ByteArray.empty.toList.isEmpty = true := by rw [empty_eq]; rfl
  clear e1 hs hv h1
  go_enter Try.func6, Try.ntmps6
  go_wp2_with fail
  refine (wakes_any _).mono ?_
  rintro e w1 ⟨rfl, b1⟩
  go_wp2_with fail
  refine (SB.out _).mono ?_
  rintro e w2 ⟨rfl, b2⟩
  have B2 := keep (b1.trans (b2.mono b1.size))
  clear b1 b2
  go_wp2
  go_ret
  exact ⟨rfl, B2.out⟩
set_option maxRecDepth 100000 in
set_option maxHeartbeats 2000000 in
theorem keeps_nothing (s v : ByteArray) (p : Nat) (w : World) (hs : s.size ≤ reachBytes) (hv : v.size = 0) (h2 : p ≤ 9223372036854775807) :
    Calls Try.prog 6 #[.string s, .int .i64 p, .string v] w fun e w' => e = .returned (.bool true) ∧ Below w.heap.size w w' := by
  have SB := keep fun w => overlay_any s p v w (by omega) (by omega) (Nat.le_trans hs (by decide)) (by rw [hv]; decide)
  have e1 : ovl s p v = (s, 0) := by unfold ovl; rw [if_neg (by omega), if_pos hv]
  rw [e1] at SB
  have hem : v.toList.isEmpty = true := by rw [empty_eq]; exact decide_eq_true hv
  have eS : (s.toList == s.toList) = true := beq_self_eq_true _
  have i1 : decide ((p : Int) < 0) = false := decide_eq_false (by omega)
  clear e1 hs hv h2
  go_enter Try.func6, Try.ntmps6
  go_wp2_with fail
  refine (wakes_any _).mono ?_
  rintro e w1 ⟨rfl, b1⟩
  go_wp2_with fail
  refine (SB.out _).mono ?_
  rintro e w2 ⟨rfl, b2⟩
  have B2 := keep (b1.trans (b2.mono b1.size))
  clear b1 b2
  go_wp2
  go_ret
  exact ⟨rfl, B2.out⟩
set_option maxRecDepth 100000 in
set_option maxHeartbeats 2000000 in
theorem keeps_long (s v : ByteArray) (p : Nat) (w : World) (hs : s.size ≤ reachBytes) (hv : v.size ≤ reachBytes) (hv0 : 0 < v.size) (h2 : p ≤ 9223372036854775807) (hc : 1048576 < s.size ∨ 1048576 < p + v.size) :
    Calls Try.prog 6 #[.string s, .int .i64 p, .string v] w fun e w' => e = .returned (.bool true) ∧ Below w.heap.size w w' := by
  have SB := keep fun w => overlay_any s p v w (by omega) (by omega) (Nat.le_trans hs (by decide)) (Nat.le_trans hv (by decide))
  have e1 : ovl s p v = (.empty, 2) := by unfold ovl; rw [if_neg (by omega), if_neg (by omega), Int.toNat_natCast, if_pos hc]
  rw [e1] at SB
  have hem : v.toList.isEmpty = false := by rw [empty_eq]; exact decide_eq_false (by omega)
  have hem2 : ByteArray.empty.toList.isEmpty = true := by rw [empty_eq]; rfl
  have i1 : decide ((p : Int) < 0) = false := decide_eq_false (by omega)
  unfold reachBytes at hs hv
  have hc4 : decide (1048576 < (s.size : Int)) = true ∨ (decide (1048576 < (s.size : Int)) = false ∧ decide (1048576 < (p : Int)) = true) ∨ (decide (1048576 < (s.size : Int)) = false ∧ decide (1048576 < (p : Int)) = false ∧ decide (1048576 < (p : Int) + (v.size : Int)) = true ∧ (p : Int) + (v.size : Int) ≤ 9223372036854775807) := by
    by_cases a1 : 1048576 < s.size
    · exact .inl (decide_eq_true (by omega))
    · by_cases a2 : 1048576 < p
      · exact .inr (.inl ⟨decide_eq_false (by omega), decide_eq_true (by omega)⟩)
      · exact .inr (.inr ⟨decide_eq_false (by omega), decide_eq_false (by omega), decide_eq_true (by omega), by omega⟩)
  clear e1 hs hv0 hc h2
  rcases hc4 with a1 | ⟨a1, a2⟩ | ⟨a1, a2, a3, a4⟩
  all_goals
    go_enter Try.func6, Try.ntmps6
    go_wp2_with fail
    refine (wakes_any _).mono ?_
    rintro e w1 ⟨rfl, b1⟩
    go_wp2_with fail
    refine (SB.out _).mono ?_
    rintro e w2 ⟨rfl, b2⟩
    have B2 := keep (b1.trans (b2.mono b1.size))
    clear b1 b2
    go_wp2
    go_ret
    exact ⟨rfl, B2.out⟩
end Go.Proofs.Ytlkplmlhlgnnkaa
