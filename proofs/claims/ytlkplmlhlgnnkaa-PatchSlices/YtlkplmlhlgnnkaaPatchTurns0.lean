/-
  Contracts over this program: the statement PatchTurns at any input.
-/
import Derived.Test.YtlkplmlhlgnnkaaPatchWakes
namespace Go.Proofs.Ytlkplmlhlgnnkaa
open Go.RowKit
set_option linter.unusedVariables false
theorem all_span (n : Nat) : sf 0 (-1) n = 0 ∧ st 0 (-1) n = n := by
  have hr : Pl.row (n : Int) = (n : Int) := by unfold Pl.row; rw [if_neg (by omega)]
  unfold sf st
  rw [hr]
  simp only [Pl.sp1, Pl.sp2, Pl.frm, Pl.til, Pl.rl]
  constructor <;> (repeat' split) <;> omega
theorem ext_all (s : ByteArray) : s.extract 0 s.size = s := by
  have h : (s.extract 0 s.size).data.toList = s.data.toList := by
    rw [ByteArray.data_extract, Array.toList_extract, List.extract_eq_take_drop]
    simp only [List.drop_zero, Nat.sub_zero]
    exact List.take_of_length_le (Nat.le_of_eq (len_is s))
  cases s with
  | mk a =>
    generalize (ByteArray.mk a).extract 0 (ByteArray.mk a).size = x at h
    cases x
    congr 1
    exact Array.toList_inj.1 h
theorem ones_all (s : ByteArray) (w : World) (hs : s.size ≤ reachBytes) :
    Calls Try.prog 12 #[.string s, .int .i64 0, .int .i64 (-1)] w fun e w' => e = .returned (.int .i64 (Pt.ones s.data.toList : Nat)) ∧ Below w.heap.size w w' := by
  have h := ones_any s 0 (-1) w (by omega) (by omega) (by omega) (by omega) hs
  rw [(all_span s.size).1, (all_span s.size).2, ext_all] at h
  exact h
theorem mk_list (l : List UInt8) : (ByteArray.mk l.toArray).data.toList = l := rfl
theorem mk_size (l : List UInt8) : (ByteArray.mk l.toArray).size = l.length := by simp [ByteArray.size]
theorem fill_front (s : ByteArray) (n : Nat) : (ByteArray.mk (Pt.fill s.data.toList n).toArray).extract 0 s.size = s := by
  have h : ((ByteArray.mk (Pt.fill s.data.toList n).toArray).extract 0 s.size).data.toList = s.data.toList := by
    rw [ByteArray.data_extract, Array.toList_extract, List.extract_eq_take_drop]
    simp only [List.drop_zero, Nat.sub_zero]
    unfold Pt.fill
    rw [← len_is s]
    simp
  cases s with
  | mk a =>
    generalize (ByteArray.mk (Pt.fill (ByteArray.mk a).data.toList n).toArray).extract 0 (ByteArray.mk a).size = x at h
    cases x
    congr 1
    exact Array.toList_inj.1 h
theorem bv_same (s : ByteArray) (p n : Nat) (hn : n < 2) (o : Int) (h : ¬ o = (p : Int)) : bitV ⟨(Pt.setb s.data.toList p n).toArray⟩ o = bitV s o := by
  unfold bitV
  by_cases c : o < 0 ∨ 1073741824 ≤ o
  · rw [if_pos c, if_pos c]
  · rw [if_neg c, if_neg c, mk_list, Pt.bt_setb _ _ _ _ hn, if_neg (by omega)]
/-- what the walk needs of a bit that is set: letters alone -/
theorem set_facts (s : ByteArray) (p n : Nat) (hn : n < 2) (hs : s.size ≤ 1048576) (hp : p < 8388608) :
    ∃ (S R : ByteArray) (v M : Nat), setV s p n = (S, (v : Int), 0) ∧ setV S p v = (R, (n : Int), 0) ∧ v < 2 ∧ S.size = M ∧ R.size = M ∧ M = max s.size (p / 8 + 1) ∧ R.extract 0 s.size = s ∧
      bitV s p = ((v : Int), 0) ∧ bitV S p = ((n : Int), 0) ∧ (∀ o : Int, ¬ o = (p : Int) → bitV S o = bitV s o) ∧ Pt.ones S.data.toList + v = Pt.ones s.data.toList + n ∧ M ≤ 1048576 := by
  have hv := Pt.bt_le s.data.toList p
  refine ⟨⟨(Pt.setb s.data.toList p n).toArray⟩, ⟨(Pt.setb (Pt.setb s.data.toList p n) p (Pt.bt s.data.toList p)).toArray⟩, Pt.bt s.data.toList p, max s.size (p / 8 + 1), ?_, ?_, hv, ?_, ?_, rfl, ?_, ?_, ?_, fun o h => bv_same s p n hn o h, ?_, by omega⟩
  · unfold setV
    rw [if_neg (by omega), if_neg (by omega), Int.toNat_natCast, Int.toNat_natCast]
  · unfold setV
    rw [if_neg (by omega), mk_size, Pt.setb_len, len_is, if_neg (by omega), Int.toNat_natCast, Int.toNat_natCast, mk_list, Pt.bt_setb _ _ _ _ hn, if_pos rfl]
  · rw [mk_size, Pt.setb_len, len_is]
  · rw [mk_size, Pt.setb_len, Pt.setb_len, len_is]; omega
  · rw [Pt.setb_back _ _ _ hn]; exact fill_front s _
  · unfold bitV; rw [if_neg (by omega), Int.toNat_natCast]
  · unfold bitV; rw [if_neg (by omega), Int.toNat_natCast, mk_list, Pt.bt_setb _ _ _ _ hn, if_pos rfl]
  · rw [mk_list]; exact Pt.ones_setb _ _ _ hn
set_option maxRecDepth 100000 in
set_option maxHeartbeats 2000000 in
theorem turns_arg (s : ByteArray) (i b o : Int) (w : World) (hs : s.size ≤ reachBytes) (h1 : -9223372036854775808 ≤ i) (h2 : i ≤ 9223372036854775807) (hc : i < 0 ∨ 1073741824 ≤ i ∨ b < 0 ∨ 1 < b) :
    Calls Try.prog 7 #[.string s, .int .i64 i, .int .i64 b, .int .i64 o] w fun e w' => e = .returned (.bool true) ∧ Below w.heap.size w w' := by
  have SB := keep fun w => setbit_any s i b w hs h1 h2
  have e1 : setV s i b = (.empty, 0, 3) := by unfold setV; rw [if_pos hc]
  rw [e1] at SB
  clear e1 hs
  have hem : ByteArray.empty.toList.isEmpty = true := by rw [empty_eq]; rfl
  have hc4 : (i < 0) ∨ (¬ i < 0 ∧ 1073741824 ≤ i) ∨ (¬ i < 0 ∧ ¬ 1073741824 ≤ i ∧ b < 0) ∨ (¬ i < 0 ∧ ¬ 1073741824 ≤ i ∧ ¬ b < 0 ∧ 1 < b) := by omega
  clear hc h1 h2
  rcases hc4 with a1 | ⟨a1, a2⟩ | ⟨a1, a2, a3⟩ | ⟨a1, a2, a3, a4⟩
  all_goals
    go_enter Try.func7, Try.ntmps7
    go_wp2_with fail
    refine (wakes_any _).mono ?_
    rintro e w1 ⟨rfl, b1⟩
    go_wp2_with fail
    refine (SB.out _).mono ?_
    rintro e w2 ⟨rfl, b2⟩
    have B2 := keep (b1.trans (b2.mono b1.size))
    clear b1 b2
    go_wp2
    go_ret
    exact ⟨rfl, B2.out⟩
set_option maxRecDepth 100000 in
set_option maxHeartbeats 2000000 in
theorem turns_long (s : ByteArray) (p n : Nat) (o : Int) (w : World) (hs : s.size ≤ reachBytes) (hp : p < 1073741824) (hn : n < 2) (hc : 1048576 < s.size ∨ 8388608 ≤ p) :
    Calls Try.prog 7 #[.string s, .int .i64 p, .int .i64 n, .int .i64 o] w fun e w' => e = .returned (.bool true) ∧ Below w.heap.size w w' := by
  have SB := keep fun w => setbit_any s p n w hs (by omega) (by omega)
  have e1 : setV s p n = (.empty, 0, 2) := by unfold setV; rw [if_neg (by omega), if_pos (by omega)]
  rw [e1] at SB
  clear e1
  unfold reachBytes at hs
  have hem : ByteArray.empty.toList.isEmpty = true := by rw [empty_eq]; rfl
  have i1 : decide ((p : Int) < 0) = false := decide_eq_false (by omega)
  have i2 : decide (1073741824 ≤ (p : Int)) = false := decide_eq_false (by omega)
  have i3 : decide ((n : Int) < 0) = false := decide_eq_false (by omega)
  have i4 : decide (1 < (n : Int)) = false := decide_eq_false (by omega)
  have hc4 : (1048576 < (s.size : Int)) ∨ (¬ 1048576 < (s.size : Int) ∧ 8388608 ≤ (p : Int)) := by omega
  clear hc hp hn
  rcases hc4 with a1 | ⟨a1, a2⟩
  all_goals
    go_enter Try.func7, Try.ntmps7
    go_wp2_with fail
    refine (wakes_any _).mono ?_
    rintro e w1 ⟨rfl, b1⟩
    go_wp2_with fail
    refine (SB.out _).mono ?_
    rintro e w2 ⟨rfl, b2⟩
    have B2 := keep (b1.trans (b2.mono b1.size))
    clear b1 b2
    go_wp2
    go_ret
    exact ⟨rfl, B2.out⟩
end Go.Proofs.Ytlkplmlhlgnnkaa
