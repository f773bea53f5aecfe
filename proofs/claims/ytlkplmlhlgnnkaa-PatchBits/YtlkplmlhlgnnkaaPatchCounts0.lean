/-
  Contracts over this program: the statement PatchCounts at any input.
-/
import Derived.Test.YtlkplmlhlgnnkaaPatchTurns1
namespace Go.Proofs.Ytlkplmlhlgnnkaa
open Go.RowKit
set_option linter.unusedVariables false
theorem cut_a (n k : Nat) (h0 : 0 < k) (hk : k ≤ n) : sf 0 ((k : Int) - 1) n = 0 ∧ st 0 ((k : Int) - 1) n = k := by
  have hr : Pl.row (n : Int) = (n : Int) := by unfold Pl.row; rw [if_neg (by omega)]
  unfold sf st
  rw [hr]
  simp only [Pl.sp1, Pl.sp2, Pl.frm, Pl.til, Pl.rl]
  constructor <;> (repeat' split) <;> omega
theorem cut_b (n k : Nat) (hk : k < n) : sf (k : Int) (-1) n = k ∧ st (k : Int) (-1) n = n := by
  have hr : Pl.row (n : Int) = (n : Int) := by unfold Pl.row; rw [if_neg (by omega)]
  unfold sf st
  rw [hr]
  simp only [Pl.sp1, Pl.sp2, Pl.frm, Pl.til, Pl.rl]
  constructor <;> (repeat' split) <;> omega
theorem ext_take (s : ByteArray) (k : Nat) : (s.extract 0 k).data.toList = s.data.toList.take k := by
  rw [ByteArray.data_extract, Array.toList_extract, List.extract_eq_take_drop]; simp
theorem ext_drop (s : ByteArray) (k : Nat) : (s.extract k s.size).data.toList = s.data.toList.drop k := by
  rw [ByteArray.data_extract, Array.toList_extract, List.extract_eq_take_drop]
  exact List.take_of_length_le (by rw [List.length_drop, len_is]; omega)
theorem by_list {a b : ByteArray} (h : a.data.toList = b.data.toList) : a = b := by
  cases a; cases b; congr 1; exact Array.toList_inj.1 h
theorem app_list (a b : ByteArray) : (a ++ b).data.toList = a.data.toList ++ b.data.toList := by
  rw [ByteArray.data_append, Array.toList_append]
/-- a text cut at k: letters alone -/
theorem cut_facts (s : ByteArray) (k : Nat) (hk : k ≤ s.size) : ∃ (A B : ByteArray), s.extract 0 k = A ∧ s.extract k s.size = B ∧ A ++ B = s ∧ A.size + B.size = s.size ∧ A.size = k ∧ Pt.ones A.data.toList + Pt.ones B.data.toList = Pt.ones s.data.toList := by
  refine ⟨_, _, rfl, rfl, ?_, ?_, ?_, ?_⟩
  · exact by_list (by rw [app_list, ext_take, ext_drop, List.take_append_drop])
  · rw [ByteArray.size_extract, ByteArray.size_extract]; omega
  · rw [ByteArray.size_extract]; omega
  · rw [ext_take, ext_drop, ← Pt.ones_app, List.take_append_drop]
theorem rem_k (a : Int) (n : Nat) (ha : -9223372036854775808 ≤ a) (hb : a ≤ 9223372036854775807) (hn : n ≤ 140737488351232) : ∃ k : Nat, k ≤ n ∧ ((a.tmod ((n : Int) + 1) = (k : Int) ∧ decide (a.tmod ((n : Int) + 1) < 0) = false) ∨ (decide (a.tmod ((n : Int) + 1) < 0) = true ∧ a.tmod ((n : Int) + 1) + ((n : Int) + 1) = (k : Int))) := by
  have h1 : a.tmod ((n : Int) + 1) < (n : Int) + 1 := Int.tmod_lt_of_pos a (by omega)
  have h2 : -((n : Int) + 1) < a.tmod ((n : Int) + 1) := by
    have := Int.tmod_lt_of_pos (-a) (show (0 : Int) < (n : Int) + 1 by omega)
    rw [Int.neg_tmod] at this
    omega
  by_cases c : a.tmod ((n : Int) + 1) < 0
  · exact ⟨(a.tmod ((n : Int) + 1) + ((n : Int) + 1)).toNat, by omega, .inr ⟨decide_eq_true c, by omega⟩⟩
  · exact ⟨(a.tmod ((n : Int) + 1)).toNat, by omega, .inl ⟨by omega, decide_eq_false c⟩⟩
end Go.Proofs.Ytlkplmlhlgnnkaa
