/-
  Contracts over this program: the document's own SetBit at any input, with its errors.
-/
import Derived.Test.YtlkplmlhlgnnkaaPatchRef3
namespace Go.Proofs.Ytlkplmlhlgnnkaa
open Go.RowKit
set_option linter.unusedVariables false
set_option maxRecDepth 100000 in
set_option maxHeartbeats 2000000 in
theorem rset_any (s : ByteArray) (i b : Int) (w : World) (hs : s.size ≤ reachBytes) (h1 : -9223372036854775808 ≤ i) (h2 : i ≤ 9223372036854775807) :
    Calls Try.prog 19 #[.string s, .int .i64 i, .int .i64 b] w fun e w' => e = .returned (.tuple #[.string (setV s i b).1, .int .i64 (setV s i b).2.1, .int .i64 (setV s i b).2.2]) ∧ Below w.heap.size w w' := by
  have hB := keep (Below.refl w.heap.size w)
  unfold setV
  by_cases c1 : i < 0 ∨ 1073741824 ≤ i ∨ b < 0 ∨ 1 < b
  · rw [if_pos c1]
    have hc4 : decide (i < 0) = true ∨ (decide (i < 0) = false ∧ decide (1073741824 ≤ i) = true) ∨ (decide (i < 0) = false ∧ decide (1073741824 ≤ i) = false ∧ decide (b < 0) = true) ∨ (decide (i < 0) = false ∧ decide (1073741824 ≤ i) = false ∧ decide (b < 0) = false ∧ decide (1 < b) = true) := by
      simp only [decide_eq_true_eq, decide_eq_false_iff_not]
      omega
    clear c1 h1 h2 hs
    rcases hc4 with a1 | ⟨a1, a2⟩ | ⟨a1, a2, a3⟩ | ⟨a1, a2, a3, a4⟩
    all_goals
      go_enter Try.func19, Try.ntmps19
      go_wp2
      go_ret3
      exact ⟨rfl, hB.out⟩
  · rw [if_neg c1]
    by_cases c2 : 1048576 < s.size ∨ 8388608 ≤ i
    · rw [if_pos c2]
      have a1 : decide (i < 0) = false := decide_eq_false (by omega)
      have a2 : decide (1073741824 ≤ i) = false := decide_eq_false (by omega)
      have a3 : decide (b < 0) = false := decide_eq_false (by omega)
      have a4 : decide (1 < b) = false := decide_eq_false (by omega)
      have hc4 : decide (1048576 < (s.size : Int)) = true ∨ (decide (1048576 < (s.size : Int)) = false ∧ decide (8388608 ≤ i) = true) := by
        simp only [decide_eq_true_eq, decide_eq_false_iff_not]
        omega
      clear c1 c2 h1 h2 hs
      rcases hc4 with a5 | ⟨a5, a6⟩
      all_goals
        go_enter Try.func19, Try.ntmps19
        go_wp2
        go_ret3
        exact ⟨rfl, hB.out⟩
    · rw [if_neg c2]
      obtain ⟨p, rfl⟩ : ∃ p : Nat, i = (p : Int) := ⟨i.toNat, by omega⟩
      obtain ⟨n, rfl⟩ : ∃ n : Nat, b = (n : Int) := ⟨b.toNat, by omega⟩
      rw [Int.toNat_natCast, Int.toNat_natCast]
      exact rset_go s p n w (by omega) (by omega) (by omega)
end Go.Proofs.Ytlkplmlhlgnnkaa
