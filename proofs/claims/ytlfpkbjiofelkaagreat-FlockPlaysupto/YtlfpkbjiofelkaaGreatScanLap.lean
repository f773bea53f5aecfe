/-
  Plain mathematics, with no program in sight: counting up in a great table, and in a small one into which it folds.
-/
import Derived.Test.YtlfpkbjiofelkaaGreatScanRef
namespace Go.Proofs.YtlfpkbjiofelkaaGreat
namespace Rv
theorem rv_nil {d z : Nat} (h : rv d z = 0) : z % 2 ^ d = 0 := by rw [← rv_rv, h, rv_zero]
theorem rv_low (A d x : Nat) : rv (A + d) x / 2 ^ d = rv A x ∧ rv (A + d) x % 2 ^ d = rv d (x / 2 ^ A) := by
  rw [rv_split]
  have h := rv_lt d (x / 2 ^ A)
  constructor
  · rw [Nat.mul_comm, Nat.mul_add_div (two_pos d), Nat.div_eq_of_lt h, Nat.add_zero]
  · rw [Nat.mul_comm, Nat.mul_add_mod, Nat.mod_eq_of_lt h]
theorem small_iff (A d : Nat) {y : Nat} (hy : y < 2 ^ (A + d)) : y < 2 ^ A ↔ rv (A + d) y % 2 ^ d = 0 := by
  rw [(rv_low A d y).2]
  have hp := two_pos A
  have hq : y / 2 ^ A < 2 ^ d := by rw [Nat.div_lt_iff_lt_mul hp, Nat.mul_comm, ← Nat.pow_add]; exact hy
  constructor
  · intro h; rw [Nat.div_eq_of_lt h, rv_zero]
  · intro h
    have h1 := rv_nil h
    rw [Nat.mod_eq_of_lt hq] at h1
    rcases Nat.div_eq_zero_iff.1 h1 with h2 | h2
    · omega
    · exact h2
/-- the next cursor of the great table, seen in the small one -/
theorem next_low (A d x : Nat) : rv A (next (A + d) x) = (if (rv (A + d) x + 1) % 2 ^ d = 0 then (rv A x + 1) % 2 ^ A else rv A x) := by
  have h1 := (rv_low A d (next (A + d) x)).1
  rw [rv_next] at h1
  rw [← h1, Nat.pow_add, Nat.mul_comm, Nat.mod_mul_right_div_self, Nat.succ_div]
  have h2 := (rv_low A d x).1
  rw [h2]
  by_cases h : (rv (A + d) x + 1) % 2 ^ d = 0
  · rw [if_pos h, if_pos (Nat.dvd_of_mod_eq_zero h)]
  · rw [if_neg h, if_neg (fun hd => h (Nat.mod_eq_zero_of_dvd hd)), Nat.add_zero, Nat.mod_eq_of_lt (rv_lt A x)]
theorem mod_step (A d R : Nat) : (R + 1) % 2 ^ (A + d) % 2 ^ d = (R + 1) % 2 ^ d := by
  rw [Nat.pow_add, Nat.mul_comm]
  exact Nat.mod_mul_right_mod _ _ _
theorem nx_iff (A d x : Nat) : next (A + d) x < 2 ^ A ↔ (rv (A + d) x + 1) % 2 ^ d = 0 := by
  rw [small_iff A d (next_lt (A + d) x), rv_next, mod_step]
theorem nx_stop {A d x : Nat} (h : next (A + d) x < 2 ^ A) : next (A + d) x = next A x := by
  have h1 := next_low A d x
  rw [if_pos ((nx_iff A d x).1 h), ← rv_next] at h1
  have h2 := congrArg (rv A) h1
  rw [rv_rv, rv_rv, Nat.mod_eq_of_lt h, Nat.mod_eq_of_lt (next_lt A x)] at h2
  exact h2
theorem nx_go {A d x : Nat} (h : ¬ next (A + d) x < 2 ^ A) : rv A (next (A + d) x) = rv A x ∧ rv (A + d) (next (A + d) x) = rv (A + d) x + 1 ∧ rv (A + d) x + 1 < 2 ^ (A + d) := by
  have h0 : ¬ (rv (A + d) x + 1) % 2 ^ d = 0 := fun e => h ((nx_iff A d x).2 e)
  have h1 := next_low A d x
  rw [if_neg h0] at h1
  have hlt := rv_lt (A + d) x
  have hne : rv (A + d) x + 1 ≠ 2 ^ (A + d) := by
    intro e
    apply h0
    rw [e, Nat.pow_add]
    exact Nat.mul_mod_left _ _
  refine ⟨h1, ?_, by omega⟩
  rw [rv_next, Nat.mod_eq_of_lt (by omega)]
theorem next_same {A x y : Nat} (h : rv A x = rv A y) : next A x = next A y := by unfold next; rw [h]
end Rv
end Go.Proofs.YtlfpkbjiofelkaaGreat
