/-
  Contracts over this program: the cursor behind a cursor, the program's and the document's.
-/
import Derived.Test.YtmokahcjkokanaaScanAfter
import Derived.Test.YtmokahcjkokanaaDrawMath
namespace Go.Proofs.Ytmokahcjkokanaa
open Go.RowKit
theorem pow_one {L M x : Nat} (h1 : 2 ^ L ≤ x) (h2 : x < 2 ^ (L + 1)) (h3 : 2 ^ M ≤ x) (h4 : x < 2 ^ (M + 1)) : L = M := by
  have a : L < M + 1 := (Nat.pow_lt_pow_iff_right (by omega)).1 (Nat.lt_of_le_of_lt h1 h4)
  have b : M < L + 1 := (Nat.pow_lt_pow_iff_right (by omega)).1 (Nat.lt_of_le_of_lt h3 h2)
  omega
set_option maxRecDepth 100000 in
theorem len_bits (x : Nat) (L : Nat) (w : World) (h0 : 2 ^ L ≤ x) (h1 : x < 2 ^ (L + 1)) (hx : x < 18446744073709551616) :
    Calls Try.prog 48 #[.int .u64 x] w fun e w' => e = .returned (.int .i64 ((L + 1 : Nat) : Int)) ∧ w' = w := by
  have hp : 0 < x := Nat.lt_of_lt_of_le (Nat.pow_pos (by omega)) h0
  have m := len64_int (x : Int) w (by omega) (by omega)
  have K0 := And.intro h0 h1
  clear h0 h1
  go_enter Try.func48, Try.ntmps48
  go_wp2_with fail
  refine m.mono ?_
  rintro _ w' ⟨⟨M, rfl, q1, q2, q3⟩, rfl⟩
  rw [Int.toNat_natCast] at q1 q2
  have e := pow_one K0.1 K0.2 q1 q2
  subst e
  clear q1 q2 K0
  go_wp2
  go_ret
  exact ⟨rfl, rfl⟩
set_option maxRecDepth 100000 in
theorem reversed_any (x L : Nat) (w : World) (hx : x < 2 ^ 64) (hL : L ≤ 62) :
    Calls Try.prog 90 #[.int .u64 x, .int .i64 L] w fun e w' => e = .returned (.int .u64 ((Rv.rv L x : Nat) : Int)) ∧ w' = w := by
  have m := rev_any x w hx
  have hR := Rv.rv_lt 64 x
  have e := Rv.rv_big (L := L) (by omega) x
  rw [e]
  generalize Rv.rv 64 x = R at *
  clear e
  go_enter Try.func90, Try.ntmps90
  go_wp2_with fail
  refine m.mono ?_
  rintro _ w' ⟨rfl, rfl⟩
  go_wp2
  go_ret
  exact ⟨congrArg Ending.returned (congrArg (Value.int IntKind.u64) (by simp)), rfl⟩
/-- so many digits count in n buckets -/
def Lg (n : Int) (L : Nat) : Prop := 2 ^ L ≤ (max n 1).toNat ∧ (max n 1).toNat < 2 ^ (L + 1)
theorem lg_pow (L : Nat) : Lg ((2 ^ L : Nat) : Int) L := by
  have := Rv.two_pos L
  have e : (max ((2 ^ L : Nat) : Int) 1).toNat = 2 ^ L := by omega
  refine ⟨by rw [e]; exact Nat.le_refl _, by rw [e, Nat.pow_succ]; omega⟩
theorem lg_le {n : Int} {L : Nat} (h : Lg n L) (hn : n ≤ 9223372036854775807) : L ≤ 62 := by
  have h1 := h.1
  by_cases hL : L ≤ 62
  · exact hL
  · exfalso
    have := Nat.pow_le_pow_right (n := 2) (by omega) (show 63 ≤ L by omega)
    omega
set_option maxRecDepth 100000 in
theorem after_any (c : Nat) (n : Int) (L : Nat) (w : World) (hc : c < 2 ^ 64) (h0 : -9223372036854775808 ≤ n) (h1 : n ≤ 9223372036854775807) (hL : Lg n L) :
    Calls Try.prog 79 #[.int .u64 c, .int .i64 n] w fun e w' => e = .returned (.int .u64 ((Rv.next L c : Nat) : Int)) ∧ w' = w := by
  have hle := lg_le hL h1
  obtain ⟨m, hm⟩ : ∃ m : Nat, max n 1 = (m : Int) := ⟨(max n 1).toNat, by omega⟩
  have q := hL
  unfold Lg at q
  rw [hm, Int.toNat_natCast] at q
  have mL := len_bits m L w q.1 q.2 (by omega)
  have mR := reversed_any c L w hc hle
  have hlt := Rv.rv_lt L c
  have hp := Nat.pow_le_pow_right (n := 2) (by omega) hle
  have mN := reversed_any (Rv.rv L c + 1) L w (by omega) hle
  have hfin : ((Rv.next L c : Nat) : Int) = ((Rv.rv L (Rv.rv L c + 1) : Nat) : Int) := rfl
  rw [hfin]
  generalize Rv.rv L c = R at *
  have hR : R < 4611686018427387905 := by omega
  clear hlt hp hfin q hL
  go_enter Try.func79, Try.ntmps79
  go_wp2_with fail
  refine mL.mono ?_
  rintro _ w' ⟨rfl, rfl⟩
  go_wp2_with fail
  refine mR.mono ?_
  rintro _ w' ⟨rfl, rfl⟩
  go_wp2_with fail
  refine mN.mono ?_
  rintro _ w' ⟨rfl, rfl⟩
  go_wp2
  go_ret
  exact ⟨rfl, rfl⟩
/- the document's -/
theorem lg_ex (n : Int) : ∃ L, Lg n L := by
  have h : (max n 1).toNat ≠ 0 := by omega
  exact ⟨(max n 1).toNat.log2, Nat.log2_self_le h, Nat.lt_log2_self⟩
theorem next_0_8 : Rv.next 3 0 = 4 := by decide +kernel
theorem next_4_8 : Rv.next 3 4 = 2 := by decide +kernel
theorem after_0_8 (w : World) : Calls Try.prog 79 #[.int .u64 0, .int .i64 8] w fun e w' => e = .returned (.int .u64 4) ∧ w' = w := by
  have m := after_any 0 8 3 w (by decide) (by decide) (by decide) (lg_pow 3)
  rw [next_0_8] at m
  exact m
theorem after_4_8 (w : World) : Calls Try.prog 79 #[.int .u64 4, .int .i64 8] w fun e w' => e = .returned (.int .u64 2) ∧ w' = w := by
  have m := after_any 4 8 3 w (by decide) (by decide) (by decide) (lg_pow 3)
  rw [next_4_8] at m
  exact m
end Go.Proofs.Ytmokahcjkokanaa
