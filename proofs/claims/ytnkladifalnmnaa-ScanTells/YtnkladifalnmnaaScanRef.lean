/-
  Contracts over this program: the cursor behind a cursor, the program's and the document's.
-/
import Derived.Test.YtnkladifalnmnaaScanAfter
import Derived.Test.YtnkladifalnmnaaDrawMath
namespace Go.Proofs.Ytnkladifalnmnaa
open Go.RowKit
theorem pow_one {L M x : Nat} (h1 : 2 ^ L ≤ x) (h2 : x < 2 ^ (L + 1)) (h3 : 2 ^ M ≤ x) (h4 : x < 2 ^ (M + 1)) : L = M := by
  have a : L < M + 1 := (Nat.pow_lt_pow_iff_right (by omega)).1 (Nat.lt_of_le_of_lt h1 h4)
  have b : M < L + 1 := (Nat.pow_lt_pow_iff_right (by omega)).1 (Nat.lt_of_le_of_lt h3 h2)
  omega
set_option maxRecDepth 100000 in
theorem len_bits (x : Nat) (L : Nat) (w : World) (h0 : 2 ^ L ≤ x) (h1 : x < 2 ^ (L + 1)) (hx : x < 18446744073709551616) :
    Calls Try.prog 38 #[.int .u64 x] w fun e w' => e = .returned (.int .i64 ((L + 1 : Nat) : Int)) ∧ w' = w := by
  have hp : 0 < x := Nat.lt_of_lt_of_le (Nat.pow_pos (by omega)) h0
  have m := len64_int (x : Int) w (by omega) (by omega)
  have K0 := And.intro h0 h1
  clear h0 h1
  go_enter Try.func38, Try.ntmps38
  go_wp2_with fail
  refine m.mono ?_
  rintro _ w' ⟨⟨M, rfl, q1, q2, q3⟩, rfl⟩
  rw [Int.toNat_natCast] at q1 q2
  have e := pow_one K0.1 K0.2 q1 q2
  subst e
  clear q1 q2 K0
  go_wp2
  go_ret
  exact ⟨rfl, rfl⟩
set_option maxRecDepth 100000 in
theorem reversed_any (x L : Nat) (w : World) (hx : x < 2 ^ 64) (hL : L ≤ 62) :
    Calls Try.prog 39 #[.int .u64 x, .int .i64 L] w fun e w' => e = .returned (.int .u64 ((Rv.rv L x : Nat) : Int)) ∧ w' = w := by
  have m := rev_any x w hx
  have hR := Rv.rv_lt 64 x
  have e := Rv.rv_big (L := L) (by omega) x
  rw [e]
  generalize Rv.rv 64 x = R at *
  clear e
  go_enter Try.func39, Try.ntmps39
  go_wp2_with fail
  refine m.mono ?_
  rintro _ w' ⟨rfl, rfl⟩
  go_wp2
  go_ret
  exact ⟨congrArg Ending.returned (congrArg (Value.int IntKind.u64) (by simp)), rfl⟩
/-- so many digits count in n buckets -/
def Lg (n : Int) (L : Nat) : Prop := 2 ^ L ≤ (max n 1).toNat ∧ (max n 1).toNat < 2 ^ (L + 1)
theorem lg_pow (L : Nat) : Lg ((2 ^ L : Nat) : Int) L := by
  have := Rv.two_pos L
  have e : (max ((2 ^ L : Nat) : Int) 1).toNat = 2 ^ L := by omega
  refine ⟨by rw [e]; exact Nat.le_refl _, by rw [e, Nat.pow_succ]; omega⟩
theorem lg_le {n : Int} {L : Nat} (h : Lg n L) (hn : n ≤ 9223372036854775807) : L ≤ 62 := by
  have h1 := h.1
  by_cases hL : L ≤ 62
  · exact hL
  · exfalso
    have := Nat.pow_le_pow_right (n := 2) (by omega) (show 63 ≤ L by omega)
    omega
set_option maxRecDepth 100000 in
theorem after_any (c : Nat) (n : Int) (L : Nat) (w : World) (hc : c < 2 ^ 64) (h0 : -9223372036854775808 ≤ n) (h1 : n ≤ 9223372036854775807) (hL : Lg n L) :
    Calls Try.prog 24 #[.int .u64 c, .int .i64 n] w fun e w' => e = .returned (.int .u64 ((Rv.next L c : Nat) : Int)) ∧ w' = w := by
  have hle := lg_le hL h1
  obtain ⟨m, hm⟩ : ∃ m : Nat, max n 1 = (m : Int) := ⟨(max n 1).toNat, by omega⟩
  have q := hL
  unfold Lg at q
  rw [hm, Int.toNat_natCast] at q
  have mL := len_bits m L w q.1 q.2 (by omega)
  have mR := reversed_any c L w hc hle
  have hlt := Rv.rv_lt L c
  have hp := Nat.pow_le_pow_right (n := 2) (by omega) hle
  have mN := reversed_any (Rv.rv L c + 1) L w (by omega) hle
  have hfin : ((Rv.next L c : Nat) : Int) = ((Rv.rv L (Rv.rv L c + 1) : Nat) : Int) := rfl
  rw [hfin]
  generalize Rv.rv L c = R at *
  have hR : R < 4611686018427387905 := by omega
  clear hlt hp hfin q hL
  go_enter Try.func24, Try.ntmps24
  go_wp2_with fail
  refine mL.mono ?_
  rintro _ w' ⟨rfl, rfl⟩
  go_wp2_with fail
  refine mR.mono ?_
  rintro _ w' ⟨rfl, rfl⟩
  go_wp2_with fail
  refine mN.mono ?_
  rintro _ w' ⟨rfl, rfl⟩
  go_wp2
  go_ret
  exact ⟨rfl, rfl⟩
/- the document's -/
set_option maxRecDepth 100000 in
theorem power_any (n : Int) (L : Nat) (w : World) (h0 : -9223372036854775808 ≤ n) (h1 : n ≤ 9223372036854775807) (hL : Lg n L) :
    Calls Try.prog 58 #[.int .i64 n] w fun e w' => e = .returned (.int .i64 ((2 ^ L : Nat) : Int)) ∧ w' = w := by
  have hle := lg_le hL h1
  have KL := keep hL
  clear hL
  go_enter Try.func58, Try.ntmps58
  go_wp2
  go_loop [3] (fun p => ∃ i : Nat, i ≤ L ∧ p = .int .i64 ((2 ^ i : Nat) : Int)) (fun p => (2 ^ L + 1) - (intOf p).toNat)
  case atStart => exact ⟨0, Nat.zero_le _, rfl⟩
  case round =>
    obtain ⟨i, hi, rfl⟩ := hrel
    have hp := Rv.two_pos i
    have hp2 : 2 ^ i ≤ 2 ^ 62 := Nat.pow_le_pow_right (by omega) (by omega)
    have hs : 2 ^ (i + 1) = 2 * 2 ^ i := by rw [Nat.pow_succ, Nat.mul_comm]
    by_cases hc : i < L
    · have KP := keep (Nat.pow_le_pow_right (n := 2) (by omega) (show i + 1 ≤ L from hc))
      have hx := KL.out.1
      have hk := KP.out
      have hn : 0 ≤ n := by omega
      have hq : ((2 ^ i : Nat) : Int) ≤ n / 2 := by omega
      have KS := keep hs
      generalize 2 ^ i = P at *
      clear hs hk hx
      have hP : P ≤ 4611686018427387904 := by omega
      clear hp2
      have hw : IntKind.i64.wrap (2 * (P : Int)) = ((2 * P : Nat) : Int) := by rw [IntKind.wrap_i64]; omega
      go_wp2
      go_round
      case rel => exact ⟨i + 1, hc, by rw [KS.out]; simp⟩
      case measure => have := KP.out; have := KS.out; simp [intOf]; omega
    · have e : i = L := by omega
      subst e
      have hx := KL.out.2
      have hq : ¬ ((2 ^ i : Nat) : Int) ≤ n.tdiv 2 := by
        rcases Int.le_total 0 n with h | h
        · rw [Int.tdiv_eq_ediv_of_nonneg h]; omega
        · have e : n.tdiv 2 = -((-n).tdiv 2) := by rw [Int.neg_tdiv, Int.neg_neg]
          rw [e, Int.tdiv_eq_ediv_of_nonneg (by omega)]; omega
      clear hs hx
      generalize hPP : 2 ^ i = P
      rw [hPP] at hq hp hp2
      have KPP := keep hPP
      clear hPP
      have hP : P ≤ 4611686018427387904 := by omega
      clear hp2
      go_wp2
      go_ret
      refine ⟨?_, rfl⟩
      show Ending.returned (Value.int IntKind.i64 (P : Int)) = _
      try rw [← KPP.out]
      try simp
set_option maxRecDepth 100000 in
set_option maxHeartbeats 1000000 in
theorem turned_any (x L : Nat) (w : World) (hx : x < 2 ^ 62) (hL : L ≤ 62) :
    Calls Try.prog 59 #[.int .i64 x, .int .i64 ((2 ^ L : Nat) : Int)] w fun e w' => e = .returned (.int .i64 ((Rv.rv L x : Nat) : Int)) ∧ w' = w := by
  have hlt := keep (Rv.rv_lt L x)
  have h62 := keep (Nat.pow_le_pow_right (n := 2) (by omega) hL)
  go_enter Try.func59, Try.ntmps59
  go_wp2
  go_loop [0, 1, 5] (fun u n r => ∃ j y R : Nat, j ≤ L ∧ y < 4611686018427387904 ∧ u = .int .i64 y ∧ n = .int .i64 ((2 ^ j : Nat) : Int) ∧ r = .int .i64 R ∧ Kept (R * 2 ^ j + Rv.rv j y = Rv.rv L x)) (fun _ n _ => (intOf n).toNat)
  case atStart => exact ⟨L, x, 0, Nat.le_refl _, hx, rfl, rfl, rfl, by show _ = _; rw [Nat.zero_mul, Nat.zero_add]⟩
  case round =>
    obtain ⟨j, y, R, hj, hy, rfl, rfl, rfl, KE⟩ := hrel
    cases j with
    | zero =>
      have e : R = Rv.rv L x := by have := KE.out; simpa [Rv.rv] using this
      subst e
      have hle : ((2 ^ 0 : Nat) : Int) = 1 := rfl
      rw [hle]
      generalize hZ : Rv.rv L x = Z
      have KZ := keep hZ
      clear hZ KE hlt h62
      go_wp2
      go_ret
      refine ⟨?_, rfl⟩
      rw [KZ.out]
      rfl
    | succ j =>
      have hp := Rv.two_pos j
      have hp2 : 2 ^ (j + 1) ≤ 2 ^ 62 := Nat.pow_le_pow_right (by omega) (by omega)
      have hs : 2 ^ (j + 1) = 2 * 2 ^ j := by rw [Nat.pow_succ, Nat.mul_comm]
      have hR : R < 4611686018427387904 := by
        have h1 := KE.out
        have h2 := hlt.out
        have h3 := h62.out
        have h4 : R * 1 ≤ R * 2 ^ (j + 1) := Nat.mul_le_mul_left _ (Rv.two_pos _)
        omega
      have KJ : Kept ((2 * R + y % 2) * 2 ^ j + Rv.rv j (y / 2) = Rv.rv L x) := by
        show _ = _
        rw [← KE.out, hs]
        show _ = _ + (y % 2 * 2 ^ j + Rv.rv j (y / 2))
        rw [Nat.add_mul, Nat.mul_assoc, ← Nat.add_assoc, Nat.mul_left_comm R 2]
      rw [hs]
      rw [hs] at hp2
      clear hs KE
      have KP : Kept (2 ^ j = 2 ^ j) := rfl
      generalize hPP : 2 ^ j = P
      rw [hPP] at hp hp2
      have hP : P ≤ 2305843009213693952 := by omega
      have KPP := keep hPP
      clear hp2 hPP KP
      generalize hN : 2 * P = N
      have hg : (1 : Int) < (N : Int) := by omega
      have hN2 : N ≤ 9223372036854775807 := by omega
      have w2 : (N : Int) / 2 = (P : Int) := by omega
      have KN := keep hN
      clear hN
      clear hx hp hlt h62
      go_wp2
      go_round
      case rel => exact ⟨j, y / 2, 2 * R + y % 2, by omega, by omega, by go_num, by rw [KPP.out], by go_num, KJ⟩
      case measure => have := KN.out; simp [intOf]; omega
set_option maxRecDepth 100000 in
theorem rafter_any (c : Nat) (n : Int) (L : Nat) (w : World) (hc : c < 2 ^ 64) (h0 : -9223372036854775808 ≤ n) (h1 : n ≤ 9223372036854775807) (hL : Lg n L) :
    Calls Try.prog 45 #[.int .u64 c, .int .i64 n] w fun e w' => e = .returned (.int .u64 ((Rv.next L c : Nat) : Int)) ∧ w' = w := by
  have hle := lg_le hL h1
  have mP := power_any n L w h0 h1 hL
  have hp := Rv.two_pos L
  have hp2 : 2 ^ L ≤ 4611686018427387904 := Nat.pow_le_pow_right (n := 2) (by omega) hle
  have mT := turned_any (c % 2 ^ L) L w (Nat.lt_of_lt_of_le (Nat.mod_lt _ hp) hp2) hle
  rw [Rv.rv_mod] at mT
  have hlt := Rv.rv_lt L c
  have hfin := Rv.next_is L c
  have hnl := Rv.rv_lt L (Rv.rv L c + 1)
  have mU : Rv.rv L c + 1 < 2 ^ 62 → _ := fun q => turned_any (Rv.rv L c + 1) L w q hle
  rw [hfin]
  clear hfin hL
  generalize Rv.rv L (Rv.rv L c + 1) = Z at *
  generalize Rv.rv L c = R at *
  generalize hPP : 2 ^ L = P at *
  clear hPP
  have hm : c % P < P := Nat.mod_lt _ hp
  have hcm : (c : Int) % (P : Int) = ((c % P : Nat) : Int) := by omega
  generalize c % P = D at *
  have hP0 : (P : Int) ≠ 0 := by omega
  go_enter Try.func45, Try.ntmps45
  go_wp2_with fail
  refine mP.mono ?_
  rintro _ w' ⟨rfl, rfl⟩
  clear mP
  go_wp2_with fail
  refine mT.mono ?_
  rintro _ w' ⟨rfl, rfl⟩
  clear mT
  by_cases hq : R + 1 = P
  · have hq' : (R : Int) + 1 = (P : Int) := by omega
    go_wp2
    go_ret
    exact ⟨rfl, rfl⟩
  · have hq' : ¬ (R : Int) + 1 = (P : Int) := by omega
    have mV := mU (by omega)
    clear mU
    go_wp2_with fail
    refine mV.mono ?_
    rintro _ w' ⟨rfl, rfl⟩
    clear mV
    go_wp2
    go_ret
    exact ⟨rfl, rfl⟩
theorem lg_ex (n : Int) : ∃ L, Lg n L := by
  have h : (max n 1).toNat ≠ 0 := by omega
  exact ⟨(max n 1).toNat.log2, Nat.log2_self_le h, Nat.lt_log2_self⟩
theorem next_0_8 : Rv.next 3 0 = 4 := by decide +kernel
theorem next_4_8 : Rv.next 3 4 = 2 := by decide +kernel
theorem after_0_8 (w : World) : Calls Try.prog 24 #[.int .u64 0, .int .i64 8] w fun e w' => e = .returned (.int .u64 4) ∧ w' = w := by
  have m := after_any 0 8 3 w (by decide) (by decide) (by decide) (lg_pow 3)
  rw [next_0_8] at m
  exact m
theorem after_4_8 (w : World) : Calls Try.prog 24 #[.int .u64 4, .int .i64 8] w fun e w' => e = .returned (.int .u64 2) ∧ w' = w := by
  have m := after_any 4 8 3 w (by decide) (by decide) (by decide) (lg_pow 3)
  rw [next_4_8] at m
  exact m
end Go.Proofs.Ytnkladifalnmnaa
