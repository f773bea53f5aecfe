/-
  Plain mathematics, with no program in sight: binary digits the other way round, and the cursor behind a cursor.
-/
import Derived.WalkKit
import Derived.Laws.Bits64
import Derived.Lib.BitFns
namespace Go.Proofs.Ytmokahcjkokanaa
namespace Rv
/-- the lowest L binary digits of x, the other way round -/
def rv : Nat → Nat → Nat
  | 0, _ => 0
  | L + 1, x => x % 2 * 2 ^ L + rv L (x / 2)
theorem two_pos (L : Nat) : 0 < 2 ^ L := Nat.pow_pos (by omega)
theorem rv_lt (L : Nat) : ∀ x, rv L x < 2 ^ L := by
  induction L with
  | zero => intro x; simp [rv]
  | succ L ih =>
    intro x
    have h := ih (x / 2)
    have e : 2 ^ (L + 1) = 2 * 2 ^ L := by rw [Nat.pow_succ, Nat.mul_comm]
    rcases Nat.mod_two_eq_zero_or_one x with h2 | h2
    · simp only [rv, h2, Nat.zero_mul, Nat.zero_add]; omega
    · simp only [rv, h2, Nat.one_mul]; omega
theorem rv_snoc (L : Nat) : ∀ x, rv (L + 1) x = 2 * rv L x + x / 2 ^ L % 2 := by
  induction L with
  | zero => intro x; simp [rv]
  | succ L ih =>
    intro x
    have e : 2 ^ (L + 1) = 2 * 2 ^ L := by rw [Nat.pow_succ, Nat.mul_comm]
    show x % 2 * 2 ^ (L + 1) + rv (L + 1) (x / 2) = 2 * (x % 2 * 2 ^ L + rv L (x / 2)) + _
    rw [ih (x / 2), Nat.div_div_eq_div_mul, e, Nat.mul_add]
    have : x % 2 * (2 * 2 ^ L) = 2 * (x % 2 * 2 ^ L) := by rw [Nat.mul_left_comm]
    omega
theorem rv_bit (L : Nat) : ∀ x i, (rv L x).testBit i = (decide (i < L) && x.testBit (L - 1 - i)) := by
  induction L with
  | zero => intro x i; simp [rv]
  | succ L ih =>
    intro x i
    rw [rv_snoc]
    cases i with
    | zero =>
      rw [Nat.testBit_zero, Nat.testBit_eq_decide_div_mod_eq]
      have h1 : (2 * rv L x + x / 2 ^ L % 2) % 2 = x / 2 ^ L % 2 := by omega
      rw [h1]
      simp
    | succ i =>
      rw [Nat.testBit_succ]
      have h1 : (2 * rv L x + x / 2 ^ L % 2) / 2 = rv L x := by omega
      rw [h1, ih x i]
      have h2 : L + 1 - 1 - (i + 1) = L - 1 - i := by omega
      rw [h2]
      simp
theorem rv_split (A : Nat) : ∀ (B x : Nat), rv (A + B) x = rv A x * 2 ^ B + rv B (x / 2 ^ A) := by
  induction A with
  | zero => intro B x; simp [rv]
  | succ A ih =>
    intro B x
    rw [Nat.add_right_comm A 1 B]
    show x % 2 * 2 ^ (A + B) + rv (A + B) (x / 2) = (x % 2 * 2 ^ A + rv A (x / 2)) * 2 ^ B + _
    rw [ih, Nat.div_div_eq_div_mul, Nat.pow_add, Nat.pow_succ, Nat.add_mul, Nat.mul_comm 2 (2 ^ A), Nat.mul_assoc]
    omega
theorem rv_zero (L : Nat) : rv L 0 = 0 := by
  induction L with
  | zero => rfl
  | succ L ih => simp [rv, ih]
theorem rv_mod (L : Nat) (x : Nat) : rv L (x % 2 ^ L) = rv L x := by
  apply Nat.eq_of_testBit_eq
  intro i
  rw [rv_bit, rv_bit]
  by_cases h : i < L
  · rw [Nat.testBit_mod_two_pow, decide_eq_true (show L - 1 - i < L by omega)]; simp
  · simp [h]
theorem rv_rv (L x : Nat) : rv L (rv L x) = x % 2 ^ L := by
  apply Nat.eq_of_testBit_eq
  intro i
  rw [rv_bit, rv_bit, Nat.testBit_mod_two_pow]
  by_cases h : i < L
  · have h1 : L - 1 - (L - 1 - i) = i := by omega
    have h2 : L - 1 - i < L := by omega
    simp [h, h1, h2]
  · simp [h]
theorem rv_all (L : Nat) : rv L (2 ^ L) = 0 := by rw [← rv_mod, Nat.mod_self, rv_zero]
theorem rv_big {L : Nat} (hL : L ≤ 64) (x : Nat) : rv L x = rv 64 x / 2 ^ (64 - L) := by
  obtain ⟨B, hB⟩ : ∃ B, 64 = L + B := ⟨64 - L, by omega⟩
  have e : 64 - L = B := by omega
  rw [e, hB, rv_split, Nat.mul_comm, Nat.mul_add_div (two_pos B), Nat.div_eq_of_lt (rv_lt B _), Nat.add_zero]
/-- the cursor behind c in 2^L buckets -/
def next (L c : Nat) : Nat := rv L (rv L c + 1)
theorem next_lt (L c : Nat) : next L c < 2 ^ L := rv_lt L _
theorem next_is (L c : Nat) : next L c = if rv L c + 1 = 2 ^ L then 0 else rv L (rv L c + 1) := by
  unfold next
  split
  next h => rw [h, rv_all]
  next => rfl
theorem rv_next (L c : Nat) : rv L (next L c) = (rv L c + 1) % 2 ^ L := rv_rv L _
theorem next_mod (L c : Nat) : next L (c % 2 ^ L) = next L c := by unfold next; rw [rv_mod]
/- the digits of 64, swapped in pairs of stretches -/
def sw (k m x : Nat) : Nat := (x / 2 ^ k &&& m) ||| ((x &&& m) * 2 ^ k % 2 ^ 64)
def place (k i : Nat) : Nat := if i / k % 2 = 0 then i + k else i - k
def Mask (k m : Nat) : Prop := 0 < k ∧ k ≤ 64 ∧ (∀ i, i < 64 → m.testBit i = decide (i / k % 2 = 0)) ∧ m < 2 ^ 64
theorem sw_bit {k m : Nat} (hm : Mask k m) (x i : Nat) (hi : i < 64) : (sw k m x).testBit i = x.testBit (place k i) := by
  obtain ⟨k0, k1, hb, hs⟩ := hm
  unfold sw place
  rw [Nat.testBit_or, Nat.testBit_and, Nat.testBit_mod_two_pow, Nat.testBit_div_two_pow, Nat.testBit_mul_two_pow, Nat.testBit_and, hb i hi]
  by_cases hk : k ≤ i
  · rw [hb (i - k) (by omega)]
    have h1 : i / k = (i - k) / k + 1 := by
      have := Nat.add_div_right (i - k) k0
      rw [Nat.sub_add_cancel hk] at this
      exact this
    by_cases h0 : i / k % 2 = 0
    · have h2 : ¬ ((i - k) / k % 2 = 0) := by omega
      simp [h0, h2, hi]
    · have h2 : (i - k) / k % 2 = 0 := by omega
      simp [h0, h2, hi, hk]
  · have h1 : i / k = 0 := Nat.div_eq_of_lt (by omega)
    simp [h1, hk]
def rev (x : Nat) : Nat :=
  let a := sw 16 281470681808895 (sw 8 71777214294589695 (sw 4 1085102592571150095 (sw 2 3689348814741910323 (sw 1 6148914691236517205 x))))
  a / 2 ^ 32 ||| a * 2 ^ 32 % 2 ^ 64
theorem mask1 : Mask 1 6148914691236517205 := ⟨by decide, by decide, by decide +kernel, by decide⟩
theorem mask2 : Mask 2 3689348814741910323 := ⟨by decide, by decide, by decide +kernel, by decide⟩
theorem mask4 : Mask 4 1085102592571150095 := ⟨by decide, by decide, by decide +kernel, by decide⟩
theorem mask8 : Mask 8 71777214294589695 := ⟨by decide, by decide, by decide +kernel, by decide⟩
theorem mask16 : Mask 16 281470681808895 := ⟨by decide, by decide, by decide +kernel, by decide⟩
theorem sw_lt {k m : Nat} (hm : Mask k m) (x : Nat) : sw k m x < 2 ^ 64 := by
  unfold sw
  exact Nat.or_lt_two_pow (Nat.lt_of_le_of_lt Nat.and_le_right hm.2.2.2) (Nat.mod_lt _ (by decide))
theorem places : ∀ i, i < 64 → (place 1 (place 2 (place 4 (place 8 (place 16 (place 32 i))))) = 63 - i) ∧ place 2 (place 4 (place 8 (place 16 (place 32 i)))) < 64 ∧ place 4 (place 8 (place 16 (place 32 i))) < 64 ∧ place 8 (place 16 (place 32 i)) < 64 ∧ place 16 (place 32 i) < 64 ∧ place 32 i < 64 := by decide +kernel
theorem rev_bit (x i : Nat) (hi : i < 64) : (rev x).testBit i = x.testBit (63 - i) := by
  obtain ⟨h0, h1, h2, h3, h4, h5⟩ := places i hi
  have e : ∀ a : Nat, a < 2 ^ 64 → (a / 2 ^ 32 ||| a * 2 ^ 32 % 2 ^ 64).testBit i = a.testBit (place 32 i) := by
    intro a ha
    rw [Nat.testBit_or, Nat.testBit_mod_two_pow, Nat.testBit_div_two_pow, Nat.testBit_mul_two_pow]
    unfold place
    by_cases hk : 32 ≤ i
    · have q1 : i / 32 % 2 = 1 := by omega
      have q2 : a.testBit (i + 32) = false := Nat.testBit_lt_two_pow (Nat.lt_of_lt_of_le ha (Nat.pow_le_pow_right (by omega) (by omega)))
      simp [q1, q2, hi, hk]
    · have q1 : i / 32 % 2 = 0 := by omega
      simp [q1, hk]
  unfold rev
  rw [e _ (sw_lt mask16 _), sw_bit mask16 _ _ h5, sw_bit mask8 _ _ h4, sw_bit mask4 _ _ h3, sw_bit mask2 _ _ h2, sw_bit mask1 _ _ h1, h0]
theorem rev_lt (x : Nat) : rev x < 2 ^ 64 := by
  unfold rev
  exact Nat.or_lt_two_pow (Nat.lt_of_le_of_lt (Nat.div_le_self _ _) (sw_lt mask16 _)) (Nat.mod_lt _ (by decide))
theorem rev_is (x : Nat) : rev x = rv 64 x := by
  apply Nat.eq_of_testBit_eq
  intro i
  rw [rv_bit]
  by_cases hi : i < 64
  · rw [rev_bit x i hi, decide_eq_true hi]; simp
  · rw [decide_eq_false hi, Nat.testBit_lt_two_pow (Nat.lt_of_lt_of_le (rev_lt x) (Nat.pow_le_pow_right (by omega) (by omega)))]; rfl
theorem rev_part {L : Nat} (hL : L ≤ 64) (x : Nat) : rev x / 2 ^ (64 - L) = rv L x := by rw [rev_is, rv_big hL]
/- the program's own bits -/
theorem wrap_nat (a : Nat) : IntKind.u64.wrap (a : Int) = ((a % 2 ^ 64 : Nat) : Int) := by rw [IntKind.wrap_u64]; rfl
theorem and_nat (a b : Nat) (ha : a < 2 ^ 64) (hb : b < 2 ^ 64) : bits .and .u64 (a : Int) (b : Int) = ((a &&& b : Nat) : Int) := by
  have hx : a &&& b < 2 ^ 64 := Nat.lt_of_le_of_lt Nat.and_le_right hb
  have h1 : (BitVec.ofInt 64 (a : Int)).toNat = a := by rw [BitVec.ofInt_natCast, BitVec.toNat_ofNat]; exact Nat.mod_eq_of_lt ha
  have h2 : (BitVec.ofInt 64 (b : Int)).toNat = b := by rw [BitVec.ofInt_natCast, BitVec.toNat_ofNat]; exact Nat.mod_eq_of_lt hb
  show IntKind.u64.wrap ((BitVec.ofInt 64 (a : Int) &&& BitVec.ofInt 64 (b : Int)).toNat : Int) = _
  rw [BitVec.toNat_and, h1, h2, wrap_nat, Nat.mod_eq_of_lt hx]
theorem or_nat (a b : Nat) (ha : a < 2 ^ 64) (hb : b < 2 ^ 64) : bits .or .u64 (a : Int) (b : Int) = ((a ||| b : Nat) : Int) := by
  have hx : a ||| b < 2 ^ 64 := Nat.or_lt_two_pow ha hb
  have h1 : (BitVec.ofInt 64 (a : Int)).toNat = a := by rw [BitVec.ofInt_natCast, BitVec.toNat_ofNat]; exact Nat.mod_eq_of_lt ha
  have h2 : (BitVec.ofInt 64 (b : Int)).toNat = b := by rw [BitVec.ofInt_natCast, BitVec.toNat_ofNat]; exact Nat.mod_eq_of_lt hb
  show IntKind.u64.wrap ((BitVec.ofInt 64 (a : Int) ||| BitVec.ofInt 64 (b : Int)).toNat : Int) = _
  rw [BitVec.toNat_or, h1, h2, wrap_nat, Nat.mod_eq_of_lt hx]
end Rv
end Go.Proofs.Ytmokahcjkokanaa
