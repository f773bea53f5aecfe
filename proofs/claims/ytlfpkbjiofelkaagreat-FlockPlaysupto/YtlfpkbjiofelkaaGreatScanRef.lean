/-
  Contracts over this program: the cursor behind a cursor, the program's and the document's.
-/
import Derived.WalkKit
import Derived.Laws.Bits64
import Derived.Lib.BitFns
import Derived.Test.YtlfpkbjiofelkaaGreatChecked
import Derived.Lib.Small
import Derived.Lib.Walk
import Derived.Test.YtlfpkbjiofelkaaGreatDraws
/-
  Plain mathematics, with no program in sight: binary digits the other way round, and the cursor behind a cursor.
-/
namespace Go.Proofs.YtlfpkbjiofelkaaGreat
namespace Rv
/-- the lowest L binary digits of x, the other way round -/
def rv : Nat → Nat → Nat
  | 0, _ => 0
  | L + 1, x => x % 2 * 2 ^ L + rv L (x / 2)
theorem two_pos (L : Nat) : 0 < 2 ^ L := Nat.pow_pos (by omega)
theorem rv_lt (L : Nat) : ∀ x, rv L x < 2 ^ L := by
  induction L with
  | zero => intro x; simp [rv]
  | succ L ih =>
    intro x
    have h := ih (x / 2)
    have e : 2 ^ (L + 1) = 2 * 2 ^ L := by rw [Nat.pow_succ, Nat.mul_comm]
    rcases Nat.mod_two_eq_zero_or_one x with h2 | h2
    · simp only [rv, h2, Nat.zero_mul, Nat.zero_add]; omega
    · simp only [rv, h2, Nat.one_mul]; omega
theorem rv_snoc (L : Nat) : ∀ x, rv (L + 1) x = 2 * rv L x + x / 2 ^ L % 2 := by
  induction L with
  | zero => intro x; simp [rv]
  | succ L ih =>
    intro x
    have e : 2 ^ (L + 1) = 2 * 2 ^ L := by rw [Nat.pow_succ, Nat.mul_comm]
    show x % 2 * 2 ^ (L + 1) + rv (L + 1) (x / 2) = 2 * (x % 2 * 2 ^ L + rv L (x / 2)) + _
    rw [ih (x / 2), Nat.div_div_eq_div_mul, e, Nat.mul_add]
    have : x % 2 * (2 * 2 ^ L) = 2 * (x % 2 * 2 ^ L) := by rw [Nat.mul_left_comm]
    omega
theorem rv_bit (L : Nat) : ∀ x i, (rv L x).testBit i = (decide (i < L) && x.testBit (L - 1 - i)) := by
  induction L with
  | zero => intro x i; simp [rv]
  | succ L ih =>
    intro x i
    rw [rv_snoc]
    cases i with
    | zero =>
      rw [Nat.testBit_zero, Nat.testBit_eq_decide_div_mod_eq]
      have h1 : (2 * rv L x + x / 2 ^ L % 2) % 2 = x / 2 ^ L % 2 := by omega
      rw [h1]
      simp
    | succ i =>
      rw [Nat.testBit_succ]
      have h1 : (2 * rv L x + x / 2 ^ L % 2) / 2 = rv L x := by omega
      rw [h1, ih x i]
      have h2 : L + 1 - 1 - (i + 1) = L - 1 - i := by omega
      rw [h2]
      simp
theorem rv_split (A : Nat) : ∀ (B x : Nat), rv (A + B) x = rv A x * 2 ^ B + rv B (x / 2 ^ A) := by
  induction A with
  | zero => intro B x; simp [rv]
  | succ A ih =>
    intro B x
    rw [Nat.add_right_comm A 1 B]
    show x % 2 * 2 ^ (A + B) + rv (A + B) (x / 2) = (x % 2 * 2 ^ A + rv A (x / 2)) * 2 ^ B + _
    rw [ih, Nat.div_div_eq_div_mul, Nat.pow_add, Nat.pow_succ, Nat.add_mul, Nat.mul_comm 2 (2 ^ A), Nat.mul_assoc]
    omega
theorem rv_zero (L : Nat) : rv L 0 = 0 := by
  induction L with
  | zero => rfl
  | succ L ih => simp [rv, ih]
theorem rv_mod (L : Nat) (x : Nat) : rv L (x % 2 ^ L) = rv L x := by
  apply Nat.eq_of_testBit_eq
  intro i
  rw [rv_bit, rv_bit]
  by_cases h : i < L
  · rw [Nat.testBit_mod_two_pow, decide_eq_true (show L - 1 - i < L by omega)]; simp
  · simp [h]
theorem rv_rv (L x : Nat) : rv L (rv L x) = x % 2 ^ L := by
  apply Nat.eq_of_testBit_eq
  intro i
  rw [rv_bit, rv_bit, Nat.testBit_mod_two_pow]
  by_cases h : i < L
  · have h1 : L - 1 - (L - 1 - i) = i := by omega
    have h2 : L - 1 - i < L := by omega
    simp [h, h1, h2]
  · simp [h]
theorem rv_all (L : Nat) : rv L (2 ^ L) = 0 := by rw [← rv_mod, Nat.mod_self, rv_zero]
theorem rv_big {L : Nat} (hL : L ≤ 64) (x : Nat) : rv L x = rv 64 x / 2 ^ (64 - L) := by
  obtain ⟨B, hB⟩ : ∃ B, 64 = L + B := ⟨64 - L, by omega⟩
  have e : 64 - L = B := by omega
  rw [e, hB, rv_split, Nat.mul_comm, Nat.mul_add_div (two_pos B), Nat.div_eq_of_lt (rv_lt B _), Nat.add_zero]
/-- the cursor behind c in 2^L buckets -/
def next (L c : Nat) : Nat := rv L (rv L c + 1)
theorem next_lt (L c : Nat) : next L c < 2 ^ L := rv_lt L _
theorem next_is (L c : Nat) : next L c = if rv L c + 1 = 2 ^ L then 0 else rv L (rv L c + 1) := by
  unfold next
  split
  next h => rw [h, rv_all]
  next => rfl
theorem rv_next (L c : Nat) : rv L (next L c) = (rv L c + 1) % 2 ^ L := rv_rv L _
theorem next_mod (L c : Nat) : next L (c % 2 ^ L) = next L c := by unfold next; rw [rv_mod]
/- the digits of 64, swapped in pairs of stretches -/
def sw (k m x : Nat) : Nat := (x / 2 ^ k &&& m) ||| ((x &&& m) * 2 ^ k % 2 ^ 64)
def place (k i : Nat) : Nat := if i / k % 2 = 0 then i + k else i - k
def Mask (k m : Nat) : Prop := 0 < k ∧ k ≤ 64 ∧ (∀ i, i < 64 → m.testBit i = decide (i / k % 2 = 0)) ∧ m < 2 ^ 64
theorem sw_bit {k m : Nat} (hm : Mask k m) (x i : Nat) (hi : i < 64) : (sw k m x).testBit i = x.testBit (place k i) := by
  obtain ⟨k0, k1, hb, hs⟩ := hm
  unfold sw place
  rw [Nat.testBit_or, Nat.testBit_and, Nat.testBit_mod_two_pow, Nat.testBit_div_two_pow, Nat.testBit_mul_two_pow, Nat.testBit_and, hb i hi]
  by_cases hk : k ≤ i
  · rw [hb (i - k) (by omega)]
    have h1 : i / k = (i - k) / k + 1 := by
      have := Nat.add_div_right (i - k) k0
      rw [Nat.sub_add_cancel hk] at this
      exact this
    by_cases h0 : i / k % 2 = 0
    · have h2 : ¬ ((i - k) / k % 2 = 0) := by omega
      simp [h0, h2, hi]
    · have h2 : (i - k) / k % 2 = 0 := by omega
      simp [h0, h2, hi, hk]
  · have h1 : i / k = 0 := Nat.div_eq_of_lt (by omega)
    simp [h1, hk]
def rev (x : Nat) : Nat :=
  let a := sw 16 281470681808895 (sw 8 71777214294589695 (sw 4 1085102592571150095 (sw 2 3689348814741910323 (sw 1 6148914691236517205 x))))
  a / 2 ^ 32 ||| a * 2 ^ 32 % 2 ^ 64
theorem mask1 : Mask 1 6148914691236517205 := ⟨by decide, by decide, by decide +kernel, by decide⟩
theorem mask2 : Mask 2 3689348814741910323 := ⟨by decide, by decide, by decide +kernel, by decide⟩
theorem mask4 : Mask 4 1085102592571150095 := ⟨by decide, by decide, by decide +kernel, by decide⟩
theorem mask8 : Mask 8 71777214294589695 := ⟨by decide, by decide, by decide +kernel, by decide⟩
theorem mask16 : Mask 16 281470681808895 := ⟨by decide, by decide, by decide +kernel, by decide⟩
theorem sw_lt {k m : Nat} (hm : Mask k m) (x : Nat) : sw k m x < 2 ^ 64 := by
  unfold sw
  exact Nat.or_lt_two_pow (Nat.lt_of_le_of_lt Nat.and_le_right hm.2.2.2) (Nat.mod_lt _ (by decide))
theorem places : ∀ i, i < 64 → (place 1 (place 2 (place 4 (place 8 (place 16 (place 32 i))))) = 63 - i) ∧ place 2 (place 4 (place 8 (place 16 (place 32 i)))) < 64 ∧ place 4 (place 8 (place 16 (place 32 i))) < 64 ∧ place 8 (place 16 (place 32 i)) < 64 ∧ place 16 (place 32 i) < 64 ∧ place 32 i < 64 := by decide +kernel
theorem rev_bit (x i : Nat) (hi : i < 64) : (rev x).testBit i = x.testBit (63 - i) := by
  obtain ⟨h0, h1, h2, h3, h4, h5⟩ := places i hi
  have e : ∀ a : Nat, a < 2 ^ 64 → (a / 2 ^ 32 ||| a * 2 ^ 32 % 2 ^ 64).testBit i = a.testBit (place 32 i) := by
    intro a ha
    rw [Nat.testBit_or, Nat.testBit_mod_two_pow, Nat.testBit_div_two_pow, Nat.testBit_mul_two_pow]
    unfold place
    by_cases hk : 32 ≤ i
    · have q1 : i / 32 % 2 = 1 := by omega
      have q2 : a.testBit (i + 32) = false := Nat.testBit_lt_two_pow (Nat.lt_of_lt_of_le ha (Nat.pow_le_pow_right (by omega) (by omega)))
      simp [q1, q2, hi, hk]
    · have q1 : i / 32 % 2 = 0 := by omega
      simp [q1, hk]
  unfold rev
  rw [e _ (sw_lt mask16 _), sw_bit mask16 _ _ h5, sw_bit mask8 _ _ h4, sw_bit mask4 _ _ h3, sw_bit mask2 _ _ h2, sw_bit mask1 _ _ h1, h0]
theorem rev_lt (x : Nat) : rev x < 2 ^ 64 := by
  unfold rev
  exact Nat.or_lt_two_pow (Nat.lt_of_le_of_lt (Nat.div_le_self _ _) (sw_lt mask16 _)) (Nat.mod_lt _ (by decide))
theorem rev_is (x : Nat) : rev x = rv 64 x := by
  apply Nat.eq_of_testBit_eq
  intro i
  rw [rv_bit]
  by_cases hi : i < 64
  · rw [rev_bit x i hi, decide_eq_true hi]; simp
  · rw [decide_eq_false hi, Nat.testBit_lt_two_pow (Nat.lt_of_lt_of_le (rev_lt x) (Nat.pow_le_pow_right (by omega) (by omega)))]; rfl
theorem rev_part {L : Nat} (hL : L ≤ 64) (x : Nat) : rev x / 2 ^ (64 - L) = rv L x := by rw [rev_is, rv_big hL]
/- the program's own bits -/
theorem wrap_nat (a : Nat) : IntKind.u64.wrap (a : Int) = ((a % 2 ^ 64 : Nat) : Int) := by rw [IntKind.wrap_u64]; rfl
theorem and_nat (a b : Nat) (ha : a < 2 ^ 64) (hb : b < 2 ^ 64) : bits .and .u64 (a : Int) (b : Int) = ((a &&& b : Nat) : Int) := by
  have hx : a &&& b < 2 ^ 64 := Nat.lt_of_le_of_lt Nat.and_le_right hb
  have h1 : (BitVec.ofInt 64 (a : Int)).toNat = a := by rw [BitVec.ofInt_natCast, BitVec.toNat_ofNat]; exact Nat.mod_eq_of_lt ha
  have h2 : (BitVec.ofInt 64 (b : Int)).toNat = b := by rw [BitVec.ofInt_natCast, BitVec.toNat_ofNat]; exact Nat.mod_eq_of_lt hb
  show IntKind.u64.wrap ((BitVec.ofInt 64 (a : Int) &&& BitVec.ofInt 64 (b : Int)).toNat : Int) = _
  rw [BitVec.toNat_and, h1, h2, wrap_nat, Nat.mod_eq_of_lt hx]
theorem or_nat (a b : Nat) (ha : a < 2 ^ 64) (hb : b < 2 ^ 64) : bits .or .u64 (a : Int) (b : Int) = ((a ||| b : Nat) : Int) := by
  have hx : a ||| b < 2 ^ 64 := Nat.or_lt_two_pow ha hb
  have h1 : (BitVec.ofInt 64 (a : Int)).toNat = a := by rw [BitVec.ofInt_natCast, BitVec.toNat_ofNat]; exact Nat.mod_eq_of_lt ha
  have h2 : (BitVec.ofInt 64 (b : Int)).toNat = b := by rw [BitVec.ofInt_natCast, BitVec.toNat_ofNat]; exact Nat.mod_eq_of_lt hb
  show IntKind.u64.wrap ((BitVec.ofInt 64 (a : Int) ||| BitVec.ofInt 64 (b : Int)).toNat : Int) = _
  rw [BitVec.toNat_or, h1, h2, wrap_nat, Nat.mod_eq_of_lt hx]
end Rv
end Go.Proofs.YtlfpkbjiofelkaaGreat

/-
  Contracts over this program: bits turned round, and the cursor behind a cursor.
-/
namespace Go.Proofs.YtlfpkbjiofelkaaGreat
open Go.RowKit
theorem tab_small : ∀ n : Fin 256, n.val = 0 ∨ ∃ L : Fin 8, Lib.bitLen n.val = L.val + 1 ∧ 2 ^ L.val ≤ n.val ∧ n.val < 2 ^ (L.val + 1) := by decide +kernel
theorem tab_math (x K m t : Nat) (hm : m = x / 2 ^ K) (h : ∃ L : Nat, L < 8 ∧ t = L + 1 ∧ 2 ^ L ≤ m ∧ m < 2 ^ (L + 1)) (hK : K ≤ 56) :
    ∃ L : Nat, K + t = L + 1 ∧ 2 ^ L ≤ x ∧ x < 2 ^ (L + 1) ∧ L < 64 := by
  obtain ⟨L, hL, h1, h2, h3⟩ := h
  refine ⟨K + L, by omega, ?_, ?_, by omega⟩
  · rw [Nat.pow_add]
    refine Nat.le_trans (Nat.mul_le_mul_left _ h2) ?_
    rw [hm]
    exact Nat.mul_div_le x (2 ^ K)
  · rw [Nat.add_assoc, Nat.pow_add]
    rw [hm] at h3
    rw [Nat.mul_comm]
    exact (Nat.div_lt_iff_lt_mul (Nat.pow_pos (by omega))).1 h3
theorem tab_at (m : Nat) (h0 : 0 < m) (h8 : m ≤ 255) (h : m < Lib.len8tab.size) : ∃ L : Nat, L < 8 ∧ (Lib.len8tab[m]'h).toNat = L + 1 ∧ 2 ^ L ≤ m ∧ m < 2 ^ (L + 1) := by
  have e := Lib.len8_of (m : Int) (by omega) (by omega)
  rw [Int.toNat_natCast] at e
  unfold Lib.len8 at e
  rw [Int.toNat_natCast, getElem?_pos Lib.len8tab m h, Option.getD_some] at e
  rcases tab_small ⟨m, by omega⟩ with h1 | ⟨⟨L, hL⟩, h1, h2, h3⟩
  · exact absurd h1 (by show ¬ m = 0; omega)
  · refine ⟨L, hL, ?_, h2, h3⟩
    exact (Int.ofNat.inj e).trans h1
theorem tab_wrap (x : Nat) (k : Int) (K t : Nat) (hk : k = (K : Int)) (hK : K ≤ 56) (ht : t ≤ 8) (h : ∃ L : Nat, K + t = L + 1 ∧ 2 ^ L ≤ x ∧ x < 2 ^ (L + 1) ∧ L < 64) :
    ∃ L : Nat, wrap64 (k + wrap64 (t : Int)) = ((L + 1 : Nat) : Int) ∧ 2 ^ L ≤ x ∧ x < 2 ^ (L + 1) ∧ L < 64 := by
  obtain ⟨L, h1, h2⟩ := h
  refine ⟨L, ?_, h2⟩
  rw [← h1, hk]
  clear h2
  unfold RowKit.wrap64
  omega
theorem lentab_is (x K m : Nat) (hm : m = x / 2 ^ K) (h0 : 0 < m) (h8 : m ≤ 255) (hK : K ≤ 56) (k : Int) (hk : k = (K : Int)) (h : m < Lib.len8tab.size) :
    ∃ L : Nat, wrap64 (k + wrap64 ((Lib.len8tab[m]'h).toNat : Int)) = ((L + 1 : Nat) : Int) ∧ 2 ^ L ≤ x ∧ x < 2 ^ (L + 1) ∧ L < 64 := by
  have q := tab_at m h0 h8 h
  generalize (Lib.len8tab[m]'h).toNat = t at q
  refine tab_wrap x k K t hk hK ?_ (tab_math x K m t hm q hK)
  obtain ⟨L, q1, q2, _⟩ := q
  omega
set_option maxRecDepth 100000 in
set_option maxHeartbeats 4000000 in
theorem len64_int (x : Int) (w : World) (h0 : 0 < x) (h1 : x < 18446744073709551616) :
    Calls Tryz.prog 106 #[.int .u64 x] w fun e w' => (∃ L : Nat, e = .returned (.int .i64 ((L + 1 : Nat) : Int)) ∧ 2 ^ L ≤ x.toNat ∧ x.toNat < 2 ^ (L + 1) ∧ L < 64) ∧ w' = w := by
  have fin : ∀ v : Int, (∃ L : Nat, v = ((L + 1 : Nat) : Int) ∧ 2 ^ L ≤ x.toNat ∧ x.toNat < 2 ^ (L + 1) ∧ L < 64) → ∃ L : Nat, Ending.returned (.int .i64 v) = .returned (.int .i64 ((L + 1 : Nat) : Int)) ∧ 2 ^ L ≤ x.toNat ∧ x.toNat < 2 ^ (L + 1) ∧ L < 64 := by
    rintro v ⟨L, rfl, h⟩
    exact ⟨L, rfl, h⟩
  go_enter Tryz.func106, Tryz.ntmps106
  go_wp2
  all_goals try (exfalso; have hz := Lib.len8tab_size; omega)
  all_goals (try (go_ret; refine ⟨fin _ ?_, rfl⟩))
  · exact lentab_is x.toNat 56 _ (by omega) (by omega) (by omega) (by omega) 56 rfl _
  · exact lentab_is x.toNat 48 _ (by omega) (by omega) (by omega) (by omega) 48 rfl _
  · exact lentab_is x.toNat 40 _ (by omega) (by omega) (by omega) (by omega) 40 rfl _
  · exact lentab_is x.toNat 32 _ (by omega) (by omega) (by omega) (by omega) 32 rfl _
  · exact lentab_is x.toNat 24 _ (by omega) (by omega) (by omega) (by omega) 24 rfl _
  · exact lentab_is x.toNat 16 _ (by omega) (by omega) (by omega) (by omega) 16 rfl _
  · exact lentab_is x.toNat 8 _ (by omega) (by omega) (by omega) (by omega) 8 rfl _
  · have e := lentab_is x.toNat 0 x.toNat (by simp) (by omega) (by omega) (by omega) 0 rfl (by have hz := Lib.len8tab_size; omega)
    rw [Int.zero_add] at e
    exact e
/-- a swap, as the program writes it -/
theorem sw_int (k m P x : Nat) (hP : P = 2 ^ k) (hm : Rv.Mask k m) (hx : x < 2 ^ 64) :
    bits .or .u64 (bits .and .u64 ((x : Int) / (P : Int)) (m : Int)) (IntKind.u64.wrap (bits .and .u64 (x : Int) (m : Int) * (P : Int))) = ((Rv.sw k m x : Nat) : Int) := by
  subst hP
  have h1 : (x : Int) / ((2 ^ k : Nat) : Int) = ((x / 2 ^ k : Nat) : Int) := by simp
  rw [h1, Rv.and_nat _ _ (Nat.lt_of_le_of_lt (Nat.div_le_self _ _) hx) hm.2.2.2, Rv.and_nat _ _ hx hm.2.2.2, ← Int.natCast_mul, Rv.wrap_nat,
    Rv.or_nat _ _ (Nat.lt_of_le_of_lt Nat.and_le_right hm.2.2.2) (Nat.mod_lt _ (by decide))]
  rfl
theorem half_int (x : Nat) (hx : x < 2 ^ 64) : bits .or .u64 ((x : Int) / 4294967296) (IntKind.u64.wrap ((x : Int) * 4294967296)) = ((x / 2 ^ 32 ||| x * 2 ^ 32 % 2 ^ 64 : Nat) : Int) := by
  have h1 : (x : Int) / 4294967296 = ((x / 2 ^ 32 : Nat) : Int) := by omega
  have h2 : (x : Int) * 4294967296 = ((x * 2 ^ 32 : Nat) : Int) := by omega
  rw [h1, h2, Rv.wrap_nat, Rv.or_nat _ _ (Nat.lt_of_le_of_lt (Nat.div_le_self _ _) hx) (Nat.mod_lt _ (by decide))]
theorem sw8_int (x : Nat) (hx : x < 2 ^ 64) : bits .or .u64 (bits .and .u64 ((x : Int) / 256) 71777214294589695) (IntKind.u64.wrap (bits .and .u64 (x : Int) 71777214294589695 * 256)) = ((Rv.sw 8 71777214294589695 x : Nat) : Int) := sw_int 8 71777214294589695 256 x rfl Rv.mask8 hx
theorem sw16_int (x : Nat) (hx : x < 2 ^ 64) : bits .or .u64 (bits .and .u64 ((x : Int) / 65536) 281470681808895) (IntKind.u64.wrap (bits .and .u64 (x : Int) 281470681808895 * 65536)) = ((Rv.sw 16 281470681808895 x : Nat) : Int) := sw_int 16 281470681808895 65536 x rfl Rv.mask16 hx
theorem sw1_int (x : Nat) (hx : x < 2 ^ 64) : bits .or .u64 (bits .and .u64 ((x : Int) / 2) 6148914691236517205) (IntKind.u64.wrap (bits .and .u64 (x : Int) 6148914691236517205 * 2)) = ((Rv.sw 1 6148914691236517205 x : Nat) : Int) := sw_int 1 6148914691236517205 2 x rfl Rv.mask1 hx
theorem sw2_int (x : Nat) (hx : x < 2 ^ 64) : bits .or .u64 (bits .and .u64 ((x : Int) / 4) 3689348814741910323) (IntKind.u64.wrap (bits .and .u64 (x : Int) 3689348814741910323 * 4)) = ((Rv.sw 2 3689348814741910323 x : Nat) : Int) := sw_int 2 3689348814741910323 4 x rfl Rv.mask2 hx
theorem sw4_int (x : Nat) (hx : x < 2 ^ 64) : bits .or .u64 (bits .and .u64 ((x : Int) / 16) 1085102592571150095) (IntKind.u64.wrap (bits .and .u64 (x : Int) 1085102592571150095 * 16)) = ((Rv.sw 4 1085102592571150095 x : Nat) : Int) := sw_int 4 1085102592571150095 16 x rfl Rv.mask4 hx
set_option maxRecDepth 100000 in
set_option maxHeartbeats 4000000 in
theorem revbytes_any (x : Nat) (w : World) (h1 : x < 2 ^ 64) :
    Calls Tryz.prog 128 #[.int .u64 x] w fun e w' => e = .returned (.int .u64 ((Rv.sw 16 281470681808895 (Rv.sw 8 71777214294589695 x) / 2 ^ 32 ||| Rv.sw 16 281470681808895 (Rv.sw 8 71777214294589695 x) * 2 ^ 32 % 2 ^ 64 : Nat) : Int)) ∧ w' = w := by
  have e1 := sw8_int x h1
  have e2 := sw16_int _ (Rv.sw_lt Rv.mask8 x)
  have e3 := half_int _ (Rv.sw_lt Rv.mask16 (Rv.sw 8 71777214294589695 x))
  go_enter Tryz.func128, Tryz.ntmps128
  go_wp2
  go_ret
  refine ⟨congrArg Ending.returned (congrArg (Value.int IntKind.u64) ?_), rfl⟩
  rfl
set_option maxRecDepth 100000 in
set_option maxHeartbeats 4000000 in
theorem rev_any (x : Nat) (w : World) (h1 : x < 2 ^ 64) :
    Calls Tryz.prog 127 #[.int .u64 x] w fun e w' => e = .returned (.int .u64 ((Rv.rv 64 x : Nat) : Int)) ∧ w' = w := by
  have e1 := sw1_int x h1
  have e2 := sw2_int _ (Rv.sw_lt Rv.mask1 x)
  have e3 := sw4_int _ (Rv.sw_lt Rv.mask2 (Rv.sw 1 6148914691236517205 x))
  have mR := revbytes_any (Rv.sw 4 1085102592571150095 (Rv.sw 2 3689348814741910323 (Rv.sw 1 6148914691236517205 x))) w (Rv.sw_lt Rv.mask4 _)
  go_enter Tryz.func127, Tryz.ntmps127
  go_wp2_with fail
  refine mR.mono ?_
  rintro _ w' ⟨rfl, rfl⟩
  go_wp2
  go_ret
  refine ⟨?_, rfl⟩
  rw [← Rv.rev_is]
  rfl
end Go.Proofs.YtlfpkbjiofelkaaGreat

namespace Go.Proofs.YtlfpkbjiofelkaaGreat
open Go.RowKit
theorem pow_one {L M x : Nat} (h1 : 2 ^ L ≤ x) (h2 : x < 2 ^ (L + 1)) (h3 : 2 ^ M ≤ x) (h4 : x < 2 ^ (M + 1)) : L = M := by
  have a : L < M + 1 := (Nat.pow_lt_pow_iff_right (by omega)).1 (Nat.lt_of_le_of_lt h1 h4)
  have b : M < L + 1 := (Nat.pow_lt_pow_iff_right (by omega)).1 (Nat.lt_of_le_of_lt h3 h2)
  omega
set_option maxRecDepth 100000 in
theorem len_bits (x : Nat) (L : Nat) (w : World) (h0 : 2 ^ L ≤ x) (h1 : x < 2 ^ (L + 1)) (hx : x < 18446744073709551616) :
    Calls Tryz.prog 77 #[.int .u64 x] w fun e w' => e = .returned (.int .i64 ((L + 1 : Nat) : Int)) ∧ w' = w := by
  have hp : 0 < x := Nat.lt_of_lt_of_le (Nat.pow_pos (by omega)) h0
  have m := len64_int (x : Int) w (by omega) (by omega)
  have K0 := And.intro h0 h1
  clear h0 h1
  go_enter Tryz.func77, Tryz.ntmps77
  go_wp2_with fail
  refine m.mono ?_
  rintro _ w' ⟨⟨M, rfl, q1, q2, q3⟩, rfl⟩
  rw [Int.toNat_natCast] at q1 q2
  have e := pow_one K0.1 K0.2 q1 q2
  subst e
  clear q1 q2 K0
  go_wp2
  go_ret
  exact ⟨rfl, rfl⟩
set_option maxRecDepth 100000 in
theorem reversed_any (x L : Nat) (w : World) (hx : x < 2 ^ 64) (hL : L ≤ 62) :
    Calls Tryz.prog 123 #[.int .u64 x, .int .i64 L] w fun e w' => e = .returned (.int .u64 ((Rv.rv L x : Nat) : Int)) ∧ w' = w := by
  have m := rev_any x w hx
  have hR := Rv.rv_lt 64 x
  have e := Rv.rv_big (L := L) (by omega) x
  rw [e]
  generalize Rv.rv 64 x = R at *
  clear e
  go_enter Tryz.func123, Tryz.ntmps123
  go_wp2_with fail
  refine m.mono ?_
  rintro _ w' ⟨rfl, rfl⟩
  go_wp2
  go_ret
  exact ⟨congrArg Ending.returned (congrArg (Value.int IntKind.u64) (by simp)), rfl⟩
/-- so many digits count in n buckets -/
def Lg (n : Int) (L : Nat) : Prop := 2 ^ L ≤ (max n 1).toNat ∧ (max n 1).toNat < 2 ^ (L + 1)
theorem lg_pow (L : Nat) : Lg ((2 ^ L : Nat) : Int) L := by
  have := Rv.two_pos L
  have e : (max ((2 ^ L : Nat) : Int) 1).toNat = 2 ^ L := by omega
  refine ⟨by rw [e]; exact Nat.le_refl _, by rw [e, Nat.pow_succ]; omega⟩
theorem lg_le {n : Int} {L : Nat} (h : Lg n L) (hn : n ≤ 9223372036854775807) : L ≤ 62 := by
  have h1 := h.1
  by_cases hL : L ≤ 62
  · exact hL
  · exfalso
    have := Nat.pow_le_pow_right (n := 2) (by omega) (show 63 ≤ L by omega)
    omega
set_option maxRecDepth 100000 in
theorem after_any (c : Nat) (n : Int) (L : Nat) (w : World) (hc : c < 2 ^ 64) (h0 : -9223372036854775808 ≤ n) (h1 : n ≤ 9223372036854775807) (hL : Lg n L) :
    Calls Tryz.prog 109 #[.int .u64 c, .int .i64 n] w fun e w' => e = .returned (.int .u64 ((Rv.next L c : Nat) : Int)) ∧ w' = w := by
  have hle := lg_le hL h1
  obtain ⟨m, hm⟩ : ∃ m : Nat, max n 1 = (m : Int) := ⟨(max n 1).toNat, by omega⟩
  have q := hL
  unfold Lg at q
  rw [hm, Int.toNat_natCast] at q
  have mL := len_bits m L w q.1 q.2 (by omega)
  have mR := reversed_any c L w hc hle
  have hlt := Rv.rv_lt L c
  have hp := Nat.pow_le_pow_right (n := 2) (by omega) hle
  have mN := reversed_any (Rv.rv L c + 1) L w (by omega) hle
  have hfin : ((Rv.next L c : Nat) : Int) = ((Rv.rv L (Rv.rv L c + 1) : Nat) : Int) := rfl
  rw [hfin]
  generalize Rv.rv L c = R at *
  have hR : R < 4611686018427387905 := by omega
  clear hlt hp hfin q hL
  go_enter Tryz.func109, Tryz.ntmps109
  go_wp2_with fail
  refine mL.mono ?_
  rintro _ w' ⟨rfl, rfl⟩
  go_wp2_with fail
  refine mR.mono ?_
  rintro _ w' ⟨rfl, rfl⟩
  go_wp2_with fail
  refine mN.mono ?_
  rintro _ w' ⟨rfl, rfl⟩
  go_wp2
  go_ret
  exact ⟨rfl, rfl⟩
/- the document's -/
set_option maxRecDepth 100000 in
theorem power_any (n : Int) (L : Nat) (w : World) (h0 : -9223372036854775808 ≤ n) (h1 : n ≤ 9223372036854775807) (hL : Lg n L) :
    Calls Tryz.prog 124 #[.int .i64 n] w fun e w' => e = .returned (.int .i64 ((2 ^ L : Nat) : Int)) ∧ w' = w := by
  have hle := lg_le hL h1
  have KL := keep hL
  clear hL
  go_enter Tryz.func124, Tryz.ntmps124
  go_wp2
  go_loop [3] (fun p => ∃ i : Nat, i ≤ L ∧ p = .int .i64 ((2 ^ i : Nat) : Int)) (fun p => (2 ^ L + 1) - (intOf p).toNat)
  case atStart => exact ⟨0, Nat.zero_le _, rfl⟩
  case round =>
    obtain ⟨i, hi, rfl⟩ := hrel
    have hp := Rv.two_pos i
    have hp2 : 2 ^ i ≤ 2 ^ 62 := Nat.pow_le_pow_right (by omega) (by omega)
    have hs : 2 ^ (i + 1) = 2 * 2 ^ i := by rw [Nat.pow_succ, Nat.mul_comm]
    by_cases hc : i < L
    · have KP := keep (Nat.pow_le_pow_right (n := 2) (by omega) (show i + 1 ≤ L from hc))
      have hx := KL.out.1
      have hk := KP.out
      have hn : 0 ≤ n := by omega
      have hq : ((2 ^ i : Nat) : Int) ≤ n / 2 := by omega
      have KS := keep hs
      generalize 2 ^ i = P at *
      clear hs hk hx
      have hP : P ≤ 4611686018427387904 := by omega
      clear hp2
      have hw : IntKind.i64.wrap (2 * (P : Int)) = ((2 * P : Nat) : Int) := by rw [IntKind.wrap_i64]; omega
      go_wp2
      go_round
      case rel => exact ⟨i + 1, hc, by rw [KS.out]; simp⟩
      case measure => have := KP.out; have := KS.out; simp [intOf]; omega
    · have e : i = L := by omega
      subst e
      have hx := KL.out.2
      have hq : ¬ ((2 ^ i : Nat) : Int) ≤ n.tdiv 2 := by
        rcases Int.le_total 0 n with h | h
        · rw [Int.tdiv_eq_ediv_of_nonneg h]; omega
        · have e : n.tdiv 2 = -((-n).tdiv 2) := by rw [Int.neg_tdiv, Int.neg_neg]
          rw [e, Int.tdiv_eq_ediv_of_nonneg (by omega)]; omega
      clear hs hx
      generalize hPP : 2 ^ i = P
      rw [hPP] at hq hp hp2
      have KPP := keep hPP
      clear hPP
      have hP : P ≤ 4611686018427387904 := by omega
      clear hp2
      go_wp2
      go_ret
      refine ⟨?_, rfl⟩
      show Ending.returned (Value.int IntKind.i64 (P : Int)) = _
      try rw [← KPP.out]
      try simp
set_option maxRecDepth 100000 in
set_option maxHeartbeats 1000000 in
theorem turned_any (x L : Nat) (w : World) (hx : x < 2 ^ 62) (hL : L ≤ 62) :
    Calls Tryz.prog 125 #[.int .i64 x, .int .i64 ((2 ^ L : Nat) : Int)] w fun e w' => e = .returned (.int .i64 ((Rv.rv L x : Nat) : Int)) ∧ w' = w := by
  have hlt := keep (Rv.rv_lt L x)
  have h62 := keep (Nat.pow_le_pow_right (n := 2) (by omega) hL)
  go_enter Tryz.func125, Tryz.ntmps125
  go_wp2
  go_loop [0, 1, 5] (fun u n r => ∃ j y R : Nat, j ≤ L ∧ y < 4611686018427387904 ∧ u = .int .i64 y ∧ n = .int .i64 ((2 ^ j : Nat) : Int) ∧ r = .int .i64 R ∧ Kept (R * 2 ^ j + Rv.rv j y = Rv.rv L x)) (fun _ n _ => (intOf n).toNat)
  case atStart => exact ⟨L, x, 0, Nat.le_refl _, hx, rfl, rfl, rfl, by show _ = _; rw [Nat.zero_mul, Nat.zero_add]⟩
  case round =>
    obtain ⟨j, y, R, hj, hy, rfl, rfl, rfl, KE⟩ := hrel
    cases j with
    | zero =>
      have e : R = Rv.rv L x := by have := KE.out; simpa [Rv.rv] using this
      subst e
      have hle : ((2 ^ 0 : Nat) : Int) = 1 := rfl
      rw [hle]
      generalize hZ : Rv.rv L x = Z
      have KZ := keep hZ
      clear hZ KE hlt h62
      go_wp2
      go_ret
      refine ⟨?_, rfl⟩
      rw [KZ.out]
      rfl
    | succ j =>
      have hp := Rv.two_pos j
      have hp2 : 2 ^ (j + 1) ≤ 2 ^ 62 := Nat.pow_le_pow_right (by omega) (by omega)
      have hs : 2 ^ (j + 1) = 2 * 2 ^ j := by rw [Nat.pow_succ, Nat.mul_comm]
      have hR : R < 4611686018427387904 := by
        have h1 := KE.out
        have h2 := hlt.out
        have h3 := h62.out
        have h4 : R * 1 ≤ R * 2 ^ (j + 1) := Nat.mul_le_mul_left _ (Rv.two_pos _)
        omega
      have KJ : Kept ((2 * R + y % 2) * 2 ^ j + Rv.rv j (y / 2) = Rv.rv L x) := by
        show _ = _
        rw [← KE.out, hs]
        show _ = _ + (y % 2 * 2 ^ j + Rv.rv j (y / 2))
        rw [Nat.add_mul, Nat.mul_assoc, ← Nat.add_assoc, Nat.mul_left_comm R 2]
      rw [hs]
      rw [hs] at hp2
      clear hs KE
      have KP : Kept (2 ^ j = 2 ^ j) := rfl
      generalize hPP : 2 ^ j = P
      rw [hPP] at hp hp2
      have hP : P ≤ 2305843009213693952 := by omega
      have KPP := keep hPP
      clear hp2 hPP KP
      generalize hN : 2 * P = N
      have hg : (1 : Int) < (N : Int) := by omega
      have hN2 : N ≤ 9223372036854775807 := by omega
      have w2 : (N : Int) / 2 = (P : Int) := by omega
      have KN := keep hN
      clear hN
      clear hx hp hlt h62
      go_wp2
      go_round
      case rel => exact ⟨j, y / 2, 2 * R + y % 2, by omega, by omega, by go_num, by rw [KPP.out], by go_num, KJ⟩
      case measure => have := KN.out; simp [intOf]; omega
set_option maxRecDepth 100000 in
theorem rafter_any (c : Nat) (n : Int) (L : Nat) (w : World) (hc : c < 2 ^ 64) (h0 : -9223372036854775808 ≤ n) (h1 : n ≤ 9223372036854775807) (hL : Lg n L) :
    Calls Tryz.prog 110 #[.int .u64 c, .int .i64 n] w fun e w' => e = .returned (.int .u64 ((Rv.next L c : Nat) : Int)) ∧ w' = w := by
  have hle := lg_le hL h1
  have mP := power_any n L w h0 h1 hL
  have hp := Rv.two_pos L
  have hp2 : 2 ^ L ≤ 4611686018427387904 := Nat.pow_le_pow_right (n := 2) (by omega) hle
  have mT := turned_any (c % 2 ^ L) L w (Nat.lt_of_lt_of_le (Nat.mod_lt _ hp) hp2) hle
  rw [Rv.rv_mod] at mT
  have hlt := Rv.rv_lt L c
  have hfin := Rv.next_is L c
  have hnl := Rv.rv_lt L (Rv.rv L c + 1)
  have mU : Rv.rv L c + 1 < 2 ^ 62 → _ := fun q => turned_any (Rv.rv L c + 1) L w q hle
  rw [hfin]
  clear hfin hL
  generalize Rv.rv L (Rv.rv L c + 1) = Z at *
  generalize Rv.rv L c = R at *
  generalize hPP : 2 ^ L = P at *
  clear hPP
  have hm : c % P < P := Nat.mod_lt _ hp
  have hcm : (c : Int) % (P : Int) = ((c % P : Nat) : Int) := by omega
  generalize c % P = D at *
  have hP0 : (P : Int) ≠ 0 := by omega
  go_enter Tryz.func110, Tryz.ntmps110
  go_wp2_with fail
  refine mP.mono ?_
  rintro _ w' ⟨rfl, rfl⟩
  clear mP
  go_wp2_with fail
  refine mT.mono ?_
  rintro _ w' ⟨rfl, rfl⟩
  clear mT
  by_cases hq : R + 1 = P
  · have hq' : (R : Int) + 1 = (P : Int) := by omega
    go_wp2
    go_ret
    exact ⟨rfl, rfl⟩
  · have hq' : ¬ (R : Int) + 1 = (P : Int) := by omega
    have mV := mU (by omega)
    clear mU
    go_wp2_with fail
    refine mV.mono ?_
    rintro _ w' ⟨rfl, rfl⟩
    clear mV
    go_wp2
    go_ret
    exact ⟨rfl, rfl⟩
theorem lg_ex (n : Int) : ∃ L, Lg n L := by
  have h : (max n 1).toNat ≠ 0 := by omega
  exact ⟨(max n 1).toNat.log2, Nat.log2_self_le h, Nat.lt_log2_self⟩
theorem next_0_8 : Rv.next 3 0 = 4 := by decide +kernel
theorem next_4_8 : Rv.next 3 4 = 2 := by decide +kernel
theorem after_0_8 (w : World) : Calls Tryz.prog 109 #[.int .u64 0, .int .i64 8] w fun e w' => e = .returned (.int .u64 4) ∧ w' = w := by
  have m := after_any 0 8 3 w (by decide) (by decide) (by decide) (lg_pow 3)
  rw [next_0_8] at m
  exact m
theorem after_4_8 (w : World) : Calls Tryz.prog 109 #[.int .u64 4, .int .i64 8] w fun e w' => e = .returned (.int .u64 2) ∧ w' = w := by
  have m := after_any 4 8 3 w (by decide) (by decide) (by decide) (lg_pow 3)
  rw [next_4_8] at m
  exact m
end Go.Proofs.YtlfpkbjiofelkaaGreat
