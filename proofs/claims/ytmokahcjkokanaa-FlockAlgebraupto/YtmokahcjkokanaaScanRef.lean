/-
  Contracts over this program: the cursor behind a cursor, the program's and the document's.
-/
import Derived.WalkKit
import Derived.Laws.Bits64
import Derived.Lib.BitFns
import Derived.Test.YtmokahcjkokanaaChecked
import Derived.Lib.Small
import Derived.Lib.Walk
import Derived.Test.YtmokahcjkokanaaDrawMath
/-
  Plain mathematics, with no program in sight: binary digits the other way round, and the cursor behind a cursor.
-/
namespace Go.Proofs.Ytmokahcjkokanaa
namespace Rv
/-- the lowest L binary digits of x, the other way round -/
def rv : Nat → Nat → Nat
  | 0, _ => 0
  | L + 1, x => x % 2 * 2 ^ L + rv L (x / 2)
theorem two_pos (L : Nat) : 0 < 2 ^ L := Nat.pow_pos (by omega)
theorem rv_lt (L : Nat) : ∀ x, rv L x < 2 ^ L := by
  induction L with
  | zero => intro x; simp [rv]
  | succ L ih =>
    intro x
    have h := ih (x / 2)
    have e : 2 ^ (L + 1) = 2 * 2 ^ L := by rw [Nat.pow_succ, Nat.mul_comm]
    rcases Nat.mod_two_eq_zero_or_one x with h2 | h2
    · simp only [rv, h2, Nat.zero_mul, Nat.zero_add]; omega
    · simp only [rv, h2, Nat.one_mul]; omega
theorem rv_snoc (L : Nat) : ∀ x, rv (L + 1) x = 2 * rv L x + x / 2 ^ L % 2 := by
  induction L with
  | zero => intro x; simp [rv]
  | succ L ih =>
    intro x
    have e : 2 ^ (L + 1) = 2 * 2 ^ L := by rw [Nat.pow_succ, Nat.mul_comm]
    show x % 2 * 2 ^ (L + 1) + rv (L + 1) (x / 2) = 2 * (x % 2 * 2 ^ L + rv L (x / 2)) + _
    rw [ih (x / 2), Nat.div_div_eq_div_mul, e, Nat.mul_add]
    have : x % 2 * (2 * 2 ^ L) = 2 * (x % 2 * 2 ^ L) := by rw [Nat.mul_left_comm]
    omega
theorem rv_bit (L : Nat) : ∀ x i, (rv L x).testBit i = (decide (i < L) && x.testBit (L - 1 - i)) := by
  induction L with
  | zero => intro x i; simp [rv]
  | succ L ih =>
    intro x i
    rw [rv_snoc]
    cases i with
    | zero =>
      rw [Nat.testBit_zero, Nat.testBit_eq_decide_div_mod_eq]
      have h1 : (2 * rv L x + x / 2 ^ L % 2) % 2 = x / 2 ^ L % 2 := by omega
      rw [h1]
      simp
    | succ i =>
      rw [Nat.testBit_succ]
      have h1 : (2 * rv L x + x / 2 ^ L % 2) / 2 = rv L x := by omega
      rw [h1, ih x i]
      have h2 : L + 1 - 1 - (i + 1) = L - 1 - i := by omega
      rw [h2]
      simp
theorem rv_split (A : Nat) : ∀ (B x : Nat), rv (A + B) x = rv A x * 2 ^ B + rv B (x / 2 ^ A) := by
  induction A with
  | zero => intro B x; simp [rv]
  | succ A ih =>
    intro B x
    rw [Nat.add_right_comm A 1 B]
    show x % 2 * 2 ^ (A + B) + rv (A + B) (x / 2) = (x % 2 * 2 ^ A + rv A (x / 2)) * 2 ^ B + _
    rw [ih, Nat.div_div_eq_div_mul, Nat.pow_add, Nat.pow_succ, Nat.add_mul, Nat.mul_comm 2 (2 ^ A), Nat.mul_assoc]
    omega
theorem rv_zero (L : Nat) : rv L 0 = 0 := by
  induction L with
  | zero => rfl
  | succ L ih => simp [rv, ih]
theorem rv_mod (L : Nat) (x : Nat) : rv L (x % 2 ^ L) = rv L x := by
  apply Nat.eq_of_testBit_eq
  intro i
  rw [rv_bit, rv_bit]
  by_cases h : i < L
  · rw [Nat.testBit_mod_two_pow, decide_eq_true (show L - 1 - i < L by omega)]; simp
  · simp [h]
theorem rv_rv (L x : Nat) : rv L (rv L x) = x % 2 ^ L := by
  apply Nat.eq_of_testBit_eq
  intro i
  rw [rv_bit, rv_bit, Nat.testBit_mod_two_pow]
  by_cases h : i < L
  · have h1 : L - 1 - (L - 1 - i) = i := by omega
    have h2 : L - 1 - i < L := by omega
    simp [h, h1, h2]
  · simp [h]
theorem rv_all (L : Nat) : rv L (2 ^ L) = 0 := by rw [← rv_mod, Nat.mod_self, rv_zero]
theorem rv_big {L : Nat} (hL : L ≤ 64) (x : Nat) : rv L x = rv 64 x / 2 ^ (64 - L) := by
  obtain ⟨B, hB⟩ : ∃ B, 64 = L + B := ⟨64 - L, by omega⟩
  have e : 64 - L = B := by omega
  rw [e, hB, rv_split, Nat.mul_comm, Nat.mul_add_div (two_pos B), Nat.div_eq_of_lt (rv_lt B _), Nat.add_zero]
/-- the cursor behind c in 2^L buckets -/
def next (L c : Nat) : Nat := rv L (rv L c + 1)
theorem next_lt (L c : Nat) : next L c < 2 ^ L := rv_lt L _
theorem next_is (L c : Nat) : next L c = if rv L c + 1 = 2 ^ L then 0 else rv L (rv L c + 1) := by
  unfold next
  split
  next h => rw [h, rv_all]
  next => rfl
theorem rv_next (L c : Nat) : rv L (next L c) = (rv L c + 1) % 2 ^ L := rv_rv L _
theorem next_mod (L c : Nat) : next L (c % 2 ^ L) = next L c := by unfold next; rw [rv_mod]
/- the digits of 64, swapped in pairs of stretches -/
def sw (k m x : Nat) : Nat := (x / 2 ^ k &&& m) ||| ((x &&& m) * 2 ^ k % 2 ^ 64)
def place (k i : Nat) : Nat := if i / k % 2 = 0 then i + k else i - k
def Mask (k m : Nat) : Prop := 0 < k ∧ k ≤ 64 ∧ (∀ i, i < 64 → m.testBit i = decide (i / k % 2 = 0)) ∧ m < 2 ^ 64
theorem sw_bit {k m : Nat} (hm : Mask k m) (x i : Nat) (hi : i < 64) : (sw k m x).testBit i = x.testBit (place k i) := by
  obtain ⟨k0, k1, hb, hs⟩ := hm
  unfold sw place
  rw [Nat.testBit_or, Nat.testBit_and, Nat.testBit_mod_two_pow, Nat.testBit_div_two_pow, Nat.testBit_mul_two_pow, Nat.testBit_and, hb i hi]
  by_cases hk : k ≤ i
  · rw [hb (i - k) (by omega)]
    have h1 : i / k = (i - k) / k + 1 := by
      have := Nat.add_div_right (i - k) k0
      rw [Nat.sub_add_cancel hk] at this
      exact this
    by_cases h0 : i / k % 2 = 0
    · have h2 : ¬ ((i - k) / k % 2 = 0) := by omega
      simp [h0, h2, hi]
    · have h2 : (i - k) / k % 2 = 0 := by omega
      simp [h0, h2, hi, hk]
  · have h1 : i / k = 0 := Nat.div_eq_of_lt (by omega)
    simp [h1, hk]
def rev (x : Nat) : Nat :=
  let a := sw 16 281470681808895 (sw 8 71777214294589695 (sw 4 1085102592571150095 (sw 2 3689348814741910323 (sw 1 6148914691236517205 x))))
  a / 2 ^ 32 ||| a * 2 ^ 32 % 2 ^ 64
theorem mask1 : Mask 1 6148914691236517205 := ⟨by decide, by decide, by decide +kernel, by decide⟩
theorem mask2 : Mask 2 3689348814741910323 := ⟨by decide, by decide, by decide +kernel, by decide⟩
theorem mask4 : Mask 4 1085102592571150095 := ⟨by decide, by decide, by decide +kernel, by decide⟩
theorem mask8 : Mask 8 71777214294589695 := ⟨by decide, by decide, by decide +kernel, by decide⟩
theorem mask16 : Mask 16 281470681808895 := ⟨by decide, by decide, by decide +kernel, by decide⟩
theorem sw_lt {k m : Nat} (hm : Mask k m) (x : Nat) : sw k m x < 2 ^ 64 := by
  unfold sw
  exact Nat.or_lt_two_pow (Nat.lt_of_le_of_lt Nat.and_le_right hm.2.2.2) (Nat.mod_lt _ (by decide))
theorem places : ∀ i, i < 64 → (place 1 (place 2 (place 4 (place 8 (place 16 (place 32 i))))) = 63 - i) ∧ place 2 (place 4 (place 8 (place 16 (place 32 i)))) < 64 ∧ place 4 (place 8 (place 16 (place 32 i))) < 64 ∧ place 8 (place 16 (place 32 i)) < 64 ∧ place 16 (place 32 i) < 64 ∧ place 32 i < 64 := by decide +kernel
theorem rev_bit (x i : Nat) (hi : i < 64) : (rev x).testBit i = x.testBit (63 - i) := by
  obtain ⟨h0, h1, h2, h3, h4, h5⟩ := places i hi
  have e : ∀ a : Nat, a < 2 ^ 64 → (a / 2 ^ 32 ||| a * 2 ^ 32 % 2 ^ 64).testBit i = a.testBit (place 32 i) := by
    intro a ha
    rw [Nat.testBit_or, Nat.testBit_mod_two_pow, Nat.testBit_div_two_pow, Nat.testBit_mul_two_pow]
    unfold place
    by_cases hk : 32 ≤ i
    · have q1 : i / 32 % 2 = 1 := by omega
      have q2 : a.testBit (i + 32) = false := Nat.testBit_lt_two_pow (Nat.lt_of_lt_of_le ha (Nat.pow_le_pow_right (by omega) (by omega)))
      simp [q1, q2, hi, hk]
    · have q1 : i / 32 % 2 = 0 := by omega
      simp [q1, hk]
  unfold rev
  rw [e _ (sw_lt mask16 _), sw_bit mask16 _ _ h5, sw_bit mask8 _ _ h4, sw_bit mask4 _ _ h3, sw_bit mask2 _ _ h2, sw_bit mask1 _ _ h1, h0]
theorem rev_lt (x : Nat) : rev x < 2 ^ 64 := by
  unfold rev
  exact Nat.or_lt_two_pow (Nat.lt_of_le_of_lt (Nat.div_le_self _ _) (sw_lt mask16 _)) (Nat.mod_lt _ (by decide))
theorem rev_is (x : Nat) : rev x = rv 64 x := by
  apply Nat.eq_of_testBit_eq
  intro i
  rw [rv_bit]
  by_cases hi : i < 64
  · rw [rev_bit x i hi, decide_eq_true hi]; simp
  · rw [decide_eq_false hi, Nat.testBit_lt_two_pow (Nat.lt_of_lt_of_le (rev_lt x) (Nat.pow_le_pow_right (by omega) (by omega)))]; rfl
theorem rev_part {L : Nat} (hL : L ≤ 64) (x : Nat) : rev x / 2 ^ (64 - L) = rv L x := by rw [rev_is, rv_big hL]
/- the program's own bits -/
theorem wrap_nat (a : Nat) : IntKind.u64.wrap (a : Int) = ((a % 2 ^ 64 : Nat) : Int) := by rw [IntKind.wrap_u64]; rfl
theorem and_nat (a b : Nat) (ha : a < 2 ^ 64) (hb : b < 2 ^ 64) : bits .and .u64 (a : Int) (b : Int) = ((a &&& b : Nat) : Int) := by
  have hx : a &&& b < 2 ^ 64 := Nat.lt_of_le_of_lt Nat.and_le_right hb
  have h1 : (BitVec.ofInt 64 (a : Int)).toNat = a := by rw [BitVec.ofInt_natCast, BitVec.toNat_ofNat]; exact Nat.mod_eq_of_lt ha
  have h2 : (BitVec.ofInt 64 (b : Int)).toNat = b := by rw [BitVec.ofInt_natCast, BitVec.toNat_ofNat]; exact Nat.mod_eq_of_lt hb
  show IntKind.u64.wrap ((BitVec.ofInt 64 (a : Int) &&& BitVec.ofInt 64 (b : Int)).toNat : Int) = _
  rw [BitVec.toNat_and, h1, h2, wrap_nat, Nat.mod_eq_of_lt hx]
theorem or_nat (a b : Nat) (ha : a < 2 ^ 64) (hb : b < 2 ^ 64) : bits .or .u64 (a : Int) (b : Int) = ((a ||| b : Nat) : Int) := by
  have hx : a ||| b < 2 ^ 64 := Nat.or_lt_two_pow ha hb
  have h1 : (BitVec.ofInt 64 (a : Int)).toNat = a := by rw [BitVec.ofInt_natCast, BitVec.toNat_ofNat]; exact Nat.mod_eq_of_lt ha
  have h2 : (BitVec.ofInt 64 (b : Int)).toNat = b := by rw [BitVec.ofInt_natCast, BitVec.toNat_ofNat]; exact Nat.mod_eq_of_lt hb
  show IntKind.u64.wrap ((BitVec.ofInt 64 (a : Int) ||| BitVec.ofInt 64 (b : Int)).toNat : Int) = _
  rw [BitVec.toNat_or, h1, h2, wrap_nat, Nat.mod_eq_of_lt hx]
end Rv
end Go.Proofs.Ytmokahcjkokanaa

/-
  Contracts over this program: bits turned round, and the cursor behind a cursor.
-/
namespace Go.Proofs.Ytmokahcjkokanaa
open Go.RowKit
theorem tab_small : ∀ n : Fin 256, n.val = 0 ∨ ∃ L : Fin 8, Lib.bitLen n.val = L.val + 1 ∧ 2 ^ L.val ≤ n.val ∧ n.val < 2 ^ (L.val + 1) := by decide +kernel
theorem tab_math (x K m t : Nat) (hm : m = x / 2 ^ K) (h : ∃ L : Nat, L < 8 ∧ t = L + 1 ∧ 2 ^ L ≤ m ∧ m < 2 ^ (L + 1)) (hK : K ≤ 56) :
    ∃ L : Nat, K + t = L + 1 ∧ 2 ^ L ≤ x ∧ x < 2 ^ (L + 1) ∧ L < 64 := by
  obtain ⟨L, hL, h1, h2, h3⟩ := h
  refine ⟨K + L, by omega, ?_, ?_, by omega⟩
  · rw [Nat.pow_add]
    refine Nat.le_trans (Nat.mul_le_mul_left _ h2) ?_
    rw [hm]
    exact Nat.mul_div_le x (2 ^ K)
  · rw [Nat.add_assoc, Nat.pow_add]
    rw [hm] at h3
    rw [Nat.mul_comm]
    exact (Nat.div_lt_iff_lt_mul (Nat.pow_pos (by omega))).1 h3
theorem tab_at (m : Nat) (h0 : 0 < m) (h8 : m ≤ 255) (h : m < Lib.len8tab.size) : ∃ L : Nat, L < 8 ∧ (Lib.len8tab[m]'h).toNat = L + 1 ∧ 2 ^ L ≤ m ∧ m < 2 ^ (L + 1) := by
  have e := Lib.len8_of (m : Int) (by omega) (by omega)
  rw [Int.toNat_natCast] at e
  unfold Lib.len8 at e
  rw [Int.toNat_natCast, getElem?_pos Lib.len8tab m h, Option.getD_some] at e
  rcases tab_small ⟨m, by omega⟩ with h1 | ⟨⟨L, hL⟩, h1, h2, h3⟩
  · exact absurd h1 (by show ¬ m = 0; omega)
  · refine ⟨L, hL, ?_, h2, h3⟩
    exact (Int.ofNat.inj e).trans h1
theorem tab_wrap (x : Nat) (k : Int) (K t : Nat) (hk : k = (K : Int)) (hK : K ≤ 56) (ht : t ≤ 8) (h : ∃ L : Nat, K + t = L + 1 ∧ 2 ^ L ≤ x ∧ x < 2 ^ (L + 1) ∧ L < 64) :
    ∃ L : Nat, wrap64 (k + wrap64 (t : Int)) = ((L + 1 : Nat) : Int) ∧ 2 ^ L ≤ x ∧ x < 2 ^ (L + 1) ∧ L < 64 := by
  obtain ⟨L, h1, h2⟩ := h
  refine ⟨L, ?_, h2⟩
  rw [← h1, hk]
  clear h2
  unfold RowKit.wrap64
  omega
theorem lentab_is (x K m : Nat) (hm : m = x / 2 ^ K) (h0 : 0 < m) (h8 : m ≤ 255) (hK : K ≤ 56) (k : Int) (hk : k = (K : Int)) (h : m < Lib.len8tab.size) :
    ∃ L : Nat, wrap64 (k + wrap64 ((Lib.len8tab[m]'h).toNat : Int)) = ((L + 1 : Nat) : Int) ∧ 2 ^ L ≤ x ∧ x < 2 ^ (L + 1) ∧ L < 64 := by
  have q := tab_at m h0 h8 h
  generalize (Lib.len8tab[m]'h).toNat = t at q
  refine tab_wrap x k K t hk hK ?_ (tab_math x K m t hm q hK)
  obtain ⟨L, q1, q2, _⟩ := q
  omega
set_option maxRecDepth 100000 in
set_option maxHeartbeats 4000000 in
theorem len64_int (x : Int) (w : World) (h0 : 0 < x) (h1 : x < 18446744073709551616) :
    Calls Try.prog 74 #[.int .u64 x] w fun e w' => (∃ L : Nat, e = .returned (.int .i64 ((L + 1 : Nat) : Int)) ∧ 2 ^ L ≤ x.toNat ∧ x.toNat < 2 ^ (L + 1) ∧ L < 64) ∧ w' = w := by
  have fin : ∀ v : Int, (∃ L : Nat, v = ((L + 1 : Nat) : Int) ∧ 2 ^ L ≤ x.toNat ∧ x.toNat < 2 ^ (L + 1) ∧ L < 64) → ∃ L : Nat, Ending.returned (.int .i64 v) = .returned (.int .i64 ((L + 1 : Nat) : Int)) ∧ 2 ^ L ≤ x.toNat ∧ x.toNat < 2 ^ (L + 1) ∧ L < 64 := by
    rintro v ⟨L, rfl, h⟩
    exact ⟨L, rfl, h⟩
  go_enter Try.func74, Try.ntmps74
  go_wp2
  all_goals try (exfalso; have hz := Lib.len8tab_size; omega)
  all_goals (try (go_ret; refine ⟨fin _ ?_, rfl⟩))
  · exact lentab_is x.toNat 56 _ (by omega) (by omega) (by omega) (by omega) 56 rfl _
  · exact lentab_is x.toNat 48 _ (by omega) (by omega) (by omega) (by omega) 48 rfl _
  · exact lentab_is x.toNat 40 _ (by omega) (by omega) (by omega) (by omega) 40 rfl _
  · exact lentab_is x.toNat 32 _ (by omega) (by omega) (by omega) (by omega) 32 rfl _
  · exact lentab_is x.toNat 24 _ (by omega) (by omega) (by omega) (by omega) 24 rfl _
  · exact lentab_is x.toNat 16 _ (by omega) (by omega) (by omega) (by omega) 16 rfl _
  · exact lentab_is x.toNat 8 _ (by omega) (by omega) (by omega) (by omega) 8 rfl _
  · have e := lentab_is x.toNat 0 x.toNat (by simp) (by omega) (by omega) (by omega) 0 rfl (by have hz := Lib.len8tab_size; omega)
    rw [Int.zero_add] at e
    exact e
/-- a swap, as the program writes it -/
theorem sw_int (k m P x : Nat) (hP : P = 2 ^ k) (hm : Rv.Mask k m) (hx : x < 2 ^ 64) :
    bits .or .u64 (bits .and .u64 ((x : Int) / (P : Int)) (m : Int)) (IntKind.u64.wrap (bits .and .u64 (x : Int) (m : Int) * (P : Int))) = ((Rv.sw k m x : Nat) : Int) := by
  subst hP
  have h1 : (x : Int) / ((2 ^ k : Nat) : Int) = ((x / 2 ^ k : Nat) : Int) := by simp
  rw [h1, Rv.and_nat _ _ (Nat.lt_of_le_of_lt (Nat.div_le_self _ _) hx) hm.2.2.2, Rv.and_nat _ _ hx hm.2.2.2, ← Int.natCast_mul, Rv.wrap_nat,
    Rv.or_nat _ _ (Nat.lt_of_le_of_lt Nat.and_le_right hm.2.2.2) (Nat.mod_lt _ (by decide))]
  rfl
theorem half_int (x : Nat) (hx : x < 2 ^ 64) : bits .or .u64 ((x : Int) / 4294967296) (IntKind.u64.wrap ((x : Int) * 4294967296)) = ((x / 2 ^ 32 ||| x * 2 ^ 32 % 2 ^ 64 : Nat) : Int) := by
  have h1 : (x : Int) / 4294967296 = ((x / 2 ^ 32 : Nat) : Int) := by omega
  have h2 : (x : Int) * 4294967296 = ((x * 2 ^ 32 : Nat) : Int) := by omega
  rw [h1, h2, Rv.wrap_nat, Rv.or_nat _ _ (Nat.lt_of_le_of_lt (Nat.div_le_self _ _) hx) (Nat.mod_lt _ (by decide))]
theorem sw8_int (x : Nat) (hx : x < 2 ^ 64) : bits .or .u64 (bits .and .u64 ((x : Int) / 256) 71777214294589695) (IntKind.u64.wrap (bits .and .u64 (x : Int) 71777214294589695 * 256)) = ((Rv.sw 8 71777214294589695 x : Nat) : Int) := sw_int 8 71777214294589695 256 x rfl Rv.mask8 hx
theorem sw16_int (x : Nat) (hx : x < 2 ^ 64) : bits .or .u64 (bits .and .u64 ((x : Int) / 65536) 281470681808895) (IntKind.u64.wrap (bits .and .u64 (x : Int) 281470681808895 * 65536)) = ((Rv.sw 16 281470681808895 x : Nat) : Int) := sw_int 16 281470681808895 65536 x rfl Rv.mask16 hx
theorem sw1_int (x : Nat) (hx : x < 2 ^ 64) : bits .or .u64 (bits .and .u64 ((x : Int) / 2) 6148914691236517205) (IntKind.u64.wrap (bits .and .u64 (x : Int) 6148914691236517205 * 2)) = ((Rv.sw 1 6148914691236517205 x : Nat) : Int) := sw_int 1 6148914691236517205 2 x rfl Rv.mask1 hx
theorem sw2_int (x : Nat) (hx : x < 2 ^ 64) : bits .or .u64 (bits .and .u64 ((x : Int) / 4) 3689348814741910323) (IntKind.u64.wrap (bits .and .u64 (x : Int) 3689348814741910323 * 4)) = ((Rv.sw 2 3689348814741910323 x : Nat) : Int) := sw_int 2 3689348814741910323 4 x rfl Rv.mask2 hx
theorem sw4_int (x : Nat) (hx : x < 2 ^ 64) : bits .or .u64 (bits .and .u64 ((x : Int) / 16) 1085102592571150095) (IntKind.u64.wrap (bits .and .u64 (x : Int) 1085102592571150095 * 16)) = ((Rv.sw 4 1085102592571150095 x : Nat) : Int) := sw_int 4 1085102592571150095 16 x rfl Rv.mask4 hx
set_option maxRecDepth 100000 in
set_option maxHeartbeats 4000000 in
theorem revbytes_any (x : Nat) (w : World) (h1 : x < 2 ^ 64) :
    Calls Try.prog 93 #[.int .u64 x] w fun e w' => e = .returned (.int .u64 ((Rv.sw 16 281470681808895 (Rv.sw 8 71777214294589695 x) / 2 ^ 32 ||| Rv.sw 16 281470681808895 (Rv.sw 8 71777214294589695 x) * 2 ^ 32 % 2 ^ 64 : Nat) : Int)) ∧ w' = w := by
  have e1 := sw8_int x h1
  have e2 := sw16_int _ (Rv.sw_lt Rv.mask8 x)
  have e3 := half_int _ (Rv.sw_lt Rv.mask16 (Rv.sw 8 71777214294589695 x))
  go_enter Try.func93, Try.ntmps93
  go_wp2
  go_ret
  refine ⟨congrArg Ending.returned (congrArg (Value.int IntKind.u64) ?_), rfl⟩
  rfl
set_option maxRecDepth 100000 in
set_option maxHeartbeats 4000000 in
theorem rev_any (x : Nat) (w : World) (h1 : x < 2 ^ 64) :
    Calls Try.prog 92 #[.int .u64 x] w fun e w' => e = .returned (.int .u64 ((Rv.rv 64 x : Nat) : Int)) ∧ w' = w := by
  have e1 := sw1_int x h1
  have e2 := sw2_int _ (Rv.sw_lt Rv.mask1 x)
  have e3 := sw4_int _ (Rv.sw_lt Rv.mask2 (Rv.sw 1 6148914691236517205 x))
  have mR := revbytes_any (Rv.sw 4 1085102592571150095 (Rv.sw 2 3689348814741910323 (Rv.sw 1 6148914691236517205 x))) w (Rv.sw_lt Rv.mask4 _)
  go_enter Try.func92, Try.ntmps92
  go_wp2_with fail
  refine mR.mono ?_
  rintro _ w' ⟨rfl, rfl⟩
  go_wp2
  go_ret
  refine ⟨?_, rfl⟩
  rw [← Rv.rev_is]
  rfl
end Go.Proofs.Ytmokahcjkokanaa

namespace Go.Proofs.Ytmokahcjkokanaa
open Go.RowKit
theorem pow_one {L M x : Nat} (h1 : 2 ^ L ≤ x) (h2 : x < 2 ^ (L + 1)) (h3 : 2 ^ M ≤ x) (h4 : x < 2 ^ (M + 1)) : L = M := by
  have a : L < M + 1 := (Nat.pow_lt_pow_iff_right (by omega)).1 (Nat.lt_of_le_of_lt h1 h4)
  have b : M < L + 1 := (Nat.pow_lt_pow_iff_right (by omega)).1 (Nat.lt_of_le_of_lt h3 h2)
  omega
set_option maxRecDepth 100000 in
theorem len_bits (x : Nat) (L : Nat) (w : World) (h0 : 2 ^ L ≤ x) (h1 : x < 2 ^ (L + 1)) (hx : x < 18446744073709551616) :
    Calls Try.prog 48 #[.int .u64 x] w fun e w' => e = .returned (.int .i64 ((L + 1 : Nat) : Int)) ∧ w' = w := by
  have hp : 0 < x := Nat.lt_of_lt_of_le (Nat.pow_pos (by omega)) h0
  have m := len64_int (x : Int) w (by omega) (by omega)
  have K0 := And.intro h0 h1
  clear h0 h1
  go_enter Try.func48, Try.ntmps48
  go_wp2_with fail
  refine m.mono ?_
  rintro _ w' ⟨⟨M, rfl, q1, q2, q3⟩, rfl⟩
  rw [Int.toNat_natCast] at q1 q2
  have e := pow_one K0.1 K0.2 q1 q2
  subst e
  clear q1 q2 K0
  go_wp2
  go_ret
  exact ⟨rfl, rfl⟩
set_option maxRecDepth 100000 in
theorem reversed_any (x L : Nat) (w : World) (hx : x < 2 ^ 64) (hL : L ≤ 62) :
    Calls Try.prog 90 #[.int .u64 x, .int .i64 L] w fun e w' => e = .returned (.int .u64 ((Rv.rv L x : Nat) : Int)) ∧ w' = w := by
  have m := rev_any x w hx
  have hR := Rv.rv_lt 64 x
  have e := Rv.rv_big (L := L) (by omega) x
  rw [e]
  generalize Rv.rv 64 x = R at *
  clear e
  go_enter Try.func90, Try.ntmps90
  go_wp2_with fail
  refine m.mono ?_
  rintro _ w' ⟨rfl, rfl⟩
  go_wp2
  go_ret
  exact ⟨congrArg Ending.returned (congrArg (Value.int IntKind.u64) (by simp)), rfl⟩
/-- so many digits count in n buckets -/
def Lg (n : Int) (L : Nat) : Prop := 2 ^ L ≤ (max n 1).toNat ∧ (max n 1).toNat < 2 ^ (L + 1)
theorem lg_pow (L : Nat) : Lg ((2 ^ L : Nat) : Int) L := by
  have := Rv.two_pos L
  have e : (max ((2 ^ L : Nat) : Int) 1).toNat = 2 ^ L := by omega
  refine ⟨by rw [e]; exact Nat.le_refl _, by rw [e, Nat.pow_succ]; omega⟩
theorem lg_le {n : Int} {L : Nat} (h : Lg n L) (hn : n ≤ 9223372036854775807) : L ≤ 62 := by
  have h1 := h.1
  by_cases hL : L ≤ 62
  · exact hL
  · exfalso
    have := Nat.pow_le_pow_right (n := 2) (by omega) (show 63 ≤ L by omega)
    omega
set_option maxRecDepth 100000 in
theorem after_any (c : Nat) (n : Int) (L : Nat) (w : World) (hc : c < 2 ^ 64) (h0 : -9223372036854775808 ≤ n) (h1 : n ≤ 9223372036854775807) (hL : Lg n L) :
    Calls Try.prog 79 #[.int .u64 c, .int .i64 n] w fun e w' => e = .returned (.int .u64 ((Rv.next L c : Nat) : Int)) ∧ w' = w := by
  have hle := lg_le hL h1
  obtain ⟨m, hm⟩ : ∃ m : Nat, max n 1 = (m : Int) := ⟨(max n 1).toNat, by omega⟩
  have q := hL
  unfold Lg at q
  rw [hm, Int.toNat_natCast] at q
  have mL := len_bits m L w q.1 q.2 (by omega)
  have mR := reversed_any c L w hc hle
  have hlt := Rv.rv_lt L c
  have hp := Nat.pow_le_pow_right (n := 2) (by omega) hle
  have mN := reversed_any (Rv.rv L c + 1) L w (by omega) hle
  have hfin : ((Rv.next L c : Nat) : Int) = ((Rv.rv L (Rv.rv L c + 1) : Nat) : Int) := rfl
  rw [hfin]
  generalize Rv.rv L c = R at *
  have hR : R < 4611686018427387905 := by omega
  clear hlt hp hfin q hL
  go_enter Try.func79, Try.ntmps79
  go_wp2_with fail
  refine mL.mono ?_
  rintro _ w' ⟨rfl, rfl⟩
  go_wp2_with fail
  refine mR.mono ?_
  rintro _ w' ⟨rfl, rfl⟩
  go_wp2_with fail
  refine mN.mono ?_
  rintro _ w' ⟨rfl, rfl⟩
  go_wp2
  go_ret
  exact ⟨rfl, rfl⟩
/- the document's -/
theorem lg_ex (n : Int) : ∃ L, Lg n L := by
  have h : (max n 1).toNat ≠ 0 := by omega
  exact ⟨(max n 1).toNat.log2, Nat.log2_self_le h, Nat.lt_log2_self⟩
theorem next_0_8 : Rv.next 3 0 = 4 := by decide +kernel
theorem next_4_8 : Rv.next 3 4 = 2 := by decide +kernel
theorem after_0_8 (w : World) : Calls Try.prog 79 #[.int .u64 0, .int .i64 8] w fun e w' => e = .returned (.int .u64 4) ∧ w' = w := by
  have m := after_any 0 8 3 w (by decide) (by decide) (by decide) (lg_pow 3)
  rw [next_0_8] at m
  exact m
theorem after_4_8 (w : World) : Calls Try.prog 79 #[.int .u64 4, .int .i64 8] w fun e w' => e = .returned (.int .u64 2) ∧ w' = w := by
  have m := after_any 4 8 3 w (by decide) (by decide) (by decide) (lg_pow 3)
  rw [next_4_8] at m
  exact m
end Go.Proofs.Ytmokahcjkokanaa
