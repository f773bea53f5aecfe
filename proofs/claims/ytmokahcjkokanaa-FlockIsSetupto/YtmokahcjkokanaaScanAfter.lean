/-
  Contracts over this program: bits turned round, and the cursor behind a cursor.
-/
import Derived.Test.YtmokahcjkokanaaChecked
import Derived.Test.YtmokahcjkokanaaScanMath
import Derived.Lib.Small
import Derived.Lib.Walk
import Derived.Lib.BitFns
namespace Go.Proofs.Ytmokahcjkokanaa
open Go.RowKit
theorem tab_small : ∀ n : Fin 256, n.val = 0 ∨ ∃ L : Fin 8, Lib.bitLen n.val = L.val + 1 ∧ 2 ^ L.val ≤ n.val ∧ n.val < 2 ^ (L.val + 1) := by decide +kernel
theorem tab_math (x K m t : Nat) (hm : m = x / 2 ^ K) (h : ∃ L : Nat, L < 8 ∧ t = L + 1 ∧ 2 ^ L ≤ m ∧ m < 2 ^ (L + 1)) (hK : K ≤ 56) :
    ∃ L : Nat, K + t = L + 1 ∧ 2 ^ L ≤ x ∧ x < 2 ^ (L + 1) ∧ L < 64 := by
  obtain ⟨L, hL, h1, h2, h3⟩ := h
  refine ⟨K + L, by omega, ?_, ?_, by omega⟩
  · rw [Nat.pow_add]
    refine Nat.le_trans (Nat.mul_le_mul_left _ h2) ?_
    rw [hm]
    exact Nat.mul_div_le x (2 ^ K)
  · rw [Nat.add_assoc, Nat.pow_add]
    rw [hm] at h3
    rw [Nat.mul_comm]
    exact (Nat.div_lt_iff_lt_mul (Nat.pow_pos (by omega))).1 h3
theorem tab_at (m : Nat) (h0 : 0 < m) (h8 : m ≤ 255) (h : m < Lib.len8tab.size) : ∃ L : Nat, L < 8 ∧ (Lib.len8tab[m]'h).toNat = L + 1 ∧ 2 ^ L ≤ m ∧ m < 2 ^ (L + 1) := by
  have e := Lib.len8_of (m : Int) (by omega) (by omega)
  rw [Int.toNat_natCast] at e
  unfold Lib.len8 at e
  rw [Int.toNat_natCast, getElem?_pos Lib.len8tab m h, Option.getD_some] at e
  rcases tab_small ⟨m, by omega⟩ with h1 | ⟨⟨L, hL⟩, h1, h2, h3⟩
  · exact absurd h1 (by show ¬ m = 0; omega)
  · refine ⟨L, hL, ?_, h2, h3⟩
    exact (Int.ofNat.inj e).trans h1
theorem tab_wrap (x : Nat) (k : Int) (K t : Nat) (hk : k = (K : Int)) (hK : K ≤ 56) (ht : t ≤ 8) (h : ∃ L : Nat, K + t = L + 1 ∧ 2 ^ L ≤ x ∧ x < 2 ^ (L + 1) ∧ L < 64) :
    ∃ L : Nat, wrap64 (k + wrap64 (t : Int)) = ((L + 1 : Nat) : Int) ∧ 2 ^ L ≤ x ∧ x < 2 ^ (L + 1) ∧ L < 64 := by
  obtain ⟨L, h1, h2⟩ := h
  refine ⟨L, ?_, h2⟩
  rw [← h1, hk]
  clear h2
  unfold RowKit.wrap64
  omega
theorem lentab_is (x K m : Nat) (hm : m = x / 2 ^ K) (h0 : 0 < m) (h8 : m ≤ 255) (hK : K ≤ 56) (k : Int) (hk : k = (K : Int)) (h : m < Lib.len8tab.size) :
    ∃ L : Nat, wrap64 (k + wrap64 ((Lib.len8tab[m]'h).toNat : Int)) = ((L + 1 : Nat) : Int) ∧ 2 ^ L ≤ x ∧ x < 2 ^ (L + 1) ∧ L < 64 := by
  have q := tab_at m h0 h8 h
  generalize (Lib.len8tab[m]'h).toNat = t at q
  refine tab_wrap x k K t hk hK ?_ (tab_math x K m t hm q hK)
  obtain ⟨L, q1, q2, _⟩ := q
  omega
set_option maxRecDepth 100000 in
set_option maxHeartbeats 4000000 in
theorem len64_int (x : Int) (w : World) (h0 : 0 < x) (h1 : x < 18446744073709551616) :
    Calls Try.prog 74 #[.int .u64 x] w fun e w' => (∃ L : Nat, e = .returned (.int .i64 ((L + 1 : Nat) : Int)) ∧ 2 ^ L ≤ x.toNat ∧ x.toNat < 2 ^ (L + 1) ∧ L < 64) ∧ w' = w := by
  have fin : ∀ v : Int, (∃ L : Nat, v = ((L + 1 : Nat) : Int) ∧ 2 ^ L ≤ x.toNat ∧ x.toNat < 2 ^ (L + 1) ∧ L < 64) → ∃ L : Nat, Ending.returned (.int .i64 v) = .returned (.int .i64 ((L + 1 : Nat) : Int)) ∧ 2 ^ L ≤ x.toNat ∧ x.toNat < 2 ^ (L + 1) ∧ L < 64 := by
    rintro v ⟨L, rfl, h⟩
    exact ⟨L, rfl, h⟩
  go_enter Try.func74, Try.ntmps74
  go_wp2
  all_goals try (exfalso; have hz := Lib.len8tab_size; omega)
  all_goals (try (go_ret; refine ⟨fin _ ?_, rfl⟩))
  · exact lentab_is x.toNat 56 _ (by omega) (by omega) (by omega) (by omega) 56 rfl _
  · exact lentab_is x.toNat 48 _ (by omega) (by omega) (by omega) (by omega) 48 rfl _
  · exact lentab_is x.toNat 40 _ (by omega) (by omega) (by omega) (by omega) 40 rfl _
  · exact lentab_is x.toNat 32 _ (by omega) (by omega) (by omega) (by omega) 32 rfl _
  · exact lentab_is x.toNat 24 _ (by omega) (by omega) (by omega) (by omega) 24 rfl _
  · exact lentab_is x.toNat 16 _ (by omega) (by omega) (by omega) (by omega) 16 rfl _
  · exact lentab_is x.toNat 8 _ (by omega) (by omega) (by omega) (by omega) 8 rfl _
  · have e := lentab_is x.toNat 0 x.toNat (by simp) (by omega) (by omega) (by omega) 0 rfl (by have hz := Lib.len8tab_size; omega)
    rw [Int.zero_add] at e
    exact e
/-- a swap, as the program writes it -/
theorem sw_int (k m P x : Nat) (hP : P = 2 ^ k) (hm : Rv.Mask k m) (hx : x < 2 ^ 64) :
    bits .or .u64 (bits .and .u64 ((x : Int) / (P : Int)) (m : Int)) (IntKind.u64.wrap (bits .and .u64 (x : Int) (m : Int) * (P : Int))) = ((Rv.sw k m x : Nat) : Int) := by
  subst hP
  have h1 : (x : Int) / ((2 ^ k : Nat) : Int) = ((x / 2 ^ k : Nat) : Int) := by simp
  rw [h1, Rv.and_nat _ _ (Nat.lt_of_le_of_lt (Nat.div_le_self _ _) hx) hm.2.2.2, Rv.and_nat _ _ hx hm.2.2.2, ← Int.natCast_mul, Rv.wrap_nat,
    Rv.or_nat _ _ (Nat.lt_of_le_of_lt Nat.and_le_right hm.2.2.2) (Nat.mod_lt _ (by decide))]
  rfl
theorem half_int (x : Nat) (hx : x < 2 ^ 64) : bits .or .u64 ((x : Int) / 4294967296) (IntKind.u64.wrap ((x : Int) * 4294967296)) = ((x / 2 ^ 32 ||| x * 2 ^ 32 % 2 ^ 64 : Nat) : Int) := by
  have h1 : (x : Int) / 4294967296 = ((x / 2 ^ 32 : Nat) : Int) := by omega
  have h2 : (x : Int) * 4294967296 = ((x * 2 ^ 32 : Nat) : Int) := by omega
  rw [h1, h2, Rv.wrap_nat, Rv.or_nat _ _ (Nat.lt_of_le_of_lt (Nat.div_le_self _ _) hx) (Nat.mod_lt _ (by decide))]
theorem sw8_int (x : Nat) (hx : x < 2 ^ 64) : bits .or .u64 (bits .and .u64 ((x : Int) / 256) 71777214294589695) (IntKind.u64.wrap (bits .and .u64 (x : Int) 71777214294589695 * 256)) = ((Rv.sw 8 71777214294589695 x : Nat) : Int) := sw_int 8 71777214294589695 256 x rfl Rv.mask8 hx
theorem sw16_int (x : Nat) (hx : x < 2 ^ 64) : bits .or .u64 (bits .and .u64 ((x : Int) / 65536) 281470681808895) (IntKind.u64.wrap (bits .and .u64 (x : Int) 281470681808895 * 65536)) = ((Rv.sw 16 281470681808895 x : Nat) : Int) := sw_int 16 281470681808895 65536 x rfl Rv.mask16 hx
theorem sw1_int (x : Nat) (hx : x < 2 ^ 64) : bits .or .u64 (bits .and .u64 ((x : Int) / 2) 6148914691236517205) (IntKind.u64.wrap (bits .and .u64 (x : Int) 6148914691236517205 * 2)) = ((Rv.sw 1 6148914691236517205 x : Nat) : Int) := sw_int 1 6148914691236517205 2 x rfl Rv.mask1 hx
theorem sw2_int (x : Nat) (hx : x < 2 ^ 64) : bits .or .u64 (bits .and .u64 ((x : Int) / 4) 3689348814741910323) (IntKind.u64.wrap (bits .and .u64 (x : Int) 3689348814741910323 * 4)) = ((Rv.sw 2 3689348814741910323 x : Nat) : Int) := sw_int 2 3689348814741910323 4 x rfl Rv.mask2 hx
theorem sw4_int (x : Nat) (hx : x < 2 ^ 64) : bits .or .u64 (bits .and .u64 ((x : Int) / 16) 1085102592571150095) (IntKind.u64.wrap (bits .and .u64 (x : Int) 1085102592571150095 * 16)) = ((Rv.sw 4 1085102592571150095 x : Nat) : Int) := sw_int 4 1085102592571150095 16 x rfl Rv.mask4 hx
set_option maxRecDepth 100000 in
set_option maxHeartbeats 4000000 in
theorem revbytes_any (x : Nat) (w : World) (h1 : x < 2 ^ 64) :
    Calls Try.prog 93 #[.int .u64 x] w fun e w' => e = .returned (.int .u64 ((Rv.sw 16 281470681808895 (Rv.sw 8 71777214294589695 x) / 2 ^ 32 ||| Rv.sw 16 281470681808895 (Rv.sw 8 71777214294589695 x) * 2 ^ 32 % 2 ^ 64 : Nat) : Int)) ∧ w' = w := by
  have e1 := sw8_int x h1
  have e2 := sw16_int _ (Rv.sw_lt Rv.mask8 x)
  have e3 := half_int _ (Rv.sw_lt Rv.mask16 (Rv.sw 8 71777214294589695 x))
  go_enter Try.func93, Try.ntmps93
  go_wp2
  go_ret
  refine ⟨congrArg Ending.returned (congrArg (Value.int IntKind.u64) ?_), rfl⟩
  rfl
set_option maxRecDepth 100000 in
set_option maxHeartbeats 4000000 in
theorem rev_any (x : Nat) (w : World) (h1 : x < 2 ^ 64) :
    Calls Try.prog 92 #[.int .u64 x] w fun e w' => e = .returned (.int .u64 ((Rv.rv 64 x : Nat) : Int)) ∧ w' = w := by
  have e1 := sw1_int x h1
  have e2 := sw2_int _ (Rv.sw_lt Rv.mask1 x)
  have e3 := sw4_int _ (Rv.sw_lt Rv.mask2 (Rv.sw 1 6148914691236517205 x))
  have mR := revbytes_any (Rv.sw 4 1085102592571150095 (Rv.sw 2 3689348814741910323 (Rv.sw 1 6148914691236517205 x))) w (Rv.sw_lt Rv.mask4 _)
  go_enter Try.func92, Try.ntmps92
  go_wp2_with fail
  refine mR.mono ?_
  rintro _ w' ⟨rfl, rfl⟩
  go_wp2
  go_ret
  refine ⟨?_, rfl⟩
  rw [← Rv.rev_is]
  rfl
end Go.Proofs.Ytmokahcjkokanaa
