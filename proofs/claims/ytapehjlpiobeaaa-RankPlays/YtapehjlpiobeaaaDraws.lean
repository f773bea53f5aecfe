/-
  Contracts over this program: what draw.Hash and the document's own Hash answer at any seed and text.
-/
import Derived.Test.YtapehjlpiobeaaaProg
import Derived.Test.YtapehjlpiobeaaaDrawMath
import Derived.OpenShut
import Derived.Outline
import Derived.WalkLawsBesides
namespace Go.Proofs.Ytapehjlpiobeaaa
open Go.RowKit
theorem ret_u {k : IntKind} {a b : Int} (h : a = b) : Ending.returned (.int k a) = .returned (.int k b) := by rw [h]
namespace Dw
theorem take_run (s : ByteArray) (k h : Nat) (hk : k < s.size) : run h (s.data.toList.take (k + 1)) = step (run h (s.data.toList.take k)) s[k] := by
  rw [List.take_succ_eq_append_getElem (by simpa using hk), run_snoc]
  rfl
theorem take_all (s : ByteArray) (k h : Nat) (hk : s.size ≤ k) : run h (s.data.toList.take k) = run h s.data.toList := by
  rw [List.take_of_length_le (by simpa using hk)]
theorem mid_w {x : Nat} (h : x < M) : IntKind.u64.wrap (bits .xor .u64 (x : Int) (half x : Int) * 11400714819323198485) = (mid x : Int) := by
  rw [x_is h (half_lt h)]
  exact w_is _ 11400714819323198485
theorem fin_w (x : Nat) : bits .xor .u64 (mid x : Int) (part (mid x) : Int) = (fin x : Int) := x_is (mid_lt x) (part_lt (mid_lt x))
theorem le_of {x : Nat} (h : x < M) : (x : Int) ≤ 18446744073709551615 := by rw [M_is] at h; omega
theorem u64_of {n : Int} (h : (Lit.int .u64 n).wf = true) : ∃ x : Nat, n = (x : Int) ∧ x < M := by
  have hx : 0 ≤ n ∧ n ≤ 18446744073709551615 := by simpa [Lit.wf, IntKind.min, IntKind.max, IntKind.signed, IntKind.bits] using h
  exact ⟨n.toNat, by omega, by rw [M_is]; omega⟩
theorem b_w (c : UInt8) : IntKind.u64.wrap (c.toNat : Int) = (c.toNat : Int) := by
  have := c.toNat_lt
  rw [IntKind.wrap_u64]; omega
theorem step_w {x : Nat} (c : UInt8) (h : x < M) : IntKind.u64.wrap (bits .xor .u64 (x : Int) (c.toNat : Int) * 1099511628211) = (step x c : Int) := by
  rw [x_is h (byte_lt c)]
  exact w_is _ 1099511628211
end Dw
set_option maxHeartbeats 400000 in
theorem hash_any (seed : Nat) (s : ByteArray) (w : World) (hs : s.size ≤ maxLen) (hsd : seed < Dw.M) :
    Calls Try.prog 68 #[.int .u64 seed, .string s] w fun e w' => e = .returned (.int .u64 (Dw.hsh seed s.data.toList)) ∧ w' = w := by
  unfold maxLen at hs
  have hb : bits .xor .u64 (seed : Int) 14695981039346656037 = (Dw.xr seed Dw.B : Int) := Dw.x_is hsd Dw.B_lt
  have hlt := keep (Dw.xr_lt hsd Dw.B_lt)
  go_enter Try.func68, Try.ntmps68
  go_wp2
  clear hb
  go_loop [5, 12] (fun h i => ∃ k : Nat, k ≤ s.size ∧ i = .int .i64 k ∧ h = .int .u64 (Dw.run (Dw.xr seed Dw.B) (s.data.toList.take k))) (fun _ i => s.size - (intOf i).toNat)
  case atStart => exact ⟨0, Nat.zero_le _, rfl, rfl⟩
  case round =>
    obtain ⟨k, hk, rfl, rfl⟩ := hrel
    by_cases hc : k < s.size
    · have e := keep (Dw.take_run s k (Dw.xr seed Dw.B) hc)
      have hl := Dw.run_lt (s.data.toList.take k) hlt.out
      have e1 := Dw.step_w s[k] hl
      have e0 := Dw.b_w s[k]
      generalize Dw.run (Dw.xr seed Dw.B) (s.data.toList.take k) = X at *
      clear hl
      go_wp2
      go_round
      case rel => exact ⟨k + 1, by omega, by go_num, by rw [e.out]⟩
      case measure => simp [intOf]; omega
    · rw [Dw.take_all s k _ (by omega)]
      have hl := Dw.run_lt s.data.toList hlt.out
      have e1 := Dw.mid_w hl
      have e2 := Dw.fin_w (Dw.run (Dw.xr seed Dw.B) s.data.toList)
      have e3 := Dw.h_is (Dw.run (Dw.xr seed Dw.B) s.data.toList)
      have e4 := Dw.p_is (Dw.mid (Dw.run (Dw.xr seed Dw.B) s.data.toList))
      have hh : Kept (Dw.hsh seed s.data.toList = Dw.fin (Dw.run (Dw.xr seed Dw.B) s.data.toList)) := keep (by unfold Dw.hsh; rfl)
      generalize Dw.run (Dw.xr seed Dw.B) s.data.toList = X at *
      have b1 : (X : Int) ≤ 18446744073709551615 := by rw [Dw.M_is] at hl; omega
      have b2 : (Dw.mid X : Int) ≤ 18446744073709551615 := by have := Dw.mid_lt X; rw [Dw.M_is] at this; omega
      clear hl
      go_wp2
      go_ret
      exact ⟨ret_u (by rw [hh.out]), rfl⟩
namespace Dw
theorem times_w {a b : Nat} : ((a % 4294967296 * (b % 4294967296)) % M + ((a / 4294967296 * (b % 4294967296)) % M + (a % 4294967296 * (b / 4294967296)) % M) % M % 4294967296 * 4294967296 % M) % M = mul a b := by
  have ha : a = 4294967296 * (a / 4294967296) + a % 4294967296 := by omega
  have hb : b = 4294967296 * (b / 4294967296) + b % 4294967296 := by omega
  generalize a / 4294967296 = p at *
  generalize a % 4294967296 = q at *
  generalize b / 4294967296 = r at *
  generalize b % 4294967296 = t at *
  subst ha hb
  unfold mul
  have e : (4294967296 * p + q) * (4294967296 * r + t) = 18446744073709551616 * (p * r) + 4294967296 * (p * t + q * r) + q * t := by
    rw [Nat.add_mul, Nat.mul_add, Nat.mul_add, Nat.mul_add]
    have e1 : 4294967296 * p * (4294967296 * r) = 18446744073709551616 * (p * r) := by
      rw [Nat.mul_assoc, Nat.mul_left_comm p, ← Nat.mul_assoc]
    have e2 : 4294967296 * p * t = 4294967296 * (p * t) := Nat.mul_assoc _ _ _
    have e3 : q * (4294967296 * r) = 4294967296 * (q * r) := Nat.mul_left_comm _ _ _
    rw [e1, e2, e3]; omega
  rw [e, M_is]
  generalize p * r = x1
  generalize p * t = x2
  generalize q * r = x3
  generalize q * t = x4
  omega
theorem times_i (a b : Nat) : IntKind.u64.wrap (IntKind.u64.wrap ((a : Int) % 4294967296 * ((b : Int) % 4294967296)) + IntKind.u64.wrap ((IntKind.u64.wrap (IntKind.u64.wrap ((a : Int) / 4294967296 * ((b : Int) % 4294967296)) + IntKind.u64.wrap ((a : Int) % 4294967296 * ((b : Int) / 4294967296)))).tmod 4294967296 * 4294967296)) = (mul a b : Int) := by
  rw [← times_w, M_is]
  simp only [IntKind.wrap_u64]
  rw [Int.tmod_eq_emod_of_nonneg (Int.emod_nonneg _ (by decide))]
  simp only [Int.natCast_emod, Int.natCast_add, Int.natCast_mul, Int.natCast_ediv]
  rfl
end Dw
end Go.Proofs.Ytapehjlpiobeaaa
