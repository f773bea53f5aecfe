/-
  Plain mathematics, with no program in sight: the hash as a fold over bytes, and why unlike things stay unlike.
-/
import Derived.WalkKit
import Derived.Laws.Bits64
namespace Go.Proofs.Ytapehjlpiobeaaa
/-- a fact kept out of the walk's sight -/
def Kept (p : Prop) : Prop := p
theorem keep {p : Prop} (h : p) : Kept p := h
theorem Kept.out {p : Prop} (h : Kept p) : p := h
namespace Dw
def M : Nat := 18446744073709551616
theorem M_is : M = 18446744073709551616 := rfl
theorem M_pow : M = 2 ^ 64 := by decide +kernel
def P : Nat := 1099511628211
def E : Nat := 11400714819323198485
def B : Nat := 14695981039346656037
def mul (a b : Nat) : Nat := a * b % M
def xr (a b : Nat) : Nat := a ^^^ b
def half (a : Nat) : Nat := a / 4294967296
def part (a : Nat) : Nat := a / 536870912
def step (h : Nat) (c : UInt8) : Nat := mul (xr h c.toNat) P
def mid (h : Nat) : Nat := mul (xr h (half h)) E
def fin (h : Nat) : Nat := xr (mid h) (part (mid h))
def run (h : Nat) (l : List UInt8) : Nat := l.foldl step h
def hsh (seed : Nat) (l : List UInt8) : Nat := fin (run (xr seed B) l)
theorem mul_lt (a b : Nat) : mul a b < M := Nat.mod_lt _ (by rw [M_is]; omega)
theorem xr_lt {a b : Nat} (ha : a < M) (hb : b < M) : xr a b < M := by
  rw [M_pow] at *
  exact Nat.xor_lt_two_pow ha hb
theorem half_lt {a : Nat} (h : a < M) : half a < M := Nat.lt_of_le_of_lt (Nat.div_le_self _ _) h
theorem part_lt {a : Nat} (h : a < M) : part a < M := Nat.lt_of_le_of_lt (Nat.div_le_self _ _) h
theorem byte_lt (c : UInt8) : c.toNat < M := by have := c.toNat_lt; rw [M_is]; omega
theorem B_lt : B < M := by decide +kernel
theorem step_lt (h : Nat) (c : UInt8) : step h c < M := by unfold step; exact mul_lt _ _
theorem run_cons (h : Nat) (c : UInt8) (l : List UInt8) : run h (c :: l) = run (step h c) l := by unfold run; rw [List.foldl_cons]
theorem run_lt (l : List UInt8) : ∀ {h : Nat}, h < M → run h l < M := by
  induction l with
  | nil => intro h hh; exact hh
  | cons c l ih => intro h _; have := ih (step_lt h c); rw [run_cons]; exact this
theorem run_snoc (h : Nat) (l : List UInt8) (c : UInt8) : run h (l ++ [c]) = step (run h l) c := by unfold run; rw [List.foldl_append, List.foldl_cons, List.foldl_nil]
theorem mid_lt (h : Nat) : mid h < M := by unfold mid; exact mul_lt _ _
theorem fin_lt (h : Nat) : fin h < M := by unfold fin; exact xr_lt (mid_lt h) (part_lt (mid_lt h))
theorem hsh_lt (seed : Nat) (l : List UInt8) : hsh seed l < M := by unfold hsh; exact fin_lt _
/- the way back -/
theorem back_mul {p q x : Nat} (hpq : p * q % M = 1) (hx : x < M) : mul (mul x p) q = x := by
  unfold mul
  rw [Nat.mod_mul_mod, Nat.mul_assoc, Nat.mul_mod, hpq, Nat.mul_one, Nat.mod_mod, Nat.mod_eq_of_lt hx]
theorem back_xr (a b : Nat) : xr (xr a b) b = a := by unfold xr; rw [Nat.xor_assoc, Nat.xor_self, Nat.xor_zero]
def qP : Nat := 14886173955864302971
def qE : Nat := 17428512612931826493
theorem hP : P * qP % M = 1 := by decide +kernel
theorem hE : E * qE % M = 1 := by decide +kernel
theorem step_inj {h g : Nat} {c d : UInt8} (hh : h < M) (hg : g < M) (e : step h c = step g d) : xr h c.toNat = xr g d.toNat := by
  unfold step at e
  have e2 : mul (mul (xr h c.toNat) P) qP = mul (mul (xr g d.toNat) P) qP := by rw [e]
  rwa [back_mul hP (xr_lt hh (byte_lt c)), back_mul hP (xr_lt hg (byte_lt d))] at e2
theorem step_inj1 {h g : Nat} {c : UInt8} (hh : h < M) (hg : g < M) (e : step h c = step g c) : h = g := by
  have := congrArg (fun x => xr x c.toNat) (step_inj hh hg e)
  simpa only [back_xr] using this
theorem xr_comm (a b : Nat) : xr a b = xr b a := Nat.xor_comm _ _
theorem step_inj2 {h : Nat} {c d : UInt8} (hh : h < M) (e : step h c = step h d) : c = d := by
  have := step_inj hh hh e
  rw [xr_comm h, xr_comm h] at this
  have e3 : xr (xr c.toNat h) h = xr (xr d.toNat h) h := by rw [this]
  rw [back_xr, back_xr] at e3
  exact UInt8.toNat_inj.1 e3
theorem run_inj (l : List UInt8) : ∀ {h g : Nat}, h < M → g < M → run h l = run g l → h = g := by
  induction l with
  | nil => intro h g _ _ e; exact e
  | cons c l ih => intro h g hh hg e; rw [run_cons, run_cons] at e; exact step_inj1 hh hg (ih (step_lt h c) (step_lt g c) e)
theorem half_back {h : Nat} (hh : h < M) : xr (xr h (half h)) (half (xr h (half h))) = h := by
  have z : h >>> 64 = 0 := by rw [Nat.shiftRight_eq_div_pow]; exact Nat.div_eq_of_lt (by rw [← M_pow]; exact hh)
  have e : ∀ a, half a = a >>> 32 := fun a => by unfold half; rw [Nat.shiftRight_eq_div_pow]
  simp only [e, xr]
  rw [Nat.shiftRight_xor_distrib, ← Nat.shiftRight_add, z, Nat.xor_zero, Nat.xor_assoc, Nat.xor_self, Nat.xor_zero]
theorem part_back {h : Nat} (hh : h < M) : xr (xr (xr h (part h)) (part (xr h (part h)))) (part (part (xr h (part h)))) = h := by
  have z : h >>> 87 = 0 := by
    rw [Nat.shiftRight_eq_div_pow]
    exact Nat.div_eq_of_lt (Nat.lt_of_lt_of_le hh (by rw [M_pow]; exact Nat.pow_le_pow_right (by omega) (by omega)))
  have e : ∀ a, part a = a >>> 29 := fun a => by unfold part; rw [Nat.shiftRight_eq_div_pow]
  simp only [e, xr]
  rw [Nat.shiftRight_xor_distrib, Nat.shiftRight_xor_distrib]
  simp only [← Nat.shiftRight_add]
  show h ^^^ h >>> 29 ^^^ (h >>> 29 ^^^ h >>> 58) ^^^ (h >>> 58 ^^^ h >>> 87) = h
  rw [z, Nat.xor_zero, Nat.xor_assoc, Nat.xor_assoc, Nat.xor_assoc, Nat.xor_self, Nat.xor_zero, Nat.xor_self, Nat.xor_zero]
theorem fin_inj {h g : Nat} (hh : h < M) (hg : g < M) (e : fin h = fin g) : h = g := by
  unfold fin at e
  have e2 : mid h = mid g := by rw [← part_back (mid_lt h), ← part_back (mid_lt g), e]
  unfold mid at e2
  have e3 : mul (mul (xr h (half h)) E) qE = mul (mul (xr g (half g)) E) qE := by rw [e2]
  rw [back_mul hE (xr_lt hh (half_lt hh)), back_mul hE (xr_lt hg (half_lt hg))] at e3
  rw [← half_back hh, ← half_back hg, e3]
theorem seeds {s t : Nat} {l : List UInt8} (hs : s < M) (ht : t < M) (e : hsh s l = hsh t l) : s = t := by
  have e1 := fin_inj (run_lt l (xr_lt hs B_lt)) (run_lt l (xr_lt ht B_lt)) e
  have e2 := run_inj l (xr_lt hs B_lt) (xr_lt ht B_lt) e1
  have := congrArg (fun x => xr x B) e2
  simpa only [back_xr] using this
theorem bytes {s : Nat} {l m : List UInt8} {c d : UInt8} (hs : s < M) (e : hsh s (l ++ c :: m) = hsh s (l ++ d :: m)) : c = d := by
  have hb := xr_lt hs B_lt
  have e1 := fin_inj (run_lt _ hb) (run_lt _ hb) e
  have r : ∀ c, run (xr s B) (l ++ c :: m) = run (step (run (xr s B) l) c) m := fun c => by unfold run; rw [List.foldl_append, List.foldl_cons]
  rw [r, r] at e1
  exact step_inj2 (run_lt l hb) (run_inj m (step_lt _ _) (step_lt _ _) e1)
/- in the walk's words -/
theorem x_is {a b : Nat} (ha : a < M) (hb : b < M) : bits .xor .u64 (a : Int) (b : Int) = (xr a b : Int) := bits_xor_u64_nat a b ha hb
theorem w_is (a b : Nat) : IntKind.u64.wrap ((a : Int) * (b : Int)) = (mul a b : Int) := by
  rw [IntKind.wrap_u64]
  unfold mul
  rw [M_is, Int.natCast_emod, Int.natCast_mul]
  rfl
theorem h_is (a : Nat) : (a : Int) / 4294967296 = (half a : Int) := by unfold half; omega
theorem p_is (a : Nat) : (a : Int) / 536870912 = (part a : Int) := by unfold part; omega
end Dw
end Go.Proofs.Ytapehjlpiobeaaa
