/-
  Contracts over this program: what math.IsNaN, math.NaN, math.Inf answer; when two floats are alike.
-/
import Derived.Test.YtapehjlpiobeaaaFloats
import Derived.WalkLawsBesides
namespace Go.Proofs.Ytapehjlpiobeaaa
open Go.RowKit
theorem isnan_any (x : Nat) (w : World) :
    Calls Try.prog 51 #[.float .f64 x] w fun e w' => e = .returned (.bool (isNan x)) ∧ w' = w := by
  cases h : isNan x
  · have o : FloatKind.f64.format.order x x = some .eq := order_self h
    go_enter Try.func51, Try.ntmps51
    go_wp2
    go_ret
    exact ⟨rfl, rfl⟩
  · have o : FloatKind.f64.format.order x x = none := order_of_nan (Or.inl h)
    go_enter Try.func51, Try.ntmps51
    go_wp2
    go_ret
    exact ⟨rfl, rfl⟩
theorem run_bits (x : Nat) (w : World) : (callFunc 44 #[.float .f64 x]).run Try.prog w = .ok (.value (.int .u64 x)) w := by
  rw [run_callFunc_extern (e := Extern.MathFloatBits.float64bits) Try.func44 (by kernel_rfl) (by kernel_rfl) (by kernel_rfl) (by kernel_rfl)]
  rfl
theorem run_frombits (x : Int) (w : World) : (callFunc 26 #[.int .u64 x]).run Try.prog w = .ok (.value (.float .f64 x.toNat)) w := by
  rw [run_callFunc_extern (e := Extern.MathFloatBits.float64frombits) Try.func26 (by kernel_rfl) (by kernel_rfl) (by kernel_rfl) (by kernel_rfl)]
  rfl
/-- the same float, bit by bit, or both no number -/
def alk (a b : Nat) : Bool := if isNan a || isNan b then isNan a && isNan b else ((a : Int) == (b : Int))
theorem alk_self (a : Nat) : alk a a = true := by unfold alk; cases h : isNan a <;> simp
theorem alike_any (a b : Nat) (w : World) :
    Calls Try.prog 18 #[.float .f64 a, .float .f64 b] w fun e w' => e = .returned (.bool (alk a b)) ∧ w' = w := by
  have fa := run_bits a
  have fb := run_bits b
  unfold alk
  cases ha : isNan a <;> cases hb : isNan b
  · have oa : FloatKind.f64.format.order a a = some .eq := order_self ha
    have ob : FloatKind.f64.format.order b b = some .eq := order_self hb
    go_enter Try.func18, Try.ntmps18
    go_wp2
    go_ret
    exact ⟨by simp, rfl⟩
  · have oa : FloatKind.f64.format.order a a = some .eq := order_self ha
    have ob : FloatKind.f64.format.order b b = none := order_of_nan (Or.inl hb)
    go_enter Try.func18, Try.ntmps18
    go_wp2
    go_ret
    exact ⟨by simp, rfl⟩
  · have oa : FloatKind.f64.format.order a a = none := order_of_nan (Or.inl ha)
    have ob : FloatKind.f64.format.order b b = some .eq := order_self hb
    go_enter Try.func18, Try.ntmps18
    go_wp2
    go_ret
    exact ⟨by simp, rfl⟩
  · have oa : FloatKind.f64.format.order a a = none := order_of_nan (Or.inl ha)
    have ob : FloatKind.f64.format.order b b = none := order_of_nan (Or.inl hb)
    go_enter Try.func18, Try.ntmps18
    go_wp2
    go_ret
    exact ⟨by simp, rfl⟩
def nanB : Nat := 9221120237041090561
theorem isNan_nanB : isNan nanB = true := by decide +kernel
theorem isNan_zero : isNan 0 = false := by decide +kernel
def infB : Nat := 9218868437227405312
def ninfB : Nat := 18442240474082181120
theorem isNan_inf : isNan infB = false := by decide +kernel
theorem isNan_ninf : isNan ninfB = false := by decide +kernel
theorem inf_any (w : World) : Calls Try.prog 57 #[.int .i64 1] w fun e w' => e = .returned (.float .f64 infB) ∧ w' = w := by
  have f1 := run_frombits
  go_enter Try.func57, Try.ntmps57
  go_wp2
  go_ret
  exact ⟨rfl, rfl⟩
theorem ninf_any (w : World) : Calls Try.prog 57 #[.int .i64 (-1)] w fun e w' => e = .returned (.float .f64 ninfB) ∧ w' = w := by
  have f1 := run_frombits
  go_enter Try.func57, Try.ntmps57
  go_wp2
  go_ret
  exact ⟨rfl, rfl⟩
end Go.Proofs.Ytapehjlpiobeaaa
