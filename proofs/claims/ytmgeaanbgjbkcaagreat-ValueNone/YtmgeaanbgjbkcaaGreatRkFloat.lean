/-
  Contracts over this program: what math.IsNaN, math.NaN, math.Inf answer; when two floats are alike.
-/
import Derived.Test.YtmgeaanbgjbkcaaGreatFloats
import Derived.WalkLawsBesides
namespace Go.Proofs.YtmgeaanbgjbkcaaGreat
open Go.RowKit
theorem isnan_any (x : Nat) (w : World) :
    Calls Tryz.prog 154 #[.float .f64 x] w fun e w' => e = .returned (.bool (isNan x)) ∧ w' = w := by
  cases h : isNan x
  · have o : FloatKind.f64.format.order x x = some .eq := order_self h
    go_enter Tryz.func154, Tryz.ntmps154
    go_wp2
    go_ret
    exact ⟨rfl, rfl⟩
  · have o : FloatKind.f64.format.order x x = none := order_of_nan (Or.inl h)
    go_enter Tryz.func154, Tryz.ntmps154
    go_wp2
    go_ret
    exact ⟨rfl, rfl⟩
theorem run_bits (x : Nat) (w : World) : (callFunc 108 #[.float .f64 x]).run Tryz.prog w = .ok (.value (.int .u64 x)) w := by
  rw [run_callFunc_extern (e := Extern.MathFloatBits.float64bits) Tryz.func108 (by kernel_rfl) (by kernel_rfl) (by kernel_rfl) (by kernel_rfl)]
  rfl
theorem run_frombits (x : Int) (w : World) : (callFunc 45 #[.int .u64 x]).run Tryz.prog w = .ok (.value (.float .f64 x.toNat)) w := by
  rw [run_callFunc_extern (e := Extern.MathFloatBits.float64frombits) Tryz.func45 (by kernel_rfl) (by kernel_rfl) (by kernel_rfl) (by kernel_rfl)]
  rfl
/-- the same float, bit by bit, or both no number -/
def alk (a b : Nat) : Bool := if isNan a || isNan b then isNan a && isNan b else ((a : Int) == (b : Int))
theorem alk_self (a : Nat) : alk a a = true := by unfold alk; cases h : isNan a <;> simp
def nanB : Nat := 9221120237041090561
theorem isNan_nanB : isNan nanB = true := by decide +kernel
theorem isNan_zero : isNan 0 = false := by decide +kernel
def infB : Nat := 9218868437227405312
def ninfB : Nat := 18442240474082181120
theorem isNan_inf : isNan infB = false := by decide +kernel
theorem isNan_ninf : isNan ninfB = false := by decide +kernel
end Go.Proofs.YtmgeaanbgjbkcaaGreat
