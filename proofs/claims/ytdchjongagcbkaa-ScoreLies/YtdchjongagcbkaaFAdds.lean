/-
  Contracts over this program: what math.IsNaN, score.Add and the document's Add answer at any two floats, and when two floats are alike.
-/
import Derived.Test.YtdchjongagcbkaaFloats
import Derived.WalkLawsBesides
namespace Go.Proofs.Ytdchjongagcbkaa
open Go.RowKit
theorem isnan_any (x : Nat) (w : World) :
    Calls Try.prog 11 #[.float .f64 x] w fun e w' => e = .returned (.bool (isNan x)) ∧ w' = w := by
  cases h : isNan x
  · have o : FloatKind.f64.format.order x x = some .eq := order_self h
    go_enter Try.func11, Try.ntmps11
    go_wp2
    go_ret
    exact ⟨rfl, rfl⟩
  · have o : FloatKind.f64.format.order x x = none := order_of_nan (Or.inl h)
    go_enter Try.func11, Try.ntmps11
    go_wp2
    go_ret
    exact ⟨rfl, rfl⟩
theorem run_sum (w : World) (t : TypeId) (a b r : Nat) (h : Ieee.double.add a b = some r) : (binOp .add t (.float .f64 a) (.float .f64 b)).run Try.prog w = .ok (.float .f64 r) w :=
  run_float_arith w .add t .f64 a b r h
theorem run_sum_none (w : World) (t : TypeId) (a b : Nat) (h : Ieee.double.add a b = none) : ∃ r, isNan r = true ∧ (binOp .add t (.float .f64 a) (.float .f64 b)).run Try.prog w = .ok (.float .f64 r) w.drew := by
  refine ⟨(Question.nanBits .f64 a b).cut (w.tape w.drawn (.nanBits .f64 a b)), nan_drawn _ _ _, ?_⟩
  have h' : FloatKind.f64.format.add a b = none := h
  simp [binOp, Op.floatArith, h', Question.forced]
theorem run_bits (x : Nat) (w : World) : (callFunc 12 #[.float .f64 x]).run Try.prog w = .ok (.value (.int .u64 x)) w := by
  rw [run_callFunc_extern (e := Extern.MathFloatBits.float64bits) Try.func12 (by kernel_rfl) (by kernel_rfl) (by kernel_rfl) (by kernel_rfl)]
  rfl
theorem run_frombits (x : Int) (w : World) : (callFunc 5 #[.int .u64 x]).run Try.prog w = .ok (.value (.float .f64 x.toNat)) w := by
  rw [run_callFunc_extern (e := Extern.MathFloatBits.float64frombits) Try.func5 (by kernel_rfl) (by kernel_rfl) (by kernel_rfl) (by kernel_rfl)]
  rfl
theorem alike_same (x : Nat) (w : World) (h : isNan x = false) :
    Calls Try.prog 8 #[.float .f64 x, .float .f64 x] w fun e w' => e = .returned (.bool true) ∧ w' = w := by
  have o : FloatKind.f64.format.order x x = some .eq := order_self h
  have fb := run_bits x
  go_enter Try.func8, Try.ntmps8
  go_wp2
  go_ret
  exact ⟨rfl, rfl⟩
theorem isNan_nought : isNan 0 = false := by decide +kernel

theorem code_num (a b r : Nat) (w : World) (h : Ieee.double.add a b = some r) (n : isNan r = false) :
    Calls Try.prog 7 #[.float .f64 a, .float .f64 b] w fun e w' => e = .returned (.tuple #[.float .f64 r, .int .i64 0]) ∧ w' = w := by
  have o : FloatKind.f64.format.order r r = some .eq := order_self n
  have s : ∀ w : World, (binOp .add 23 (.float .f64 a) (.float .f64 b)).run Try.prog w = .ok (.float .f64 r) w := fun w => run_sum w _ a b r h
  go_enter Try.func7, Try.ntmps7
  go_wp2_with (go_at_call 11; refine (isnan_any _ _).mono ?_; rintro e w' ⟨rfl, rfl⟩; rw [n])
  go_ret2
  exact ⟨rfl, rfl⟩
theorem code_nan (a b r : Nat) (w : World) (h : Ieee.double.add a b = some r) (n : isNan r = true) :
    Calls Try.prog 7 #[.float .f64 a, .float .f64 b] w fun e w' => e = .returned (.tuple #[.float .f64 0, .int .i64 20]) ∧ w' = w := by
  have o : FloatKind.f64.format.order r r = none := order_of_nan (Or.inl n)
  have s : ∀ w : World, (binOp .add 23 (.float .f64 a) (.float .f64 b)).run Try.prog w = .ok (.float .f64 r) w := fun w => run_sum w _ a b r h
  go_enter Try.func7, Try.ntmps7
  go_wp2_with (go_at_call 11; refine (isnan_any _ _).mono ?_; rintro e w' ⟨rfl, rfl⟩; rw [n])
  go_ret2
  exact ⟨rfl, rfl⟩
theorem code_none (a b : Nat) (w : World) (h : Ieee.double.add a b = none) :
    Calls Try.prog 7 #[.float .f64 a, .float .f64 b] w fun e w' => e = .returned (.tuple #[.float .f64 0, .int .i64 20]) ∧ w' = w.drew := by
  obtain ⟨r, n, s⟩ := run_sum_none w 23 a b h
  have o : FloatKind.f64.format.order r r = none := order_of_nan (Or.inl n)
  go_enter Try.func7, Try.ntmps7
  go_wp2_with (go_at_call 11; refine (isnan_any _ _).mono ?_; rintro e w' ⟨rfl, rfl⟩; rw [n])
  go_ret2
  exact ⟨rfl, rfl⟩

theorem ref_num (a b r : Nat) (w : World) (h : Ieee.double.add a b = some r) (n : isNan r = false) :
    Calls Try.prog 6 #[.float .f64 a, .float .f64 b] w fun e w' => e = .returned (.tuple #[.float .f64 r, .int .i64 0]) ∧ w' = w := by
  have o : FloatKind.f64.format.order r r = some .eq := order_self n
  have s : ∀ w : World, (binOp .add 23 (.float .f64 a) (.float .f64 b)).run Try.prog w = .ok (.float .f64 r) w := fun w => run_sum w _ a b r h
  go_enter Try.func6, Try.ntmps6
  go_wp2
  go_ret2
  exact ⟨rfl, rfl⟩
theorem ref_nan (a b r : Nat) (w : World) (h : Ieee.double.add a b = some r) (n : isNan r = true) :
    Calls Try.prog 6 #[.float .f64 a, .float .f64 b] w fun e w' => e = .returned (.tuple #[.float .f64 0, .int .i64 20]) ∧ w' = w := by
  have o : FloatKind.f64.format.order r r = none := order_of_nan (Or.inl n)
  have s : ∀ w : World, (binOp .add 23 (.float .f64 a) (.float .f64 b)).run Try.prog w = .ok (.float .f64 r) w := fun w => run_sum w _ a b r h
  go_enter Try.func6, Try.ntmps6
  go_wp2
  go_ret2
  exact ⟨rfl, rfl⟩
theorem ref_none (a b : Nat) (w : World) (h : Ieee.double.add a b = none) :
    Calls Try.prog 6 #[.float .f64 a, .float .f64 b] w fun e w' => e = .returned (.tuple #[.float .f64 0, .int .i64 20]) ∧ w' = w.drew := by
  obtain ⟨r, n, s⟩ := run_sum_none w 23 a b h
  have o : FloatKind.f64.format.order r r = none := order_of_nan (Or.inl n)
  go_enter Try.func6, Try.ntmps6
  go_wp2
  go_ret2
  exact ⟨rfl, rfl⟩
end Go.Proofs.Ytdchjongagcbkaa
