/-
  What comparisons of two binary64 words answer, where one of them is no number and where none is; that what the model draws for an invalid sum is no number.
-/
import Derived.Test.YtapehjlpiobeaaaProg
import Derived.WalkKit
import Derived.Laws.FloatArith
namespace Go.Proofs.Ytapehjlpiobeaaa
open Go

def isNan (x : Nat) : Bool := (Ieee.double.read x).isNaN

theorem order_of_nan {x y : Nat} (h : isNan x = true ∨ isNan y = true) : Ieee.double.order x y = none := by
  unfold isNan at h
  unfold Ieee.Format.order
  generalize Ieee.double.read x = a at h
  generalize Ieee.double.read y = b at h
  cases a <;> cases b <;> simp [Ieee.Datum.isNaN, Ieee.Datum.order] at *

theorem order_of_num {x y : Nat} (hx : isNan x = false) (hy : isNan y = false) : ∃ o, Ieee.double.order x y = some o := by
  unfold isNan at hx hy
  unfold Ieee.Format.order
  generalize Ieee.double.read x = a at hx
  generalize Ieee.double.read y = b at hy
  cases a <;> cases b <;> simp [Ieee.Datum.isNaN, Ieee.Datum.order] at *

theorem order_self {x : Nat} (hx : isNan x = false) : Ieee.double.order x x = some .eq := by
  unfold isNan at hx
  unfold Ieee.Format.order
  generalize Ieee.double.read x = a at hx
  cases a <;> simp [Ieee.Datum.isNaN, Ieee.Datum.order] at *

theorem nan_drawn (t : Nat) (x y : Nat) : isNan ((Question.nanBits .f64 x y).cut t) = true := by
  have h1 : (t / 2) % (2 ^ 52 - 1) < 2 ^ 52 - 1 := Nat.mod_lt _ (by decide)
  have h2 : t % 2 < 2 := Nat.mod_lt _ (by decide)
  have e : (Question.nanBits .f64 x y).cut t = (t % 2) * 2 ^ 63 + 0x7ff0000000000000 + 1 + (t / 2) % (2 ^ 52 - 1) := rfl
  rw [e]
  generalize (t / 2) % (2 ^ 52 - 1) = r at *
  generalize t % 2 = s at *
  have hs : (s * 2 ^ 63 + 0x7ff0000000000000 + 1 + r) % 9223372036854775808 = 0x7ff0000000000001 + r := by omega
  unfold isNan Ieee.Format.read
  have sw : Ieee.double.signWeight = 9223372036854775808 := by decide
  have bn : Ieee.double.binade = 4503599627370496 := by decide
  have ir : Ieee.double.infRung = 9218868437227405312 := by decide
  simp only [sw, bn, ir, hs]
  rw [if_neg (by omega), if_neg (by omega), if_neg (by omega)]
  rfl

theorem format_f64 : FloatKind.f64.format = Ieee.double := rfl

end Go.Proofs.Ytapehjlpiobeaaa
