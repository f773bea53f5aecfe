/-
  Plain mathematics on numbers, with no program in sight: places in rows.
-/
import Derived.WalkKit
namespace Go.Proofs.Ytlkplmlhlgnnkab
namespace Pl
/-- a place as it is counted from the begin -/
def rl (i n : Int) : Int := if i < 0 then i + n else i
theorem rl_neg {i n : Int} (h : i < 0) : rl i n = i + n := by unfold rl; rw [if_pos h]
theorem rl_pos {i n : Int} (h : ¬ i < 0) : rl i n = i := by unfold rl; rw [if_neg h]
theorem rl_bd (i n : Int) (h1 : -9223372036854775808 ≤ i) (h2 : i ≤ 9223372036854775807) (h3 : 0 ≤ n) (h4 : n ≤ 9223372036854775807) : -9223372036854775808 ≤ rl i n ∧ rl i n ≤ 9223372036854775807 := by
  unfold rl; split <;> omega
def row (n : Int) : Int := if n < 0 then 0 else n
theorem row_bd (n : Int) (h : n ≤ 9223372036854775807) : 0 ≤ row n ∧ row n ≤ 9223372036854775807 := by unfold row; split <;> omega
def frm (s n : Int) : Int := if rl s n < 0 then 0 else rl s n
def til (s n : Int) : Int := if n - 1 < rl s n then n - 1 else rl s n
def sp1 (a b m : Int) : Int := if til b m < frm a m then 0 else frm a m
def sp2 (a b m : Int) : Int := if til b m < frm a m then 0 else til b m + 1
def inR (i m : Int) : Bool := decide (0 ≤ rl i m ∧ rl i m < m)
def pl1 (i m : Int) : Int := if 0 ≤ rl i m ∧ rl i m < m then rl i m else 0
theorem inR_yes {i m : Int} (h : 0 ≤ rl i m) (g : rl i m < m) : inR i m = true ∧ pl1 i m = rl i m := by
  unfold inR pl1; rw [if_pos ⟨h, g⟩]; simp [h, g]
theorem inR_no {i m : Int} (h : ¬ (0 ≤ rl i m ∧ rl i m < m)) : inR i m = false ∧ pl1 i m = 0 := by
  unfold inR pl1; rw [if_neg h]; exact ⟨decide_eq_false h, rfl⟩
end Pl
end Go.Proofs.Ytlkplmlhlgnnkab
