/-
  Contracts over this program: what score.Within and the document's Within answer, by how the float stands to both ends.
-/
import Derived.Test.YtdchjongagcbkaaFAdds
namespace Go.Proofs.Ytdchjongagcbkaa
open Go.RowKit
/-- what both answer, by how x stands to the ends -/
def lies (o1 o2 : Option Ordering) (p q : Bool) : Bool := (o1 == some .gt || (o1 == some .eq && !p)) && (o2 == some .lt || (o2 == some .eq && !q))
/-- the world with both ends laid anew -/
def ends (w : World) (a : Nat) (p : Bool) (b : Nat) (q : Bool) : World :=
  (w.alloc (Obj.cells #[Value.float FloatKind.f64 a, Value.bool p] 31)).alloc (Obj.cells #[Value.float FloatKind.f64 b, Value.bool q] 31)
theorem ret_b {x y : Bool} (h : x = y) : Ending.returned (.bool x) = .returned (.bool y) := by rw [h]
set_option maxHeartbeats 4000000 in
theorem code_within (x a b : Nat) (p q : Bool) (w : World) (o1 o2 : Option Ordering) (h1 : FloatKind.f64.format.order x a = o1) (h2 : FloatKind.f64.format.order x b = o2) :
    Calls Try.prog 9 #[.float .f64 x, .agg #[.float .f64 a, .bool p], .agg #[.float .f64 b, .bool q]] w fun e w' => e = .returned (.bool (lies o1 o2 p q)) ∧ w' = ends w a p b q := by
  rcases o1 with _ | (_ | _ | _) <;> rcases o2 with _ | (_ | _ | _)
  all_goals
    cases p
    all_goals
      go_enter Try.func9, Try.ntmps9
      go_wp2
      all_goals
        go_ret
        exact ⟨ret_b (by cases q <;> rfl), rfl⟩
set_option maxHeartbeats 4000000 in
theorem ref_within_num (x a b : Nat) (p q : Bool) (w : World) (o1 o2 : Ordering) (h1 : FloatKind.f64.format.order x a = some o1) (h2 : FloatKind.f64.format.order x b = some o2)
    (hx : FloatKind.f64.format.order x x = some .eq) (ha : FloatKind.f64.format.order a a = some .eq) (hb : FloatKind.f64.format.order b b = some .eq) :
    Calls Try.prog 10 #[.float .f64 x, .agg #[.float .f64 a, .bool p], .agg #[.float .f64 b, .bool q]] w fun e w' => e = .returned (.bool (lies (some o1) (some o2) p q)) ∧ w' = ends w a p b q := by
  rcases o1 with _ | _ | _ <;> rcases o2 with _ | _ | _
  all_goals
    cases p
    all_goals
      go_enter Try.func10, Try.ntmps10
      go_wp2
      all_goals
        go_ret
        exact ⟨ret_b (by cases q <;> rfl), rfl⟩
set_option maxHeartbeats 4000000 in
theorem ref_within_nan (x a b : Nat) (p q : Bool) (w : World) (o1 o2 ox oa ob : Option Ordering) (h1 : FloatKind.f64.format.order x a = o1) (h2 : FloatKind.f64.format.order x b = o2)
    (hx : FloatKind.f64.format.order x x = ox) (ha : FloatKind.f64.format.order a a = oa) (hb : FloatKind.f64.format.order b b = ob)
    (k : (ox = none ∧ o1 = none ∧ o2 = none) ∨ (ox = some .eq ∧ oa = none ∧ o1 = none) ∨ (ox = some .eq ∧ oa = some .eq ∧ ob = none ∧ o2 = none)) :
    Calls Try.prog 10 #[.float .f64 x, .agg #[.float .f64 a, .bool p], .agg #[.float .f64 b, .bool q]] w fun e w' => e = .returned (.bool false) ∧ w' = ends w a p b q := by
  rcases k with ⟨rfl, rfl, rfl⟩ | ⟨rfl, rfl, rfl⟩ | ⟨rfl, rfl, rfl, rfl⟩
  · go_enter Try.func10, Try.ntmps10
    go_wp2
    all_goals
      go_ret
      exact ⟨rfl, rfl⟩
  · rcases o2 with _ | (_ | _ | _)
    all_goals
      go_enter Try.func10, Try.ntmps10
      go_wp2
      all_goals
        go_ret
        exact ⟨rfl, rfl⟩
  · rcases o1 with _ | (_ | _ | _)
    all_goals
      go_enter Try.func10, Try.ntmps10
      go_wp2
      all_goals
        go_ret
        exact ⟨rfl, rfl⟩
/-- whatever the three floats: both answer alike -/
theorem both_within (x a b : Nat) (p q : Bool) : ∃ r : Bool, (∀ w, Calls Try.prog 9 #[.float .f64 x, .agg #[.float .f64 a, .bool p], .agg #[.float .f64 b, .bool q]] w fun e w' => e = .returned (.bool r) ∧ w' = ends w a p b q) ∧
    (∀ w, Calls Try.prog 10 #[.float .f64 x, .agg #[.float .f64 a, .bool p], .agg #[.float .f64 b, .bool q]] w fun e w' => e = .returned (.bool r) ∧ w' = ends w a p b q) := by
  cases nx : isNan x
  · cases na : isNan a
    · cases nb : isNan b
      · obtain ⟨o1, h1⟩ := order_of_num nx na
        obtain ⟨o2, h2⟩ := order_of_num nx nb
        exact ⟨lies (some o1) (some o2) p q, fun w => code_within x a b p q w _ _ h1 h2, fun w => ref_within_num x a b p q w o1 o2 h1 h2 (order_self nx) (order_self na) (order_self nb)⟩
      · obtain ⟨o1, h1⟩ := order_of_num nx na
        have h2 := order_of_nan (x := x) (y := b) (Or.inr nb)
        refine ⟨false, fun w => ?_, fun w => ref_within_nan x a b p q w _ _ _ _ _ h1 h2 (order_self nx) (order_self na) (order_of_nan (Or.inl nb)) (Or.inr (Or.inr ⟨rfl, rfl, rfl, rfl⟩))⟩
        have e : lies (some o1) none p q = false := by cases o1 <;> cases p <;> cases q <;> rfl
        rw [← e]
        exact code_within x a b p q w _ _ h1 h2
    · have h1 := order_of_nan (x := x) (y := a) (Or.inr na)
      refine ⟨false, fun w => ?_, fun w => ref_within_nan x a b p q w _ _ _ _ _ h1 rfl (order_self nx) (order_of_nan (Or.inl na)) rfl (Or.inr (Or.inl ⟨rfl, rfl, rfl⟩))⟩
      have e : ∀ o, lies none o p q = false := by intro o; rfl
      rw [← e (Ieee.double.order x b)]
      exact code_within x a b p q w _ _ h1 rfl
  · have h1 := order_of_nan (x := x) (y := a) (Or.inl nx)
    have h2 := order_of_nan (x := x) (y := b) (Or.inl nx)
    refine ⟨false, fun w => ?_, fun w => ref_within_nan x a b p q w _ _ _ _ _ h1 h2 (order_of_nan (Or.inl nx)) rfl rfl (Or.inl ⟨rfl, rfl, rfl⟩)⟩
    have e : ∀ o, lies none o p q = false := by intro o; rfl
    rw [← e none]
    exact code_within x a b p q w _ _ h1 h2
end Go.Proofs.Ytdchjongagcbkaa
