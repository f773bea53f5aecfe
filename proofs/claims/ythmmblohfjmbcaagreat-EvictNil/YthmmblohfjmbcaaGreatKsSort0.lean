/-
  Contracts over this program: a row of no keys is sorted.
-/
import Derived.Test.YthmmblohfjmbcaaGreatKsNil
namespace Go.Proofs.YthmmblohfjmbcaaGreat
open Go.RowKit Go.Shelf
set_option linter.unusedVariables false
set_option maxRecDepth 100000
namespace Ks
/-- a loop that is left in its first round -/
theorem loop_at {P : Program} {c : Code} {Q : Exit → Act → World → Prop} {a : Act} {w : World} (h : c.wp P (Exit.then (fun _ _ => False) Q) a w) : (Code.loop c).wp P Q a w := by
  refine wp_loop (fun a' w' => a' = a ∧ w' = w) (fun _ _ => 0) ⟨rfl, rfl⟩ ?_
  rintro a' w' ⟨rfl, rfl⟩
  have e : (fun (a'' : Act) (w'' : World) => (a'' = a' ∧ w'' = w') ∧ (0 : Nat) < 0) = fun _ _ => False := by funext; simp
  rw [e]
  exact h
set_option maxHeartbeats 1000000 in
theorem ins0 (w : World) (f : Value) : Calls Tryz.prog 93 #[.slice none 0 0, .int .i64 0, .int .i64 0, f] w fun e w' => e = .returned (.tuple #[]) ∧ w' = w := by
  go_enter Tryz.func93, Tryz.ntmps93
  go_wp2
  refine loop_at ?_
  go_wp2
  go_end0
  exact ⟨rfl, rfl⟩
set_option maxHeartbeats 1000000 in
theorem pdq0 (w : World) (l f : Value) : Calls Tryz.prog 76 #[.slice none 0 0, .int .i64 0, .int .i64 0, l, f] w fun e w' => e = .returned (.tuple #[]) ∧ w' = w := by
  have mI := ins0 w f
  go_enter Tryz.func76, Tryz.ntmps76
  go_wp2
  refine loop_at ?_
  go_wp2_with fail
  refine mI.mono ?_
  rintro _ w1 ⟨rfl, hw⟩
  obtain rfl := hw.symm
  clear mI
  go_wp2
  refine bodyPost_ret (results_none rfl _ _ _) rfl ?_
  exact ⟨rfl, rfl⟩
set_option maxHeartbeats 1000000 in
theorem blen64 (w : World) : Calls Tryz.prog 102 #[.int .u64 0] w fun e w' => ∃ v, e = .returned v ∧ w' = w := by
  go_enter Tryz.func102, Tryz.ntmps102
  go_wp2
  go_ret
  exact ⟨_, rfl, rfl⟩
set_option maxHeartbeats 1000000 in
theorem blen0 (w : World) : Calls Tryz.prog 77 #[.int .u64 0] w fun e w' => ∃ v, e = .returned v ∧ w' = w := by
  have mL := blen64 w
  go_enter Tryz.func77, Tryz.ntmps77
  go_wp2_with fail
  refine mL.mono ?_
  rintro _ w1 ⟨v, rfl, rfl⟩
  clear mL
  go_wp2
  go_ret
  exact ⟨_, rfl, rfl⟩
set_option maxHeartbeats 1000000 in
theorem sort0 (w : World) (f : Value) : Calls Tryz.prog 52 #[.slice none 0 0, f] w fun e w' => e = .returned (.tuple #[]) ∧ w' = w := by
  have mP := fun l => pdq0 w l f
  have mL := blen0 w
  go_enter Tryz.func52, Tryz.ntmps52
  go_wp2_with fail
  refine mL.mono ?_
  rintro _ w1 ⟨v, rfl, hw⟩
  obtain rfl := hw.symm
  clear mL
  go_wp2_with fail
  refine (mP _).mono ?_
  rintro _ w1 ⟨rfl, hw⟩
  obtain rfl := hw.symm
  clear mP
  go_wp2
  go_end0
  exact ⟨rfl, rfl⟩
end Ks
end Go.Proofs.YthmmblohfjmbcaaGreat
