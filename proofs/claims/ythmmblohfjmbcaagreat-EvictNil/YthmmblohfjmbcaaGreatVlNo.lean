/-
  Contracts over this program: no value.
-/
import Derived.Test.YthmmblohfjmbcaaGreatDraws
import Derived.Test.YthmmblohfjmbcaaGreatVlTwin
import Derived.Below
import Derived.OwnWalk
import Derived.Stop.Asserts
namespace Go.Proofs.YthmmblohfjmbcaaGreat
open Go.RowKit
def cNo : Value := .iface 149 (.agg #[])
set_option maxRecDepth 100000
set_option maxHeartbeats 400000 in
theorem content_none (w : World) : Calls Tryz.prog 58 #[.pointer none] w fun e w' => e = .returned cNo ∧ w' = w := by
  go_enter Tryz.func58, Tryz.ntmps58
  go_wp2
  go_ret
  exact ⟨rfl, rfl⟩
set_option maxHeartbeats 400000 in
theorem cost_none (w : World) : Calls Tryz.prog 85 #[.pointer none] w fun e w' => e = .returned (.int .i64 0) ∧ Below w.heap.size w w' := by
  have mC := content_none w
  have hm : ∀ w : World, (method 315 149 (.agg #[]) "Cost").run Tryz.prog w = .ok (144, .agg #[]) w := fun _ => by kernel_rfl
  go_enter Tryz.func85, Tryz.ntmps85
  go_wp2_with fail
  refine mC.mono ?_
  rintro _ w1 ⟨rfl, rfl⟩
  unfold cNo
  go_wp2
  go_ret
  exact ⟨rfl, (Below.refl _ _).alloc (Nat.le_refl _) _⟩
set_option maxHeartbeats 400000 in
theorem empty_none (w : World) : Calls Tryz.prog 38 #[.pointer none] w fun e w' => e = .returned (.bool false) ∧ w' = w := by
  have mC := content_none w
  have ha : ∀ w : World, (Instr.typeAssert (.iface 149 (.agg #[])) 97 127 true).run Tryz.prog w = .ok (.tuple #[.nilIface, .bool false]) w := fun w => run_typeAssert_lacksB Tryz.underlying127 (by kernel_rfl) (by kernel_rfl) _ _ w
  go_enter Tryz.func38, Tryz.ntmps38
  go_wp2_with fail
  refine mC.mono ?_
  rintro _ w1 ⟨rfl, rfl⟩
  unfold cNo
  go_wp2
  go_ret
  exact ⟨rfl, rfl⟩
set_option maxHeartbeats 400000 in
theorem astext_none (w : World) : Calls Tryz.prog 36 #[.pointer none] w fun e w' => e = .returned (.tuple #[.string .empty, .bool false]) ∧ w' = w := by
  have mC := content_none w
  have ha : ∀ w : World, (Instr.typeAssert (.iface 149 (.agg #[])) 97 95 true).run Tryz.prog w = .ok (.tuple #[.string .empty, .bool false]) w := fun _ => by kernel_rfl
  go_enter Tryz.func36, Tryz.ntmps36
  go_wp2_with fail
  refine mC.mono ?_
  rintro _ w1 ⟨rfl, rfl⟩
  unfold cNo
  go_wp2
  refine bodyPost_ret (results_tmp2 rfl _ _ _) rfl ?_
  exact ⟨rfl, rfl⟩
end Go.Proofs.YthmmblohfjmbcaaGreat
