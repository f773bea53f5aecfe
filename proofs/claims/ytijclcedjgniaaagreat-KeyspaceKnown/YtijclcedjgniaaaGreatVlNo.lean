/-
  Contracts over this program: no value.
-/
import Derived.Test.YtijclcedjgniaaaGreatDraws
import Derived.Test.YtijclcedjgniaaaGreatVlPlain
import Derived.Below
import Derived.OwnWalk
import Derived.Stop.Asserts
namespace Go.Proofs.YtijclcedjgniaaaGreat
open Go.RowKit
def cNo : Value := .iface 230 (.agg #[])
set_option maxRecDepth 100000
set_option maxHeartbeats 400000 in
theorem content_none (w : World) : Calls Tryz.prog 77 #[.pointer none] w fun e w' => e = .returned cNo ∧ w' = w := by
  go_enter Tryz.func77, Tryz.ntmps77
  go_wp2
  go_ret
  exact ⟨rfl, rfl⟩
set_option maxHeartbeats 400000 in
theorem cost_none (w : World) : Calls Tryz.prog 58 #[.pointer none] w fun e w' => e = .returned (.int .i64 0) ∧ Below w.heap.size w w' := by
  have mC := content_none w
  have hm : ∀ w : World, (method 556 230 (.agg #[]) "Cost").run Tryz.prog w = .ok (387, .agg #[]) w := fun _ => by kernel_rfl
  go_enter Tryz.func58, Tryz.ntmps58
  go_wp2_with fail
  refine mC.mono ?_
  rintro _ w1 ⟨rfl, rfl⟩
  unfold cNo
  go_wp2
  go_ret
  exact ⟨rfl, (Below.refl _ _).alloc (Nat.le_refl _) _⟩
set_option maxHeartbeats 400000 in
theorem empty_none (w : World) : Calls Tryz.prog 69 #[.pointer none] w fun e w' => e = .returned (.bool false) ∧ w' = w := by
  have mC := content_none w
  have ha : ∀ w : World, (Instr.typeAssert (.iface 230 (.agg #[])) 132 214 true).run Tryz.prog w = .ok (.tuple #[.nilIface, .bool false]) w := fun w => run_typeAssert_lacksB Tryz.underlying214 (by kernel_rfl) (by kernel_rfl) _ _ w
  go_enter Tryz.func69, Tryz.ntmps69
  go_wp2_with fail
  refine mC.mono ?_
  rintro _ w1 ⟨rfl, rfl⟩
  unfold cNo
  go_wp2
  go_ret
  exact ⟨rfl, rfl⟩
set_option maxHeartbeats 400000 in
theorem astext_none (w : World) : Calls Tryz.prog 40 #[.pointer none] w fun e w' => e = .returned (.tuple #[.string .empty, .bool false]) ∧ w' = w := by
  have mC := content_none w
  have ha : ∀ w : World, (Instr.typeAssert (.iface 230 (.agg #[])) 132 130 true).run Tryz.prog w = .ok (.tuple #[.string .empty, .bool false]) w := fun _ => by kernel_rfl
  go_enter Tryz.func40, Tryz.ntmps40
  go_wp2_with fail
  refine mC.mono ?_
  rintro _ w1 ⟨rfl, rfl⟩
  unfold cNo
  go_wp2
  refine bodyPost_ret (results_tmp2 rfl _ _ _) rfl ?_
  exact ⟨rfl, rfl⟩
set_option maxHeartbeats 400000 in
theorem aslist_none (w : World) : Calls Tryz.prog 33 #[.pointer none] w fun e w' => e = .returned (.tuple #[.pointer none, .bool false]) ∧ Below w.heap.size w w' := by
  have mC := content_none w
  have ha : ∀ w : World, (Instr.typeAssert (.iface 230 (.agg #[])) 132 141 true).run Tryz.prog w = .ok (.tuple #[.agg #[.pointer none], .bool false]) w := fun _ => by kernel_rfl
  go_enter Tryz.func33, Tryz.ntmps33
  go_wp2_with fail
  refine mC.mono ?_
  rintro _ w1 ⟨rfl, rfl⟩
  unfold cNo
  go_wp2
  refine bodyPost_ret (results_tmp2 rfl _ _ _) rfl ?_
  exact ⟨rfl, (Below.refl _ _).alloc (Nat.le_refl _) _⟩
set_option maxHeartbeats 400000 in
theorem asrecord_none (w : World) : Calls Tryz.prog 49 #[.pointer none] w fun e w' => e = .returned (.tuple #[.pointer none, .bool false]) ∧ Below w.heap.size w w' := by
  have mC := content_none w
  have ha : ∀ w : World, (Instr.typeAssert (.iface 230 (.agg #[])) 132 181 true).run Tryz.prog w = .ok (.tuple #[.agg #[.pointer none], .bool false]) w := fun _ => by kernel_rfl
  go_enter Tryz.func49, Tryz.ntmps49
  go_wp2_with fail
  refine mC.mono ?_
  rintro _ w1 ⟨rfl, rfl⟩
  unfold cNo
  go_wp2
  refine bodyPost_ret (results_tmp2 rfl _ _ _) rfl ?_
  exact ⟨rfl, (Below.refl _ _).alloc (Nat.le_refl _) _⟩
set_option maxHeartbeats 400000 in
theorem asflock_none (w : World) : Calls Tryz.prog 46 #[.pointer none] w fun e w' => e = .returned (.tuple #[.pointer none, .bool false]) ∧ Below w.heap.size w w' := by
  have mC := content_none w
  have ha : ∀ w : World, (Instr.typeAssert (.iface 230 (.agg #[])) 132 173 true).run Tryz.prog w = .ok (.tuple #[.agg #[.pointer none], .bool false]) w := fun _ => by kernel_rfl
  go_enter Tryz.func46, Tryz.ntmps46
  go_wp2_with fail
  refine mC.mono ?_
  rintro _ w1 ⟨rfl, rfl⟩
  unfold cNo
  go_wp2
  refine bodyPost_ret (results_tmp2 rfl _ _ _) rfl ?_
  exact ⟨rfl, (Below.refl _ _).alloc (Nat.le_refl _) _⟩
end Go.Proofs.YtijclcedjgniaaaGreat
