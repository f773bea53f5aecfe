/-
  Contracts over this program: the statement on nil ranks.
-/
import Derived.Test.YtcknmenhjipaeabRkFloat
import Derived.Below
namespace Go.Proofs.Ytcknmenhjipaeab
open Go.RowKit
theorem nan_any (w : World) : Calls Try.prog 14 #[] w fun e w' => e = .returned (.float .f64 nanB) ∧ w' = w := by
  have f1 := run_frombits
  go_enter Try.func14, Try.ntmps14
  go_wp2
  go_ret
  exact ⟨rfl, rfl⟩
set_option maxHeartbeats 1000000 in
theorem rget_nil (k : ByteArray) (w : World) : Calls Try.prog 12 #[.pointer none, .string k] w fun e w' => e = .returned (.tuple #[.float .f64 0, .bool false]) ∧ w' = w := by
  go_enter Try.func12, Try.ntmps12
  go_wp2
  refine bodyPost_ret (results_tmp2 rfl _ _ _) rfl ?_
  exact ⟨rfl, rfl⟩
end Go.Proofs.Ytcknmenhjipaeab
