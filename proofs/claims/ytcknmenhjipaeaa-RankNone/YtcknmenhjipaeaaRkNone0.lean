/-
  Contracts over this program: the statement on nil ranks.
-/
import Derived.Test.YtcknmenhjipaeaaRkFloat
import Derived.Below
namespace Go.Proofs.Ytcknmenhjipaeaa
open Go.RowKit
theorem nan_any (w : World) : Calls Try.prog 18 #[] w fun e w' => e = .returned (.float .f64 nanB) ∧ w' = w := by
  have f1 := run_frombits
  go_enter Try.func18, Try.ntmps18
  go_wp2
  go_ret
  exact ⟨rfl, rfl⟩
set_option maxHeartbeats 1000000 in
theorem rget_nil (k : ByteArray) (w : World) : Calls Try.prog 15 #[.pointer none, .string k] w fun e w' => e = .returned (.tuple #[.float .f64 0, .bool false]) ∧ w' = w := by
  go_enter Try.func15, Try.ntmps15
  go_wp2
  refine bodyPost_ret (results_tmp2 rfl _ _ _) rfl ?_
  exact ⟨rfl, rfl⟩
set_option maxHeartbeats 4000000 in
set_option maxRecDepth 100000 in
theorem none_walk (w : World) : Calls Try.prog 4 #[] w fun e w' => e = .returned (.bool true) ∧ Below w.heap.size w w' := by
  have a0 := alk_self 0
  go_enter Try.func4, Try.ntmps4
  go_wp2_with (first
    | (go_at_call 20; refine (alike_any _ _ _).mono ?_; rintro _ _ ⟨rfl, rfl⟩; rw [a0])
    | (go_at_call 18; refine (nan_any _).mono ?_; rintro _ _ ⟨rfl, rfl⟩)
    | (go_at_call 15; refine (rget_nil _ _).mono ?_; rintro _ _ ⟨rfl, rfl⟩)
    | go_in)
  go_ret
  exact ⟨rfl, ((Below.refl _ _).alloc (Nat.le_refl _) _).alloc (by simp) _⟩
end Go.Proofs.Ytcknmenhjipaeaa
