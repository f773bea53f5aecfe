/-
  Contracts over this program: Cost; Set, where nothing is set.
-/
import Derived.Test.YtlfkdohajfkhdaaDqIns
namespace Go.Proofs.Ytlfkdohajfkhdaa
open Go.RowKit Go.Shelf
set_option linter.unusedVariables false
set_option maxHeartbeats 400000 in
theorem cost_any (w : World) (b : Nat) (f l : Value) (n c : Nat) (hd : Ds w b f l n c) : Calls Try.prog 30 #[ptr b] w fun e w' => e = .returned (.int .i64 (c : Nat)) ∧ w' = w := by
  obtain ⟨c0, c1, c2, c3, cf⟩ := hd.four
  clear hd c0 c1 c2 cf
  go_enter Try.func30, Try.ntmps30
  go_wp2
  go_ret
  exact ⟨rfl, rfl⟩
set_option maxHeartbeats 400000 in
theorem cost_nil (w : World) : Calls Try.prog 30 #[nul] w fun e w' => e = .returned (.int .i64 0) ∧ w' = w := by
  go_enter Try.func30, Try.ntmps30
  go_wp2
  go_ret
  exact ⟨rfl, rfl⟩
set_option maxRecDepth 100000 in
set_option maxHeartbeats 1000000 in
theorem set_out (w : World) (bv : Value) (N : Nat) (i : Int) (s : ByteArray) (hN : N ≤ 1048576) (hL : ∀ w1, Below w.heap.size w w1 → Calls Try.prog 24 #[bv] w1 fun e w' => e = .returned (.int .i64 (N : Nat)) ∧ w' = w1) (hi : i < 0 ∨ (N : Int) ≤ i) :
    Calls Try.prog 40 #[bv, .int .i64 i, .string s] w fun e w' => e = .returned (.bool false) ∧ Below w.heap.size w w' := by
  have MF := keep (find_out w bv N i hN hL hi)
  clear hN hL hi
  go_enter Try.func40, Try.ntmps40
  go_wp2_with fail
  refine MF.out.mono ?_
  rintro _ w1 ⟨rfl, hb⟩
  go_wp2
  go_ret
  exact ⟨rfl, hb⟩
end Go.Proofs.Ytlfkdohajfkhdaa
