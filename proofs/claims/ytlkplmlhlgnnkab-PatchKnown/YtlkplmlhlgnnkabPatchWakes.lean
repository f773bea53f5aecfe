/-
  Contracts over this program: the statements' own wakes answers true.
-/
import Derived.Test.YtlkplmlhlgnnkabPatchOnes
namespace Go.Proofs.Ytlkplmlhlgnnkab
open Go.RowKit
set_option linter.unusedVariables false
theorem wk_over (w : World) :
    Calls Try.prog 6 #[.string ⟨#[104, 101, 108, 108, 111]⟩, .int .i64 1, .string ⟨#[69, 76]⟩] w fun e w' => e = .returned (.tuple #[.string ⟨#[104, 69, 76, 108, 111]⟩, .int .i64 0]) ∧ Below w.heap.size w w' := by
  have h := overlay_any ⟨#[104, 101, 108, 108, 111]⟩ 1 ⟨#[69, 76]⟩ w (by omega) (by omega) (by decide) (by decide)
  rw [show ovl ⟨#[104, 101, 108, 108, 111]⟩ 1 ⟨#[69, 76]⟩ = (⟨#[104, 69, 76, 108, 111]⟩, 0) by decide +kernel] at h
  exact h
theorem wk_set (w : World) :
    Calls Try.prog 8 #[.string ⟨#[97]⟩, .int .i64 6, .int .i64 1] w fun e w' => e = .returned (.tuple #[.string ⟨#[99]⟩, .int .i64 0, .int .i64 0]) ∧ Below w.heap.size w w' := by
  have h := setbit_any ⟨#[97]⟩ 6 1 w (by decide) (by omega) (by omega)
  rw [show setV ⟨#[97]⟩ 6 1 = (⟨#[99]⟩, 0, 0) by decide +kernel] at h
  exact h
theorem wk_ones (w : World) :
    Calls Try.prog 9 #[.string ⟨#[97, 98, 99]⟩, .int .i64 0, .int .i64 (-1)] w fun e w' => e = .returned (.int .i64 10) ∧ Below w.heap.size w w' := by
  have h := ones_any ⟨#[97, 98, 99]⟩ 0 (-1) w (by omega) (by omega) (by omega) (by omega) (by decide)
  rw [show ((Pt.ones ((⟨#[97, 98, 99]⟩ : ByteArray).extract (sf 0 (-1) (⟨#[97, 98, 99]⟩ : ByteArray).size) (st 0 (-1) (⟨#[97, 98, 99]⟩ : ByteArray).size)).data.toList : Nat) : Int) = 10 by decide +kernel] at h
  exact h
set_option maxHeartbeats 400000 in
theorem wakes_any (w : World) :
    Calls Try.prog 4 #[] w fun e w' => e = .returned (.bool true) ∧ Below w.heap.size w w' := by
  go_enter Try.func4, Try.ntmps4
  go_wp2_with fail
  refine (wk_over _).mono ?_
  rintro e w1 ⟨rfl, b1⟩
  go_wp2_with fail
  refine (wk_set _).mono ?_
  rintro e w2 ⟨rfl, b2⟩
  go_wp2_with fail
  refine (wk_ones _).mono ?_
  rintro e w3 ⟨rfl, b3⟩
  go_wp2
  go_ret
  exact ⟨rfl, (b1.trans (b2.mono b1.size)).trans (b3.mono (Nat.le_trans b1.size b2.size))⟩
end Go.Proofs.Ytlkplmlhlgnnkab
