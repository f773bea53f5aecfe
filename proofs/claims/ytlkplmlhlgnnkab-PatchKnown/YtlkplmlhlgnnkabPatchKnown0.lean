/-
  Contracts over this program: the statement PatchKnown (closed): each call by its contract.
-/
import Derived.Test.YtlkplmlhlgnnkabPatchWakes
namespace Go.Proofs.Ytlkplmlhlgnnkab
open Go.RowKit
set_option linter.unusedVariables false
theorem kc1 (w : World) : Calls Try.prog 5 #[.string ⟨#[104, 101, 108, 108, 111]⟩, .int .i64 1, .int .i64 3] w fun e w' => e = .returned (.string ⟨#[101, 108, 108]⟩) ∧ Below w.heap.size w w' := by
  have h := slice_any ⟨#[104, 101, 108, 108, 111]⟩ 1 3 w (by omega) (by omega) (by omega) (by omega) (by decide)
  rw [show (⟨#[104, 101, 108, 108, 111]⟩ : ByteArray).extract (sf 1 3 (⟨#[104, 101, 108, 108, 111]⟩ : ByteArray).size) (st 1 3 (⟨#[104, 101, 108, 108, 111]⟩ : ByteArray).size) = ⟨#[101, 108, 108]⟩ by decide +kernel] at h
  exact h
theorem kc2 (w : World) : Calls Try.prog 5 #[.string ⟨#[104, 101, 108, 108, 111]⟩, .int .i64 (-3), .int .i64 (-1)] w fun e w' => e = .returned (.string ⟨#[108, 108, 111]⟩) ∧ Below w.heap.size w w' := by
  have h := slice_any ⟨#[104, 101, 108, 108, 111]⟩ (-3) (-1) w (by omega) (by omega) (by omega) (by omega) (by decide)
  rw [show (⟨#[104, 101, 108, 108, 111]⟩ : ByteArray).extract (sf (-3) (-1) (⟨#[104, 101, 108, 108, 111]⟩ : ByteArray).size) (st (-3) (-1) (⟨#[104, 101, 108, 108, 111]⟩ : ByteArray).size) = ⟨#[108, 108, 111]⟩ by decide +kernel] at h
  exact h
theorem kc3 (w : World) : Calls Try.prog 5 #[.string ⟨#[104, 101, 108, 108, 111]⟩, .int .i64 3, .int .i64 1] w fun e w' => e = .returned (.string ⟨#[]⟩) ∧ Below w.heap.size w w' := by
  have h := slice_any ⟨#[104, 101, 108, 108, 111]⟩ 3 1 w (by omega) (by omega) (by omega) (by omega) (by decide)
  rw [show (⟨#[104, 101, 108, 108, 111]⟩ : ByteArray).extract (sf 3 1 (⟨#[104, 101, 108, 108, 111]⟩ : ByteArray).size) (st 3 1 (⟨#[104, 101, 108, 108, 111]⟩ : ByteArray).size) = ⟨#[]⟩ by decide +kernel] at h
  exact h
theorem kc4 (w : World) : Calls Try.prog 5 #[.string ⟨#[104, 101, 108, 108, 111]⟩, .int .i64 0, .int .i64 100] w fun e w' => e = .returned (.string ⟨#[104, 101, 108, 108, 111]⟩) ∧ Below w.heap.size w w' := by
  have h := slice_any ⟨#[104, 101, 108, 108, 111]⟩ 0 100 w (by omega) (by omega) (by omega) (by omega) (by decide)
  rw [show (⟨#[104, 101, 108, 108, 111]⟩ : ByteArray).extract (sf 0 100 (⟨#[104, 101, 108, 108, 111]⟩ : ByteArray).size) (st 0 100 (⟨#[104, 101, 108, 108, 111]⟩ : ByteArray).size) = ⟨#[104, 101, 108, 108, 111]⟩ by decide +kernel] at h
  exact h
theorem kc5 (w : World) : Calls Try.prog 6 #[.string ⟨#[104, 101, 108, 108, 111]⟩, .int .i64 5, .string ⟨#[33]⟩] w fun e w' => e = .returned (.tuple #[.string ⟨#[104, 101, 108, 108, 111, 33]⟩, .int .i64 0]) ∧ Below w.heap.size w w' := by
  have h := overlay_any ⟨#[104, 101, 108, 108, 111]⟩ 5 ⟨#[33]⟩ w (by omega) (by omega) (by decide) (by decide)
  rw [show ovl ⟨#[104, 101, 108, 108, 111]⟩ 5 ⟨#[33]⟩ = (⟨#[104, 101, 108, 108, 111, 33]⟩, 0) by decide +kernel] at h
  exact h
theorem kc6 (w : World) : Calls Try.prog 6 #[.string ⟨#[104, 101, 108, 108, 111]⟩, .int .i64 7, .string ⟨#[120]⟩] w fun e w' => e = .returned (.tuple #[.string ⟨#[104, 101, 108, 108, 111, 0, 0, 120]⟩, .int .i64 0]) ∧ Below w.heap.size w w' := by
  have h := overlay_any ⟨#[104, 101, 108, 108, 111]⟩ 7 ⟨#[120]⟩ w (by omega) (by omega) (by decide) (by decide)
  rw [show ovl ⟨#[104, 101, 108, 108, 111]⟩ 7 ⟨#[120]⟩ = (⟨#[104, 101, 108, 108, 111, 0, 0, 120]⟩, 0) by decide +kernel] at h
  exact h
theorem kc7 (w : World) : Calls Try.prog 6 #[.string ⟨#[104, 101, 108, 108, 111]⟩, .int .i64 (-1), .string ⟨#[]⟩] w fun e w' => e = .returned (.tuple #[.string ⟨#[]⟩, .int .i64 3]) ∧ Below w.heap.size w w' := by
  have h := overlay_any ⟨#[104, 101, 108, 108, 111]⟩ (-1) ⟨#[]⟩ w (by omega) (by omega) (by decide) (by decide)
  rw [show ovl ⟨#[104, 101, 108, 108, 111]⟩ (-1) ⟨#[]⟩ = (⟨#[]⟩, 3) by decide +kernel] at h
  exact h
theorem kc8 (w : World) : Calls Try.prog 6 #[.string ⟨#[104, 101, 108, 108, 111]⟩, .int .i64 9223372036854775807, .string ⟨#[]⟩] w fun e w' => e = .returned (.tuple #[.string ⟨#[104, 101, 108, 108, 111]⟩, .int .i64 0]) ∧ Below w.heap.size w w' := by
  have h := overlay_any ⟨#[104, 101, 108, 108, 111]⟩ 9223372036854775807 ⟨#[]⟩ w (by omega) (by omega) (by decide) (by decide)
  rw [show ovl ⟨#[104, 101, 108, 108, 111]⟩ 9223372036854775807 ⟨#[]⟩ = (⟨#[104, 101, 108, 108, 111]⟩, 0) by decide +kernel] at h
  exact h
theorem kc9 (w : World) : Calls Try.prog 6 #[.string ⟨#[104, 101, 108, 108, 111]⟩, .int .i64 9223372036854775807, .string ⟨#[120]⟩] w fun e w' => e = .returned (.tuple #[.string ⟨#[]⟩, .int .i64 2]) ∧ Below w.heap.size w w' := by
  have h := overlay_any ⟨#[104, 101, 108, 108, 111]⟩ 9223372036854775807 ⟨#[120]⟩ w (by omega) (by omega) (by decide) (by decide)
  rw [show ovl ⟨#[104, 101, 108, 108, 111]⟩ 9223372036854775807 ⟨#[120]⟩ = (⟨#[]⟩, 2) by decide +kernel] at h
  exact h
theorem kc10 (w : World) : ∃ D : ByteArray, D.size = 1048576 ∧ Calls Try.prog 6 #[.string ⟨#[]⟩, .int .i64 1048575, .string ⟨#[120]⟩] w fun e w' => e = .returned (.tuple #[.string D, .int .i64 0]) ∧ Below w.heap.size w w' := by
  have h := overlay_any ⟨#[]⟩ 1048575 ⟨#[120]⟩ w (by omega) (by omega) (by decide) (by decide)
  have e : ovl ⟨#[]⟩ 1048575 ⟨#[120]⟩ = (⟨(Pt.over [] 1048575 [120]).toArray⟩, 0) := by
    unfold ovl
    rw [if_neg (by omega), if_neg (by decide), if_neg (by decide)]
    rfl
  rw [e] at h
  refine ⟨_, ?_, h⟩
  have := Pt.over_len [] 1048575 [120]
  simp only [ByteArray.size, List.size_toArray]
  rw [this]
  rfl
theorem kc11 (w : World) : Calls Try.prog 6 #[.string ⟨#[]⟩, .int .i64 1048576, .string ⟨#[120]⟩] w fun e w' => e = .returned (.tuple #[.string ⟨#[]⟩, .int .i64 2]) ∧ Below w.heap.size w w' := by
  have h := overlay_any ⟨#[]⟩ 1048576 ⟨#[120]⟩ w (by omega) (by omega) (by decide) (by decide)
  rw [show ovl ⟨#[]⟩ 1048576 ⟨#[120]⟩ = (⟨#[]⟩, 2) by decide +kernel] at h
  exact h
theorem kc12 (w : World) : Calls Try.prog 7 #[.string ⟨#[97]⟩, .int .i64 0] w fun e w' => e = .returned (.tuple #[.int .i64 0, .int .i64 0]) ∧ w' = w := by
  have h := bit_any ⟨#[97]⟩ 0 w (by decide) (by omega) (by omega)
  rw [show bitV ⟨#[97]⟩ 0 = (0, 0) by decide +kernel] at h
  exact h
theorem kc13 (w : World) : Calls Try.prog 7 #[.string ⟨#[97]⟩, .int .i64 1] w fun e w' => e = .returned (.tuple #[.int .i64 1, .int .i64 0]) ∧ w' = w := by
  have h := bit_any ⟨#[97]⟩ 1 w (by decide) (by omega) (by omega)
  rw [show bitV ⟨#[97]⟩ 1 = (1, 0) by decide +kernel] at h
  exact h
theorem kc14 (w : World) : Calls Try.prog 7 #[.string ⟨#[97]⟩, .int .i64 2] w fun e w' => e = .returned (.tuple #[.int .i64 1, .int .i64 0]) ∧ w' = w := by
  have h := bit_any ⟨#[97]⟩ 2 w (by decide) (by omega) (by omega)
  rw [show bitV ⟨#[97]⟩ 2 = (1, 0) by decide +kernel] at h
  exact h
theorem kc15 (w : World) : Calls Try.prog 7 #[.string ⟨#[97]⟩, .int .i64 3] w fun e w' => e = .returned (.tuple #[.int .i64 0, .int .i64 0]) ∧ w' = w := by
  have h := bit_any ⟨#[97]⟩ 3 w (by decide) (by omega) (by omega)
  rw [show bitV ⟨#[97]⟩ 3 = (0, 0) by decide +kernel] at h
  exact h
theorem kc16 (w : World) : Calls Try.prog 7 #[.string ⟨#[97]⟩, .int .i64 4] w fun e w' => e = .returned (.tuple #[.int .i64 0, .int .i64 0]) ∧ w' = w := by
  have h := bit_any ⟨#[97]⟩ 4 w (by decide) (by omega) (by omega)
  rw [show bitV ⟨#[97]⟩ 4 = (0, 0) by decide +kernel] at h
  exact h
theorem kc17 (w : World) : Calls Try.prog 7 #[.string ⟨#[97]⟩, .int .i64 5] w fun e w' => e = .returned (.tuple #[.int .i64 0, .int .i64 0]) ∧ w' = w := by
  have h := bit_any ⟨#[97]⟩ 5 w (by decide) (by omega) (by omega)
  rw [show bitV ⟨#[97]⟩ 5 = (0, 0) by decide +kernel] at h
  exact h
theorem kc18 (w : World) : Calls Try.prog 7 #[.string ⟨#[97]⟩, .int .i64 6] w fun e w' => e = .returned (.tuple #[.int .i64 0, .int .i64 0]) ∧ w' = w := by
  have h := bit_any ⟨#[97]⟩ 6 w (by decide) (by omega) (by omega)
  rw [show bitV ⟨#[97]⟩ 6 = (0, 0) by decide +kernel] at h
  exact h
theorem kc19 (w : World) : Calls Try.prog 7 #[.string ⟨#[97]⟩, .int .i64 7] w fun e w' => e = .returned (.tuple #[.int .i64 1, .int .i64 0]) ∧ w' = w := by
  have h := bit_any ⟨#[97]⟩ 7 w (by decide) (by omega) (by omega)
  rw [show bitV ⟨#[97]⟩ 7 = (1, 0) by decide +kernel] at h
  exact h
theorem kc20 (w : World) : Calls Try.prog 7 #[.string ⟨#[97]⟩, .int .i64 8] w fun e w' => e = .returned (.tuple #[.int .i64 0, .int .i64 0]) ∧ w' = w := by
  have h := bit_any ⟨#[97]⟩ 8 w (by decide) (by omega) (by omega)
  rw [show bitV ⟨#[97]⟩ 8 = (0, 0) by decide +kernel] at h
  exact h
theorem kc21 (w : World) : Calls Try.prog 7 #[.string ⟨#[97]⟩, .int .i64 (-1)] w fun e w' => e = .returned (.tuple #[.int .i64 0, .int .i64 3]) ∧ w' = w := by
  have h := bit_any ⟨#[97]⟩ (-1) w (by decide) (by omega) (by omega)
  rw [show bitV ⟨#[97]⟩ (-1) = (0, 3) by decide +kernel] at h
  exact h
theorem kc22 (w : World) : Calls Try.prog 7 #[.string ⟨#[97]⟩, .int .i64 1073741824] w fun e w' => e = .returned (.tuple #[.int .i64 0, .int .i64 3]) ∧ w' = w := by
  have h := bit_any ⟨#[97]⟩ 1073741824 w (by decide) (by omega) (by omega)
  rw [show bitV ⟨#[97]⟩ 1073741824 = (0, 3) by decide +kernel] at h
  exact h
theorem kc23 (w : World) : Calls Try.prog 8 #[.string ⟨#[]⟩, .int .i64 8, .int .i64 1] w fun e w' => e = .returned (.tuple #[.string ⟨#[0, 128]⟩, .int .i64 0, .int .i64 0]) ∧ Below w.heap.size w w' := by
  have h := setbit_any ⟨#[]⟩ 8 1 w (by decide) (by omega) (by omega)
  rw [show setV ⟨#[]⟩ 8 1 = (⟨#[0, 128]⟩, 0, 0) by decide +kernel] at h
  exact h
theorem kc24 (w : World) : Calls Try.prog 8 #[.string ⟨#[97]⟩, .int .i64 0, .int .i64 2] w fun e w' => e = .returned (.tuple #[.string ⟨#[]⟩, .int .i64 0, .int .i64 3]) ∧ Below w.heap.size w w' := by
  have h := setbit_any ⟨#[97]⟩ 0 2 w (by decide) (by omega) (by omega)
  rw [show setV ⟨#[97]⟩ 0 2 = (⟨#[]⟩, 0, 3) by decide +kernel] at h
  exact h
theorem kc25 (w : World) : Calls Try.prog 8 #[.string ⟨#[]⟩, .int .i64 8388608, .int .i64 0] w fun e w' => e = .returned (.tuple #[.string ⟨#[]⟩, .int .i64 0, .int .i64 2]) ∧ Below w.heap.size w w' := by
  have h := setbit_any ⟨#[]⟩ 8388608 0 w (by decide) (by omega) (by omega)
  rw [show setV ⟨#[]⟩ 8388608 0 = (⟨#[]⟩, 0, 2) by decide +kernel] at h
  exact h
theorem kc26 (w : World) : Calls Try.prog 9 #[.string ⟨#[97, 98, 99]⟩, .int .i64 1, .int .i64 1] w fun e w' => e = .returned (.int .i64 3) ∧ Below w.heap.size w w' := by
  have h := ones_any ⟨#[97, 98, 99]⟩ 1 1 w (by omega) (by omega) (by omega) (by omega) (by decide)
  rw [show ((Pt.ones ((⟨#[97, 98, 99]⟩ : ByteArray).extract (sf 1 1 (⟨#[97, 98, 99]⟩ : ByteArray).size) (st 1 1 (⟨#[97, 98, 99]⟩ : ByteArray).size)).data.toList : Nat) : Int) = 3 by decide +kernel] at h
  exact h
theorem kc27 (w : World) : Calls Try.prog 9 #[.string ⟨#[97, 98, 99]⟩, .int .i64 (-1), .int .i64 (-1)] w fun e w' => e = .returned (.int .i64 4) ∧ Below w.heap.size w w' := by
  have h := ones_any ⟨#[97, 98, 99]⟩ (-1) (-1) w (by omega) (by omega) (by omega) (by omega) (by decide)
  rw [show ((Pt.ones ((⟨#[97, 98, 99]⟩ : ByteArray).extract (sf (-1) (-1) (⟨#[97, 98, 99]⟩ : ByteArray).size) (st (-1) (-1) (⟨#[97, 98, 99]⟩ : ByteArray).size)).data.toList : Nat) : Int) = 4 by decide +kernel] at h
  exact h
def kn (k : Nat) : Int := match k with | 1 => 1 | 2 => 1 | 7 => 1 | _ => 0
theorem kbit (k : Nat) (hk : k < 9) (w : World) : Calls Try.prog 7 #[.string ⟨#[97]⟩, .int .i64 k] w fun e w' => e = .returned (.tuple #[.int .i64 (kn k), .int .i64 0]) ∧ w' = w := by
  have hks : k = 0 ∨ k = 1 ∨ k = 2 ∨ k = 3 ∨ k = 4 ∨ k = 5 ∨ k = 6 ∨ k = 7 ∨ k = 8 := by omega
  rcases hks with rfl | rfl | rfl | rfl | rfl | rfl | rfl | rfl | rfl
  · exact kc12 w
  · exact kc13 w
  · exact kc14 w
  · exact kc15 w
  · exact kc16 w
  · exact kc17 w
  · exact kc18 w
  · exact kc19 w
  · exact kc20 w
set_option maxRecDepth 100000 in
set_option maxHeartbeats 4000000 in
theorem known_walk (w : World) : Calls Try.prog 3 #[] w fun e w' => e = .returned (.bool true) ∧ Below w.heap.size w w' := by
  go_enter Try.func3, Try.ntmps3
  go_wp2_with fail
  refine (wakes_any _).mono ?_
  rintro e w1 ⟨rfl, c1⟩
  have b1 := c1
  go_wp2_with fail
  refine (kc1 _).mono ?_
  rintro e w2 ⟨rfl, c2⟩
  have b2 := b1.trans (c2.mono b1.size)
  clear b1 c2
  go_wp2_with fail
  refine (kc2 _).mono ?_
  rintro e w3 ⟨rfl, c3⟩
  have b3 := b2.trans (c3.mono b2.size)
  clear b2 c3
  go_wp2_with fail
  refine (kc3 _).mono ?_
  rintro e w4 ⟨rfl, c4⟩
  have b4 := b3.trans (c4.mono b3.size)
  clear b3 c4
  go_wp2_with fail
  refine (kc4 _).mono ?_
  rintro e w5 ⟨rfl, c5⟩
  have b5 := b4.trans (c5.mono b4.size)
  clear b4 c5
  go_wp2_with fail
  refine (kc5 _).mono ?_
  rintro e w6 ⟨rfl, c6⟩
  have b6 := b5.trans (c6.mono b5.size)
  clear b5 c6
  go_wp2_with fail
  refine (kc6 _).mono ?_
  rintro e w7 ⟨rfl, c7⟩
  have b7 := b6.trans (c7.mono b6.size)
  clear b6 c7
  go_wp2_with fail
  refine (kc7 _).mono ?_
  rintro e w8 ⟨rfl, c8⟩
  have b8 := b7.trans (c8.mono b7.size)
  clear b7 c8
  go_wp2_with fail
  refine (kc8 _).mono ?_
  rintro e w9 ⟨rfl, c9⟩
  have b9 := b8.trans (c9.mono b8.size)
  clear b8 c9
  go_wp2_with fail
  refine (kc9 _).mono ?_
  rintro e w10 ⟨rfl, c10⟩
  have b10 := b9.trans (c10.mono b9.size)
  clear b9 c10
  go_wp2_with fail
  obtain ⟨D, hD, hcD⟩ := kc10 w10
  have hD2 : ((D.size : Int) != 1048576) = false := by rw [hD]; rfl
  clear hD
  refine hcD.mono ?_
  rintro e w11 ⟨rfl, c11⟩
  have b11 := b10.trans (c11.mono b10.size)
  clear b10 c11
  clear hcD
  go_wp2_with fail
  refine (kc11 _).mono ?_
  rintro e w12 ⟨rfl, c12⟩
  have b12 := b11.trans (c12.mono b11.size)
  clear b11 c12
  have KB := keep b12
  clear b12
  go_wp2
  have hcc : ∀ j : Nat, j < 9 → (w12.alloc (.cells #[.int .i64 0, .int .i64 1, .int .i64 1, .int .i64 0, .int .i64 0, .int .i64 0, .int .i64 0, .int .i64 1, .int .i64 0] 3)).cell? ⟨w12.heap.size, j, none⟩ = some (.int .i64 (kn j)) := by
    intro j hj
    rw [cell_of_row _ _ _ _ _ _ (heap_alloc_new _ _)]
    have hks : j = 0 ∨ j = 1 ∨ j = 2 ∨ j = 3 ∨ j = 4 ∨ j = 5 ∨ j = 6 ∨ j = 7 ∨ j = 8 := by omega
    rcases hks with rfl | rfl | rfl | rfl | rfl | rfl | rfl | rfl | rfl <;> rfl
  have KB2 := keep (KB.out.alloc KB.out.size (.cells #[.int .i64 0, .int .i64 1, .int .i64 1, .int .i64 0, .int .i64 0, .int .i64 0, .int .i64 0, .int .i64 1, .int .i64 0] 3))
  have HC := keep hcc
  clear hcc
  generalize w12.alloc (.cells #[.int .i64 0, .int .i64 1, .int .i64 1, .int .i64 0, .int .i64 0, .int .i64 0, .int .i64 0, .int .i64 1, .int .i64 0] 3) = wa at *
  generalize w12.heap.size = bz at *
  go_loopw [115] (fun i wr => ∃ (j : Nat), j ≤ 9 ∧ i = .int .i64 j ∧ wr = wa) (fun i _ => 9 - (intOf i).toNat)
  case atStart => exact ⟨0, by omega, rfl, rfl⟩
  case round =>
    obtain ⟨j, hj, rfl, hw⟩ := hrel
    obtain rfl := hw.symm
    by_cases hlt : j < 9
    · have hz : (j : Int) < 9 := by omega
      have hz0 : (0 : Int) ≤ (j : Int) := by omega
      have cj := HC.out j hlt
      have KJ := keep (kbit j hlt)
      generalize kn j = y at *
      have ey : (y != y) = false := by simp
      go_wp2_with fail
      refine (KJ.out _).mono ?_
      rintro e w' ⟨rfl, rfl⟩
      go_wp2
      go_roundw
      case measure => simp [intOf]; omega
      case rel => exact ⟨j + 1, by omega, by go_num, trivial⟩
    · have hz : decide ((j : Int) < 9) = false := decide_eq_false (by omega)
      clear hlt hj
      go_wp2_with fail
      refine (kc21 _).mono ?_
      rintro e w1 ⟨rfl, hw1⟩
      obtain rfl := hw1.symm
      go_wp2_with fail
      refine (kc22 _).mono ?_
      rintro e w1 ⟨rfl, hw1⟩
      obtain rfl := hw1.symm
      go_wp2_with fail
      have b100 := KB2.out
      refine (kc23 _).mono ?_
      rintro e w101 ⟨rfl, c101⟩
      have b101 := b100.trans (c101.mono b100.size)
      clear b100 c101
      go_wp2_with fail
      refine (kc24 _).mono ?_
      rintro e w102 ⟨rfl, c102⟩
      have b102 := b101.trans (c102.mono b101.size)
      clear b101 c102
      go_wp2_with fail
      refine (kc25 _).mono ?_
      rintro e w103 ⟨rfl, c103⟩
      have b103 := b102.trans (c103.mono b102.size)
      clear b102 c103
      go_wp2_with fail
      refine (kc26 _).mono ?_
      rintro e w104 ⟨rfl, c104⟩
      have b104 := b103.trans (c104.mono b103.size)
      clear b103 c104
      go_wp2_with fail
      refine (kc27 _).mono ?_
      rintro e w105 ⟨rfl, c105⟩
      have b105 := b104.trans (c105.mono b104.size)
      clear b104 c105
      have B9 := keep b105
      clear b105
      go_wp2
      go_ret
      exact ⟨rfl, B9.out⟩
end Go.Proofs.Ytlkplmlhlgnnkab
