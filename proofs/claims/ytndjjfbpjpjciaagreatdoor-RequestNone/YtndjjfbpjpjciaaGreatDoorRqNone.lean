/-
  The walk of RequestNone: a nil parser; the errors are six.
-/
import Derived.Test.YtndjjfbpjpjciaaGreatDoorRqErrs
import Derived.OpenShut
import Derived.Lib.SlBytesConst
import Derived.Below
namespace Go.Proofs.YtndjjfbpjpjciaaGreatDoor
open Go.RowKit
set_option linter.unusedVariables false
theorem next_nil (w : World) : Calls Tryz.prog 12 #[.pointer none] w fun e w' => e = .returned (.tuple #[.slice none 0 0, .bool false]) ∧ w' = w := by
  go_enter Tryz.func12, Tryz.ntmps12
  go_wp2
  go_ret2
  exact ⟨rfl, rfl⟩
theorem err_nil (w : World) : Calls Tryz.prog 14 #[.pointer none] w fun e w' => e = .returned .nilIface ∧ w' = w := by
  go_enter Tryz.func14, Tryz.ntmps14
  go_wp2
  go_ret
  exact ⟨rfl, rfl⟩
theorem held_nil (w : World) : Calls Tryz.prog 15 #[.pointer none] w fun e w' => e = .returned (.int .i64 0) ∧ w' = w := by
  go_enter Tryz.func15, Tryz.ntmps15
  go_wp2
  go_ret
  exact ⟨rfl, rfl⟩
theorem feed_nil (v : Value) (w : World) : Calls Tryz.prog 16 #[.pointer none, v] w fun e w' => e = .returned (.int .i64 1) ∧ w' = w := by
  go_enter Tryz.func16, Tryz.ntmps16
  go_wp2
  go_ret
  exact ⟨rfl, rfl⟩
set_option maxRecDepth 100000 in
set_option maxHeartbeats 4000000 in
theorem none_walk (w : World) (A : Nat → Addr) (hA : Six w A) :
    Calls Tryz.prog 4 #[] w fun e w' => e = .returned (.bool true) ∧ Below w.heap.size w w' := by
  obtain ⟨a0, h0⟩ : ∃ a, A 0 = a := ⟨_, rfl⟩
  obtain ⟨a1, h1⟩ : ∃ a, A 1 = a := ⟨_, rfl⟩
  obtain ⟨a2, h2⟩ : ∃ a, A 2 = a := ⟨_, rfl⟩
  obtain ⟨a3, h3⟩ : ∃ a, A 3 = a := ⟨_, rfl⟩
  obtain ⟨a4, h4⟩ : ∃ a, A 4 = a := ⟨_, rfl⟩
  obtain ⟨a5, h5⟩ : ∃ a, A 5 = a := ⟨_, rfl⟩
  obtain ⟨W1, hW1⟩ : ∃ x, x = w.alloc (.cells #[errV a0, errV a1, errV a2, errV a3, errV a4, errV a5] 39) := ⟨_, rfl⟩
  have b1 : Below w.heap.size w W1 := hW1 ▸ (Below.refl _ _).alloc (Nat.le_refl _) _
  have g1 : W1.heap[w.heap.size]? = some (.cells #[errV a0, errV a1, errV a2, errV a3, errV a4, errV a5] 39 (0, 0)) := hW1 ▸ heap_alloc_new _ _
  have c0 := h0 ▸ (hA 0 (by omega)).1
  have c1 := h1 ▸ (hA 1 (by omega)).1
  have c2 := h2 ▸ (hA 2 (by omega)).1
  have c3 := h3 ▸ (hA 3 (by omega)).1
  have c4 := h4 ▸ (hA 4 (by omega)).1
  have c5 := h5 ▸ (hA 5 (by omega)).1
  have RW := keep (show ∀ i, i < 6 → W1.cell? ⟨w.heap.size, i, none⟩ = some (errV (A i)) from fun i hi => by
    rw [cell_of_row _ _ _ _ _ _ g1]
    match i, hi with
    | 0, _ => rw [h0]; rfl
    | 1, _ => rw [h1]; rfl
    | 2, _ => rw [h2]; rfl
    | 3, _ => rw [h3]; rfl
    | 4, _ => rw [h4]; rfl
    | 5, _ => rw [h5]; rfl)
  have SE := keep (fun i j hi hj => same_err W1 A (hA.bel b1) i j hi hj)
  have B1 := keep b1
  have hq := hW1.symm
  have cv := fun w => Lib.run_convert_bytes_const (P := Tryz.prog) w 29 5 #[.int .u8 80, .int .u8 73, .int .u8 78, .int .u8 71, .int .u8 10] 5 5 Tryz.underlying29 Tryz.underlying5
  clear hA h0 h1 h2 h3 h4 h5 hW1 b1 g1
  go_enter Tryz.func4, Tryz.ntmps4
  go_wp2_with fail
  refine (next_nil _).mono ?_
  rintro e w' ⟨rfl, rfl⟩
  go_wp2
  go_loopw [23] (fun i wr => ∃ ii : Nat, i = .int .i64 (ii : Int) ∧ ii ≤ 6 ∧ wr = W1) (fun i _ => 6 - (intOf i).toNat)
  case atStart => exact ⟨0, rfl, by omega, rfl⟩
  case round =>
    obtain ⟨ii, rfl, hi, hwr⟩ := hrel
    obtain rfl := hwr.symm
    by_cases hlt : ii < 6
    · have z0 : (0 : Int) ≤ (ii : Int) := by omega
      have z1 : (ii : Int) < 6 := by omega
      have nw : IntKind.i64.wrap ((ii : Int) + 1) = ((ii + 1 : Nat) : Int) := by rw [IntKind.wrap_i64]; omega
      have ci := RW.out ii hlt
      have HLT := keep hlt
      go_wp2
      go_loopw [30] (fun k wr => ∃ kk : Nat, k = .int .i64 (kk : Int) ∧ kk ≤ 6 ∧ wr = W1) (fun k _ => 6 - (intOf k).toNat)
      case atStart => exact ⟨0, rfl, by omega, rfl⟩
      case round =>
        obtain ⟨kk, rfl, hk, hwr⟩ := hrel
        obtain rfl := hwr.symm
        by_cases hlk : kk < 6
        · have y0 : (0 : Int) ≤ (kk : Int) := by omega
          have y1 : (kk : Int) < 6 := by omega
          have mw : IntKind.i64.wrap ((kk : Int) + 1) = ((kk + 1 : Nat) : Int) := by rw [IntKind.wrap_i64]; omega
          have ck := RW.out kk hlk
          have HLK := keep hlk
          have S1 := keep (SE.out ii kk hlt hlk)
          have de : ((ii : Int) == (kk : Int)) = decide (ii = kk) := by
            by_cases e : ii = kk
            · subst e; simp
            · have : ¬ (ii : Int) = (kk : Int) := by omega
              simp [e, this]
          clear hlt hlk
          go_wp2_with fail
          refine S1.out.mono ?_
          rintro e w'' ⟨rfl, hw⟩
          obtain rfl := hw
          go_wp2
          go_roundw
          case measure => have := HLK.out; simp [intOf]; omega
          case rel => exact ⟨kk + 1, by rfl, HLK.out, by first | rfl | trivial⟩
        · have y1 : ¬ (kk : Int) < 6 := by omega
          go_wp2
          go_roundw
          case measure => have := HLT.out; simp [intOf]; omega
          case rel => exact ⟨ii + 1, by rfl, HLT.out, by first | rfl | trivial⟩
    · have z1 : ¬ (ii : Int) < 6 := by omega
      go_wp2_with fail
      refine (err_nil _).mono ?_
      rintro e w2 ⟨rfl, rfl⟩
      go_wp2_with fail
      refine (held_nil _).mono ?_
      rintro e w3 ⟨rfl, rfl⟩
      go_wp2_with fail
      refine (feed_nil _ _).mono ?_
      rintro e w4 ⟨rfl, rfl⟩
      go_wp2_with fail
      refine (feed_nil _ _).mono ?_
      rintro e w5 ⟨rfl, rfl⟩
      go_wp2
      go_ret
      exact ⟨rfl, B1.out.alloc B1.out.size _⟩
end Go.Proofs.YtndjjfbpjpjciaaGreatDoor
