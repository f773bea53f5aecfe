/-
  Contracts over this program: wakes answers true; what Add answers.
-/
import Derived.Test.YtdpclcopckbgeabDoorTexts
namespace Go.Proofs.YtdpclcopckbgeabDoor
open Go.RowKit
theorem dd_small {u : Nat} (h : u < 10) : Lib.decDigits u = [UInt8.ofNat (48 + u)] := by rw [Lib.decDigits, dif_pos h]
theorem dd_big {u : Nat} (h : ¬ u < 10) : Lib.decDigits u = Lib.decDigits (u / 10) ++ [UInt8.ofNat (48 + u % 10)] := by rw [Lib.decDigits, dif_neg h]
theorem itoa_305 : Lib.itoa (-305) = [45, 51, 48, 53] := by
  unfold Lib.itoa
  rw [if_pos (by decide), show (-305 : Int).natAbs = 305 from rfl, dd_big (by decide), dd_big (by decide), dd_small (by decide)]
  rfl
theorem text_305 (w : World) (ht : Tab w) :
    Calls Tryd.prog 10 #[.int .i64 (-305)] w fun e w' => e = .returned (.string ⟨#[45, 51, 48, 53]⟩) ∧ Below w.heap.size w w' := by
  have h := text_any (-305) w (by omega) (by omega) ht
  rw [itoa_305] at h
  exact h
theorem int_12 (w : World) :
    Calls Tryd.prog 8 #[.string ⟨#[45, 49, 50]⟩] w fun e w' => e = .returned (.tuple #[.int .i64 (-12), .int .i64 0]) ∧ w' = w := by
  have h := int_any ⟨#[45, 49, 50]⟩ w (by decide)
  rw [show Pl.iv (⟨#[45, 49, 50]⟩ : ByteArray).data.toList = -12 by decide +kernel, show Pl.ic (⟨#[45, 49, 50]⟩ : ByteArray).data.toList = 0 by decide +kernel] at h
  exact h
theorem uint_7 (w : World) :
    Calls Tryd.prog 9 #[.string ⟨#[55]⟩] w fun e w' => e = .returned (.tuple #[.int .u64 7, .int .i64 0]) ∧ w' = w := by
  have h := uint_any ⟨#[55]⟩ w (by decide)
  rw [show Pl.uv (⟨#[55]⟩ : ByteArray).data.toList = 7 by decide +kernel, show Pl.uc (⟨#[55]⟩ : ByteArray).data.toList = 0 by decide +kernel] at h
  exact h
theorem span_14 (w : World) :
    Calls Tryd.prog 11 #[.int .i64 1, .int .i64 (-2), .int .i64 5] w fun e w' => e = .returned (.tuple #[.int .i64 1, .int .i64 4]) ∧ w' = w :=
  span_any 1 (-2) 5 w (by omega) (by omega) (by omega) (by omega) (by omega)
theorem place_2 (w : World) :
    Calls Tryd.prog 12 #[.int .i64 (-1), .int .i64 3] w fun e w' => e = .returned (.tuple #[.int .i64 2, .bool true]) ∧ w' = w :=
  place_any (-1) 3 w (by omega) (by omega) (by omega)
set_option maxHeartbeats 400000 in
theorem wakes_any (w : World) (ht : Tab w) :
    Calls Tryd.prog 5 #[] w fun e w' => e = .returned (.bool true) ∧ Below w.heap.size w w' := by
  have HT := keep ht
  clear ht
  go_enter Tryd.func5, Tryd.ntmps5
  go_wp2_with fail
  refine (int_12 _).mono ?_
  rintro e w' ⟨rfl, rfl⟩
  go_wp2_with fail
  refine (uint_7 _).mono ?_
  rintro e w' ⟨rfl, rfl⟩
  go_wp2_with fail
  refine (span_14 _).mono ?_
  rintro e w' ⟨rfl, rfl⟩
  go_wp2_with fail
  refine (place_2 _).mono ?_
  rintro e w' ⟨rfl, rfl⟩
  go_wp2_with fail
  refine (text_305 _ HT.out).mono ?_
  rintro e w' ⟨rfl, hb⟩
  go_wp2
  go_ret
  exact ⟨rfl, hb⟩
end Go.Proofs.YtdpclcopckbgeabDoor
