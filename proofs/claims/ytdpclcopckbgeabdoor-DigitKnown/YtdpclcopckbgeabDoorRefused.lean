/-
  Contracts over this program: refused answers true.
-/
import Derived.Test.YtdpclcopckbgeabDoorAdds
namespace Go.Proofs.YtdpclcopckbgeabDoor
open Go.RowKit
theorem int_const {s : ByteArray} {a b : Int} (hs : s.size ≤ maxLen) (h1 : Pl.iv s.data.toList = a) (h2 : Pl.ic s.data.toList = b) (w : World) :
    Calls Tryd.prog 8 #[.string s] w fun e w' => e = .returned (.tuple #[.int .i64 a, .int .i64 b]) ∧ w' = w := by
  have h := int_any s w hs
  rw [h1, h2] at h
  exact h
theorem uint_const {s : ByteArray} {a b : Int} (hs : s.size ≤ maxLen) (h1 : Pl.uv s.data.toList = a) (h2 : Pl.uc s.data.toList = b) (w : World) :
    Calls Tryd.prog 9 #[.string s] w fun e w' => e = .returned (.tuple #[.int .u64 a, .int .i64 b]) ∧ w' = w := by
  have h := uint_any s w hs
  rw [h1, h2] at h
  exact h
theorem int_ref (v : Value) (h : v ∈ [Value.string ⟨#[]⟩, Value.string ⟨#[45]⟩, Value.string ⟨#[43, 49]⟩, Value.string ⟨#[48, 49]⟩, Value.string ⟨#[45, 48]⟩, Value.string ⟨#[48, 48]⟩, Value.string ⟨#[49, 46, 48]⟩, Value.string ⟨#[32, 49]⟩, Value.string ⟨#[57, 50, 50, 51, 51, 55, 50, 48, 51, 54, 56, 53, 52, 55, 55, 53, 56, 48, 56]⟩, Value.string ⟨#[45, 57, 50, 50, 51, 51, 55, 50, 48, 51, 54, 56, 53, 52, 55, 55, 53, 56, 48, 57]⟩, Value.string ⟨#[49, 50, 51, 52, 53, 54, 55, 56, 57, 48, 49, 50, 51, 52, 53, 54, 55, 56, 57, 48]⟩]) (w : World) :
    Calls Tryd.prog 8 #[v] w fun e w' => e = .returned (.tuple #[.int .i64 0, .int .i64 10]) ∧ w' = w := by
  simp only [List.mem_cons, List.not_mem_nil, or_false] at h
  rcases h with rfl | rfl | rfl | rfl | rfl | rfl | rfl | rfl | rfl | rfl | rfl
  all_goals exact int_const (by decide +kernel) (by decide +kernel) (by decide +kernel) w
theorem uint_ref (v : Value) (h : v ∈ [Value.string ⟨#[]⟩, Value.string ⟨#[49, 56, 52, 52, 54, 55, 52, 52, 48, 55, 51, 55, 48, 57, 53, 53, 49, 54, 49, 54]⟩, Value.string ⟨#[45, 49]⟩, Value.string ⟨#[48, 48, 55]⟩, Value.string ⟨#[49, 56, 52, 52, 54, 55, 52, 52, 48, 55, 51, 55, 48, 57, 53, 53, 49, 54, 49, 53, 48]⟩]) (w : World) :
    Calls Tryd.prog 9 #[v] w fun e w' => e = .returned (.tuple #[.int .u64 0, .int .i64 10]) ∧ w' = w := by
  simp only [List.mem_cons, List.not_mem_nil, or_false] at h
  rcases h with rfl | rfl | rfl | rfl | rfl
  all_goals exact uint_const (by decide +kernel) (by decide +kernel) (by decide +kernel) w
set_option maxHeartbeats 400000 in
theorem refused_any (w : World) :
    Calls Tryd.prog 7 #[] w fun e w' => e = .returned (.bool true) ∧ Below w.heap.size w w' := by
  go_enter Tryd.func7, Tryd.ntmps7
  go_wp2
  go_loop [11] (fun i => ∃ k : Nat, k ≤ 11 ∧ i = .int .i64 k) (fun i => 11 - (intOf i).toNat)
  case atStart => exact ⟨0, by omega, rfl⟩
  case round =>
    obtain ⟨k, hk, rfl⟩ := hrel
    by_cases hlt : k < 11
    · go_wp2_with fail
      refine (int_ref _ (List.getElem_mem _) _).mono ?_
      rintro e w' ⟨rfl, rfl⟩
      go_wp2
      go_round
      case rel => exact ⟨k + 1, by omega, by go_num⟩
      case measure => simp [intOf]; omega
    · go_wp2
      go_loop [29] (fun i => ∃ j : Nat, j ≤ 5 ∧ i = .int .i64 j) (fun i => 5 - (intOf i).toNat)
      case atStart => exact ⟨0, by omega, rfl⟩
      case round =>
        obtain ⟨j, hj, rfl⟩ := hrel
        by_cases hjt : j < 5
        · go_wp2_with fail
          refine (uint_ref _ (List.getElem_mem _) _).mono ?_
          rintro e w' ⟨rfl, rfl⟩
          go_wp2
          go_round
          case rel => exact ⟨j + 1, by omega, by go_num⟩
          case measure => simp [intOf]; omega
        · go_wp2
          go_ret
          exact ⟨rfl, ((Below.refl _ _).alloc (Nat.le_refl _) _).alloc (by simp) _⟩
end Go.Proofs.YtdpclcopckbgeabDoor
