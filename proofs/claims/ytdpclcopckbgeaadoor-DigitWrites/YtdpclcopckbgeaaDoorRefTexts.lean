/-
  Contracts over this program: what the document's own Text answers at any number.
-/
import Derived.Test.YtdpclcopckbgeaaDoorBacks
namespace Go.Proofs.YtdpclcopckbgeaaDoor
open Go.RowKit
def dg (r : Nat) : ByteArray := ⟨#[UInt8.ofNat (48 + r)]⟩
theorem slice_dig : ∀ (r : Nat) (_h : r < 10) (wx : World), (Instr.slice 9 (.string ⟨#[48, 49, 50, 51, 52, 53, 54, 55, 56, 57]⟩) (some (.int .i64 (r : Int))) (some (.int .i64 ((r : Int) + 1))) none).run Tryd.prog wx = .ok (.string (dg r)) wx
  | 0, _, _ => by kernel_rfl
  | 1, _, _ => by kernel_rfl
  | 2, _, _ => by kernel_rfl
  | 3, _, _ => by kernel_rfl
  | 4, _, _ => by kernel_rfl
  | 5, _, _ => by kernel_rfl
  | 6, _, _ => by kernel_rfl
  | 7, _, _ => by kernel_rfl
  | 8, _, _ => by kernel_rfl
  | 9, _, _ => by kernel_rfl
  | r + 10, h, _ => absurd h (by omega)
theorem slice_u (u : Nat) (wx : World) : (Instr.slice 9 (.string ⟨#[48, 49, 50, 51, 52, 53, 54, 55, 56, 57]⟩) (some (.int .i64 ((u : Int) % 10))) (some (.int .i64 ((u : Int) % 10 + 1))) none).run Tryd.prog wx = .ok (.string (dg (u % 10))) wx := by
  have e : (u : Int) % 10 = ((u % 10 : Nat) : Int) := by omega
  rw [e]
  exact slice_dig (u % 10) (by omega) wx
theorem slice_n (u : Nat) (h : ¬ 0 < (u : Int) % 10) (wx : World) : (Instr.slice 9 (.string ⟨#[48, 49, 50, 51, 52, 53, 54, 55, 56, 57]⟩) (some (.int .i64 (-((u : Int) % 10)))) (some (.int .i64 (-((u : Int) % 10) + 1))) none).run Tryd.prog wx = .ok (.string (dg (u % 10))) wx := by
  have e : -((u : Int) % 10) = ((u % 10 : Nat) : Int) := by omega
  rw [e]
  exact slice_dig (u % 10) (by omega) wx
theorem dg_size (r : Nat) : (dg r).size = 1 := rfl
theorem app_data (a b : ByteArray) : (a ++ b).data.toList = a.data.toList ++ b.data.toList := by
  rw [ByteArray.data_append, Array.toList_append]
theorem app_size (a b : ByteArray) : (a ++ b).size = a.data.toList.length + b.data.toList.length := by
  rw [← Pl.len, app_data, List.length_append]
theorem text_on {n u : Nat} {t : ByteArray} (hz : ¬ u < 10) (hn : n < 18446744073709551616) (h : Lib.decDigits u ++ t.data.toList = Lib.decDigits n) : Lib.decDigits (u / 10) ++ (dg (u % 10) ++ t).data.toList = Lib.decDigits n ∧ (dg (u % 10) ++ t).size ≤ 20 := by
  have hl := Pl.dd_len 19 n (Nat.lt_of_lt_of_le hn (by decide +kernel))
  have e : Lib.decDigits (u / 10) ++ (dg (u % 10) ++ t).data.toList = Lib.decDigits n := by
    rw [← h, Pl.dd_big hz, app_data, List.append_assoc]; rfl
  refine ⟨e, ?_⟩
  rw [← e, List.length_append, Pl.len] at hl
  omega
theorem text_off {n u : Nat} {t : ByteArray} (hz : u < 10) (hn : n < 18446744073709551616) (h : Lib.decDigits u ++ t.data.toList = Lib.decDigits n) : (dg (u % 10) ++ t).data.toList = Lib.decDigits n ∧ (dg (u % 10) ++ t).size ≤ 20 := by
  have hl := Pl.dd_len 19 n (Nat.lt_of_lt_of_le hn (by decide +kernel))
  have e : (dg (u % 10) ++ t).data.toList = Lib.decDigits n := by
    rw [← h, Pl.dd_small hz, app_data, Nat.mod_eq_of_lt hz]; rfl
  refine ⟨e, ?_⟩
  rw [← e, Pl.len] at hl
  exact hl
set_option maxHeartbeats 400000 in
theorem rtext_pos (n : Nat) (w : World) (h2 : n ≤ 9223372036854775807) :
    Calls Tryd.prog 7 #[.int .i64 n] w fun e w' => (∃ t : ByteArray, e = .returned (.string t) ∧ t.data.toList = Lib.decDigits n) ∧ w' = w := by
  go_enter Tryd.func7, Tryd.ntmps7
  go_wp2
  go_loop [3, 4] (fun s m => ∃ (u : Nat) (t : ByteArray), u ≤ n ∧ m = .int .i64 u ∧ s = .string t ∧ Lib.decDigits u ++ t.data.toList = Lib.decDigits n ∧ t.size ≤ 20) (fun _ m => (intOf m).toNat)
  case atStart => exact ⟨n, ByteArray.empty, Nat.le_refl _, rfl, rfl, by simp, by decide⟩
  case round =>
    obtain ⟨u, t, hu, rfl, rfl, hx, ht⟩ := hrel
    have HX := keep hx
    clear hx
    have hds := dg_size (u % 10)
    have hsl := slice_u u
    by_cases hz : u < 10
    · have hq : ((u : Int) / 10 == 0) = true := beq_iff_eq.2 (by omega)
      have st := keep (text_off hz (show n < 18446744073709551616 by omega) HX.out)
      go_wp2
      go_ret
      exact ⟨⟨_, rfl, st.out.1⟩, rfl⟩
    · have hq : ((u : Int) / 10 == 0) = false := beq_eq_false_iff_ne.2 (by omega)
      have st := keep (text_on hz (show n < 18446744073709551616 by omega) HX.out)
      go_wp2
      go_round
      case rel => exact ⟨u / 10, _, by omega, by go_num, rfl, st.out.1, st.out.2⟩
      case measure => simp [intOf]; omega
set_option maxHeartbeats 400000 in
theorem rtext_neg (n : Nat) (w : World) (h2 : n ≤ 9223372036854775808) (h1 : 0 < n) :
    Calls Tryd.prog 7 #[.int .i64 (-(n : Int))] w fun e w' => (∃ t : ByteArray, e = .returned (.string t) ∧ t.data.toList = 45 :: Lib.decDigits n) ∧ w' = w := by
  go_enter Tryd.func7, Tryd.ntmps7
  go_wp2
  go_loop [3, 4] (fun s m => ∃ (u : Nat) (t : ByteArray), u ≤ n ∧ m = .int .i64 (-(u : Int)) ∧ s = .string t ∧ Lib.decDigits u ++ t.data.toList = Lib.decDigits n ∧ t.size ≤ 20) (fun _ m => (-(intOf m)).toNat)
  case atStart => exact ⟨n, ByteArray.empty, Nat.le_refl _, rfl, rfl, by simp, by decide⟩
  case round =>
    obtain ⟨u, t, hu, rfl, rfl, hx, ht⟩ := hrel
    have HX := keep hx
    clear hx
    have hds := dg_size (u % 10)
    by_cases hz : u < 10
    · have hq : (-((u : Int) / 10) == 0) = true := beq_iff_eq.2 (by omega)
      have st := keep (text_off hz (show n < 18446744073709551616 by omega) HX.out)
      by_cases hr : 0 < (u : Int) % 10
      · have hsl := slice_u u
        go_wp2
        go_ret
        exact ⟨⟨_, rfl, by rw [app_data, st.out.1]; rfl⟩, rfl⟩
      · have hsl := slice_n u hr
        go_wp2
        go_ret
        exact ⟨⟨_, rfl, by rw [app_data, st.out.1]; rfl⟩, rfl⟩
    · have hq : (-((u : Int) / 10) == 0) = false := beq_eq_false_iff_ne.2 (by omega)
      have st := keep (text_on hz (show n < 18446744073709551616 by omega) HX.out)
      by_cases hr : 0 < (u : Int) % 10
      · have hsl := slice_u u
        go_wp2
        go_round
        case rel => exact ⟨u / 10, _, by omega, by go_num, rfl, st.out.1, st.out.2⟩
        case measure => simp [intOf]; omega
      · have hsl := slice_n u hr
        go_wp2
        go_round
        case rel => exact ⟨u / 10, _, by omega, by go_num, rfl, st.out.1, st.out.2⟩
        case measure => simp [intOf]; omega
theorem rtext_any (n : Int) (w : World) (h1 : -9223372036854775808 ≤ n) (h2 : n ≤ 9223372036854775807) :
    Calls Tryd.prog 7 #[.int .i64 n] w fun e w' => (∃ t : ByteArray, e = .returned (.string t) ∧ t.data.toList = Lib.itoa n) ∧ w' = w := by
  by_cases h : n < 0
  · rw [Pl.itoa_neg h]
    obtain ⟨k, rfl⟩ : ∃ k : Nat, n = -(k : Int) := ⟨n.natAbs, by omega⟩
    rw [show (-(k : Int)).natAbs = k by omega]
    exact rtext_neg k w (by omega) (by omega)
  · rw [Pl.itoa_pos h]
    obtain ⟨k, rfl⟩ : ∃ k : Nat, n = (k : Int) := ⟨n.toNat, by omega⟩
    rw [Int.toNat_natCast]
    exact rtext_pos k w (by omega)
end Go.Proofs.YtdpclcopckbgeaaDoor
