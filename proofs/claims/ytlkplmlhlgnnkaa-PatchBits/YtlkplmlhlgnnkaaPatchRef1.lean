/-
  Contracts over this program: the document's own Slice and Ones at any input.
-/
import Derived.Test.YtlkplmlhlgnnkaaPatchRef0
namespace Go.Proofs.Ytlkplmlhlgnnkaa
open Go.RowKit
set_option linter.unusedVariables false
theorem ret_s {a b : ByteArray} (h : a = b) : Ending.returned (.string a) = .returned (.string b) := by rw [h]
theorem drop_take_more (l : List UInt8) (f j : Nat) (h : f + j < l.length) : (l.drop f).take (j + 1) = (l.drop f).take j ++ [l.getD (f + j) 0] := by
  rw [List.take_add_one, List.getElem?_drop, List.getD_eq_getElem?_getD, List.getElem?_eq_getElem h]; rfl
set_option maxRecDepth 100000 in
set_option maxHeartbeats 2000000 in
theorem rslice_any (s : ByteArray) (a b : Int) (w : World) (h1 : -9223372036854775808 ≤ a) (h2 : a ≤ 9223372036854775807) (h3 : -9223372036854775808 ≤ b) (h4 : b ≤ 9223372036854775807) (hs : s.size ≤ reachBytes) :
    Calls Try.prog 9 #[.string s, .int .i64 a, .int .i64 b] w fun e w' => e = .returned (.string (s.extract (sf a b s.size) (st a b s.size))) ∧ Below w.heap.size w w' := by
  have hsp := fun w => rspan_any a b (s.size : Int) w h1 h2 h3 h4 (by unfold reachBytes at hs; omega)
  obtain ⟨e1, e2, e3, e4⟩ := sf_st a b s.size
  rw [e1, e2] at hsp
  generalize sf a b s.size = f at *
  generalize st a b s.size = t at *
  clear e1 e2 h1 h2 h3 h4
  obtain ⟨n, hn⟩ : ∃ n, n = t - f := ⟨_, rfl⟩
  have hn1 : (t : Int) - (f : Int) = (n : Int) := by omega
  obtain ⟨w1, m1, m2, m3⟩ := make_bytes w n (by omega)
  have K0 := keep m2
  have B0 := keep m3
  clear m2 m3
  have HN := keep hn
  unfold reachBytes at hs
  have HS := keep hs
  have hft : f + n = t := by omega
  have er : ByteArray.mk ((s.data.toList.drop f).take n).toArray = s.extract f t := by_list (by rw [ext_mid, ← hft, Nat.add_sub_cancel_left])
  rw [← er]
  clear hn er
  have hsp2 := keep hsp
  clear hsp
  go_enter Try.func9, Try.ntmps9
  go_wp2_with fail
  refine (hsp2.out _).mono ?_
  rintro e w' ⟨rfl, rfl⟩
  go_wp2
  go_loopw [9, 10] (fun u i wr => ∃ (j : Nat), j ≤ n ∧ i = .int .i64 ((f : Int) + (j : Int)) ∧ Kept (Kb w'.heap.size wr u ((s.data.toList.drop f).take j)) ∧ Kept (Below w'.heap.size w' wr)) (fun _ i _ => t - (intOf i).toNat)
  case atStart => exact ⟨0, Nat.zero_le _, by simp, K0, B0⟩
  case round =>
    obtain ⟨j, hj, rfl, KK, KB⟩ := hrel
    obtain ⟨ua, uc, hu⟩ := KK.out.len
    by_cases hlt : j < n
    · have hz : (f : Int) + (j : Int) < (t : Int) := by omega
      obtain ⟨q, hq⟩ : ∃ q, q = f + j := ⟨_, rfl⟩
      have hq1 : (f : Int) + (j : Int) = (q : Int) := by omega
      have hq2 : q < s.size := by omega
      have hq3 : (q : Int) < (s.size : Int) := by omega
      have hq4 : (0 : Int) ≤ (q : Int) := by omega
      have hqt : (q : Int) < (t : Int) := by omega
      have hll : ((s.data.toList.drop f).take j).length + 1 ≤ 140737488351232 := by rw [List.length_take, List.length_drop, len_is]; have := HS.out; omega
      have nx : (s.data.toList.drop f).take (j + 1) = (s.data.toList.drop f).take j ++ [s[q]] := by
        rw [drop_take_more _ _ _ (by rw [len_is]; omega), getD_at s q hq2, hq]
      obtain ⟨v', w2, r1, r2, r3⟩ := app_byte w'.heap.size wr _ _ s[q] KK.out KB.out.size hll
      rw [← nx] at r2
      have R1 := keep r1
      have R2 := keep r2
      have R3 := keep (KB.out.trans r3)
      have HQ := keep hq
      subst hu
      rw [hq1]
      clear r1 r2 r3 nx hll hq KK
      go_wp2_with (first | (at_builtin; refine wpList_app_run rfl _ _ _ _ rfl _ _ _ rfl rfl R1.out ?_))
      go_roundw
      case measure => simp [intOf]; omega
      case rel => exact ⟨j + 1, by omega, by go_num, R2, R3⟩
    · obtain rfl : j = n := by omega
      have hz : ¬ (f : Int) + (j : Int) < (t : Int) := by omega
      subst hu
      have bk := KK.out.back
      obtain ⟨X, hX⟩ : ∃ X, X = ByteArray.mk ((s.data.toList.drop f).take j).toArray := ⟨_, rfl⟩
      rw [← hX] at bk
      have HX := keep hX
      clear hX
      generalize ((s.data.toList.drop f).take j).length = LL at *
      go_wp2
      go_ret
      exact ⟨ret_s HX.out, KB.out⟩
set_option maxRecDepth 100000 in
set_option maxHeartbeats 1000000 in
theorem rones_any (s : ByteArray) (a b : Int) (w : World) (h1 : -9223372036854775808 ≤ a) (h2 : a ≤ 9223372036854775807) (h3 : -9223372036854775808 ≤ b) (h4 : b ≤ 9223372036854775807) (hs : s.size ≤ reachBytes) :
    Calls Try.prog 10 #[.string s, .int .i64 a, .int .i64 b] w fun e w' => e = .returned (.int .i64 (Pt.ones (s.extract (sf a b s.size) (st a b s.size)).data.toList : Nat)) ∧ Below w.heap.size w w' := by
  have hst := keep fun w => rslice_any s a b w h1 h2 h3 h4 hs
  obtain ⟨x, hx⟩ : ∃ x, x = s.extract (sf a b s.size) (st a b s.size) := ⟨_, rfl⟩
  have hxs : x.size ≤ s.size := by rw [hx, ByteArray.size_extract]; omega
  rw [← hx] at hst ⊢
  clear hx
  have BN := keep fun (j : Nat) (hj : j ≤ 9223372036854775807) w => rbit_any x j w (Nat.le_trans hxs hs) hj
  have SL := keep (Pt.sum_le x.data.toList)
  have BL := keep (Pt.bt_le x.data.toList)
  have SM := Pt.ones_bits x.data.toList
  rw [len_is] at SM
  rw [← SM]
  unfold reachBytes at hs
  generalize Pt.bt x.data.toList = bt at *
  obtain ⟨T, hT⟩ : ∃ T, T = 8 * x.size := ⟨_, rfl⟩
  have hT1 : (8 : Int) * (x.size : Int) = (T : Int) := by omega
  have hT2 : T ≤ 1125899906809856 := by omega
  have hT4 : (x.size : Int) ≤ 140737488351232 := by omega
  have HT2 := keep hT2
  rw [← hT]
  clear hT hxs hs SM hT2 h1 h2 h3 h4
  go_enter Try.func10, Try.ntmps10
  go_wp2_with fail
  refine (hst.out _).mono ?_
  rintro e w1 ⟨rfl, b1⟩
  have B1 := keep b1
  clear b1
  go_wp2
  go_loopw [8, 17] (fun u i wr => ∃ (j : Nat), j ≤ T ∧ i = .int .i64 j ∧ u = .int .i64 (Pt.sumTo bt j : Nat) ∧ wr = w1) (fun _ i _ => T - (intOf i).toNat)
  case atStart => exact ⟨0, Nat.zero_le _, rfl, rfl, rfl⟩
  case round =>
    obtain ⟨j, hj, rfl, rfl, hw⟩ := hrel
    obtain rfl := hw.symm
    by_cases hlt : j < T
    · have hz : (j : Int) < (T : Int) := by omega
      have sl := SL.out j
      have bl := BL.out j
      have tb := HT2.out
      have BJ := keep (BN.out j (by omega))
      obtain ⟨y, hy⟩ : ∃ y, y = Pt.sumTo bt (j + 1) := ⟨_, rfl⟩
      have hy2 : Pt.sumTo bt (j + 1) = Pt.sumTo bt j + bt j := rfl
      generalize Pt.sumTo bt j = sj at *
      generalize bt j = bj at *
      have HY := keep (hy.trans hy2)
      have HY1 := keep hy
      have sb : (sj : Int) ≤ 1125899906809856 := by omega
      have jb : (j : Int) ≤ 1125899906809856 := by omega
      clear hy hy2 tb sl
      go_wp2_with fail
      refine (BJ.out _).mono ?_
      rintro e w' ⟨rfl, rfl⟩
      go_wp2
      go_roundw
      case measure => simp [intOf]; omega
      case rel => exact ⟨j + 1, by omega, by go_num, by rw [← HY1.out, HY.out]; go_num, trivial⟩
    · obtain rfl : j = T := by omega
      have hz : ¬ (j : Int) < (j : Int) := by omega
      go_wp2
      go_ret
      exact ⟨rfl, B1.out⟩
end Go.Proofs.Ytlkplmlhlgnnkaa
