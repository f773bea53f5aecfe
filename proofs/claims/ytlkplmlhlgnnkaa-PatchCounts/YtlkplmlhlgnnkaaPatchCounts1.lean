/-
  Contracts over this program: the statement PatchCounts at any input: the walk.
-/
import Derived.Test.YtlkplmlhlgnnkaaPatchCounts0
namespace Go.Proofs.Ytlkplmlhlgnnkaa
open Go.RowKit
set_option linter.unusedVariables false
theorem bit_nat (s : ByteArray) (j : Nat) (w : World) (hs : s.size ≤ reachBytes) (hj : j < 65536) :
    Calls Try.prog 18 #[.string s, .int .i64 j] w fun e w' => e = .returned (.tuple #[.int .i64 (Pt.bt s.data.toList j : Nat), .int .i64 0]) ∧ w' = w := by
  have h := bit_any s j w hs (by omega) (by omega)
  rw [show bitV s (j : Int) = (((Pt.bt s.data.toList j : Nat) : Int), 0) by unfold bitV; rw [if_neg (by omega), Int.toNat_natCast]] at h
  exact h
set_option maxRecDepth 100000 in
set_option maxHeartbeats 8000000 in
theorem counts_mid (s : ByteArray) (a : Int) (k : Nat) (w : World) (hs : s.size ≤ reachBytes) (h0 : 0 < k) (hk : k < s.size)
    (hr : (a.tmod ((s.size : Int) + 1) = (k : Int) ∧ decide (a.tmod ((s.size : Int) + 1) < 0) = false) ∨ (decide (a.tmod ((s.size : Int) + 1) < 0) = true ∧ a.tmod ((s.size : Int) + 1) + ((s.size : Int) + 1) = (k : Int))) :
    Calls Try.prog 8 #[.string s, .int .i64 a] w fun e w' => e = .returned (.bool true) ∧ Below w.heap.size w w' := by
  obtain ⟨A, B, f1, f2, f3, f4, f5, f6⟩ := cut_facts s k (by omega)
  have hA : A.size ≤ reachBytes := by omega
  have hB : B.size ≤ reachBytes := by omega
  have S1 := keep fun w => slice_any s 0 ((k : Int) - 1) w (by omega) (by omega) (by omega) (by unfold reachBytes at hs; omega) (Nat.le_trans hs (by decide))
  rw [(cut_a s.size k h0 (by omega)).1, (cut_a s.size k h0 (by omega)).2, f1] at S1
  have S2 := keep fun w => slice_any s (k : Int) (-1) w (by omega) (by unfold reachBytes at hs; omega) (by omega) (by omega) (Nat.le_trans hs (by decide))
  rw [(cut_b s.size k hk).1, (cut_b s.size k hk).2, f2] at S2
  have hk1 : (0 : Int) < (k : Int) := by omega
  have hk2 : ((k : Int) == (s.size : Int)) = false := beq_eq_false_iff_ne.2 (by omega)
  have O0 := keep fun w => ones_all s w hs
  have O1 := keep fun w => ones_all A w hA
  have O2 := keep fun w => ones_all B w hB
  have J := keep fun w => join_any A B w hB
  have BN := keep fun (j : Nat) (hj : j < 65536) w => bit_nat s j w hs hj
  have SM := keep (Pt.ones_bits s.data.toList)
  have SL := keep (Pt.sum_le s.data.toList)
  have BL := keep (Pt.bt_le s.data.toList)
  have ol := Pt.ones_le s.data.toList
  rw [len_is] at ol SM
  unfold joi at J
  rw [f3] at J
  rw [f4] at J
  generalize Pt.bt s.data.toList = bt at *
  generalize Pt.ones s.data.toList = oS at *
  generalize Pt.ones A.data.toList = oA at *
  generalize Pt.ones B.data.toList = oB at *
  have f6' : (oA : Int) + (oB : Int) = (oS : Int) := by omega
  have eA : (A.toList == A.toList) = true := beq_self_eq_true _
  have eB : (B.toList == B.toList) = true := beq_self_eq_true _
  have eS : (s.toList == s.toList) = true := beq_self_eq_true _
  have hem : ByteArray.empty.toList.isEmpty = true := by rw [empty_eq]; rfl
  unfold reachBytes at hs
  have oSb : (oS : Int) ≤ 1125899906809856 := by omega
  have hk3 : (k : Int) ≤ (s.size : Int) := by omega
  have nb : (s.size : Int) ≤ 140737488351232 := by omega
  have hsz : ∃ T : Nat, T ≤ 65536 ∧ ((8 * (s.size : Int) ≤ 65536 ∧ 8 * (s.size : Int) = (T : Int) ∧ Kept (Pt.sumTo bt T = oS) ∧ ¬ (1048576 < s.size) ∧ decide (1048576 < (s.size : Int)) = false) ∨
      (¬ (8 * (s.size : Int) ≤ 65536) ∧ T = 65536 ∧ ¬ (1048576 < s.size) ∧ decide (1048576 < (s.size : Int)) = false) ∨ (¬ (8 * (s.size : Int) ≤ 65536) ∧ T = 65536 ∧ 1048576 < s.size ∧ decide (1048576 < (s.size : Int)) = true)) := by
    by_cases c : 8 * (s.size : Int) ≤ 65536
    · exact ⟨8 * s.size, by omega, .inl ⟨c, by omega, SM.out, by omega, decide_eq_false (by omega)⟩⟩
    · by_cases d : 1048576 < s.size
      · exact ⟨65536, by omega, .inr (.inr ⟨c, rfl, d, decide_eq_true (by omega)⟩)⟩
      · exact ⟨65536, by omega, .inr (.inl ⟨c, rfl, d, decide_eq_false (by omega)⟩)⟩
  clear f3 f4 f5 f6 hA hB ol hs SM h0 hk
  obtain ⟨T, hT, hsz⟩ := hsz
  rcases hsz with ⟨t1, t2, SM, t3, t4⟩ | ⟨t1, t2, t3, t4⟩ | ⟨t1, t2, t3, t4⟩
  · rcases hr with ⟨r1, r2⟩ | ⟨r1, r2⟩
    all_goals
      go_enter Try.func8, Try.ntmps8
      go_wp2_with fail
      refine (wakes_any _).mono ?_
      rintro e w1 ⟨rfl, b1⟩
      go_wp2_with fail
      refine (S1.out _).mono ?_
      rintro e w2 ⟨rfl, b2'⟩
      have b2 := b1.trans (b2'.mono b1.size)
      clear b1 b2'
      go_wp2_with fail
      refine (S2.out _).mono ?_
      rintro e w3 ⟨rfl, b3'⟩
      have b3 := b2.trans (b3'.mono b2.size)
      clear b2 b3'
      go_wp2_with fail
      refine (O0.out _).mono ?_
      rintro e w4 ⟨rfl, b4'⟩
      have b4 := b3.trans (b4'.mono b3.size)
      clear b3 b4'
      go_wp2_with fail
      refine (O1.out _).mono ?_
      rintro e w5 ⟨rfl, b5'⟩
      have b5 := b4.trans (b5'.mono b4.size)
      clear b4 b5'
      go_wp2_with fail
      refine (O2.out _).mono ?_
      rintro e w6 ⟨rfl, b6'⟩
      have b6 := keep (b5.trans (b6'.mono b5.size))
      clear b5 b6'
      go_wp2
      go_loopw [9, 69] (fun u i wr => ∃ (j : Nat), j ≤ T ∧ i = .int .i64 j ∧ u = .int .i64 (Pt.sumTo bt j : Nat) ∧ wr = w6) (fun _ i _ => T - (intOf i).toNat)
      case atStart => exact ⟨0, Nat.zero_le _, rfl, rfl, rfl⟩
      case round =>
        obtain ⟨j, hj, rfl, rfl, hw⟩ := hrel
        obtain rfl := hw.symm
        by_cases hlt : j < T
        · have hz : (j : Int) < (T : Int) := by omega
          have sl := SL.out j
          have bl := BL.out j
          have BJ := keep (BN.out j (by omega))
          obtain ⟨y, hy⟩ : ∃ y, y = Pt.sumTo bt (j + 1) := ⟨_, rfl⟩
          have hy2 : Pt.sumTo bt (j + 1) = Pt.sumTo bt j + bt j := rfl
          generalize Pt.sumTo bt j = sj at *
          generalize bt j = bj at *
          have HY := keep (hy.trans hy2)
          have c1 : decide ((bj : Int) < 0) = false := decide_eq_false (by omega)
          have c2 : decide (1 < (bj : Int)) = false := decide_eq_false (by omega)
          have HY1 := keep hy
          clear hy hy2
          go_wp2_with fail
          refine (BJ.out _).mono ?_
          rintro e w' ⟨rfl, rfl⟩
          go_wp2
          go_roundw
          case measure => simp [intOf]; omega
          case rel => exact ⟨j + 1, by omega, by go_num, by rw [← HY1.out, HY.out]; go_num, trivial⟩
        · obtain rfl : j = T := by omega
          have hz : ¬ (j : Int) < (j : Int) := by omega
          rw [SM.out]
          rw [if_neg t3] at J
          go_wp2_with fail
          refine (J.out _).mono ?_
          rintro e w7 ⟨rfl, hw⟩
          obtain rfl := hw.symm
          go_wp2
          go_ret
          exact ⟨rfl, b6.out⟩
  · rcases hr with ⟨r1, r2⟩ | ⟨r1, r2⟩
    all_goals
      have T2 := keep t2
      clear t2
      go_enter Try.func8, Try.ntmps8
      go_wp2_with fail
      refine (wakes_any _).mono ?_
      rintro e w1 ⟨rfl, b1⟩
      go_wp2_with fail
      refine (S1.out _).mono ?_
      rintro e w2 ⟨rfl, b2'⟩
      have b2 := b1.trans (b2'.mono b1.size)
      clear b1 b2'
      go_wp2_with fail
      refine (S2.out _).mono ?_
      rintro e w3 ⟨rfl, b3'⟩
      have b3 := b2.trans (b3'.mono b2.size)
      clear b2 b3'
      go_wp2_with fail
      refine (O0.out _).mono ?_
      rintro e w4 ⟨rfl, b4'⟩
      have b4 := b3.trans (b4'.mono b3.size)
      clear b3 b4'
      go_wp2_with fail
      refine (O1.out _).mono ?_
      rintro e w5 ⟨rfl, b5'⟩
      have b5 := b4.trans (b5'.mono b4.size)
      clear b4 b5'
      go_wp2_with fail
      refine (O2.out _).mono ?_
      rintro e w6 ⟨rfl, b6'⟩
      have b6 := keep (b5.trans (b6'.mono b5.size))
      clear b5 b6'
      go_wp2
      go_loopw [9, 69] (fun u i wr => ∃ (j : Nat), j ≤ T ∧ i = .int .i64 j ∧ u = .int .i64 (Pt.sumTo bt j : Nat) ∧ wr = w6) (fun _ i _ => T - (intOf i).toNat)
      case atStart => exact ⟨0, Nat.zero_le _, rfl, rfl, rfl⟩
      case round =>
        obtain ⟨j, hj, rfl, rfl, hw⟩ := hrel
        obtain rfl := hw.symm
        by_cases hlt : j < T
        · have hz : (j : Int) < 65536 := by have := T2.out; omega
          have sl := SL.out j
          have bl := BL.out j
          have BJ := keep (BN.out j (by omega))
          obtain ⟨y, hy⟩ : ∃ y, y = Pt.sumTo bt (j + 1) := ⟨_, rfl⟩
          have hy2 : Pt.sumTo bt (j + 1) = Pt.sumTo bt j + bt j := rfl
          generalize Pt.sumTo bt j = sj at *
          generalize bt j = bj at *
          have HY := keep (hy.trans hy2)
          have c1 : decide ((bj : Int) < 0) = false := decide_eq_false (by omega)
          have c2 : decide (1 < (bj : Int)) = false := decide_eq_false (by omega)
          have HY1 := keep hy
          clear hy hy2
          go_wp2_with fail
          refine (BJ.out _).mono ?_
          rintro e w' ⟨rfl, rfl⟩
          go_wp2
          go_roundw
          case measure => simp [intOf]; omega
          case rel => exact ⟨j + 1, by omega, by go_num, by rw [← HY1.out, HY.out]; go_num, trivial⟩
        · obtain rfl : j = T := by omega
          have hz : decide ((j : Int) < 65536) = false := decide_eq_false (by have := T2.out; omega)
          clear hT hj hlt
          generalize Pt.sumTo bt _ = sj at *
          rw [if_neg t3] at J
          have t1' : decide (8 * (s.size : Int) ≤ 65536) = false := decide_eq_false (by omega)
          clear t1 t3
          go_wp2_with fail
          refine (J.out _).mono ?_
          rintro e w7 ⟨rfl, hw⟩
          obtain rfl := hw.symm
          go_wp2
          go_ret
          exact ⟨rfl, b6.out⟩
  · rcases hr with ⟨r1, r2⟩ | ⟨r1, r2⟩
    all_goals
      have T2 := keep t2
      clear t2
      go_enter Try.func8, Try.ntmps8
      go_wp2_with fail
      refine (wakes_any _).mono ?_
      rintro e w1 ⟨rfl, b1⟩
      go_wp2_with fail
      refine (S1.out _).mono ?_
      rintro e w2 ⟨rfl, b2'⟩
      have b2 := b1.trans (b2'.mono b1.size)
      clear b1 b2'
      go_wp2_with fail
      refine (S2.out _).mono ?_
      rintro e w3 ⟨rfl, b3'⟩
      have b3 := b2.trans (b3'.mono b2.size)
      clear b2 b3'
      go_wp2_with fail
      refine (O0.out _).mono ?_
      rintro e w4 ⟨rfl, b4'⟩
      have b4 := b3.trans (b4'.mono b3.size)
      clear b3 b4'
      go_wp2_with fail
      refine (O1.out _).mono ?_
      rintro e w5 ⟨rfl, b5'⟩
      have b5 := b4.trans (b5'.mono b4.size)
      clear b4 b5'
      go_wp2_with fail
      refine (O2.out _).mono ?_
      rintro e w6 ⟨rfl, b6'⟩
      have b6 := keep (b5.trans (b6'.mono b5.size))
      clear b5 b6'
      go_wp2
      go_loopw [9, 69] (fun u i wr => ∃ (j : Nat), j ≤ T ∧ i = .int .i64 j ∧ u = .int .i64 (Pt.sumTo bt j : Nat) ∧ wr = w6) (fun _ i _ => T - (intOf i).toNat)
      case atStart => exact ⟨0, Nat.zero_le _, rfl, rfl, rfl⟩
      case round =>
        obtain ⟨j, hj, rfl, rfl, hw⟩ := hrel
        obtain rfl := hw.symm
        by_cases hlt : j < T
        · have hz : (j : Int) < 65536 := by have := T2.out; omega
          have sl := SL.out j
          have bl := BL.out j
          have BJ := keep (BN.out j (by omega))
          obtain ⟨y, hy⟩ : ∃ y, y = Pt.sumTo bt (j + 1) := ⟨_, rfl⟩
          have hy2 : Pt.sumTo bt (j + 1) = Pt.sumTo bt j + bt j := rfl
          generalize Pt.sumTo bt j = sj at *
          generalize bt j = bj at *
          have HY := keep (hy.trans hy2)
          have c1 : decide ((bj : Int) < 0) = false := decide_eq_false (by omega)
          have c2 : decide (1 < (bj : Int)) = false := decide_eq_false (by omega)
          have HY1 := keep hy
          clear hy hy2
          go_wp2_with fail
          refine (BJ.out _).mono ?_
          rintro e w' ⟨rfl, rfl⟩
          go_wp2
          go_roundw
          case measure => simp [intOf]; omega
          case rel => exact ⟨j + 1, by omega, by go_num, by rw [← HY1.out, HY.out]; go_num, trivial⟩
        · obtain rfl : j = T := by omega
          have hz : decide ((j : Int) < 65536) = false := decide_eq_false (by have := T2.out; omega)
          clear hT hj hlt
          generalize Pt.sumTo bt _ = sj at *
          rw [if_pos t3] at J
          have t1' : decide (8 * (s.size : Int) ≤ 65536) = false := decide_eq_false (by omega)
          clear t1 t3
          go_wp2_with fail
          refine (J.out _).mono ?_
          rintro e w7 ⟨rfl, hw⟩
          obtain rfl := hw.symm
          go_wp2
          go_ret
          exact ⟨rfl, b6.out⟩
set_option maxRecDepth 100000 in
set_option maxHeartbeats 8000000 in
theorem counts_begin (s : ByteArray) (a : Int) (k : Nat) (w : World) (hs : s.size ≤ reachBytes) (h0 : k = 0) (hk : k < s.size)
    (hr : (a.tmod ((s.size : Int) + 1) = (k : Int) ∧ decide (a.tmod ((s.size : Int) + 1) < 0) = false) ∨ (decide (a.tmod ((s.size : Int) + 1) < 0) = true ∧ a.tmod ((s.size : Int) + 1) + ((s.size : Int) + 1) = (k : Int))) :
    Calls Try.prog 8 #[.string s, .int .i64 a] w fun e w' => e = .returned (.bool true) ∧ Below w.heap.size w w' := by
  obtain ⟨A, B, f1, f2, f3, f4, f5, f6⟩ := cut_facts s k (by omega)
  have hA : A.size ≤ reachBytes := by omega
  have hB : B.size ≤ reachBytes := by omega
  have S2 := keep fun w => slice_any s (k : Int) (-1) w (by omega) (by unfold reachBytes at hs; omega) (by omega) (by omega) (Nat.le_trans hs (by decide))
  rw [(cut_b s.size k hk).1, (cut_b s.size k hk).2, f2] at S2
  have hk2 : ((k : Int) == (s.size : Int)) = false := beq_eq_false_iff_ne.2 (by omega)
  have hk1 : decide (0 < k) = false := decide_eq_false (by omega)
  obtain rfl : A = .empty := empty_of (by omega)
  have O0 := keep fun w => ones_all s w hs
  have O1 := keep fun w => ones_all ByteArray.empty w hA
  have O2 := keep fun w => ones_all B w hB
  have J := keep fun w => join_any ByteArray.empty B w hB
  have BN := keep fun (j : Nat) (hj : j < 65536) w => bit_nat s j w hs hj
  have SM := keep (Pt.ones_bits s.data.toList)
  have SL := keep (Pt.sum_le s.data.toList)
  have BL := keep (Pt.bt_le s.data.toList)
  have ol := Pt.ones_le s.data.toList
  rw [len_is] at ol SM
  unfold joi at J
  rw [f3] at J
  rw [f4] at J
  generalize Pt.bt s.data.toList = bt at *
  generalize Pt.ones s.data.toList = oS at *
  generalize Pt.ones ByteArray.empty.data.toList = oA at *
  generalize Pt.ones B.data.toList = oB at *
  have f6' : (oA : Int) + (oB : Int) = (oS : Int) := by omega
  have eA : (ByteArray.empty.toList == ByteArray.empty.toList) = true := beq_self_eq_true _
  have eB : (B.toList == B.toList) = true := beq_self_eq_true _
  have eS : (s.toList == s.toList) = true := beq_self_eq_true _
  have hem : ByteArray.empty.toList.isEmpty = true := by rw [empty_eq]; rfl
  unfold reachBytes at hs
  have oSb : (oS : Int) ≤ 1125899906809856 := by omega
  have hk3 : (k : Int) ≤ (s.size : Int) := by omega
  have nb : (s.size : Int) ≤ 140737488351232 := by omega
  have hsz : ∃ T : Nat, T ≤ 65536 ∧ ((8 * (s.size : Int) ≤ 65536 ∧ 8 * (s.size : Int) = (T : Int) ∧ Kept (Pt.sumTo bt T = oS) ∧ ¬ (1048576 < s.size) ∧ decide (1048576 < (s.size : Int)) = false) ∨
      (¬ (8 * (s.size : Int) ≤ 65536) ∧ T = 65536 ∧ ¬ (1048576 < s.size) ∧ decide (1048576 < (s.size : Int)) = false) ∨ (¬ (8 * (s.size : Int) ≤ 65536) ∧ T = 65536 ∧ 1048576 < s.size ∧ decide (1048576 < (s.size : Int)) = true)) := by
    by_cases c : 8 * (s.size : Int) ≤ 65536
    · exact ⟨8 * s.size, by omega, .inl ⟨c, by omega, SM.out, by omega, decide_eq_false (by omega)⟩⟩
    · by_cases d : 1048576 < s.size
      · exact ⟨65536, by omega, .inr (.inr ⟨c, rfl, d, decide_eq_true (by omega)⟩)⟩
      · exact ⟨65536, by omega, .inr (.inl ⟨c, rfl, d, decide_eq_false (by omega)⟩)⟩
  clear f3 f4 f5 f6 hA hB ol hs SM hk h0
  obtain ⟨T, hT, hsz⟩ := hsz
  rcases hsz with ⟨t1, t2, SM, t3, t4⟩ | ⟨t1, t2, t3, t4⟩ | ⟨t1, t2, t3, t4⟩
  · rcases hr with ⟨r1, r2⟩ | ⟨r1, r2⟩
    all_goals
      go_enter Try.func8, Try.ntmps8
      go_wp2_with fail
      refine (wakes_any _).mono ?_
      rintro e w1 ⟨rfl, b1⟩
      go_wp2_with fail
      have b2 := b1
      clear b1
      refine (S2.out _).mono ?_
      rintro e w3 ⟨rfl, b3'⟩
      have b3 := b2.trans (b3'.mono b2.size)
      clear b2 b3'
      go_wp2_with fail
      refine (O0.out _).mono ?_
      rintro e w4 ⟨rfl, b4'⟩
      have b4 := b3.trans (b4'.mono b3.size)
      clear b3 b4'
      go_wp2_with fail
      refine (O1.out _).mono ?_
      rintro e w5 ⟨rfl, b5'⟩
      have b5 := b4.trans (b5'.mono b4.size)
      clear b4 b5'
      go_wp2_with fail
      refine (O2.out _).mono ?_
      rintro e w6 ⟨rfl, b6'⟩
      have b6 := keep (b5.trans (b6'.mono b5.size))
      clear b5 b6'
      go_wp2
      go_loopw [9, 69] (fun u i wr => ∃ (j : Nat), j ≤ T ∧ i = .int .i64 j ∧ u = .int .i64 (Pt.sumTo bt j : Nat) ∧ wr = w6) (fun _ i _ => T - (intOf i).toNat)
      case atStart => exact ⟨0, Nat.zero_le _, rfl, rfl, rfl⟩
      case round =>
        obtain ⟨j, hj, rfl, rfl, hw⟩ := hrel
        obtain rfl := hw.symm
        by_cases hlt : j < T
        · have hz : (j : Int) < (T : Int) := by omega
          have sl := SL.out j
          have bl := BL.out j
          have BJ := keep (BN.out j (by omega))
          obtain ⟨y, hy⟩ : ∃ y, y = Pt.sumTo bt (j + 1) := ⟨_, rfl⟩
          have hy2 : Pt.sumTo bt (j + 1) = Pt.sumTo bt j + bt j := rfl
          generalize Pt.sumTo bt j = sj at *
          generalize bt j = bj at *
          have HY := keep (hy.trans hy2)
          have c1 : decide ((bj : Int) < 0) = false := decide_eq_false (by omega)
          have c2 : decide (1 < (bj : Int)) = false := decide_eq_false (by omega)
          have HY1 := keep hy
          clear hy hy2
          go_wp2_with fail
          refine (BJ.out _).mono ?_
          rintro e w' ⟨rfl, rfl⟩
          go_wp2
          go_roundw
          case measure => simp [intOf]; omega
          case rel => exact ⟨j + 1, by omega, by go_num, by rw [← HY1.out, HY.out]; go_num, trivial⟩
        · obtain rfl : j = T := by omega
          have hz : ¬ (j : Int) < (j : Int) := by omega
          rw [SM.out]
          rw [if_neg t3] at J
          go_wp2_with fail
          refine (J.out _).mono ?_
          rintro e w7 ⟨rfl, hw⟩
          obtain rfl := hw.symm
          go_wp2
          go_ret
          exact ⟨rfl, b6.out⟩
  · rcases hr with ⟨r1, r2⟩ | ⟨r1, r2⟩
    all_goals
      have T2 := keep t2
      clear t2
      go_enter Try.func8, Try.ntmps8
      go_wp2_with fail
      refine (wakes_any _).mono ?_
      rintro e w1 ⟨rfl, b1⟩
      go_wp2_with fail
      have b2 := b1
      clear b1
      refine (S2.out _).mono ?_
      rintro e w3 ⟨rfl, b3'⟩
      have b3 := b2.trans (b3'.mono b2.size)
      clear b2 b3'
      go_wp2_with fail
      refine (O0.out _).mono ?_
      rintro e w4 ⟨rfl, b4'⟩
      have b4 := b3.trans (b4'.mono b3.size)
      clear b3 b4'
      go_wp2_with fail
      refine (O1.out _).mono ?_
      rintro e w5 ⟨rfl, b5'⟩
      have b5 := b4.trans (b5'.mono b4.size)
      clear b4 b5'
      go_wp2_with fail
      refine (O2.out _).mono ?_
      rintro e w6 ⟨rfl, b6'⟩
      have b6 := keep (b5.trans (b6'.mono b5.size))
      clear b5 b6'
      go_wp2
      go_loopw [9, 69] (fun u i wr => ∃ (j : Nat), j ≤ T ∧ i = .int .i64 j ∧ u = .int .i64 (Pt.sumTo bt j : Nat) ∧ wr = w6) (fun _ i _ => T - (intOf i).toNat)
      case atStart => exact ⟨0, Nat.zero_le _, rfl, rfl, rfl⟩
      case round =>
        obtain ⟨j, hj, rfl, rfl, hw⟩ := hrel
        obtain rfl := hw.symm
        by_cases hlt : j < T
        · have hz : (j : Int) < 65536 := by have := T2.out; omega
          have sl := SL.out j
          have bl := BL.out j
          have BJ := keep (BN.out j (by omega))
          obtain ⟨y, hy⟩ : ∃ y, y = Pt.sumTo bt (j + 1) := ⟨_, rfl⟩
          have hy2 : Pt.sumTo bt (j + 1) = Pt.sumTo bt j + bt j := rfl
          generalize Pt.sumTo bt j = sj at *
          generalize bt j = bj at *
          have HY := keep (hy.trans hy2)
          have c1 : decide ((bj : Int) < 0) = false := decide_eq_false (by omega)
          have c2 : decide (1 < (bj : Int)) = false := decide_eq_false (by omega)
          have HY1 := keep hy
          clear hy hy2
          go_wp2_with fail
          refine (BJ.out _).mono ?_
          rintro e w' ⟨rfl, rfl⟩
          go_wp2
          go_roundw
          case measure => simp [intOf]; omega
          case rel => exact ⟨j + 1, by omega, by go_num, by rw [← HY1.out, HY.out]; go_num, trivial⟩
        · obtain rfl : j = T := by omega
          have hz : decide ((j : Int) < 65536) = false := decide_eq_false (by have := T2.out; omega)
          clear hT hj hlt
          generalize Pt.sumTo bt _ = sj at *
          rw [if_neg t3] at J
          have t1' : decide (8 * (s.size : Int) ≤ 65536) = false := decide_eq_false (by omega)
          clear t1 t3
          go_wp2_with fail
          refine (J.out _).mono ?_
          rintro e w7 ⟨rfl, hw⟩
          obtain rfl := hw.symm
          go_wp2
          go_ret
          exact ⟨rfl, b6.out⟩
  · rcases hr with ⟨r1, r2⟩ | ⟨r1, r2⟩
    all_goals
      have T2 := keep t2
      clear t2
      go_enter Try.func8, Try.ntmps8
      go_wp2_with fail
      refine (wakes_any _).mono ?_
      rintro e w1 ⟨rfl, b1⟩
      go_wp2_with fail
      have b2 := b1
      clear b1
      refine (S2.out _).mono ?_
      rintro e w3 ⟨rfl, b3'⟩
      have b3 := b2.trans (b3'.mono b2.size)
      clear b2 b3'
      go_wp2_with fail
      refine (O0.out _).mono ?_
      rintro e w4 ⟨rfl, b4'⟩
      have b4 := b3.trans (b4'.mono b3.size)
      clear b3 b4'
      go_wp2_with fail
      refine (O1.out _).mono ?_
      rintro e w5 ⟨rfl, b5'⟩
      have b5 := b4.trans (b5'.mono b4.size)
      clear b4 b5'
      go_wp2_with fail
      refine (O2.out _).mono ?_
      rintro e w6 ⟨rfl, b6'⟩
      have b6 := keep (b5.trans (b6'.mono b5.size))
      clear b5 b6'
      go_wp2
      go_loopw [9, 69] (fun u i wr => ∃ (j : Nat), j ≤ T ∧ i = .int .i64 j ∧ u = .int .i64 (Pt.sumTo bt j : Nat) ∧ wr = w6) (fun _ i _ => T - (intOf i).toNat)
      case atStart => exact ⟨0, Nat.zero_le _, rfl, rfl, rfl⟩
      case round =>
        obtain ⟨j, hj, rfl, rfl, hw⟩ := hrel
        obtain rfl := hw.symm
        by_cases hlt : j < T
        · have hz : (j : Int) < 65536 := by have := T2.out; omega
          have sl := SL.out j
          have bl := BL.out j
          have BJ := keep (BN.out j (by omega))
          obtain ⟨y, hy⟩ : ∃ y, y = Pt.sumTo bt (j + 1) := ⟨_, rfl⟩
          have hy2 : Pt.sumTo bt (j + 1) = Pt.sumTo bt j + bt j := rfl
          generalize Pt.sumTo bt j = sj at *
          generalize bt j = bj at *
          have HY := keep (hy.trans hy2)
          have c1 : decide ((bj : Int) < 0) = false := decide_eq_false (by omega)
          have c2 : decide (1 < (bj : Int)) = false := decide_eq_false (by omega)
          have HY1 := keep hy
          clear hy hy2
          go_wp2_with fail
          refine (BJ.out _).mono ?_
          rintro e w' ⟨rfl, rfl⟩
          go_wp2
          go_roundw
          case measure => simp [intOf]; omega
          case rel => exact ⟨j + 1, by omega, by go_num, by rw [← HY1.out, HY.out]; go_num, trivial⟩
        · obtain rfl : j = T := by omega
          have hz : decide ((j : Int) < 65536) = false := decide_eq_false (by have := T2.out; omega)
          clear hT hj hlt
          generalize Pt.sumTo bt _ = sj at *
          rw [if_pos t3] at J
          have t1' : decide (8 * (s.size : Int) ≤ 65536) = false := decide_eq_false (by omega)
          clear t1 t3
          go_wp2_with fail
          refine (J.out _).mono ?_
          rintro e w7 ⟨rfl, hw⟩
          obtain rfl := hw.symm
          go_wp2
          go_ret
          exact ⟨rfl, b6.out⟩
set_option maxRecDepth 100000 in
set_option maxHeartbeats 8000000 in
theorem counts_end (s : ByteArray) (a : Int) (k : Nat) (w : World) (hs : s.size ≤ reachBytes) (h0 : 0 < k) (hk : k = s.size)
    (hr : (a.tmod ((s.size : Int) + 1) = (k : Int) ∧ decide (a.tmod ((s.size : Int) + 1) < 0) = false) ∨ (decide (a.tmod ((s.size : Int) + 1) < 0) = true ∧ a.tmod ((s.size : Int) + 1) + ((s.size : Int) + 1) = (k : Int))) :
    Calls Try.prog 8 #[.string s, .int .i64 a] w fun e w' => e = .returned (.bool true) ∧ Below w.heap.size w w' := by
  obtain ⟨A, B, f1, f2, f3, f4, f5, f6⟩ := cut_facts s k (by omega)
  have hA : A.size ≤ reachBytes := by omega
  have hB : B.size ≤ reachBytes := by omega
  have S1 := keep fun w => slice_any s 0 ((k : Int) - 1) w (by omega) (by omega) (by omega) (by unfold reachBytes at hs; omega) (Nat.le_trans hs (by decide))
  rw [(cut_a s.size k h0 (by omega)).1, (cut_a s.size k h0 (by omega)).2, f1] at S1
  have S2 := keep fun w => slice_any s (k : Int) (-1) w (by omega) (by unfold reachBytes at hs; omega) (by omega) (by omega) (Nat.le_trans hs (by decide))
  generalize s.extract (sf (k : Int) (-1) s.size) (st (k : Int) (-1) s.size) = X at S2
  have hk1 : (0 : Int) < (k : Int) := by omega
  have hk2 : ((k : Int) == (s.size : Int)) = true := beq_iff_eq.2 (by omega)
  obtain rfl : B = .empty := empty_of (by omega)
  have O0 := keep fun w => ones_all s w hs
  have O1 := keep fun w => ones_all A w hA
  have O2 := keep fun w => ones_all ByteArray.empty w hB
  have J := keep fun w => join_any A ByteArray.empty w hB
  have BN := keep fun (j : Nat) (hj : j < 65536) w => bit_nat s j w hs hj
  have SM := keep (Pt.ones_bits s.data.toList)
  have SL := keep (Pt.sum_le s.data.toList)
  have BL := keep (Pt.bt_le s.data.toList)
  have ol := Pt.ones_le s.data.toList
  rw [len_is] at ol SM
  unfold joi at J
  rw [f3] at J
  rw [f4] at J
  generalize Pt.bt s.data.toList = bt at *
  generalize Pt.ones s.data.toList = oS at *
  generalize Pt.ones A.data.toList = oA at *
  generalize Pt.ones ByteArray.empty.data.toList = oB at *
  have f6' : (oA : Int) + (oB : Int) = (oS : Int) := by omega
  have eA : (A.toList == A.toList) = true := beq_self_eq_true _
  have eB : (ByteArray.empty.toList == ByteArray.empty.toList) = true := beq_self_eq_true _
  have eS : (s.toList == s.toList) = true := beq_self_eq_true _
  have hem : ByteArray.empty.toList.isEmpty = true := by rw [empty_eq]; rfl
  unfold reachBytes at hs
  have oSb : (oS : Int) ≤ 1125899906809856 := by omega
  have hk3 : (k : Int) ≤ (s.size : Int) := by omega
  have nb : (s.size : Int) ≤ 140737488351232 := by omega
  have hsz : ∃ T : Nat, T ≤ 65536 ∧ ((8 * (s.size : Int) ≤ 65536 ∧ 8 * (s.size : Int) = (T : Int) ∧ Kept (Pt.sumTo bt T = oS) ∧ ¬ (1048576 < s.size) ∧ decide (1048576 < (s.size : Int)) = false) ∨
      (¬ (8 * (s.size : Int) ≤ 65536) ∧ T = 65536 ∧ ¬ (1048576 < s.size) ∧ decide (1048576 < (s.size : Int)) = false) ∨ (¬ (8 * (s.size : Int) ≤ 65536) ∧ T = 65536 ∧ 1048576 < s.size ∧ decide (1048576 < (s.size : Int)) = true)) := by
    by_cases c : 8 * (s.size : Int) ≤ 65536
    · exact ⟨8 * s.size, by omega, .inl ⟨c, by omega, SM.out, by omega, decide_eq_false (by omega)⟩⟩
    · by_cases d : 1048576 < s.size
      · exact ⟨65536, by omega, .inr (.inr ⟨c, rfl, d, decide_eq_true (by omega)⟩)⟩
      · exact ⟨65536, by omega, .inr (.inl ⟨c, rfl, d, decide_eq_false (by omega)⟩)⟩
  clear f3 f4 f5 f6 hA hB ol hs SM h0 hk
  obtain ⟨T, hT, hsz⟩ := hsz
  rcases hsz with ⟨t1, t2, SM, t3, t4⟩ | ⟨t1, t2, t3, t4⟩ | ⟨t1, t2, t3, t4⟩
  · rcases hr with ⟨r1, r2⟩ | ⟨r1, r2⟩
    all_goals
      go_enter Try.func8, Try.ntmps8
      go_wp2_with fail
      refine (wakes_any _).mono ?_
      rintro e w1 ⟨rfl, b1⟩
      go_wp2_with fail
      refine (S1.out _).mono ?_
      rintro e w2 ⟨rfl, b2'⟩
      have b2 := b1.trans (b2'.mono b1.size)
      clear b1 b2'
      go_wp2_with fail
      refine (S2.out _).mono ?_
      rintro e w3 ⟨rfl, b3'⟩
      have b3 := b2.trans (b3'.mono b2.size)
      clear b2 b3'
      go_wp2_with fail
      refine (O0.out _).mono ?_
      rintro e w4 ⟨rfl, b4'⟩
      have b4 := b3.trans (b4'.mono b3.size)
      clear b3 b4'
      go_wp2_with fail
      refine (O1.out _).mono ?_
      rintro e w5 ⟨rfl, b5'⟩
      have b5 := b4.trans (b5'.mono b4.size)
      clear b4 b5'
      go_wp2_with fail
      refine (O2.out _).mono ?_
      rintro e w6 ⟨rfl, b6'⟩
      have b6 := keep (b5.trans (b6'.mono b5.size))
      clear b5 b6'
      go_wp2
      go_loopw [9, 69] (fun u i wr => ∃ (j : Nat), j ≤ T ∧ i = .int .i64 j ∧ u = .int .i64 (Pt.sumTo bt j : Nat) ∧ wr = w6) (fun _ i _ => T - (intOf i).toNat)
      case atStart => exact ⟨0, Nat.zero_le _, rfl, rfl, rfl⟩
      case round =>
        obtain ⟨j, hj, rfl, rfl, hw⟩ := hrel
        obtain rfl := hw.symm
        by_cases hlt : j < T
        · have hz : (j : Int) < (T : Int) := by omega
          have sl := SL.out j
          have bl := BL.out j
          have BJ := keep (BN.out j (by omega))
          obtain ⟨y, hy⟩ : ∃ y, y = Pt.sumTo bt (j + 1) := ⟨_, rfl⟩
          have hy2 : Pt.sumTo bt (j + 1) = Pt.sumTo bt j + bt j := rfl
          generalize Pt.sumTo bt j = sj at *
          generalize bt j = bj at *
          have HY := keep (hy.trans hy2)
          have c1 : decide ((bj : Int) < 0) = false := decide_eq_false (by omega)
          have c2 : decide (1 < (bj : Int)) = false := decide_eq_false (by omega)
          have HY1 := keep hy
          clear hy hy2
          go_wp2_with fail
          refine (BJ.out _).mono ?_
          rintro e w' ⟨rfl, rfl⟩
          go_wp2
          go_roundw
          case measure => simp [intOf]; omega
          case rel => exact ⟨j + 1, by omega, by go_num, by rw [← HY1.out, HY.out]; go_num, trivial⟩
        · obtain rfl : j = T := by omega
          have hz : ¬ (j : Int) < (j : Int) := by omega
          rw [SM.out]
          rw [if_neg t3] at J
          go_wp2_with fail
          refine (J.out _).mono ?_
          rintro e w7 ⟨rfl, hw⟩
          obtain rfl := hw.symm
          go_wp2
          go_ret
          exact ⟨rfl, b6.out⟩
  · rcases hr with ⟨r1, r2⟩ | ⟨r1, r2⟩
    all_goals
      have T2 := keep t2
      clear t2
      go_enter Try.func8, Try.ntmps8
      go_wp2_with fail
      refine (wakes_any _).mono ?_
      rintro e w1 ⟨rfl, b1⟩
      go_wp2_with fail
      refine (S1.out _).mono ?_
      rintro e w2 ⟨rfl, b2'⟩
      have b2 := b1.trans (b2'.mono b1.size)
      clear b1 b2'
      go_wp2_with fail
      refine (S2.out _).mono ?_
      rintro e w3 ⟨rfl, b3'⟩
      have b3 := b2.trans (b3'.mono b2.size)
      clear b2 b3'
      go_wp2_with fail
      refine (O0.out _).mono ?_
      rintro e w4 ⟨rfl, b4'⟩
      have b4 := b3.trans (b4'.mono b3.size)
      clear b3 b4'
      go_wp2_with fail
      refine (O1.out _).mono ?_
      rintro e w5 ⟨rfl, b5'⟩
      have b5 := b4.trans (b5'.mono b4.size)
      clear b4 b5'
      go_wp2_with fail
      refine (O2.out _).mono ?_
      rintro e w6 ⟨rfl, b6'⟩
      have b6 := keep (b5.trans (b6'.mono b5.size))
      clear b5 b6'
      go_wp2
      go_loopw [9, 69] (fun u i wr => ∃ (j : Nat), j ≤ T ∧ i = .int .i64 j ∧ u = .int .i64 (Pt.sumTo bt j : Nat) ∧ wr = w6) (fun _ i _ => T - (intOf i).toNat)
      case atStart => exact ⟨0, Nat.zero_le _, rfl, rfl, rfl⟩
      case round =>
        obtain ⟨j, hj, rfl, rfl, hw⟩ := hrel
        obtain rfl := hw.symm
        by_cases hlt : j < T
        · have hz : (j : Int) < 65536 := by have := T2.out; omega
          have sl := SL.out j
          have bl := BL.out j
          have BJ := keep (BN.out j (by omega))
          obtain ⟨y, hy⟩ : ∃ y, y = Pt.sumTo bt (j + 1) := ⟨_, rfl⟩
          have hy2 : Pt.sumTo bt (j + 1) = Pt.sumTo bt j + bt j := rfl
          generalize Pt.sumTo bt j = sj at *
          generalize bt j = bj at *
          have HY := keep (hy.trans hy2)
          have c1 : decide ((bj : Int) < 0) = false := decide_eq_false (by omega)
          have c2 : decide (1 < (bj : Int)) = false := decide_eq_false (by omega)
          have HY1 := keep hy
          clear hy hy2
          go_wp2_with fail
          refine (BJ.out _).mono ?_
          rintro e w' ⟨rfl, rfl⟩
          go_wp2
          go_roundw
          case measure => simp [intOf]; omega
          case rel => exact ⟨j + 1, by omega, by go_num, by rw [← HY1.out, HY.out]; go_num, trivial⟩
        · obtain rfl : j = T := by omega
          have hz : decide ((j : Int) < 65536) = false := decide_eq_false (by have := T2.out; omega)
          clear hT hj hlt
          generalize Pt.sumTo bt _ = sj at *
          rw [if_neg t3] at J
          have t1' : decide (8 * (s.size : Int) ≤ 65536) = false := decide_eq_false (by omega)
          clear t1 t3
          go_wp2_with fail
          refine (J.out _).mono ?_
          rintro e w7 ⟨rfl, hw⟩
          obtain rfl := hw.symm
          go_wp2
          go_ret
          exact ⟨rfl, b6.out⟩
  · rcases hr with ⟨r1, r2⟩ | ⟨r1, r2⟩
    all_goals
      have T2 := keep t2
      clear t2
      go_enter Try.func8, Try.ntmps8
      go_wp2_with fail
      refine (wakes_any _).mono ?_
      rintro e w1 ⟨rfl, b1⟩
      go_wp2_with fail
      refine (S1.out _).mono ?_
      rintro e w2 ⟨rfl, b2'⟩
      have b2 := b1.trans (b2'.mono b1.size)
      clear b1 b2'
      go_wp2_with fail
      refine (S2.out _).mono ?_
      rintro e w3 ⟨rfl, b3'⟩
      have b3 := b2.trans (b3'.mono b2.size)
      clear b2 b3'
      go_wp2_with fail
      refine (O0.out _).mono ?_
      rintro e w4 ⟨rfl, b4'⟩
      have b4 := b3.trans (b4'.mono b3.size)
      clear b3 b4'
      go_wp2_with fail
      refine (O1.out _).mono ?_
      rintro e w5 ⟨rfl, b5'⟩
      have b5 := b4.trans (b5'.mono b4.size)
      clear b4 b5'
      go_wp2_with fail
      refine (O2.out _).mono ?_
      rintro e w6 ⟨rfl, b6'⟩
      have b6 := keep (b5.trans (b6'.mono b5.size))
      clear b5 b6'
      go_wp2
      go_loopw [9, 69] (fun u i wr => ∃ (j : Nat), j ≤ T ∧ i = .int .i64 j ∧ u = .int .i64 (Pt.sumTo bt j : Nat) ∧ wr = w6) (fun _ i _ => T - (intOf i).toNat)
      case atStart => exact ⟨0, Nat.zero_le _, rfl, rfl, rfl⟩
      case round =>
        obtain ⟨j, hj, rfl, rfl, hw⟩ := hrel
        obtain rfl := hw.symm
        by_cases hlt : j < T
        · have hz : (j : Int) < 65536 := by have := T2.out; omega
          have sl := SL.out j
          have bl := BL.out j
          have BJ := keep (BN.out j (by omega))
          obtain ⟨y, hy⟩ : ∃ y, y = Pt.sumTo bt (j + 1) := ⟨_, rfl⟩
          have hy2 : Pt.sumTo bt (j + 1) = Pt.sumTo bt j + bt j := rfl
          generalize Pt.sumTo bt j = sj at *
          generalize bt j = bj at *
          have HY := keep (hy.trans hy2)
          have c1 : decide ((bj : Int) < 0) = false := decide_eq_false (by omega)
          have c2 : decide (1 < (bj : Int)) = false := decide_eq_false (by omega)
          have HY1 := keep hy
          clear hy hy2
          go_wp2_with fail
          refine (BJ.out _).mono ?_
          rintro e w' ⟨rfl, rfl⟩
          go_wp2
          go_roundw
          case measure => simp [intOf]; omega
          case rel => exact ⟨j + 1, by omega, by go_num, by rw [← HY1.out, HY.out]; go_num, trivial⟩
        · obtain rfl : j = T := by omega
          have hz : decide ((j : Int) < 65536) = false := decide_eq_false (by have := T2.out; omega)
          clear hT hj hlt
          generalize Pt.sumTo bt _ = sj at *
          rw [if_pos t3] at J
          have t1' : decide (8 * (s.size : Int) ≤ 65536) = false := decide_eq_false (by omega)
          clear t1 t3
          go_wp2_with fail
          refine (J.out _).mono ?_
          rintro e w7 ⟨rfl, hw⟩
          obtain rfl := hw.symm
          go_wp2
          go_ret
          exact ⟨rfl, b6.out⟩
set_option maxRecDepth 100000 in
set_option maxHeartbeats 8000000 in
theorem counts_none (s : ByteArray) (a : Int) (k : Nat) (w : World) (hs : s.size ≤ reachBytes) (h0 : k = 0) (hk : k = s.size)
    (hr : (a.tmod ((s.size : Int) + 1) = (k : Int) ∧ decide (a.tmod ((s.size : Int) + 1) < 0) = false) ∨ (decide (a.tmod ((s.size : Int) + 1) < 0) = true ∧ a.tmod ((s.size : Int) + 1) + ((s.size : Int) + 1) = (k : Int))) :
    Calls Try.prog 8 #[.string s, .int .i64 a] w fun e w' => e = .returned (.bool true) ∧ Below w.heap.size w w' := by
  obtain ⟨A, B, f1, f2, f3, f4, f5, f6⟩ := cut_facts s k (by omega)
  have hA : A.size ≤ reachBytes := by omega
  have hB : B.size ≤ reachBytes := by omega
  have S2 := keep fun w => slice_any s (k : Int) (-1) w (by omega) (by unfold reachBytes at hs; omega) (by omega) (by omega) (Nat.le_trans hs (by decide))
  generalize s.extract (sf (k : Int) (-1) s.size) (st (k : Int) (-1) s.size) = X at S2
  have hk2 : ((k : Int) == (s.size : Int)) = true := beq_iff_eq.2 (by omega)
  have hk1 : decide (0 < k) = false := decide_eq_false (by omega)
  obtain rfl : A = .empty := empty_of (by omega)
  obtain rfl : B = .empty := empty_of (by omega)
  have O0 := keep fun w => ones_all s w hs
  have O1 := keep fun w => ones_all ByteArray.empty w hA
  have O2 := keep fun w => ones_all ByteArray.empty w hB
  have J := keep fun w => join_any ByteArray.empty ByteArray.empty w hB
  have BN := keep fun (j : Nat) (hj : j < 65536) w => bit_nat s j w hs hj
  have SM := keep (Pt.ones_bits s.data.toList)
  have SL := keep (Pt.sum_le s.data.toList)
  have BL := keep (Pt.bt_le s.data.toList)
  have ol := Pt.ones_le s.data.toList
  rw [len_is] at ol SM
  unfold joi at J
  rw [f3] at J
  rw [f4] at J
  generalize Pt.bt s.data.toList = bt at *
  generalize Pt.ones s.data.toList = oS at *
  generalize Pt.ones ByteArray.empty.data.toList = oA at *
  have f6' : (oA : Int) + (oA : Int) = (oS : Int) := by omega
  have eA : (ByteArray.empty.toList == ByteArray.empty.toList) = true := beq_self_eq_true _
  have eB : (ByteArray.empty.toList == ByteArray.empty.toList) = true := beq_self_eq_true _
  have eS : (s.toList == s.toList) = true := beq_self_eq_true _
  have hem : ByteArray.empty.toList.isEmpty = true := by rw [empty_eq]; rfl
  unfold reachBytes at hs
  have oSb : (oS : Int) ≤ 1125899906809856 := by omega
  have hk3 : (k : Int) ≤ (s.size : Int) := by omega
  have nb : (s.size : Int) ≤ 140737488351232 := by omega
  have hsz : ∃ T : Nat, T ≤ 65536 ∧ ((8 * (s.size : Int) ≤ 65536 ∧ 8 * (s.size : Int) = (T : Int) ∧ Kept (Pt.sumTo bt T = oS) ∧ ¬ (1048576 < s.size) ∧ decide (1048576 < (s.size : Int)) = false) ∨
      (¬ (8 * (s.size : Int) ≤ 65536) ∧ T = 65536 ∧ ¬ (1048576 < s.size) ∧ decide (1048576 < (s.size : Int)) = false) ∨ (¬ (8 * (s.size : Int) ≤ 65536) ∧ T = 65536 ∧ 1048576 < s.size ∧ decide (1048576 < (s.size : Int)) = true)) := by
    by_cases c : 8 * (s.size : Int) ≤ 65536
    · exact ⟨8 * s.size, by omega, .inl ⟨c, by omega, SM.out, by omega, decide_eq_false (by omega)⟩⟩
    · by_cases d : 1048576 < s.size
      · exact ⟨65536, by omega, .inr (.inr ⟨c, rfl, d, decide_eq_true (by omega)⟩)⟩
      · exact ⟨65536, by omega, .inr (.inl ⟨c, rfl, d, decide_eq_false (by omega)⟩)⟩
  clear f3 f4 f5 f6 hA hB ol hs SM hk h0
  obtain ⟨T, hT, hsz⟩ := hsz
  rcases hsz with ⟨t1, t2, SM, t3, t4⟩ | ⟨t1, t2, t3, t4⟩ | ⟨t1, t2, t3, t4⟩
  · rcases hr with ⟨r1, r2⟩ | ⟨r1, r2⟩
    all_goals
      go_enter Try.func8, Try.ntmps8
      go_wp2_with fail
      refine (wakes_any _).mono ?_
      rintro e w1 ⟨rfl, b1⟩
      go_wp2_with fail
      have b2 := b1
      clear b1
      refine (S2.out _).mono ?_
      rintro e w3 ⟨rfl, b3'⟩
      have b3 := b2.trans (b3'.mono b2.size)
      clear b2 b3'
      go_wp2_with fail
      refine (O0.out _).mono ?_
      rintro e w4 ⟨rfl, b4'⟩
      have b4 := b3.trans (b4'.mono b3.size)
      clear b3 b4'
      go_wp2_with fail
      refine (O1.out _).mono ?_
      rintro e w5 ⟨rfl, b5'⟩
      have b5 := b4.trans (b5'.mono b4.size)
      clear b4 b5'
      go_wp2_with fail
      refine (O2.out _).mono ?_
      rintro e w6 ⟨rfl, b6'⟩
      have b6 := keep (b5.trans (b6'.mono b5.size))
      clear b5 b6'
      go_wp2
      go_loopw [9, 69] (fun u i wr => ∃ (j : Nat), j ≤ T ∧ i = .int .i64 j ∧ u = .int .i64 (Pt.sumTo bt j : Nat) ∧ wr = w6) (fun _ i _ => T - (intOf i).toNat)
      case atStart => exact ⟨0, Nat.zero_le _, rfl, rfl, rfl⟩
      case round =>
        obtain ⟨j, hj, rfl, rfl, hw⟩ := hrel
        obtain rfl := hw.symm
        by_cases hlt : j < T
        · have hz : (j : Int) < (T : Int) := by omega
          have sl := SL.out j
          have bl := BL.out j
          have BJ := keep (BN.out j (by omega))
          obtain ⟨y, hy⟩ : ∃ y, y = Pt.sumTo bt (j + 1) := ⟨_, rfl⟩
          have hy2 : Pt.sumTo bt (j + 1) = Pt.sumTo bt j + bt j := rfl
          generalize Pt.sumTo bt j = sj at *
          generalize bt j = bj at *
          have HY := keep (hy.trans hy2)
          have c1 : decide ((bj : Int) < 0) = false := decide_eq_false (by omega)
          have c2 : decide (1 < (bj : Int)) = false := decide_eq_false (by omega)
          have HY1 := keep hy
          clear hy hy2
          go_wp2_with fail
          refine (BJ.out _).mono ?_
          rintro e w' ⟨rfl, rfl⟩
          go_wp2
          go_roundw
          case measure => simp [intOf]; omega
          case rel => exact ⟨j + 1, by omega, by go_num, by rw [← HY1.out, HY.out]; go_num, trivial⟩
        · obtain rfl : j = T := by omega
          have hz : ¬ (j : Int) < (j : Int) := by omega
          rw [SM.out]
          rw [if_neg t3] at J
          go_wp2_with fail
          refine (J.out _).mono ?_
          rintro e w7 ⟨rfl, hw⟩
          obtain rfl := hw.symm
          go_wp2
          go_ret
          exact ⟨rfl, b6.out⟩
  · rcases hr with ⟨r1, r2⟩ | ⟨r1, r2⟩
    all_goals
      have T2 := keep t2
      clear t2
      go_enter Try.func8, Try.ntmps8
      go_wp2_with fail
      refine (wakes_any _).mono ?_
      rintro e w1 ⟨rfl, b1⟩
      go_wp2_with fail
      have b2 := b1
      clear b1
      refine (S2.out _).mono ?_
      rintro e w3 ⟨rfl, b3'⟩
      have b3 := b2.trans (b3'.mono b2.size)
      clear b2 b3'
      go_wp2_with fail
      refine (O0.out _).mono ?_
      rintro e w4 ⟨rfl, b4'⟩
      have b4 := b3.trans (b4'.mono b3.size)
      clear b3 b4'
      go_wp2_with fail
      refine (O1.out _).mono ?_
      rintro e w5 ⟨rfl, b5'⟩
      have b5 := b4.trans (b5'.mono b4.size)
      clear b4 b5'
      go_wp2_with fail
      refine (O2.out _).mono ?_
      rintro e w6 ⟨rfl, b6'⟩
      have b6 := keep (b5.trans (b6'.mono b5.size))
      clear b5 b6'
      go_wp2
      go_loopw [9, 69] (fun u i wr => ∃ (j : Nat), j ≤ T ∧ i = .int .i64 j ∧ u = .int .i64 (Pt.sumTo bt j : Nat) ∧ wr = w6) (fun _ i _ => T - (intOf i).toNat)
      case atStart => exact ⟨0, Nat.zero_le _, rfl, rfl, rfl⟩
      case round =>
        obtain ⟨j, hj, rfl, rfl, hw⟩ := hrel
        obtain rfl := hw.symm
        by_cases hlt : j < T
        · have hz : (j : Int) < 65536 := by have := T2.out; omega
          have sl := SL.out j
          have bl := BL.out j
          have BJ := keep (BN.out j (by omega))
          obtain ⟨y, hy⟩ : ∃ y, y = Pt.sumTo bt (j + 1) := ⟨_, rfl⟩
          have hy2 : Pt.sumTo bt (j + 1) = Pt.sumTo bt j + bt j := rfl
          generalize Pt.sumTo bt j = sj at *
          generalize bt j = bj at *
          have HY := keep (hy.trans hy2)
          have c1 : decide ((bj : Int) < 0) = false := decide_eq_false (by omega)
          have c2 : decide (1 < (bj : Int)) = false := decide_eq_false (by omega)
          have HY1 := keep hy
          clear hy hy2
          go_wp2_with fail
          refine (BJ.out _).mono ?_
          rintro e w' ⟨rfl, rfl⟩
          go_wp2
          go_roundw
          case measure => simp [intOf]; omega
          case rel => exact ⟨j + 1, by omega, by go_num, by rw [← HY1.out, HY.out]; go_num, trivial⟩
        · obtain rfl : j = T := by omega
          have hz : decide ((j : Int) < 65536) = false := decide_eq_false (by have := T2.out; omega)
          clear hT hj hlt
          generalize Pt.sumTo bt _ = sj at *
          rw [if_neg t3] at J
          have t1' : decide (8 * (s.size : Int) ≤ 65536) = false := decide_eq_false (by omega)
          clear t1 t3
          go_wp2_with fail
          refine (J.out _).mono ?_
          rintro e w7 ⟨rfl, hw⟩
          obtain rfl := hw.symm
          go_wp2
          go_ret
          exact ⟨rfl, b6.out⟩
  · rcases hr with ⟨r1, r2⟩ | ⟨r1, r2⟩
    all_goals
      have T2 := keep t2
      clear t2
      go_enter Try.func8, Try.ntmps8
      go_wp2_with fail
      refine (wakes_any _).mono ?_
      rintro e w1 ⟨rfl, b1⟩
      go_wp2_with fail
      have b2 := b1
      clear b1
      refine (S2.out _).mono ?_
      rintro e w3 ⟨rfl, b3'⟩
      have b3 := b2.trans (b3'.mono b2.size)
      clear b2 b3'
      go_wp2_with fail
      refine (O0.out _).mono ?_
      rintro e w4 ⟨rfl, b4'⟩
      have b4 := b3.trans (b4'.mono b3.size)
      clear b3 b4'
      go_wp2_with fail
      refine (O1.out _).mono ?_
      rintro e w5 ⟨rfl, b5'⟩
      have b5 := b4.trans (b5'.mono b4.size)
      clear b4 b5'
      go_wp2_with fail
      refine (O2.out _).mono ?_
      rintro e w6 ⟨rfl, b6'⟩
      have b6 := keep (b5.trans (b6'.mono b5.size))
      clear b5 b6'
      go_wp2
      go_loopw [9, 69] (fun u i wr => ∃ (j : Nat), j ≤ T ∧ i = .int .i64 j ∧ u = .int .i64 (Pt.sumTo bt j : Nat) ∧ wr = w6) (fun _ i _ => T - (intOf i).toNat)
      case atStart => exact ⟨0, Nat.zero_le _, rfl, rfl, rfl⟩
      case round =>
        obtain ⟨j, hj, rfl, rfl, hw⟩ := hrel
        obtain rfl := hw.symm
        by_cases hlt : j < T
        · have hz : (j : Int) < 65536 := by have := T2.out; omega
          have sl := SL.out j
          have bl := BL.out j
          have BJ := keep (BN.out j (by omega))
          obtain ⟨y, hy⟩ : ∃ y, y = Pt.sumTo bt (j + 1) := ⟨_, rfl⟩
          have hy2 : Pt.sumTo bt (j + 1) = Pt.sumTo bt j + bt j := rfl
          generalize Pt.sumTo bt j = sj at *
          generalize bt j = bj at *
          have HY := keep (hy.trans hy2)
          have c1 : decide ((bj : Int) < 0) = false := decide_eq_false (by omega)
          have c2 : decide (1 < (bj : Int)) = false := decide_eq_false (by omega)
          have HY1 := keep hy
          clear hy hy2
          go_wp2_with fail
          refine (BJ.out _).mono ?_
          rintro e w' ⟨rfl, rfl⟩
          go_wp2
          go_roundw
          case measure => simp [intOf]; omega
          case rel => exact ⟨j + 1, by omega, by go_num, by rw [← HY1.out, HY.out]; go_num, trivial⟩
        · obtain rfl : j = T := by omega
          have hz : decide ((j : Int) < 65536) = false := decide_eq_false (by have := T2.out; omega)
          clear hT hj hlt
          generalize Pt.sumTo bt _ = sj at *
          rw [if_pos t3] at J
          have t1' : decide (8 * (s.size : Int) ≤ 65536) = false := decide_eq_false (by omega)
          clear t1 t3
          go_wp2_with fail
          refine (J.out _).mono ?_
          rintro e w7 ⟨rfl, hw⟩
          obtain rfl := hw.symm
          go_wp2
          go_ret
          exact ⟨rfl, b6.out⟩
end Go.Proofs.Ytlkplmlhlgnnkaa
