/-
  Contracts over this program: the document's own Overlay at any input.
-/
import Derived.Test.YtlkplmlhlgnnkaaPatchRef1
namespace Go.Proofs.Ytlkplmlhlgnnkaa
open Go.RowKit
set_option linter.unusedVariables false
theorem take_more (l : List UInt8) (j : Nat) (h : j < l.length) : l.take (j + 1) = l.take j ++ [l.getD j 0] := by
  rw [List.take_add_one, List.getD_eq_getElem?_getD, List.getElem?_eq_getElem h]; rfl
set_option maxRecDepth 100000 in
set_option maxHeartbeats 2000000 in
theorem rover_go (s v : ByteArray) (p : Nat) (w : World) (hv : 0 < v.size) (hs : s.size ≤ 1048576) (hp : p + v.size ≤ 1048576) :
    Calls Try.prog 13 #[.string s, .int .i64 p, .string v] w fun e w' => e = .returned (.tuple #[.string ⟨(Pt.over s.data.toList p v.data.toList).toArray⟩, .int .i64 0]) ∧ Below w.heap.size w w' := by
  have ol := Pt.over_len s.data.toList p v.data.toList
  have oa := Pt.over_at s.data.toList p v.data.toList
  rw [len_is, len_is] at ol
  rw [len_is] at oa
  generalize Pt.over s.data.toList p v.data.toList = O at *
  obtain ⟨n, hn⟩ : ∃ n, n = max s.size (p + v.size) := ⟨_, rfl⟩
  rw [← hn] at ol
  have RA := keep fun (i : Nat) w => rat_any s i w (Nat.le_trans hs (by decide))
  obtain ⟨w1, m1, m2, m3⟩ := make_bytes w n (Nat.le_trans (by omega : n ≤ 1048576) (by decide))
  have K0 := keep m2
  have B0 := keep m3
  have OA := keep oa
  have OL := keep ol
  have i0 : decide ((p : Int) < 0) = false := decide_eq_false (by omega)
  have i1 : ((v.size : Int) == 0) = false := beq_eq_false_iff_ne.2 (by omega)
  have i2 : decide (1048576 < (s.size : Int)) = false := decide_eq_false (by omega)
  have i3 : decide (1048576 < (p : Int)) = false := decide_eq_false (by omega)
  have i4 : decide (1048576 < (p : Int) + (v.size : Int)) = false := decide_eq_false (by omega)
  have i5 : (p : Int) + (v.size : Int) ≤ 1048576 := by omega
  have hM : (decide ((p : Int) + (v.size : Int) < (s.size : Int)) = true ∧ n = s.size ∧ True) ∨ (decide ((p : Int) + (v.size : Int) < (s.size : Int)) = false ∧ (p : Int) + (v.size : Int) = (n : Int)) := by
    by_cases c : (p : Int) + (v.size : Int) < (s.size : Int)
    · exact .inl ⟨decide_eq_true c, by omega, trivial⟩
    · exact .inr ⟨decide_eq_false c, by omega⟩
  have nb : (n : Int) ≤ 1048576 := by omega
  clear oa m2 m3 ol hs hp hn
  have O0 := keep (show O.take n = O from List.take_of_length_le (by rw [OL.out]; omega))
  have i6 : decide (1048576 < (n : Int)) = false := decide_eq_false (by omega)
  rcases hM with ⟨h1, rfl, _⟩ | ⟨h1, h2⟩
  · go_enter Try.func13, Try.ntmps13
    go_wp2
    go_loopw [10, 47] (fun u i wr => ∃ (j : Nat), j ≤ s.size ∧ i = .int .i64 j ∧ Kept (Kb w.heap.size wr u (O.take j)) ∧ Kept (Below w.heap.size w wr)) (fun _ i _ => s.size - (intOf i).toNat)
    case atStart => exact ⟨0, Nat.zero_le _, rfl, K0, B0⟩
    case round =>
      obtain ⟨j, hj, rfl, KK, KB⟩ := hrel
      obtain ⟨ua, uc, hu⟩ := KK.out.len
      by_cases hlt : j < s.size
      · have hz : (j : Int) < (s.size : Int) := by omega
        have hll : (O.take j).length + 1 ≤ 140737488351232 := by rw [List.length_take, OL.out]; omega
        obtain ⟨v', w2, r1, r2, r3⟩ := app_byte w.heap.size wr _ _ (O.getD j 0) KK.out KB.out.size hll
        rw [← take_more O j (by rw [OL.out]; exact hlt)] at r2
        have oj := OA.out j
        have R2 := keep r2
        have R3 := keep (KB.out.trans r3)
        have RJ := keep (RA.out j)
        subst hu
        clear r2 r3 hll KK
        generalize (O.take j).length = LL at *
        by_cases c1 : p ≤ j ∧ j < p + v.size
        · rw [if_pos c1] at oj
          obtain ⟨d, hd⟩ : ∃ d, d = j - p := ⟨_, rfl⟩
          have hd2 : d < v.size := by omega
          rw [← hd, ← getD_at v d hd2] at oj
          have hd1 : (j : Int) - (p : Int) = (d : Int) := by omega
          have c2 : (p : Int) ≤ (j : Int) := by omega
          have c3 : (j : Int) < (p : Int) + (v.size : Int) := by omega
          have hd3 : (d : Int) < (v.size : Int) := by omega
          have hd4 : (0 : Int) ≤ (d : Int) := by omega
          rw [oj] at r1
          have R1 := keep r1
          clear r1 oj c1 hd
          go_wp2_with fail
          refine (RJ.out _).mono ?_
          rintro e w' ⟨rfl, rfl⟩
          go_wp2_with (first | (at_builtin; refine wpList_app_run rfl _ _ _ _ rfl _ _ _ rfl rfl R1.out ?_))
          go_roundw
          case measure => simp [intOf]; omega
          case rel => exact ⟨j + 1, by omega, by go_num, R2, R3⟩
        · rw [if_neg c1] at oj
          rw [oj] at r1
          generalize s.data.toList.getD j 0 = z at *
          have R1 := keep r1
          clear r1 oj
          by_cases c2 : (p : Int) ≤ (j : Int)
          · have c3 : ¬ (j : Int) < (p : Int) + (v.size : Int) := by omega
            clear c1
            go_wp2_with fail
            refine (RJ.out _).mono ?_
            rintro e w' ⟨rfl, rfl⟩
            go_wp2_with (first | (at_builtin; refine wpList_app_run rfl _ _ _ _ rfl _ _ _ rfl rfl R1.out ?_))
            go_roundw
            case measure => simp [intOf]; omega
            case rel => exact ⟨j + 1, by omega, by go_num, R2, R3⟩
          · clear c1
            go_wp2_with fail
            refine (RJ.out _).mono ?_
            rintro e w' ⟨rfl, rfl⟩
            go_wp2_with (first | (at_builtin; refine wpList_app_run rfl _ _ _ _ rfl _ _ _ rfl rfl R1.out ?_))
            go_roundw
            case measure => simp [intOf]; omega
            case rel => exact ⟨j + 1, by omega, by go_num, R2, R3⟩
      · obtain rfl : j = s.size := by omega
        have hz : ¬ (s.size : Int) < (s.size : Int) := by omega
        have bk := KK.out.back
        rw [O0.out] at bk
        subst hu
        generalize (O.take s.size).length = LL at *
        go_wp2
        go_ret2
        exact ⟨rfl, KB.out⟩
  · have h4 : ¬ n < s.size := by have := of_decide_eq_false h1; omega
    have h3 : decide (n < s.size) = false := decide_eq_false h4
    go_enter Try.func13, Try.ntmps13
    go_wp2
    go_loopw [10, 47] (fun u i wr => ∃ (j : Nat), j ≤ n ∧ i = .int .i64 j ∧ Kept (Kb w.heap.size wr u (O.take j)) ∧ Kept (Below w.heap.size w wr)) (fun _ i _ => n - (intOf i).toNat)
    case atStart => exact ⟨0, Nat.zero_le _, rfl, K0, B0⟩
    case round =>
      obtain ⟨j, hj, rfl, KK, KB⟩ := hrel
      obtain ⟨ua, uc, hu⟩ := KK.out.len
      by_cases hlt : j < n
      · have hz : (j : Int) < (n : Int) := by omega
        have hll : (O.take j).length + 1 ≤ 140737488351232 := by rw [List.length_take, OL.out]; omega
        obtain ⟨v', w2, r1, r2, r3⟩ := app_byte w.heap.size wr _ _ (O.getD j 0) KK.out KB.out.size hll
        rw [← take_more O j (by rw [OL.out]; exact hlt)] at r2
        have oj := OA.out j
        have R2 := keep r2
        have R3 := keep (KB.out.trans r3)
        have RJ := keep (RA.out j)
        subst hu
        clear r2 r3 hll KK
        generalize (O.take j).length = LL at *
        by_cases c1 : p ≤ j ∧ j < p + v.size
        · rw [if_pos c1] at oj
          obtain ⟨d, hd⟩ : ∃ d, d = j - p := ⟨_, rfl⟩
          have hd2 : d < v.size := by omega
          rw [← hd, ← getD_at v d hd2] at oj
          have hd1 : (j : Int) - (p : Int) = (d : Int) := by omega
          have c2 : (p : Int) ≤ (j : Int) := by omega
          have c3 : (j : Int) < (p : Int) + (v.size : Int) := by omega
          have hd3 : (d : Int) < (v.size : Int) := by omega
          have hd4 : (0 : Int) ≤ (d : Int) := by omega
          rw [oj] at r1
          have R1 := keep r1
          clear r1 oj c1 hd
          go_wp2_with fail
          refine (RJ.out _).mono ?_
          rintro e w' ⟨rfl, rfl⟩
          go_wp2_with (first | (at_builtin; refine wpList_app_run rfl _ _ _ _ rfl _ _ _ rfl rfl R1.out ?_))
          go_roundw
          case measure => simp [intOf]; omega
          case rel => exact ⟨j + 1, by omega, by go_num, R2, R3⟩
        · rw [if_neg c1] at oj
          rw [oj] at r1
          generalize s.data.toList.getD j 0 = z at *
          have R1 := keep r1
          clear r1 oj
          by_cases c2 : (p : Int) ≤ (j : Int)
          · exfalso; omega
          · clear c1
            go_wp2_with fail
            refine (RJ.out _).mono ?_
            rintro e w' ⟨rfl, rfl⟩
            go_wp2_with (first | (at_builtin; refine wpList_app_run rfl _ _ _ _ rfl _ _ _ rfl rfl R1.out ?_))
            go_roundw
            case measure => simp [intOf]; omega
            case rel => exact ⟨j + 1, by omega, by go_num, R2, R3⟩
      · obtain rfl : j = n := by omega
        have hz : ¬ (j : Int) < (j : Int) := by omega
        have bk := KK.out.back
        rw [O0.out] at bk
        subst hu
        generalize (O.take j).length = LL at *
        go_wp2
        go_ret2
        exact ⟨rfl, KB.out⟩
set_option maxRecDepth 100000 in
set_option maxHeartbeats 1000000 in
theorem rover_any (s : ByteArray) (a : Int) (v : ByteArray) (w : World) (h1 : -9223372036854775808 ≤ a) (h2 : a ≤ 9223372036854775807) (hs : s.size ≤ reachBytes) (hv : v.size ≤ reachBytes) :
    Calls Try.prog 13 #[.string s, .int .i64 a, .string v] w fun e w' => e = .returned (.tuple #[.string (ovl s a v).1, .int .i64 (ovl s a v).2]) ∧ Below w.heap.size w w' := by
  unfold reachBytes at hs hv
  have hB := keep (Below.refl w.heap.size w)
  unfold ovl
  by_cases c1 : a < 0
  · rw [if_pos c1]
    go_enter Try.func13, Try.ntmps13
    go_wp2
    go_ret2
    exact ⟨rfl, hB.out⟩
  · rw [if_neg c1]
    by_cases c2 : v.size = 0
    · rw [if_pos c2]
      have d2 : ((v.size : Int) == 0) = true := beq_iff_eq.2 (by omega)
      go_enter Try.func13, Try.ntmps13
      go_wp2
      go_ret2
      exact ⟨rfl, hB.out⟩
    · rw [if_neg c2]
      obtain ⟨p, rfl⟩ : ∃ p : Nat, a = (p : Int) := ⟨a.toNat, by omega⟩
      rw [Int.toNat_natCast]
      by_cases c3 : 1048576 < s.size ∨ 1048576 < p + v.size
      · rw [if_pos c3]
        have d0 : decide ((p : Int) < 0) = false := decide_eq_false (by omega)
        have d2 : ((v.size : Int) == 0) = false := beq_eq_false_iff_ne.2 (by omega)
        have hc4 : decide (1048576 < (s.size : Int)) = true ∨ (decide (1048576 < (s.size : Int)) = false ∧ decide (1048576 < (p : Int)) = true) ∨ (decide (1048576 < (s.size : Int)) = false ∧ decide (1048576 < (p : Int)) = false ∧ decide (1048576 < (p : Int) + (v.size : Int)) = true ∧ (p : Int) + (v.size : Int) ≤ 9223372036854775807) := by
          by_cases a1 : 1048576 < s.size
          · exact .inl (decide_eq_true (by omega))
          · by_cases a2 : 1048576 < p
            · exact .inr (.inl ⟨decide_eq_false (by omega), decide_eq_true (by omega)⟩)
            · exact .inr (.inr ⟨decide_eq_false (by omega), decide_eq_false (by omega), decide_eq_true (by omega), by omega⟩)
        clear c3 h1 h2 c1 c2
        rcases hc4 with a1 | ⟨a1, a2⟩ | ⟨a1, a2, a3, a4⟩
        all_goals
          go_enter Try.func13, Try.ntmps13
          go_wp2
          go_ret2
          exact ⟨rfl, hB.out⟩
      · rw [if_neg c3]
        exact rover_go s v p w (by omega) (by omega) (by omega)
end Go.Proofs.Ytlkplmlhlgnnkaa
