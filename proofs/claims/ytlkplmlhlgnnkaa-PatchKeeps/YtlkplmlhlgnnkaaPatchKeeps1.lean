/-
  Contracts over this program: the statement PatchKeeps at any input: a text that is laid over.
-/
import Derived.Test.YtlkplmlhlgnnkaaPatchKeeps0
namespace Go.Proofs.Ytlkplmlhlgnnkaa
open Go.RowKit
set_option linter.unusedVariables false
set_option maxRecDepth 100000 in
set_option maxHeartbeats 4000000 in
theorem keeps_good (s v : ByteArray) (p : Nat) (w : World) (hv0 : 0 < v.size) (hs : s.size ≤ 1048576) (hp : p + v.size ≤ 1048576) :
    Calls Try.prog 6 #[.string s, .int .i64 p, .string v] w fun e w' => e = .returned (.bool true) ∧ Below w.heap.size w w' := by
  obtain ⟨S, f1, f2, f3, f4, f5⟩ := over_facts s v p hv0 hs hp
  have hml : (1048576 : Nat) ≤ maxLen := by decide
  have S1 := keep fun w => overlay_any s p v w (by omega) (by omega) (Nat.le_trans hs hml) (Nat.le_trans (by omega : v.size ≤ 1048576) hml)
  have S2 := keep fun w => overlay_any S p v w (by omega) (by omega) (Nat.le_trans (by omega : S.size ≤ 1048576) hml) (Nat.le_trans (by omega : v.size ≤ 1048576) hml)
  have S3 := keep fun w => slice_any S p ((p : Int) + (v.size : Int) - 1) w (by omega) (by omega) (by omega) (by omega) (Nat.le_trans (by omega : S.size ≤ 1048576) hml)
  rw [f1] at S1
  rw [f2] at S2
  rw [(cut_at S.size p v.size hv0 (by omega)).1, (cut_at S.size p v.size hv0 (by omega)).2, f4] at S3
  have F5 := keep f5
  have hem : v.toList.isEmpty = false := by rw [empty_eq]; exact decide_eq_false (by omega)
  have eS : (S.toList == S.toList) = true := beq_self_eq_true _
  have eV : (v.toList == v.toList) = true := beq_self_eq_true _
  have i1 : decide ((p : Int) < 0) = false := decide_eq_false (by omega)
  have i2 : decide (1048576 < (p : Int)) = false := decide_eq_false (by omega)
  have i3 : (p : Int) + (v.size : Int) ≤ 1048576 := by omega
  have hM : (((p : Int) + (v.size : Int) ≤ (s.size : Int)) ∧ ((S.size : Int) != (s.size : Int)) = false) ∨ (¬ ((p : Int) + (v.size : Int) ≤ (s.size : Int)) ∧ ((S.size : Int) != (p : Int) + (v.size : Int)) = false) := by
    by_cases c : (p : Int) + (v.size : Int) ≤ (s.size : Int)
    · exact .inl ⟨c, by have : (S.size : Int) = (s.size : Int) := by omega
                        rw [this]; exact ne_self _⟩
    · exact .inr ⟨c, by have : (S.size : Int) = (p : Int) + (v.size : Int) := by omega
                        rw [this]; exact ne_self _⟩
  have Sb : (S.size : Int) ≤ 1048576 := by omega
  clear f1 f2 f3 f4 f5 hml hs hp
  rcases hM with ⟨m1, m2⟩ | ⟨m1, m2⟩
  · go_enter Try.func6, Try.ntmps6
    go_wp2_with fail
    refine (wakes_any _).mono ?_
    rintro e w1 ⟨rfl, b1⟩
    go_wp2_with fail
    refine (S1.out _).mono ?_
    rintro e w2 ⟨rfl, b2'⟩
    have B2 := keep (b1.trans (b2'.mono b1.size))
    clear b1 b2'
    go_wp2
    clear m1 m2
    go_loopw [80] (fun i wr => ∃ (j : Nat), j ≤ S.size ∧ i = .int .i64 j ∧ wr = w2) (fun i _ => S.size - (intOf i).toNat)
    case atStart => exact ⟨0, Nat.zero_le _, rfl, rfl⟩
    case round =>
      obtain ⟨j, hj, rfl, hw⟩ := hrel
      obtain rfl := hw.symm
      by_cases hlt : j < S.size
      · have hz : (j : Int) < (S.size : Int) := by omega
        have hz0 : (0 : Int) ≤ (j : Int) := by omega
        obtain ⟨k1, k2, k3⟩ := F5.out j hlt
        by_cases c1 : p ≤ j ∧ j < p + v.size
        · have q1 := k1 c1
          obtain ⟨d, hd⟩ : ∃ d, d = j - p := ⟨_, rfl⟩
          have hd1 : (j : Int) - (p : Int) = (d : Int) := by omega
          have hd2 : d < v.size := by omega
          have q2 : S[j] = v[d] := by rw [q1]; congr 1; exact hd.symm
          have c2 : (p : Int) ≤ (j : Int) := by omega
          have c3 : (j : Int) < (p : Int) + (v.size : Int) := by omega
          have hd3 : (d : Int) < (v.size : Int) := by omega
          have hd4 : (0 : Int) ≤ (d : Int) := by omega
          clear k1 k2 k3 c1 q1 hd
          by_cases c4 : (j : Int) < (s.size : Int)
          all_goals
            go_wp2
            go_roundw
            case measure => simp [intOf]; omega
            case rel => exact ⟨j + 1, by omega, by go_num, trivial⟩
        · by_cases c4 : j < s.size
          · have q2 := k2 c1 c4
            have c5 : (j : Int) < (s.size : Int) := by omega
            clear k1 k2 k3
            by_cases c2 : (p : Int) ≤ (j : Int)
            · have c3 : ¬ (j : Int) < (p : Int) + (v.size : Int) := by omega
              clear c1
              go_wp2
              go_roundw
              case measure => simp [intOf]; omega
              case rel => exact ⟨j + 1, by omega, by go_num, trivial⟩
            · clear c1
              go_wp2
              go_roundw
              case measure => simp [intOf]; omega
              case rel => exact ⟨j + 1, by omega, by go_num, trivial⟩
          · have q2 := k3 c1 c4
            have c5 : ¬ (j : Int) < (s.size : Int) := by omega
            clear k1 k2 k3
            by_cases c2 : (p : Int) ≤ (j : Int)
            · have c3 : ¬ (j : Int) < (p : Int) + (v.size : Int) := by omega
              clear c1
              go_wp2
              go_roundw
              case measure => simp [intOf]; omega
              case rel => exact ⟨j + 1, by omega, by go_num, trivial⟩
            · clear c1
              go_wp2
              go_roundw
              case measure => simp [intOf]; omega
              case rel => exact ⟨j + 1, by omega, by go_num, trivial⟩
      · have hz : ¬ (j : Int) < (S.size : Int) := by omega
        go_wp2_with fail
        refine (S2.out _).mono ?_
        rintro e w3 ⟨rfl, b3'⟩
        have B3 := keep (B2.out.trans (b3'.mono B2.out.size))
        clear b3'
        go_wp2_with fail
        refine (S3.out _).mono ?_
        rintro e w4 ⟨rfl, b4'⟩
        have B4 := keep (B3.out.trans (b4'.mono B3.out.size))
        clear b4'
        go_wp2
        go_ret
        exact ⟨rfl, B4.out⟩
  · go_enter Try.func6, Try.ntmps6
    go_wp2_with fail
    refine (wakes_any _).mono ?_
    rintro e w1 ⟨rfl, b1⟩
    go_wp2_with fail
    refine (S1.out _).mono ?_
    rintro e w2 ⟨rfl, b2'⟩
    have B2 := keep (b1.trans (b2'.mono b1.size))
    clear b1 b2'
    go_wp2
    clear m1 m2
    go_loopw [80] (fun i wr => ∃ (j : Nat), j ≤ S.size ∧ i = .int .i64 j ∧ wr = w2) (fun i _ => S.size - (intOf i).toNat)
    case atStart => exact ⟨0, Nat.zero_le _, rfl, rfl⟩
    case round =>
      obtain ⟨j, hj, rfl, hw⟩ := hrel
      obtain rfl := hw.symm
      by_cases hlt : j < S.size
      · have hz : (j : Int) < (S.size : Int) := by omega
        have hz0 : (0 : Int) ≤ (j : Int) := by omega
        obtain ⟨k1, k2, k3⟩ := F5.out j hlt
        by_cases c1 : p ≤ j ∧ j < p + v.size
        · have q1 := k1 c1
          obtain ⟨d, hd⟩ : ∃ d, d = j - p := ⟨_, rfl⟩
          have hd1 : (j : Int) - (p : Int) = (d : Int) := by omega
          have hd2 : d < v.size := by omega
          have q2 : S[j] = v[d] := by rw [q1]; congr 1; exact hd.symm
          have c2 : (p : Int) ≤ (j : Int) := by omega
          have c3 : (j : Int) < (p : Int) + (v.size : Int) := by omega
          have hd3 : (d : Int) < (v.size : Int) := by omega
          have hd4 : (0 : Int) ≤ (d : Int) := by omega
          clear k1 k2 k3 c1 q1 hd
          by_cases c4 : (j : Int) < (s.size : Int)
          all_goals
            go_wp2
            go_roundw
            case measure => simp [intOf]; omega
            case rel => exact ⟨j + 1, by omega, by go_num, trivial⟩
        · by_cases c4 : j < s.size
          · have q2 := k2 c1 c4
            have c5 : (j : Int) < (s.size : Int) := by omega
            clear k1 k2 k3
            by_cases c2 : (p : Int) ≤ (j : Int)
            · have c3 : ¬ (j : Int) < (p : Int) + (v.size : Int) := by omega
              clear c1
              go_wp2
              go_roundw
              case measure => simp [intOf]; omega
              case rel => exact ⟨j + 1, by omega, by go_num, trivial⟩
            · clear c1
              go_wp2
              go_roundw
              case measure => simp [intOf]; omega
              case rel => exact ⟨j + 1, by omega, by go_num, trivial⟩
          · have q2 := k3 c1 c4
            have c5 : ¬ (j : Int) < (s.size : Int) := by omega
            clear k1 k2 k3
            by_cases c2 : (p : Int) ≤ (j : Int)
            · have c3 : ¬ (j : Int) < (p : Int) + (v.size : Int) := by omega
              clear c1
              go_wp2
              go_roundw
              case measure => simp [intOf]; omega
              case rel => exact ⟨j + 1, by omega, by go_num, trivial⟩
            · clear c1
              go_wp2
              go_roundw
              case measure => simp [intOf]; omega
              case rel => exact ⟨j + 1, by omega, by go_num, trivial⟩
      · have hz : ¬ (j : Int) < (S.size : Int) := by omega
        go_wp2_with fail
        refine (S2.out _).mono ?_
        rintro e w3 ⟨rfl, b3'⟩
        have B3 := keep (B2.out.trans (b3'.mono B2.out.size))
        clear b3'
        go_wp2_with fail
        refine (S3.out _).mono ?_
        rintro e w4 ⟨rfl, b4'⟩
        have B4 := keep (B3.out.trans (b4'.mono B3.out.size))
        clear b4'
        go_wp2
        go_ret
        exact ⟨rfl, B4.out⟩
end Go.Proofs.Ytlkplmlhlgnnkaa
