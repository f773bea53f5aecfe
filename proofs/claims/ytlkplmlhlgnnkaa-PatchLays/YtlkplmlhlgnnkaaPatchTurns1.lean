/-
  Contracts over this program: the statement PatchTurns at any input: a bit that is set.
-/
import Derived.Test.YtlkplmlhlgnnkaaPatchTurns0
namespace Go.Proofs.Ytlkplmlhlgnnkaa
open Go.RowKit
set_option linter.unusedVariables false
theorem ne_self (x : Int) : (x != x) = false := by simp
theorem bv_cases (s : ByteArray) (o : Int) : (∃ x : Nat, bitV s o = ((x : Int), 0) ∧ decide (0 ≤ o) = true ∧ decide (o < 1073741824) = true) ∨ (bitV s o = (0, 3) ∧ ((0 ≤ o) = False ∨ (decide (0 ≤ o) = true ∧ decide (o < 1073741824) = false))) := by
  unfold bitV
  by_cases c : o < 0 ∨ 1073741824 ≤ o
  · rw [if_pos c]
    refine .inr ⟨rfl, ?_⟩
    by_cases c0 : o < 0
    · exact .inl (eq_false (by omega))
    · exact .inr ⟨decide_eq_true (by omega), decide_eq_false (by omega)⟩
  · rw [if_neg c]
    exact .inl ⟨_, rfl, decide_eq_true (by omega), decide_eq_true (by omega)⟩
set_option maxRecDepth 100000 in
set_option maxHeartbeats 4000000 in
theorem turns_good (s : ByteArray) (p n : Nat) (o : Int) (w : World) (hs : s.size ≤ 1048576) (hp : p < 8388608) (hn : n < 2) (h1 : -9223372036854775808 ≤ o) (h2 : o ≤ 9223372036854775807) :
    Calls Try.prog 7 #[.string s, .int .i64 p, .int .i64 n, .int .i64 o] w fun e w' => e = .returned (.bool true) ∧ Below w.heap.size w w' := by
  have hsr : s.size ≤ reachBytes := Nat.le_trans hs (by decide)
  obtain ⟨S, R, v, M, f1, f2, hv, f3, f4, f5, f6, f7, f8, f9, f10, f11⟩ := set_facts s p n hn hs hp
  have hSr : S.size ≤ reachBytes := Nat.le_trans (by omega : S.size ≤ 1048576) (by decide)
  have S1 := keep fun w => setbit_any s p n w hsr (by omega) (by omega)
  have S2 := keep fun w => setbit_any S p v w hSr (by omega) (by omega)
  have B1 := keep fun w => bit_any s p w hsr (by omega) (by omega)
  have B2 := keep fun w => bit_any S p w hSr (by omega) (by omega)
  have B3 := keep fun w => bit_any s o w hsr h1 h2
  have B4 := keep fun w => bit_any S o w hSr h1 h2
  have O1 := keep fun w => ones_all s w hsr
  have O2 := keep fun w => ones_all S w hSr
  have l1 := Pt.ones_le s.data.toList
  have l2 := Pt.ones_le S.data.toList
  rw [len_is] at l1 l2
  rw [f1] at S1
  rw [f2] at S2
  rw [f7] at B1
  rw [f8] at B2
  generalize Pt.ones s.data.toList = o1 at *
  generalize Pt.ones S.data.toList = o2 at *
  have g1 : (o2 : Int) = (o1 : Int) + (n : Int) - (v : Int) := by omega
  have g0 : (o1 : Int) + (n : Int) ≤ 9223372036854775807 := by omega
  have g2 : (p : Int) / 8 + 1 ≤ 1048576 := by omega
  have i1 : decide ((p : Int) < 0) = false := decide_eq_false (by omega)
  have i2 : decide (1073741824 ≤ (p : Int)) = false := decide_eq_false (by omega)
  have i3 : decide ((n : Int) < 0) = false := decide_eq_false (by omega)
  have i4 : decide (1 < (n : Int)) = false := decide_eq_false (by omega)
  have i5 : decide (1048576 < (s.size : Int)) = false := decide_eq_false (by omega)
  have i6 : decide (8388608 ≤ (p : Int)) = false := decide_eq_false (by omega)
  have E1 := keep f6
  have E2 := keep f9
  have M5 := keep f5
  have o1b : (o1 : Int) ≤ 8388608 := by omega
  clear f1 f2 f6 f7 f8 f9 f10 l1 l2 hsr hSr f11
  have hM : (((p : Int) / 8 + 1 ≤ (s.size : Int)) ∧ ((S.size : Int) != (s.size : Int)) = false) ∨ (¬ ((p : Int) / 8 + 1 ≤ (s.size : Int)) ∧ ((S.size : Int) != (p : Int) / 8 + 1) = false) := by
    by_cases c : (p : Int) / 8 + 1 ≤ (s.size : Int)
    · exact .inl ⟨c, by have : (S.size : Int) = (s.size : Int) := by omega
                        rw [this]; exact ne_self _⟩
    · exact .inr ⟨c, by have : (S.size : Int) = (p : Int) / 8 + 1 := by omega
                        rw [this]; exact ne_self _⟩
  have hRS : ((R.size : Int) != (S.size : Int)) = false := by rw [f3, f4]; exact ne_self _
  have hsR : s.size ≤ R.size := by omega
  clear f5 f3 f4
  have hRx : ((R.extract 0 s.size).toList == s.toList) = true := by rw [E1.out]; exact beq_self_eq_true _
  have hsum : ((o2 : Int) == (o1 : Int) + (n : Int) - (v : Int)) = true := by rw [g1]; simp
  have hs2 : (s.size : Int) ≤ (R.size : Int) := by omega
  clear g1 hs hp hn h1 h2 hsR
  by_cases e : o = (p : Int)
  · subst e
    clear B3 B4
    rcases hM with ⟨m1, m2⟩ | ⟨m1, m2⟩
    all_goals
      go_enter Try.func7, Try.ntmps7
      go_wp2_with fail
      refine (wakes_any _).mono ?_
      rintro e w1 ⟨rfl, b1⟩
      go_wp2_with fail
      refine (S1.out _).mono ?_
      rintro e w2 ⟨rfl, b2'⟩
      have b2 := b1.trans (b2'.mono b1.size)
      clear b1 b2'
      go_wp2_with fail
      refine (B1.out _).mono ?_
      rintro e w2 ⟨rfl, hw⟩
      obtain rfl := hw.symm
      go_wp2_with fail
      refine (B2.out _).mono ?_
      rintro e w2 ⟨rfl, hw⟩
      obtain rfl := hw.symm
      go_wp2_with fail
      refine (S2.out _).mono ?_
      rintro e w3 ⟨rfl, b3'⟩
      have b3 := b2.trans (b3'.mono b2.size)
      have B3k := keep b3
      have HSUM := keep hsum
      have G0 := keep g0
      clear b2 b3' b3 i1 i2 i3 i4 i5 i6 g0 g2 hsum m1 m2 B1 B2 S1 S2
      go_wp2_with fail
      have b3 := B3k.out
      have hsum := HSUM.out
      have g0 := G0.out
      refine (O2.out _).mono ?_
      rintro e w4 ⟨rfl, b4'⟩
      have b4 := b3.trans (b4'.mono b3.size)
      clear b3 b4'
      go_wp2_with fail
      refine (O1.out _).mono ?_
      rintro e w5 ⟨rfl, b5'⟩
      have b5 := keep (b4.trans (b5'.mono b4.size))
      clear b4 b5'
      go_wp2
      go_ret
      exact ⟨rfl, b5.out⟩
  · have ne : (o != (p : Int)) = true := by simpa using e
    rw [E2.out o e] at B4
    clear e
    rcases bv_cases s o with ⟨x, q1, q2, q3⟩ | ⟨q1, q2 | ⟨q2, q3⟩⟩
    all_goals
      rw [q1] at B3 B4
      clear q1
      rcases hM with ⟨m1, m2⟩ | ⟨m1, m2⟩
    all_goals
      go_enter Try.func7, Try.ntmps7
      go_wp2_with fail
      refine (wakes_any _).mono ?_
      rintro e w1 ⟨rfl, b1⟩
      go_wp2_with fail
      refine (S1.out _).mono ?_
      rintro e w2 ⟨rfl, b2'⟩
      have b2 := b1.trans (b2'.mono b1.size)
      clear b1 b2'
      go_wp2_with fail
      refine (B1.out _).mono ?_
      rintro e w2 ⟨rfl, hw⟩
      obtain rfl := hw.symm
      go_wp2_with fail
      refine (B2.out _).mono ?_
      rintro e w2 ⟨rfl, hw⟩
      obtain rfl := hw.symm
      go_wp2_with fail
      refine (B3.out _).mono ?_
      rintro e w2 ⟨rfl, hw⟩
      obtain rfl := hw.symm
      go_wp2_with fail
      refine (B4.out _).mono ?_
      rintro e w2 ⟨rfl, hw⟩
      obtain rfl := hw.symm
      go_wp2_with fail
      refine (S2.out _).mono ?_
      rintro e w3 ⟨rfl, b3'⟩
      have b3 := b2.trans (b3'.mono b2.size)
      have B3k := keep b3
      have HSUM := keep hsum
      have G0 := keep g0
      clear b2 b3' b3 i1 i2 i3 i4 i5 i6 g0 g2 hsum m1 m2 B1 B2 S1 S2
      go_wp2_with fail
      have b3 := B3k.out
      have hsum := HSUM.out
      have g0 := G0.out
      refine (O2.out _).mono ?_
      rintro e w4 ⟨rfl, b4'⟩
      have b4 := b3.trans (b4'.mono b3.size)
      clear b3 b4'
      go_wp2_with fail
      refine (O1.out _).mono ?_
      rintro e w5 ⟨rfl, b5'⟩
      have b5 := keep (b4.trans (b5'.mono b4.size))
      clear b4 b5'
      go_wp2
      go_ret
      exact ⟨rfl, b5.out⟩
end Go.Proofs.Ytlkplmlhlgnnkaa
