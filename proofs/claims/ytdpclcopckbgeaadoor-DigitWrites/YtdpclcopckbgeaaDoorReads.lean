/-
  Contracts over this program: what digit.oneWay and digit.Uint answer at any word.
-/
import Derived.Test.YtdpclcopckbgeaaDoorProg
import Derived.Test.YtdpclcopckbgeaaDoorWords
import Derived.WalkKit
import Derived.OpenShut
import Derived.Outline
import Derived.WalkLawsBesides
namespace Go.Proofs.YtdpclcopckbgeaaDoor
open Go.RowKit
set_option maxHeartbeats 400000 in
theorem oneWay_any (s : ByteArray) (w : World) (hs : s.size ≤ maxLen) :
    Calls Tryd.prog 17 #[.string s] w fun e w' => e = .returned (.bool (Pl.form 20 s.data.toList)) ∧ w' = w := by
  unfold maxLen at hs
  by_cases c0 : s.size = 0
  · rw [Pl.form_no0 s 20 c0]
    have c1 : ((s.size : Int) == 0) = true := by simp [c0]
    go_enter Tryd.func17, Tryd.ntmps17
    go_wp2
    go_ret
    exact ⟨rfl, rfl⟩
  · have c1 : ((s.size : Int) == 0) = false := beq_eq_false_iff_ne.2 (by omega)
    by_cases c2 : 20 < s.size
    · rw [Pl.form_noL s 20 c2]
      go_enter Tryd.func17, Tryd.ntmps17
      go_wp2
      go_ret
      exact ⟨rfl, rfl⟩
    · have hp : 0 < s.size := by omega
      by_cases c3 : s.size = 1
      · rw [Pl.form_one s 20 c3 (by omega)]
        have c4 : ((s.size : Int) == 1) = true := by simp [c3]
        go_enter Tryd.func17, Tryd.ntmps17
        go_wp2
        all_goals
          go_ret
          exact ⟨rfl, rfl⟩
      · have c4 : ((s.size : Int) == 1) = false := beq_eq_false_iff_ne.2 (by omega)
        by_cases c5 : (s[0].toNat : Int) = 48
        · rw [Pl.form_noN s 20 hp c3 c5]
          go_enter Tryd.func17, Tryd.ntmps17
          go_wp2
          go_ret
          exact ⟨rfl, rfl⟩
        · rw [Pl.form_yes s 20 hp (by omega) c5]
          go_enter Tryd.func17, Tryd.ntmps17
          go_wp2
          go_ret
          exact ⟨rfl, rfl⟩
theorem ret_ii {k l : IntKind} {a b c d : Int} (h : a = c) (g : b = d) : Ending.returned (.tuple #[.int k a, .int l b]) = .returned (.tuple #[.int k c, .int l d]) := by rw [h, g]
set_option maxHeartbeats 400000 in
theorem uint_form (s : ByteArray) (w : World) (hs : s.size ≤ maxLen) (hf : Pl.form 20 s.data.toList = true) :
    Calls Tryd.prog 10 #[.string s] w fun e w' => e = .returned (.tuple #[.int .u64 (Pl.uv s.data.toList), .int .i64 (Pl.uc s.data.toList)]) ∧ w' = w := by
  have how := oneWay_any s w hs
  rw [hf] at how
  have H := keep how
  have HF := keep hf
  clear how hf
  unfold maxLen at hs
  go_enter Tryd.func10, Tryd.ntmps10
  go_wp2_with fail
  refine H.out.mono ?_
  rintro e w' ⟨rfl, rfl⟩
  go_wp2
  go_loop [4, 12] (fun n i => ∃ k : Nat, k ≤ s.size ∧ i = .int .i64 k ∧ n = .int .u64 (Pl.val (s.data.toList.take k) : Nat) ∧ (s.data.toList.take k).all Pl.isD = true ∧ Pl.val (s.data.toList.take k) < 18446744073709551616) (fun _ i => s.size - (intOf i).toNat)
  case atStart => exact ⟨0, Nat.zero_le _, rfl, rfl, rfl, by rw [List.take_zero, Pl.val_nil]; omega⟩
  case round =>
    obtain ⟨k, hk, rfl, rfl, ha, hv⟩ := hrel
    have HA := keep ha
    clear ha
    by_cases hlt : k < s.size
    · generalize hx : Pl.val (s.data.toList.take k) = v at *
      have HX := keep hx
      clear hx
      by_cases d1 : 48 ≤ (s[k].toNat : Int)
      · by_cases d2 : (s[k].toNat : Int) ≤ 57
        · by_cases d3 : (v : Int) ≤ (18446744073709551615 - ((s[k].toNat : Int) - 48)) / 10
          · have st := keep (Pl.u_step s k hlt v HX.out d1 d2 d3)
            go_wp2
            go_round
            case rel => exact ⟨k + 1, hlt, by go_num, by rw [st.out.1], Pl.all_step s k hlt HA.out (Pl.dig_yes d1 d2), st.out.2⟩
            case measure => simp [intOf]; omega
          · have st := keep (Pl.u_no2 (Pl.u_over s k hlt v HX.out d1 d2 d3))
            go_wp2
            go_ret2
            exact ⟨ret_ii st.out.1.symm st.out.2.symm, rfl⟩
        · have st := keep (Pl.u_no1 (Pl.not_word_all (m := 20) (Pl.all_no s k hlt (Pl.dig_no2 d2))))
          go_wp2
          go_ret2
          exact ⟨ret_ii st.out.1.symm st.out.2.symm, rfl⟩
      · have st := keep (Pl.u_no1 (Pl.not_word_all (m := 20) (Pl.all_no s k hlt (Pl.dig_no1 d1))))
        go_wp2
        go_ret2
        exact ⟨ret_ii st.out.1.symm st.out.2.symm, rfl⟩
    · have st : Kept (Pl.uv s.data.toList = ((Pl.val (s.data.toList.take k) : Nat) : Int) ∧ Pl.uc s.data.toList = 0) := by
        have e := Pl.take_all s k (by omega)
        have ha := HA.out
        rw [e] at ha hv ⊢
        exact Pl.u_yes (by unfold Pl.word; rw [HF.out, ha]; rfl) hv
      go_wp2
      go_ret2
      exact ⟨ret_ii st.out.1.symm st.out.2.symm, rfl⟩
set_option maxHeartbeats 400000 in
theorem uint_any (s : ByteArray) (w : World) (hs : s.size ≤ maxLen) :
    Calls Tryd.prog 10 #[.string s] w fun e w' => e = .returned (.tuple #[.int .u64 (Pl.uv s.data.toList), .int .i64 (Pl.uc s.data.toList)]) ∧ w' = w := by
  by_cases hf : Pl.form 20 s.data.toList = true
  · exact uint_form s w hs hf
  · have hf' : Pl.form 20 s.data.toList = false := by simpa using hf
    have how := oneWay_any s w hs
    rw [hf'] at how
    have H := keep how
    have st := keep (Pl.u_no1 (Pl.not_word_form hf'))
    clear how hf hf'
    go_enter Tryd.func10, Tryd.ntmps10
    go_wp2_with fail
    refine H.out.mono ?_
    rintro e w' ⟨rfl, rfl⟩
    go_wp2
    go_ret2
    exact ⟨ret_ii st.out.1.symm st.out.2.symm, rfl⟩
end Go.Proofs.YtdpclcopckbgeaaDoor
