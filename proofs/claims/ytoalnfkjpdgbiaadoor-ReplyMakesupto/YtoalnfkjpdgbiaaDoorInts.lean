/-
  Contracts over this program: what strings.CutPrefix at a minus and digit.Int answer at any word.
-/
import Derived.Test.YtoalnfkjpdgbiaaDoorProg
import Derived.Test.YtoalnfkjpdgbiaaDoorWords
import Derived.WalkKit
import Derived.OpenShut
import Derived.Outline
import Derived.WalkLawsBesides
import Derived.Lib.Strings
/-
  Contracts over this program: what digit.oneWay and digit.Uint answer at any word.
-/
namespace Go.Proofs.YtoalnfkjpdgbiaaDoor
open Go.RowKit
set_option maxHeartbeats 400000 in
theorem oneWay_any (s : ByteArray) (w : World) (hs : s.size ≤ maxLen) :
    Calls Tryd.prog 115 #[.string s] w fun e w' => e = .returned (.bool (Pl.form 20 s.data.toList)) ∧ w' = w := by
  unfold maxLen at hs
  by_cases c0 : s.size = 0
  · rw [Pl.form_no0 s 20 c0]
    have c1 : ((s.size : Int) == 0) = true := by simp [c0]
    go_enter Tryd.func115, Tryd.ntmps115
    go_wp2
    go_ret
    exact ⟨rfl, rfl⟩
  · have c1 : ((s.size : Int) == 0) = false := beq_eq_false_iff_ne.2 (by omega)
    by_cases c2 : 20 < s.size
    · rw [Pl.form_noL s 20 c2]
      go_enter Tryd.func115, Tryd.ntmps115
      go_wp2
      go_ret
      exact ⟨rfl, rfl⟩
    · have hp : 0 < s.size := by omega
      by_cases c3 : s.size = 1
      · rw [Pl.form_one s 20 c3 (by omega)]
        have c4 : ((s.size : Int) == 1) = true := by simp [c3]
        go_enter Tryd.func115, Tryd.ntmps115
        go_wp2
        all_goals
          go_ret
          exact ⟨rfl, rfl⟩
      · have c4 : ((s.size : Int) == 1) = false := beq_eq_false_iff_ne.2 (by omega)
        by_cases c5 : (s[0].toNat : Int) = 48
        · rw [Pl.form_noN s 20 hp c3 c5]
          go_enter Tryd.func115, Tryd.ntmps115
          go_wp2
          go_ret
          exact ⟨rfl, rfl⟩
        · rw [Pl.form_yes s 20 hp (by omega) c5]
          go_enter Tryd.func115, Tryd.ntmps115
          go_wp2
          go_ret
          exact ⟨rfl, rfl⟩
theorem ret_ii {k l : IntKind} {a b c d : Int} (h : a = c) (g : b = d) : Ending.returned (.tuple #[.int k a, .int l b]) = .returned (.tuple #[.int k c, .int l d]) := by rw [h, g]
set_option maxHeartbeats 400000 in
theorem uint_form (s : ByteArray) (w : World) (hs : s.size ≤ maxLen) (hf : Pl.form 20 s.data.toList = true) :
    Calls Tryd.prog 91 #[.string s] w fun e w' => e = .returned (.tuple #[.int .u64 (Pl.uv s.data.toList), .int .i64 (Pl.uc s.data.toList)]) ∧ w' = w := by
  have how := oneWay_any s w hs
  rw [hf] at how
  have H := keep how
  have HF := keep hf
  clear how hf
  unfold maxLen at hs
  go_enter Tryd.func91, Tryd.ntmps91
  go_wp2_with fail
  refine H.out.mono ?_
  rintro e w' ⟨rfl, rfl⟩
  go_wp2
  go_loop [4, 12] (fun n i => ∃ k : Nat, k ≤ s.size ∧ i = .int .i64 k ∧ n = .int .u64 (Pl.val (s.data.toList.take k) : Nat) ∧ (s.data.toList.take k).all Pl.isD = true ∧ Pl.val (s.data.toList.take k) < 18446744073709551616) (fun _ i => s.size - (intOf i).toNat)
  case atStart => exact ⟨0, Nat.zero_le _, rfl, rfl, rfl, by rw [List.take_zero, Pl.val_nil]; omega⟩
  case round =>
    obtain ⟨k, hk, rfl, rfl, ha, hv⟩ := hrel
    have HA := keep ha
    clear ha
    by_cases hlt : k < s.size
    · generalize hx : Pl.val (s.data.toList.take k) = v at *
      have HX := keep hx
      clear hx
      by_cases d1 : 48 ≤ (s[k].toNat : Int)
      · by_cases d2 : (s[k].toNat : Int) ≤ 57
        · by_cases d3 : (v : Int) ≤ (18446744073709551615 - ((s[k].toNat : Int) - 48)) / 10
          · have st := keep (Pl.u_step s k hlt v HX.out d1 d2 d3)
            go_wp2
            go_round
            case rel => exact ⟨k + 1, hlt, by go_num, by rw [st.out.1], Pl.all_step s k hlt HA.out (Pl.dig_yes d1 d2), st.out.2⟩
            case measure => simp [intOf]; omega
          · have st := keep (Pl.u_no2 (Pl.u_over s k hlt v HX.out d1 d2 d3))
            go_wp2
            go_ret2
            exact ⟨ret_ii st.out.1.symm st.out.2.symm, rfl⟩
        · have st := keep (Pl.u_no1 (Pl.not_word_all (m := 20) (Pl.all_no s k hlt (Pl.dig_no2 d2))))
          go_wp2
          go_ret2
          exact ⟨ret_ii st.out.1.symm st.out.2.symm, rfl⟩
      · have st := keep (Pl.u_no1 (Pl.not_word_all (m := 20) (Pl.all_no s k hlt (Pl.dig_no1 d1))))
        go_wp2
        go_ret2
        exact ⟨ret_ii st.out.1.symm st.out.2.symm, rfl⟩
    · have st : Kept (Pl.uv s.data.toList = ((Pl.val (s.data.toList.take k) : Nat) : Int) ∧ Pl.uc s.data.toList = 0) := by
        have e := Pl.take_all s k (by omega)
        have ha := HA.out
        rw [e] at ha hv ⊢
        exact Pl.u_yes (by unfold Pl.word; rw [HF.out, ha]; rfl) hv
      go_wp2
      go_ret2
      exact ⟨ret_ii st.out.1.symm st.out.2.symm, rfl⟩
set_option maxHeartbeats 400000 in
theorem uint_any (s : ByteArray) (w : World) (hs : s.size ≤ maxLen) :
    Calls Tryd.prog 91 #[.string s] w fun e w' => e = .returned (.tuple #[.int .u64 (Pl.uv s.data.toList), .int .i64 (Pl.uc s.data.toList)]) ∧ w' = w := by
  by_cases hf : Pl.form 20 s.data.toList = true
  · exact uint_form s w hs hf
  · have hf' : Pl.form 20 s.data.toList = false := by simpa using hf
    have how := oneWay_any s w hs
    rw [hf'] at how
    have H := keep how
    have st := keep (Pl.u_no1 (Pl.not_word_form hf'))
    clear how hf hf'
    go_enter Tryd.func91, Tryd.ntmps91
    go_wp2_with fail
    refine H.out.mono ?_
    rintro e w' ⟨rfl, rfl⟩
    go_wp2
    go_ret2
    exact ⟨ret_ii st.out.1.symm st.out.2.symm, rfl⟩
end Go.Proofs.YtoalnfkjpdgbiaaDoor

namespace Go.Proofs.YtoalnfkjpdgbiaaDoor
open Go.RowKit
theorem cut_q (s : ByteArray) : ((s.extract 0 1).toList == [45]) = Pl.neg s.data.toList := by
  rw [Lib.extract_toList]
  unfold Pl.neg
  cases s.data.toList with
  | nil => rfl
  | cons c r => simp
theorem cut_body (s : ByteArray) (h : Pl.neg s.data.toList = true) : (s.extract 1 s.size).data.toList = Pl.body s.data.toList := by
  rw [Lib.extract_data]
  unfold Pl.body
  rw [h, if_pos rfl, List.take_of_length_le (by rw [List.length_drop, Pl.len]; omega), List.drop_one]
theorem not_neg (s : ByteArray) (h : ¬ 0 < s.size) : Pl.neg s.data.toList = false := by
  have : s.data.toList = [] := List.length_eq_zero_iff.1 (by rw [Pl.len]; omega)
  rw [this]; rfl
theorem body_same {l : List UInt8} (h : Pl.neg l = false) : Pl.body l = l := by unfold Pl.body; rw [h]; rfl
set_option maxHeartbeats 400000 in
theorem cut_any (s : ByteArray) (w : World) (hs : s.size ≤ maxLen) :
    Calls Tryd.prog 90 #[.string s, .string ⟨#[45]⟩] w fun e w' => (∃ t : ByteArray, e = .returned (.tuple #[.string t, .bool (Pl.neg s.data.toList)]) ∧ t.data.toList = Pl.body s.data.toList ∧ t.size ≤ maxLen) ∧ w' = w := by
  have hq := cut_q s
  by_cases c0 : 0 < s.size
  · have c1 : 1 ≤ (s.size : Int) := by omega
    by_cases hn : Pl.neg s.data.toList = true
    · have hb := keep (cut_body s hn)
      have hz := keep (show (s.extract 1 s.size).size ≤ maxLen by rw [ByteArray.size_extract]; omega)
      rw [hn] at hq ⊢
      clear hn
      unfold maxLen at hs
      go_enter Tryd.func90, Tryd.ntmps90
      go_wp2
      go_ret2
      exact ⟨⟨_, rfl, hb.out, hz.out⟩, rfl⟩
    · have hn' : Pl.neg s.data.toList = false := by simpa using hn
      have hb := keep (body_same hn').symm
      have hz := keep hs
      rw [hn'] at hq ⊢
      clear hn hn'
      unfold maxLen at hs
      go_enter Tryd.func90, Tryd.ntmps90
      go_wp2
      go_ret2
      exact ⟨⟨_, rfl, hb.out, hz.out⟩, rfl⟩
  · have hn' := not_neg s c0
    have hb := keep (body_same hn').symm
    have hz := keep hs
    rw [hn']
    clear hn' hq
    unfold maxLen at hs
    go_enter Tryd.func90, Tryd.ntmps90
    go_wp2
    go_ret2
    exact ⟨⟨_, rfl, hb.out, hz.out⟩, rfl⟩
theorem neg_back (v : Nat) (h3 : 0 < v) (h4 : v ≤ 9223372036854775808) : wrap64 (IntKind.u64.wrap (- (v : Int))) = - (v : Int) := by
  rw [IntKind.wrap_u64]; unfold wrap64; omega
/-- what Int does behind Uint's answer -/
theorem uint_at {t : ByteArray} {l : List UInt8} {a b : Int} (w : World) (ht : t.data.toList = l) (hts : t.size ≤ maxLen) (h1 : Pl.uv l = a) (h2 : Pl.uc l = b) :
    Calls Tryd.prog 91 #[.string t] w fun e w' => e = .returned (.tuple #[.int .u64 a, .int .i64 b]) ∧ w' = w := by
  have h := uint_any t w hts
  rw [ht, h1, h2] at h
  exact h
set_option maxHeartbeats 400000 in
theorem int_bad (s : ByteArray) (w : World) (hs : s.size ≤ maxLen) (h1 : Pl.uv (Pl.body s.data.toList) = 0) (h2 : Pl.uc (Pl.body s.data.toList) = 10) :
    Calls Tryd.prog 71 #[.string s] w fun e w' => e = .returned (.tuple #[.int .i64 0, .int .i64 10]) ∧ w' = w := by
  have H1 := keep h1
  have H2 := keep h2
  clear h1 h2
  go_enter Tryd.func71, Tryd.ntmps71
  go_wp2_with fail
  refine (cut_any s _ hs).mono ?_
  rintro e w' ⟨⟨t, rfl, ht, hts⟩, rfl⟩
  have HT := keep ht
  clear ht
  go_wp2_with fail
  refine (uint_at _ HT.out hts H1.out H2.out).mono ?_
  rintro e w' ⟨rfl, rfl⟩
  go_wp2
  go_ret2
  exact ⟨rfl, rfl⟩
set_option maxHeartbeats 400000 in
theorem int_neg (s : ByteArray) (w : World) (hs : s.size ≤ maxLen) (v : Nat) (hn : Pl.neg s.data.toList = true) (h1 : Pl.uv (Pl.body s.data.toList) = v) (h2 : Pl.uc (Pl.body s.data.toList) = 0) (h3 : 0 < v) (h4 : v ≤ 9223372036854775808) :
    Calls Tryd.prog 71 #[.string s] w fun e w' => e = .returned (.tuple #[.int .i64 (- (v : Int)), .int .i64 0]) ∧ w' = w := by
  have H1 := keep h1
  have H2 := keep h2
  clear h1 h2
  have c1 : ((v : Int) == 0) = false := beq_eq_false_iff_ne.2 (by omega)
  have hc := cut_any s w hs
  rw [hn] at hc
  have HC := keep hc
  clear hc hn
  go_enter Tryd.func71, Tryd.ntmps71
  go_wp2_with fail
  refine HC.out.mono ?_
  rintro e w' ⟨⟨t, rfl, ht, hts⟩, rfl⟩
  have HT := keep ht
  clear ht
  go_wp2_with fail
  refine (uint_at _ HT.out hts H1.out H2.out).mono ?_
  rintro e w' ⟨rfl, rfl⟩
  go_wp2
  go_ret2
  exact ⟨ret_ii (neg_back v h3 h4) rfl, rfl⟩
set_option maxHeartbeats 400000 in
theorem int_neg0 (s : ByteArray) (w : World) (hs : s.size ≤ maxLen) (v : Nat) (hn : Pl.neg s.data.toList = true) (h1 : Pl.uv (Pl.body s.data.toList) = v) (h2 : Pl.uc (Pl.body s.data.toList) = 0) (h3 : v = 0 ∨ 9223372036854775808 < v) :
    Calls Tryd.prog 71 #[.string s] w fun e w' => e = .returned (.tuple #[.int .i64 0, .int .i64 10]) ∧ w' = w := by
  have H1 := keep h1
  have H2 := keep h2
  clear h1 h2
  have hc := cut_any s w hs
  rw [hn] at hc
  have HC := keep hc
  clear hc hn
  rcases h3 with rfl | h3
  · go_enter Tryd.func71, Tryd.ntmps71
    go_wp2_with fail
    refine HC.out.mono ?_
    rintro e w' ⟨⟨t, rfl, ht, hts⟩, rfl⟩
    have HT := keep ht
    clear ht
    go_wp2_with fail
    refine (uint_at _ HT.out hts H1.out H2.out).mono ?_
    rintro e w' ⟨rfl, rfl⟩
    go_wp2
    go_ret2
    exact ⟨rfl, rfl⟩
  · have c1 : ((v : Int) == 0) = false := beq_eq_false_iff_ne.2 (by omega)
    go_enter Tryd.func71, Tryd.ntmps71
    go_wp2_with fail
    refine HC.out.mono ?_
    rintro e w' ⟨⟨t, rfl, ht, hts⟩, rfl⟩
    have HT := keep ht
    clear ht
    go_wp2_with fail
    refine (uint_at _ HT.out hts H1.out H2.out).mono ?_
    rintro e w' ⟨rfl, rfl⟩
    go_wp2
    go_ret2
    exact ⟨rfl, rfl⟩
set_option maxHeartbeats 400000 in
theorem int_pos (s : ByteArray) (w : World) (hs : s.size ≤ maxLen) (v : Nat) (hn : Pl.neg s.data.toList = false) (h1 : Pl.uv (Pl.body s.data.toList) = v) (h2 : Pl.uc (Pl.body s.data.toList) = 0) (h3 : v < 9223372036854775808) :
    Calls Tryd.prog 71 #[.string s] w fun e w' => e = .returned (.tuple #[.int .i64 v, .int .i64 0]) ∧ w' = w := by
  have H1 := keep h1
  have H2 := keep h2
  clear h1 h2
  have hc := cut_any s w hs
  rw [hn] at hc
  have HC := keep hc
  clear hc hn
  go_enter Tryd.func71, Tryd.ntmps71
  go_wp2_with fail
  refine HC.out.mono ?_
  rintro e w' ⟨⟨t, rfl, ht, hts⟩, rfl⟩
  have HT := keep ht
  clear ht
  go_wp2_with fail
  refine (uint_at _ HT.out hts H1.out H2.out).mono ?_
  rintro e w' ⟨rfl, rfl⟩
  go_wp2
  go_ret2
  exact ⟨rfl, rfl⟩
set_option maxHeartbeats 400000 in
theorem int_pos0 (s : ByteArray) (w : World) (hs : s.size ≤ maxLen) (v : Nat) (hn : Pl.neg s.data.toList = false) (h1 : Pl.uv (Pl.body s.data.toList) = v) (h2 : Pl.uc (Pl.body s.data.toList) = 0) (h3 : ¬ v < 9223372036854775808) :
    Calls Tryd.prog 71 #[.string s] w fun e w' => e = .returned (.tuple #[.int .i64 0, .int .i64 10]) ∧ w' = w := by
  have H1 := keep h1
  have H2 := keep h2
  clear h1 h2
  have hc := cut_any s w hs
  rw [hn] at hc
  have HC := keep hc
  clear hc hn
  go_enter Tryd.func71, Tryd.ntmps71
  go_wp2_with fail
  refine HC.out.mono ?_
  rintro e w' ⟨⟨t, rfl, ht, hts⟩, rfl⟩
  have HT := keep ht
  clear ht
  go_wp2_with fail
  refine (uint_at _ HT.out hts H1.out H2.out).mono ?_
  rintro e w' ⟨rfl, rfl⟩
  go_wp2
  go_ret2
  exact ⟨rfl, rfl⟩
theorem int_any (s : ByteArray) (w : World) (hs : s.size ≤ maxLen) :
    Calls Tryd.prog 71 #[.string s] w fun e w' => e = .returned (.tuple #[.int .i64 (Pl.iv s.data.toList), .int .i64 (Pl.ic s.data.toList)]) ∧ w' = w := by
  cases hw : Pl.word 20 (Pl.body s.data.toList) with
  | false =>
    obtain ⟨e1, e2⟩ := Pl.u_no1 hw
    obtain ⟨g1, g2⟩ := Pl.i_no1 hw
    rw [g1, g2]
    exact int_bad s w hs e1 e2
  | true =>
    by_cases hv : Pl.val (Pl.body s.data.toList) < 18446744073709551616
    · obtain ⟨e1, e2⟩ := Pl.u_yes hw hv
      cases hn : Pl.neg s.data.toList with
      | true =>
        by_cases hz : 0 < Pl.val (Pl.body s.data.toList) ∧ Pl.val (Pl.body s.data.toList) ≤ 9223372036854775808
        · obtain ⟨g1, g2⟩ := Pl.i_neg hn hw hz.1 hz.2
          rw [g1, g2]
          exact int_neg s w hs _ hn e1 e2 hz.1 hz.2
        · obtain ⟨g1, g2⟩ := Pl.i_no2 hn hz
          rw [g1, g2]
          exact int_neg0 s w hs _ hn e1 e2 (by omega)
      | false =>
        by_cases hz : Pl.val (Pl.body s.data.toList) < 9223372036854775808
        · obtain ⟨g1, g2⟩ := Pl.i_pos hn hw hz
          rw [g1, g2]
          exact int_pos s w hs _ hn e1 e2 hz
        · obtain ⟨g1, g2⟩ := Pl.i_no3 hn hz
          rw [g1, g2]
          exact int_pos0 s w hs _ hn e1 e2 hz
    · obtain ⟨e1, e2⟩ := Pl.u_no2 hv
      have hi : Pl.iv s.data.toList = 0 ∧ Pl.ic s.data.toList = 10 := by
        cases hn : Pl.neg s.data.toList with
        | true => exact Pl.i_no2 hn (by omega)
        | false => exact Pl.i_no3 hn (by omega)
      rw [hi.1, hi.2]
      exact int_bad s w hs e1 e2
end Go.Proofs.YtoalnfkjpdgbiaaDoor
