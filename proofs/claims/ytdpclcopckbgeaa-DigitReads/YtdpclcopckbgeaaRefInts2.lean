/-
  Contracts over this program: what the document's own Int answers at any word.
-/
import Derived.Test.YtdpclcopckbgeaaRefInts
namespace Go.Proofs.Ytdpclcopckbgeaa
open Go.RowKit
set_option maxHeartbeats 400000 in
theorem rint_nn (s : ByteArray) (w : World) (hs : s.size ≤ maxLen) (hp : 0 < s.size) (hn : ((s[0].toNat : Int) == 45) = true) (h : Pl.word 19 (s.extract 1 s.size).data.toList = false) :
    Calls Try.prog 7 #[.string s] w fun e w' => e = .returned (.tuple #[.int .i64 0, .int .i64 10]) ∧ w' = w := by
  have H := keep h
  have hz : (s.extract 1 s.size).size ≤ maxLen := by rw [ByteArray.size_extract]; omega
  have HZ := keep hz
  clear h hz
  unfold maxLen at hs
  have hp1 : 0 < (s.size : Int) := by omega
  go_enter Try.func7, Try.ntmps7
  go_wp2_with fail
  refine (digits_no (m := 19) _ rfl HZ.out (by omega) (by omega) H.out).mono ?_
  rintro e w' ⟨rfl, rfl⟩
  go_wp2
  go_ret2
  exact ⟨rfl, rfl⟩
set_option maxHeartbeats 400000 in
theorem rint_nz (s : ByteArray) (w : World) (hs : s.size ≤ maxLen) (hp : 0 < s.size) (hn : ((s[0].toNat : Int) == 45) = true) (h : Pl.word 19 (s.extract 1 s.size).data.toList = true) (hq : (s.extract 1 s.size).toList = [48]) :
    Calls Try.prog 7 #[.string s] w fun e w' => e = .returned (.tuple #[.int .i64 0, .int .i64 10]) ∧ w' = w := by
  have H := keep h
  have hz : (s.extract 1 s.size).size ≤ maxLen := by rw [ByteArray.size_extract]; omega
  have HZ := keep hz
  clear h hz
  have hq2 : ((s.extract 1 s.size).toList == [48]) = true := by rw [hq]; rfl
  have HQ := keep hq
  clear hq
  unfold maxLen at hs
  have hp1 : 0 < (s.size : Int) := by omega
  go_enter Try.func7, Try.ntmps7
  go_wp2_with fail
  refine (digits_yes (m := 19) (a := 0) (b := 0) _ rfl HZ.out (by omega) (by omega) H.out (by rw [← list_eq, HQ.out]; rfl) (by omega)).mono ?_
  rintro e w' ⟨rfl, rfl⟩
  go_wp2
  go_ret2
  exact ⟨rfl, rfl⟩
set_option maxHeartbeats 400000 in
theorem rint_no (s : ByteArray) (w : World) (hs : s.size ≤ maxLen) (hp : 0 < s.size) (hn : ((s[0].toNat : Int) == 45) = true) (h : Pl.word 19 (s.extract 1 s.size).data.toList = true) (a b : Nat) (hv : Pl.val (s.extract 1 s.size).data.toList = a * 1000000000000 + b) (hb : b < 1000000000000) (hq : ((s.extract 1 s.size).toList == [48]) = false) (ho : 9223372 * 1000000000000 + 36854775808 < a * 1000000000000 + b) :
    Calls Try.prog 7 #[.string s] w fun e w' => e = .returned (.tuple #[.int .i64 0, .int .i64 10]) ∧ w' = w := by
  have H := keep h
  have HV := keep hv
  have hz : (s.extract 1 s.size).size ≤ maxLen := by rw [ByteArray.size_extract]; omega
  have HZ := keep hz
  clear h hz hv
  unfold maxLen at hs
  have hp1 : 0 < (s.size : Int) := by omega
  go_enter Try.func7, Try.ntmps7
  go_wp2_with fail
  refine (digits_yes (m := 19) _ rfl HZ.out (by omega) (by omega) H.out HV.out hb).mono ?_
  rintro e w' ⟨rfl, rfl⟩
  go_wp2_with fail
  refine (above_yes _ a b 9223372 36854775808 _ rfl hb (by omega) ho).mono ?_
  rintro e w' ⟨rfl, rfl⟩
  go_wp2
  go_ret2
  exact ⟨rfl, rfl⟩
set_option maxHeartbeats 400000 in
theorem rint_ny (s : ByteArray) (w : World) (hs : s.size ≤ maxLen) (hp : 0 < s.size) (hn : ((s[0].toNat : Int) == 45) = true) (h : Pl.word 19 (s.extract 1 s.size).data.toList = true) (a b : Nat) (hv : Pl.val (s.extract 1 s.size).data.toList = a * 1000000000000 + b) (hb : b < 1000000000000) (hq : ((s.extract 1 s.size).toList == [48]) = false) (ho : ¬ 9223372 * 1000000000000 + 36854775808 < a * 1000000000000 + b) :
    Calls Try.prog 7 #[.string s] w fun e w' => e = .returned (.tuple #[.int .i64 (- ((a : Int) * 1000000000000 + b)), .int .i64 0]) ∧ w' = w := by
  have H := keep h
  have HV := keep hv
  have hz : (s.extract 1 s.size).size ≤ maxLen := by rw [ByteArray.size_extract]; omega
  have HZ := keep hz
  clear h hz hv
  unfold maxLen at hs
  have hp1 : 0 < (s.size : Int) := by omega
  go_enter Try.func7, Try.ntmps7
  go_wp2_with fail
  refine (digits_yes (m := 19) _ rfl HZ.out (by omega) (by omega) H.out HV.out hb).mono ?_
  rintro e w' ⟨rfl, rfl⟩
  go_wp2_with fail
  refine (above_no _ a b 9223372 36854775808 _ rfl hb (by omega) ho).mono ?_
  rintro e w' ⟨rfl, rfl⟩
  go_wp2
  go_ret2
  exact ⟨ret_ii (by omega) rfl, rfl⟩
set_option maxHeartbeats 400000 in
theorem rint_pn (s : ByteArray) (w : World) (hs : s.size ≤ maxLen) (hp : ∀ _h : 0 < s.size, ((s[0].toNat : Int) == 45) = false) (h : Pl.word 19 s.data.toList = false) :
    Calls Try.prog 7 #[.string s] w fun e w' => e = .returned (.tuple #[.int .i64 0, .int .i64 10]) ∧ w' = w := by
  have H := keep h
  have HZ := keep hs
  clear h
  unfold maxLen at hs
  by_cases hp0 : 0 < s.size
  · have hn := hp hp0
    clear hp
    have hp1 : 0 < (s.size : Int) := by omega
    go_enter Try.func7, Try.ntmps7
    go_wp2_with fail
    refine (digits_no (m := 19) _ rfl HZ.out (by omega) (by omega) H.out).mono ?_
    rintro e w' ⟨rfl, rfl⟩
    go_wp2
    go_ret2
    exact ⟨rfl, rfl⟩
  · have hp1 : ¬ 0 < (s.size : Int) := by omega
    clear hp
    go_enter Try.func7, Try.ntmps7
    go_wp2_with fail
    refine (digits_no (m := 19) _ rfl HZ.out (by omega) (by omega) H.out).mono ?_
    rintro e w' ⟨rfl, rfl⟩
    go_wp2
    go_ret2
    exact ⟨rfl, rfl⟩
set_option maxHeartbeats 400000 in
theorem rint_po (s : ByteArray) (w : World) (hs : s.size ≤ maxLen) (hp : ∀ _h : 0 < s.size, ((s[0].toNat : Int) == 45) = false) (h : Pl.word 19 s.data.toList = true) (a b : Nat) (hv : Pl.val s.data.toList = a * 1000000000000 + b) (hb : b < 1000000000000) (ho : 9223372 * 1000000000000 + 36854775807 < a * 1000000000000 + b) :
    Calls Try.prog 7 #[.string s] w fun e w' => e = .returned (.tuple #[.int .i64 0, .int .i64 10]) ∧ w' = w := by
  have H := keep h
  have HV := keep hv
  have HZ := keep hs
  clear h hv
  unfold maxLen at hs
  by_cases hp0 : 0 < s.size
  · have hn := hp hp0
    clear hp
    have hp1 : 0 < (s.size : Int) := by omega
    go_enter Try.func7, Try.ntmps7
    go_wp2_with fail
    refine (digits_yes (m := 19) _ rfl HZ.out (by omega) (by omega) H.out HV.out hb).mono ?_
    rintro e w' ⟨rfl, rfl⟩
    go_wp2_with fail
    refine (above_yes _ a b 9223372 36854775807 _ rfl hb (by omega) ho).mono ?_
    rintro e w' ⟨rfl, rfl⟩
    go_wp2
    go_ret2
    exact ⟨rfl, rfl⟩
  · have hp1 : ¬ 0 < (s.size : Int) := by omega
    clear hp
    go_enter Try.func7, Try.ntmps7
    go_wp2_with fail
    refine (digits_yes (m := 19) _ rfl HZ.out (by omega) (by omega) H.out HV.out hb).mono ?_
    rintro e w' ⟨rfl, rfl⟩
    go_wp2_with fail
    refine (above_yes _ a b 9223372 36854775807 _ rfl hb (by omega) ho).mono ?_
    rintro e w' ⟨rfl, rfl⟩
    go_wp2
    go_ret2
    exact ⟨rfl, rfl⟩
set_option maxHeartbeats 400000 in
theorem rint_py (s : ByteArray) (w : World) (hs : s.size ≤ maxLen) (hp : ∀ _h : 0 < s.size, ((s[0].toNat : Int) == 45) = false) (h : Pl.word 19 s.data.toList = true) (a b : Nat) (hv : Pl.val s.data.toList = a * 1000000000000 + b) (hb : b < 1000000000000) (ho : ¬ 9223372 * 1000000000000 + 36854775807 < a * 1000000000000 + b) :
    Calls Try.prog 7 #[.string s] w fun e w' => e = .returned (.tuple #[.int .i64 ((a : Int) * 1000000000000 + b), .int .i64 0]) ∧ w' = w := by
  have H := keep h
  have HV := keep hv
  have HZ := keep hs
  clear h hv
  unfold maxLen at hs
  by_cases hp0 : 0 < s.size
  · have hn := hp hp0
    clear hp
    have hp1 : 0 < (s.size : Int) := by omega
    go_enter Try.func7, Try.ntmps7
    go_wp2_with fail
    refine (digits_yes (m := 19) _ rfl HZ.out (by omega) (by omega) H.out HV.out hb).mono ?_
    rintro e w' ⟨rfl, rfl⟩
    go_wp2_with fail
    refine (above_no _ a b 9223372 36854775807 _ rfl hb (by omega) ho).mono ?_
    rintro e w' ⟨rfl, rfl⟩
    go_wp2
    go_ret2
    exact ⟨rfl, rfl⟩
  · have hp1 : ¬ 0 < (s.size : Int) := by omega
    clear hp
    go_enter Try.func7, Try.ntmps7
    go_wp2_with fail
    refine (digits_yes (m := 19) _ rfl HZ.out (by omega) (by omega) H.out HV.out hb).mono ?_
    rintro e w' ⟨rfl, rfl⟩
    go_wp2_with fail
    refine (above_no _ a b 9223372 36854775807 _ rfl hb (by omega) ho).mono ?_
    rintro e w' ⟨rfl, rfl⟩
    go_wp2
    go_ret2
    exact ⟨rfl, rfl⟩
theorem rint_any (s : ByteArray) (w : World) (hs : s.size ≤ maxLen) :
    Calls Try.prog 7 #[.string s] w fun e w' => e = .returned (.tuple #[.int .i64 (Pl.iv s.data.toList), .int .i64 (Pl.ic s.data.toList)]) ∧ w' = w := by
  cases hn : Pl.neg s.data.toList with
  | true =>
    have hp : 0 < s.size := by
      apply Decidable.byContradiction
      intro h
      rw [not_neg s h] at hn
      cases hn
    have hb := cut_body s hn
    have hn2 := hn
    rw [Pl.neg_at s hp] at hn2
    cases hw : Pl.word 19 (Pl.body s.data.toList) with
    | false =>
      have hi : Pl.iv s.data.toList = 0 ∧ Pl.ic s.data.toList = 10 := by
        cases hw2 : Pl.word 20 (Pl.body s.data.toList) with
        | false => exact Pl.i_no1 hw2
        | true =>
          have := Pl.val_long hw2 hw
          exact Pl.i_no2 hn (by omega)
      rw [hi.1, hi.2]
      exact rint_nn s w hs hp hn2 (by rw [hb]; exact hw)
    | true =>
      have hw2 := Pl.word_20 hw
      by_cases hz : Pl.body s.data.toList = [48]
      · have hi : Pl.iv s.data.toList = 0 ∧ Pl.ic s.data.toList = 10 := Pl.i_no2 hn (by rw [hz]; intro h; exact absurd h.1 (Nat.lt_irrefl 0))
        rw [hi.1, hi.2]
        exact rint_nz s w hs hp hn2 (by rw [hb]; exact hw) (by rw [list_eq, hb, hz])
      · have hv0 : 0 < Pl.val (Pl.body s.data.toList) := by
          apply Nat.pos_of_ne_zero
          intro h
          exact hz (Pl.word_zero hw h)
        have hd : Pl.val (s.extract 1 s.size).data.toList = (Pl.val (Pl.body s.data.toList) / 1000000000000) * 1000000000000 + Pl.val (Pl.body s.data.toList) % 1000000000000 := by rw [hb]; omega
        have hq : ((s.extract 1 s.size).toList == [48]) = false := by rw [list_eq, hb]; exact beq_eq_false_iff_ne.2 hz
        by_cases ho : Pl.val (Pl.body s.data.toList) ≤ 9223372036854775808
        · obtain ⟨g1, g2⟩ := Pl.i_neg hn hw2 hv0 ho
          have g := rint_ny s w hs hp hn2 (by rw [hb]; exact hw) _ _ hd (by omega) hq (by omega)
          have e3 : - (((Pl.val (Pl.body s.data.toList) / 1000000000000 : Nat) : Int) * 1000000000000 + (Pl.val (Pl.body s.data.toList) % 1000000000000 : Nat)) = Pl.iv s.data.toList := by rw [g1]; omega
          rw [e3] at g
          rw [g2]
          exact g
        · obtain ⟨g1, g2⟩ := Pl.i_no2 hn (by omega)
          rw [g1, g2]
          exact rint_no s w hs hp hn2 (by rw [hb]; exact hw) _ _ hd (by omega) hq (by omega)
  | false =>
    have hb := body_same hn
    have hn2 : ∀ _h : 0 < s.size, ((s[0].toNat : Int) == 45) = false := fun hp => by rw [← Pl.neg_at s hp]; exact hn
    cases hw : Pl.word 19 s.data.toList with
    | false =>
      have hi : Pl.iv s.data.toList = 0 ∧ Pl.ic s.data.toList = 10 := by
        cases hw2 : Pl.word 20 s.data.toList with
        | false => exact Pl.i_no1 (by rw [hb]; exact hw2)
        | true =>
          have := Pl.val_long hw2 hw
          exact Pl.i_no3 hn (by rw [hb]; omega)
      rw [hi.1, hi.2]
      exact rint_pn s w hs hn2 hw
    | true =>
      have hw2 := Pl.word_20 hw
      have hd : Pl.val s.data.toList = (Pl.val s.data.toList / 1000000000000) * 1000000000000 + Pl.val s.data.toList % 1000000000000 := by omega
      by_cases ho : Pl.val s.data.toList < 9223372036854775808
      · obtain ⟨g1, g2⟩ := Pl.i_pos hn (by rw [hb]; exact hw2) (by rw [hb]; exact ho)
        rw [hb] at g1
        have g := rint_py s w hs hn2 hw _ _ hd (by omega) (by omega)
        have e3 : ((Pl.val s.data.toList / 1000000000000 : Nat) : Int) * 1000000000000 + (Pl.val s.data.toList % 1000000000000 : Nat) = Pl.iv s.data.toList := by rw [g1]; omega
        rw [e3] at g
        rw [g2]
        exact g
      · obtain ⟨g1, g2⟩ := Pl.i_no3 hn (by rw [hb]; exact ho)
        rw [g1, g2]
        exact rint_po s w hs hn2 hw _ _ hd (by omega) (by omega)
end Go.Proofs.Ytdpclcopckbgeaa
