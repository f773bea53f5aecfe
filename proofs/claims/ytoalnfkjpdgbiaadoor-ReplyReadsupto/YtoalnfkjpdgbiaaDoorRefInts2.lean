/-
  Contracts over this program: what the document's own Int answers at any word.
-/
import Derived.Test.YtoalnfkjpdgbiaaDoorInts
/-
  Contracts over this program: what the document's own above and digits answer.
-/
namespace Go.Proofs.YtoalnfkjpdgbiaaDoor
open Go.RowKit
theorem ret_bool {a b : Bool} (h : a = b) : Ending.returned (.bool a) = .returned (.bool b) := by rw [h]
theorem ret_iib {k l : IntKind} {a b c d : Int} {x y : Bool} (h : a = c) (g : b = d) (f : x = y) : Ending.returned (.tuple #[.int k a, .int l b, .bool x]) = .returned (.tuple #[.int k c, .int l d, .bool y]) := by rw [h, g, f]
set_option maxHeartbeats 400000 in
theorem above_any (a b c d : Nat) (w : World) :
    Calls Tryd.prog 67 #[.int .u64 a, .int .u64 b, .int .u64 c, .int .u64 d] w fun e w' => e = .returned (.bool (Pl.abv a b c d)) ∧ w' = w := by
  by_cases h1 : c < a
  · have e : Pl.abv a b c d = true := decide_eq_true (by omega)
    rw [e]; clear e
    go_enter Tryd.func67, Tryd.ntmps67
    go_wp2
    go_ret
    exact ⟨rfl, rfl⟩
  · by_cases h2 : a = c
    · subst h2
      have h3 : ((a : Int) == (a : Int)) = true := beq_self_eq_true _
      by_cases h4 : d < b
      · have e : Pl.abv a b a d = true := decide_eq_true (by omega)
        rw [e]; clear e
        go_enter Tryd.func67, Tryd.ntmps67
        go_wp2
        go_ret
        exact ⟨rfl, rfl⟩
      · have e : Pl.abv a b a d = false := decide_eq_false (by omega)
        rw [e]; clear e
        go_enter Tryd.func67, Tryd.ntmps67
        go_wp2
        go_ret
        exact ⟨rfl, rfl⟩
    · have e : Pl.abv a b c d = false := decide_eq_false (by omega)
      have h3 : ((a : Int) == (c : Int)) = false := beq_eq_false_iff_ne.2 (by omega)
      rw [e]; clear e
      go_enter Tryd.func67, Tryd.ntmps67
      go_wp2
      go_ret
      exact ⟨rfl, rfl⟩
theorem list_eq (s : ByteArray) : s.toList = s.data.toList := by
  obtain ⟨⟨l⟩⟩ := s
  simp
set_option maxHeartbeats 800000 in
theorem digits_any (s : ByteArray) (m : Nat) (w : World) (hs : s.size ≤ maxLen) (hm : 1 ≤ m) (hm2 : m ≤ 20) :
    Calls Tryd.prog 66 #[.string s, .int .i64 m] w fun e w' => e = .returned (.tuple #[.int .u64 (Pl.hi m s.data.toList), .int .u64 (Pl.lo m s.data.toList), .bool (Pl.word m s.data.toList)]) ∧ w' = w := by
  unfold maxLen at hs
  by_cases hz : s.data.toList = [48]
  · have hq : (s.toList == [48]) = true := by rw [list_eq, hz]; rfl
    obtain ⟨g1, g2⟩ := Pl.nought hz m hm
    obtain ⟨g3, g4⟩ := Pl.half_yes (a := 0) (b := 0) g1 (by rw [g2]) (by omega)
    rw [g1, g3, g4]
    clear g1 g2 g3 g4 hz
    go_enter Tryd.func66, Tryd.ntmps66
    go_wp2
    go_ret3
    exact ⟨rfl, rfl⟩
  · have hq : (s.toList == [48]) = false := by rw [list_eq]; exact beq_eq_false_iff_ne.2 hz
    by_cases c0 : s.size = 0
    · have hw := Pl.not_word_form (Pl.form_no0 s m c0)
      obtain ⟨g1, g2⟩ := Pl.half_no hw
      rw [hw, g1, g2]
      clear hw g1 g2 hz
      have c1 : (s.size : Int) < 1 := by omega
      go_enter Tryd.func66, Tryd.ntmps66
      go_wp2
      go_ret3
      exact ⟨rfl, rfl⟩
    · have c1 : ¬ (s.size : Int) < 1 := by omega
      have hp : 0 < s.size := by omega
      by_cases c2 : m < s.size
      · have hw := Pl.not_word_form (Pl.form_noL s m c2)
        obtain ⟨g1, g2⟩ := Pl.half_no hw
        rw [hw, g1, g2]
        clear hw g1 g2 hz
        go_enter Tryd.func66, Tryd.ntmps66
        go_wp2
        go_ret3
        exact ⟨rfl, rfl⟩
      · by_cases c3 : (s[0].toNat : Int) = 48
        · have hw := Pl.not_word_form (Pl.form_noN s m hp (Pl.not_nought hz hp c3) c3)
          obtain ⟨g1, g2⟩ := Pl.half_no hw
          rw [hw, g1, g2]
          clear hw g1 g2 hz
          have c4 : ((s[0].toNat : Int) == 48) = true := beq_iff_eq.2 c3
          clear c3
          go_enter Tryd.func66, Tryd.ntmps66
          go_wp2
          go_ret3
          exact ⟨rfl, rfl⟩
        · have HF := keep (Pl.form_yes s m hp (by omega) c3)
          have c4 : ((s[0].toNat : Int) == 48) = false := beq_eq_false_iff_ne.2 c3
          clear c3 hz
          go_enter Tryd.func66, Tryd.ntmps66
          go_wp2
          go_loop [4, 5, 26] (fun x y i => ∃ k a b : Nat, k ≤ s.size ∧ i = .int .i64 k ∧ x = .int .u64 a ∧ y = .int .u64 b ∧ (s.data.toList.take k).all Pl.isD = true ∧ Pl.val (s.data.toList.take k) = a * 1000000000000 + b ∧ b < 1000000000000) (fun _ _ i => s.size - (intOf i).toNat)
          case atStart => exact ⟨0, 0, 0, Nat.zero_le _, rfl, rfl, rfl, rfl, rfl, by omega⟩
          case round =>
            obtain ⟨k, a, b, hk, rfl, rfl, rfl, ha, hx, hb⟩ := hrel
            have hbd := Pl.val_take_bd s k (by omega) ha
            have hA : a < 100000000 := by omega
            have HA := keep ha
            have HX := keep hx
            clear ha hx hbd
            by_cases hlt : k < s.size
            · by_cases d1 : 48 ≤ (s[k].toNat : Int)
              · by_cases d2 : (s[k].toNat : Int) ≤ 57
                · have st := keep (Pl.half_step s k hlt a b HX.out d1)
                  go_wp2
                  obtain ⟨a', b', e1, e2, e3, e4⟩ := st.out
                  go_round
                  case rel => exact ⟨k + 1, a', b', hlt, by go_num, by rw [e1], by rw [e2], Pl.all_step s k hlt HA.out (Pl.dig_yes d1 d2), e3, e4⟩
                  case measure => simp [intOf]; omega
                · have hw := Pl.not_word_all (m := m) (Pl.all_no s k hlt (Pl.dig_no2 d2))
                  have st := keep (And.intro hw (Pl.half_no hw))
                  clear hw
                  go_wp2
                  go_ret3
                  exact ⟨ret_iib st.out.2.1.symm st.out.2.2.symm st.out.1.symm, rfl⟩
              · have hw := Pl.not_word_all (m := m) (Pl.all_no s k hlt (Pl.dig_no1 d1))
                have st := keep (And.intro hw (Pl.half_no hw))
                clear hw
                go_wp2
                go_ret3
                exact ⟨ret_iib st.out.2.1.symm st.out.2.2.symm st.out.1.symm, rfl⟩
            · have st : Kept (Pl.word m s.data.toList = true ∧ Pl.hi m s.data.toList = a ∧ Pl.lo m s.data.toList = b) := by
                have e := Pl.take_all s k (by omega)
                have ha := HA.out
                have hx := HX.out
                rw [e] at ha hx
                have hw : Pl.word m s.data.toList = true := by unfold Pl.word; rw [HF.out, ha]; rfl
                exact ⟨hw, Pl.half_yes hw hx hb⟩
              go_wp2
              go_ret3
              exact ⟨ret_iib st.out.2.1.symm st.out.2.2.symm st.out.1.symm, rfl⟩
end Go.Proofs.YtoalnfkjpdgbiaaDoor

/-
  Contracts over this program: what the document's own Uint answers at any word.
-/
namespace Go.Proofs.YtoalnfkjpdgbiaaDoor
open Go.RowKit
theorem digits_yes {t : ByteArray} {l : List UInt8} {m a b : Nat} (w : World) (ht : t.data.toList = l) (hts : t.size ≤ maxLen) (hm : 1 ≤ m) (hm2 : m ≤ 20) (h : Pl.word m l = true) (hv : Pl.val l = a * 1000000000000 + b) (hb : b < 1000000000000) :
    Calls Tryd.prog 66 #[.string t, .int .i64 m] w fun e w' => e = .returned (.tuple #[.int .u64 a, .int .u64 b, .bool true]) ∧ w' = w := by
  have g := digits_any t m w hts hm hm2
  obtain ⟨e1, e2⟩ := Pl.half_yes h hv hb
  rw [ht, h, e1, e2] at g
  exact g
theorem digits_no {t : ByteArray} {l : List UInt8} {m : Nat} (w : World) (ht : t.data.toList = l) (hts : t.size ≤ maxLen) (hm : 1 ≤ m) (hm2 : m ≤ 20) (h : Pl.word m l = false) :
    Calls Tryd.prog 66 #[.string t, .int .i64 m] w fun e w' => e = .returned (.tuple #[.int .u64 0, .int .u64 0, .bool false]) ∧ w' = w := by
  have g := digits_any t m w hts hm hm2
  obtain ⟨e1, e2⟩ := Pl.half_no h
  rw [ht, h, e1, e2] at g
  exact g
theorem above_yes (v a b c d : Nat) (w : World) (hv : v = a * 1000000000000 + b) (hb : b < 1000000000000) (hd : d < 1000000000000) (h : c * 1000000000000 + d < v) :
    Calls Tryd.prog 67 #[.int .u64 a, .int .u64 b, .int .u64 c, .int .u64 d] w fun e w' => e = .returned (.bool true) ∧ w' = w := by
  have g := above_any a b c d w
  rw [Pl.abv_iff v a b c d hv hb hd, decide_eq_true h] at g
  exact g
theorem above_no (v a b c d : Nat) (w : World) (hv : v = a * 1000000000000 + b) (hb : b < 1000000000000) (hd : d < 1000000000000) (h : ¬ c * 1000000000000 + d < v) :
    Calls Tryd.prog 67 #[.int .u64 a, .int .u64 b, .int .u64 c, .int .u64 d] w fun e w' => e = .returned (.bool false) ∧ w' = w := by
  have g := above_any a b c d w
  rw [Pl.abv_iff v a b c d hv hb hd, decide_eq_false h] at g
  exact g
end Go.Proofs.YtoalnfkjpdgbiaaDoor

namespace Go.Proofs.YtoalnfkjpdgbiaaDoor
open Go.RowKit
set_option maxHeartbeats 400000 in
theorem rint_nn (s : ByteArray) (w : World) (hs : s.size ≤ maxLen) (hp : 0 < s.size) (hn : ((s[0].toNat : Int) == 45) = true) (h : Pl.word 19 (s.extract 1 s.size).data.toList = false) :
    Calls Tryd.prog 57 #[.string s] w fun e w' => e = .returned (.tuple #[.int .i64 0, .int .i64 10]) ∧ w' = w := by
  have H := keep h
  have hz : (s.extract 1 s.size).size ≤ maxLen := by rw [ByteArray.size_extract]; omega
  have HZ := keep hz
  clear h hz
  unfold maxLen at hs
  have hp1 : 0 < (s.size : Int) := by omega
  go_enter Tryd.func57, Tryd.ntmps57
  go_wp2_with fail
  refine (digits_no (m := 19) _ rfl HZ.out (by omega) (by omega) H.out).mono ?_
  rintro e w' ⟨rfl, rfl⟩
  go_wp2
  go_ret2
  exact ⟨rfl, rfl⟩
set_option maxHeartbeats 400000 in
theorem rint_nz (s : ByteArray) (w : World) (hs : s.size ≤ maxLen) (hp : 0 < s.size) (hn : ((s[0].toNat : Int) == 45) = true) (h : Pl.word 19 (s.extract 1 s.size).data.toList = true) (hq : (s.extract 1 s.size).toList = [48]) :
    Calls Tryd.prog 57 #[.string s] w fun e w' => e = .returned (.tuple #[.int .i64 0, .int .i64 10]) ∧ w' = w := by
  have H := keep h
  have hz : (s.extract 1 s.size).size ≤ maxLen := by rw [ByteArray.size_extract]; omega
  have HZ := keep hz
  clear h hz
  have hq2 : ((s.extract 1 s.size).toList == [48]) = true := by rw [hq]; rfl
  have HQ := keep hq
  clear hq
  unfold maxLen at hs
  have hp1 : 0 < (s.size : Int) := by omega
  go_enter Tryd.func57, Tryd.ntmps57
  go_wp2_with fail
  refine (digits_yes (m := 19) (a := 0) (b := 0) _ rfl HZ.out (by omega) (by omega) H.out (by rw [← list_eq, HQ.out]; rfl) (by omega)).mono ?_
  rintro e w' ⟨rfl, rfl⟩
  go_wp2
  go_ret2
  exact ⟨rfl, rfl⟩
set_option maxHeartbeats 400000 in
theorem rint_no (s : ByteArray) (w : World) (hs : s.size ≤ maxLen) (hp : 0 < s.size) (hn : ((s[0].toNat : Int) == 45) = true) (h : Pl.word 19 (s.extract 1 s.size).data.toList = true) (a b : Nat) (hv : Pl.val (s.extract 1 s.size).data.toList = a * 1000000000000 + b) (hb : b < 1000000000000) (hq : ((s.extract 1 s.size).toList == [48]) = false) (ho : 9223372 * 1000000000000 + 36854775808 < a * 1000000000000 + b) :
    Calls Tryd.prog 57 #[.string s] w fun e w' => e = .returned (.tuple #[.int .i64 0, .int .i64 10]) ∧ w' = w := by
  have H := keep h
  have HV := keep hv
  have hz : (s.extract 1 s.size).size ≤ maxLen := by rw [ByteArray.size_extract]; omega
  have HZ := keep hz
  clear h hz hv
  unfold maxLen at hs
  have hp1 : 0 < (s.size : Int) := by omega
  go_enter Tryd.func57, Tryd.ntmps57
  go_wp2_with fail
  refine (digits_yes (m := 19) _ rfl HZ.out (by omega) (by omega) H.out HV.out hb).mono ?_
  rintro e w' ⟨rfl, rfl⟩
  go_wp2_with fail
  refine (above_yes _ a b 9223372 36854775808 _ rfl hb (by omega) ho).mono ?_
  rintro e w' ⟨rfl, rfl⟩
  go_wp2
  go_ret2
  exact ⟨rfl, rfl⟩
set_option maxHeartbeats 400000 in
theorem rint_ny (s : ByteArray) (w : World) (hs : s.size ≤ maxLen) (hp : 0 < s.size) (hn : ((s[0].toNat : Int) == 45) = true) (h : Pl.word 19 (s.extract 1 s.size).data.toList = true) (a b : Nat) (hv : Pl.val (s.extract 1 s.size).data.toList = a * 1000000000000 + b) (hb : b < 1000000000000) (hq : ((s.extract 1 s.size).toList == [48]) = false) (ho : ¬ 9223372 * 1000000000000 + 36854775808 < a * 1000000000000 + b) :
    Calls Tryd.prog 57 #[.string s] w fun e w' => e = .returned (.tuple #[.int .i64 (- ((a : Int) * 1000000000000 + b)), .int .i64 0]) ∧ w' = w := by
  have H := keep h
  have HV := keep hv
  have hz : (s.extract 1 s.size).size ≤ maxLen := by rw [ByteArray.size_extract]; omega
  have HZ := keep hz
  clear h hz hv
  unfold maxLen at hs
  have hp1 : 0 < (s.size : Int) := by omega
  go_enter Tryd.func57, Tryd.ntmps57
  go_wp2_with fail
  refine (digits_yes (m := 19) _ rfl HZ.out (by omega) (by omega) H.out HV.out hb).mono ?_
  rintro e w' ⟨rfl, rfl⟩
  go_wp2_with fail
  refine (above_no _ a b 9223372 36854775808 _ rfl hb (by omega) ho).mono ?_
  rintro e w' ⟨rfl, rfl⟩
  go_wp2
  go_ret2
  exact ⟨ret_ii (by omega) rfl, rfl⟩
set_option maxHeartbeats 400000 in
theorem rint_pn (s : ByteArray) (w : World) (hs : s.size ≤ maxLen) (hp : ∀ _h : 0 < s.size, ((s[0].toNat : Int) == 45) = false) (h : Pl.word 19 s.data.toList = false) :
    Calls Tryd.prog 57 #[.string s] w fun e w' => e = .returned (.tuple #[.int .i64 0, .int .i64 10]) ∧ w' = w := by
  have H := keep h
  have HZ := keep hs
  clear h
  unfold maxLen at hs
  by_cases hp0 : 0 < s.size
  · have hn := hp hp0
    clear hp
    have hp1 : 0 < (s.size : Int) := by omega
    go_enter Tryd.func57, Tryd.ntmps57
    go_wp2_with fail
    refine (digits_no (m := 19) _ rfl HZ.out (by omega) (by omega) H.out).mono ?_
    rintro e w' ⟨rfl, rfl⟩
    go_wp2
    go_ret2
    exact ⟨rfl, rfl⟩
  · have hp1 : ¬ 0 < (s.size : Int) := by omega
    clear hp
    go_enter Tryd.func57, Tryd.ntmps57
    go_wp2_with fail
    refine (digits_no (m := 19) _ rfl HZ.out (by omega) (by omega) H.out).mono ?_
    rintro e w' ⟨rfl, rfl⟩
    go_wp2
    go_ret2
    exact ⟨rfl, rfl⟩
set_option maxHeartbeats 400000 in
theorem rint_po (s : ByteArray) (w : World) (hs : s.size ≤ maxLen) (hp : ∀ _h : 0 < s.size, ((s[0].toNat : Int) == 45) = false) (h : Pl.word 19 s.data.toList = true) (a b : Nat) (hv : Pl.val s.data.toList = a * 1000000000000 + b) (hb : b < 1000000000000) (ho : 9223372 * 1000000000000 + 36854775807 < a * 1000000000000 + b) :
    Calls Tryd.prog 57 #[.string s] w fun e w' => e = .returned (.tuple #[.int .i64 0, .int .i64 10]) ∧ w' = w := by
  have H := keep h
  have HV := keep hv
  have HZ := keep hs
  clear h hv
  unfold maxLen at hs
  by_cases hp0 : 0 < s.size
  · have hn := hp hp0
    clear hp
    have hp1 : 0 < (s.size : Int) := by omega
    go_enter Tryd.func57, Tryd.ntmps57
    go_wp2_with fail
    refine (digits_yes (m := 19) _ rfl HZ.out (by omega) (by omega) H.out HV.out hb).mono ?_
    rintro e w' ⟨rfl, rfl⟩
    go_wp2_with fail
    refine (above_yes _ a b 9223372 36854775807 _ rfl hb (by omega) ho).mono ?_
    rintro e w' ⟨rfl, rfl⟩
    go_wp2
    go_ret2
    exact ⟨rfl, rfl⟩
  · have hp1 : ¬ 0 < (s.size : Int) := by omega
    clear hp
    go_enter Tryd.func57, Tryd.ntmps57
    go_wp2_with fail
    refine (digits_yes (m := 19) _ rfl HZ.out (by omega) (by omega) H.out HV.out hb).mono ?_
    rintro e w' ⟨rfl, rfl⟩
    go_wp2_with fail
    refine (above_yes _ a b 9223372 36854775807 _ rfl hb (by omega) ho).mono ?_
    rintro e w' ⟨rfl, rfl⟩
    go_wp2
    go_ret2
    exact ⟨rfl, rfl⟩
set_option maxHeartbeats 400000 in
theorem rint_py (s : ByteArray) (w : World) (hs : s.size ≤ maxLen) (hp : ∀ _h : 0 < s.size, ((s[0].toNat : Int) == 45) = false) (h : Pl.word 19 s.data.toList = true) (a b : Nat) (hv : Pl.val s.data.toList = a * 1000000000000 + b) (hb : b < 1000000000000) (ho : ¬ 9223372 * 1000000000000 + 36854775807 < a * 1000000000000 + b) :
    Calls Tryd.prog 57 #[.string s] w fun e w' => e = .returned (.tuple #[.int .i64 ((a : Int) * 1000000000000 + b), .int .i64 0]) ∧ w' = w := by
  have H := keep h
  have HV := keep hv
  have HZ := keep hs
  clear h hv
  unfold maxLen at hs
  by_cases hp0 : 0 < s.size
  · have hn := hp hp0
    clear hp
    have hp1 : 0 < (s.size : Int) := by omega
    go_enter Tryd.func57, Tryd.ntmps57
    go_wp2_with fail
    refine (digits_yes (m := 19) _ rfl HZ.out (by omega) (by omega) H.out HV.out hb).mono ?_
    rintro e w' ⟨rfl, rfl⟩
    go_wp2_with fail
    refine (above_no _ a b 9223372 36854775807 _ rfl hb (by omega) ho).mono ?_
    rintro e w' ⟨rfl, rfl⟩
    go_wp2
    go_ret2
    exact ⟨rfl, rfl⟩
  · have hp1 : ¬ 0 < (s.size : Int) := by omega
    clear hp
    go_enter Tryd.func57, Tryd.ntmps57
    go_wp2_with fail
    refine (digits_yes (m := 19) _ rfl HZ.out (by omega) (by omega) H.out HV.out hb).mono ?_
    rintro e w' ⟨rfl, rfl⟩
    go_wp2_with fail
    refine (above_no _ a b 9223372 36854775807 _ rfl hb (by omega) ho).mono ?_
    rintro e w' ⟨rfl, rfl⟩
    go_wp2
    go_ret2
    exact ⟨rfl, rfl⟩
theorem rint_any (s : ByteArray) (w : World) (hs : s.size ≤ maxLen) :
    Calls Tryd.prog 57 #[.string s] w fun e w' => e = .returned (.tuple #[.int .i64 (Pl.iv s.data.toList), .int .i64 (Pl.ic s.data.toList)]) ∧ w' = w := by
  cases hn : Pl.neg s.data.toList with
  | true =>
    have hp : 0 < s.size := by
      apply Decidable.byContradiction
      intro h
      rw [not_neg s h] at hn
      cases hn
    have hb := cut_body s hn
    have hn2 := hn
    rw [Pl.neg_at s hp] at hn2
    cases hw : Pl.word 19 (Pl.body s.data.toList) with
    | false =>
      have hi : Pl.iv s.data.toList = 0 ∧ Pl.ic s.data.toList = 10 := by
        cases hw2 : Pl.word 20 (Pl.body s.data.toList) with
        | false => exact Pl.i_no1 hw2
        | true =>
          have := Pl.val_long hw2 hw
          exact Pl.i_no2 hn (by omega)
      rw [hi.1, hi.2]
      exact rint_nn s w hs hp hn2 (by rw [hb]; exact hw)
    | true =>
      have hw2 := Pl.word_20 hw
      by_cases hz : Pl.body s.data.toList = [48]
      · have hi : Pl.iv s.data.toList = 0 ∧ Pl.ic s.data.toList = 10 := Pl.i_no2 hn (by rw [hz]; intro h; exact absurd h.1 (Nat.lt_irrefl 0))
        rw [hi.1, hi.2]
        exact rint_nz s w hs hp hn2 (by rw [hb]; exact hw) (by rw [list_eq, hb, hz])
      · have hv0 : 0 < Pl.val (Pl.body s.data.toList) := by
          apply Nat.pos_of_ne_zero
          intro h
          exact hz (Pl.word_zero hw h)
        have hd : Pl.val (s.extract 1 s.size).data.toList = (Pl.val (Pl.body s.data.toList) / 1000000000000) * 1000000000000 + Pl.val (Pl.body s.data.toList) % 1000000000000 := by rw [hb]; omega
        have hq : ((s.extract 1 s.size).toList == [48]) = false := by rw [list_eq, hb]; exact beq_eq_false_iff_ne.2 hz
        by_cases ho : Pl.val (Pl.body s.data.toList) ≤ 9223372036854775808
        · obtain ⟨g1, g2⟩ := Pl.i_neg hn hw2 hv0 ho
          have g := rint_ny s w hs hp hn2 (by rw [hb]; exact hw) _ _ hd (by omega) hq (by omega)
          have e3 : - (((Pl.val (Pl.body s.data.toList) / 1000000000000 : Nat) : Int) * 1000000000000 + (Pl.val (Pl.body s.data.toList) % 1000000000000 : Nat)) = Pl.iv s.data.toList := by rw [g1]; omega
          rw [e3] at g
          rw [g2]
          exact g
        · obtain ⟨g1, g2⟩ := Pl.i_no2 hn (by omega)
          rw [g1, g2]
          exact rint_no s w hs hp hn2 (by rw [hb]; exact hw) _ _ hd (by omega) hq (by omega)
  | false =>
    have hb := body_same hn
    have hn2 : ∀ _h : 0 < s.size, ((s[0].toNat : Int) == 45) = false := fun hp => by rw [← Pl.neg_at s hp]; exact hn
    cases hw : Pl.word 19 s.data.toList with
    | false =>
      have hi : Pl.iv s.data.toList = 0 ∧ Pl.ic s.data.toList = 10 := by
        cases hw2 : Pl.word 20 s.data.toList with
        | false => exact Pl.i_no1 (by rw [hb]; exact hw2)
        | true =>
          have := Pl.val_long hw2 hw
          exact Pl.i_no3 hn (by rw [hb]; omega)
      rw [hi.1, hi.2]
      exact rint_pn s w hs hn2 hw
    | true =>
      have hw2 := Pl.word_20 hw
      have hd : Pl.val s.data.toList = (Pl.val s.data.toList / 1000000000000) * 1000000000000 + Pl.val s.data.toList % 1000000000000 := by omega
      by_cases ho : Pl.val s.data.toList < 9223372036854775808
      · obtain ⟨g1, g2⟩ := Pl.i_pos hn (by rw [hb]; exact hw2) (by rw [hb]; exact ho)
        rw [hb] at g1
        have g := rint_py s w hs hn2 hw _ _ hd (by omega) (by omega)
        have e3 : ((Pl.val s.data.toList / 1000000000000 : Nat) : Int) * 1000000000000 + (Pl.val s.data.toList % 1000000000000 : Nat) = Pl.iv s.data.toList := by rw [g1]; omega
        rw [e3] at g
        rw [g2]
        exact g
      · obtain ⟨g1, g2⟩ := Pl.i_no3 hn (by rw [hb]; exact ho)
        rw [g1, g2]
        exact rint_po s w hs hn2 hw _ _ hd (by omega) (by omega)
end Go.Proofs.YtoalnfkjpdgbiaaDoor
