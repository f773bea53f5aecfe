/-
  Contracts over this program: what the document's own above and digits answer.
-/
import Derived.Test.YtdpclcopckbgeaaInts
namespace Go.Proofs.Ytdpclcopckbgeaa
open Go.RowKit
theorem ret_bool {a b : Bool} (h : a = b) : Ending.returned (.bool a) = .returned (.bool b) := by rw [h]
theorem ret_iib {k l : IntKind} {a b c d : Int} {x y : Bool} (h : a = c) (g : b = d) (f : x = y) : Ending.returned (.tuple #[.int k a, .int l b, .bool x]) = .returned (.tuple #[.int k c, .int l d, .bool y]) := by rw [h, g, f]
set_option maxHeartbeats 400000 in
theorem above_any (a b c d : Nat) (w : World) :
    Calls Try.prog 19 #[.int .u64 a, .int .u64 b, .int .u64 c, .int .u64 d] w fun e w' => e = .returned (.bool (Pl.abv a b c d)) ∧ w' = w := by
  by_cases h1 : c < a
  · have e : Pl.abv a b c d = true := decide_eq_true (by omega)
    rw [e]; clear e
    go_enter Try.func19, Try.ntmps19
    go_wp2
    go_ret
    exact ⟨rfl, rfl⟩
  · by_cases h2 : a = c
    · subst h2
      have h3 : ((a : Int) == (a : Int)) = true := beq_self_eq_true _
      by_cases h4 : d < b
      · have e : Pl.abv a b a d = true := decide_eq_true (by omega)
        rw [e]; clear e
        go_enter Try.func19, Try.ntmps19
        go_wp2
        go_ret
        exact ⟨rfl, rfl⟩
      · have e : Pl.abv a b a d = false := decide_eq_false (by omega)
        rw [e]; clear e
        go_enter Try.func19, Try.ntmps19
        go_wp2
        go_ret
        exact ⟨rfl, rfl⟩
    · have e : Pl.abv a b c d = false := decide_eq_false (by omega)
      have h3 : ((a : Int) == (c : Int)) = false := beq_eq_false_iff_ne.2 (by omega)
      rw [e]; clear e
      go_enter Try.func19, Try.ntmps19
      go_wp2
      go_ret
      exact ⟨rfl, rfl⟩
theorem list_eq (s : ByteArray) : s.toList = s.data.toList := by
  obtain ⟨⟨l⟩⟩ := s
  simp
set_option maxHeartbeats 800000 in
theorem digits_any (s : ByteArray) (m : Nat) (w : World) (hs : s.size ≤ maxLen) (hm : 1 ≤ m) (hm2 : m ≤ 20) :
    Calls Try.prog 18 #[.string s, .int .i64 m] w fun e w' => e = .returned (.tuple #[.int .u64 (Pl.hi m s.data.toList), .int .u64 (Pl.lo m s.data.toList), .bool (Pl.word m s.data.toList)]) ∧ w' = w := by
  unfold maxLen at hs
  by_cases hz : s.data.toList = [48]
  · have hq : (s.toList == [48]) = true := by rw [list_eq, hz]; rfl
    obtain ⟨g1, g2⟩ := Pl.nought hz m hm
    obtain ⟨g3, g4⟩ := Pl.half_yes (a := 0) (b := 0) g1 (by rw [g2]) (by omega)
    rw [g1, g3, g4]
    clear g1 g2 g3 g4 hz
    go_enter Try.func18, Try.ntmps18
    go_wp2
    go_ret3
    exact ⟨rfl, rfl⟩
  · have hq : (s.toList == [48]) = false := by rw [list_eq]; exact beq_eq_false_iff_ne.2 hz
    by_cases c0 : s.size = 0
    · have hw := Pl.not_word_form (Pl.form_no0 s m c0)
      obtain ⟨g1, g2⟩ := Pl.half_no hw
      rw [hw, g1, g2]
      clear hw g1 g2 hz
      have c1 : (s.size : Int) < 1 := by omega
      go_enter Try.func18, Try.ntmps18
      go_wp2
      go_ret3
      exact ⟨rfl, rfl⟩
    · have c1 : ¬ (s.size : Int) < 1 := by omega
      have hp : 0 < s.size := by omega
      by_cases c2 : m < s.size
      · have hw := Pl.not_word_form (Pl.form_noL s m c2)
        obtain ⟨g1, g2⟩ := Pl.half_no hw
        rw [hw, g1, g2]
        clear hw g1 g2 hz
        go_enter Try.func18, Try.ntmps18
        go_wp2
        go_ret3
        exact ⟨rfl, rfl⟩
      · by_cases c3 : (s[0].toNat : Int) = 48
        · have hw := Pl.not_word_form (Pl.form_noN s m hp (Pl.not_nought hz hp c3) c3)
          obtain ⟨g1, g2⟩ := Pl.half_no hw
          rw [hw, g1, g2]
          clear hw g1 g2 hz
          have c4 : ((s[0].toNat : Int) == 48) = true := beq_iff_eq.2 c3
          clear c3
          go_enter Try.func18, Try.ntmps18
          go_wp2
          go_ret3
          exact ⟨rfl, rfl⟩
        · have HF := keep (Pl.form_yes s m hp (by omega) c3)
          have c4 : ((s[0].toNat : Int) == 48) = false := beq_eq_false_iff_ne.2 c3
          clear c3 hz
          go_enter Try.func18, Try.ntmps18
          go_wp2
          go_loop [4, 5, 26] (fun x y i => ∃ k a b : Nat, k ≤ s.size ∧ i = .int .i64 k ∧ x = .int .u64 a ∧ y = .int .u64 b ∧ (s.data.toList.take k).all Pl.isD = true ∧ Pl.val (s.data.toList.take k) = a * 1000000000000 + b ∧ b < 1000000000000) (fun _ _ i => s.size - (intOf i).toNat)
          case atStart => exact ⟨0, 0, 0, Nat.zero_le _, rfl, rfl, rfl, rfl, rfl, by omega⟩
          case round =>
            obtain ⟨k, a, b, hk, rfl, rfl, rfl, ha, hx, hb⟩ := hrel
            have hbd := Pl.val_take_bd s k (by omega) ha
            have hA : a < 100000000 := by omega
            have HA := keep ha
            have HX := keep hx
            clear ha hx hbd
            by_cases hlt : k < s.size
            · by_cases d1 : 48 ≤ (s[k].toNat : Int)
              · by_cases d2 : (s[k].toNat : Int) ≤ 57
                · have st := keep (Pl.half_step s k hlt a b HX.out d1)
                  go_wp2
                  obtain ⟨a', b', e1, e2, e3, e4⟩ := st.out
                  go_round
                  case rel => exact ⟨k + 1, a', b', hlt, by go_num, by rw [e1], by rw [e2], Pl.all_step s k hlt HA.out (Pl.dig_yes d1 d2), e3, e4⟩
                  case measure => simp [intOf]; omega
                · have hw := Pl.not_word_all (m := m) (Pl.all_no s k hlt (Pl.dig_no2 d2))
                  have st := keep (And.intro hw (Pl.half_no hw))
                  clear hw
                  go_wp2
                  go_ret3
                  exact ⟨ret_iib st.out.2.1.symm st.out.2.2.symm st.out.1.symm, rfl⟩
              · have hw := Pl.not_word_all (m := m) (Pl.all_no s k hlt (Pl.dig_no1 d1))
                have st := keep (And.intro hw (Pl.half_no hw))
                clear hw
                go_wp2
                go_ret3
                exact ⟨ret_iib st.out.2.1.symm st.out.2.2.symm st.out.1.symm, rfl⟩
            · have st : Kept (Pl.word m s.data.toList = true ∧ Pl.hi m s.data.toList = a ∧ Pl.lo m s.data.toList = b) := by
                have e := Pl.take_all s k (by omega)
                have ha := HA.out
                have hx := HX.out
                rw [e] at ha hx
                have hw : Pl.word m s.data.toList = true := by unfold Pl.word; rw [HF.out, ha]; rfl
                exact ⟨hw, Pl.half_yes hw hx hb⟩
              go_wp2
              go_ret3
              exact ⟨ret_iib st.out.2.1.symm st.out.2.2.symm st.out.1.symm, rfl⟩
end Go.Proofs.Ytdpclcopckbgeaa
