/-
  Contracts over this program: what the document's own Uint answers at any word.
-/
import Derived.Test.YtdpclcopckbgeaaRefReads
namespace Go.Proofs.Ytdpclcopckbgeaa
open Go.RowKit
theorem digits_yes {t : ByteArray} {l : List UInt8} {m a b : Nat} (w : World) (ht : t.data.toList = l) (hts : t.size ≤ maxLen) (hm : 1 ≤ m) (hm2 : m ≤ 20) (h : Pl.word m l = true) (hv : Pl.val l = a * 1000000000000 + b) (hb : b < 1000000000000) :
    Calls Try.prog 18 #[.string t, .int .i64 m] w fun e w' => e = .returned (.tuple #[.int .u64 a, .int .u64 b, .bool true]) ∧ w' = w := by
  have g := digits_any t m w hts hm hm2
  obtain ⟨e1, e2⟩ := Pl.half_yes h hv hb
  rw [ht, h, e1, e2] at g
  exact g
theorem digits_no {t : ByteArray} {l : List UInt8} {m : Nat} (w : World) (ht : t.data.toList = l) (hts : t.size ≤ maxLen) (hm : 1 ≤ m) (hm2 : m ≤ 20) (h : Pl.word m l = false) :
    Calls Try.prog 18 #[.string t, .int .i64 m] w fun e w' => e = .returned (.tuple #[.int .u64 0, .int .u64 0, .bool false]) ∧ w' = w := by
  have g := digits_any t m w hts hm hm2
  obtain ⟨e1, e2⟩ := Pl.half_no h
  rw [ht, h, e1, e2] at g
  exact g
theorem above_yes (v a b c d : Nat) (w : World) (hv : v = a * 1000000000000 + b) (hb : b < 1000000000000) (hd : d < 1000000000000) (h : c * 1000000000000 + d < v) :
    Calls Try.prog 19 #[.int .u64 a, .int .u64 b, .int .u64 c, .int .u64 d] w fun e w' => e = .returned (.bool true) ∧ w' = w := by
  have g := above_any a b c d w
  rw [Pl.abv_iff v a b c d hv hb hd, decide_eq_true h] at g
  exact g
theorem above_no (v a b c d : Nat) (w : World) (hv : v = a * 1000000000000 + b) (hb : b < 1000000000000) (hd : d < 1000000000000) (h : ¬ c * 1000000000000 + d < v) :
    Calls Try.prog 19 #[.int .u64 a, .int .u64 b, .int .u64 c, .int .u64 d] w fun e w' => e = .returned (.bool false) ∧ w' = w := by
  have g := above_any a b c d w
  rw [Pl.abv_iff v a b c d hv hb hd, decide_eq_false h] at g
  exact g
set_option maxHeartbeats 400000 in
theorem ruint_no (s : ByteArray) (w : World) (hs : s.size ≤ maxLen) (h : Pl.word 20 s.data.toList = false) :
    Calls Try.prog 9 #[.string s] w fun e w' => e = .returned (.tuple #[.int .u64 0, .int .i64 10]) ∧ w' = w := by
  have H := keep h
  clear h
  go_enter Try.func9, Try.ntmps9
  go_wp2_with fail
  refine (digits_no (m := 20) _ rfl hs (by omega) (by omega) H.out).mono ?_
  rintro e w' ⟨rfl, rfl⟩
  go_wp2
  go_ret2
  exact ⟨rfl, rfl⟩
set_option maxHeartbeats 400000 in
theorem ruint_over (s : ByteArray) (w : World) (hs : s.size ≤ maxLen) (h : Pl.word 20 s.data.toList = true) (a b : Nat) (hv : Pl.val s.data.toList = a * 1000000000000 + b) (hb : b < 1000000000000) (ho : 18446744 * 1000000000000 + 73709551615 < a * 1000000000000 + b) :
    Calls Try.prog 9 #[.string s] w fun e w' => e = .returned (.tuple #[.int .u64 0, .int .i64 10]) ∧ w' = w := by
  have H := keep h
  have HV := keep hv
  clear h hv
  go_enter Try.func9, Try.ntmps9
  go_wp2_with fail
  refine (digits_yes (m := 20) _ rfl hs (by omega) (by omega) H.out HV.out hb).mono ?_
  rintro e w' ⟨rfl, rfl⟩
  go_wp2_with fail
  refine (above_yes _ a b 18446744 73709551615 _ rfl hb (by omega) ho).mono ?_
  rintro e w' ⟨rfl, rfl⟩
  go_wp2
  go_ret2
  exact ⟨rfl, rfl⟩
set_option maxHeartbeats 400000 in
theorem ruint_yes (s : ByteArray) (w : World) (hs : s.size ≤ maxLen) (h : Pl.word 20 s.data.toList = true) (a b : Nat) (hv : Pl.val s.data.toList = a * 1000000000000 + b) (hb : b < 1000000000000) (ho : ¬ 18446744 * 1000000000000 + 73709551615 < a * 1000000000000 + b) :
    Calls Try.prog 9 #[.string s] w fun e w' => e = .returned (.tuple #[.int .u64 ((a : Int) * 1000000000000 + b), .int .i64 0]) ∧ w' = w := by
  have H := keep h
  have HV := keep hv
  clear h hv
  go_enter Try.func9, Try.ntmps9
  go_wp2_with fail
  refine (digits_yes (m := 20) _ rfl hs (by omega) (by omega) H.out HV.out hb).mono ?_
  rintro e w' ⟨rfl, rfl⟩
  go_wp2_with fail
  refine (above_no _ a b 18446744 73709551615 _ rfl hb (by omega) ho).mono ?_
  rintro e w' ⟨rfl, rfl⟩
  go_wp2
  go_ret2
  exact ⟨rfl, rfl⟩
theorem ruint_any (s : ByteArray) (w : World) (hs : s.size ≤ maxLen) :
    Calls Try.prog 9 #[.string s] w fun e w' => e = .returned (.tuple #[.int .u64 (Pl.uv s.data.toList), .int .i64 (Pl.uc s.data.toList)]) ∧ w' = w := by
  cases hw : Pl.word 20 s.data.toList with
  | false =>
    obtain ⟨e1, e2⟩ := Pl.u_no1 hw
    rw [e1, e2]
    exact ruint_no s w hs hw
  | true =>
    have hd : Pl.val s.data.toList = (Pl.val s.data.toList / 1000000000000) * 1000000000000 + Pl.val s.data.toList % 1000000000000 := by omega
    by_cases hv : Pl.val s.data.toList < 18446744073709551616
    · obtain ⟨e1, e2⟩ := Pl.u_yes hw hv
      have g := ruint_yes s w hs hw _ _ hd (by omega) (by omega)
      have e3 : ((Pl.val s.data.toList / 1000000000000 : Nat) : Int) * 1000000000000 + (Pl.val s.data.toList % 1000000000000 : Nat) = Pl.uv s.data.toList := by rw [e1]; omega
      rw [e3] at g
      rw [e2]
      exact g
    · obtain ⟨e1, e2⟩ := Pl.u_no2 hv
      rw [e1, e2]
      exact ruint_over s w hs hw _ _ hd (by omega) (by omega)
end Go.Proofs.Ytdpclcopckbgeaa
