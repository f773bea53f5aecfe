/-
  Contracts over this program: Insert.
-/
import Derived.Test.YtlfkdohajfkhdaaDqPart
namespace Go.Proofs.Ytlfkdohajfkhdaa
open Go.RowKit Go.Shelf
set_option linter.unusedVariables false
/-- what becomes of a chunk that a text is put into -/
def insL (p : Nat) (s : ByteArray) (ts : List ByteArray) : List (List ByteArray) :=
  if ts.length < 32 then [ts.take p ++ s :: ts.drop p] else if 16 ≤ p then [ts.take 16, (ts.drop 16).take (p - 16) ++ s :: (ts.drop 16).drop (p - 16)] else [(ts.take 16).take p ++ s :: (ts.take 16).drop p, ts.drop 16]
theorem insL_flat (p : Nat) (s : ByteArray) (ts : List ByteArray) : (insL p s ts).flatten = ts.take p ++ s :: ts.drop p := by
  unfold insL
  split
  · simp
  · split
    · rename_i h
      have e1 : ts.take p = ts.take 16 ++ (ts.drop 16).take (p - 16) := by
        rw [← List.take_add, show 16 + (p - 16) = p by omega]
      have e2 : ts.drop p = (ts.drop 16).drop (p - 16) := by rw [List.drop_drop, show 16 + (p - 16) = p by omega]
      rw [e1, e2]
      simp
    · rename_i h
      have e1 : ts.take p = (ts.take 16).take p := by rw [List.take_take, Nat.min_eq_left (by omega)]
      have e2 : ts.drop p = (ts.take 16).drop p ++ ts.drop 16 := by
        conv => lhs; rw [← List.take_append_drop 16 ts]
        rw [List.drop_append]
        congr 1
        rw [List.length_take]
        by_cases g : 16 ≤ ts.length
        · rw [Nat.min_eq_left g, show p - 16 = 0 by omega]; rfl
        · rw [List.drop_of_length_le (by omega : ts.length ≤ 16)]; simp
      rw [e1, e2]
      simp
set_option maxRecDepth 100000 in
set_option maxHeartbeats 1000000 in
theorem insert_nil (w : World) (i : Int) (s : ByteArray) : Calls Try.prog 21 #[nul, .int .i64 i, .string s] w fun e w' => e = .returned (.int .i64 1) ∧ w' = w := by
  go_enter Try.func21, Try.ntmps21
  go_wp2
  go_ret
  exact ⟨rfl, rfl⟩
set_option maxRecDepth 100000 in
set_option maxHeartbeats 1000000 in
theorem insert_out (w : World) (b : Nat) (cs : List Chk) (i : Int) (s : ByteArray) (hd : Dq w b cs) (hi : i < 0 ∨ ((row cs).length : Int) < i) : Calls Try.prog 21 #[ptr b, .int .i64 i, .string s] w fun e w' => e = .returned (.int .i64 3) ∧ w' = w := by
  have d2 := hd.1.1.four.2.2.1
  have hi2 : decide (i < 0) = true ∨ (decide (i < 0) = false ∧ decide (((row cs).length : Int) < i) = true) := by
    simp only [decide_eq_true_eq, decide_eq_false_iff_not]; omega
  generalize (row cs).length = N at *
  clear hd hi
  rcases hi2 with a1 | ⟨a1, a2⟩
  all_goals
    go_enter Try.func21, Try.ntmps21
    go_wp2
    go_ret
    exact ⟨rfl, rfl⟩
set_option maxRecDepth 100000 in
set_option maxHeartbeats 1000000 in
theorem insert_no (w : World) (b : Nat) (cs : List Chk) (i : Nat) (s : ByteArray) (hd : Dq w b cs) (hi : i ≤ (row cs).length) (hs : s.size ≤ maxLen) (hc : refC (row cs).length s ≠ 0) : Calls Try.prog 21 #[ptr b, .int .i64 i, .string s] w fun e w' => e = .returned (.int .i64 (refC (row cs).length s)) ∧ w' = w := by
  have d2 := hd.1.1.four.2.2.1
  have MR := keep (refuse_any w b _ _ _ _ s hs hd.1.1)
  have e1 : (refC (row cs).length s != 0) = true := by simpa using hc
  generalize refC (row cs).length s = q at *
  generalize (row cs).length = N at *
  have a1 : decide ((i : Int) < 0) = false := decide_eq_false (by omega)
  have a2 : ¬ N < i := by omega
  have a3 : decide ((N : Int) < (i : Int)) = false := decide_eq_false (by omega)
  clear hd hi hs hc
  go_enter Try.func21, Try.ntmps21
  go_wp2_with fail
  refine MR.out.mono ?_
  rintro _ w' ⟨rfl, rfl⟩
  go_wp2
  go_ret
  exact ⟨rfl, rfl⟩
set_option maxRecDepth 100000 in
set_option maxHeartbeats 16000000 in
theorem insert_in (w : World) (b : Nat) (cs : List Chk) (i : Nat) (s : ByteArray) (hd : Dq w b cs) (hi : i ≤ (row cs).length) (hs : s.size ≤ 1048576) (hn : (row cs).length < 1048576) :
    Calls Try.prog 21 #[ptr b, .int .i64 i, .string s] w fun e w' => e = .returned (.int .i64 0) ∧ ∃ A c ts B p cs', Home cs i A c ts B p ∧ Dq w' b cs' ∧ Fd b cs w w' cs' ∧ tx cs' = tx A ++ insL p s ts ++ tx B := by
  have d2 := hd.1.1.four.2.2.1
  have MR := keep (refuse_any w b _ _ _ _ s (Nat.le_trans hs (by decide)) hd.1.1)
  have e0 : refC (row cs).length s = 0 := by unfold refC; rw [if_neg (by omega), if_neg (by omega)]
  rw [e0] at MR
  have MH := keep (home_any w b cs i hd hi)
  have HNE := keep hd.2
  obtain ⟨N, hNN⟩ : ∃ N, N = (row cs).length := ⟨_, rfl⟩
  rw [← hNN] at d2 hi hn
  have a1 : decide ((i : Int) < 0) = false := decide_eq_false (by omega)
  have a2 : ¬ N < i := by omega
  have a3 : decide ((N : Int) < (i : Int)) = false := decide_eq_false (by omega)
  have HN := keep (hNN ▸ hn)
  have HSZ := keep hs
  clear hd hi hs hn hNN e0
  go_enter Try.func21, Try.ntmps21
  go_wp2_with fail
  refine MR.out.mono ?_
  rintro _ w0 ⟨rfl, hw⟩
  obtain rfl := hw.symm
  go_wp2_with fail
  refine MH.out.mono ?_
  rintro _ w1 ⟨A, c, ts, B, p, hH, rfl, hq, hf⟩
  have hrl : (row (A ++ (c, ts) :: B)).length < 1048576 := by
    rcases hH.is with e | ⟨e, e1, e2, e3⟩
    · rw [← e]; exact HN.out
    · subst e1 e2 e3; exact (by decide : 0 < 1048576)
  have hne : ∀ x ∈ A ++ B, 1 ≤ x.2.length := fun x hx => by
    rcases hH.is with e | ⟨e, e1, e2, e3⟩
    · refine HNE.out x ?_
      rw [e]
      rcases List.mem_append.1 hx with h | h <;> simp [h]
    · rw [e1, e3] at hx; simp at hx
  have hck := (ch_app.1 hq.2.1).2.1
  have hle : ts.length ≤ 32 := hck.le
  have mR := room_any w1 c ts.length hle hck.cells.2.2.1
  have hpl := hH.le
  by_cases hr : ts.length < 32
  · rw [decide_eq_true hr] at mR
    have mP := put_any w1 b c A B ts p s hq hpl hr hrl HSZ.out
    have MR1 := keep mR
    have MP := keep mP
    have HH := keep hH
    have HF := keep hf
    have HNE2 := keep hne
    have e3 : insL p s ts = [ts.take p ++ s :: ts.drop p] := by unfold insL; rw [if_pos hr]
    have E3 := keep e3
    clear mR mP hH hf hq hne hck hle hpl hrl e3 d2 hr
    go_wp2_with fail
    refine MR1.out.mono ?_
    rintro _ w2 ⟨rfl, hw⟩
    obtain rfl := hw.symm
    go_wp2_with fail
    refine MP.out.mono ?_
    rintro _ w3 ⟨rfl, p1, p2⟩
    have P := keep (And.intro p1 p2)
    clear p1 p2
    go_wp2
    go_ret
    refine ⟨rfl, A, c, ts, B, p, _, HH.out, ⟨P.out.1, fun x hx => ?_⟩, Fd.trans HF.out P.out.2, by rw [E3.out]; simp⟩
    rcases List.mem_append.1 hx with h | h
    · exact HNE2.out x (by simp [h])
    · rcases List.mem_cons.1 h with rfl | h
      · show 1 ≤ (ts.take p ++ s :: ts.drop p).length
        rw [List.length_append, List.length_cons]; omega
      · exact HNE2.out x (by simp [h])
  · rw [decide_eq_false hr] at mR
    have hl : ts.length = 32 := by omega
    have mP := part_any w1 b c A B ts hq hl
    have MR1 := keep mR
    have MP := keep mP
    have HH := keep hH
    have HF := keep hf
    have HNE2 := keep hne
    have HL := keep hl
    have HRL := keep hrl
    have HPL := keep hpl
    clear mR mP hH hf hq hne hck hle hpl hrl d2 hr hl
    go_wp2_with fail
    refine MR1.out.mono ?_
    rintro _ w2 ⟨rfl, hw⟩
    obtain rfl := hw.symm
    go_wp2_with fail
    refine MP.out.mono ?_
    rintro _ w3 ⟨rfl, p1, p2⟩
    obtain ⟨d, hd⟩ : ∃ d, d = w1.heap.size := ⟨_, rfl⟩
    rw [← hd] at p1 p2 ⊢
    have l1 : (ts.take 16).length = 16 := by rw [List.length_take, HL.out]; rfl
    have l2 : (ts.drop 16).length = 16 := by rw [List.length_drop, HL.out]
    have hrow : row (A ++ (c, ts.take 16) :: (d, ts.drop 16) :: B) = row (A ++ (c, ts) :: B) := by
      simp only [row_app, row_cons]; rw [← List.append_assoc (ts.take 16), List.take_append_drop]
    by_cases hp : 16 ≤ p
    · have a4 : decide ((p : Int) ≥ 16) = true := decide_eq_true (by omega)
      have a5 : decide ((16 : Int) ≤ (p : Int)) = true := decide_eq_true (by omega)
      have e5 : A ++ (c, ts.take 16) :: (d, ts.drop 16) :: B = (A ++ [(c, ts.take 16)]) ++ (d, ts.drop 16) :: B := by simp
      obtain ⟨q, hq⟩ : ∃ q, q = p - 16 := ⟨_, rfl⟩
      have hp32 : p ≤ 32 := by have := HPL.out; rw [HL.out] at this; exact this
      have mQ := put_any w3 b d (A ++ [(c, ts.take 16)]) B (ts.drop 16) q s (e5 ▸ p1) (by omega) (by omega) (by rw [← e5, hrow]; exact HRL.out) HSZ.out
      have wr : IntKind.i64.wrap ((p : Int) - 16) = (q : Int) := by rw [IntKind.wrap_i64]; omega
      have e3 : insL p s ts = [ts.take 16, (ts.drop 16).take q ++ s :: (ts.drop 16).drop q] := by unfold insL; rw [if_neg (by rw [HL.out]; omega), if_pos hp, hq]
      rw [← e5] at mQ
      have F1 := keep (Fd.trans HF.out p2)
      have MQ := keep mQ
      have E3 := keep e3
      have L1 := keep l1
      clear mQ e3 p1 p2 e5 l1 l2 hrow hd hq hp32 hp
      go_wp2_with fail
      refine MQ.out.mono ?_
      rintro _ w4 ⟨rfl, p1, p2⟩
      have P := keep (And.intro p1 p2)
      clear p1 p2
      go_wp2
      go_ret
      refine ⟨rfl, A, c, ts, B, p, _, HH.out, ⟨P.out.1, fun x hx => ?_⟩, Fd.trans F1.out P.out.2, by rw [E3.out]; simp⟩
      rcases List.mem_append.1 hx with h | h
      · rcases List.mem_append.1 h with h | h
        · exact HNE2.out x (by simp [h])
        · rcases List.mem_cons.1 h with rfl | h
          · show 1 ≤ (ts.take 16).length
            rw [L1.out]; decide
          · cases h
      · rcases List.mem_cons.1 h with rfl | h
        · show 1 ≤ ((ts.drop 16).take q ++ s :: (ts.drop 16).drop q).length
          rw [List.length_append, List.length_cons]; omega
        · exact HNE2.out x (by simp [h])
    · have a4 : decide ((p : Int) ≥ 16) = false := decide_eq_false (by omega)
      have a5 : decide ((16 : Int) ≤ (p : Int)) = false := decide_eq_false (by omega)
      have mQ := put_any w3 b c A ((d, ts.drop 16) :: B) (ts.take 16) p s p1 (by omega) (by omega) (by rw [hrow]; exact HRL.out) HSZ.out
      have e3 : insL p s ts = [(ts.take 16).take p ++ s :: (ts.take 16).drop p, ts.drop 16] := by unfold insL; rw [if_neg (by rw [HL.out]; omega), if_neg hp]
      have F1 := keep (Fd.trans HF.out p2)
      have MQ := keep mQ
      have E3 := keep e3
      have L2 := keep l2
      clear mQ e3 p1 p2 l1 l2 hrow hd hp
      go_wp2_with fail
      refine MQ.out.mono ?_
      rintro _ w4 ⟨rfl, p1, p2⟩
      have P := keep (And.intro p1 p2)
      clear p1 p2
      go_wp2
      go_ret
      refine ⟨rfl, A, c, ts, B, p, _, HH.out, ⟨P.out.1, fun x hx => ?_⟩, Fd.trans F1.out P.out.2, by rw [E3.out]; simp⟩
      rcases List.mem_append.1 hx with h | h
      · exact HNE2.out x (by simp [h])
      · rcases List.mem_cons.1 h with rfl | h
        · show 1 ≤ ((ts.take 16).take p ++ s :: (ts.take 16).drop p).length
          rw [List.length_append, List.length_cons]; omega
        · rcases List.mem_cons.1 h with rfl | h
          · show 1 ≤ (ts.drop 16).length
            rw [L2.out]; decide
          · exact HNE2.out x (by simp [h])
end Go.Proofs.Ytlfkdohajfkhdaa
