/-
  The walk of ReplyCommands: a command is an array of bulks; Error's text can always be written.
-/
import Derived.Test.YtehpdgkbggiejaaDoorRpBks
import Derived.Test.YtehpdgkbggiejaaDoorRpFormW
import Derived.Test.YtehpdgkbggiejaaDoorRpBackW
namespace Go.Proofs.YtehpdgkbggiejaaDoor
open Go.RowKit
set_option linter.unusedVariables false
/-- an error's reply -/
def erR (n : Nat) (t : ByteArray) : Rp.T (n + 1) := Rp.mk 2 t 0 []
theorem er_right (n : Nat) (t : ByteArray) (h : Rp.clean (Rp.bytesOf t) = true) : Rp.right (n + 1) (erR n t) = true := by
  show (Rp.wellW 2 t 0 ([] : List (Rp.T n)) && ([] : List (Rp.T n)).all (Rp.right n)) = true
  rw [Rp.wellW_text 2 t (.inr rfl) h]
  rfl
theorem er_len (n : Nat) (t : ByteArray) : (Rp.enc (n + 1) (erR n t)).length = t.size + 3 := by
  show (45 :: (Rp.bytesOf t ++ Rp.crlf)).length = _
  rw [List.length_cons, List.length_append, Rp.bytes_len]
  rfl
theorem er_deep (n d : Nat) (t : ByteArray) : Rp.deep (n + 1) d (erR n t) = false := rfl
theorem er_fits (n : Nat) (t : ByteArray) (h : t.size ≤ 16777216) : Rp.Fits (n + 1) (erR n t) :=
  ⟨h, Nat.zero_le _, ⟨by show (-9223372036854775808 : Int) ≤ 0; decide, by show (0 : Int) ≤ 9223372036854775807; decide⟩, fun u hu => by cases hu⟩
theorem er_tel (P : Nat → Prop) (w : World) (n : Nat) (t : ByteArray) (h : t.size < 4294967281) : Tel P w (n + 1) [.int .i64 2, .string t, .int .i64 0, .slice none 0 0] (erR n t) :=
  ⟨_, rfl, .inl ⟨rfl, _, rfl⟩, ⟨by show (-9223372036854775808 : Int) ≤ 2; decide, by show (2 : Int) ≤ 9223372036854775807; decide⟩, ⟨by show (-9223372036854775808 : Int) ≤ 0; decide, by show (0 : Int) ≤ 9223372036854775807; decide⟩, h⟩
set_option maxRecDepth 100000 in
set_option maxHeartbeats 8000000 in
theorem cmd_walk (so : Option Addr) (cap : Nat) (S : List ByteArray) (s : ByteArray) (w : World) (hT : Txs w so S) (hl : S.length ≤ 2000000) (hZ : (Rp.enc 2 (rqR S)).length ≤ 16777216) (hs : s.size ≤ 1048576) (hv : Vars w) (ht : Tab w) (h3 : 3 ≤ w.heap.size) :
    Calls Tryd.prog 8 #[.slice so S.length cap, .string s] w fun e w' => e = .returned (.bool true) ∧ Below w.heap.size w w' := by
  have hcn := Rp.cnt_le 2 (rqR S) (rq_right S)
  have WK := keep (wakes_any w hv ht h3)
  have RQ := keep (fun w' (hb : Below w.heap.size w w') => request_any so cap S w' (hT.bel hb) (tab_below ht hb (tab_lt ht)) hZ)
  have BK := keep (fun w' (hb : Below w.heap.size w w') => bulks_any 0 so cap S w' (hT.bel hb) hl)
  have EN := keep (fun w' cs (hT : Tel (· < w'.heap.size) w' 2 cs (rqR S)) (hb : Below w.heap.size w w') => enc_ok 2 (rqR S) cs w' (by decide) (by omega) hT (tab_below ht hb (tab_lt ht)) (rq_verd S) (rq_right S) hZ)
  obtain ⟨Z, hZZ⟩ : ∃ Z, Z = Rp.enc 2 (rqR S) := ⟨_, rfl⟩
  rw [← hZZ] at RQ EN hZ
  obtain ⟨t, htt⟩ : ∃ t, t = errT s := ⟨_, rfl⟩
  have hts : t.size = s.size := htt ▸ errT_size s
  have hclean : Rp.clean (Rp.bytesOf t) = true := htt ▸ errT_clean s
  have ER := keep (fun w' (hb : Below w.heap.size w w') => error_any s w' (hv.below hb) (by omega))
  rw [← htt] at ER
  have hr9 : Rp.right 9 (erR 8 t) = true := er_right 8 t hclean
  have hver : verd 9 (erR 8 t) = 0 := by unfold verd; rw [if_pos hr9, if_neg (by rw [er_deep]; decide)]
  have hc9 := Rp.cnt_le 9 (erR 8 t) hr9
  have hl9 : (Rp.enc 9 (erR 8 t)).length = t.size + 3 := er_len 8 t
  have EE := keep (fun w' (hb : Below w.heap.size w w') => enc_ok 9 (erR 8 t) [.int .i64 2, .string t, .int .i64 0, .slice none 0 0] w' (by decide) (by omega) (er_tel _ _ _ _ (by omega)) (tab_below ht hb (tab_lt ht)) hver hr9 (by omega))
  have hback : Rp.dec 8 (Rp.enc 9 (erR 8 t) ++ []) = .ok (erR 8 t, []) := Rp.back 8 (erR 8 t) [] hr9 (er_deep _ _ _) (er_fits _ _ (by omega))
  rw [List.append_nil] at hback
  obtain ⟨C, hC⟩ : ∃ C, C = Rp.enc 9 (erR 8 t) := ⟨_, rfl⟩
  rw [← hC] at hback EE hl9
  have DO := keep (fun w' v' (hbs : Bs (· < w'.heap.size) w' v' C) (hb' : Below w.heap.size w w') => Decode_ok w' v' C [] (erR 8 t) hbs (hv.below hb') (Nat.le_trans h3 hb'.size) (by omega) hback (by show ¬ 16777216 < C.length - 0; omega))
  rw [show C.length - ([] : List UInt8).length = C.length from rfl] at DO
  have HZL := keep hZ
  have HCL := keep hl9
  have HS := keep hs
  have HTS := keep (show t.size < 4294967281 by omega)
  have s8 : decide ((8388608 : Int) < (s.size : Int)) = false := decide_eq_false (by omega)
  have s8' : ¬ (8388608 : Int) < (s.size : Int) := by omega
  generalize S.length = sl at *
  clear hcn hZZ htt hclean hr9 hver hc9 hback hC hl hZ hs hv ht h3 hT hl9
  go_enter Tryd.func8, Tryd.ntmps8
  go_wp2_with fail
  refine WK.out.mono ?_
  rintro e w1 ⟨rfl, b1⟩
  have B1 := keep b1
  clear b1
  go_wp2_with fail
  refine (RQ.out _ B1.out).mono ?_
  rintro e w2 ⟨⟨ao2, m2, c2, rfl, nb2⟩, b2⟩
  have HM2 := keep (show m2 = Z.length from nb2.1.len)
  have B2 := keep (B1.out.trans (b2.mono B1.out.size))
  have N2 := keep nb2.1
  clear b2 nb2 RQ
  go_wp2_with fail
  refine (BK.out _ B2.out).mono ?_
  rintro e w3 ⟨⟨v3, rfl, t3⟩, b3⟩
  have B3 := keep (B2.out.trans (b3.mono B2.out.size))
  have N3 := keep (N2.out.later b3)
  have E3 := keep (EN.out w3 _ (Tel.mono (fun b h => h.2) (fun b h => rfl) _ _ _ t3) B3.out)
  clear b3 t3 BK EN
  go_wp2_with fail
  refine E3.out.mono ?_
  rintro e w4 ⟨⟨ao4, m4, c4, rfl, nb4⟩, b4⟩
  have B4 := keep (B3.out.trans (b4.mono B3.out.size))
  have k2 : decide ((m2 : Int) ≤ 16777216) = true := decide_eq_true (by have := HZL.out; have := HM2.out; omega)
  have k2' : (m2 : Int) ≤ 16777216 := by have := HZL.out; have := HM2.out; omega
  have k3' : ¬ (16777216 : Int) < (m2 : Int) := by omega
  have k3 : decide ((16777216 : Int) < (m2 : Int)) = false := decide_eq_false k3'
  have SA := keep (same_any _ _ _ _ w4 (Kb.bs (N3.out.later b4)) (Kb.bs nb4.1) (by have := HZL.out; omega))
  clear b4 nb4 E3
  go_wp2_with fail
  refine SA.out.mono ?_
  rintro e w5 ⟨⟨u, rfl, hu⟩, b5⟩
  obtain rfl : u = true := hu.2 trivial
  have B5 := keep (B4.out.trans (b5.mono B4.out.size))
  clear b5 hu SA
  go_wp2_with fail
  refine (ER.out _ B5.out).mono ?_
  rintro e w6 ⟨rfl, b6⟩
  obtain ⟨wz, hwz⟩ : ∃ x, x = w6.alloc (.cells #[.int .i64 0, .string ⟨#[]⟩, .int .i64 0, .slice none 0 0] 25) := ⟨_, rfl⟩
  have bz : Below w6.heap.size w6 wz := hwz ▸ (Below.refl _ _).alloc (Nat.le_refl _) _
  have xz := (show Box wz w6.heap.size (.int .i64 0) (.string ⟨#[]⟩) (.int .i64 0) (.slice none 0 0) from hwz ▸ Box.new w6 _ _ _ _)
  obtain ⟨y0, y1, y2, y3⟩ := xz.cells
  have f0 := xz.free 0
  have f1 := xz.free 1
  have f2 := xz.free 2
  have f3 := xz.free 3
  obtain ⟨w7, hw7⟩ : ∃ x, x = set4 wz w6.heap.size (.int .i64 2) (.string t) (.int .i64 0) (.slice none 0 0) := ⟨_, rfl⟩
  have b7 : Below w6.heap.size w6 w7 := hw7 ▸ Below.four bz (Nat.le_refl _) _ _ _ _
  have B7 := keep ((B5.out.trans (b6.mono B5.out.size)).trans (b7.mono (Nat.le_trans B5.out.size b6.size)))
  have X7 := keep (show Box w7 w6.heap.size (.int .i64 2) (.string t) (.int .i64 0) (.slice none 0 0) from hw7 ▸ Box.four xz _ _ _ _)
  obtain ⟨d0, d1, d2, d3⟩ := X7.out.cells
  have E7 := keep (EE.out w7 B7.out)
  have hqz := hwz.symm
  have hq7 : ((((wz.setCell ⟨w6.heap.size, 0, none⟩ (.int .i64 2)).setCell ⟨w6.heap.size, 1, none⟩ (.string t)).setCell ⟨w6.heap.size, 2, none⟩ (.int .i64 0)).setCell ⟨w6.heap.size, 3, none⟩ (.slice none 0 0)) = w7 := hw7.symm
  clear hw7 b6 b7 ER EE hwz bz xz
  go_wp2_with fail
  refine E7.out.mono ?_
  rintro e w8 ⟨⟨ao8, m8, c8, rfl, nb8⟩, b8⟩
  have HM8 := keep (show m8 = C.length from nb8.1.len)
  have B8 := keep (B7.out.trans (b8.mono B7.out.size))
  have X8 := keep (X7.out.below b8 X7.out.lt)
  have D8 := keep (DO.out w8 _ (Kb.bs nb8.1) B8.out)
  clear b8 nb8 E7 DO d0 d1 d2 d3 hq7 hqz y0 y1 y2 y3 f0 f1 f2 f3
  go_wp2_with fail
  refine D8.out.mono ?_
  rintro e w9 ⟨⟨cs9, rfl, t9⟩, b9⟩
  obtain ⟨p0, p1, p2, p3, p4, p5, rfl, _⟩ := t9.six
  obtain ⟨w10, hw10⟩ : ∃ x, x = w9.alloc (.cells #[.int .i64 p0, .string p1, .int .i64 p2, .slice p3 p4 p5] 25) := ⟨_, rfl⟩
  have b10 : Below w9.heap.size w9 w10 := hw10 ▸ (Below.refl _ _).alloc (Nat.le_refl _) _
  have b810 : Below w8.heap.size w8 w10 := b9.trans (b10.mono b9.size)
  have B10 := keep (B8.out.trans (b810.mono B8.out.size))
  have X10 := keep (show Box w10 w9.heap.size _ _ _ _ from hw10 ▸ Box.new w9 _ _ _ _)
  have X10r := keep (X8.out.below b810 X8.out.lt)
  obtain ⟨d0, d1, d2, d3⟩ := X10.out.cells
  obtain ⟨e0, e1, e2, e3⟩ := X10r.out.cells
  have hq10 := hw10.symm
  have AL := keep (alike_any 9 (erR 8 t) (erR 8 t) _ _ w10 (Tel.mono (fun b h => Nat.lt_of_lt_of_le h.2 b10.size) (fun b h => b10.block b h.2) _ _ _ t9) (er_tel _ _ _ _ HTS.out))
  have q1 : ((t.size : Int) == (s.size : Int)) = true := by simp [hts]
  have q2 : ((m8 : Int) == (s.size : Int) + 3) = true := by
    have h1 := HM8.out
    have h2 := HCL.out
    have : (m8 : Int) = (s.size : Int) + 3 := by omega
    simpa using this
  have nw : IntKind.i64.wrap ((s.size : Int) + 3) = (s.size : Int) + 3 := by have := HS.out; rw [IntKind.wrap_i64]; omega
  clear hw10 b9 b10 b810 t9 D8
  go_wp2_with fail
  refine AL.out.mono ?_
  rintro e w11 ⟨⟨u, rfl, hu⟩, b11⟩
  obtain rfl : u = true := hu.2 trivial
  have B11 := keep (B10.out.trans (b11.mono B10.out.size))
  clear b11 hu AL
  go_wp2
  go_ret
  exact ⟨rfl, B11.out⟩
end Go.Proofs.YtehpdgkbggiejaaDoor
