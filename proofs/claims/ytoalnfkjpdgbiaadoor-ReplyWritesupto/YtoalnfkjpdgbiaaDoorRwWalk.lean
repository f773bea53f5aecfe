/-
  The walk of ReplyWrites.
-/
import Derived.Test.YtoalnfkjpdgbiaaDoorRwTwin
import Derived.Test.YtoalnfkjpdgbiaaDoorRwEnc
import Derived.Test.YtoalnfkjpdgbiaaDoorRwLikes
import Derived.Test.YtoalnfkjpdgbiaaDoorRwSpt1
namespace Go.Proofs.YtoalnfkjpdgbiaaDoor
open Go.RowKit
set_option linter.unusedVariables false
set_option maxRecDepth 100000 in
set_option maxHeartbeats 8000000 in
theorem writes_walk (so : Option Addr) (cap : Nat) (S : List Nd) (w : World) (hN : Nds w so S) (hl : S.length ≤ 1048576) (hw : rest S 0 ≤ 1048576) (ht : Tab w) :
    Calls Tryd.prog 3 #[.slice so S.length cap] w fun e w' => e = .returned (.bool true) ∧ Below w.heap.size w w' := by
  obtain ⟨PP, hPP⟩ : ∃ PP : Ending → World → Prop, PP = fun e w' => e = .returned (.bool true) ∧ Below w.heap.size w w' := ⟨_, rfl⟩
  rw [← hPP]
  have HP := keep hPP
  clear hPP
  have hwt := top_wt S
  have hin := tre_in S (fun o ho => by
    obtain ⟨j, hj, rfl⟩ := List.mem_iff_getElem.1 ho
    obtain ⟨a, _, _, hok, _⟩ := hN j hj
    exact hok.2.2.1) 12 0
  have TR := keep (tree_top so cap S hl w hN)
  obtain ⟨R, hR⟩ : ∃ R : Rp.T 13, R = (tre S 12 0).1 := ⟨_, rfl⟩
  obtain ⟨at', hat⟩ : ∃ a, a = (tre S 12 0).2 := ⟨_, rfl⟩
  rw [← hR, ← hat] at TR
  have hw2 : Rp.wt 13 R ≤ 2000000 := by rw [hR]; omega
  have hin2 : Rp.InP 13 R := by rw [hR]; exact hin
  have hLL : (Rp.enc 13 R).length ≤ 1000000000 := by have := enc_wt 13 R hin2 hw2; omega
  have EN := keep (fun cs w' (hT : Tel (· < w'.heap.size) w' 13 cs R) (hb : Below w.heap.size w w') => pencode 13 R cs w' (by decide) hin2 hw2 hT (tab_below ht hb (tab_lt ht)))
  have RE := keep (fun cs w' (hT : Tel (· < w'.heap.size) w' 13 cs R) => rencode 13 R cs w' (by decide) hin2 hw2 hT)
  have TW := keep (fun cs w' (hT : Tel (· < w'.heap.size) w' 13 cs R) => twin_any 13 R cs w' hT hw2)
  have SA := keep (fun ca cb w' (ha : Tel (· < w'.heap.size) w' 13 ca R) (hb : Tel (· < w'.heap.size) w' 13 cb R) => rsame_any 13 R R ca cb w' ha hb)
  obtain ⟨V, hV⟩ : ∃ V, V = verd 13 R := ⟨_, rfl⟩
  obtain ⟨L, hL⟩ : ∃ L, L = if V = 0 then Rp.enc 13 R else [] := ⟨_, rfl⟩
  have hLn : L.length ≤ 1000000000 := by
    rw [hL]
    split
    · exact hLL
    · exact Nat.zero_le _
  unfold EncT at EN RE
  rw [← hV, ← hL] at EN RE
  obtain ⟨ml, hml⟩ : ∃ ml, L.length = ml := ⟨_, rfl⟩
  have HML := keep hml
  have HLN := keep hLn
  have HW2 := keep hw2
  have SM := keep (fun va vb w' (ha : Kb w' va L) (hb : Kb w' vb L) => same_any va vb L L w' ha.bs hb.bs (by omega))
  clear hV hL hLn hLL hml hR hat hwt hin hw2 hin2 hN hl hw ht
  generalize S.length = sl at *
  go_enter Tryd.func3, Tryd.ntmps3
  go_wp2_with fail
  refine TR.out.mono ?_
  rintro e w1 ⟨cs1, rfl, t1, b1⟩
  obtain ⟨q0, q1, q2, q3, q4, q5, rfl, _⟩ := t1.six
  obtain ⟨W1, hW1⟩ : ∃ x, x = w1.alloc (.cells #[.int .i64 q0, .string q1, .int .i64 q2, .slice q3 q4 q5] 25) := ⟨_, rfl⟩
  have a1 : Below w1.heap.size w1 W1 := hW1 ▸ (Below.refl _ _).alloc (Nat.le_refl _) _
  have X1 := keep (show Box W1 w1.heap.size _ _ _ _ from hW1 ▸ Box.new w1 _ _ _ _)
  have T1 := keep t1
  have A1 := keep a1
  have B1 := keep (b1.trans (a1.mono b1.size))
  have tW1 : Tel (· < W1.heap.size) W1 13 [.int .i64 q0, .string q1, .int .i64 q2, .slice q3 q4 q5] R := Tel.mono (fun b h => Nat.lt_of_lt_of_le h.2 a1.size) (fun b h => a1.block b h.2) _ _ _ t1
  have TW1 := keep tW1
  have CT := keep (TW.out _ W1 tW1)
  obtain ⟨d0, d1, d2, d3⟩ := X1.out.cells
  have hq1 := hW1.symm
  have HB1 := keep b1
  clear hW1 a1 b1 t1 tW1
  go_wp2_with fail
  refine CT.out.mono ?_
  rintro e w2 ⟨cs2, rfl, t2, b2⟩
  obtain ⟨p0, p1, p2, p3, p4, p5, rfl, _⟩ := t2.six
  obtain ⟨W2, hW2⟩ : ∃ x, x = w2.alloc (.cells #[.int .i64 p0, .string p1, .int .i64 p2, .slice p3 p4 p5] 25) := ⟨_, rfl⟩
  have a2 : Below w2.heap.size w2 W2 := hW2 ▸ (Below.refl _ _).alloc (Nat.le_refl _) _
  have X2 := keep (show Box W2 w2.heap.size _ _ _ _ from hW2 ▸ Box.new w2 _ _ _ _)
  have C2 := keep (b2.trans (a2.mono b2.size))
  have T2 := keep (show Tel (fun b => W1.heap.size ≤ b ∧ b < W2.heap.size) W2 13 [.int .i64 p0, .string p1, .int .i64 p2, .slice p3 p4 p5] R from Tel.mono (fun b h => ⟨h.1, Nat.lt_of_lt_of_le h.2 a2.size⟩) (fun b h => a2.block b h.2) _ _ _ t2)
  have B2 := keep (B1.out.trans (C2.out.mono B1.out.size))
  have TR2 := keep (TW1.out.any C2.out)
  have tW2 : Tel (· < W2.heap.size) W2 13 [.int .i64 p0, .string p1, .int .i64 p2, .slice p3 p4 p5] R := Tel.mono (fun b h => h.2) (fun _ _ => rfl) _ _ _ T2.out
  have TW2 := keep tW2
  have CR := keep (RE.out _ W2 tW2)
  have S12 := keep (show W1.heap.size ≤ w2.heap.size from b2.size)
  clear d0 d1 d2 d3 hq1
  obtain ⟨d0, d1, d2, d3⟩ := X2.out.cells
  have hq2 := hW2.symm
  clear hW2 a2 b2 t2 tW2
  go_wp2_with fail
  refine CR.out.mono ?_
  rintro e w3 ⟨⟨ao3, m3, c3, rfl, nb3⟩, b3⟩
  have hm3 : m3 = ml := nb3.1.len.trans HML.out
  subst hm3
  have NW := keep nb3
  have E3 := keep b3
  have x13 := (X1.out.below C2.out X1.out.lt).below b3 (Nat.lt_of_lt_of_le X1.out.lt C2.out.size)
  have B3 := keep (B2.out.trans (b3.mono B2.out.size))
  have CP := keep (EN.out _ w3 (TR2.out.any b3) B3.out)
  clear d0 d1 d2 d3 hq2 b3 nb3
  obtain ⟨d0, d1, d2, d3⟩ := x13.cells
  clear x13
  go_wp2_with fail
  refine CP.out.mono ?_
  rintro e w4 ⟨⟨ao4, m4, c4, rfl, nb4⟩, b4⟩
  have hm4 : m4 = m3 := nb4.1.len.trans HML.out
  subst hm4
  have NA := keep nb4
  have E4 := keep b4
  have F4 := keep (E3.out.trans (b4.mono E3.out.size))
  have x14 := (X1.out.below C2.out X1.out.lt).below F4.out (Nat.lt_of_lt_of_le X1.out.lt C2.out.size)
  have B4 := keep (B2.out.trans (F4.out.mono B2.out.size))
  have CP2 := keep (EN.out _ w4 (TR2.out.any F4.out) B4.out)
  clear d0 d1 d2 d3 b4 nb4 CP
  obtain ⟨d0, d1, d2, d3⟩ := x14.cells
  clear x14
  go_wp2_with fail
  refine CP2.out.mono ?_
  rintro e w5 ⟨⟨ao5, m5, c5, rfl, nb5⟩, b5⟩
  have hm5 : m5 = m4 := nb5.1.len.trans HML.out
  subst hm5
  have NB := keep nb5
  have F5 := keep (F4.out.trans (b5.mono F4.out.size))
  have KW5 := keep ((NW.out.1.later E4.out).later b5)
  have KA5 := keep (NA.out.1.later b5)
  have S45 := keep b5.size
  clear d0 d1 d2 d3 b5 nb5 CP2
  have hvv : (V != V) = false := by simp
  go_wp2_with fail
  refine (SM.out _ _ _ KA5.out KW5.out).mono ?_
  rintro e w6 ⟨⟨z, rfl, hz⟩, b6⟩
  obtain rfl : z = true := hz.2 (by trivial)
  have E6 := keep b6
  clear b6 hz
  go_wp2_with fail
  refine (SM.out _ _ _ (NB.out.1.later E6.out) (KW5.out.later E6.out)).mono ?_
  rintro e w7 ⟨⟨z, rfl, hz⟩, b7⟩
  obtain rfl : z = true := hz.2 (by trivial)
  have E7 := keep (E6.out.trans (b7.mono E6.out.size))
  have F7 := keep (F5.out.trans (E7.out.mono F5.out.size))
  have x17 := (X1.out.below C2.out X1.out.lt).below F7.out (Nat.lt_of_lt_of_le X1.out.lt C2.out.size)
  have x27 := X2.out.below F7.out X2.out.lt
  have CS := keep (SA.out _ _ w7 (TR2.out.any F7.out) (TW2.out.any F7.out))
  clear b7 hz
  obtain ⟨d0, d1, d2, d3⟩ := x17.cells
  obtain ⟨e0, e1, e2, e3⟩ := x27.cells
  clear x17 x27
  go_wp2_with fail
  refine CS.out.mono ?_
  rintro e w8 ⟨⟨z, rfl, hz⟩, b8⟩
  obtain rfl : z = true := hz.2 (by trivial)
  have E8 := keep (E7.out.trans (b8.mono E7.out.size))
  have F8 := keep (F5.out.trans (E8.out.mono F5.out.size))
  have KA8 := keep (KA5.out.later E8.out)
  have KB8 := keep (NB.out.1.later E8.out)
  have KW8 := keep (KW5.out.later E8.out)
  have S38 := keep (show w3.heap.size ≤ w8.heap.size from Nat.le_trans E4.out.size (Nat.le_trans S45.out E8.out.size))
  have S48 := keep (show w4.heap.size ≤ w8.heap.size from Nat.le_trans S45.out E8.out.size)
  clear b8 hz d0 d1 d2 d3 e0 e1 e2 e3 CS
  go_wp2_with fail
  refine (bspoil_any w3.heap.size _ L w8 KA8.out NA.out.2 S38.out HLN.out).mono ?_
  rintro e w9 ⟨rfl, b9, f9⟩
  have G9 := keep b9
  have KW9 : Kept (Kb w9 (.slice ao3 m5 c3) L) := own_kept KW8.out (fun k hk => b9.block k (NW.out.1.lt k hk))
  have KB9 : Kept (Kb w9 (.slice ao5 m5 c5) L) := own_kept KB8.out (fun k hk => f9 k (KB8.out.lt k hk) (fun e => by
    have h1 := NA.out.1.lt k e
    have h2 := NB.out.2 k hk
    omega))
  have F9 := keep (F8.out.trans (b9.mono E3.out.size))
  have S49 := keep (show w4.heap.size ≤ w9.heap.size from Nat.le_trans S48.out b9.size)
  clear b9 f9
  go_wp2_with fail
  refine (SM.out _ _ _ KB9.out KW9.out).mono ?_
  rintro e w10 ⟨⟨z, rfl, hz⟩, b10⟩
  obtain rfl : z = true := hz.2 (by trivial)
  have KB10 := keep (KB9.out.later b10)
  have KW10 := keep (KW9.out.later b10)
  have F10 := keep (F9.out.trans (b10.mono (Nat.le_trans E3.out.size (Nat.le_trans E4.out.size S49.out))))
  have S410 := keep (show w4.heap.size ≤ w10.heap.size from Nat.le_trans S49.out b10.size)
  clear b10 hz
  go_wp2_with fail
  refine (bspoil_any w4.heap.size _ L w10 KB10.out NB.out.2 S410.out HLN.out).mono ?_
  rintro e w11 ⟨rfl, b11, f11⟩
  have KW11 : Kept (Kb w11 (.slice ao3 m5 c3) L) := own_kept KW10.out (fun k hk => b11.block k (Nat.lt_of_lt_of_le (NW.out.1.lt k hk) E4.out.size))
  have F11 := keep (F10.out.trans (b11.mono (Nat.le_trans E3.out.size E4.out.size)))
  have x111 := (X1.out.below C2.out X1.out.lt).below F11.out (Nat.lt_of_lt_of_le X1.out.lt C2.out.size)
  have x211 := X2.out.below F11.out X2.out.lt
  have X211 := keep x211
  obtain ⟨d0, d1, d2, d3⟩ := x111.cells
  obtain ⟨P, hP⟩ : ∃ P : Nat → Prop, P = fun b => w.heap.size ≤ b ∧ b < w1.heap.size := ⟨_, rfl⟩
  have hPl : ∀ b, P b → w.heap.size ≤ b ∧ b < w1.heap.size := fun b hb => by rw [hP] at hb; exact hb
  have c11 : Below w1.heap.size w1 w11 := (A1.out.trans (C2.out.mono A1.out.size)).trans (F11.out.mono (Nat.le_trans A1.out.size C2.out.size))
  have t11 : Tel P w11 13 [.int .i64 q0, .string q1, .int .i64 q2, .slice q3 q4 q5] R := Tel.mono (fun b h => by rw [hP]; exact h) (fun b h => c11.block b h.2) _ _ _ T1.out
  obtain ⟨lv, elv, hlst, _⟩ := t11
  have elv' : lv = .slice q3 q4 q5 := by
    injection elv with _ h2
    injection h2 with _ h3
    injection h3 with _ h4
    injection h4 with h5 _
    exact h5.symm
  subst elv'
  have hrd : Rdy P w11 12 (.slice q3 q4 q5) := Rdy.of_lst 12 _ _ hlst (by
    have h := HW2.out
    have hw' : Rp.wt 13 R = 4 + (Rp.tx R).size + ((Rp.ls R).map (Rp.wt 12)).sum := rfl
    omega)
  have SPC := keep (spoilt_any P 12 w11 q0 q1 q2 (.slice q3 q4 q5) (fun b hb => Nat.lt_of_lt_of_le (hPl b hb).2 c11.size) hrd)
  have HPL := keep hPl
  have C11 := keep c11
  clear b11 f11 x111 x211 hP hPl c11 elv hlst hrd
  go_wp2_with fail
  refine SPC.out.mono ?_
  rintro e w12 ⟨rfl, sp⟩
  have bsp : Below w.heap.size w11 w12 := sp.below (fun b hb => (HPL.out b hb).1) (Nat.le_trans B2.out.size F11.out.size)
  have B12 := keep ((B2.out.trans (F11.out.mono B2.out.size)).trans bsp)
  have hi12 : ∀ b, w1.heap.size ≤ b → b < w11.heap.size → w12.heap[b]? = w11.heap[b]? := fun b h1 h2 => sp.2.1 b h2 (fun hp => by have := (HPL.out b hp).2; omega)
  have x212 : Box w12 w2.heap.size (.int .i64 p0) (.string p1) (.int .i64 p2) (.slice p3 p4 p5) := (hi12 _ (by have := S12.out; have := A1.out.size; omega) X211.out.lt).trans X211.out
  have t212 : Tel (· < w12.heap.size) w12 13 [.int .i64 p0, .string p1, .int .i64 p2, .slice p3 p4 p5] R :=
    Tel.mono (fun b h => Nat.lt_of_lt_of_le h.2 (Nat.le_trans F11.out.size bsp.size)) (fun b h => (hi12 b (Nat.le_trans A1.out.size h.1) (Nat.lt_of_lt_of_le h.2 F11.out.size)).trans (F11.out.block b h.2)) _ _ _ T2.out
  have KW12 : Kept (Kb w12 (.slice ao3 m5 c3) L) := own_kept KW11.out (fun k hk => hi12 k (Nat.le_trans (Nat.le_trans A1.out.size C2.out.size) (NW.out.2 k hk)) (KW11.out.lt k hk))
  have CE := keep (EN.out _ w12 t212 B12.out)
  clear d0 d1 d2 d3 sp bsp hi12 t212 SPC
  obtain ⟨d0, d1, d2, d3⟩ := x212.cells
  clear x212
  go_wp2_with fail
  refine CE.out.mono ?_
  rintro e w13 ⟨⟨ao6, m6, c6, rfl, nb6⟩, b13⟩
  have hm6 : m6 = m5 := nb6.1.len.trans HML.out
  subst hm6
  have NC := keep nb6
  have KW13 := keep (KW12.out.later b13)
  have B13 := keep (B12.out.trans (b13.mono B12.out.size))
  clear d0 d1 d2 d3 b13 nb6 CE
  go_wp2_with fail
  refine (SM.out _ _ _ NC.out.1 KW13.out).mono ?_
  rintro e w14 ⟨⟨z, rfl, hz⟩, b14⟩
  obtain rfl : z = true := hz.2 (by trivial)
  have B14 := keep (B13.out.trans (b14.mono B13.out.size))
  clear b14 hz
  go_wp2_with fail
  rw [HP.out]
  exact ⟨rfl, B14.out⟩
end Go.Proofs.YtoalnfkjpdgbiaaDoor
