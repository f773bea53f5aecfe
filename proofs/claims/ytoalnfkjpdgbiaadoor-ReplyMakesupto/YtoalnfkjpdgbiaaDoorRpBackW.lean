/-
  The walk of ReplyBack: each reply that may be is read again as it was, whatever stands behind it; broken off it is short.
-/
import Derived.Test.YtoalnfkjpdgbiaaDoorRpPlain2
import Derived.Test.YtoalnfkjpdgbiaaDoorRpFormW
namespace Go.Proofs.YtoalnfkjpdgbiaaDoor
open Go.RowKit
set_option linter.unusedVariables false
/-- bytes more, behind a row of one's own -/
theorem app_bs {w : World} {v x : Value} {l b : List UInt8} (h : Kb w v l) (hx : Bs (· < w.heap.size) w x b) (hs : l.length + b.length ≤ 140737488351232) (ty : TypeId) :
    ∃ v' w', (Builtin.append_ #[29, 29] ty #[v, x]).run Tryd.prog w = .ok v' w' ∧ Kb w' v' (l ++ b) ∧ Gr v v' w w' := by
  obtain ⟨i0, hi0, hz0, hz1, hz2⟩ := parts_of info_u8'
  obtain ⟨ao, c, rfl, hc, hb⟩ := hx
  have src : Src Tryd.prog 1 29 (.slice ao b.length c) b.length (bcells b) w := by
    rcases hb with rfl | ⟨g, o, rfl, hg, hl⟩
    · cases ao with
      | none => exact Src.ofNil _ Tryd.underlying29 c
      | some a => exact Src.ofSlice _ Tryd.underlying29 a 0 c [] rfl (fun j u hu => by simp at hu) (fun u hu => by cases hu)
    · exact Src.ofSlice _ Tryd.underlying29 ⟨g, o, none⟩ b.length c (bcells b) (by rw [bcells_len, Nat.mul_one]) (fun j u hu => by
        rw [bcells, List.getElem?_map] at hu
        cases hx : b[j]? with
        | none => rw [hx] at hu; cases hu
        | some y =>
          rw [hx] at hu
          cases hu
          rw [add_at]
          exact hl j y hx) (fun u hu => by
        obtain ⟨y, _, rfl⟩ := List.mem_map.1 hu
        rfl)
  obtain ⟨v', w', r1, r2, r3, r4, _⟩ := app_gen w 0 29 29 ty 5 i0 _ 1 1 Tryd.underlying29 hi0 hz0 hz1 hz2 rfl (by decide) v l.length _ h _ b.length (bcells b) src (by unfold maxLen; omega) (by omega) (Nat.zero_le _)
  refine ⟨v', w', r1, ?_, r3, fun k hk => ?_⟩
  · unfold Kb
    rw [List.length_append, bcells_app]
    exact r2
  · rcases r4 with e | e
    · exact .inl (e ▸ hk)
    · rw [e] at hk; cases hk; exact .inr (Nat.le_refl _)
/-- the reply that the nodes make -/
theorem tree_top (so : Option Addr) (cap : Nat) (S : List Nd) (hl : S.length ≤ 1048576) (w : World) (hN : Nds w so S) :
    Calls Tryd.prog 9 #[.slice so S.length cap, .int .i64 0, .int .i64 0] w (TreTold 13 w (tre S 12 0).1 (tre S 12 0).2) := by
  by_cases h : 0 < S.length
  · exact tree_any so cap S hl 12 (Nat.le_refl _) w 0 h hN
  · have e : S = [] := List.length_eq_zero_iff.1 (by omega)
    subst e
    exact tree_none 12 w so cap 0 0 0 (Nat.le_refl _)
theorem top_wt (S : List Nd) : Rp.wt 13 (tre S 12 0).1 ≤ 4 + rest S 0 := by
  by_cases h : 0 < S.length
  · have := (show Rp.wt 13 (tre S 12 0).1 + rest S (tre S 12 0).2 ≤ rest S 0 from tre_wt S 12 0 h)
    omega
  · have e : S = [] := List.length_eq_zero_iff.1 (by omega)
    subst e
    exact Nat.le_refl _
set_option maxRecDepth 100000 in
set_option maxHeartbeats 8000000 in
theorem back_walk (so : Option Addr) (cap : Nat) (S : List Nd) (v : Value) (bh : List UInt8) (cut : Int) (w : World) (hN : Nds w so S) (hl : S.length ≤ 1048576) (hw : rest S 0 ≤ 1048576) (hb : Bs (· < w.heap.size) w v bh) (hm : bh.length ≤ 1048576) (hv : Vars w) (ht : Tab w) (h3 : 3 ≤ w.heap.size) :
    Calls Tryd.prog 6 #[.slice so S.length cap, v, .int .i64 cut] w fun e w' => e = .returned (.bool true) ∧ Below w.heap.size w w' := by
  have hwt := top_wt S
  have hin := tre_in S (fun o ho => by
    obtain ⟨j, hj, rfl⟩ := List.mem_iff_getElem.1 ho
    obtain ⟨a, _, _, hok, _⟩ := hN j hj
    exact hok.2.2.1) 12 0
  obtain ⟨g1, g2, g3, g4⟩ := Rp.pla_good 13 8 (tre S 12 0).1 hin (by omega)
  obtain ⟨r, hr⟩ : ∃ r : Rp.T 9, r = Rp.pla 13 8 (tre S 12 0).1 := ⟨_, rfl⟩
  rw [← hr] at g1 g2 g3 g4
  have g5 : (Rp.enc 9 r).length ≤ 7 * Rp.wt 13 (tre S 12 0).1 := g4
  have g4' : (Rp.enc 9 r).length ≤ 7340100 := by omega
  have h33 := Rp.enc_three 9 r
  have hcn := Rp.cnt_le 9 r g1
  have hver : verd 9 r = 0 := by unfold verd; rw [if_pos g1, if_neg (by rw [g2]; decide)]
  obtain ⟨B, hB⟩ : ∃ B, B = Rp.enc 9 r := ⟨_, rfl⟩
  rw [← hB] at g4' h33 hcn
  have hback : Rp.dec 8 (B ++ bh) = .ok (r, bh) := by rw [hB]; exact Rp.back 8 r bh g1 g2 g3
  obtain ⟨n, hn0, hn1, hn⟩ : ∃ n : Nat, n < B.length ∧ (n : Int) = cut % (B.length : Int) ∧ True :=
    ⟨(cut % (B.length : Int)).toNat, by have := Int.emod_lt_of_pos cut (show (0 : Int) < (B.length : Int) by omega); have := Int.emod_nonneg cut (show (B.length : Int) ≠ 0 by omega); omega, by have := Int.emod_nonneg cut (show (B.length : Int) ≠ 0 by omega); omega, trivial⟩
  have hcut : Rp.dec 8 (B.take n) = .error 5 := Rp.cut 8 r (B.take n) (B.drop n) g1 g2 g3 (fun e => by have := congrArg List.length e; rw [List.length_drop] at this; simp at this; omega) (by rw [← hB, List.take_append_drop])
  have WK := keep (wakes_any w hv ht h3)
  have TR := keep (fun w' (hb' : Below w.heap.size w w') => tree_top so cap S hl w' (hN.bel hb'))
  have PL := keep (fun w' cs (hT : Tel (· < w'.heap.size) w' 13 cs (tre S 12 0).1) => plain_any 13 8 (Nat.le_refl _) (tre S 12 0).1 cs w' hT (by omega))
  rw [← hr] at PL
  have EN := keep (fun w' cs (hT : Tel (· < w'.heap.size) w' 9 cs r) (htb : Tab w') => enc_ok 9 r cs w' (by decide) (by omega) hT htb hver g1 (by rw [← hB]; omega))
  rw [← hB] at EN
  have DO := keep (fun w' v' (hbs : Bs (· < w'.heap.size) w' v' (B ++ bh)) (hb' : Below w.heap.size w w') => Decode_ok w' v' (B ++ bh) bh r hbs (hv.below hb') (Nat.le_trans h3 hb'.size) (by rw [List.length_append]; omega) hback (by rw [List.length_append]; omega))
  rw [show (B ++ bh).length - bh.length = B.length by rw [List.length_append]; omega] at DO
  have DC := keep (fun w' v' (hbs : Bs (· < w'.heap.size) w' v' (B.take n)) (hb' : Below w.heap.size w w') => Decode_err w' v' (B.take n) 5 hbs (hv.below hb') (Nat.le_trans h3 hb'.size) (by rw [List.length_take]; omega) hcut)
  have TB := keep ht
  have HBH := keep hb
  obtain ⟨bl, hbl⟩ : ∃ q, B.length = q := ⟨_, rfl⟩
  obtain ⟨hl', hhl⟩ : ∃ q, bh.length = q := ⟨_, rfl⟩
  have HN := keep (show n < bl from hbl ▸ hn0)
  rw [hbl] at DO hn1
  have HBL := keep hbl
  have HB4 := keep (show B.length ≤ 7340100 from g4')
  have HHM := keep hm
  have k2 : decide ((16777216 : Int) < (bl : Int)) = false := decide_eq_false (by omega)
  have k3 : decide ((bl : Int) < 3) = false := decide_eq_false (by omega)
  have k2' : ¬ (16777216 : Int) < (bl : Int) := by omega
  have k3' : ¬ (bl : Int) < 3 := by omega
  obtain ⟨aoh, ch, rfl, hch, hbh⟩ := hb
  rw [hhl] at HBH
  -- where it is broken off
  obtain ⟨z0, hz0⟩ : ∃ z0, cut.tmod (bl : Int) = z0 := ⟨_, rfl⟩
  have hmod := Int.tmod_eq_emod (a := cut) (b := (bl : Int))
  rw [hz0] at hmod
  have hz7 : Kept ((z0 < 0 → z0 + (bl : Int) = (n : Int)) ∧ (¬ z0 < 0 → z0 = (n : Int)) ∧ -7340100 ≤ z0 ∧ z0 ≤ 7340100) := keep (by
    have e : ((Int.natAbs (bl : Int) : Nat) : Int) = (bl : Int) := by omega
    split at hmod
    · omega
    · push_cast at hmod
      omega)
  have hb0 : ¬ (bl : Int) = 0 := by omega
  have hbz : ((bl : Int) == 0) = false := by simpa using hb0
  have S0 := keep hl
  generalize S.length = sl at *
  rw [hhl]
  clear hN hl hw hm hv ht h3 hwt hin g1 g2 g3 g4 g4' h33 hcn hver hback hcut hn0 hn1 hmod hbl hbh hch g5
  go_enter Tryd.func6, Tryd.ntmps6
  go_wp2_with fail
  refine WK.out.mono ?_
  rintro e w1 ⟨rfl, b1⟩
  have B1 := keep b1
  clear b1
  go_wp2_with fail
  refine (TR.out _ B1.out).mono ?_
  rintro e w2 ⟨cs2, rfl, t2, b2⟩
  obtain ⟨q0, q1, q2, q3, q4, q5, rfl, _⟩ := t2.six
  obtain ⟨w3, hw3⟩ : ∃ x, x = w2.alloc (.cells #[.int .i64 q0, .string q1, .int .i64 q2, .slice q3 q4 q5] 25) := ⟨_, rfl⟩
  have b3 : Below w2.heap.size w2 w3 := hw3 ▸ (Below.refl _ _).alloc (Nat.le_refl _) _
  have B3 := keep ((B1.out.trans (b2.mono B1.out.size)).trans (b3.mono (Nat.le_trans B1.out.size b2.size)))
  have X3 := keep (show Box w3 w2.heap.size _ _ _ _ from hw3 ▸ Box.new w2 _ _ _ _)
  obtain ⟨d0, d1, d2, d3⟩ := X3.out.cells
  have hq3 := hw3.symm
  have P3 := keep (PL.out w3 [.int .i64 q0, .string q1, .int .i64 q2, .slice q3 q4 q5] (Tel.mono (fun b h => Nat.lt_of_lt_of_le h.2 b3.size) (fun b h => b3.block b h.2) _ _ _ t2))
  clear hw3 b2 b3 t2 TR PL
  go_wp2_with fail
  refine P3.out.mono ?_
  rintro e w4 ⟨cs4, rfl, t4, b4⟩
  obtain ⟨r0, r1, r2, r3, r4, r5, rfl, _⟩ := t4.six
  obtain ⟨w5, hw5⟩ : ∃ x, x = w4.alloc (.cells #[.int .i64 r0, .string r1, .int .i64 r2, .slice r3 r4 r5] 25) := ⟨_, rfl⟩
  have b5 : Below w4.heap.size w4 w5 := hw5 ▸ (Below.refl _ _).alloc (Nat.le_refl _) _
  have B5 := keep ((B3.out.trans (b4.mono B3.out.size)).trans (b5.mono (Nat.le_trans B3.out.size b4.size)))
  have X5 := keep (show Box w5 w4.heap.size _ _ _ _ from hw5 ▸ Box.new w4 _ _ _ _)
  have t5' : Tel (· < w5.heap.size) w5 9 [.int .i64 r0, .string r1, .int .i64 r2, .slice r3 r4 r5] r := Tel.mono (fun b h => Nat.lt_of_lt_of_le h.2 b5.size) (fun b h => b5.block b h.2) _ _ _ t4
  have T5 := keep t5'
  clear d0 d1 d2 d3
  obtain ⟨d0, d1, d2, d3⟩ := X5.out.cells
  have hq5 := hw5.symm
  have E5 := keep (EN.out w5 _ t5' (tab_below TB.out B5.out (tab_lt TB.out)))
  clear hw5 b4 b5 t4 t5' P3 EN hq3
  go_wp2_with fail
  refine E5.out.mono ?_
  rintro e w6 ⟨⟨ao6, m6, c6, rfl, nb6⟩, b6⟩
  have hm6 : m6 = bl := nb6.1.len.trans HBL.out
  subst hm6
  have B6 := keep (B5.out.trans (b6.mono B5.out.size))
  have T6 := keep (T5.out.any b6)
  have X6 := keep (X5.out.below b6 X5.out.lt)
  have N6 := keep nb6
  obtain ⟨v7, w7, run7, k7, g7⟩ := app_bs (Kb.nil w6) (Kb.bs nb6.1) (by have := HB4.out; simp; omega) 29
  rw [List.nil_append] at k7
  have b7 : Below w6.heap.size w6 w7 := g7.below (Nat.le_refl _) (fun k hk => by cases hk)
  have B7 := keep (B6.out.trans (b7.mono B6.out.size))
  obtain ⟨ao7, c7, hv7⟩ := k7.form
  rw [HBL.out] at hv7
  subst hv7
  have own7 : ∀ k, (Value.slice ao7 m6 c7).ownBlock = some k → w6.heap.size ≤ k := fun k hk => by
    rcases g7.2 k hk with e | e
    · cases e
    · exact e
  have hbh7 := HBH.out
  obtain ⟨v8, w8, run8, k8, g8⟩ := app_bs k7 ((show Bs (· < w.heap.size) w (.slice aoh hl' ch) bh from hbh7).later B7.out) (by have := HB4.out; have := HHM.out; omega) 29
  have b8 : Below w6.heap.size w7 w8 := g8.below b7.size own7
  have B8 := keep (B6.out.trans ((b7.trans b8).mono B6.out.size))
  obtain ⟨ao8, c8, hv8⟩ := k8.form
  obtain ⟨l8, hl8⟩ : ∃ q, (B ++ bh).length = q := ⟨_, rfl⟩
  rw [hl8] at hv8
  subst hv8
  have R7 := keep run7
  have R8 := keep run8
  have D8 := keep (DO.out w8 _ (Kb.bs k8) B8.out)
  have b68 : Below w6.heap.size w6 w8 := b7.trans b8
  have T8 := keep (T6.out.any b68)
  have X8 := keep (X6.out.below b68 X6.out.lt)
  have N8 := keep (N6.out.1.later b68)
  clear E5 b6 nb6 b7 b8 b68 k7 k8 g7 g8 run7 run8 own7 d0 d1 d2 d3 hq5 hbh7 hl8
  go_wp2_with (first | (show wpList _ _ _ ({ dst := some 50, op := Op.call { callee := Callee.builtin Builtin.append, args := _, argTypes := _ }, type := _, pos := _, after := _, guard := _ } :: _) _ _; refine wpList_app_run rfl _ _ _ _ rfl _ _ _ rfl rfl R7.out ?_) | (show wpList _ _ _ ({ dst := some 53, op := Op.call { callee := Callee.builtin Builtin.append, args := _, argTypes := _ }, type := _, pos := _, after := _, guard := _ } :: _) _ _; refine wpList_app_run rfl _ _ _ _ rfl _ _ _ rfl rfl R8.out ?_))
  refine D8.out.mono ?_
  rintro e w9 ⟨⟨cs9, rfl, t9⟩, b9⟩
  obtain ⟨p0, p1, p2, p3, p4, p5, rfl, _⟩ := t9.six
  obtain ⟨w10, hw10⟩ : ∃ x, x = w9.alloc (.cells #[.int .i64 p0, .string p1, .int .i64 p2, .slice p3 p4 p5] 25) := ⟨_, rfl⟩
  have b10 : Below w9.heap.size w9 w10 := hw10 ▸ (Below.refl _ _).alloc (Nat.le_refl _) _
  have b810 : Below w8.heap.size w8 w10 := b9.trans (b10.mono b9.size)
  have B10 := keep (B8.out.trans (b810.mono B8.out.size))
  have X10 := keep (show Box w10 w9.heap.size _ _ _ _ from hw10 ▸ Box.new w9 _ _ _ _)
  have X10r := keep (X8.out.below b810 X8.out.lt)
  have N10 := keep (N8.out.later b810)
  obtain ⟨d0, d1, d2, d3⟩ := X10.out.cells
  obtain ⟨e0, e1, e2, e3⟩ := X10r.out.cells
  have hq10 := hw10.symm
  have AL := keep (alike_any 9 r r _ _ w10 (Tel.mono (fun b h => Nat.lt_of_lt_of_le h.2 b10.size) (fun b h => b10.block b h.2) _ _ _ t9) (T8.out.any b810))
  clear hw10 b9 b10 b810 t9 D8 R7 R8
  go_wp2_with fail
  refine AL.out.mono ?_
  rintro e w11 ⟨⟨u, rfl, hu⟩, b11⟩
  obtain rfl : u = true := hu.2 trivial
  have B11 := keep (B10.out.trans (b11.mono B10.out.size))
  have nb11 := N10.out.later b11
  have bs11 := Kb.bs nb11
  have hBne : B ≠ [] := fun e => by have := HBL.out; rw [e] at this; simp at this; omega
  obtain ⟨aoB, cB, hvB, hcB, hbB⟩ := bs11
  obtain ⟨g, o, rfl, hg, hlB⟩ := hbB.resolve_left hBne
  rw [HBL.out] at hvB hcB
  injection hvB with hv1 _ hv3
  subst hv1
  subst hv3
  have D11 := keep (DC.out w11 (.slice (some ⟨g, o, none⟩) n c6) ⟨_, c6, by rw [List.length_take, HBL.out, Nat.min_eq_left (Nat.le_of_lt HN.out)], by rw [List.length_take, HBL.out]; have := HN.out; omega, .inr ⟨g, o, rfl, hg, fun j y hy => by
    rw [List.getElem?_take] at hy
    split at hy
    · exact hlB j y hy
    · cases hy⟩⟩ B11.out)
  obtain ⟨i0, hi0, hz0', hz1, _⟩ := parts_of info_u8'
  have st := fun w => slice_to (P := Tryd.prog) w 29 5 Tryd.underlying29 i0 hi0 hz1 g o m6 c6 n (Nat.le_of_lt HN.out) hcB
  clear b11 nb11 hlB hbB hu AL d0 d1 d2 d3 e0 e1 e2 e3 hq10 hcB hi0 hz0' hz1
  go_upto_if 79 with fail
  go_cut [15, 79] from 80 (fun z b wx => z = .int .i64 (n : Int) ∧ wx = w11)
  case first =>
    by_cases h : z0 < 0
    · have e : IntKind.i64.wrap (z0 + (m6 : Int)) = (n : Int) := by
        have h1 := hz7.out.1 h; have := HN.out; have := HB4.out; rw [h1, IntKind.wrap_i64]; have := HBL.out; omega
      go_wp2
      go_meet
      case rel => exact ⟨rfl, rfl⟩
    · have e := hz7.out.2.1 (by omega)
      subst e
      go_wp2
      go_meet
      case rel => exact ⟨rfl, rfl⟩
  case rest =>
    obtain ⟨rfl, hwc⟩ := hcut
    obtain rfl := hwc.symm
    clear hwc hz0
    go_wp2_with fail
    refine D11.out.mono ?_
    rintro e w12 ⟨he, b12⟩
    have he' : e = .returned (.tuple #[.agg #[.int .i64 0, .string ⟨#[]⟩, .int .i64 0, .slice none 0 0], .int .i64 0, .int .i64 5]) := he
    clear he
    subst he'
    obtain ⟨w13, hw13⟩ : ∃ x, x = w12.alloc (.cells #[.int .i64 0, .string ⟨#[]⟩, .int .i64 0, .slice none 0 0] 25) := ⟨_, rfl⟩
    have b13 : Below w12.heap.size w12 w13 := hw13 ▸ (Below.refl _ _).alloc (Nat.le_refl _) _
    have x13 := (show Box w13 w12.heap.size (.int .i64 0) (.string ⟨#[]⟩) (.int .i64 0) (.slice none 0 0) from hw13 ▸ Box.new w12 _ _ _ _)
    obtain ⟨d0, d1, d2, d3⟩ := x13.cells
    have f0 := x13.free 0
    have f1 := x13.free 1
    have f2 := x13.free 2
    have f3 := x13.free 3
    obtain ⟨w14, hw14⟩ : ∃ x, x = set4 w13 w12.heap.size (.int .i64 0) (.string ⟨#[]⟩) (.int .i64 0) (.slice none 0 0) := ⟨_, rfl⟩
    have b14 : Below w12.heap.size w12 w14 := hw14 ▸ Below.four b13 (Nat.le_refl _) _ _ _ _
    have B14 := keep ((B11.out.trans (b12.mono B11.out.size)).trans (b14.mono (Nat.le_trans B11.out.size b12.size)))
    have XQ := keep (show Box w14 w12.heap.size _ _ _ _ from hw14 ▸ Box.four x13 _ _ _ _)
    obtain ⟨e0, e1, e2, e3⟩ := XQ.out.cells
    have hq13 := hw13.symm
    have hq14 : ((((w13.setCell ⟨w12.heap.size, 0, none⟩ (.int .i64 0)).setCell ⟨w12.heap.size, 1, none⟩ (.string ⟨#[]⟩)).setCell ⟨w12.heap.size, 2, none⟩ (.int .i64 0)).setCell ⟨w12.heap.size, 3, none⟩ (.slice none 0 0)) = w14 := hw14.symm
    have AL := keep (alike_any 1 (0, .empty, 0, []) (0, .empty, 0, []) _ _ w14 (tel_none w14 0) (tel_none w14 0))
    clear hw13 b12 b13 x13 hw14 b14 D11
    go_wp2_with fail
    refine AL.out.mono ?_
    rintro e w15 ⟨⟨u, rfl, hu⟩, b15⟩
    obtain rfl : u = true := hu.2 trivial
    have B15 := keep (B14.out.trans (b15.mono B14.out.size))
    clear b15 hu
    go_wp2
    go_ret
    exact ⟨rfl, B15.out⟩
end Go.Proofs.YtoalnfkjpdgbiaaDoor
