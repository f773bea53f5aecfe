/-
  Contracts over this program, put together.
-/
import Derived.Test.YtmgeaanbgjbkcaaGreatMZ0
set_option maxHeartbeats 16000000
namespace Go.Proofs.YtmgeaanbgjbkcaaGreat
open Go.RowKit Go.Shelf
set_option linter.unusedVariables false
set_option linter.unusedSimpArgs false
set_option maxRecDepth 100000
namespace Vl
theorem refz_a (w : World) (kd : Int) (tx : ByteArray) (io po no so : Option Addr) (n1 n2 n3 n4 k1 k2 k3 k4 : Nat) (I : List ByteArray) (P : List (ByteArray × ByteArray)) (R : List (ByteArray × Nat)) (hA : Arg w kd tx io po no so n1 n2 n3 n4 k1 k2 ⟨kd, tx, I, P, R⟩) (hwf : Wf ⟨kd, tx, I, P, R⟩) (s1 : I.length ≤ 1048576) (s2 : P.length ≤ 1048576) (s3 : R.length ≤ 1048576) (how : Int) (s : ByteArray) (hs : s.size ≤ 1048576) (hsel : (how = 0 ∨ how = 1 ∨ (how = 2 ∧ kd ≠ 1) ∨ (how = 3 ∧ kd ≠ 3) ∨ (how = 4 ∧ kd ≠ 5) ∨ (how = 5 ∧ kd ≠ 2 ∧ kd ≠ 4) ∨ (how = 9 ∧ 0 < R.length))) :
    Calls Tryz.prog 7 #[.agg #[.int .i64 kd, .string tx, .slice io n1 k1, .slice po n2 k2, .slice no n3 k3, .slice so n4 k4], .int .i64 how, .string s] w fun e w' => e = .returned (.bool true) ∧ Below w.heap.size w w' := by
  obtain ⟨W1, hW1⟩ : ∃ W1, w.alloc (.cells #[.int .i64 kd, .string tx, .slice io n1 k1, .slice po n2 k2, .slice no n3 k3, .slice so n4 k4] 26) = W1 := ⟨_, rfl⟩
  have hb1 : Below w.heap.size w W1 := by rw [← hW1]; exact (Below.refl _ w).alloc (Nat.le_refl _) _
  have g1 : W1.heap[w.heap.size]? = some (.cells #[.int .i64 kd, .string tx, .slice io n1 k1, .slice po n2 k2, .slice no n3 k3, .slice so n4 k4] 26 (0, 0)) := by rw [← hW1]; exact heap_alloc_new _ _
  have HB1 := keep hb1
  have HW1 := keep hW1
  have HWF := keep hwf
  have SEL := keep hsel
  have S1 := keep s1
  have S2 := keep s2
  have S3 := keep s3
  have HS := keep hs
  have G1 := keep g1
  have HA := keep hA
  clear hA hb1 hW1 g1 hwf s1 s2 s3 hs hsel
  go_enter Tryz.func7, Tryz.ntmps7
  go_wp2_with fail
  rw [HW1.out]
  refine (wakes_any _).mono ?_
  rintro _ V0 ⟨rfl, hb0⟩
  have HV0 := keep (HB1.out.trans (hb0.mono HB1.out.size))
  obtain ⟨c0, c1, c2, c3, c4, c5⟩ := six_cells ((hb0.block _ (Array.getElem?_eq_some_iff.1 G1.out).1).trans G1.out)
  have mD := HA.out.plainO (k3 := k3) (k4 := k4) HV0.out
  clear hb0
  go_wp2_with fail
  refine mD.mono ?_
  rintro _ V1 ⟨⟨V, rfl, hP⟩, hb⟩
  obtain ⟨iv, pv, rv, rfl, q1, q2, q3⟩ := hP
  obtain ⟨io1, ic1, rfl⟩ := own_sl q1
  obtain ⟨po1, pc1, rfl⟩ := own_sl q2
  obtain ⟨ro1, rc1, rfl⟩ := own_sl q3
  unfold plV
  dsimp only at q1 q2 q3 ⊢
  obtain ⟨W4, hW4⟩ : ∃ W4, V1.alloc (.cells #[.int .i64 kd, .string tx, .slice io1 I.length ic1, .slice po1 P.length pc1, .slice ro1 R.length rc1] 30) = W4 := ⟨_, rfl⟩
  have hb4 : Below V1.heap.size V1 W4 := by rw [← hW4]; exact (Below.refl _ _).alloc (Nat.le_refl _) _
  have g4 : Bx W4 V1.heap.size kd tx (.slice io1 I.length ic1) (.slice po1 P.length pc1) (.slice ro1 R.length rc1) := by rw [← hW4]; exact heap_alloc_new _ _
  have hPb : Pb V0 V1.heap.size kd tx (.slice io1 I.length ic1) (.slice po1 P.length pc1) (.slice ro1 R.length rc1) I P R W4 := ⟨g4, kept q1 hb4, kept q2 hb4, kept q3 hb4, hb.trans (hb4.mono hb.size), hb.size⟩
  have HPb := keep hPb
  have HW4 := keep hW4
  have mO := of_any W4 _ ⟨kd, tx, I, P, R⟩ 3 hPb.pln HWF.out (by decide)
  unfold plV at mO
  dsimp only at mO
  have L1 := keep (rfl : I.length = I.length)
  have L2 := keep (rfl : P.length = P.length)
  have L3 := keep (rfl : R.length = R.length)
  generalize hn1 : I.length = m1 at mO HPb HW4 L1 S1 SEL ⊢
  generalize hn2 : P.length = m2 at mO HPb HW4 L2 S2 SEL ⊢
  generalize hn3 : R.length = m3 at mO HPb HW4 L3 S3 SEL ⊢
  have N1 := keep hn1
  have N2 := keep hn2
  have N3 := keep hn3
  obtain ⟨⟨e0, e1, e2, e3, e4⟩, ef⟩ := HPb.out.box
  clear mD hb q1 q2 q3 hW4 hb4 g4 hPb hn1 hn2 hn3 L1 L2 L3 c0 c1 c2 c3 c4 c5 ef
  go_wp2_with fail
  rw [HW4.out]
  refine mO.mono ?_
  rintro _ V5 ⟨hO, hb⟩
  have HP := keep (HPb.out.bel hb)
  clear mO hb e0 e1 e2 e3 e4 HPb HW4
  obtain ⟨B, hB⟩ : ∃ B, V1.heap.size = B := ⟨_, rfl⟩
  rw [hB] at HP ⊢
  clear hB
  rcases hO with ⟨c, hc0, hc, rfl⟩ | ⟨h0, b, rfl, hv⟩
  · have hne : (c != 0) = true := by simpa using hc0
    clear hc0 hc
    go_wp2
    go_ret
    exact ⟨rfl, HV0.out.trans (HP.out.2.2.2.2.1.mono HV0.out.size)⟩
  have H0 := keep h0
  have HF : Kept (Fit ⟨kd, tx, I, P, R⟩) := Classical.byContradiction (fun e => H0.out.ok.1 (.inl e))
  have HK : Kept (1 ≤ kd ∧ kd ≤ 5) := fit_kind HF.out
  clear h0 hv
  obtain ⟨⟨e0, e1, e2, e3, e4⟩, ef⟩ := HP.out.box
  have f0 := ef 0
  have f1 := ef 1
  have f2 := ef 2
  have f3 := ef 3
  have f4 := ef 4
  clear ef
  by_cases h0 : how = 0
  · subst h0
    have KW : IntKind.i64.wrap (kd + 5) = kd + 5 := by have := HK.out; rw [IntKind.wrap_i64]; omega
    have HN := keep (HP.out.put0 (kd + 5))
    have HR : Kept (Rfz ⟨kd + 5, tx, I, P, R⟩ 3) := Rfz.bad (.inl (fun e => by have := (fit_kind e).2; have := HK.out; dsimp only at *; omega))
    have HWN : Kept (Wf ⟨kd + 5, tx, I, P, R⟩) := HWF.out
    go_upto_region 40 with fail
    clear e0 e1 e2 e3 e4 f0 f1 f2 f3 f4 KW
    obtain ⟨⟨e0, e1, e2, e3, e4⟩, _⟩ := HN.out.box
    have mO := of_any _ _ ⟨kd + 5, tx, I, P, R⟩ 3 HN.out.pln HWN.out (by decide)
    unfold plV at mO
    dsimp only at mO
    go_wp2_with fail
    refine mO.mono ?_
    rintro _ V7 ⟨hO, hb⟩
    have HN7 := keep (HN.out.bel hb)
    clear mO hb e0 e1 e2 e3 e4
    rcases hO with ⟨c, hc0, hc, rfl⟩ | ⟨h0, _⟩
    · obtain rfl := hc.one HR.out
      obtain ⟨⟨e0, e1, e2, e3, e4⟩, _⟩ := HN7.out.box
      have mC := pcost_any V7 _ _ HN7.out.pln HWN.out
      unfold plV at mC
      dsimp only at mC
      clear hc0 hc
      go_wp2_with fail
      refine mC.mono ?_
      rintro _ V8 ⟨⟨k, rfl, hk⟩, hb⟩
      have hk0 : k = 0 := by
        rcases hk with ⟨h, _⟩ | ⟨_, h⟩
        · exact absurd (HR.out.one h) (by decide)
        · exact h
      subst hk0
      have HN8 := keep (HN7.out.bel hb)
      clear mC hb hk e0 e1 e2 e3 e4
      go_wp2
      go_ret
      exact ⟨by first | rfl | simp, HV0.out.trans (HN8.out.2.2.2.2.1.mono HV0.out.size)⟩
    · exact absurd (h0.one HR.out) (by decide)
  by_cases h1 : how = 1
  · subst h1
    have HN := keep (HP.out.put0 0)
    have HR : Kept (Rfz ⟨0, tx, I, P, R⟩ 3) := Rfz.bad (.inl (fun e => by have := (fit_kind e).1; dsimp only at *; omega))
    have HWN : Kept (Wf ⟨0, tx, I, P, R⟩) := HWF.out
    go_upto_region 40 with fail
    clear e0 e1 e2 e3 e4 f0 f1 f2 f3 f4
    obtain ⟨⟨e0, e1, e2, e3, e4⟩, _⟩ := HN.out.box
    have mO := of_any _ _ ⟨0, tx, I, P, R⟩ 3 HN.out.pln HWN.out (by decide)
    unfold plV at mO
    dsimp only at mO
    go_wp2_with fail
    refine mO.mono ?_
    rintro _ V7 ⟨hO, hb⟩
    have HN7 := keep (HN.out.bel hb)
    clear mO hb e0 e1 e2 e3 e4
    rcases hO with ⟨c, hc0, hc, rfl⟩ | ⟨h0, _⟩
    · obtain rfl := hc.one HR.out
      obtain ⟨⟨e0, e1, e2, e3, e4⟩, _⟩ := HN7.out.box
      have mC := pcost_any V7 _ _ HN7.out.pln HWN.out
      unfold plV at mC
      dsimp only at mC
      clear hc0 hc
      go_wp2_with fail
      refine mC.mono ?_
      rintro _ V8 ⟨⟨k, rfl, hk⟩, hb⟩
      have hk0 : k = 0 := by
        rcases hk with ⟨h, _⟩ | ⟨_, h⟩
        · exact absurd (HR.out.one h) (by decide)
        · exact h
      subst hk0
      have HN8 := keep (HN7.out.bel hb)
      clear mC hb hk e0 e1 e2 e3 e4
      go_wp2
      go_ret
      exact ⟨by first | rfl | simp, HV0.out.trans (HN8.out.2.2.2.2.1.mono HV0.out.size)⟩
    · exact absurd (h0.one HR.out) (by decide)
  by_cases h2 : how = 2 ∧ kd ≠ 1
  · obtain ⟨rfl, hk⟩ := h2
    have hk1 : (kd != 1) = true := by simpa using hk
    have hk2 : (kd == 1) = false := by simpa using hk
    have HN := keep (HP.out.put1 (s ++ { data := #[120] }))
    have hz : (s ++ { data := #[120] } : ByteArray).size = s.size + 1 := by simp [ByteArray.size_append]; rfl
    have HR : Kept (Rfz ⟨kd, s ++ { data := #[120] }, I, P, R⟩ 3) := Rfz.bad (.inl (fun e => by rcases e with ⟨h, _⟩ | ⟨_, h, _⟩ | ⟨_, h, _⟩ | ⟨_, h, _⟩ <;> dsimp only at h <;> omega))
    have HWN : Kept (Wf ⟨kd, s ++ { data := #[120] }, I, P, R⟩) := ⟨by have := HS.out; dsimp only; unfold maxLen; omega, HWF.out.2⟩
    have h2 := HS.out
    have hc1 : ¬ (IntKind.i64.max < (s.size : Int) + 1) := by rw [show IntKind.i64.max = 9223372036854775807 by decide]; omega
    have hc3 : (s.size : Int) + 1 ≤ 9223372036854775807 := by omega
    have hc5 : s.size + 1 ≤ 9223372036854775807 := by omega
    have hc6 : s.size ≤ 9223372036854775806 := by omega
    have hc7 : s.size < 9223372036854775807 := by omega
    clear hz
    go_upto_region 40 with fail
    clear e0 e1 e2 e3 e4 f0 f1 f2 f3 f4 h2 hc1 hc3 hc5 hc6 hc7
    obtain ⟨⟨e0, e1, e2, e3, e4⟩, _⟩ := HN.out.box
    have mO := of_any _ _ ⟨kd, s ++ { data := #[120] }, I, P, R⟩ 3 HN.out.pln HWN.out (by decide)
    unfold plV at mO
    dsimp only at mO
    go_wp2_with fail
    refine mO.mono ?_
    rintro _ V7 ⟨hO, hb⟩
    have HN7 := keep (HN.out.bel hb)
    clear mO hb e0 e1 e2 e3 e4
    rcases hO with ⟨c, hc0, hc, rfl⟩ | ⟨h0, _⟩
    · obtain rfl := hc.one HR.out
      obtain ⟨⟨e0, e1, e2, e3, e4⟩, _⟩ := HN7.out.box
      have mC := pcost_any V7 _ _ HN7.out.pln HWN.out
      unfold plV at mC
      dsimp only at mC
      clear hc0 hc
      go_wp2_with fail
      refine mC.mono ?_
      rintro _ V8 ⟨⟨k, rfl, hk⟩, hb⟩
      have hk0 : k = 0 := by
        rcases hk with ⟨h, _⟩ | ⟨_, h⟩
        · exact absurd (HR.out.one h) (by decide)
        · exact h
      subst hk0
      have HN8 := keep (HN7.out.bel hb)
      clear mC hb hk e0 e1 e2 e3 e4
      go_wp2
      go_ret
      exact ⟨by first | rfl | simp, HV0.out.trans (HN8.out.2.2.2.2.1.mono HV0.out.size)⟩
    · exact absurd (h0.one HR.out) (by decide)
  by_cases h3 : how = 3 ∧ kd ≠ 3
  · obtain ⟨rfl, hk⟩ := h3
    have hk1 : (kd != 3) = true := by simpa using hk
    have HQ := keep HP.out
    have hba : Below V5.heap.size V5 (V5.alloc (.cells #[.string s, .string { data := #[] }] 70)) := (Below.refl _ _).alloc (Nat.le_refl _) _
    obtain ⟨v1, V3, r3, x3, p4⟩ := (HQ.out.bel hba).setP (J := [(s, { data := #[] })]) (so := some ⟨V5.heap.size, 0, none⟩) (m := 1) (c := 1) rfl (in_lit V5 #[.string s, .string { data := #[] }] 70 _ rfl) (fun h => by cases h) (by have := S2.out; have := N2.out; omega)
    obtain ⟨o1, l1, d1, hv1⟩ : ∃ o1 l1 d1, v1 = .slice o1 l1 d1 := by obtain ⟨a, b, c⟩ := own_sl p4.2.2.1; exact ⟨_, _, _, c⟩
    subst hv1
    have R3 := keep r3
    have HN := keep p4
    obtain ⟨y0, y1, y2, y3, y4⟩ := five_cells x3
    have yf := bx_free x3 3
    clear r3 x3 p4 hba
    have HR : Kept (Rfz ⟨kd, tx, I, P ++ [(s, { data := #[] })], R⟩ 3) := Rfz.bad (.inl (fun e => by rcases e with ⟨h, a, b, c⟩ | ⟨h, a, b, c⟩ | ⟨h, a, b, c⟩ | ⟨h, a, b, c⟩ <;> dsimp only at h a b c <;> first | omega | (simp at a; done) | (simp at b; done) | (simp at c; done)))
    have HWN : Kept (Wf ⟨kd, tx, I, P ++ [(s, { data := #[] })], R⟩) := ⟨HWF.out.1, HWF.out.2.1, fun x hx => by rcases List.mem_append.1 hx with h | h; exact HWF.out.2.2.1 x h; simp at h; subst h; have := HS.out; exact ⟨by dsimp only; unfold maxLen; omega, by dsimp only; decide⟩, HWF.out.2.2.2⟩
    go_upto_region 40 with (first | (at_builtin; refine app_list rfl _ _ _ _ rfl _ _ _ rfl rfl R3.out ?_))
    clear e0 e1 e2 e3 e4 f0 f1 f2 f3 f4 y0 y1 y2 y3 y4 yf
    obtain ⟨⟨e0, e1, e2, e3, e4⟩, _⟩ := HN.out.box
    have mO := of_any _ _ ⟨kd, tx, I, P ++ [(s, { data := #[] })], R⟩ 3 HN.out.pln HWN.out (by decide)
    unfold plV at mO
    dsimp only at mO
    go_wp2_with fail
    refine mO.mono ?_
    rintro _ V7 ⟨hO, hb⟩
    have HN7 := keep (HN.out.bel hb)
    clear mO hb e0 e1 e2 e3 e4
    rcases hO with ⟨c, hc0, hc, rfl⟩ | ⟨h0, _⟩
    · obtain rfl := hc.one HR.out
      obtain ⟨⟨e0, e1, e2, e3, e4⟩, _⟩ := HN7.out.box
      have mC := pcost_any V7 _ _ HN7.out.pln HWN.out
      unfold plV at mC
      dsimp only at mC
      clear hc0 hc
      go_wp2_with fail
      refine mC.mono ?_
      rintro _ V8 ⟨⟨k, rfl, hk⟩, hb⟩
      have hk0 : k = 0 := by
        rcases hk with ⟨h, _⟩ | ⟨_, h⟩
        · exact absurd (HR.out.one h) (by decide)
        · exact h
      subst hk0
      have HN8 := keep (HN7.out.bel hb)
      clear mC hb hk e0 e1 e2 e3 e4
      go_wp2
      go_ret
      exact ⟨by first | rfl | simp, HV0.out.trans (HN8.out.2.2.2.2.1.mono HV0.out.size)⟩
    · exact absurd (h0.one HR.out) (by decide)
  by_cases h4 : how = 4 ∧ kd ≠ 5
  · obtain ⟨rfl, hk⟩ := h4
    have hk1 : (kd != 5) = true := by simpa using hk
    have HQ := keep HP.out
    have hba : Below V5.heap.size V5 (V5.alloc (.cells #[.string s, .float .f64 0] 73)) := (Below.refl _ _).alloc (Nat.le_refl _) _
    obtain ⟨v1, V3, r3, x3, p4⟩ := (HQ.out.bel hba).setR (J := [(s, 0)]) (so := some ⟨V5.heap.size, 0, none⟩) (m := 1) (c := 1) rfl (in_lit V5 #[.string s, .float .f64 0] 73 _ rfl) (fun h => by cases h) (by have := S3.out; have := N3.out; omega)
    obtain ⟨o1, l1, d1, hv1⟩ : ∃ o1 l1 d1, v1 = .slice o1 l1 d1 := by obtain ⟨a, b, c⟩ := own_sl p4.2.2.2.1; exact ⟨_, _, _, c⟩
    subst hv1
    have R3 := keep r3
    have HN := keep p4
    obtain ⟨y0, y1, y2, y3, y4⟩ := five_cells x3
    have yf := bx_free x3 4
    clear r3 x3 p4 hba
    have HR : Kept (Rfz ⟨kd, tx, I, P, R ++ [(s, 0)]⟩ 3) := Rfz.bad (.inl (fun e => by rcases e with ⟨h, a, b, c⟩ | ⟨h, a, b, c⟩ | ⟨h, a, b, c⟩ | ⟨h, a, b, c⟩ <;> dsimp only at h a b c <;> first | omega | (simp at a; done) | (simp at b; done) | (simp at c; done)))
    have HWN : Kept (Wf ⟨kd, tx, I, P, R ++ [(s, 0)]⟩) := ⟨HWF.out.1, HWF.out.2.1, HWF.out.2.2.1, fun x hx => by rcases List.mem_append.1 hx with h | h; exact HWF.out.2.2.2 x h; simp at h; subst h; have := HS.out; exact ⟨by dsimp only; unfold maxLen; omega, by dsimp only; decide⟩⟩
    go_upto_region 40 with (first | (at_builtin; refine app_list rfl _ _ _ _ rfl _ _ _ rfl rfl R3.out ?_))
    clear e0 e1 e2 e3 e4 f0 f1 f2 f3 f4 y0 y1 y2 y3 y4 yf
    obtain ⟨⟨e0, e1, e2, e3, e4⟩, _⟩ := HN.out.box
    have mO := of_any _ _ ⟨kd, tx, I, P, R ++ [(s, 0)]⟩ 3 HN.out.pln HWN.out (by decide)
    unfold plV at mO
    dsimp only at mO
    go_wp2_with fail
    refine mO.mono ?_
    rintro _ V7 ⟨hO, hb⟩
    have HN7 := keep (HN.out.bel hb)
    clear mO hb e0 e1 e2 e3 e4
    rcases hO with ⟨c, hc0, hc, rfl⟩ | ⟨h0, _⟩
    · obtain rfl := hc.one HR.out
      obtain ⟨⟨e0, e1, e2, e3, e4⟩, _⟩ := HN7.out.box
      have mC := pcost_any V7 _ _ HN7.out.pln HWN.out
      unfold plV at mC
      dsimp only at mC
      clear hc0 hc
      go_wp2_with fail
      refine mC.mono ?_
      rintro _ V8 ⟨⟨k, rfl, hk⟩, hb⟩
      have hk0 : k = 0 := by
        rcases hk with ⟨h, _⟩ | ⟨_, h⟩
        · exact absurd (HR.out.one h) (by decide)
        · exact h
      subst hk0
      have HN8 := keep (HN7.out.bel hb)
      clear mC hb hk e0 e1 e2 e3 e4
      go_wp2
      go_ret
      exact ⟨by first | rfl | simp, HV0.out.trans (HN8.out.2.2.2.2.1.mono HV0.out.size)⟩
    · exact absurd (h0.one HR.out) (by decide)
  by_cases h5 : how = 5 ∧ kd ≠ 2 ∧ kd ≠ 4
  · obtain ⟨rfl, hk, hk'⟩ := h5
    have HQ := keep HP.out
    have hba : Below V5.heap.size V5 (V5.alloc (.cells #[.string s] 9)) := (Below.refl _ _).alloc (Nat.le_refl _) _
    obtain ⟨v1, V3, r3, x3, p4⟩ := (HQ.out.bel hba).setI (J := [s]) (so := some ⟨V5.heap.size, 0, none⟩) (m := 1) (c := 1) rfl (in_lit V5 #[.string s] 9 _ rfl) (fun h => by cases h) (by have := S1.out; have := N1.out; omega)
    obtain ⟨o1, l1, d1, hv1⟩ : ∃ o1 l1 d1, v1 = .slice o1 l1 d1 := by obtain ⟨a, b, c⟩ := own_sl p4.2.1; exact ⟨_, _, _, c⟩
    subst hv1
    have R3 := keep r3
    have HN := keep p4
    obtain ⟨y0, y1, y2, y3, y4⟩ := five_cells x3
    have yf := bx_free x3 2
    clear r3 x3 p4 hba
    have HR : Kept (Rfz ⟨kd, tx, I ++ [s], P, R⟩ 3) := Rfz.bad (.inl (fun e => by rcases e with ⟨h, a, b, c⟩ | ⟨h, a, b, c⟩ | ⟨h, a, b, c⟩ | ⟨h, a, b, c⟩ <;> dsimp only at h a b c <;> first | omega | (simp at a; done) | (simp at b; done) | (simp at c; done)))
    have HWN : Kept (Wf ⟨kd, tx, I ++ [s], P, R⟩) := ⟨HWF.out.1, fun x hx => by rcases List.mem_append.1 hx with h | h; exact HWF.out.2.1 x h; simp at h; subst h; have := HS.out; unfold maxLen; omega, HWF.out.2.2⟩
    have hk3 : kd = 1 ∨ kd = 3 ∨ kd = 5 := by have := HK.out; omega
    rcases hk3 with rfl | rfl | rfl
    all_goals
      go_upto_region 40 with (first | (at_builtin; refine app_list rfl _ _ _ _ rfl _ _ _ rfl rfl R3.out ?_))
      clear e0 e1 e2 e3 e4 f0 f1 f2 f3 f4 y0 y1 y2 y3 y4 yf
      obtain ⟨⟨e0, e1, e2, e3, e4⟩, _⟩ := HN.out.box
      have mO := of_any _ _ ⟨_, tx, I ++ [s], P, R⟩ 3 HN.out.pln HWN.out (by decide)
      unfold plV at mO
      dsimp only at mO
      go_wp2_with fail
      refine mO.mono ?_
      rintro _ V7 ⟨hO, hb⟩
      have HN7 := keep (HN.out.bel hb)
      clear mO hb e0 e1 e2 e3 e4
      rcases hO with ⟨c, hc0, hc, rfl⟩ | ⟨h0, _⟩
      · obtain rfl := hc.one HR.out
        obtain ⟨⟨e0, e1, e2, e3, e4⟩, _⟩ := HN7.out.box
        have mC := pcost_any V7 _ _ HN7.out.pln HWN.out
        unfold plV at mC
        dsimp only at mC
        clear hc0 hc
        go_wp2_with fail
        refine mC.mono ?_
        rintro _ V8 ⟨⟨k, rfl, hk⟩, hb⟩
        have hk0 : k = 0 := by
          rcases hk with ⟨h, _⟩ | ⟨_, h⟩
          · exact absurd (HR.out.one h) (by decide)
          · exact h
        subst hk0
        have HN8 := keep (HN7.out.bel hb)
        clear mC hb hk e0 e1 e2 e3 e4
        go_wp2
        go_ret
        exact ⟨by first | rfl | simp, HV0.out.trans (HN8.out.2.2.2.2.1.mono HV0.out.size)⟩
      · exact absurd (h0.one HR.out) (by decide)
  by_cases h6 : how = 6 ∧ kd = 4 ∧ 0 < m1
  · have := SEL.out; exfalso; omega
  by_cases h7 : how = 7 ∧ 0 < m2
  · have := SEL.out; exfalso; omega
  by_cases h8 : how = 8 ∧ 0 < m3
  · have := SEL.out; exfalso; omega
  by_cases h9 : how = 9 ∧ 0 < m3
  · obtain ⟨rfl, hm⟩ := h9
    have hq : V5.ownsRow V0.heap.size 73 2 (.slice ro1 m3 rc1) m3 (enM R) := by have := HP.out.2.2.2.1; rwa [N3.out] at this
    obtain ⟨g, rfl, hg⟩ := own_some hq hm
    have hz : (0 : Int) < (m3 : Int) := by omega
    obtain ⟨x, y, R0, rfl⟩ : ∃ x y R0, R = (x, y) :: R0 := by
      cases R with
      | nil => have := N3.out; simp at this; omega
      | cons a l => exact ⟨a.1, a.2, l, rfl⟩
    have hnan : isNan y = false := by
      cases h : isNan y with
      | false => rfl
      | true => exact absurd (.inr (.inr ⟨(x, y), List.mem_cons_self, h⟩)) H0.out.ok.1
    have HQ := keep (HP.out.bel (Below.refl _ V5).drew)
    obtain ⟨y2, W6, mul, hW6, hy2, hn2⟩ := run_mul0 V5.drew 71 y hnan
    have HQ6 : Kept (Pb V0 B kd tx (.slice io1 m1 ic1) (.slice po1 m2 pc1) (.slice (some ⟨g, 0, none⟩) m3 rc1) I P ((x, y) :: R0) W6) := by
      rcases hW6 with rfl | rfl
      · exact HQ.out
      · exact HQ.out.bel (Below.refl _ _).drew
    have HQ7 := keep (HQ6.out.score y2)
    obtain ⟨W7, hW7⟩ : ∃ W7, W6.setCell ⟨g, 1, none⟩ (.float .f64 y2) = W7 := ⟨_, rfl⟩
    rw [hW7] at HQ7
    have HW7 := keep hW7
    have HQ8 := keep (HQ7.out.bel (Below.refl _ W7).drew)
    obtain ⟨y3, quo, hy3, hn3⟩ := run_quo0 W7.drew 71 y2 hn2
    have HQ9 := keep (HQ8.out.bel (Below.refl _ W7.drew).drew)
    have HN := keep (HQ9.out.score y3)
    have HR : Kept (Rfz ⟨kd, tx, I, P, (x, y3) :: R0⟩ 3) := Rfz.bad (.inr (.inr ⟨_, List.mem_cons_self, hn3⟩))
    have HWN : Kept (Wf ⟨kd, tx, I, P, (x, y3) :: R0⟩) := ⟨HWF.out.1, HWF.out.2.1, HWF.out.2.2.1, fun z hz => by rcases List.mem_cons.1 hz with h | h; (subst h; exact ⟨(HWF.out.2.2.2 _ List.mem_cons_self).1, hy3⟩); exact HWF.out.2.2.2 z (List.mem_cons_of_mem _ h)⟩
    have MUL := keep mul
    have QUO := keep quo
    clear hq hg hnan hW6 hy2 hn2 hy3 hn3 hW7 mul quo
    go_upto_region 29 with fail
    clear e0 e1 e2 e3 e4 f0 f1 f2 f3 f4
    refine wp_region_held_drew (S := fun W => W.cell? ⟨B, 4, none⟩ = some (.slice (some ⟨g, 0, none⟩) m3 rc1)) (by kernel_rfl) HQ.out.box.1.2.2.2.2 (fun hHeld => ?_)
    refine wpAnyH_take (i := 0) (oi := ⟨some 180, _, _, _, _, _⟩) (v := (.pointer (some ⟨B, 4, none⟩))) rfl (by kernel_rfl) (by kernel_rfl) (by kernel_rfl) (fun _ _ _ h => h) (Or.inl ⟨by rfl, ?hy1⟩) (by assumption) ?rest1
    case hy1 => (intro w hSw; obtain p0 := hSw; first | (go_simp; done) | (go_simp; simp [*]; done) | (simp [*]; go_simp; done))
    try simp only [Act.put, List.setIfInBounds_toArray, List.set_cons_zero, List.set_cons_succ]
    refine wpAnyH_take (i := 1) (oi := ⟨some 181, _, _, _, _, _⟩) (v := (.slice (some ⟨g, 0, none⟩) m3 rc1)) rfl (by kernel_rfl) (by kernel_rfl) (by kernel_rfl) (fun _ _ _ h => h) (Or.inl ⟨by rfl, ?hy2⟩) (by assumption) ?rest2
    case hy2 => (intro w hSw; obtain p0 := hSw; first | (go_simp; done) | (go_simp; simp [*]; done) | (simp [*]; go_simp; done))
    try simp only [Act.put, List.setIfInBounds_toArray, List.set_cons_zero, List.set_cons_succ]
    refine wpAnyH_take (i := 2) (oi := ⟨some 182, _, _, _, _, _⟩) (v := (.pointer (some ⟨B, 4, none⟩))) rfl (by kernel_rfl) (by kernel_rfl) (by kernel_rfl) (fun _ _ _ h => h) (Or.inl ⟨by rfl, ?hy3⟩) (by assumption) ?rest3
    case hy3 => (intro w hSw; obtain p0 := hSw; first | (go_simp; done) | (go_simp; simp [*]; done) | (simp [*]; go_simp; done))
    try simp only [Act.put, List.setIfInBounds_toArray, List.set_cons_zero, List.set_cons_succ]
    refine wpAnyH_take (i := 3) (oi := ⟨some 183, _, _, _, _, _⟩) (v := (.slice (some ⟨g, 0, none⟩) m3 rc1)) rfl (by kernel_rfl) (by kernel_rfl) (by kernel_rfl) (fun _ _ _ h => h) (Or.inl ⟨by rfl, ?hy4⟩) (by assumption) ?rest4
    case hy4 => (intro w hSw; obtain p0 := hSw; first | (go_simp; done) | (go_simp; simp [*]; done) | (simp [*]; go_simp; done))
    try simp only [Act.put, List.setIfInBounds_toArray, List.set_cons_zero, List.set_cons_succ]
    refine wpAnyH_take (i := 4) (oi := ⟨some 184, _, _, _, _, _⟩) (v := (.pointer (some ⟨g, 0, none⟩))) rfl (by kernel_rfl) (by kernel_rfl) (by kernel_rfl) (fun _ _ _ h => h) (Or.inl ⟨by rfl, ?hy5⟩) (by assumption) ?rest5
    case hy5 => (intro w hSw; obtain p0 := hSw; first | (go_simp; done) | (go_simp; simp [*]; done) | (simp [*]; go_simp; done))
    try simp only [Act.put, List.setIfInBounds_toArray, List.set_cons_zero, List.set_cons_succ]
    refine wpAnyH_take (i := 5) (oi := ⟨some 185, _, _, _, _, _⟩) (v := (.pointer (some ⟨g, 1, none⟩))) rfl (by kernel_rfl) (by kernel_rfl) (by kernel_rfl) (fun _ _ _ h => h) (Or.inl ⟨by rfl, ?hy6⟩) (by assumption) ?rest6
    case hy6 => (intro w hSw; obtain p0 := hSw; first | (go_simp; done) | (go_simp; simp [*]; done) | (simp [*]; go_simp; done))
    try simp only [Act.put, List.setIfInBounds_toArray, List.set_cons_zero, List.set_cons_succ]
    refine wpAnyH_ready (rs := [6]) (by kernel_rfl) (by simp) ?_
    refine AllReadyH.cons (o := ⟨some 186, _, _, _, _, _⟩) rfl (fun K hK => ?_) AllReadyH.nil
    have rb := HQ.out.free.1
    go_simp
    refine hK.out _ _ HQ.out.box.1.2.2.2.2 (fun hHeld => ?_)
    try simp only [Act.put, List.setIfInBounds_toArray, List.set_cons_zero, List.set_cons_succ]
    clear hK rb
    refine wpAnyH_ready (rs := [7]) (by kernel_rfl) (by simp) ?_
    refine AllReadyH.cons (o := ⟨some 187, _, _, _, _, _⟩) rfl (fun K hK => ?_) AllReadyH.nil
    have rb := MUL.out
    go_simp
    refine hK.out _ _ HQ6.out.box.1.2.2.2.2 (fun hHeld => ?_)
    try simp only [Act.put, List.setIfInBounds_toArray, List.set_cons_zero, List.set_cons_succ]
    clear hK rb
    refine wpAnyH_take (i := 8) (oi := ⟨some 188, _, _, _, _, _⟩) (v := (.pointer (some ⟨g, 0, none⟩))) rfl (by kernel_rfl) (by kernel_rfl) (by kernel_rfl) (fun _ _ _ h => h) (Or.inl ⟨by rfl, ?hy7⟩) (by assumption) ?rest7
    case hy7 => (intro w hSw; obtain p0 := hSw; first | (go_simp; done) | (go_simp; simp [*]; done) | (simp [*]; go_simp; done))
    try simp only [Act.put, List.setIfInBounds_toArray, List.set_cons_zero, List.set_cons_succ]
    refine wpAnyH_take (i := 9) (oi := ⟨some 189, _, _, _, _, _⟩) (v := (.pointer (some ⟨g, 1, none⟩))) rfl (by kernel_rfl) (by kernel_rfl) (by kernel_rfl) (fun _ _ _ h => h) (Or.inl ⟨by rfl, ?hy8⟩) (by assumption) ?rest8
    case hy8 => (intro w hSw; obtain p0 := hSw; first | (go_simp; done) | (go_simp; simp [*]; done) | (simp [*]; go_simp; done))
    try simp only [Act.put, List.setIfInBounds_toArray, List.set_cons_zero, List.set_cons_succ]
    refine wpAnyH_ready (rs := [10]) (by kernel_rfl) (by simp) ?_
    refine AllReadyH.cons (o := ⟨none, _, _, _, _, _⟩) rfl (fun K hK => ?_) AllReadyH.nil
    have sf : ∀ (x : Nat) (w : World) (a : Addr), (store a (.float .f64 x)).run Tryz.prog w = stored Tryz.prog w a (.float .f64 x) .plain := fun x w a => run_store _ w a _ _ rfl
    have rb := HQ6.out.free.1
    have rf := HQ6.out.free.2
    go_simp
    rw [HW7.out]
    refine hK.out _ _ HQ7.out.box.1.2.2.2.2 (fun hHeld => ?_)
    try simp only [Act.put, List.setIfInBounds_toArray, List.set_cons_zero, List.set_cons_succ]
    clear hK rb rf sf
    refine wpAnyH_done (by kernel_rfl) ?_ _
    clear hHeld
    go_upto_region 30 with fail
    apply wp_at
    case h =>
      refine wp_region_held_drew (S := fun W => W.cell? ⟨B, 4, none⟩ = some (.slice (some ⟨g, 0, none⟩) m3 rc1)) (by kernel_rfl) HQ8.out.box.1.2.2.2.2 (fun hHeld => ?_)
      refine wpAnyH_take (i := 0) (oi := ⟨some 190, _, _, _, _, _⟩) (v := (.pointer (some ⟨B, 4, none⟩))) rfl (by kernel_rfl) (by kernel_rfl) (by kernel_rfl) (fun _ _ _ h => h) (Or.inl ⟨by rfl, ?hy9⟩) (by assumption) ?rest9
      case hy9 => (intro w hSw; obtain p0 := hSw; first | (go_simp; done) | (go_simp; simp [*]; done) | (simp [*]; go_simp; done))
      try simp only [Act.put, List.setIfInBounds_toArray, List.set_cons_zero, List.set_cons_succ]
      refine wpAnyH_take (i := 1) (oi := ⟨some 191, _, _, _, _, _⟩) (v := (.slice (some ⟨g, 0, none⟩) m3 rc1)) rfl (by kernel_rfl) (by kernel_rfl) (by kernel_rfl) (fun _ _ _ h => h) (Or.inl ⟨by rfl, ?hy10⟩) (by assumption) ?rest10
      case hy10 => (intro w hSw; obtain p0 := hSw; first | (go_simp; done) | (go_simp; simp [*]; done) | (simp [*]; go_simp; done))
      try simp only [Act.put, List.setIfInBounds_toArray, List.set_cons_zero, List.set_cons_succ]
      refine wpAnyH_take (i := 2) (oi := ⟨some 192, _, _, _, _, _⟩) (v := (.pointer (some ⟨B, 4, none⟩))) rfl (by kernel_rfl) (by kernel_rfl) (by kernel_rfl) (fun _ _ _ h => h) (Or.inl ⟨by rfl, ?hy11⟩) (by assumption) ?rest11
      case hy11 => (intro w hSw; obtain p0 := hSw; first | (go_simp; done) | (go_simp; simp [*]; done) | (simp [*]; go_simp; done))
      try simp only [Act.put, List.setIfInBounds_toArray, List.set_cons_zero, List.set_cons_succ]
      refine wpAnyH_take (i := 3) (oi := ⟨some 193, _, _, _, _, _⟩) (v := (.slice (some ⟨g, 0, none⟩) m3 rc1)) rfl (by kernel_rfl) (by kernel_rfl) (by kernel_rfl) (fun _ _ _ h => h) (Or.inl ⟨by rfl, ?hy12⟩) (by assumption) ?rest12
      case hy12 => (intro w hSw; obtain p0 := hSw; first | (go_simp; done) | (go_simp; simp [*]; done) | (simp [*]; go_simp; done))
      try simp only [Act.put, List.setIfInBounds_toArray, List.set_cons_zero, List.set_cons_succ]
      refine wpAnyH_take (i := 4) (oi := ⟨some 194, _, _, _, _, _⟩) (v := (.pointer (some ⟨g, 0, none⟩))) rfl (by kernel_rfl) (by kernel_rfl) (by kernel_rfl) (fun _ _ _ h => h) (Or.inl ⟨by rfl, ?hy13⟩) (by assumption) ?rest13
      case hy13 => (intro w hSw; obtain p0 := hSw; first | (go_simp; done) | (go_simp; simp [*]; done) | (simp [*]; go_simp; done))
      try simp only [Act.put, List.setIfInBounds_toArray, List.set_cons_zero, List.set_cons_succ]
      refine wpAnyH_take (i := 5) (oi := ⟨some 195, _, _, _, _, _⟩) (v := (.pointer (some ⟨g, 1, none⟩))) rfl (by kernel_rfl) (by kernel_rfl) (by kernel_rfl) (fun _ _ _ h => h) (Or.inl ⟨by rfl, ?hy14⟩) (by assumption) ?rest14
      case hy14 => (intro w hSw; obtain p0 := hSw; first | (go_simp; done) | (go_simp; simp [*]; done) | (simp [*]; go_simp; done))
      try simp only [Act.put, List.setIfInBounds_toArray, List.set_cons_zero, List.set_cons_succ]
      refine wpAnyH_take (i := 7) (oi := ⟨some 197, _, _, _, _, _⟩) (v := (.pointer (some ⟨B, 4, none⟩))) rfl (by kernel_rfl) (by kernel_rfl) (by kernel_rfl) (fun _ _ _ h => h) (Or.inl ⟨by rfl, ?hy15⟩) (by assumption) ?rest15
      case hy15 => (intro w hSw; obtain p0 := hSw; first | (go_simp; done) | (go_simp; simp [*]; done) | (simp [*]; go_simp; done))
      try simp only [Act.put, List.setIfInBounds_toArray, List.set_cons_zero, List.set_cons_succ]
      refine wpAnyH_take (i := 8) (oi := ⟨some 198, _, _, _, _, _⟩) (v := (.slice (some ⟨g, 0, none⟩) m3 rc1)) rfl (by kernel_rfl) (by kernel_rfl) (by kernel_rfl) (fun _ _ _ h => h) (Or.inl ⟨by rfl, ?hy16⟩) (by assumption) ?rest16
      case hy16 => (intro w hSw; obtain p0 := hSw; first | (go_simp; done) | (go_simp; simp [*]; done) | (simp [*]; go_simp; done))
      try simp only [Act.put, List.setIfInBounds_toArray, List.set_cons_zero, List.set_cons_succ]
      refine wpAnyH_take (i := 9) (oi := ⟨some 199, _, _, _, _, _⟩) (v := (.pointer (some ⟨g, 0, none⟩))) rfl (by kernel_rfl) (by kernel_rfl) (by kernel_rfl) (fun _ _ _ h => h) (Or.inl ⟨by rfl, ?hy17⟩) (by assumption) ?rest17
      case hy17 => (intro w hSw; obtain p0 := hSw; first | (go_simp; done) | (go_simp; simp [*]; done) | (simp [*]; go_simp; done))
      try simp only [Act.put, List.setIfInBounds_toArray, List.set_cons_zero, List.set_cons_succ]
      refine wpAnyH_take (i := 10) (oi := ⟨some 200, _, _, _, _, _⟩) (v := (.pointer (some ⟨g, 1, none⟩))) rfl (by kernel_rfl) (by kernel_rfl) (by kernel_rfl) (fun _ _ _ h => h) (Or.inl ⟨by rfl, ?hy18⟩) (by assumption) ?rest18
      case hy18 => (intro w hSw; obtain p0 := hSw; first | (go_simp; done) | (go_simp; simp [*]; done) | (simp [*]; go_simp; done))
      try simp only [Act.put, List.setIfInBounds_toArray, List.set_cons_zero, List.set_cons_succ]
      refine wpAnyH_ready (rs := [6, 11]) (by kernel_rfl) (by simp) ?_
      refine AllReadyH.cons (o := ⟨some 196, _, _, _, _, _⟩) rfl (fun K hK => ?_) (AllReadyH.cons (o := ⟨some 201, _, _, _, _, _⟩) rfl (fun K hK => ?_) AllReadyH.nil)
      · have rb := HQ8.out.free.1
        go_simp
        refine hK.out _ _ HQ8.out.box.1.2.2.2.2 (fun hHeld => ?_)
        try simp only [Act.put, List.setIfInBounds_toArray, List.set_cons_zero, List.set_cons_succ]
        clear hK
        refine wpAnyH_ready (rs := [11]) (by kernel_rfl) (by simp) ?_
        refine AllReadyH.cons (o := ⟨some 201, _, _, _, _, _⟩) rfl (fun K hK => ?_) AllReadyH.nil
        go_simp
        refine hK.out _ _ HQ8.out.box.1.2.2.2.2 (fun hHeld => ?_)
        try simp only [Act.put, List.setIfInBounds_toArray, List.set_cons_zero, List.set_cons_succ]
        clear hK rb
        refine wpAnyH_ready (rs := [12]) (by kernel_rfl) (by simp) ?_
        refine AllReadyH.cons (o := ⟨some 202, _, _, _, _, _⟩) rfl (fun K hK => ?_) AllReadyH.nil
        have rb := QUO.out
        go_simp
        refine hK.out _ _ HQ9.out.box.1.2.2.2.2 (fun hHeld => ?_)
        try simp only [Act.put, List.setIfInBounds_toArray, List.set_cons_zero, List.set_cons_succ]
        clear hK rb
        refine wpAnyH_take (i := 13) (oi := ⟨some 203, _, _, _, _, _⟩) (v := (.pointer (some ⟨g, 0, none⟩))) rfl (by kernel_rfl) (by kernel_rfl) (by kernel_rfl) (fun _ _ _ h => h) (Or.inl ⟨by rfl, ?hy19⟩) (by assumption) ?rest19
        case hy19 => (intro w hSw; obtain p0 := hSw; first | (go_simp; done) | (go_simp; simp [*]; done) | (simp [*]; go_simp; done))
        try simp only [Act.put, List.setIfInBounds_toArray, List.set_cons_zero, List.set_cons_succ]
        refine wpAnyH_take (i := 14) (oi := ⟨some 204, _, _, _, _, _⟩) (v := (.pointer (some ⟨g, 1, none⟩))) rfl (by kernel_rfl) (by kernel_rfl) (by kernel_rfl) (fun _ _ _ h => h) (Or.inl ⟨by rfl, ?hy20⟩) (by assumption) ?rest20
        case hy20 => (intro w hSw; obtain p0 := hSw; first | (go_simp; done) | (go_simp; simp [*]; done) | (simp [*]; go_simp; done))
        try simp only [Act.put, List.setIfInBounds_toArray, List.set_cons_zero, List.set_cons_succ]
        refine wpAnyH_ready (rs := [15]) (by kernel_rfl) (by simp) ?_
        refine AllReadyH.cons (o := ⟨none, _, _, _, _, _⟩) rfl (fun K hK => ?_) AllReadyH.nil
        have sf : ∀ (x : Nat) (w : World) (a : Addr), (store a (.float .f64 x)).run Tryz.prog w = stored Tryz.prog w a (.float .f64 x) .plain := fun x w a => run_store _ w a _ _ rfl
        have rb := HQ9.out.free.1
        have rf := HQ9.out.free.2
        go_simp
        refine hK.out _ _ HN.out.box.1.2.2.2.2 (fun hHeld => ?_)
        try simp only [Act.put, List.setIfInBounds_toArray, List.set_cons_zero, List.set_cons_succ]
        clear hK rb rf sf
        exact wpAnyH_done (by kernel_rfl) ⟨rfl, rfl⟩ _
      · have rb := HQ8.out.free.1
        go_simp
        refine hK.out _ _ HQ8.out.box.1.2.2.2.2 (fun hHeld => ?_)
        try simp only [Act.put, List.setIfInBounds_toArray, List.set_cons_zero, List.set_cons_succ]
        clear hK
        refine wpAnyH_ready (rs := [6]) (by kernel_rfl) (by simp) ?_
        refine AllReadyH.cons (o := ⟨some 196, _, _, _, _, _⟩) rfl (fun K hK => ?_) AllReadyH.nil
        go_simp
        refine hK.out _ _ HQ8.out.box.1.2.2.2.2 (fun hHeld => ?_)
        try simp only [Act.put, List.setIfInBounds_toArray, List.set_cons_zero, List.set_cons_succ]
        clear hK rb
        refine wpAnyH_ready (rs := [12]) (by kernel_rfl) (by simp) ?_
        refine AllReadyH.cons (o := ⟨some 202, _, _, _, _, _⟩) rfl (fun K hK => ?_) AllReadyH.nil
        have rb := QUO.out
        go_simp
        refine hK.out _ _ HQ9.out.box.1.2.2.2.2 (fun hHeld => ?_)
        try simp only [Act.put, List.setIfInBounds_toArray, List.set_cons_zero, List.set_cons_succ]
        clear hK rb
        refine wpAnyH_take (i := 13) (oi := ⟨some 203, _, _, _, _, _⟩) (v := (.pointer (some ⟨g, 0, none⟩))) rfl (by kernel_rfl) (by kernel_rfl) (by kernel_rfl) (fun _ _ _ h => h) (Or.inl ⟨by rfl, ?hy21⟩) (by assumption) ?rest21
        case hy21 => (intro w hSw; obtain p0 := hSw; first | (go_simp; done) | (go_simp; simp [*]; done) | (simp [*]; go_simp; done))
        try simp only [Act.put, List.setIfInBounds_toArray, List.set_cons_zero, List.set_cons_succ]
        refine wpAnyH_take (i := 14) (oi := ⟨some 204, _, _, _, _, _⟩) (v := (.pointer (some ⟨g, 1, none⟩))) rfl (by kernel_rfl) (by kernel_rfl) (by kernel_rfl) (fun _ _ _ h => h) (Or.inl ⟨by rfl, ?hy22⟩) (by assumption) ?rest22
        case hy22 => (intro w hSw; obtain p0 := hSw; first | (go_simp; done) | (go_simp; simp [*]; done) | (simp [*]; go_simp; done))
        try simp only [Act.put, List.setIfInBounds_toArray, List.set_cons_zero, List.set_cons_succ]
        refine wpAnyH_ready (rs := [15]) (by kernel_rfl) (by simp) ?_
        refine AllReadyH.cons (o := ⟨none, _, _, _, _, _⟩) rfl (fun K hK => ?_) AllReadyH.nil
        have sf : ∀ (x : Nat) (w : World) (a : Addr), (store a (.float .f64 x)).run Tryz.prog w = stored Tryz.prog w a (.float .f64 x) .plain := fun x w a => run_store _ w a _ _ rfl
        have rb := HQ9.out.free.1
        have rf := HQ9.out.free.2
        go_simp
        refine hK.out _ _ HN.out.box.1.2.2.2.2 (fun hHeld => ?_)
        try simp only [Act.put, List.setIfInBounds_toArray, List.set_cons_zero, List.set_cons_succ]
        clear hK rb rf sf
        exact wpAnyH_done (by kernel_rfl) ⟨rfl, rfl⟩ _
    replace HN : Kept (Pb V0 B kd tx (.slice io1 m1 ic1) (.slice po1 m2 pc1) (.slice (some ⟨g, 0, none⟩) m3 rc1) I P ((x, y3) :: R0) (W7.setCell ⟨g, 1, none⟩ (.float .f64 y3)).drew.drew) := HN.out
    obtain ⟨W9, hW9⟩ : ∃ W9, (W7.setCell ⟨g, 1, none⟩ (.float .f64 y3)).drew.drew = W9 := ⟨_, rfl⟩
    rw [hW9] at HN ⊢
    clear hW9
    obtain ⟨⟨e0, e1, e2, e3, e4⟩, _⟩ := HN.out.box
    have mO := of_any _ _ ⟨kd, tx, I, P, (x, y3) :: R0⟩ 3 HN.out.pln HWN.out (by decide)
    unfold plV at mO
    dsimp only at mO
    go_wp2_with fail
    refine mO.mono ?_
    rintro _ V7 ⟨hO, hb⟩
    have HN7 := keep (HN.out.bel hb)
    clear mO hb e0 e1 e2 e3 e4
    rcases hO with ⟨c, hc0, hc, rfl⟩ | ⟨h0, _⟩
    · obtain rfl := hc.one HR.out
      obtain ⟨⟨e0, e1, e2, e3, e4⟩, _⟩ := HN7.out.box
      have mC := pcost_any V7 _ _ HN7.out.pln HWN.out
      unfold plV at mC
      dsimp only at mC
      clear hc0 hc
      go_wp2_with fail
      refine mC.mono ?_
      rintro _ V8 ⟨⟨k, rfl, hk⟩, hb⟩
      have hk0 : k = 0 := by
        rcases hk with ⟨h, _⟩ | ⟨_, h⟩
        · exact absurd (HR.out.one h) (by decide)
        · exact h
      subst hk0
      have HN8 := keep (HN7.out.bel hb)
      clear mC hb hk e0 e1 e2 e3 e4
      go_wp2
      go_ret
      exact ⟨by first | rfl | simp, HV0.out.trans (HN8.out.2.2.2.2.1.mono HV0.out.size)⟩
    · exact absurd (h0.one HR.out) (by decide)
  by_cases hk1 : kd = 1
  · have := SEL.out; exfalso; omega
  by_cases hk3 : kd = 3
  · have := SEL.out; exfalso; omega
  by_cases hk5 : kd = 5
  · have := SEL.out; exfalso; omega
  have hk24 : kd = 2 ∨ kd = 4 := by have := HK.out; omega
  have := SEL.out; exfalso; omega
end Vl
end Go.Proofs.YtmgeaanbgjbkcaaGreat
