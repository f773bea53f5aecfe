/-
  The walk of VerbsChecks: every words.
-/
import Derived.Test.YtaflggjgndkdlaaDoorVbChw
import Derived.Laws.StructEq
namespace Go.Proofs.YtaflggjgndkdlaaDoor
open Go.RowKit
set_option linter.unusedVariables false
theorem stoodVc : Tryd.prog.stoodInHeld 23 = false := by kernel_rfl
theorem noGuardVc : Tryd.prog.eqGuardType Tryd.prog.depth 23 = false := by kernel_rfl
def msetL : List ByteArray := [⟨#[109, 115, 101, 116]⟩, ⟨#[97]⟩, ⟨#[49]⟩, ⟨#[98]⟩, ⟨#[50]⟩]
theorem mset_keys : keysL msetL = [⟨#[97]⟩, ⟨#[98]⟩] := by decide +kernel
set_option maxRecDepth 100000 in
set_option maxHeartbeats 8000000 in
theorem checks_go (so : Option Addr) (cap : Nat) (S : List ByteArray) (w : World) (hT : Wd w so S) (hl : S.length ≤ 8796093021952) :
    Calls Tryd.prog 4 #[.slice so S.length cap] w fun e w' => e = .returned (.bool true) ∧ Below w.heap.size w w' := by
  obtain ⟨PP, hPP⟩ : ∃ PP : Ending → World → Prop, PP = fun e w' => e = .returned (.bool true) ∧ Below w.heap.size w w' := ⟨_, rfl⟩
  rw [← hPP]
  have HP := keep hPP
  clear hPP
  have hlm : S.length ≤ maxLen := by unfold maxLen; omega
  have hsm := hT.small
  have HT := keep hT
  have HL := keep hl
  have mC := keep (fun ao cc W (h : Wd W ao S) => check_any ao cc S W h hlm)
  have mR := keep (fun ao cc W (h : Wd W ao S) => rcheck_any ao cc S W h hlm)
  have mK := keep (fun ao cc W (h : Wd W ao S) => keys_any ao cc S W h hlm)
  have mQ := keep (fun ao cc W (h : Wd W ao S) => rkeys_any ao cc S W h hlm)
  have mS := keep (fun ao bo c1 c2 W (h1 : Wd W ao S) (h2 : Wd W bo S) => same_eq ao bo c1 c2 S W h1 h2 hlm)
  obtain ⟨KL, hKL⟩ : ∃ KL, KL = keysL S := ⟨_, rfl⟩
  have hks : ∀ s ∈ KL, s.size ≤ maxLen := by rw [hKL]; exact keysL_small hsm
  have hkl : KL.length ≤ 1024 := by rw [hKL]; exact keysL_len S
  have mE := keep (fun ao bo c1 c2 W (h1 : Wd W ao KL) (h2 : Wd W bo KL) => same_eq ao bo c1 c2 KL W h1 h2 (by unfold maxLen; omega))
  obtain ⟨M, hM⟩ : ∃ M, KL.length = M := ⟨_, rfl⟩
  have HKS := keep hks
  have HKL := keep hkl
  have HM := keep hM
  unfold KeyE at mK mQ
  rw [← hKL] at mK mQ
  rw [hM] at mE
  have hcop := copied so cap S w hT hl 28
  obtain ⟨N, hN⟩ : ∃ N, S.length = N := ⟨_, rfl⟩
  have HN := keep hN
  rw [hN] at mC mR mK mQ mS hcop ⊢
  obtain ⟨ao, c1, w1, gl, c2, w2, run1, run2, b2, k2, hgl, hc2⟩ := hcop
  obtain ⟨N2, hN2⟩ : ∃ N2, N2 = N + 2 := ⟨_, rfl⟩
  rw [← hN2] at run2 k2 hc2
  have hl2 : (S ++ [markB, kramB]).length = N2 := by rw [List.length_append, hN, hN2]; rfl
  have HN2 := keep hN2
  have HRUN1 := keep run1
  have HRUN2 := keep run2
  have HB2 := keep b2
  have HK2 := keep k2
  have HGL := keep hgl
  have hcz : (N : Int) ≤ (c2 : Int) := by omega
  have hc0 : ¬ (c2 : Int) ≤ 0 := by omega
  have hnn : (0 : Int) ≤ (N : Int) := by omega
  -- the copy's words, and the two behind them
  have hx2 : Wd w2 (some ⟨gl, 0, none⟩) S := by
    have h := (Ks.wd k2 (by
      intro s hs
      rcases List.mem_append.1 hs with hs | hs
      · exact hsm s hs
      · unfold maxLen; simp only [List.mem_cons, List.not_mem_nil, or_false] at hs; rcases hs with rfl | rfl <;> decide)).take N
    rw [List.take_left' hN] at h
    exact h
  have hm2 : w2.cell? ⟨gl, N, none⟩ = some (.string markB) ∧ w2.cell? ⟨gl, N + 1, none⟩ = some (.string kramB) := by
    have hc : ∀ j x, ((S ++ [markB, kramB]).map Value.string)[j]? = some x → w2.cell? ⟨gl, j, none⟩ = some x := fun j x hx => by
      have := k2.cells (g := gl) rfl j x hx
      rwa [add_at, Nat.zero_add] at this
    refine ⟨hc N _ ?_, hc (N + 1) _ ?_⟩
    · rw [List.map_append, List.getElem?_append_right (by rw [List.length_map, hN]; exact Nat.le_refl _), List.length_map, hN, Nat.sub_self]; rfl
    · rw [List.map_append, List.getElem?_append_right (by rw [List.length_map, hN]; omega), List.length_map, hN, Nat.add_sub_cancel_left]; rfl
  have HX2 := keep hx2
  have HM2 := keep hm2
  clear hT hl hlm hsm hks hkl hM hN hN2 run1 run2 b2 k2 hgl hx2 hm2 hKL hl2
  go_enter Tryd.func4, Tryd.ntmps4
  go_wp2_with (first | (at_builtin; first | refine wpList_app_run rfl _ _ _ _ rfl _ _ _ rfl rfl HRUN1.out ?_ | refine wpList_app_run rfl _ _ _ _ rfl _ _ _ rfl rfl HRUN2.out ?_))
  clear hcz hc0 hc2
  refine (mC.out _ _ _ HX2.out).mono ?_
  rintro _ w3 ⟨hE, hb3⟩
  unfold ChkE at hE
  obtain ⟨K, hK⟩ : ∃ K, K = chk S := ⟨_, rfl⟩
  rw [← hK] at hE
  have HK := keep hK
  obtain ⟨n, ⟨ra, rf, rx, ry, rz⟩, c⟩ := K
  rw [row_form] at hE
  dsimp only at hE
  subst hE
  obtain ⟨W3, hW3⟩ : ∃ W, w3.alloc (.cells #[.string n, .int .i64 ra, .int .i64 rf, .int .i64 rx, .int .i64 ry, .int .i64 rz] 23) = W := ⟨_, rfl⟩
  have g3 : W3.heap[w3.heap.size]? = some (.cells #[.string n, .int .i64 ra, .int .i64 rf, .int .i64 rx, .int .i64 ry, .int .i64 rz] 23) := by rw [← hW3]; exact heap_alloc_new _ _
  have b3 : Below w2.heap.size w2 W3 := by rw [← hW3]; exact hb3.alloc hb3.size _
  have G3 := keep g3
  have X3 := keep b3
  clear hb3 hK g3 b3
  go_wp2_with fail
  refine (mR.out _ _ _ (HT.out.below (HB2.out.trans (X3.out.mono HB2.out.size)))).mono ?_
  rintro _ w4 ⟨hE, hb4⟩
  unfold ChkE at hE
  rw [← HK.out, row_form] at hE
  dsimp only at hE
  subst hE
  obtain ⟨W4, hW4⟩ : ∃ W, w4.alloc (.cells #[.string n, .int .i64 ra, .int .i64 rf, .int .i64 rx, .int .i64 ry, .int .i64 rz] 23) = W := ⟨_, rfl⟩
  have g4 : W4.heap[w4.heap.size]? = some (.cells #[.string n, .int .i64 ra, .int .i64 rf, .int .i64 rx, .int .i64 ry, .int .i64 rz] 23) := by rw [← hW4]; exact heap_alloc_new _ _
  have b4 : Below W3.heap.size W3 W4 := by rw [← hW4]; exact hb4.alloc hb4.size _
  have G4 := keep g4
  have B4 := keep b4
  have X4 := keep (X3.out.trans (b4.mono X3.out.size))
  clear hb4 g4 b4
  go_wp2_with fail
  refine (mK.out _ _ _ (HX2.out.below X4.out)).mono ?_
  rintro _ w5 ⟨⟨va, rfl, ka⟩, hb5⟩
  have hf := ka.form
  rw [HM.out] at hf
  obtain ⟨aoa, ca, rfl⟩ := hf
  have KA := keep ka
  have B5 := keep hb5
  have X5 := keep (X4.out.trans (hb5.mono X4.out.size))
  clear ka hb5
  go_wp2_with fail
  refine (mK.out _ _ _ (HX2.out.below X5.out)).mono ?_
  rintro _ w6 ⟨⟨vb, rfl, kb⟩, hb6⟩
  have hf := kb.form
  rw [HM.out] at hf
  obtain ⟨aob, cb, rfl⟩ := hf
  have KBb := keep kb
  have B6 := keep hb6
  have X6 := keep (X5.out.trans (hb6.mono X5.out.size))
  clear kb hb6
  go_wp2_with fail
  refine (mQ.out _ _ _ (HT.out.below (HB2.out.trans (X6.out.mono HB2.out.size)))).mono ?_
  rintro _ w7 ⟨⟨vk, rfl, kk⟩, hb7⟩
  have hf := kk.form
  rw [HM.out] at hf
  obtain ⟨aok, ck, rfl⟩ := hf
  have b67 : Below w6.heap.size w6 w7 := hb7
  have b57 : Below w5.heap.size w5 w7 := B6.out.trans (b67.mono B6.out.size)
  have b47 : Below W4.heap.size W4 w7 := B5.out.trans (b57.mono B5.out.size)
  have b37 : Below W3.heap.size W3 w7 := B4.out.trans (b47.mono B4.out.size)
  have KA7 := keep (KA.out.later b57)
  have KB7 := keep (KBb.out.later b67)
  have KK7 := keep kk
  have X7 := keep (X6.out.trans (hb7.mono X6.out.size))
  have S47 := keep b47.size
  have S57 := keep b57.size
  have S67 := keep b67.size
  have g37 := (b37.block _ (Array.getElem?_eq_some_iff.1 G3.out).1).trans G3.out
  have g47 := (b47.block _ (Array.getElem?_eq_some_iff.1 G4.out).1).trans G4.out
  have a0 : w7.cell? ⟨w3.heap.size, 0, none⟩ = some (.string n) := by rw [cell_of_row _ _ _ _ _ _ g37]; rfl
  have a1 : w7.cell? ⟨w3.heap.size, 1, none⟩ = some (.int .i64 ra) := by rw [cell_of_row _ _ _ _ _ _ g37]; rfl
  have a2 : w7.cell? ⟨w3.heap.size, 2, none⟩ = some (.int .i64 rf) := by rw [cell_of_row _ _ _ _ _ _ g37]; rfl
  have a3 : w7.cell? ⟨w3.heap.size, 3, none⟩ = some (.int .i64 rx) := by rw [cell_of_row _ _ _ _ _ _ g37]; rfl
  have a4 : w7.cell? ⟨w3.heap.size, 4, none⟩ = some (.int .i64 ry) := by rw [cell_of_row _ _ _ _ _ _ g37]; rfl
  have a5 : w7.cell? ⟨w3.heap.size, 5, none⟩ = some (.int .i64 rz) := by rw [cell_of_row _ _ _ _ _ _ g37]; rfl
  have e0 : w7.cell? ⟨w4.heap.size, 0, none⟩ = some (.string n) := by rw [cell_of_row _ _ _ _ _ _ g47]; rfl
  have e1 : w7.cell? ⟨w4.heap.size, 1, none⟩ = some (.int .i64 ra) := by rw [cell_of_row _ _ _ _ _ _ g47]; rfl
  have e2 : w7.cell? ⟨w4.heap.size, 2, none⟩ = some (.int .i64 rf) := by rw [cell_of_row _ _ _ _ _ _ g47]; rfl
  have e3 : w7.cell? ⟨w4.heap.size, 3, none⟩ = some (.int .i64 rx) := by rw [cell_of_row _ _ _ _ _ _ g47]; rfl
  have e4 : w7.cell? ⟨w4.heap.size, 4, none⟩ = some (.int .i64 ry) := by rw [cell_of_row _ _ _ _ _ _ g47]; rfl
  have e5 : w7.cell? ⟨w4.heap.size, 5, none⟩ = some (.int .i64 rz) := by rw [cell_of_row _ _ _ _ _ _ g47]; rfl
  have hng := noGuardVc
  have hst := stoodVc
  clear kk hb7 b67 b57 b47 b37 g37 g47
  go_wp2_with fail
  clear a0 a1 a2 a3 a4 a5 e0 e1 e2 e3 e4 e5
  refine (mE.out _ _ _ _ _ (KA7.out.wd HKS.out) (KK7.out.wd HKS.out)).mono ?_
  rintro _ w8 ⟨rfl, hb8⟩
  have B8 := keep hb8
  clear hb8
  go_wp2_with fail
  refine (mE.out _ _ _ _ _ ((KB7.out.later B8.out).wd HKS.out) ((KK7.out.later B8.out).wd HKS.out)).mono ?_
  rintro _ w9 ⟨rfl, hb9⟩
  have B9 := keep (B8.out.trans (hb9.mono B8.out.size))
  have X9 := keep (X7.out.trans (B9.out.mono X7.out.size))
  clear hb9
  go_wp2_with fail
  refine (mS.out _ _ _ _ _ (HX2.out.below X9.out) (HT.out.below (HB2.out.trans (X9.out.mono HB2.out.size)))).mono ?_
  rintro _ w10 ⟨rfl, hb10⟩
  have B10 := keep (B9.out.trans (hb10.mono B9.out.size))
  have X10 := keep (X7.out.trans (B10.out.mono X7.out.size))
  have mk0 : w10.cell? ⟨gl, N, none⟩ = some (.string ⟨#[109, 97, 114, 107]⟩) := (X10.out.cell HGL.out).trans HM2.out.1
  have mk1 : w10.cell? ⟨gl, N + 1, none⟩ = some (.string ⟨#[107, 114, 97, 109]⟩) := (X10.out.cell HGL.out).trans HM2.out.2
  have hn0 : (N : Int) < (N2 : Int) := by have := HN2.out; omega
  have hn0' : N < N2 := by have := HN2.out; omega
  have hw1 : IntKind.i64.wrap ((N : Int) + 1) = ((N + 1 : Nat) : Int) := by have h1 := HL.out; rw [HN.out] at h1; rw [IntKind.wrap_i64]; omega
  obtain ⟨N1, hN1⟩ : ∃ N1, N1 = N + 1 := ⟨_, rfl⟩
  rw [← hN1] at mk1 hw1
  have hn1 : (N1 : Int) < (N2 : Int) := by have := HN2.out; omega
  have hn1' : N1 < N2 := by have := HN2.out; omega
  have hn2 : (0 : Int) ≤ (N1 : Int) := by omega
  have KA10 := keep (KA7.out.later B10.out)
  have KB10 := keep (KB7.out.later B10.out)
  have KK10 := keep (KK7.out.later B10.out)
  clear hb10 hN1
  go_wp2_with fail
  clear mk0 mk1 hw1 hn0 hn0' hn1 hn1' hn2
  refine (spoil_any _ _ KL w10 KA10.out (Nat.le_trans S47.out B10.out.size) (by have := HKL.out; omega)).mono ?_
  rintro _ w11 ⟨rfl, hb11, hfr⟩
  have KB11 := keep (Ks.same KB10.out (fun k hk => hfr k (KB10.out.lt k hk) (fun e => by
    have h1 := KA.out.lt k e
    have h2 := KBb.out.from k hk
    omega)))
  have KK11 := keep (Ks.same KK10.out (fun k hk => hfr k (KK10.out.lt k hk) (fun e => by
    have h1 := KA.out.lt k e
    have h2 := KK7.out.from k hk
    have h3 := B6.out.size
    omega)))
  have X11 := keep (X10.out.trans (hb11.mono X4.out.size))
  have S11 := keep hb11.size
  clear hb11 hfr
  go_wp2_with fail
  refine (mE.out _ _ _ _ _ (KB11.out.wd HKS.out) (KK11.out.wd HKS.out)).mono ?_
  rintro _ w12 ⟨rfl, hb12⟩
  have B12 := keep hb12
  have X12 := keep (X11.out.trans (hb12.mono X11.out.size))
  clear hb12
  go_wp2_with fail
  refine (mS.out _ _ _ _ _ (HX2.out.below X12.out) (HT.out.below (HB2.out.trans (X12.out.mono HB2.out.size)))).mono ?_
  rintro _ w13 ⟨rfl, hb13⟩
  have B13 := keep (B12.out.trans (hb13.mono B12.out.size))
  have X13 := keep (X12.out.trans (hb13.mono X12.out.size))
  have KB13 := keep (KB11.out.later B13.out)
  have KK13 := keep (KK11.out.later B13.out)
  clear hb13
  go_wp2_with fail
  refine (spoil_any _ _ KL w13 KB13.out (Nat.le_trans S57.out (Nat.le_trans B10.out.size (Nat.le_trans S11.out B13.out.size))) (by have := HKL.out; omega)).mono ?_
  rintro _ w14 ⟨rfl, hb14, hfr⟩
  have KK14 := keep (Ks.same KK13.out (fun k hk => hfr k (KK13.out.lt k hk) (fun e => by
    have h1 := KBb.out.lt k e
    have h2 := KK7.out.from k hk
    omega)))
  have X14 := keep (X13.out.trans (hb14.mono X5.out.size))
  clear hb14 hfr
  go_wp2_with fail
  refine (mK.out _ _ _ (HX2.out.below X14.out)).mono ?_
  rintro _ w15 ⟨⟨vr, rfl, kr⟩, hb15⟩
  have hf := kr.form
  rw [HM.out] at hf
  obtain ⟨aor, cr, rfl⟩ := hf
  have KR := keep kr
  have B15 := keep hb15
  have X15 := keep (X14.out.trans (hb15.mono X14.out.size))
  clear kr hb15
  go_wp2_with fail
  refine (mE.out _ _ _ _ _ (KR.out.wd HKS.out) ((KK14.out.later B15.out).wd HKS.out)).mono ?_
  rintro _ w16 ⟨rfl, hb16⟩
  have X16 := keep (X15.out.trans (hb16.mono X15.out.size))
  clear hb16
  go_wp2_with fail
  refine (mS.out _ _ _ _ _ (HX2.out.below X16.out) (HT.out.below (HB2.out.trans (X16.out.mono HB2.out.size)))).mono ?_
  rintro _ w17 ⟨rfl, hb17⟩
  have X17 := keep (X16.out.trans (hb17.mono X16.out.size))
  obtain ⟨A17, hA17⟩ : ∃ A, w17.alloc (.cells #[.string ⟨#[109, 115, 101, 116]⟩, .string ⟨#[97]⟩, .string ⟨#[49]⟩, .string ⟨#[98]⟩, .string ⟨#[50]⟩] 9) = A := ⟨_, rfl⟩
  have t17 : Wd A17 (some ⟨w17.heap.size, 0, none⟩) msetL := by rw [← hA17]; exact row_wd (t := 9) (fr := (0, 0)) msetL (heap_alloc_new _ _) (by intro u hu; unfold maxLen; unfold msetL at hu; simp only [List.mem_cons, List.not_mem_nil, or_false] at hu; rcases hu with rfl | rfl | rfl | rfl | rfl <;> decide)
  have b17 : Below w2.heap.size w2 A17 := by rw [← hA17]; exact X17.out.alloc X17.out.size _
  have Y17 := keep b17
  have mM := keep (keys_any (some ⟨w17.heap.size, 0, none⟩) 5 msetL A17 t17 (by unfold maxLen; decide))
  unfold KeyE at mM
  rw [mset_keys] at mM
  clear hb17 t17 b17
  go_wp2_with fail
  refine mM.out.mono ?_
  rintro _ w18 ⟨⟨vm, rfl, km⟩, hb18⟩
  obtain ⟨aom, cm, rfl⟩ := km.form
  have X18 := keep (Y17.out.trans (hb18.mono Y17.out.size))
  obtain ⟨A18, hA18⟩ : ∃ A, w18.alloc (.cells #[.string ⟨#[97]⟩, .string ⟨#[98]⟩] 9) = A := ⟨_, rfl⟩
  have b18 : Below w18.heap.size w18 A18 := by rw [← hA18]; exact (Below.refl _ _).alloc (Nat.le_refl _) _
  have t18 : Wd A18 (some ⟨w18.heap.size, 0, none⟩) [⟨#[97]⟩, ⟨#[98]⟩] := by rw [← hA18]; exact row_wd (t := 9) (fr := (0, 0)) [⟨#[97]⟩, ⟨#[98]⟩] (heap_alloc_new _ _) (by intro u hu; unfold maxLen; simp only [List.mem_cons, List.not_mem_nil, or_false] at hu; rcases hu with rfl | rfl <;> decide)
  have t18' : Wd A18 aom [⟨#[97]⟩, ⟨#[98]⟩] := ((km.later b18).wd (by intro u hu; unfold maxLen; simp only [List.mem_cons, List.not_mem_nil, or_false] at hu; rcases hu with rfl | rfl <;> decide))
  have Y18 := keep (X18.out.trans (b18.mono X18.out.size))
  have mZ := keep (same_eq aom (some ⟨w18.heap.size, 0, none⟩) cm 2 [⟨#[97]⟩, ⟨#[98]⟩] A18 t18' t18 (by unfold maxLen; decide))
  clear km hb18 b18 t18 t18'
  go_wp2_with fail
  refine mZ.out.mono ?_
  rintro _ w19 ⟨rfl, hb19⟩
  have Y19 := keep (Y18.out.trans (hb19.mono Y18.out.size))
  clear hb19
  go_wp2_with fail
  rw [HP.out]
  exact ⟨rfl, HB2.out.trans (Y19.out.mono HB2.out.size)⟩

end Go.Proofs.YtaflggjgndkdlaaDoor
