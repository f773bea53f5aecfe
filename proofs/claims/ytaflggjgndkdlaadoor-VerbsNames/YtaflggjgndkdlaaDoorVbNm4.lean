/-
  The walk of VerbsNames.
-/
import Derived.Test.YtaflggjgndkdlaaDoorVbNm3
import Derived.Test.YtaflggjgndkdlaaDoorVbNm1
import Derived.Laws.StructEq
import Derived.BigQuiet
import Derived.WalkSmall
namespace Go.Proofs.YtaflggjgndkdlaaDoor
open Go.RowKit
set_option linter.unusedVariables false
theorem stoodVn : Tryd.prog.stoodInHeld 23 = false := by kernel_rfl
theorem noGuardVn : Tryd.prog.eqGuardType Tryd.prog.depth 23 = false := by kernel_rfl
set_option maxRecDepth 100000 in
theorem rows_found : (rowsK 35).all (fun x => decide (Vb.up x.1 = x.1) && decide (Vb.find x.1.toList = some x.2) && decide (x.1.size ≤ 2000)) = true := by decide +kernel
theorem find_row {i : Nat} {U : ByteArray} {r : Vb.Row} (h : (rowsK 35)[i]? = some (U, r)) (w : World) : Calls Tryd.prog 9 #[.string U] w fun e w' => e = .returned (.tuple #[.agg #[.string U, .int .i64 r.1, .int .i64 r.2.1, .int .i64 r.2.2.1, .int .i64 r.2.2.2.1, .int .i64 r.2.2.2.2], .bool true]) ∧ Below w.heap.size w w' := by
  have h0 := List.all_eq_true.1 rows_found _ (List.mem_of_getElem? h)
  simp only [Bool.and_eq_true, decide_eq_true_eq] at h0
  obtain ⟨⟨h1, h2⟩, h3⟩ := h0
  refine (find_any U w (by omega)).mono ?_
  rintro e w' ⟨he, hb⟩
  unfold FndE at he
  rw [h1] at he
  unfold findV at he
  rw [h2] at he
  exact ⟨he, hb⟩
set_option maxRecDepth 100000 in
theorem srt_small : (srtK 113).all (fun u => decide (u.size ≤ 2000)) = true := by decide +kernel
set_option maxRecDepth 100000 in
set_option maxHeartbeats 8000000 in
theorem names_go (w : World) (hm : ∃ m, w.cell? ⟨2, 0, none⟩ = some (.int .i64 m)) : Calls Tryd.prog 5 #[] w fun e w' => e = .returned (.bool true) ∧ Below w.heap.size w w' := by
  obtain ⟨PP, hPP⟩ : ∃ PP : Ending → World → Prop, PP = fun e w' => e = .returned (.bool true) ∧ Below w.heap.size w w' := ⟨_, rfl⟩
  rw [← hPP]
  have HP := keep hPP
  clear hPP
  have mW := keep rnames_any
  have mN := keep (fun W (h : Below w.heap.size w W) => names_any W (by obtain ⟨m, hc⟩ := hm; exact ⟨m, (h.cell (World.block_lt_of_cell? _ _ hc)).trans hc⟩))
  have mR := keep rows_any
  have mF := keep (fun i U r h => @find_row i U r h)
  obtain ⟨K, hK⟩ : ∃ K, K = srtK 113 := ⟨_, rfl⟩
  have hkl : K.length = 113 := by rw [hK]; exact srtK_len (Nat.le_refl _)
  have hks : ∀ s ∈ K, s.size ≤ maxLen := fun s hs => Nat.le_trans (of_decide_eq_true (List.all_eq_true.1 srt_small s (by rw [← hK]; exact hs))) (by decide)
  have mE := keep (fun ao bo c1 c2 W (h1 : Wd W ao K) (h2 : Wd W bo K) => same_eq ao bo c1 c2 K W h1 h2 (by rw [hkl]; decide))
  rw [hkl] at mE
  rw [← hK] at mW mN
  have HKS := keep hks
  have HKL := keep hkl
  clear hm hK hkl hks
  go_enter Tryd.func5, Tryd.ntmps5
  go_wp2_with fail
  refine (mW.out _).mono ?_
  rintro _ w1 ⟨⟨vw, rfl, kw⟩, hb1⟩
  have hf := kw.form
  rw [HKL.out] at hf
  obtain ⟨aow, cw, rfl⟩ := hf
  have KW := keep kw
  have X1 := keep hb1
  clear kw hb1
  go_wp2_with fail
  refine (mN.out _ X1.out).mono ?_
  rintro _ w2 ⟨⟨va, rfl, ka⟩, hb2⟩
  have hf := ka.form
  rw [HKL.out] at hf
  obtain ⟨aoa, ca, rfl⟩ := hf
  have KA := keep ka
  have B2 := keep hb2
  have X2 := keep (X1.out.trans (hb2.mono X1.out.size))
  clear ka hb2
  go_wp2_with fail
  refine (mN.out _ X2.out).mono ?_
  rintro _ w3 ⟨⟨vb, rfl, kb⟩, hb3⟩
  have hf := kb.form
  rw [HKL.out] at hf
  obtain ⟨aob, cb, rfl⟩ := hf
  have KBb := keep kb
  have B3 := keep hb3
  have X3 := keep (X2.out.trans (hb3.mono X2.out.size))
  have KA3 := keep (KA.out.later hb3)
  have KW3 := keep ((KW.out.later B2.out).later hb3)
  clear kb hb3
  go_wp2_with fail
  refine (mE.out _ _ _ _ _ (KA3.out.wd HKS.out) (KW3.out.wd HKS.out)).mono ?_
  rintro _ w4 ⟨rfl, hb4⟩
  have B4 := keep hb4
  clear hb4
  go_wp2_with fail
  refine (mE.out _ _ _ _ _ ((KBb.out.later B4.out).wd HKS.out) ((KW3.out.later B4.out).wd HKS.out)).mono ?_
  rintro _ w5 ⟨rfl, hb5⟩
  have B5 := keep (B4.out.trans (hb5.mono B4.out.size))
  have X5 := keep (X3.out.trans (B5.out.mono X3.out.size))
  have KA5 := keep (KA3.out.later B5.out)
  have KB5 := keep (KBb.out.later B5.out)
  have KW5 := keep (KW3.out.later B5.out)
  clear hb5
  go_wp2_with fail
  have S15 := keep (show w1.heap.size ≤ w5.heap.size from Nat.le_trans B2.out.size (Nat.le_trans B3.out.size B5.out.size))
  have S25 := keep (show w2.heap.size ≤ w5.heap.size from Nat.le_trans B3.out.size B5.out.size)
  refine (spoil_any _ _ K w5 KA5.out S15.out (by rw [HKL.out]; decide)).mono ?_
  rintro _ w6 ⟨rfl, hb6, hfr⟩
  have KB6 := keep (Ks.same KB5.out (fun k hk => hfr k (KB5.out.lt k hk) (fun e => by
    have h1 := KA.out.lt k e
    have h2 := KBb.out.from k hk
    omega)))
  have KW6 := keep (Ks.same KW5.out (fun k hk => hfr k (KW5.out.lt k hk) (fun e => by
    have h1 := KA.out.from k e
    have h2 := KW.out.lt k hk
    omega)))
  have X6 := keep (X5.out.trans (hb6.mono X1.out.size))
  have S6 := keep hb6.size
  clear hb6 hfr
  go_wp2_with fail
  refine (mE.out _ _ _ _ _ (KB6.out.wd HKS.out) (KW6.out.wd HKS.out)).mono ?_
  rintro _ w7 ⟨rfl, hb7⟩
  have B7 := keep hb7
  have X7 := keep (X6.out.trans (hb7.mono X6.out.size))
  have KB7 := keep (KB6.out.later hb7)
  have KW7 := keep (KW6.out.later hb7)
  have S27 := keep (show w2.heap.size ≤ w7.heap.size from Nat.le_trans S25.out (Nat.le_trans S6.out hb7.size))
  clear hb7
  go_wp2_with fail
  refine (spoil_any _ _ K w7 KB7.out S27.out (by rw [HKL.out]; decide)).mono ?_
  rintro _ w8 ⟨rfl, hb8, hfr⟩
  have KW8 := keep (Ks.same KW7.out (fun k hk => hfr k (KW7.out.lt k hk) (fun e => by
    have h1 := KBb.out.from k e
    have h2 := KW.out.lt k hk
    have h3 := B2.out.size
    omega)))
  have X8 := keep (X7.out.trans (hb8.mono X2.out.size))
  clear hb8 hfr
  go_wp2_with fail
  refine (mR.out _).mono ?_
  rintro _ w9 ⟨⟨v, rfl, hv⟩, hb9⟩
  obtain ⟨L, hL⟩ : ∃ L, L = rowsK 35 := ⟨_, rfl⟩
  have HLL := keep (show L.length = 113 by rw [hL]; exact rows_len)
  rw [← hL] at hv mF
  obtain ⟨g, cap, rfl, hat, hgl⟩ : ∃ g cap, v = .slice (some ⟨g, 0, none⟩) 113 cap ∧ (∀ (i : Nat) (u : ByteArray) (r : Vb.Row), L[i]? = some (u, r) → ∀ (j : Nat) (x : Value), (rowL u r)[j]? = some x → w9.cell? ⟨g, i * 6 + j, none⟩ = some x) ∧ g < w9.heap.size := by
    have h2 := hv.2
    rcases h2 with ⟨_, hn⟩ | ⟨g, cap, cur, e, hbg, hg, _⟩
    · rw [HLL.out] at hn; cases hn
    · rw [HLL.out] at e
      refine ⟨g, cap, e, fun i u r hi j x hx => ?_, (Array.getElem?_eq_some_iff.1 hg).1⟩
      rw [e] at hv
      exact hv.at hi j x hx
  have HAT := keep hat
  have HGL := keep hgl
  have X9 := keep (X8.out.trans (hb9.mono X8.out.size))
  have KW9 := keep (KW8.out.later hb9)
  clear hL hv hb9 hat hgl
  go_wp2_with fail
  go_loopw [5] (fun v5 wr => ∃ i : Nat, i ≤ 113 ∧ v5 = .int .i64 (i : Nat) ∧ Kept (Below w9.heap.size w9 wr)) (fun v5 _ => 113 - (intOf v5).toNat)
  case atStart => exact ⟨0, Nat.zero_le _, rfl, Below.refl _ _⟩
  case round =>
    obtain ⟨i, hi, rfl, KB⟩ := hrel
    by_cases hlt : i < 113
    · have hz : (i : Int) < 113 := by omega
      have hz0 : (0 : Int) ≤ (i : Int) := by omega
      have hwi : IntKind.i64.wrap ((i : Int) + 1) = ((i + 1 : Nat) : Int) := by rw [IntKind.wrap_i64]; omega
      obtain ⟨⟨n, ra, rf, rx, ry, rz⟩, hn⟩ : ∃ x, L[i]? = some x := ⟨_, List.getElem?_eq_getElem (by rw [HLL.out]; exact hlt)⟩
      have hc : ∀ j x, (rowL n (ra, rf, rx, ry, rz))[j]? = some x → wr.cell? ⟨g, i * 6 + j, none⟩ = some x := fun j x hx => (KB.out.cell (w := w9) HGL.out).trans (HAT.out i n _ hn j x hx)
      have d0 : wr.cell? ⟨g, i * 6, none⟩ = some (.string n) := hc 0 _ rfl
      have HC := keep hc
      have MF := keep (mF.out i n _ hn)
      have HLT := keep hlt
      clear hn hc
      go_wp2_with fail
      refine (MF.out _).mono ?_
      rintro _ x1 ⟨rfl, y1⟩
      have c0 : x1.cell? ⟨g, i * 6, none⟩ = some (.string n) := cellU y1 d0
      have c1 := cellU y1 (HC.out 1 _ rfl)
      have c2 := cellU y1 (HC.out 2 _ rfl)
      have c3 := cellU y1 (HC.out 3 _ rfl)
      have c4 := cellU y1 (HC.out 4 _ rfl)
      have c5 := cellU y1 (HC.out 5 _ rfl)
      clear d0
      obtain ⟨W1, hW1⟩ : ∃ W, x1.alloc (.cells #[.string n, .int .i64 ra, .int .i64 rf, .int .i64 rx, .int .i64 ry, .int .i64 rz] 23) = W := ⟨_, rfl⟩
      have g1 : W1.heap[x1.heap.size]? = some (.cells #[.string n, .int .i64 ra, .int .i64 rf, .int .i64 rx, .int .i64 ry, .int .i64 rz] 23) := by rw [← hW1]; exact heap_alloc_new _ _
      have b1 : Below x1.heap.size x1 W1 := by rw [← hW1]; exact (Below.refl _ _).alloc (Nat.le_refl _) _
      have a0 : W1.cell? ⟨x1.heap.size, 0, none⟩ = some (.string n) := by rw [cell_of_row _ _ _ _ _ _ g1]; rfl
      have a1 : W1.cell? ⟨x1.heap.size, 1, none⟩ = some (.int .i64 ra) := by rw [cell_of_row _ _ _ _ _ _ g1]; rfl
      have a2 : W1.cell? ⟨x1.heap.size, 2, none⟩ = some (.int .i64 rf) := by rw [cell_of_row _ _ _ _ _ _ g1]; rfl
      have a3 : W1.cell? ⟨x1.heap.size, 3, none⟩ = some (.int .i64 rx) := by rw [cell_of_row _ _ _ _ _ _ g1]; rfl
      have a4 : W1.cell? ⟨x1.heap.size, 4, none⟩ = some (.int .i64 ry) := by rw [cell_of_row _ _ _ _ _ _ g1]; rfl
      have a5 : W1.cell? ⟨x1.heap.size, 5, none⟩ = some (.int .i64 rz) := by rw [cell_of_row _ _ _ _ _ _ g1]; rfl
      have e0 := cellU b1 c0
      have e1 := cellU b1 c1
      have e2 := cellU b1 c2
      have e3 := cellU b1 c3
      have e4 := cellU b1 c4
      have e5 := cellU b1 c5
      have hbW : Below w9.heap.size w9 W1 := (KB.out.trans (y1.mono KB.out.size)).trans (b1.mono (Below.size (KB.out.trans (y1.mono KB.out.size))))
      have HBW := keep hbW
      have hng := noGuardVn
      have hst := stoodVn
      clear c0 c1 c2 c3 c4 c5 y1 g1 b1 hbW
      go_upto_region 15 with fail
      go_quiet (fail)
      go_wp2_with fail
      go_roundw
      case measure => simp [intOf]; omega
      case rel => exact ⟨i + 1, HLT.out, by rfl, below_drewN HBW.out _⟩
    · obtain rfl : i = 113 := by omega
      have hz : ¬ ((113 : Nat) : Int) < 113 := by omega
      have XR := keep (X9.out.trans (KB.out.mono X9.out.size))
      have KWR := keep (KW9.out.later KB.out)
      go_wp2_with fail
      refine (mN.out _ XR.out).mono ?_
      rintro _ wz ⟨⟨vz, rfl, kz⟩, hbz⟩
      have hf := kz.form
      rw [HKL.out] at hf
      obtain ⟨aoz, cz, rfl⟩ := hf
      have KZ := keep kz
      have XZ := keep (XR.out.trans (hbz.mono XR.out.size))
      have KWZ := keep (KWR.out.later hbz)
      clear kz hbz
      go_wp2_with fail
      refine (mE.out _ _ _ _ _ (KZ.out.wd HKS.out) (KWZ.out.wd HKS.out)).mono ?_
      rintro _ wy ⟨rfl, hby⟩
      have XY := keep (XZ.out.trans (hby.mono XZ.out.size))
      clear hby
      go_wp2_with fail
      rw [HP.out]
      exact ⟨rfl, XY.out⟩
end Go.Proofs.YtaflggjgndkdlaaDoor
