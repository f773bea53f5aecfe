/-
  Contracts over this program: the document's own Names.
-/
import Derived.Test.YtaflggjgndkdlaaDoorVbNm0
namespace Go.Proofs.YtaflggjgndkdlaaDoor
open Go.RowKit
set_option linter.unusedVariables false
set_option maxRecDepth 100000 in
set_option maxHeartbeats 4000000 in
theorem rnames_any (w : World) : Calls Tryd.prog 19 #[] w fun e w' => (∃ v, e = .returned v ∧ Ks w.heap.size w' v (srtK 113)) ∧ Below w.heap.size w w' := by
  obtain ⟨PP, hPP⟩ : ∃ PP : Ending → World → Prop, PP = fun e w' => (∃ v, e = .returned v ∧ Ks w.heap.size w' v (srtK 113)) ∧ Below w.heap.size w w' := ⟨_, rfl⟩
  rw [← hPP]
  have HP := keep hPP
  clear hPP
  have mR := keep rows_any
  go_enter Tryd.func19, Tryd.ntmps19
  go_wp2_with fail
  refine (mR.out _).mono ?_
  rintro _ w2 ⟨⟨v, rfl, hv⟩, hb⟩
  have hrn := fun i u r => @row_name i u r
  have HLL := keep rows_len
  obtain ⟨L, hL⟩ : ∃ L, L = rowsK 35 := ⟨_, rfl⟩
  rw [← hL] at hv hrn HLL
  obtain ⟨g, cap, rfl, hat, hgl⟩ : ∃ g cap, v = .slice (some ⟨g, 0, none⟩) 113 cap ∧ (∀ (i : Nat) (u : ByteArray) (r : Vb.Row), L[i]? = some (u, r) → ∀ (j : Nat) (x : Value), (rowL u r)[j]? = some x → w2.cell? ⟨g, i * 6 + j, none⟩ = some x) ∧ g < w2.heap.size := by
    have h2 := hv.2
    rcases h2 with ⟨_, hn⟩ | ⟨g, cap, cur, e, hbg, hg, _⟩
    · rw [HLL.out] at hn; cases hn
    · rw [HLL.out] at e
      refine ⟨g, cap, e, fun i u r hi j x hx => ?_, (Array.getElem?_eq_some_iff.1 hg).1⟩
      rw [e] at hv
      exact hv.at hi j x hx
  have HNM : Kept (∀ i, i < 113 → ∃ x, namesL[i]? = some x ∧ w2.cell? ⟨g, i * 6, none⟩ = some (.string (Vb.ofL x))) := fun i hi => by
    obtain ⟨⟨u, r⟩, hn⟩ : ∃ x, L[i]? = some x := ⟨_, List.getElem?_eq_getElem (by rw [HLL.out]; exact hi)⟩
    obtain ⟨x, hx, rfl⟩ := hrn i u r hn
    exact ⟨x, hx, hat i _ r hn 0 _ rfl⟩
  have HB2 := keep hb
  have HGL := keep hgl
  clear hL hv hb hat hgl hrn
  go_wp2_with fail
  go_loopw [2, 3] (fun v2 v3 wr => ∃ k : Nat, k ≤ 113 ∧ v3 = .string (Vb.ofL (lastL k)) ∧ Kept (Ks w2.heap.size wr v2 (srtK k)) ∧ Kept (Below w2.heap.size w2 wr)) (fun v2 _ _ => 113 - (match v2 with | .slice _ n _ => n | _ => 0))
  case atStart => exact ⟨0, Nat.zero_le _, rfl, Ks.nil _ _, Below.refl _ _⟩
  case round =>
    obtain ⟨k, hk, rfl, KS, KB⟩ := hrel
    obtain ⟨ao, cc, hform⟩ := KS.out.form
    rw [srtK_len hk] at hform
    subst hform
    by_cases hlt : k < 113
    · have hz : (k : Int) < 113 := by omega
      have hls := eq_of_beq (List.all_eq_true.1 least_ok k (List.mem_range.2 hlt))
      have hsu := srtK_succ hlt
      rw [← hls] at hsu
      have HSU := keep hsu
      have HLS := keep (show lastL (k + 1) = accL (lastL k) 113 from hls.symm)
      obtain ⟨la, hla⟩ : ∃ la, la = lastL k := ⟨_, rfl⟩
      rw [← hla] at HSU HLS ⊢
      obtain ⟨Z, hZ⟩ : ∃ Z, Z = Vb.ofL la := ⟨_, rfl⟩
      have HZL := keep (show Z.toList = la by rw [hZ, Vb.ofL_list])
      rw [← hZ]
      clear hls hsu hla hZ
      go_wp2_with fail
      go_loopw [4, 5] (fun v4 v5 wx => ∃ i : Nat, i ≤ 113 ∧ v4 = .string (Vb.ofL (accL la i)) ∧ v5 = .int .i64 (i : Nat) ∧ wx = wr) (fun _ v5 _ => 113 - (intOf v5).toNat)
      case atStart => exact ⟨0, Nat.zero_le _, rfl, rfl, rfl⟩
      case round =>
        obtain ⟨i, hi, rfl, rfl, hw⟩ := hrel
        obtain rfl := hw.symm
        clear hw
        by_cases hli : i < 113
        · have hzi : (i : Int) < 113 := by omega
          have hzi0 : (0 : Int) ≤ (i : Int) := by omega
          have hwi : IntKind.i64.wrap ((i : Int) + 1) = ((i + 1 : Nat) : Int) := by rw [IntKind.wrap_i64]; omega
          obtain ⟨x, hx, hc⟩ := HNM.out i hli
          have hcx : wr.cell? ⟨g, i * 6, none⟩ = some (.string (Vb.ofL x)) := (KB.out.cell HGL.out).trans hc
          have hsx := acc_succ (last := la) hx
          obtain ⟨ac, hac⟩ : ∃ ac, ac = accL la i := ⟨_, rfl⟩
          rw [← hac] at hsx ⊢
          obtain ⟨X, hX⟩ : ∃ X, X = Vb.ofL x := ⟨_, rfl⟩
          obtain ⟨A, hA⟩ : ∃ A, A = Vb.ofL ac := ⟨_, rfl⟩
          have hXl : X.toList = x := by rw [hX, Vb.ofL_list]
          have hAl : A.toList = ac := by rw [hA, Vb.ofL_list]
          have HX := keep hX
          have HA := keep hA
          have HAC := keep hac
          rw [← hX] at hcx
          rw [← hA]
          have HSX := keep hsx
          have HLI := keep hli
          unfold stepL at hsx
          rw [← HZL.out, ← hXl, ← hAl] at hsx
          cases c1 : Op.bytesLess X.toList Z.toList with
          | true =>
            rw [c1, if_pos rfl, hAl] at hsx
            have HS2 := keep hsx
            clear hsx hx hc hac hX hA hXl hAl hli
            go_wp2_with fail
            go_roundw
            case measure => simp [intOf]; omega
            case rel => exact ⟨i + 1, HLI.out, by rw [← HZL.out, HS2.out, ← HA.out], by rfl, by first | trivial | rfl⟩
          | false =>
            rw [c1, if_neg (by decide)] at hsx
            cases c2 : (X.toList == Z.toList) with
            | true =>
              rw [c2, if_pos rfl, hAl] at hsx
              have c2' : X.toList = Z.toList := eq_of_beq c2
              have HS2 := keep hsx
              clear hsx hx hc hac hX hA hXl hAl hli
              go_wp2_with fail
              go_roundw
              case measure => simp [intOf]; omega
              case rel => exact ⟨i + 1, HLI.out, by rw [← HZL.out, HS2.out, ← HA.out], by rfl, by first | trivial | rfl⟩
            | false =>
              rw [c2, if_neg (by decide)] at hsx
              have c2' : ¬ X.toList = Z.toList := fun e => by rw [e] at c2; simp at c2
              cases c3 : (A.toList == ([] : List UInt8)) with
              | true =>
                rw [c3, if_pos rfl, hXl] at hsx
                have hn : A.toList = [] := eq_of_beq c3
                obtain rfl : A = ⟨#[]⟩ := by rw [hA, ← hAl, hn]; rfl
                clear c3 hn
                have HS2 := keep hsx
                clear hsx hx hc hac hX hA hXl hAl hli
                go_wp2_with fail
                go_roundw
                case measure => simp [intOf]; omega
                case rel => exact ⟨i + 1, HLI.out, by rw [← HZL.out, HS2.out, ← HX.out], by rfl, by first | trivial | rfl⟩
              | false =>
                rw [c3, if_neg (by decide)] at hsx
                have c3' : ¬ A.toList = [] := fun e => by rw [e] at c3; simp at c3
                cases c4 : Op.bytesLess X.toList A.toList with
                | true =>
                  rw [c4, if_pos rfl, hXl] at hsx
                  have HS2 := keep hsx
                  clear hsx hx hc hac hX hA hXl hAl hli
                  go_wp2_with fail
                  go_roundw
                  case measure => simp [intOf]; omega
                  case rel => exact ⟨i + 1, HLI.out, by rw [← HZL.out, HS2.out, ← HX.out], by rfl, by first | trivial | rfl⟩
                | false =>
                  rw [c4, if_neg (by decide), hAl] at hsx
                  have HS2 := keep hsx
                  clear hsx hx hc hac hX hA hXl hAl hli
                  go_wp2_with fail
                  go_roundw
                  case measure => simp [intOf]; omega
                  case rel => exact ⟨i + 1, HLI.out, by rw [← HZL.out, HS2.out, ← HA.out], by rfl, by first | trivial | rfl⟩
        · obtain rfl : i = 113 := by omega
          have hzi : ¬ ((113 : Nat) : Int) < 113 := by omega
          obtain ⟨A, hA⟩ : ∃ A, A = Vb.ofL (accL la 113) := ⟨_, rfl⟩
          have HA := keep hA
          rw [← hA]
          have hb0 : w2.heap.size ≤ wr.heap.size := KB.out.size
          obtain ⟨v', w', hrun, hks, hgr⟩ := app_tx A KS.out hb0 (by rw [srtK_len hk]; omega) 28
          have hbw : Below w2.heap.size w2 w' := KB.out.trans (hgr.below hb0 KS.out.from)
          rw [hA, ← HSU.out] at hks
          have hf := hks.form
          rw [srtK_len (by omega)] at hf
          obtain ⟨ao2, cc2, rfl⟩ := hf
          have HKS := keep hks
          have HBW := keep hbw
          have HRUN := keep hrun
          have HLT := keep hlt
          clear hA hb0 hrun hks hgr hbw hlt
          go_wp2_with (first | (at_builtin; refine wpList_app_run rfl _ _ _ _ rfl _ _ _ rfl rfl HRUN.out ?_))
          go_roundw
          case measure => have := HLT.out; show 113 - (k + 1) < 113 - k; omega
          case rel => exact ⟨k + 1, HLT.out, by rw [HA.out, HLS.out], HKS, HBW⟩
    · obtain rfl : k = 113 := by omega
      have hz : ¬ ((113 : Nat) : Int) < 113 := by omega
      go_wp2_with fail
      rw [HP.out]
      exact ⟨⟨_, rfl, ⟨KS.out.1, KS.out.2.imp id (fun ⟨g, cap', cur, q⟩ => ⟨g, cap', cur, q.1, Nat.le_trans HB2.out.size q.2.1, q.2.2⟩)⟩⟩, HB2.out.trans (KB.out.mono HB2.out.size)⟩
end Go.Proofs.YtaflggjgndkdlaaDoor
