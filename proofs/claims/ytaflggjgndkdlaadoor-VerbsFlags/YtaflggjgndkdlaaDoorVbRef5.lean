/-
  Contracts over this program: the document's own Check at any words.
-/
import Derived.Test.YtaflggjgndkdlaaDoorVbRef4
namespace Go.Proofs.YtaflggjgndkdlaaDoor
open Go.RowKit
set_option linter.unusedVariables false
theorem rcheck_out (b : Nat) (cs : Array Value) (c : Int) (tmps : Array Value) (W : World) (h2 : tmps.getD 2 undef = .pointer (some ⟨b, 0, none⟩)) (h3 : tmps.getD 3 undef = .int .i64 c)
    (f2 : W.heap[b]? = some (.cells cs 23 (0, 0))) (hs : cs.size = 6) : (results Tryd.f14 tmps).run Tryd.prog W = .ok (.tuple #[.agg cs, .int .i64 c]) W := by
  have hld := run_loadVar_row (P := Tryd.prog) W b 23 23 cs (0, 0) _ f2 Tryd.underlying23 rfl (by rw [hs]; kernel_rfl)
  rw [results_cell_tmp rfl, h2, h3]
  simp [asAddr, Result.andThen, hld]
theorem six_all {W : World} {b : Nat} (h : W.heap[b]? = some (.cells zeroC 23 (0, 0))) : (∀ j v, zeroC[j]? = some v → W.cell? ⟨b, j, none⟩ = some v) ∧ ∀ j, W.frozen? ⟨b, j, none⟩ = false := ⟨fun j v hv => by rw [cell_of_row _ _ _ _ _ _ h, hv], fun j => frozen_of_row _ _ _ _ _ h⟩
set_option maxRecDepth 100000 in
set_option maxHeartbeats 4000000 in
theorem rcheck_any (so : Option Addr) (cap : Nat) (S : List ByteArray) (w : World) (hT : Wd w so S) (hl : S.length ≤ maxLen) : Calls Tryd.prog 14 #[.slice so S.length cap] w fun e w' => ChkE S e ∧ Below w.heap.size w w' := by
  obtain ⟨PP, hPP⟩ : ∃ PP : Ending → World → Prop, PP = fun e w' => ChkE S e ∧ Below w.heap.size w w' := ⟨_, rfl⟩
  rw [← hPP]
  have HP := keep hPP
  clear hPP
  obtain ⟨W1, hW1⟩ : ∃ W, w.alloc (.cells #[.string ⟨#[]⟩, .int .i64 0, .int .i64 0, .int .i64 0, .int .i64 0, .int .i64 0] 23) = W := ⟨_, rfl⟩
  have h20 : W1.heap[w.heap.size]? = some (.cells zeroC 23 (0, 0)) := by rw [← hW1]; exact heap_alloc_new w _
  have b20 : Below w.heap.size w W1 := by rw [← hW1]; exact (Below.refl _ w).alloc (Nat.le_refl _) _
  have K20 := keep h20
  have B20 := keep b20
  have HT := keep hT
  have HT1 := keep (hT.below b20)
  have HL := keep hl
  have HW1 := keep hW1
  clear h20 b20 hT hl

  cases S with
  | nil =>
    obtain ⟨c, f⟩ := six_all K20.out
    have c0 := c 0 _ rfl
    have c1 := c 1 _ rfl
    have c2 := c 2 _ rfl
    have c3 := c 3 _ rfl
    have c4 := c 4 _ rfl
    have c5 := c 5 _ rfl
    have f0 := f 0
    have f1 := f 1
    have f2 := f 2
    have f3 := f 3
    have f4 := f 4
    have f5 := f 5
    clear c f
    go_enter Tryd.func14, Tryd.ntmps14
    go_wp2_with fail
    refine bodyPost_ret (rcheck_out w.heap.size _ _ _ _ rfl rfl (six_set _ _ _ _ _ _ _ _ K20.out) rfl) rfl ?_
    rw [HP.out]
    exact ⟨rfl, six_below B20.out _ (Nat.le_refl _) _ _ _ _ _ _⟩
  | cons s r =>
    have mF := keep (rfind_any s)
    have h4 := HT1.out 0 (by simp)
    obtain ⟨a, rfl, h2, h3, h4⟩ := h4
    obtain ⟨N, hN⟩ : ∃ N, (s :: r).length = N := ⟨_, rfl⟩
    have hN1 : 1 ≤ N := by rw [← hN]; simp
    have m63 := HL.out
    rw [hN] at m63 ⊢
    have k4 : W1.cell? a = some (.string s) := by rw [show a.add 0 = a from if_pos rfl] at h4; exact h4
    have hN0 : ((N : Int) == 0) = false := by simp; omega
    have hN0' : ¬ N = 0 := by omega
    have hNp : (0 : Int) < (N : Int) := by omega
    have HN := keep hN
    have HN1 := keep hN1
    have K4 := keep k4
    have M63 := keep m63
    clear hN h2 h3 h4 k4 m63 hN1
    by_cases hn : 1024 < N
    · have hn' : (1024 : Int) < (N : Int) := by omega
      have HNN := keep hn
      clear hn
      obtain ⟨c, f⟩ := six_all K20.out
      have c0 := c 0 _ rfl
      have c1 := c 1 _ rfl
      have c2 := c 2 _ rfl
      have c3 := c 3 _ rfl
      have c4 := c 4 _ rfl
      have c5 := c 5 _ rfl
      have f0 := f 0
      have f1 := f 1
      have f2 := f 2
      have f3 := f 3
      have f4 := f 4
      have f5 := f 5
      clear c f
      go_enter Tryd.func14, Tryd.ntmps14
      go_wp2_with fail
      refine bodyPost_ret (rcheck_out w.heap.size _ _ _ _ rfl rfl (six_set _ _ _ _ _ _ _ _ K20.out) rfl) rfl ?_
      rw [HP.out]
      exact ⟨by unfold ChkE; rw [chk_long (by unfold longW; rw [decide_eq_true (show 1024 < (s :: r).length by rw [HN.out]; exact HNN.out)]; rfl)]; rfl, six_below B20.out _ (Nat.le_refl _) _ _ _ _ _ _⟩
    · have hn' : ¬ (1024 : Int) < (N : Int) := by omega
      have HNN := keep hn
      clear hn
      go_enter Tryd.func14, Tryd.ntmps14
      go_wp2_with fail
      go_loopw [4, 5] (fun v4 v5 wr => ∃ j : Nat, j ≤ N ∧ v4 = .int .i64 ((((s :: r).take j).map ByteArray.size).sum : Nat) ∧ v5 = .int .i64 (j : Nat) ∧ Kept ((∀ y ∈ (s :: r).take j, y.size ≤ 1048576) ∧ (((s :: r).take j).map ByteArray.size).sum ≤ 4194304) ∧ wr = W1) (fun _ v5 _ => N - (intOf v5).toNat)
      case atStart => exact ⟨0, Nat.zero_le _, rfl, rfl, ⟨by simp, Nat.zero_le _⟩, rfl⟩
      case round =>
        obtain ⟨j, hj, rfl, rfl, HA, hw⟩ := hrel
        obtain rfl := hw.symm
        clear hw
        by_cases hlt : j < N
        · have hjS : j < (s :: r).length := by rw [HN.out]; exact hlt
          obtain ⟨a, ea, h2, h3, h4⟩ := HT1.out j hjS
          cases ea
          have htk : (s :: r).take (j + 1) = (s :: r).take j ++ [(s :: r)[j]] := by rw [List.take_add_one, List.getElem?_eq_getElem hjS]; rfl
          obtain ⟨x, hx⟩ : ∃ x, x = (s :: r)[j] := ⟨_, rfl⟩
          have hxm : x ∈ s :: r := by rw [hx]; exact List.getElem_mem _
          rw [← hx] at h3 h4 htk
          have hz : (j : Int) < (N : Int) := by omega
          have hz0 : (0 : Int) ≤ (j : Int) := by omega
          have hs4 := HA.out.2
          obtain ⟨T, hTT⟩ : ∃ T, T = (((s :: r).take j).map ByteArray.size).sum := ⟨_, rfl⟩
          rw [← hTT] at hs4
          rw [← hTT]
          have HTT := keep hTT
          have HTK := keep htk
          have HXM := keep hxm
          by_cases hx1 : 1048576 < x.size
          · have hx1' : (1048576 : Int) < (x.size : Int) := by omega
            have HX1 := keep hx1
            clear hTT htk hx hx1 h2 h3 hjS hs4 hxm
            obtain ⟨c, f⟩ := six_all K20.out
            have c0 := c 0 _ rfl
            have c1 := c 1 _ rfl
            have c2 := c 2 _ rfl
            have c3 := c 3 _ rfl
            have c4 := c 4 _ rfl
            have c5 := c 5 _ rfl
            have f0 := f 0
            have f1 := f 1
            have f2 := f 2
            have f3 := f 3
            have f4 := f 4
            have f5 := f 5
            clear c f
            go_wp2_with fail
            refine bodyPost_ret (rcheck_out w.heap.size _ _ _ _ rfl rfl (six_set _ _ _ _ _ _ _ _ K20.out) rfl) rfl ?_
            rw [HP.out]
            exact ⟨by
              unfold ChkE
              rw [chk_long (by
                unfold longW
                have : (s :: r).any (fun s => decide (1048576 < s.size)) = true := List.any_eq_true.2 ⟨x, HXM.out, by simpa using HX1.out⟩
                rw [this]; simp)]
              rfl, six_below B20.out _ (Nat.le_refl _) _ _ _ _ _ _⟩
          · have hx1' : ¬ (1048576 : Int) < (x.size : Int) := by omega
            have hx2 : x.size ≤ 1048576 := by omega
            have hw1 : IntKind.i64.wrap ((T : Int) + (x.size : Int)) = ((T + x.size : Nat) : Int) := by rw [IntKind.wrap_i64]; omega
            have hw2 : IntKind.i64.wrap ((j : Int) + 1) = ((j + 1 : Nat) : Int) := by have := M63.out; unfold maxLen at this; rw [IntKind.wrap_i64]; omega
            have HX2 := keep hx2
            obtain ⟨V, hV⟩ : ∃ V, V = T + x.size := ⟨_, rfl⟩
            rw [← hV] at hw1
            have HV := keep hV
            have HSV : Kept ((((s :: r).take (j + 1)).map ByteArray.size).sum = V) := by
              show _ = _
              rw [htk, List.map_append, List.sum_append, ← hTT, hV]; simp
            by_cases hv4 : 4194304 < V
            · have hv4' : (4194304 : Int) < (V : Int) := by omega
              have HV4 := keep hv4
              clear hTT htk hx hx1 h2 h3 hjS hs4 hxm hV hx2 hv4
              obtain ⟨c, f⟩ := six_all K20.out
              have c0 := c 0 _ rfl
              have c1 := c 1 _ rfl
              have c2 := c 2 _ rfl
              have c3 := c 3 _ rfl
              have c4 := c 4 _ rfl
              have c5 := c 5 _ rfl
              have f0 := f 0
              have f1 := f 1
              have f2 := f 2
              have f3 := f 3
              have f4 := f 4
              have f5 := f 5
              clear c f
              go_wp2_with fail
              refine bodyPost_ret (rcheck_out w.heap.size _ _ _ _ rfl rfl (six_set _ _ _ _ _ _ _ _ K20.out) rfl) rfl ?_
              rw [HP.out]
              exact ⟨by
                unfold ChkE
                rw [chk_long (by
                  unfold longW
                  have h1 : (((s :: r).take (j + 1)).map ByteArray.size).sum ≤ ((s :: r).map ByteArray.size).sum := by
                    conv => rhs; rw [← List.take_append_drop (j + 1) (s :: r), List.map_append, List.sum_append]
                    exact Nat.le_add_right _ _
                  have h2 : 4194304 < ((s :: r).map ByteArray.size).sum := by rw [HSV.out] at h1; have := HV4.out; omega
                  rw [decide_eq_true h2]; simp)]
                rfl, six_below B20.out _ (Nat.le_refl _) _ _ _ _ _ _⟩
            · have hv4' : ¬ (4194304 : Int) < (V : Int) := by omega
              have HV4 := keep hv4
              clear hTT htk hx hx1 h2 h3 hjS hs4 hxm hV hx2 hv4
              go_wp2_with fail
              go_roundw
              case measure => simp [intOf]; omega
              case rel =>
                refine ⟨j + 1, by omega, by rw [HSV.out], by rfl, ⟨fun y hy => ?_, by rw [HSV.out]; have := HV4.out; omega⟩, by first | trivial | rfl⟩
                rw [HTK.out] at hy
                rcases List.mem_append.1 hy with hy | hy
                · exact HA.out.1 y hy
                · rw [List.mem_singleton] at hy; rw [hy]; exact HX2.out
        · obtain rfl : j = N := by omega
          have hz : ¬ (j : Int) < (j : Int) := by omega
          have hlg : longW (s :: r) = false := by
            have ha := HA.out
            rw [List.take_of_length_le (show (s :: r).length ≤ j by rw [HN.out]; exact Nat.le_refl _)] at ha
            unfold longW
            simp only [Bool.or_eq_false_iff, decide_eq_false_iff_not, List.any_eq_false, decide_eq_true_eq]
            exact ⟨by rw [HN.out]; exact HNN.out, fun y hs => by have := ha.1 y hs; omega, by have := ha.2; omega⟩
          have HLG := keep hlg
          have HS3 := keep (show s.size ≤ 9223372036854775807 by have := (not_long hlg).2.1 s (by simp); omega)
          have k4 : W1.cell? a = some (.string s) := K4.out
          have k4' : W1.cell? (a.add 0) = some (.string s) := by rw [show a.add 0 = a from if_pos rfl]; exact k4
          clear hlg hj hlt
          go_wp2_with fail
          refine (mF.out _ HS3.out).mono ?_
          rintro _ w3 ⟨hE, hb3⟩
          obtain ⟨n, ⟨ra, rf, rx, ry, rz⟩, q, hV, hq⟩ := findV_form (Vb.up s)
          unfold FndE at hE
          rw [hV, row_form] at hE
          dsimp only at hE
          subst hE
          obtain ⟨W4, hW4⟩ : ∃ W, w3.alloc (.cells #[.string n, .int .i64 ra, .int .i64 rf, .int .i64 rx, .int .i64 ry, .int .i64 rz] 23) = W := ⟨_, rfl⟩
          have g4 : W4.heap[w3.heap.size]? = some (.cells #[.string n, .int .i64 ra, .int .i64 rf, .int .i64 rx, .int .i64 ry, .int .i64 rz] 23) := by rw [← hW4]; exact heap_alloc_new _ _
          have b4 : Below W1.heap.size W1 W4 := by rw [← hW4]; exact hb3.alloc hb3.size _
          have h4 : W4.heap[w.heap.size]? = some (.cells zeroC 23 (0, 0)) := (b4.block _ (Array.getElem?_eq_some_iff.1 K20.out).1).trans K20.out
          have HQ := keep hq
          have H4 := keep h4
          have G4 := keep g4
          have B4 := keep (B20.out.trans (b4.mono B20.out.size))
          clear hb3 hV hq g4 b4 h4 k4 k4'
          obtain ⟨c, f⟩ := six_all H4.out
          have c0 := c 0 _ rfl
          have c1 := c 1 _ rfl
          have c2 := c 2 _ rfl
          have c3 := c 3 _ rfl
          have c4 := c 4 _ rfl
          have c5 := c 5 _ rfl
          have f0 := f 0
          have f1 := f 1
          have f2 := f 2
          have f3 := f 3
          have f4 := f 4
          have f5 := f 5
          clear c f
          have g0 : W4.cell? ⟨w3.heap.size, 0, none⟩ = some (.string n) := by rw [cell_of_row _ _ _ _ _ _ G4.out]; rfl
          have g1 : W4.cell? ⟨w3.heap.size, 1, none⟩ = some (.int .i64 ra) := by rw [cell_of_row _ _ _ _ _ _ G4.out]; rfl
          have g2 : W4.cell? ⟨w3.heap.size, 2, none⟩ = some (.int .i64 rf) := by rw [cell_of_row _ _ _ _ _ _ G4.out]; rfl
          have g3 : W4.cell? ⟨w3.heap.size, 3, none⟩ = some (.int .i64 rx) := by rw [cell_of_row _ _ _ _ _ _ G4.out]; rfl
          have g4 : W4.cell? ⟨w3.heap.size, 4, none⟩ = some (.int .i64 ry) := by rw [cell_of_row _ _ _ _ _ _ G4.out]; rfl
          have g5 : W4.cell? ⟨w3.heap.size, 5, none⟩ = some (.int .i64 rz) := by rw [cell_of_row _ _ _ _ _ _ G4.out]; rfl
          cases q with
          | false =>
            go_wp2_with fail
            refine bodyPost_ret (rcheck_out w.heap.size _ _ _ _ rfl rfl (six_set _ _ _ _ _ _ _ _ H4.out) rfl) rfl ?_
            rw [HP.out]
            exact ⟨by
              have hf : Vb.find (Vb.up s).toList = none := by
                rcases HQ.out with ⟨h, _⟩ | ⟨_, h⟩
                · cases h
                · exact h
              unfold ChkE; rw [chk_none HLG.out hf]; rfl, six_below B4.out _ (Nat.le_refl _) _ _ _ _ _ _⟩
          | true =>
            have HF : Kept (Vb.find (Vb.up s).toList = some (ra, rf, rx, ry, rz) ∧ n = Vb.up s) := by
              rcases HQ.out with ⟨_, h⟩ | ⟨h, _⟩
              · exact h
              · cases h
            have hok := find_okRow HF.out.1
            unfold okRow at hok
            simp only [Bool.and_eq_true, decide_eq_true_eq] at hok
            obtain ⟨⟨⟨ha1, ha2, ha3⟩, _⟩, _⟩ := hok
            have hwn : IntKind.i64.wrap (-ra) = -ra := by rw [IntKind.wrap_i64]; omega
            by_cases hneg : ra < 0
            · have hpos : ¬ 0 < ra := by omega
              by_cases hm : (j : Int) < -ra
              · have HM : Kept (many (s :: r).length ra = false) := by show _ = _; unfold many; rw [if_pos hneg, HN.out]; exact decide_eq_false (by omega)
                clear ha1 ha2 ha3
                go_wp2_with fail
                refine bodyPost_ret (rcheck_out w.heap.size _ _ _ _ rfl rfl (six_set _ _ _ _ _ _ _ _ H4.out) rfl) rfl ?_
                rw [HP.out]
                exact ⟨by unfold ChkE; rw [chk_few HLG.out HF.out.1 HM.out]; rfl, six_below B4.out _ (Nat.le_refl _) _ _ _ _ _ _⟩
              · have HM : Kept (many (s :: r).length ra = true) := by show _ = _; unfold many; rw [if_pos hneg, HN.out]; exact decide_eq_true (by omega)
                clear ha1 ha2 ha3
                go_wp2_with fail
                refine bodyPost_ret (rcheck_out w.heap.size _ _ _ _ rfl rfl (six_set _ _ _ _ _ _ _ _ H4.out) rfl) rfl ?_
                rw [HP.out]
                exact ⟨by unfold ChkE; rw [chk_ok HLG.out HF.out.1 HM.out, HF.out.2]; rfl, six_below B4.out _ (Nat.le_refl _) _ _ _ _ _ _⟩
            · have hpos : 0 < ra := by omega
              by_cases hm : (j : Int) = ra
              · have HM : Kept (many (s :: r).length ra = true) := by show _ = _; unfold many; rw [if_neg hneg, HN.out]; exact decide_eq_true hm
                have hmb : ((j : Int) != ra) = false := by simp [hm]
                clear ha1 ha2 ha3 hm
                go_wp2_with fail
                refine bodyPost_ret (rcheck_out w.heap.size _ _ _ _ rfl rfl (six_set _ _ _ _ _ _ _ _ H4.out) rfl) rfl ?_
                rw [HP.out]
                exact ⟨by unfold ChkE; rw [chk_ok HLG.out HF.out.1 HM.out, HF.out.2]; rfl, six_below B4.out _ (Nat.le_refl _) _ _ _ _ _ _⟩
              · have HM : Kept (many (s :: r).length ra = false) := by show _ = _; unfold many; rw [if_neg hneg, HN.out]; exact decide_eq_false hm
                have hmb : ((j : Int) != ra) = true := by simpa using hm
                clear ha1 ha2 ha3 hm
                go_wp2_with fail
                refine bodyPost_ret (rcheck_out w.heap.size _ _ _ _ rfl rfl (six_set _ _ _ _ _ _ _ _ H4.out) rfl) rfl ?_
                rw [HP.out]
                exact ⟨by unfold ChkE; rw [chk_few HLG.out HF.out.1 HM.out]; rfl, six_below B4.out _ (Nat.le_refl _) _ _ _ _ _ _⟩
end Go.Proofs.YtaflggjgndkdlaaDoor
