/-
  The walk of VerbsFlags.
-/
import Derived.Test.YtaflggjgndkdlaaDoorVbNm3
import Derived.Test.YtaflggjgndkdlaaDoorVbFlg0
import Derived.Laws.StructEq
import Derived.BigQuiet
import Derived.WalkSmall
import Derived.Deep.Cut
import Derived.Deep.CutRange
import Derived.OrdersHeld
import Derived.Deep.RegionHeld
import Derived.Deep.RegionHeld3
import Derived.Great.BuildSlice
namespace Go.Proofs.YtaflggjgndkdlaaDoor
open Go.RowKit
set_option linter.unusedVariables false
theorem below_dr2 (w : World) : Below w.heap.size w w.drew := ⟨rfl, rfl, rfl, Nat.le_refl _, fun _ _ => rfl⟩
theorem keys_cnt (so : Option Addr) (cap : Nat) (S : List ByteArray) (w : World) (k : Nat) (hT : Wd w so S) (hl : S.length ≤ maxLen) (hk : (keysL S).length = k) :
    Calls Tryd.prog 15 #[.slice so S.length cap] w fun e w' => (∃ ao cc, e = .returned (.slice ao k cc)) ∧ Below w.heap.size w w' := by
  refine (keys_any so cap S w hT hl).mono ?_
  rintro e w' ⟨⟨v, rfl, hv⟩, hb⟩
  obtain ⟨ao, cc, rfl⟩ := hv.form
  rw [hk]
  exact ⟨⟨_, _, rfl⟩, hb⟩
theorem find_word {U : ByteArray} {r : Vb.Row} (h1 : Vb.up U = U) (h2 : Vb.find U.toList = some r) (h3 : U.size ≤ 2000) (w : World) : Calls Tryd.prog 9 #[.string U] w fun e w' => e = .returned (.tuple #[.agg #[.string U, .int .i64 r.1, .int .i64 r.2.1, .int .i64 r.2.2.1, .int .i64 r.2.2.2.1, .int .i64 r.2.2.2.2], .bool true]) ∧ Below w.heap.size w w' := by
  refine (find_any U w (by omega)).mono ?_
  rintro e w' ⟨he, hb⟩
  unfold FndE at he
  rw [h1] at he
  unfold findV at he
  rw [h2] at he
  exact ⟨he, hb⟩
theorem flW_small {i k : Nat} (h : (flN i).length ≤ 2000) : ∀ s ∈ flW i k, s.size ≤ maxLen := fun s hs => by
  unfold flW at hs
  rcases List.mem_cons.1 hs with rfl | hs
  · rw [Vb.ofL_size]; exact Nat.le_trans h (by decide)
  · obtain ⟨_, rfl⟩ := List.mem_replicate.1 hs; decide
theorem cellW {w w' : World} {x : Addr} {u : Value} (hb : Below w.heap.size w w') (h : w.cell? x = some u) : w'.cell? x = some u := (hb.cell (World.block_lt_of_cell? _ _ h)).trans h
/-- the words copied, one more behind them -/
theorem copied1 (so : Option Addr) (cap : Nat) (S : List ByteArray) (z : ByteArray) (w : World) (hT : Wd w so S) (hl : S.length ≤ 8796093021952) (ty : TypeId) :
    ∃ ao c1 w1 ao2 c2 w2, (Builtin.append_ #[28, 28] ty #[.slice (some ⟨w.heap.size, 0, none⟩) 0 0, .slice so S.length cap]).run Tryd.prog (w.alloc (.cells #[] 9)) = .ok (.slice ao S.length c1) w1 ∧
      (Builtin.append_ #[28, 28] ty #[.slice ao S.length c1, .slice (some ⟨w1.heap.size, 0, none⟩) 1 1]).run Tryd.prog (w1.alloc (.cells #[.string z] 9)) = .ok (.slice ao2 (S.length + 1) c2) w2 ∧
      Below w.heap.size w w2 ∧ Ks w.heap.size w2 (.slice ao2 (S.length + 1) c2) (S ++ [z]) := by
  have b0 : Below w.heap.size w (w.alloc (.cells #[] 9)) := (Below.refl _ w).alloc (Nat.le_refl _) _
  have k0 : Ks w.heap.size (w.alloc (.cells #[] 9)) (.slice (some ⟨w.heap.size, 0, none⟩) 0 0) [] := Ks.lit [] (heap_alloc_new _ _) (Nat.le_refl _) (Nat.zero_le _)
  obtain ⟨v1, w1, r1, k1, g1⟩ := app_all cap k0 (hT.below b0) b0.size (by simp; omega) ty
  rw [List.nil_append] at k1
  have b1 : Below w.heap.size w w1 := b0.trans (g1.below b0.size k0.from)
  obtain ⟨ao, c1, rfl⟩ := k1.form
  obtain ⟨v2, w2, r2, k2, g2⟩ := app_tx z k1 b1.size (by omega) ty
  have b3 : Below w.heap.size w w2 := b1.trans (g2.below b1.size k1.from)
  obtain ⟨ao2, c2, rfl⟩ := k2.form
  have hl2 : (S ++ [z]).length = S.length + 1 := by rw [List.length_append]; rfl
  rw [hl2] at r2 k2
  exact ⟨ao, c1, w1, ao2, c2, w2, r1, r2, b3, k2⟩
set_option maxRecDepth 100000 in
set_option maxHeartbeats 8000000 in
theorem flags_go (w : World) (hm : ∃ m, w.cell? ⟨2, 0, none⟩ = some (.int .i64 m)) : Calls Tryd.prog 7 #[] w fun e w' => e = .returned (.bool true) ∧ Below w.heap.size w w' := by
  obtain ⟨PP, hPP⟩ : ∃ PP : Ending → World → Prop, PP = fun e w' => e = .returned (.bool true) ∧ Below w.heap.size w w' := ⟨_, rfl⟩
  rw [← hPP]
  have HP := keep hPP
  clear hPP
  have mN := keep (names_any w hm)
  clear hm
  go_enter Tryd.func7, Tryd.ntmps7
  go_wp2_with fail
  refine mN.out.mono ?_
  rintro _ w1 ⟨⟨v, rfl, kv⟩, hb1⟩
  have hf := kv.form
  rw [srtK_len (Nat.le_refl _)] at hf
  obtain ⟨ao, cv, rfl⟩ := hf
  obtain ⟨g, rfl⟩ : ∃ g, ao = some ⟨g, 0, none⟩ := by
    rcases kv.2 with ⟨_, hn⟩ | ⟨g, cap, cur, e, _⟩
    · rw [srtK_len (Nat.le_refl _)] at hn; cases hn
    · cases e; exact ⟨g, rfl⟩
  have HAT : Kept (∀ i, i < 113 → w1.cell? ⟨g, i, none⟩ = some (.string (Vb.ofL (flN i)))) := fun i hi => by
    have h := kv.cells (g := g) rfl i (.string (Vb.ofL (flN i))) (by
      unfold srtK flN
      rw [List.getElem?_map, List.getElem?_map, List.getElem?_take_of_lt hi, List.getD_eq_getElem?_getD, List.getElem?_eq_getElem (by rw [srt_len]; exact hi)]
      rfl)
    rwa [add_at, Nat.zero_add] at h
  have HGL := keep (kv.lt g rfl)
  have X1 := keep hb1
  clear kv hb1
  go_wp2_with fail
  go_loopw [2] (fun v2 wr => ∃ i : Nat, i ≤ 113 ∧ v2 = .int .i64 (i : Nat) ∧ Kept (Below w1.heap.size w1 wr)) (fun v2 _ => 113 - (intOf v2).toNat)
  case atStart => exact ⟨0, Nat.zero_le _, rfl, Below.refl _ _⟩
  case round =>
    obtain ⟨i, hi, rfl, KB⟩ := hrel
    by_cases hlt : i < 113
    · have hz : (i : Int) < 113 := by omega
      have hz0 : (0 : Int) ≤ (i : Int) := by omega
      have hwi : IntKind.i64.wrap ((i : Int) + 1) = ((i + 1 : Nat) : Int) := by rw [IntKind.wrap_i64]; omega
      obtain ⟨f1, f2, f3, f4, f5, f6, f7, f8, f9, f10, f11⟩ := flags_ok hlt
      have hc : wr.cell? ⟨g, i, none⟩ = some (.string (Vb.ofL (flN i))) := (KB.out.cell (w := w1) HGL.out).trans (HAT.out i hlt)
      obtain ⟨n, hn⟩ : ∃ n, n = flA i := ⟨_, rfl⟩
      rw [← hn] at f5 f7 f8 f9 f10
      unfold flA at hn
      obtain ⟨R, hR⟩ : ∃ R, R = flR i := ⟨_, rfl⟩
      rw [← hR] at hn f2 f4 f6 f8 f10
      obtain ⟨ra, rf, rx, ry, rz⟩ := R
      dsimp only at hn f4 f6 f8 f10
      obtain ⟨m, hm⟩ : ∃ m, n = m + 1 := ⟨n - 1, by omega⟩
      have hm1 : n - 1 = m := by omega
      rw [hm1] at f7 f9 f10
      have hzs : (Vb.ofL (flN i)).size ≤ 2000 := by rw [Vb.ofL_size]; exact f3
      have MF := keep (fun W => find_word f1 f2 hzs W)
      have FS := keep (fun k => flW_small (k := k) f3)
      have WD : Kept (∀ k, flW i k = Vb.ofL (flN i) :: List.replicate k wB) := fun k => rfl
      have F11 := keep f11
      obtain ⟨U, hU⟩ : ∃ U, U = Vb.ofL (flN i) := ⟨_, rfl⟩
      have HUL := keep (show U.toList = flN i by rw [hU, Vb.ofL_list])
      rw [← hU] at hc MF WD
      dsimp only at MF
      have HM := keep hm
      have HN := keep hn
      have HLT := keep hlt
      have F4 := keep f4
      have F5 := keep f5
      have F6 := keep f6
      have F7 := keep f7
      have F8 := keep f8
      have F9 := keep f9
      have F10 := keep f10
      clear f1 f2 f3 f4 f5 f6 f7 f8 f9 f10 f11 hn hR hm hm1 hzs hU hlt
      go_wp2_with fail
      refine (MF.out _).mono ?_
      rintro _ x1 ⟨rfl, y1⟩
      have hc1 := cellW y1 hc
      obtain ⟨W1, hW1⟩ : ∃ W, x1.alloc (.cells #[.string U, .int .i64 ra, .int .i64 rf, .int .i64 rx, .int .i64 ry, .int .i64 rz] 23) = W := ⟨_, rfl⟩
      have g1 : W1.heap[x1.heap.size]? = some (.cells #[.string U, .int .i64 ra, .int .i64 rf, .int .i64 rx, .int .i64 ry, .int .i64 rz] 23) := by rw [← hW1]; exact heap_alloc_new _ _
      have b1 : Below x1.heap.size x1 W1 := by rw [← hW1]; exact (Below.refl _ _).alloc (Nat.le_refl _) _
      have a0 : W1.cell? ⟨x1.heap.size, 0, none⟩ = some (.string U) := by rw [cell_of_row _ _ _ _ _ _ g1]; rfl
      have a1 : W1.cell? ⟨x1.heap.size, 1, none⟩ = some (.int .i64 ra) := by rw [cell_of_row _ _ _ _ _ _ g1]; rfl
      have a2 : W1.cell? ⟨x1.heap.size, 2, none⟩ = some (.int .i64 rf) := by rw [cell_of_row _ _ _ _ _ _ g1]; rfl
      have a3 : W1.cell? ⟨x1.heap.size, 3, none⟩ = some (.int .i64 rx) := by rw [cell_of_row _ _ _ _ _ _ g1]; rfl
      have a4 : W1.cell? ⟨x1.heap.size, 4, none⟩ = some (.int .i64 ry) := by rw [cell_of_row _ _ _ _ _ _ g1]; rfl
      have a5 : W1.cell? ⟨x1.heap.size, 5, none⟩ = some (.int .i64 rz) := by rw [cell_of_row _ _ _ _ _ _ g1]; rfl
      have e0 := cellW b1 hc1
      have hbW : Below w1.heap.size w1 W1 := (KB.out.trans (y1.mono KB.out.size)).trans (b1.mono (Below.size (KB.out.trans (y1.mono KB.out.size))))
      have HBW := keep hbW
      clear hc hc1 y1 g1 b1 hbW
      go_upto_region 8 with fail
      go_cut [63] from 18 to 160 (fun v63 wx => v63 = .bool false ∧ Kept (Below W1.heap.size W1 wx))
      case first =>
        have hra : (ra == 0) = false := by have := F4.out; simp [this]
        have hra' : ¬ ra = 0 := F4.out
        by_cases hp : 0 < i
        · have hpz : (0 : Int) < (i : Int) := by omega
          obtain ⟨p, hip⟩ : ∃ p, i = p + 1 := ⟨i - 1, by omega⟩
          have hwm : IntKind.i64.wrap ((i : Int) - 1) = (p : Int) := by rw [IntKind.wrap_i64]; omega
          have hp0 : (0 : Int) ≤ (p : Int) := by omega
          have hpl : (p : Int) < 113 := by omega
          obtain ⟨V, hV⟩ : ∃ V, V = Vb.ofL (flN p) := ⟨_, rfl⟩
          have d0 : W1.cell? ⟨g, p, none⟩ = some (.string V) := by rw [hV]; exact (HBW.out.cell (w := w1) HGL.out).trans (HAT.out p (by omega))
          have hVL : V.toList = flN p := by rw [hV, Vb.ofL_list]
          have h11 : Op.bytesLess U.toList V.toList = false ∧ U.toList ≠ V.toList := by
            rcases F11.out with h | h
            · omega
            · rw [HUL.out, hVL, show p = i - 1 by omega]; exact h
          have l1 := h11.1
          have l2 : ¬ U.toList = V.toList := h11.2
          have l3 : (U.toList == V.toList) = false := by simpa using l2
          clear hV hVL h11 hip
          go_quiet (fail)
          go_wp2_with fail
          go_meet
          case rel => exact ⟨by rfl, below_drewN (Below.refl _ _) _⟩
        · have hpz : ¬ (0 : Int) < (i : Int) := by omega
          go_quiet (fail)
          go_wp2_with fail
          go_meet
          case rel => exact ⟨by rfl, below_drewN (Below.refl _ _) _⟩
      case rest =>
      obtain ⟨rfl, B8⟩ := hcut
      have A1 := keep (cellW B8.out a1)
      have A2 := keep (cellW B8.out a2)
      have A3 := keep (cellW B8.out a3)
      have E0 := keep (cellW B8.out e0)
      have BW := keep (HBW.out.trans (B8.out.mono HBW.out.size))
      clear a0 a1 a2 a3 a4 a5 e0
      obtain ⟨W2, hW2⟩ : ∃ W, wc = W := ⟨_, rfl⟩
      rw [hW2] at A1 A2 A3 E0 BW B8 ⊢
      clear hW2
      go_upto_region 10 with fail
      go_cut [95] from 18 to 160 (fun v95 wx => v95 = .bool false ∧ wx = W2)
      case first =>
        have a2 := A2.out
        rcases F6.out with rfl | rfl | rfl | rfl | rfl | rfl <;> (go_wp2_with fail; go_meet; exact ⟨by rfl, rfl⟩)
      case rest =>
      obtain ⟨rfl, rfl⟩ := hcut
      go_upto_region 12 with fail
      go_cut [5] from 18 to 160 (fun v5 wx => v5 = .int .i64 (n : Nat) ∧ wx = wc)
      case first =>
        have a1 := A1.out
        have h5 := F5.out
        have hN := HN.out
        have hwn : IntKind.i64.wrap (-ra) = -ra := by rw [IntKind.wrap_i64]; omega
        have hmx : max ra (-ra) = (n : Int) := by omega
        clear hN h5
        go_wp2_with fail
        go_meet
        case rel => exact ⟨by rfl, rfl⟩
      case rest =>
      obtain ⟨rfl, rfl⟩ := hcut
      have e0 := E0.out
      obtain ⟨WC, hWC⟩ : ∃ W, wc = W := ⟨_, rfl⟩
      rw [hWC] at A1 A2 A3 E0 BW e0 ⊢
      clear hWC
      obtain ⟨W3, hW3⟩ : ∃ W, WC.alloc (.cells #[.string U] 9) = W := ⟨_, rfl⟩
      have b3 : Below WC.heap.size WC W3 := by rw [← hW3]; exact (Below.refl _ _).alloc (Nat.le_refl _) _
      have k3 : Ks WC.heap.size W3 (.slice (some ⟨WC.heap.size, 0, none⟩) 1 1) (flW i 0) := by
        rw [WD.out, ← hW3]
        exact Ks.lit [U] (heap_alloc_new _ _) (Nat.le_refl _) (show 1 ≤ maxLen by unfold maxLen; decide)
      have K3 := keep k3
      have B3 := keep b3
      clear k3 b3 A2
      go_wp2_with fail
      go_loopw [6, 7] (fun v6 v7 wr => ∃ k : Nat, k ≤ m ∧ v7 = .int .i64 (k + 1 : Nat) ∧ Kept (Ks WC.heap.size wr v6 (flW i k)) ∧ Kept (Below WC.heap.size WC wr)) (fun _ v7 _ => m + 1 - (intOf v7).toNat)
      case atStart => exact ⟨0, Nat.zero_le _, rfl, K3, B3.out⟩
      case round =>
        obtain ⟨k, hk, rfl, KS, KB2⟩ := hrel
        by_cases hlk : k < m
        · have hzk : ((k + 1 : Nat) : Int) < (n : Int) := by have := HM.out; omega
          have hwk : IntKind.i64.wrap (((k + 1 : Nat) : Int) + 1) = ((k + 1 + 1 : Nat) : Int) := by have h1 := F5.out; have h2 := HM.out; rw [IntKind.wrap_i64]; omega
          obtain ⟨k1, hk1⟩ : ∃ k1, k1 = k + 1 := ⟨_, rfl⟩
          have hsu := flW_succ i k
          rw [← hk1] at hzk hwk hsu ⊢
          obtain ⟨v', w', hrun, hks, hgr⟩ := app_tx wB KS.out KB2.out.size (by rw [flW_len]; have h1 := F5.out; have h2 := HM.out; omega) 28
          rw [← hsu] at hks
          have hbw : Below WC.heap.size WC w' := KB2.out.trans (hgr.below KB2.out.size KS.out.from)
          have HKS := keep hks
          have HBW2 := keep hbw
          have HRUN := keep hrun
          have HK1 := keep hk1
          have HLK := keep hlk
          unfold wB at HRUN
          clear hks hbw hrun hgr hsu hk1 hlk e0 hW3
          go_wp2_with (first | (at_builtin; refine wpList_app_run rfl _ _ _ _ rfl _ _ _ rfl rfl HRUN.out ?_))
          go_roundw
          case measure => have h1 := HLK.out; have h2 := HK1.out; simp [intOf]; omega
          case rel => exact ⟨k1, by have h1 := HLK.out; have h2 := HK1.out; omega, by rfl, HKS, HBW2⟩
        · obtain rfl : k = m := by omega
          have hnk : ¬ ((k + 1 : Nat) : Int) < (n : Int) := by have := HM.out; omega
          obtain ⟨aw, cw, hform⟩ := KS.out.form
          rw [flW_len, ← HM.out] at hform
          subst hform
          obtain ⟨gw, haw, hcw⟩ : ∃ gw, aw = some ⟨gw, 0, none⟩ ∧ n ≤ cw := by
            rcases KS.out.2 with ⟨_, hn⟩ | ⟨gw, cap, cur, e, _, _, hq, _⟩
            · rw [flW_len] at hn; cases hn
            · rw [flW_len, ← HM.out] at hq; cases e; exact ⟨gw, rfl, hq⟩
          subst haw
          have h5 := F5.out
          have hlm : (flW i k).length ≤ maxLen := by rw [flW_len, ← HM.out]; unfold maxLen; omega
          have hlm2 : (flW i n).length ≤ maxLen := by rw [flW_len]; unfold maxLen; omega
          have hlm3 : ((flW i k).take k).length ≤ maxLen := by rw [List.length_take]; exact Nat.le_trans (Nat.min_le_right _ _) hlm
          have hl3 : ((flW i k).take k).length = k := by rw [List.length_take, flW_len]; exact Nat.min_eq_left (Nat.le_succ k)
          have mC1 := keep (fun ao cc W (h : Wd W ao (flW i k)) => check_code ao cc (flW i k) W 0 h hlm F7.out)
          rw [flW_len, ← HM.out] at mC1
          obtain ⟨c2, hc2⟩ : ∃ c, (chk (flW i n)).2.2 = c := ⟨_, rfl⟩
          have mC2 := keep (fun ao cc W (h : Wd W ao (flW i n)) => check_code ao cc (flW i n) W c2 h hlm2 hc2)
          rw [flW_len] at mC2
          obtain ⟨c3, hc3⟩ : ∃ c, (chk ((flW i k).take k)).2.2 = c := ⟨_, rfl⟩
          have mC3 := keep (fun ao cc W (h : Wd W ao ((flW i k).take k)) => check_code ao cc ((flW i k).take k) W c3 h hlm3 hc3)
          rw [hl3] at mC3
          obtain ⟨kl, hkl⟩ : ∃ kl, (keysL (flW i k)).length = kl := ⟨_, rfl⟩
          have mQ := keep (fun ao cc W (h : Wd W ao (flW i k)) => keys_cnt ao cc (flW i k) W kl h hlm hkl)
          rw [flW_len, ← HM.out] at mQ
          have f8 := F8.out
          rw [hc2] at f8
          have f9 := F9.out
          rw [hc3] at f9
          have f10 := F10.out
          rw [hkl] at f10
          have F8' := keep f8
          have F9' := keep f9
          have F10' := keep f10
          have HWS := keep (KS.out.wd (FS.out k))
          have mY := keep (fun W (hb : Below wr.heap.size wr W) => copied1 (some ⟨gw, 0, none⟩) cw (flW i k) wB W (HWS.out.below hb) (by rw [flW_len, ← HM.out]; omega) 28)
          rw [flW_len, ← HM.out] at mY
          obtain ⟨N2, hN2⟩ : ∃ N, N = n + 1 := ⟨_, rfl⟩
          rw [← hN2] at mC2 mY
          have FS2 := keep (FS.out n)
          have SU : Kept (flW i n = flW i k ++ [wB]) := by rw [HM.out]; exact flW_succ i k
          have HK5 := keep (show (k : Int) ≤ 5 by have := HM.out; omega)
          have hkc : (k : Int) ≤ (cw : Int) := by have := HM.out; omega
          have hk0 : (0 : Int) ≤ (k : Int) := by omega
          have hwn3 : IntKind.i64.wrap ((n : Int) - 1) = (k : Int) := by have := HM.out; rw [IntKind.wrap_i64]; omega
          have A1r := keep (cellW KB2.out A1.out)
          have A3r := keep (cellW KB2.out A3.out)
          clear hlm hlm2 hlm3 hl3 hc2 hc3 hkl f8 f9 f10 hN2 e0 hW3 hlk h5 hcw
          go_wp2_with fail
          refine (mC1.out _ _ _ HWS.out).mono ?_
          rintro _ w4 ⟨⟨n4, a4, f4, x4, y4, z4, rfl⟩, hb4⟩
          obtain ⟨W4, hW4⟩ : ∃ W, w4.alloc (.cells #[.string n4, .int .i64 a4, .int .i64 f4, .int .i64 x4, .int .i64 y4, .int .i64 z4] 23) = W := ⟨_, rfl⟩
          have b4 : Below wr.heap.size wr W4 := by rw [← hW4]; exact (hb4).alloc (Below.size (hb4)) _
          obtain ⟨ao5, c5, w5, ao6, c6, w6, run5, run6, b6, k6⟩ := mY.out W4 b4
          rw [← SU.out] at k6
          unfold wB at run6
          have RUN5 := keep run5
          have RUN6 := keep run6
          have K6 := keep k6
          have B6 := keep (b4.trans (b6.mono b4.size))
          clear hb4 b4 run5 run6 b6 k6
          go_wp2_with (first | (at_builtin; refine wpList_app_run rfl _ _ _ _ rfl _ _ _ rfl rfl RUN5.out ?_; clear RUN5) | (at_builtin; refine wpList_app_run rfl _ _ _ _ rfl _ _ _ rfl rfl RUN6.out ?_; clear RUN6))
          refine (mC2.out _ _ _ (K6.out.wd FS2.out)).mono ?_
          rintro _ w7 ⟨⟨n7, a7, f7, x7, y7, z7, rfl⟩, hb7⟩
          have hb7' : Below wr.heap.size wr w7 := B6.out.trans (hb7.mono B6.out.size)
          obtain ⟨W7, hW7⟩ : ∃ W, w7.alloc (.cells #[.string n7, .int .i64 a7, .int .i64 f7, .int .i64 x7, .int .i64 y7, .int .i64 z7] 23) = W := ⟨_, rfl⟩
          have b7 : Below wr.heap.size wr W7 := by rw [← hW7]; exact (hb7').alloc (Below.size (hb7')) _
          have B7 := keep b7
          clear hb7 hb7' b7 hW4
          go_wp2_with fail
          refine (mC3.out _ _ _ ((HWS.out.below B7.out).take k)).mono ?_
          rintro _ w8 ⟨⟨n8, a8, f8, x8, y8, z8, rfl⟩, hb8⟩
          have hb8' : Below wr.heap.size wr w8 := B7.out.trans (hb8.mono B7.out.size)
          obtain ⟨W8, hW8⟩ : ∃ W, w8.alloc (.cells #[.string n8, .int .i64 a8, .int .i64 f8, .int .i64 x8, .int .i64 y8, .int .i64 z8] 23) = W := ⟨_, rfl⟩
          have b8 : Below wr.heap.size wr W8 := by rw [← hW8]; exact (hb8').alloc (Below.size (hb8')) _
          have B8' := keep b8
          have hbd : Below wr.heap.size wr W8.drew := b8.trans ((below_dr2 W8).mono b8.size)
          have HBD := keep hbd
          have hS : W8.drew.cell? ⟨x1.heap.size, 1, none⟩ = some (.int .i64 ra) ∧ W8.drew.cell? ⟨x1.heap.size, 3, none⟩ = some (.int .i64 rx) := ⟨cellW hbd A1r.out, cellW hbd A3r.out⟩
          have HS := keep hS
          obtain ⟨p, hp⟩ : ∃ p, p = decide (ra < 0) := ⟨_, rfl⟩
          obtain ⟨q, hq⟩ : ∃ q, q = decide (0 < rx) := ⟨_, rfl⟩
          have p1 : (c2 == 0) = p := by rw [hp, Bool.eq_iff_iff]; simp only [beq_iff_eq, decide_eq_true_eq]; exact F8'.out
          have p2 : decide (ra < 0) = p := hp.symm
          have p3 : (c3 == 0) = false := by simpa using F9'.out
          have q1 : decide ((0 : Int) < (kl : Int)) = q := by
            rw [hq]
            have := F10'.out
            by_cases h : 0 < kl
            · rw [decide_eq_true (this.1 h), decide_eq_true (show (0 : Int) < (kl : Int) by omega)]
            · rw [decide_eq_false (fun h' => h (this.2 h')), decide_eq_false (show ¬ (0 : Int) < (kl : Int) by omega)]
          have q1n : decide (0 < kl) = q := by
            rw [← q1]
            by_cases h : 0 < kl
            · rw [decide_eq_true h, decide_eq_true (show (0 : Int) < (kl : Int) by omega)]
            · rw [decide_eq_false h, decide_eq_false (show ¬ (0 : Int) < (kl : Int) by omega)]
          have q2 : decide (0 < rx) = q := hq.symm
          clear hb8 hb8' b8 hbd hS hp hq hW7
          go_upto_region 21 with fail
          refine wp_region_held_drew (S := fun W => W.cell? ⟨x1.heap.size, 1, none⟩ = some (.int .i64 ra) ∧ W.cell? ⟨x1.heap.size, 3, none⟩ = some (.int .i64 rx)) (by kernel_rfl) HS.out (fun hHeld => ?_)
          refine wpAnyH_take (i := 0) (oi := { dst := some 137, op := _, type := _, pos := _, after := _, guard := _ }) (v := ?v1) rfl (by kernel_rfl) (by kernel_rfl) (by kernel_rfl) (fun _ _ _ h => h) (Or.inl ⟨by rfl, ?hy1⟩) (by assumption) ?rest1
          case hy1 => (intro w hSw; obtain ⟨s1,s3⟩ := hSw; go_simp; try with_reducible rfl)
          try simp only [Act.put, List.setIfInBounds_toArray, List.set_cons_zero, List.set_cons_succ]
          refine wpAnyH_take (i := 1) (oi := { dst := some 138, op := _, type := _, pos := _, after := _, guard := _ }) (v := (.bool false)) rfl (by kernel_rfl) (by kernel_rfl) (by kernel_rfl) (fun _ _ _ h => h) (Or.inl ⟨by rfl, ?hy2⟩) (by assumption) ?rest2
          case hy2 => (intro w hSw; obtain ⟨s1,s3⟩ := hSw; first | (go_simp; done) | (go_simp; simp [*]; done) | (simp [*]; go_simp; done))
          try simp only [Act.put, List.setIfInBounds_toArray, List.set_cons_zero, List.set_cons_succ]
          refine wpAnyH_take (i := 2) (oi := { dst := some 139, op := _, type := _, pos := _, after := _, guard := _ }) (v := ?v3) rfl (by kernel_rfl) (by kernel_rfl) (by kernel_rfl) (fun _ _ _ h => h) (Or.inl ⟨by rfl, ?hy3⟩) (by assumption) ?rest3
          case hy3 => (intro w hSw; obtain ⟨s1,s3⟩ := hSw; go_simp; try with_reducible rfl)
          try simp only [Act.put, List.setIfInBounds_toArray, List.set_cons_zero, List.set_cons_succ]
          refine wpAnyH_take (i := 3) (oi := { dst := some 140, op := _, type := _, pos := _, after := _, guard := _ }) (v := ?v4) rfl (by kernel_rfl) (by kernel_rfl) (by kernel_rfl) (fun _ _ _ h => h) (Or.inl ⟨by rfl, ?hy4⟩) (by assumption) ?rest4
          case hy4 => (intro w hSw; obtain ⟨s1,s3⟩ := hSw; go_simp; try with_reducible rfl)
          try simp only [Act.put, List.setIfInBounds_toArray, List.set_cons_zero, List.set_cons_succ]
          refine wpAnyH_take (i := 4) (oi := { dst := some 141, op := _, type := _, pos := _, after := _, guard := _ }) (v := (.bool p)) rfl (by kernel_rfl) (by kernel_rfl) (by kernel_rfl) (fun _ _ _ h => h) (Or.inl ⟨by rfl, ?hy5⟩) (by assumption) ?rest5
          case hy5 => (intro w hSw; obtain ⟨s1,s3⟩ := hSw; first | (go_simp; done) | (go_simp; simp [*]; done) | (simp [*]; go_simp; done))
          try simp only [Act.put, List.setIfInBounds_toArray, List.set_cons_zero, List.set_cons_succ]
          refine wpAnyH_take (i := 5) (oi := { dst := some 142, op := _, type := _, pos := _, after := _, guard := _ }) (v := ?v6) rfl (by kernel_rfl) (by kernel_rfl) (by kernel_rfl) (fun _ _ _ h => h) (Or.inl ⟨by rfl, ?hy6⟩) (by assumption) ?rest6
          case hy6 => (intro w hSw; obtain ⟨s1,s3⟩ := hSw; go_simp; try with_reducible rfl)
          try simp only [Act.put, List.setIfInBounds_toArray, List.set_cons_zero, List.set_cons_succ]
          refine wpAnyH_take (i := 6) (oi := { dst := some 143, op := _, type := _, pos := _, after := _, guard := _ }) (v := (.int .i64 ra)) rfl (by kernel_rfl) (by kernel_rfl) (by kernel_rfl) (fun _ _ _ h => h) (Or.inl ⟨by rfl, ?hy7⟩) (by assumption) ?rest7
          case hy7 => (intro w hSw; obtain ⟨s1,s3⟩ := hSw; first | (go_simp; done) | (go_simp; simp [*]; done) | (simp [*]; go_simp; done))
          try simp only [Act.put, List.setIfInBounds_toArray, List.set_cons_zero, List.set_cons_succ]
          refine wpAnyH_take (i := 7) (oi := { dst := some 144, op := _, type := _, pos := _, after := _, guard := _ }) (v := (.bool p)) rfl (by kernel_rfl) (by kernel_rfl) (by kernel_rfl) (fun _ _ _ h => h) (Or.inl ⟨by rfl, ?hy8⟩) (by assumption) ?rest8
          case hy8 => (intro w hSw; obtain ⟨s1,s3⟩ := hSw; first | (go_simp; done) | (go_simp; simp [*]; done) | (simp [*]; go_simp; done))
          try simp only [Act.put, List.setIfInBounds_toArray, List.set_cons_zero, List.set_cons_succ]
          refine wpAnyH_take (i := 8) (oi := { dst := some 145, op := _, type := _, pos := _, after := _, guard := _ }) (v := (.bool false)) rfl (by kernel_rfl) (by kernel_rfl) (by kernel_rfl) (fun _ _ _ h => h) (Or.inl ⟨by rfl, ?hy9⟩) (by assumption) ?rest9
          case hy9 => (intro w hSw; obtain ⟨s1,s3⟩ := hSw; first | (go_simp; done) | (go_simp; simp [*]; done) | (simp [*]; go_simp; done))
          try simp only [Act.put, List.setIfInBounds_toArray, List.set_cons_zero, List.set_cons_succ]
          refine wpAnyH_take (i := 9) (oi := { dst := some 146, op := _, type := _, pos := _, after := _, guard := _ }) (v := (.bool false)) rfl (by kernel_rfl) (by kernel_rfl) (by kernel_rfl) (fun _ _ _ h => h) (Or.inl ⟨by rfl, ?hy10⟩) (by assumption) ?rest10
          case hy10 => (intro w hSw; obtain ⟨s1,s3⟩ := hSw; first | (go_simp; done) | (go_simp; simp [*]; done) | (simp [*]; go_simp; done))
          try simp only [Act.put, List.setIfInBounds_toArray, List.set_cons_zero, List.set_cons_succ]
          refine wpAnyH_take (i := 10) (oi := { dst := some 147, op := _, type := _, pos := _, after := _, guard := _ }) (v := ?v11) rfl (by kernel_rfl) (by kernel_rfl) (by kernel_rfl) (fun _ _ _ h => h) (Or.inl ⟨by rfl, ?hy11⟩) (by assumption) ?rest11
          case hy11 => (intro w hSw; obtain ⟨s1,s3⟩ := hSw; go_simp; try with_reducible rfl)
          try simp only [Act.put, List.setIfInBounds_toArray, List.set_cons_zero, List.set_cons_succ]
          refine wpAnyH_take (i := 11) (oi := { dst := some 148, op := _, type := _, pos := _, after := _, guard := _ }) (v := ?v12) rfl (by kernel_rfl) (by kernel_rfl) (by kernel_rfl) (fun _ _ _ h => h) (Or.inl ⟨by rfl, ?hy12⟩) (by assumption) ?rest12
          case hy12 => (intro w hSw; obtain ⟨s1,s3⟩ := hSw; go_simp; try with_reducible rfl)
          try simp only [Act.put, List.setIfInBounds_toArray, List.set_cons_zero, List.set_cons_succ]
          refine wpAnyH_take (i := 12) (oi := { dst := some 149, op := _, type := _, pos := _, after := _, guard := _ }) (v := (.bool false)) rfl (by kernel_rfl) (by kernel_rfl) (by kernel_rfl) (fun _ _ _ h => h) (Or.inl ⟨by rfl, ?hy13⟩) (by assumption) ?rest13
          case hy13 => (intro w hSw; obtain ⟨s1,s3⟩ := hSw; first | (go_simp; done) | (go_simp; simp [*]; done) | (simp [*]; go_simp; done))
          try simp only [Act.put, List.setIfInBounds_toArray, List.set_cons_zero, List.set_cons_succ]
          refine wpAnyH_take (i := 13) (oi := { dst := some 150, op := _, type := _, pos := _, after := _, guard := _ }) (v := (.bool false)) rfl (by kernel_rfl) (by kernel_rfl) (by kernel_rfl) (fun _ _ _ h => h) (Or.inl ⟨by rfl, ?hy14⟩) (by assumption) ?rest14
          case hy14 => (intro w hSw; obtain ⟨s1,s3⟩ := hSw; first | (go_simp; done) | (go_simp; simp [*]; done) | (simp [*]; go_simp; done))
          try simp only [Act.put, List.setIfInBounds_toArray, List.set_cons_zero, List.set_cons_succ]
          refine wpAnyH_take (i := 14) (oi := { dst := some 151, op := _, type := _, pos := _, after := _, guard := _ }) (v := ?v15) rfl (by kernel_rfl) (by kernel_rfl) (by kernel_rfl) (fun _ _ _ h => h) (Or.inl ⟨by rfl, ?hy15⟩) (by assumption) ?rest15
          case hy15 => (intro w hSw; obtain ⟨s1,s3⟩ := hSw; go_simp; try with_reducible rfl)
          try simp only [Act.put, List.setIfInBounds_toArray, List.set_cons_zero, List.set_cons_succ]
          refine wpAnyH_take (i := 15) (oi := { dst := some 152, op := _, type := _, pos := _, after := _, guard := _ }) (v := ?v16) rfl (by kernel_rfl) (by kernel_rfl) (by kernel_rfl) (fun _ _ _ h => h) (Or.inl ⟨by rfl, ?hy16⟩) (by assumption) ?rest16
          case hy16 => (intro w hSw; obtain ⟨s1,s3⟩ := hSw; go_simp; try with_reducible rfl)
          try simp only [Act.put, List.setIfInBounds_toArray, List.set_cons_zero, List.set_cons_succ]
          refine wpAnyH_take (i := 19) (oi := { dst := some 156, op := _, type := _, pos := _, after := _, guard := _ }) (v := ?v17) rfl (by kernel_rfl) (by kernel_rfl) (by kernel_rfl) (fun _ _ _ h => h) (Or.inl ⟨by rfl, ?hy17⟩) (by assumption) ?rest17
          case hy17 => (intro w hSw; obtain ⟨s1,s3⟩ := hSw; go_simp; try with_reducible rfl)
          try simp only [Act.put, List.setIfInBounds_toArray, List.set_cons_zero, List.set_cons_succ]
          refine wpAnyH_take (i := 20) (oi := { dst := some 157, op := _, type := _, pos := _, after := _, guard := _ }) (v := (.int .i64 rx)) rfl (by kernel_rfl) (by kernel_rfl) (by kernel_rfl) (fun _ _ _ h => h) (Or.inl ⟨by rfl, ?hy18⟩) (by assumption) ?rest18
          case hy18 => (intro w hSw; obtain ⟨s1,s3⟩ := hSw; first | (go_simp; done) | (go_simp; simp [*]; done) | (simp [*]; go_simp; done))
          try simp only [Act.put, List.setIfInBounds_toArray, List.set_cons_zero, List.set_cons_succ]
          refine wpAnyH_take (i := 21) (oi := { dst := some 158, op := _, type := _, pos := _, after := _, guard := _ }) (v := (.bool q)) rfl (by kernel_rfl) (by kernel_rfl) (by kernel_rfl) (fun _ _ _ h => h) (Or.inl ⟨by rfl, ?hy19⟩) (by assumption) ?rest19
          case hy19 => (intro w hSw; obtain ⟨s1,s3⟩ := hSw; first | (go_simp; done) | (go_simp; simp [*]; done) | (simp [*]; go_simp; done))
          try simp only [Act.put, List.setIfInBounds_toArray, List.set_cons_zero, List.set_cons_succ]
          refine wpAnyH_ready (rs := [16]) (by kernel_rfl) (by simp) ?_
          refine AllReadyH.cons (o := { dst := some 153, op := _, type := _, pos := _, after := _, guard := _ }) rfl (fun K hK => ?_) AllReadyH.nil
          go_simp
          refine (mQ.out _ _ _ (HWS.out.below HBD.out)).mono ?_
          rintro _ w9 ⟨⟨ao9, c9, rfl⟩, y9⟩
          have z9 : Below wr.heap.size wr w9 := HBD.out.trans (y9.mono HBD.out.size)
          have Z9 := keep z9
          refine hK.out _ _ ⟨cellW y9 hHeld.1, cellW y9 hHeld.2⟩ (fun hHeld => ?_)
          try simp only [Act.put, List.setIfInBounds_toArray, List.set_cons_zero, List.set_cons_succ]
          clear hK y9 z9
          refine wpAnyH_take (i := 17) (oi := { dst := some 154, op := _, type := _, pos := _, after := _, guard := _ }) (v := (.int .i64 kl)) rfl (by kernel_rfl) (by kernel_rfl) (by kernel_rfl) (fun _ _ _ h => h) (Or.inl ⟨by rfl, ?hy20⟩) (by assumption) ?rest20
          case hy20 => (intro w hSw; first | (go_simp; done) | (go_simp; simp [*]; done) | (simp [*]; go_simp; done))
          try simp only [Act.put, List.setIfInBounds_toArray, List.set_cons_zero, List.set_cons_succ]
          refine wpAnyH_take (i := 18) (oi := { dst := some 155, op := _, type := _, pos := _, after := _, guard := _ }) (v := (.bool q)) rfl (by kernel_rfl) (by kernel_rfl) (by kernel_rfl) (fun _ _ _ h => h) (Or.inl ⟨by rfl, ?hy21⟩) (by assumption) ?rest21
          case hy21 => (intro w hSw; first | (go_simp; done) | (go_simp; simp [*]; done) | (simp [*]; go_simp; done))
          try simp only [Act.put, List.setIfInBounds_toArray, List.set_cons_zero, List.set_cons_succ]
          refine wpAnyH_take (i := 22) (oi := { dst := some 159, op := _, type := _, pos := _, after := _, guard := _ }) (v := (.bool false)) rfl (by kernel_rfl) (by kernel_rfl) (by kernel_rfl) (fun _ _ _ h => h) (Or.inl ⟨by rfl, ?hy22⟩) (by assumption) ?rest22
          case hy22 => (intro w hSw; first | (go_simp; done) | (go_simp; simp [*]; done) | (simp [*]; go_simp; done))
          try simp only [Act.put, List.setIfInBounds_toArray, List.set_cons_zero, List.set_cons_succ]
          refine wpAnyH_take (i := 23) (oi := { dst := some 160, op := _, type := _, pos := _, after := _, guard := _ }) (v := (.bool false)) rfl (by kernel_rfl) (by kernel_rfl) (by kernel_rfl) (fun _ _ _ h => h) (Or.inl ⟨by rfl, ?hy23⟩) (by assumption) ?rest23
          case hy23 => (intro w hSw; first | (go_simp; done) | (go_simp; simp [*]; done) | (simp [*]; go_simp; done))
          try simp only [Act.put, List.setIfInBounds_toArray, List.set_cons_zero, List.set_cons_succ]
          refine wpAnyH_done (by kernel_rfl) ?_ _
          clear hHeld
          go_wp2_with fail
          go_roundw
          case measure => have := HLT.out; simp [intOf]; omega
          case rel => exact ⟨i + 1, HLT.out, by rfl, BW.out.trans ((KB2.out.trans (Z9.out.mono KB2.out.size)).mono BW.out.size)⟩
    · obtain rfl : i = 113 := by omega
      have hz : ¬ ((113 : Nat) : Int) < 113 := by omega
      go_wp2_with fail
      rw [HP.out]
      exact ⟨rfl, X1.out.trans (KB.out.mono X1.out.size)⟩

end Go.Proofs.YtaflggjgndkdlaaDoor
