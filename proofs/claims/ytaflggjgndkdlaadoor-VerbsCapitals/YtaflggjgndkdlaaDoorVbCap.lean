/-
  The walk of VerbsCapitals: capitals in the name don't matter, nor what the other words are.
-/
import Derived.Test.YtaflggjgndkdlaaDoorVbWords
import Derived.Test.YtaflggjgndkdlaaDoorVbTurn
import Derived.Deep.Cut
import Derived.Deep.CutRange
import Derived.Laws.StructEq
import Derived.OrdersHeld
import Derived.Deep.RegionHeld
import Derived.Deep.RegionHeld3
namespace Go.Proofs.YtaflggjgndkdlaaDoor
open Go.RowKit
set_option linter.unusedVariables false
theorem stoodV : Tryd.prog.stoodInHeld 23 = false := by kernel_rfl
theorem noGuardV : Tryd.prog.eqGuardType Tryd.prog.depth 23 = false := by kernel_rfl
/-- a row of texts out of a literal -/
theorem Ks.lit {B b : Nat} {w : World} (S : List ByteArray) (h : w.heap[b]? = some (.cells (S.map Value.string).toArray 9 (0, 0))) (hB : B ≤ b) (hl : S.length ≤ maxLen) : Ks B w (.slice (some ⟨b, 0, none⟩) S.length S.length) S :=
  ⟨by simp, .inr ⟨b, S.length, _, rfl, hB, h, Nat.le_refl _, hl, by simp, by rw [Nat.mul_one]; exact List.take_of_length_le (by simp)⟩⟩
theorem longW_few {S : List ByteArray} (h1 : S.length ≤ 1000) (h2 : ∀ s ∈ S, s.size ≤ 1000) : longW S = false := by
  have h3 : (S.map ByteArray.size).sum ≤ 1000 * S.length := by
    clear h1
    induction S with
    | nil => exact Nat.le_refl _
    | cons s S ih =>
      have a := h2 s (by simp)
      have b := ih (fun x hx => h2 x (by simp [hx]))
      rw [List.map_cons, List.sum_cons, List.length_cons]
      omega
  unfold longW
  simp only [Bool.or_eq_false_iff, decide_eq_false_iff_not, List.any_eq_false, decide_eq_true_eq]
  exact ⟨by omega, fun s hs => by have := h2 s hs; omega, by omega⟩
theorem chk_like {s t : ByteArray} {r q : List ByteArray} (h1 : longW (s :: r) = false) (h2 : longW (t :: q) = false) (hu : Vb.up t = Vb.up s) (hl : (t :: q).length = (s :: r).length) : chk (t :: q) = chk (s :: r) := by
  unfold chk
  dsimp only
  rw [h1, h2, hu, hl]
theorem keys_like {s t : ByteArray} {r q : List ByteArray} (h : chk (t :: q) = chk (s :: r)) (hl : (t :: q).length = (s :: r).length) : (keysL (t :: q)).length = (keysL (s :: r)).length := by
  unfold keysL
  rw [h]
  split
  · rw [keysR_len, keysR_len, hl]
  · rfl
def gEt : List ByteArray := [⟨#[103, 69, 116]⟩, ⟨#[107]⟩]
theorem gEt_chk : chk gEt = (⟨#[71, 69, 84]⟩, (2, 0, 1, 1, 1), 0) := by decide +kernel
theorem keys_len (so : Option Addr) (cap : Nat) (S : List ByteArray) (w : World) (k : Nat) (hT : Wd w so S) (hl : S.length ≤ maxLen) (hk : (keysL S).length = k) :
    Calls Tryd.prog 15 #[.slice so S.length cap] w fun e w' => (∃ ao cc, e = .returned (.slice ao k cc)) ∧ Below w.heap.size w w' := by
  refine (keys_any so cap S w hT hl).mono ?_
  rintro e w' ⟨⟨v, rfl, hv⟩, hb⟩
  obtain ⟨ao, cc, rfl⟩ := hv.form
  rw [hk]
  exact ⟨⟨_, _, rfl⟩, hb⟩
theorem cell_up {w w' : World} {x : Addr} {u : Value} (hb : Below w.heap.size w w') (h : w.cell? x = some u) : w'.cell? x = some u := (hb.cell (World.block_lt_of_cell? _ _ h)).trans h
/-- what the last test reads: both rows, the third one's name, both first words -/
def SS (b1 b2 b3 : Nat) (a al : Addr) (n : ByteArray) (ra rf rx ry rz : Int) (s t : ByteArray) (W : World) : Prop :=
  (W.cell? ⟨b1, 0, none⟩ = some (.string n) ∧ W.cell? ⟨b1, 1, none⟩ = some (.int .i64 ra) ∧ W.cell? ⟨b1, 2, none⟩ = some (.int .i64 rf) ∧ W.cell? ⟨b1, 3, none⟩ = some (.int .i64 rx) ∧ W.cell? ⟨b1, 4, none⟩ = some (.int .i64 ry) ∧ W.cell? ⟨b1, 5, none⟩ = some (.int .i64 rz)) ∧
  (W.cell? ⟨b2, 0, none⟩ = some (.string n) ∧ W.cell? ⟨b2, 1, none⟩ = some (.int .i64 ra) ∧ W.cell? ⟨b2, 2, none⟩ = some (.int .i64 rf) ∧ W.cell? ⟨b2, 3, none⟩ = some (.int .i64 rx) ∧ W.cell? ⟨b2, 4, none⟩ = some (.int .i64 ry) ∧ W.cell? ⟨b2, 5, none⟩ = some (.int .i64 rz)) ∧
  W.cell? ⟨b3, 0, none⟩ = some (.string ⟨#[71, 69, 84]⟩) ∧ W.cell? a = some (.string s) ∧ W.cell? al = some (.string t)
theorem SS.up {b1 b2 b3 : Nat} {a al : Addr} {n : ByteArray} {ra rf rx ry rz : Int} {s t : ByteArray} {w w' : World} (h : SS b1 b2 b3 a al n ra rf rx ry rz s t w) (hb : Below w.heap.size w w') : SS b1 b2 b3 a al n ra rf rx ry rz s t w' := by
  obtain ⟨⟨a0, a1, a2, a3, a4, a5⟩, ⟨c0, c1, c2, c3, c4, c5⟩, g0, e0, e1⟩ := h
  exact ⟨⟨cell_up hb a0, cell_up hb a1, cell_up hb a2, cell_up hb a3, cell_up hb a4, cell_up hb a5⟩, ⟨cell_up hb c0, cell_up hb c1, cell_up hb c2, cell_up hb c3, cell_up hb c4, cell_up hb c5⟩, cell_up hb g0, cell_up hb e0, cell_up hb e1⟩
theorem below_dr1 (w : World) : Below w.heap.size w w.drew := ⟨rfl, rfl, rfl, Nat.le_refl _, fun _ _ => rfl⟩
set_option maxRecDepth 100000 in
set_option maxHeartbeats 8000000 in
theorem cap_go (so oo : Option Addr) (cap ocap : Nat) (S O : List ByteArray) (mask : Int) (w : World) (hT : Wd w so S) (hl : S.length ≤ maxLen) (hcap : S.length ≤ cap) (hO : Wd w oo O) (hlo : O.length ≤ maxLen) (hm0 : 0 ≤ mask) (hm1 : mask < 18446744073709551616) :
    Calls Tryd.prog 6 #[.slice so S.length cap, .slice oo O.length ocap, .int .u64 mask] w fun e w' => e = .returned (.bool true) ∧ Below w.heap.size w w' := by
  obtain ⟨PP, hPP⟩ : ∃ PP : Ending → World → Prop, PP = fun e w' => e = .returned (.bool true) ∧ Below w.heap.size w w' := ⟨_, rfl⟩
  rw [← hPP]
  have HP := keep hPP
  clear hPP
  obtain ⟨N, hN⟩ : ∃ N, S.length = N := ⟨_, rfl⟩
  obtain ⟨NO, hNO⟩ : ∃ N, O.length = N := ⟨_, rfl⟩
  have HT := keep hT
  have HO := keep hO
  have HL := keep hl
  have HLO := keep hlo
  have HC := keep hcap
  have HM0 := keep hm0
  have HM1 := keep hm1
  have HN := keep hN
  have HNO := keep hNO
  rw [hN, hNO]
  clear hT hl hcap hO hlo hm0 hm1 hN hNO
  go_enter Tryd.func6, Tryd.ntmps6
  go_upto_if 19 with fail
  go_cut [0] from 17 to 20 (fun z wx => ∃ (so : Option Addr) (cap n : Nat) (S : List ByteArray), z = .slice so n cap ∧ Kept (n = S.length ∧ 1 ≤ n ∧ n ≤ maxLen ∧ n ≤ cap ∧ Wd wx so S ∧ Below w.heap.size w wx))
  case first =>
    cases N with
    | zero =>
      go_wp2_with fail
      go_meet
      case rel => exact ⟨_, 2, 2, [⟨#[103, 101, 116]⟩, ⟨#[107]⟩], rfl, rfl, by decide, by unfold maxLen; decide, Nat.le_refl _, row_wd (t := 9) (fr := (0, 0)) _ (heap_alloc_new _ _) (by intro u hu; unfold maxLen; simp only [List.mem_cons, List.not_mem_nil, or_false] at hu; rcases hu with rfl | rfl <;> decide), (Below.refl _ w).alloc (Nat.le_refl _) _⟩
    | succ N =>
      have hz : (((N + 1 : Nat) : Int) == 0) = false := by simp; omega
      have hz' : ¬ N + 1 = 0 := by omega
      go_wp2_with fail
      go_meet
      case rel => exact ⟨so, cap, N + 1, S, rfl, by rw [HN.out], by omega, by rw [← HN.out]; exact HL.out, by rw [← HN.out]; exact HC.out, HT.out, Below.refl _ w⟩
  case rest =>
  clear HT HL HC HN
  obtain ⟨so, cap, n, S, rfl, HS⟩ := hcut
  go_upto_if 23 with fail
  go_cut [0] from 21 to 25 (fun z wx => ∃ (so : Option Addr) (cap n : Nat) (S : List ByteArray), z = .slice so n cap ∧ Kept (n = S.length ∧ 1 ≤ n ∧ n ≤ 1000 ∧ Wd wx so S ∧ Below w.heap.size w wx))
  case first =>
    by_cases h : 1000 < n
    · have h' : (1000 : Int) < (n : Int) := by omega
      have hc : (1000 : Int) ≤ (cap : Int) := by have := HS.out.2.2.2.1; omega
      have h0 : (0 : Int) < (n : Int) := by omega
      obtain ⟨a, rfl, _⟩ := HS.out.2.2.2.2.1 0 (by rw [← HS.out.1]; omega)
      go_wp2_with fail
      go_meet
      case rel => exact ⟨some a, cap, 1000, S.take 1000, rfl, by rw [List.length_take, ← HS.out.1]; omega, by omega, by omega, HS.out.2.2.2.2.1.take 1000, HS.out.2.2.2.2.2⟩
    · have h' : ¬ (1000 : Int) < (n : Int) := by omega
      go_wp2_with fail
      go_meet
      case rel => exact ⟨so, cap, n, S, rfl, HS.out.1, HS.out.2.1, by omega, HS.out.2.2.2.2.1, HS.out.2.2.2.2.2⟩
  case rest =>
  clear HS
  obtain ⟨so, cap, n, S, rfl, HS⟩ := hcut
  go_wp2_with fail
  go_loopw [7] (fun v7 wr => ∃ j : Nat, j ≤ n ∧ v7 = .int .i64 (j : Nat) ∧ wr = wc ∧ ∀ s ∈ S.take j, s.size ≤ 1000) (fun v7 _ => n - (intOf v7).toNat)
  case atStart => exact ⟨0, Nat.zero_le _, rfl, rfl, by simp⟩
  case round =>
    obtain ⟨j, hj, rfl, hwr, hsm⟩ := hrel
    obtain rfl := hwr.symm
    clear hwr
    by_cases hlt : j < n
    · have hjS : j < S.length := by rw [← HS.out.1]; exact hlt
      obtain ⟨a, rfl, l1, l2, c1⟩ := HS.out.2.2.2.1 j hjS
      have htk : S.take (j + 1) = S.take j ++ [S[j]] := by rw [List.take_add_one, List.getElem?_eq_getElem hjS]; rfl
      obtain ⟨x, hx⟩ : ∃ x, x = S[j] := ⟨_, rfl⟩
      rw [← hx] at c1 htk l2
      have HTK := keep htk
      have HSM := keep hsm
      have hz : (j : Int) < (n : Int) := by omega
      have hz0 : (0 : Int) ≤ (j : Int) := by omega
      have hk1 : IntKind.i64.wrap ((j : Int) + 1) = ((j + 1 : Nat) : Int) := by have := HS.out.2.2.1; rw [IntKind.wrap_i64]; omega
      clear htk hx hsm l1 l2 hjS
      by_cases hb : 1000 < x.size
      · have hb' : (1000 : Int) < (x.size : Int) := by omega
        go_wp2_with fail
        rw [HP.out]
        exact ⟨rfl, HS.out.2.2.2.2⟩
      · have hb' : ¬ (1000 : Int) < (x.size : Int) := by omega
        have HX := keep hb
        clear hb
        go_wp2_with fail
        go_roundw
        case measure => simp [intOf]; omega
        case rel =>
          refine ⟨j + 1, by omega, by rfl, by first | trivial | rfl, fun s hs => ?_⟩
          rw [HTK.out] at hs
          rcases List.mem_append.1 hs with hs | hs
          · exact HSM.out s hs
          · rw [List.mem_singleton] at hs
            rw [hs]
            have := HX.out
            omega
    · obtain rfl : j = n := by omega
      have hz : ¬ (j : Int) < (j : Int) := by omega
      rw [List.take_of_length_le (by rw [← HS.out.1]; exact Nat.le_refl _)] at hsm
      have HSM := keep hsm
      clear hsm hj hlt
      cases S with
      | nil => exact absurd HS.out.2.1 (by rw [HS.out.1]; decide)
      | cons s0 r0 =>
        obtain ⟨a, rfl, l1, l2, c1⟩ := HS.out.2.2.2.1 0 (by simp)
        have ea : a.add 0 = a := if_pos rfl
        have c1' : wc.cell? a = some (.string s0) := by rw [ea] at c1; exact c1
        have hj0 : (0 : Int) < (j : Int) := by have := HS.out.2.1; omega
        have hlong := longW_few (S := s0 :: r0) (by rw [← HS.out.1]; exact HS.out.2.2.1) HSM.out
        have mT := keep (turned_any s0 mask wc (by have := HSM.out s0 (by simp); omega) HM0.out HM1.out)
        have HLA := keep l1
        have HLG := keep hlong
        have HWD := keep HS.out.2.2.2.1
        have HBW := keep HS.out.2.2.2.2
        have HJ := keep (And.intro HS.out.1 (And.intro HS.out.2.1 HS.out.2.2.1))
        have HWO := keep (HO.out.below HS.out.2.2.2.2)
        clear l1 l2 hlong HS
        go_wp2_with fail
        refine mT.out.mono ?_
        rintro _ w2 ⟨⟨t, rfl, ht1, ht2⟩, hb2⟩
        have HT1 := keep ht1
        have HT2 := keep ht2
        have HC2 := keep (Below.trans HBW.out (hb2.mono HBW.out.size))
        have HWD2 := keep (HWD.out.below hb2)
        have HWO2 := keep (HWO.out.below hb2)
        clear mT ht1 ht2 hb2 c1 c1' HWD HWO
        go_wp2_with fail
        have ks0 : Ks w2.heap.size (w2.alloc (.cells #[.string t] 9)) (.slice (some ⟨w2.heap.size, 0, none⟩) 1 1) [t] := Ks.lit [t] (heap_alloc_new _ _) (Nat.le_refl _) (by show 1 ≤ maxLen; unfold maxLen; decide)
        have KS0 := keep ks0
        clear ks0
        go_loopw [8, 9, 10] (fun v8 v9 v10 wr => ∃ (i : Nat) (r : List ByteArray), i ≤ j ∧ v9 = .int .i64 (i : Nat) ∧ Kept ((t :: r).length = i ∧ ∀ s ∈ t :: r, s.size ≤ 1000) ∧ Kept (Ks w2.heap.size wr v8 (t :: r)) ∧ Kept (Below w2.heap.size w2 wr)) (fun _ v9 _ _ => j - (intOf v9).toNat)
        case atStart => exact ⟨1, [], HJ.out.2.1, rfl, ⟨rfl, by intro s hs; rw [List.mem_singleton] at hs; rw [hs, HT1.out]; exact HSM.out s0 (by simp)⟩, KS0, (Below.refl _ _).alloc (Nat.le_refl _) _⟩
        case round =>
          obtain ⟨i, r, hi, rfl, KL, KS, KB⟩ := hrel
          by_cases hlt : i < j
          · have hij : (i : Int) < (j : Int) := by omega
            have hi0 : (0 : Int) ≤ (i : Int) := by omega
            have hwi : IntKind.i64.wrap ((i : Int) + 1) = ((i + 1 : Nat) : Int) := by have := HJ.out.2.2; rw [IntKind.wrap_i64]; omega
            have hb0 : w2.heap.size ≤ wr.heap.size := KB.out.size
            obtain ⟨ao, cc, hform⟩ := KS.out.form
            rw [KL.out.1] at hform
            subst hform
            have app : ∀ x : ByteArray, _ := fun x => app_tx x KS.out hb0 (by rw [KL.out.1]; have := HJ.out.2.2; omega) 28
            have APP := keep app
            clear app hb0
            by_cases ho : i < NO
            · have ho' : (i : Int) < (NO : Int) := by omega
              obtain ⟨a2, rfl, l1, l2, c2⟩ := (HWO2.out.below KB.out) i (by rw [HNO.out]; exact ho)
              obtain ⟨x, hx⟩ : ∃ x, x = O[i]'(by rw [HNO.out]; exact ho) := ⟨_, rfl⟩
              rw [← hx] at c2
              clear hx l1 l2
              by_cases hb : 1000 < x.size
              · have hb' : (1000 : Int) < (x.size : Int) := by omega
                have hb2 : ¬ (x.size : Int) ≤ 1000 := by omega
                obtain ⟨v', w', hrun, hks, hgr⟩ := APP.out (⟨#[111, 116, 104, 101, 114]⟩ : ByteArray)
                have hbw : Below w2.heap.size w2 w' := KB.out.trans (hgr.below KB.out.size KS.out.from)
                obtain ⟨ao', cc', hform'⟩ := hks.form
                have HKS := keep hks
                have HBW := keep hbw
                have HRUN := keep hrun
                clear hks hbw hrun hgr hform'
                go_wp2_with (first | (at_builtin; refine wpList_app_run rfl _ _ _ _ rfl _ _ _ rfl rfl HRUN.out ?_))
                go_roundw
                case measure => simp [intOf]; omega
                case rel =>
                  refine ⟨i + 1, r ++ [(⟨#[111, 116, 104, 101, 114]⟩ : ByteArray)], by omega, by rfl, ⟨by show (t :: (r ++ [(⟨#[111, 116, 104, 101, 114]⟩ : ByteArray)])).length = i + 1; rw [← List.cons_append, List.length_append, KL.out.1]; rfl, fun s hs => ?_⟩, HKS, HBW⟩
                  rw [← List.cons_append] at hs
                  rcases List.mem_append.1 hs with hs | hs
                  · exact KL.out.2 s hs
                  · rw [List.mem_singleton] at hs; rw [hs]; decide
              · have hb' : ¬ (1000 : Int) < (x.size : Int) := by omega
                have hb2 : (x.size : Int) ≤ 1000 := by omega
                have HX := keep hb
                clear hb
                obtain ⟨v', w', hrun, hks, hgr⟩ := APP.out x
                have hbw : Below w2.heap.size w2 w' := KB.out.trans (hgr.below KB.out.size KS.out.from)
                obtain ⟨ao', cc', hform'⟩ := hks.form
                have HKS := keep hks
                have HBW := keep hbw
                have HRUN := keep hrun
                clear hks hbw hrun hgr hform'
                go_wp2_with (first | (at_builtin; refine wpList_app_run rfl _ _ _ _ rfl _ _ _ rfl rfl HRUN.out ?_))
                go_roundw
                case measure => simp [intOf]; omega
                case rel =>
                  refine ⟨i + 1, r ++ [x], by omega, by rfl, ⟨by show (t :: (r ++ [x])).length = i + 1; rw [← List.cons_append, List.length_append, KL.out.1]; rfl, fun s hs => ?_⟩, HKS, HBW⟩
                  rw [← List.cons_append] at hs
                  rcases List.mem_append.1 hs with hs | hs
                  · exact KL.out.2 s hs
                  · rw [List.mem_singleton] at hs; rw [hs]; have := HX.out; omega
            · have ho' : ¬ (i : Int) < (NO : Int) := by omega
              obtain ⟨v', w', hrun, hks, hgr⟩ := APP.out (⟨#[111, 116, 104, 101, 114]⟩ : ByteArray)
              have hbw : Below w2.heap.size w2 w' := KB.out.trans (hgr.below KB.out.size KS.out.from)
              obtain ⟨ao', cc', hform'⟩ := hks.form
              have HKS := keep hks
              have HBW := keep hbw
              have HRUN := keep hrun
              clear hks hbw hrun hgr hform'
              go_wp2_with (first | (at_builtin; refine wpList_app_run rfl _ _ _ _ rfl _ _ _ rfl rfl HRUN.out ?_))
              go_roundw
              case measure => simp [intOf]; omega
              case rel =>
                refine ⟨i + 1, r ++ [(⟨#[111, 116, 104, 101, 114]⟩ : ByteArray)], by omega, by rfl, ⟨by show (t :: (r ++ [(⟨#[111, 116, 104, 101, 114]⟩ : ByteArray)])).length = i + 1; rw [← List.cons_append, List.length_append, KL.out.1]; rfl, fun s hs => ?_⟩, HKS, HBW⟩
                rw [← List.cons_append] at hs
                rcases List.mem_append.1 hs with hs | hs
                · exact KL.out.2 s hs
                · rw [List.mem_singleton] at hs; rw [hs]; decide
          · obtain rfl : i = j := by omega
            have hij : ¬ (i : Int) < (i : Int) := by omega
            have HB5 := keep (HC2.out.trans (KB.out.mono HC2.out.size))
            have HWD5 := keep (HWD2.out.below KB.out)
            clear hi hlt
            obtain ⟨ao, cc, hform⟩ := KS.out.form
            rw [KL.out.1] at hform
            subst hform
            have hL := KL.out.1
            have hlq : longW (t :: r) = false := longW_few (by rw [hL]; exact HJ.out.2.2) KL.out.2
            have hwl : Wd wr ao (t :: r) := KS.out.wd (fun s hs => Nat.le_trans (KL.out.2 s hs) (by unfold maxLen; decide))
            have hch := chk_like (s := s0) (r := r0) (t := t) (q := r) HLG.out hlq HT2.out (by rw [hL, HJ.out.1])
            have hkl := keys_like hch (by rw [hL, HJ.out.1])
            have mS := check_any (some a) cap (s0 :: r0) wr HWD5.out (by rw [← HJ.out.1]; unfold maxLen; have := HJ.out.2.2; omega)
            rw [← HJ.out.1] at mS
            have MS := keep mS
            have HWL := keep hwl
            have HCH := keep hch
            have HKL := keep hkl
            have HL5 := keep hL
            clear mS hwl hch hkl hlq hL
            go_wp2_with fail
            refine MS.out.mono ?_
            rintro _ w5 ⟨hE5, hb5⟩
            unfold ChkE at hE5
            obtain ⟨K, hK⟩ : ∃ K, K = chk (s0 :: r0) := ⟨_, rfl⟩
            rw [← hK] at hE5
            have HCK := keep hK
            obtain ⟨n5, ⟨ra, rf, rx, ry, rz⟩, c5⟩ := K
            rw [row_form] at hE5
            dsimp only at hE5
            subst hE5
            obtain ⟨A5, hA5⟩ : ∃ A, w5.alloc (.cells #[.string n5, .int .i64 ra, .int .i64 rf, .int .i64 rx, .int .i64 ry, .int .i64 rz] 23) = A := ⟨_, rfl⟩
            have g5 : A5.heap[w5.heap.size]? = some (.cells #[.string n5, .int .i64 ra, .int .i64 rf, .int .i64 rx, .int .i64 ry, .int .i64 rz] 23) := by rw [← hA5]; exact heap_alloc_new _ _
            have bA5 : Below wr.heap.size wr A5 := by rw [← hA5]; exact hb5.alloc hb5.size _
            have mL := check_any ao cc (t :: r) A5 (HWL.out.below bA5) (by rw [HL5.out]; unfold maxLen; have := HJ.out.2.2; omega)
            rw [HL5.out] at mL
            have ML := keep mL
            have G5 := keep g5
            have BA5 := keep bA5
            clear hb5 hK g5 bA5 mL
            go_wp2_with fail
            refine ML.out.mono ?_
            rintro _ w6 ⟨hE6, hb6⟩
            unfold ChkE at hE6
            rw [HCH.out, ← HCK.out, row_form] at hE6
            dsimp only at hE6
            subst hE6
            obtain ⟨A6, hA6⟩ : ∃ A, w6.alloc (.cells #[.string n5, .int .i64 ra, .int .i64 rf, .int .i64 rx, .int .i64 ry, .int .i64 rz] 23) = A := ⟨_, rfl⟩
            have g6 : A6.heap[w6.heap.size]? = some (.cells #[.string n5, .int .i64 ra, .int .i64 rf, .int .i64 rx, .int .i64 ry, .int .i64 rz] 23) := by rw [← hA6]; exact heap_alloc_new _ _
            have bA6 : Below A5.heap.size A5 A6 := by rw [← hA6]; exact hb6.alloc hb6.size _
            have bY6 : Below A6.heap.size A6 (A6.alloc (.cells #[.string ⟨#[103, 69, 116]⟩, .string ⟨#[107]⟩] 9)) := (Below.refl _ A6).alloc (Nat.le_refl _) _
            have mG := check_any (some ⟨A6.heap.size, 0, none⟩) 2 gEt (A6.alloc (.cells #[.string ⟨#[103, 69, 116]⟩, .string ⟨#[107]⟩] 9)) (row_wd (t := 9) (fr := (0, 0)) gEt (heap_alloc_new _ _) (by intro u hu; unfold maxLen; unfold gEt at hu; simp only [List.mem_cons, List.not_mem_nil, or_false] at hu; rcases hu with rfl | rfl <;> decide)) (by unfold maxLen; decide)
            have MG := keep mG
            have G6 := keep g6
            have BA6 := keep bA6
            have BY6 := keep bY6
            clear hb6 g6 bA6 mG bY6
            go_wp2_with fail
            refine MG.out.mono ?_
            rintro _ w7 ⟨hE7, hb7⟩
            unfold ChkE at hE7
            rw [gEt_chk, row_form] at hE7
            dsimp only at hE7
            subst hE7
            obtain ⟨A7, hA7⟩ : ∃ A, w7.alloc (.cells #[.string ⟨#[71, 69, 84]⟩, .int .i64 2, .int .i64 0, .int .i64 1, .int .i64 1, .int .i64 1] 23) = A := ⟨_, rfl⟩
            have g7 : A7.heap[w7.heap.size]? = some (.cells #[.string ⟨#[71, 69, 84]⟩, .int .i64 2, .int .i64 0, .int .i64 1, .int .i64 1, .int .i64 1] 23) := by rw [← hA7]; exact heap_alloc_new _ _
            have bA7 : Below A6.heap.size A6 A7 := by
              rw [← hA7]
              exact (BY6.out.trans (hb7.mono BY6.out.size)).alloc (Nat.le_trans BY6.out.size hb7.size) _
            have b57 : Below A5.heap.size A5 A7 := BA6.out.trans (bA7.mono BA6.out.size)
            have bR7 : Below wr.heap.size wr A7 := BA5.out.trans (b57.mono BA5.out.size)
            have g57 := (b57.block _ (Array.getElem?_eq_some_iff.1 G5.out).1).trans G5.out
            have g67 := (bA7.block _ (Array.getElem?_eq_some_iff.1 G6.out).1).trans G6.out
            obtain ⟨aw, ew, _, _, cw⟩ := (HWD5.out.below bR7) 0 (by simp)
            cases ew
            rw [ea] at cw
            obtain ⟨al, rfl, _, _, cl⟩ := (HWL.out.below bR7) 0 (by simp)
            have el : al.add 0 = al := if_pos rfl
            rw [el] at cl
            have hS : SS w5.heap.size w6.heap.size w7.heap.size a al n5 ra rf rx ry rz s0 t A7 := by
              refine ⟨⟨?_, ?_, ?_, ?_, ?_, ?_⟩, ⟨?_, ?_, ?_, ?_, ?_, ?_⟩, ?_, cw, cl⟩
              all_goals first
                | (rw [cell_of_row _ _ _ _ _ _ g57]; rfl)
                | (rw [cell_of_row _ _ _ _ _ _ g67]; rfl)
                | (rw [cell_of_row _ _ _ _ _ _ g7]; rfl)
            have HS7 := keep hS
            have BR7 := keep bR7
            have hng := noGuardV
            have hst := stoodV
            have hj1 : (0 : Int) < (i : Int) := hj0
            have hin0 : ¬ i = 0 := by have := HJ.out.2.1; omega
            have U1 := keep (fun W => upper_any s0 W (by have := HSM.out s0 (by simp); omega))
            have U2 := keep (fun W => upper_any t W (by have h1 := HSM.out s0 (by simp); have h2 := HT1.out; omega))
            rw [HT2.out] at U2
            have Q1 := keep (fun W (hb : Below wr.heap.size wr W) => keys_len (some a) cap (s0 :: r0) W _ (HWD5.out.below hb) (by rw [← HJ.out.1]; unfold maxLen; have := HJ.out.2.2; omega) rfl)
            rw [← HJ.out.1] at Q1
            have Q2 := keep (fun W (hb : Below wr.heap.size wr W) => keys_len (some al) cc (t :: r) W _ (HWL.out.below hb) (by rw [HL5.out]; unfold maxLen; have := HJ.out.2.2; omega) HKL.out)
            rw [HL5.out] at Q2
            obtain ⟨kl, hkl⟩ : ∃ kl, kl = (keysL (s0 :: r0)).length := ⟨_, rfl⟩
            rw [← hkl] at Q1 Q2
            obtain ⟨us, hus⟩ : ∃ us, us = Vb.up s0 := ⟨_, rfl⟩
            rw [← hus] at U1 U2
            clear g7 bA7 b57 bR7 g57 g67 cw cl hS hb7 hkl hus
            go_upto_region 21 with fail
            refine wp_region_held_drew (S := SS w5.heap.size w6.heap.size w7.heap.size a al n5 ra rf rx ry rz s0 t) (by kernel_rfl) (HS7.out.up (below_dr1 A7)) (fun hHeld => ?_)
            refine wpAnyH_take (i := 0) (oi := { dst := some 85, op := _, type := _, pos := _, after := _, guard := _ }) (v := (.agg #[.string n5, .int .i64 ra, .int .i64 rf, .int .i64 rx, .int .i64 ry, .int .i64 rz])) rfl (by kernel_rfl) (by kernel_rfl) (by kernel_rfl) (fun _ _ _ h => h) (Or.inl ⟨by rfl, ?hy1⟩) (by assumption) ?rest1
            case hy1 => (intro w hSw; obtain ⟨⟨a0,a1,a2,a3,a4,a5⟩,⟨c0,c1,c2,c3,c4,c5⟩,g0,e0,e1⟩ := hSw; first | (go_simp; done) | (go_simp; simp [*]; done) | (simp [*]; go_simp; done))
            try simp only [Act.put, List.setIfInBounds_toArray, List.set_cons_zero, List.set_cons_succ]
            refine wpAnyH_take (i := 1) (oi := { dst := some 86, op := _, type := _, pos := _, after := _, guard := _ }) (v := (.agg #[.string n5, .int .i64 ra, .int .i64 rf, .int .i64 rx, .int .i64 ry, .int .i64 rz])) rfl (by kernel_rfl) (by kernel_rfl) (by kernel_rfl) (fun _ _ _ h => h) (Or.inl ⟨by rfl, ?hy2⟩) (by assumption) ?rest2
            case hy2 => (intro w hSw; obtain ⟨⟨a0,a1,a2,a3,a4,a5⟩,⟨c0,c1,c2,c3,c4,c5⟩,g0,e0,e1⟩ := hSw; first | (go_simp; done) | (go_simp; simp [*]; done) | (simp [*]; go_simp; done))
            try simp only [Act.put, List.setIfInBounds_toArray, List.set_cons_zero, List.set_cons_succ]
            refine wpAnyH_take (i := 2) (oi := { dst := some 87, op := _, type := _, pos := _, after := _, guard := _ }) (v := (.bool true)) rfl (by kernel_rfl) (by kernel_rfl) (by kernel_rfl) (fun _ _ _ h => h) (Or.inl ⟨by rfl, ?hy3⟩) (by assumption) ?rest3
            case hy3 => (intro w hSw; obtain ⟨⟨a0,a1,a2,a3,a4,a5⟩,⟨c0,c1,c2,c3,c4,c5⟩,g0,e0,e1⟩ := hSw; first | (go_simp; done) | (go_simp; simp [*]; done) | (simp [*]; go_simp; done))
            try simp only [Act.put, List.setIfInBounds_toArray, List.set_cons_zero, List.set_cons_succ]
            refine wpAnyH_take (i := 3) (oi := { dst := some 88, op := _, type := _, pos := _, after := _, guard := _ }) (v := ?v4) rfl (by kernel_rfl) (by kernel_rfl) (by kernel_rfl) (fun _ _ _ h => h) (Or.inl ⟨by rfl, ?hy4⟩) (by assumption) ?rest4
            case hy4 => (intro w hSw; obtain ⟨⟨a0,a1,a2,a3,a4,a5⟩,⟨c0,c1,c2,c3,c4,c5⟩,g0,e0,e1⟩ := hSw; go_simp; try with_reducible rfl)
            try simp only [Act.put, List.setIfInBounds_toArray, List.set_cons_zero, List.set_cons_succ]
            refine wpAnyH_take (i := 4) (oi := { dst := some 89, op := _, type := _, pos := _, after := _, guard := _ }) (v := ?v5) rfl (by kernel_rfl) (by kernel_rfl) (by kernel_rfl) (fun _ _ _ h => h) (Or.inl ⟨by rfl, ?hy5⟩) (by assumption) ?rest5
            case hy5 => (intro w hSw; obtain ⟨⟨a0,a1,a2,a3,a4,a5⟩,⟨c0,c1,c2,c3,c4,c5⟩,g0,e0,e1⟩ := hSw; go_simp; try with_reducible rfl)
            try simp only [Act.put, List.setIfInBounds_toArray, List.set_cons_zero, List.set_cons_succ]
            refine wpAnyH_take (i := 5) (oi := { dst := some 90, op := _, type := _, pos := _, after := _, guard := _ }) (v := ?v6) rfl (by kernel_rfl) (by kernel_rfl) (by kernel_rfl) (fun _ _ _ h => h) (Or.inl ⟨by rfl, ?hy6⟩) (by assumption) ?rest6
            case hy6 => (intro w hSw; obtain ⟨⟨a0,a1,a2,a3,a4,a5⟩,⟨c0,c1,c2,c3,c4,c5⟩,g0,e0,e1⟩ := hSw; go_simp; try with_reducible rfl)
            try simp only [Act.put, List.setIfInBounds_toArray, List.set_cons_zero, List.set_cons_succ]
            refine wpAnyH_take (i := 6) (oi := { dst := some 91, op := _, type := _, pos := _, after := _, guard := _ }) (v := (.bool true)) rfl (by kernel_rfl) (by kernel_rfl) (by kernel_rfl) (fun _ _ _ h => h) (Or.inl ⟨by rfl, ?hy7⟩) (by assumption) ?rest7
            case hy7 => (intro w hSw; obtain ⟨⟨a0,a1,a2,a3,a4,a5⟩,⟨c0,c1,c2,c3,c4,c5⟩,g0,e0,e1⟩ := hSw; first | (go_simp; done) | (go_simp; simp [*]; done) | (simp [*]; go_simp; done))
            try simp only [Act.put, List.setIfInBounds_toArray, List.set_cons_zero, List.set_cons_succ]
            refine wpAnyH_take (i := 7) (oi := { dst := some 92, op := _, type := _, pos := _, after := _, guard := _ }) (v := (.bool true)) rfl (by kernel_rfl) (by kernel_rfl) (by kernel_rfl) (fun _ _ _ h => h) (Or.inl ⟨by rfl, ?hy8⟩) (by assumption) ?rest8
            case hy8 => (intro w hSw; obtain ⟨⟨a0,a1,a2,a3,a4,a5⟩,⟨c0,c1,c2,c3,c4,c5⟩,g0,e0,e1⟩ := hSw; first | (go_simp; done) | (go_simp; simp [*]; done) | (simp [*]; go_simp; done))
            try simp only [Act.put, List.setIfInBounds_toArray, List.set_cons_zero, List.set_cons_succ]
            refine wpAnyH_take (i := 8) (oi := { dst := some 93, op := _, type := _, pos := _, after := _, guard := _ }) (v := ?v9) rfl (by kernel_rfl) (by kernel_rfl) (by kernel_rfl) (fun _ _ _ h => h) (Or.inl ⟨by rfl, ?hy9⟩) (by assumption) ?rest9
            case hy9 => (intro w hSw; obtain ⟨⟨a0,a1,a2,a3,a4,a5⟩,⟨c0,c1,c2,c3,c4,c5⟩,g0,e0,e1⟩ := hSw; go_simp; try with_reducible rfl)
            try simp only [Act.put, List.setIfInBounds_toArray, List.set_cons_zero, List.set_cons_succ]
            refine wpAnyH_take (i := 9) (oi := { dst := some 94, op := _, type := _, pos := _, after := _, guard := _ }) (v := ?v10) rfl (by kernel_rfl) (by kernel_rfl) (by kernel_rfl) (fun _ _ _ h => h) (Or.inl ⟨by rfl, ?hy10⟩) (by assumption) ?rest10
            case hy10 => (intro w hSw; obtain ⟨⟨a0,a1,a2,a3,a4,a5⟩,⟨c0,c1,c2,c3,c4,c5⟩,g0,e0,e1⟩ := hSw; go_simp; try with_reducible rfl)
            try simp only [Act.put, List.setIfInBounds_toArray, List.set_cons_zero, List.set_cons_succ]
            refine wpAnyH_take (i := 10) (oi := { dst := some 95, op := _, type := _, pos := _, after := _, guard := _ }) (v := (.pointer (some a))) rfl (by kernel_rfl) (by kernel_rfl) (by kernel_rfl) (fun _ _ _ h => h) (Or.inl ⟨by rfl, ?hy11⟩) (by assumption) ?rest11
            case hy11 => (intro w hSw; obtain ⟨⟨a0,a1,a2,a3,a4,a5⟩,⟨c0,c1,c2,c3,c4,c5⟩,g0,e0,e1⟩ := hSw; first | (go_simp; done) | (go_simp; simp [*]; done) | (simp [*]; go_simp; done))
            try simp only [Act.put, List.setIfInBounds_toArray, List.set_cons_zero, List.set_cons_succ]
            refine wpAnyH_take (i := 11) (oi := { dst := some 96, op := _, type := _, pos := _, after := _, guard := _ }) (v := (.string s0)) rfl (by kernel_rfl) (by kernel_rfl) (by kernel_rfl) (fun _ _ _ h => h) (Or.inl ⟨by rfl, ?hy12⟩) (by assumption) ?rest12
            case hy12 => (intro w hSw; obtain ⟨⟨a0,a1,a2,a3,a4,a5⟩,⟨c0,c1,c2,c3,c4,c5⟩,g0,e0,e1⟩ := hSw; first | (go_simp; done) | (go_simp; simp [*]; done) | (simp [*]; go_simp; done))
            try simp only [Act.put, List.setIfInBounds_toArray, List.set_cons_zero, List.set_cons_succ]
            refine wpAnyH_take (i := 13) (oi := { dst := some 98, op := _, type := _, pos := _, after := _, guard := _ }) (v := ?v13) rfl (by kernel_rfl) (by kernel_rfl) (by kernel_rfl) (fun _ _ _ h => h) (Or.inl ⟨by rfl, ?hy13⟩) (by assumption) ?rest13
            case hy13 => (intro w hSw; obtain ⟨⟨a0,a1,a2,a3,a4,a5⟩,⟨c0,c1,c2,c3,c4,c5⟩,g0,e0,e1⟩ := hSw; go_simp; try with_reducible rfl)
            try simp only [Act.put, List.setIfInBounds_toArray, List.set_cons_zero, List.set_cons_succ]
            refine wpAnyH_take (i := 14) (oi := { dst := some 99, op := _, type := _, pos := _, after := _, guard := _ }) (v := (.pointer (some al))) rfl (by kernel_rfl) (by kernel_rfl) (by kernel_rfl) (fun _ _ _ h => h) (Or.inl ⟨by rfl, ?hy14⟩) (by assumption) ?rest14
            case hy14 => (intro w hSw; obtain ⟨⟨a0,a1,a2,a3,a4,a5⟩,⟨c0,c1,c2,c3,c4,c5⟩,g0,e0,e1⟩ := hSw; first | (go_simp; done) | (go_simp; simp [*]; done) | (simp [*]; go_simp; done))
            try simp only [Act.put, List.setIfInBounds_toArray, List.set_cons_zero, List.set_cons_succ]
            refine wpAnyH_take (i := 15) (oi := { dst := some 100, op := _, type := _, pos := _, after := _, guard := _ }) (v := (.string t)) rfl (by kernel_rfl) (by kernel_rfl) (by kernel_rfl) (fun _ _ _ h => h) (Or.inl ⟨by rfl, ?hy15⟩) (by assumption) ?rest15
            case hy15 => (intro w hSw; obtain ⟨⟨a0,a1,a2,a3,a4,a5⟩,⟨c0,c1,c2,c3,c4,c5⟩,g0,e0,e1⟩ := hSw; first | (go_simp; done) | (go_simp; simp [*]; done) | (simp [*]; go_simp; done))
            try simp only [Act.put, List.setIfInBounds_toArray, List.set_cons_zero, List.set_cons_succ]
            refine wpAnyH_ready (rs := [12]) (by kernel_rfl) (by simp) ?_
            refine AllReadyH.cons (o := { dst := some 97, op := _, type := _, pos := _, after := _, guard := _ }) rfl (fun K hK => ?_) AllReadyH.nil
            go_simp
            refine (U1.out _).mono ?_
            rintro _ x1 ⟨rfl, y1⟩
            have z1 : Below wr.heap.size wr x1 := (BR7.out.trans ((below_dr1 A7).mono BR7.out.size)).trans (y1.mono (Nat.le_trans BR7.out.size (below_dr1 A7).size))
            have Z1 := keep z1
            refine hK.out _ _ (hHeld.up y1) (fun hHeld => ?_)
            try simp only [Act.put, List.setIfInBounds_toArray, List.set_cons_zero, List.set_cons_succ]
            clear hK y1 z1
            refine wpAnyH_ready (rs := [16]) (by kernel_rfl) (by simp) ?_
            refine AllReadyH.cons (o := { dst := some 101, op := _, type := _, pos := _, after := _, guard := _ }) rfl (fun K hK => ?_) AllReadyH.nil
            go_simp
            refine (U2.out _).mono ?_
            rintro _ x2 ⟨rfl, y2⟩
            have z2 : Below wr.heap.size wr x2 := Below.trans Z1.out (y2.mono Z1.out.size)
            have Z2 := keep z2
            refine hK.out _ _ (hHeld.up y2) (fun hHeld => ?_)
            try simp only [Act.put, List.setIfInBounds_toArray, List.set_cons_zero, List.set_cons_succ]
            clear hK y2 z2
            refine wpAnyH_take (i := 17) (oi := { dst := some 102, op := _, type := _, pos := _, after := _, guard := _ }) (v := (.bool true)) rfl (by kernel_rfl) (by kernel_rfl) (by kernel_rfl) (fun _ _ _ h => h) (Or.inl ⟨by rfl, ?hy16⟩) (by assumption) ?rest16
            case hy16 => (intro w hSw; obtain ⟨⟨a0,a1,a2,a3,a4,a5⟩,⟨c0,c1,c2,c3,c4,c5⟩,g0,e0,e1⟩ := hSw; first | (go_simp; done) | (go_simp; simp [*]; done) | (simp [*]; go_simp; done))
            try simp only [Act.put, List.setIfInBounds_toArray, List.set_cons_zero, List.set_cons_succ]
            refine wpAnyH_take (i := 18) (oi := { dst := some 103, op := _, type := _, pos := _, after := _, guard := _ }) (v := (.bool true)) rfl (by kernel_rfl) (by kernel_rfl) (by kernel_rfl) (fun _ _ _ h => h) (Or.inl ⟨by rfl, ?hy17⟩) (by assumption) ?rest17
            case hy17 => (intro w hSw; obtain ⟨⟨a0,a1,a2,a3,a4,a5⟩,⟨c0,c1,c2,c3,c4,c5⟩,g0,e0,e1⟩ := hSw; first | (go_simp; done) | (go_simp; simp [*]; done) | (simp [*]; go_simp; done))
            try simp only [Act.put, List.setIfInBounds_toArray, List.set_cons_zero, List.set_cons_succ]
            refine wpAnyH_take (i := 19) (oi := { dst := some 104, op := _, type := _, pos := _, after := _, guard := _ }) (v := (.bool true)) rfl (by kernel_rfl) (by kernel_rfl) (by kernel_rfl) (fun _ _ _ h => h) (Or.inl ⟨by rfl, ?hy18⟩) (by assumption) ?rest18
            case hy18 => (intro w hSw; obtain ⟨⟨a0,a1,a2,a3,a4,a5⟩,⟨c0,c1,c2,c3,c4,c5⟩,g0,e0,e1⟩ := hSw; first | (go_simp; done) | (go_simp; simp [*]; done) | (simp [*]; go_simp; done))
            try simp only [Act.put, List.setIfInBounds_toArray, List.set_cons_zero, List.set_cons_succ]
            refine wpAnyH_take (i := 20) (oi := { dst := some 105, op := _, type := _, pos := _, after := _, guard := _ }) (v := ?v19) rfl (by kernel_rfl) (by kernel_rfl) (by kernel_rfl) (fun _ _ _ h => h) (Or.inl ⟨by rfl, ?hy19⟩) (by assumption) ?rest19
            case hy19 => (intro w hSw; obtain ⟨⟨a0,a1,a2,a3,a4,a5⟩,⟨c0,c1,c2,c3,c4,c5⟩,g0,e0,e1⟩ := hSw; go_simp; try with_reducible rfl)
            try simp only [Act.put, List.setIfInBounds_toArray, List.set_cons_zero, List.set_cons_succ]
            refine wpAnyH_take (i := 23) (oi := { dst := some 108, op := _, type := _, pos := _, after := _, guard := _ }) (v := ?v20) rfl (by kernel_rfl) (by kernel_rfl) (by kernel_rfl) (fun _ _ _ h => h) (Or.inl ⟨by rfl, ?hy20⟩) (by assumption) ?rest20
            case hy20 => (intro w hSw; obtain ⟨⟨a0,a1,a2,a3,a4,a5⟩,⟨c0,c1,c2,c3,c4,c5⟩,g0,e0,e1⟩ := hSw; go_simp; try with_reducible rfl)
            try simp only [Act.put, List.setIfInBounds_toArray, List.set_cons_zero, List.set_cons_succ]
            refine wpAnyH_ready (rs := [21]) (by kernel_rfl) (by simp) ?_
            refine AllReadyH.cons (o := { dst := some 106, op := _, type := _, pos := _, after := _, guard := _ }) rfl (fun K hK => ?_) AllReadyH.nil
            go_simp
            refine (Q1.out _ Z2.out).mono ?_
            rintro _ x3 ⟨⟨ao3, cc3, rfl⟩, y3⟩
            have z3 : Below wr.heap.size wr x3 := Below.trans Z2.out (y3.mono Z2.out.size)
            have Z3 := keep z3
            refine hK.out _ _ (hHeld.up y3) (fun hHeld => ?_)
            try simp only [Act.put, List.setIfInBounds_toArray, List.set_cons_zero, List.set_cons_succ]
            clear hK y3 z3
            refine wpAnyH_take (i := 22) (oi := { dst := some 107, op := _, type := _, pos := _, after := _, guard := _ }) (v := (.int .i64 kl)) rfl (by kernel_rfl) (by kernel_rfl) (by kernel_rfl) (fun _ _ _ h => h) (Or.inl ⟨by rfl, ?hy21⟩) (by assumption) ?rest21
            case hy21 => (intro w hSw; obtain ⟨⟨a0,a1,a2,a3,a4,a5⟩,⟨c0,c1,c2,c3,c4,c5⟩,g0,e0,e1⟩ := hSw; first | (go_simp; done) | (go_simp; simp [*]; done) | (simp [*]; go_simp; done))
            try simp only [Act.put, List.setIfInBounds_toArray, List.set_cons_zero, List.set_cons_succ]
            refine wpAnyH_ready (rs := [24]) (by kernel_rfl) (by simp) ?_
            refine AllReadyH.cons (o := { dst := some 109, op := _, type := _, pos := _, after := _, guard := _ }) rfl (fun K hK => ?_) AllReadyH.nil
            go_simp
            refine (Q2.out _ Z3.out).mono ?_
            rintro _ x4 ⟨⟨ao4, cc4, rfl⟩, y4⟩
            have z4 : Below wr.heap.size wr x4 := Below.trans Z3.out (y4.mono Z3.out.size)
            have Z4 := keep z4
            refine hK.out _ _ (hHeld.up y4) (fun hHeld => ?_)
            try simp only [Act.put, List.setIfInBounds_toArray, List.set_cons_zero, List.set_cons_succ]
            clear hK y4 z4
            refine wpAnyH_take (i := 25) (oi := { dst := some 110, op := _, type := _, pos := _, after := _, guard := _ }) (v := (.int .i64 kl)) rfl (by kernel_rfl) (by kernel_rfl) (by kernel_rfl) (fun _ _ _ h => h) (Or.inl ⟨by rfl, ?hy22⟩) (by assumption) ?rest22
            case hy22 => (intro w hSw; obtain ⟨⟨a0,a1,a2,a3,a4,a5⟩,⟨c0,c1,c2,c3,c4,c5⟩,g0,e0,e1⟩ := hSw; first | (go_simp; done) | (go_simp; simp [*]; done) | (simp [*]; go_simp; done))
            try simp only [Act.put, List.setIfInBounds_toArray, List.set_cons_zero, List.set_cons_succ]
            refine wpAnyH_take (i := 26) (oi := { dst := some 111, op := _, type := _, pos := _, after := _, guard := _ }) (v := (.bool true)) rfl (by kernel_rfl) (by kernel_rfl) (by kernel_rfl) (fun _ _ _ h => h) (Or.inl ⟨by rfl, ?hy23⟩) (by assumption) ?rest23
            case hy23 => (intro w hSw; obtain ⟨⟨a0,a1,a2,a3,a4,a5⟩,⟨c0,c1,c2,c3,c4,c5⟩,g0,e0,e1⟩ := hSw; first | (go_simp; done) | (go_simp; simp [*]; done) | (simp [*]; go_simp; done))
            try simp only [Act.put, List.setIfInBounds_toArray, List.set_cons_zero, List.set_cons_succ]
            refine wpAnyH_take (i := 27) (oi := { dst := some 112, op := _, type := _, pos := _, after := _, guard := _ }) (v := (.bool true)) rfl (by kernel_rfl) (by kernel_rfl) (by kernel_rfl) (fun _ _ _ h => h) (Or.inl ⟨by rfl, ?hy24⟩) (by assumption) ?rest24
            case hy24 => (intro w hSw; obtain ⟨⟨a0,a1,a2,a3,a4,a5⟩,⟨c0,c1,c2,c3,c4,c5⟩,g0,e0,e1⟩ := hSw; first | (go_simp; done) | (go_simp; simp [*]; done) | (simp [*]; go_simp; done))
            try simp only [Act.put, List.setIfInBounds_toArray, List.set_cons_zero, List.set_cons_succ]
            refine wpAnyH_take (i := 28) (oi := { dst := some 113, op := _, type := _, pos := _, after := _, guard := _ }) (v := (.bool true)) rfl (by kernel_rfl) (by kernel_rfl) (by kernel_rfl) (fun _ _ _ h => h) (Or.inl ⟨by rfl, ?hy25⟩) (by assumption) ?rest25
            case hy25 => (intro w hSw; obtain ⟨⟨a0,a1,a2,a3,a4,a5⟩,⟨c0,c1,c2,c3,c4,c5⟩,g0,e0,e1⟩ := hSw; first | (go_simp; done) | (go_simp; simp [*]; done) | (simp [*]; go_simp; done))
            try simp only [Act.put, List.setIfInBounds_toArray, List.set_cons_zero, List.set_cons_succ]
            refine wpAnyH_take (i := 29) (oi := { dst := some 114, op := _, type := _, pos := _, after := _, guard := _ }) (v := ?v26) rfl (by kernel_rfl) (by kernel_rfl) (by kernel_rfl) (fun _ _ _ h => h) (Or.inl ⟨by rfl, ?hy26⟩) (by assumption) ?rest26
            case hy26 => (intro w hSw; obtain ⟨⟨a0,a1,a2,a3,a4,a5⟩,⟨c0,c1,c2,c3,c4,c5⟩,g0,e0,e1⟩ := hSw; go_simp; try with_reducible rfl)
            try simp only [Act.put, List.setIfInBounds_toArray, List.set_cons_zero, List.set_cons_succ]
            refine wpAnyH_take (i := 30) (oi := { dst := some 115, op := _, type := _, pos := _, after := _, guard := _ }) (v := (.bool true)) rfl (by kernel_rfl) (by kernel_rfl) (by kernel_rfl) (fun _ _ _ h => h) (Or.inl ⟨by rfl, ?hy27⟩) (by assumption) ?rest27
            case hy27 => (intro w hSw; obtain ⟨⟨a0,a1,a2,a3,a4,a5⟩,⟨c0,c1,c2,c3,c4,c5⟩,g0,e0,e1⟩ := hSw; first | (go_simp; done) | (go_simp; simp [*]; done) | (simp [*]; go_simp; done))
            try simp only [Act.put, List.setIfInBounds_toArray, List.set_cons_zero, List.set_cons_succ]
            refine wpAnyH_take (i := 31) (oi := { dst := some 116, op := _, type := _, pos := _, after := _, guard := _ }) (v := (.bool true)) rfl (by kernel_rfl) (by kernel_rfl) (by kernel_rfl) (fun _ _ _ h => h) (Or.inl ⟨by rfl, ?hy28⟩) (by assumption) ?rest28
            case hy28 => (intro w hSw; obtain ⟨⟨a0,a1,a2,a3,a4,a5⟩,⟨c0,c1,c2,c3,c4,c5⟩,g0,e0,e1⟩ := hSw; first | (go_simp; done) | (go_simp; simp [*]; done) | (simp [*]; go_simp; done))
            try simp only [Act.put, List.setIfInBounds_toArray, List.set_cons_zero, List.set_cons_succ]
            refine wpAnyH_take (i := 32) (oi := { dst := some 117, op := _, type := _, pos := _, after := _, guard := _ }) (v := (.bool true)) rfl (by kernel_rfl) (by kernel_rfl) (by kernel_rfl) (fun _ _ _ h => h) (Or.inl ⟨by rfl, ?hy29⟩) (by assumption) ?rest29
            case hy29 => (intro w hSw; obtain ⟨⟨a0,a1,a2,a3,a4,a5⟩,⟨c0,c1,c2,c3,c4,c5⟩,g0,e0,e1⟩ := hSw; first | (go_simp; done) | (go_simp; simp [*]; done) | (simp [*]; go_simp; done))
            try simp only [Act.put, List.setIfInBounds_toArray, List.set_cons_zero, List.set_cons_succ]
            refine wpAnyH_take (i := 33) (oi := { dst := some 118, op := _, type := _, pos := _, after := _, guard := _ }) (v := ?v30) rfl (by kernel_rfl) (by kernel_rfl) (by kernel_rfl) (fun _ _ _ h => h) (Or.inl ⟨by rfl, ?hy30⟩) (by assumption) ?rest30
            case hy30 => (intro w hSw; obtain ⟨⟨a0,a1,a2,a3,a4,a5⟩,⟨c0,c1,c2,c3,c4,c5⟩,g0,e0,e1⟩ := hSw; go_simp; try with_reducible rfl)
            try simp only [Act.put, List.setIfInBounds_toArray, List.set_cons_zero, List.set_cons_succ]
            refine wpAnyH_take (i := 34) (oi := { dst := some 119, op := _, type := _, pos := _, after := _, guard := _ }) (v := (.string ⟨#[71, 69, 84]⟩)) rfl (by kernel_rfl) (by kernel_rfl) (by kernel_rfl) (fun _ _ _ h => h) (Or.inl ⟨by rfl, ?hy31⟩) (by assumption) ?rest31
            case hy31 => (intro w hSw; obtain ⟨⟨a0,a1,a2,a3,a4,a5⟩,⟨c0,c1,c2,c3,c4,c5⟩,g0,e0,e1⟩ := hSw; first | (go_simp; done) | (go_simp; simp [*]; done) | (simp [*]; go_simp; done))
            try simp only [Act.put, List.setIfInBounds_toArray, List.set_cons_zero, List.set_cons_succ]
            refine wpAnyH_take (i := 35) (oi := { dst := some 120, op := _, type := _, pos := _, after := _, guard := _ }) (v := (.bool true)) rfl (by kernel_rfl) (by kernel_rfl) (by kernel_rfl) (fun _ _ _ h => h) (Or.inl ⟨by rfl, ?hy32⟩) (by assumption) ?rest32
            case hy32 => (intro w hSw; obtain ⟨⟨a0,a1,a2,a3,a4,a5⟩,⟨c0,c1,c2,c3,c4,c5⟩,g0,e0,e1⟩ := hSw; first | (go_simp; done) | (go_simp; simp [*]; done) | (simp [*]; go_simp; done))
            try simp only [Act.put, List.setIfInBounds_toArray, List.set_cons_zero, List.set_cons_succ]
            refine wpAnyH_take (i := 36) (oi := { dst := some 121, op := _, type := _, pos := _, after := _, guard := _ }) (v := (.bool true)) rfl (by kernel_rfl) (by kernel_rfl) (by kernel_rfl) (fun _ _ _ h => h) (Or.inl ⟨by rfl, ?hy33⟩) (by assumption) ?rest33
            case hy33 => (intro w hSw; obtain ⟨⟨a0,a1,a2,a3,a4,a5⟩,⟨c0,c1,c2,c3,c4,c5⟩,g0,e0,e1⟩ := hSw; first | (go_simp; done) | (go_simp; simp [*]; done) | (simp [*]; go_simp; done))
            try simp only [Act.put, List.setIfInBounds_toArray, List.set_cons_zero, List.set_cons_succ]
            refine wpAnyH_take (i := 37) (oi := { dst := some 6, op := _, type := _, pos := _, after := _, guard := _ }) (v := (.bool true)) rfl (by kernel_rfl) (by kernel_rfl) (by kernel_rfl) (fun _ _ _ h => h) (Or.inl ⟨by rfl, ?hy34⟩) (by assumption) ?rest34
            case hy34 => (intro w hSw; obtain ⟨⟨a0,a1,a2,a3,a4,a5⟩,⟨c0,c1,c2,c3,c4,c5⟩,g0,e0,e1⟩ := hSw; first | (go_simp; done) | (go_simp; simp [*]; done) | (simp [*]; go_simp; done))
            try simp only [Act.put, List.setIfInBounds_toArray, List.set_cons_zero, List.set_cons_succ]
            refine wpAnyH_done (by kernel_rfl) ?_ _
            clear hHeld
            go_wp2_with fail
            rw [HP.out]
            exact ⟨rfl, Below.trans HB5.out (Z4.out.mono HB5.out.size)⟩
end Go.Proofs.YtaflggjgndkdlaaDoor
