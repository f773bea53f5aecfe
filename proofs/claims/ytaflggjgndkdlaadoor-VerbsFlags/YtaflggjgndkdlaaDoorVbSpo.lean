/-
  Contracts over this program: the statements' own same and spoil.
-/
import Derived.Test.YtaflggjgndkdlaaDoorVbWords
namespace Go.Proofs.YtaflggjgndkdlaaDoor
open Go.RowKit
set_option linter.unusedVariables false
set_option maxRecDepth 100000 in
set_option maxHeartbeats 1000000 in
theorem same_eq (so to : Option Addr) (cap tcap : Nat) (A : List ByteArray) (w : World) (hA : Wd w so A) (hB : Wd w to A) (hl : A.length ≤ maxLen) :
    Calls Tryd.prog 17 #[.slice so A.length cap, .slice to A.length tcap] w fun e w' => e = .returned (.bool true) ∧ Below w.heap.size w w' := by
  obtain ⟨N, hN⟩ : ∃ N, A.length = N := ⟨_, rfl⟩
  have h63 : (N : Int) ≤ 9223372036854775807 := by rw [hN] at hl; unfold maxLen at hl; omega
  rw [hN]
  have HA := keep hA
  have HB := keep hB
  have HN := keep hN
  have H63 := keep h63
  clear hA hB hN hl h63
  go_enter Tryd.func17, Tryd.ntmps17
  go_wp2_with fail
  go_loopw [5] (fun v5 wr => ∃ k : Nat, k ≤ N ∧ v5 = .int .i64 (k : Nat) ∧ Kept (Below w.heap.size w wr)) (fun v5 _ => N - (intOf v5).toNat)
  case atStart => exact ⟨0, Nat.zero_le _, rfl, Below.refl _ _⟩
  case round =>
    obtain ⟨k, hk, rfl, KB⟩ := hrel
    by_cases hlt : k < N
    · have hz : (k : Int) < (N : Int) := by omega
      have hz0 : (0 : Int) ≤ (k : Int) := by omega
      have hwk : IntKind.i64.wrap ((k : Int) + 1) = ((k + 1 : Nat) : Int) := by have := H63.out; rw [IntKind.wrap_i64]; omega
      obtain ⟨a, rfl, _, _, c1⟩ := (HA.out.below KB.out) k (by rw [HN.out]; exact hlt)
      obtain ⟨b, rfl, _, _, c2⟩ := (HB.out.below KB.out) k (by rw [HN.out]; exact hlt)
      obtain ⟨x, hx⟩ : ∃ x, x = A[k]'(by rw [HN.out]; exact hlt) := ⟨_, rfl⟩
      rw [← hx] at c1 c2
      clear hx
      go_wp2_with fail
      go_region
      go_wp2
      go_roundw
      case measure => simp [intOf]; omega
      case rel => exact ⟨k + 1, by omega, by rfl, KB.out.drew⟩
    · have hz : ¬ (k : Int) < (N : Int) := by omega
      go_wp2_with fail
      go_ret
      exact ⟨rfl, KB.out⟩
set_option maxRecDepth 100000 in
set_option maxHeartbeats 2000000 in
theorem spoil_any (B : Nat) (v : Value) (L : List ByteArray) (w : World) (hK : Ks B w v L) (hB : B ≤ w.heap.size) (hl : L.length ≤ 2000000) :
    Calls Tryd.prog 18 #[v] w fun e w' => e = .returned (.tuple #[]) ∧ Below B w w' ∧ ∀ b, b < w.heap.size → v.ownBlock ≠ some b → w'.heap[b]? = w.heap[b]? := by
  obtain ⟨PP, hPP⟩ : ∃ PP : Ending → World → Prop, PP = fun e w' => e = .returned (.tuple #[]) ∧ Below B w w' ∧ ∀ b, b < w.heap.size → v.ownBlock ≠ some b → w'.heap[b]? = w.heap[b]? := ⟨_, rfl⟩
  rw [← hPP]
  have HP := keep hPP
  clear hPP
  obtain ⟨ao, c, rfl⟩ := hK.form
  obtain ⟨N, hN⟩ : ∃ N, L.length = N := ⟨_, rfl⟩
  rw [hN] at hK HP hl ⊢
  have HK := keep hK
  have HB := keep hB
  have HN := keep hN
  have HL := keep hl
  clear hK hB hN hl
  go_enter Tryd.func18, Tryd.ntmps18
  go_wp2_with fail
  go_loopw [2] (fun v2 wr => ∃ (k : Nat) (M : List ByteArray), k ≤ N ∧ v2 = .int .i64 (k : Nat) ∧ Kept (M.length = N) ∧ Kept (Ks B wr (.slice ao N c) M) ∧ Kept (Below B w wr) ∧ Kept (∀ b, b < w.heap.size → (Value.slice ao N c).ownBlock ≠ some b → wr.heap[b]? = w.heap[b]?)) (fun v2 _ => N - (intOf v2).toNat)
  case atStart => exact ⟨0, L, Nat.zero_le _, rfl, HN, HK, Below.refl _ _, fun b _ _ => rfl⟩
  case round =>
    obtain ⟨k, M, hk, rfl, KM, KS, KB, KF⟩ := hrel
    by_cases hlt : k < N
    · have hz : (k : Int) < (N : Int) := by omega
      have hz0 : (0 : Int) ≤ (k : Int) := by omega
      have hwk : IntKind.i64.wrap ((k : Int) + 1) = ((k + 1 : Nat) : Int) := by have := HL.out; rw [IntKind.wrap_i64]; omega
      obtain ⟨g, rfl⟩ : ∃ g, ao = some ⟨g, 0, none⟩ := by
        rcases KS.out.2 with ⟨_, hn⟩ | ⟨g, cap, cur, e, _⟩
        · have := KM.out; omega
        · cases e; exact ⟨g, rfl⟩
      obtain ⟨q1, ⟨u, q2⟩, q3⟩ := KS.out.set k ⟨#[63, 33]⟩ (by rw [KM.out]; exact hlt)
      have hBg : B ≤ g := KS.out.from g rfl
      have Q1 := keep q1
      have HBG := keep hBg
      clear q1 hBg
      go_wp2_with fail
      go_roundw
      case measure => simp [intOf]; omega
      case rel => exact ⟨k + 1, M.set k ⟨#[63, 33]⟩, by omega, by rfl, by rw [List.length_set]; exact KM, Q1, KB.out.setCell HBG.out _, fun b h1 h2 => (heap_setCell_other wr ⟨g, k, none⟩ b _ (fun e => h2 (congrArg some e.symm))).trans (KF.out b h1 h2)⟩
    · obtain rfl : k = N := by omega
      have hz : ¬ (k : Int) < (k : Int) := by omega
      have hform := KS.out.form
      go_wp2_with fail
      go_loopw [0, 3] (fun v0 v3 wx => ∃ (j : Nat) (M : List ByteArray), j ≤ 40 ∧ v3 = .int .i64 (j : Nat) ∧ Kept (M.length = k + j) ∧ Kept (Ks B wx v0 M) ∧ Kept (Below B w wx) ∧ Kept (∀ b, b < w.heap.size → (Value.slice ao k c).ownBlock ≠ some b → wx.heap[b]? = w.heap[b]? ∧ Far v0 wx b)) (fun _ v3 _ => 40 - (intOf v3).toNat)
      case atStart => exact ⟨0, M, Nat.zero_le _, rfl, KM, KS, KB, fun b h1 h2 => ⟨KF.out b h1 h2, Nat.lt_of_lt_of_le h1 KB.out.size, h2⟩⟩
      case round =>
        obtain ⟨j, M2, hj, rfl, KM2, KS2, KB2, KF2⟩ := hrel
        by_cases hlt2 : j < 40
        · have hz2 : (j : Int) < 40 := by omega
          have hwj : IntKind.i64.wrap ((j : Int) + 1) = ((j + 1 : Nat) : Int) := by rw [IntKind.wrap_i64]; omega
          have hb0 : B ≤ wr.heap.size := Nat.le_trans HB.out KB2.out.size
          obtain ⟨v', w', hrun, hks, hgr⟩ := app_tx ⟨#[33, 63]⟩ KS2.out hb0 (by rw [KM2.out]; have := HL.out; omega) 28
          have hbw : Below B w w' := KB2.out.trans (hgr.below hb0 KS2.out.from)
          have hfr : Kept (∀ b, b < w.heap.size → (Value.slice ao k c).ownBlock ≠ some b → w'.heap[b]? = w.heap[b]? ∧ Far v' w' b) := fun b h1 h2 => ⟨(hgr.same (KF2.out b h1 h2).2).trans (KF2.out b h1 h2).1, hgr.far (KF2.out b h1 h2).2⟩
          have HKS := keep hks
          have HBW := keep hbw
          have HRUN := keep hrun
          have HLT := keep hlt2
          clear hks hbw hrun hgr hb0 hlt2 hform
          go_wp2_with (first | (at_builtin; refine wpList_app_run rfl _ _ _ _ rfl _ _ _ rfl rfl HRUN.out ?_))
          go_roundw
          case measure => simp [intOf]; omega
          case rel => exact ⟨j + 1, M2 ++ [⟨#[33, 63]⟩], HLT.out, by rfl, by show _ = _; rw [List.length_append, KM2.out]; rfl, HKS, HBW, hfr⟩
        · have hz2 : ¬ (j : Int) < 40 := by omega
          clear hform
          go_wp2_with fail
          refine bodyPost_end (results_none rfl _ _ _) rfl ?_
          rw [HP.out]
          exact ⟨rfl, KB2.out, fun b h1 h2 => (KF2.out b h1 h2).1⟩
end Go.Proofs.YtaflggjgndkdlaaDoor
