/-
  Contracts over this program: verbs.Keys at any words.
-/
import Derived.Test.YtaflggjgndkdlaaDoorVbRow
namespace Go.Proofs.YtaflggjgndkdlaaDoor
open Go.RowKit
set_option linter.unusedVariables false
/-- the last place of a row's keys among n words -/
def lastK (n : Nat) (r : Vb.Row) : Int := if r.2.2.2.1 < 0 then r.2.2.2.1 + n else r.2.2.2.1
def cntK (n : Nat) (r : Vb.Row) : Nat := (lastK n r).toNat.pred / r.2.2.2.2.toNat + 1
def keysR (S : List ByteArray) (r : Vb.Row) : List ByteArray := (List.range (cntK S.length r)).map fun k => S.getD (1 + k * r.2.2.2.2.toNat) ByteArray.empty
/-- what Keys answers -/
def keysL (S : List ByteArray) : List ByteArray := if (chk S).2.2 = 0 ∧ (chk S).2.1.2.2.1 ≠ 0 then keysR S (chk S).2.1 else []
/-- Check found a row -/
theorem chk_row {S : List ByteArray} (h : (chk S).2.2 = 0) : longW S = false ∧ S ≠ [] ∧ ∃ s r, S = s :: r ∧ Vb.find (Vb.up s).toList = some (chk S).2.1 ∧ (chk S).1 = Vb.up s ∧ many S.length (chk S).2.1.1 = true := by
  cases S with
  | nil => exact absurd h (by decide)
  | cons s r =>
    cases hl : longW (s :: r) with
    | true => rw [chk_long hl] at h; exact absurd h (by decide)
    | false =>
      cases hf : Vb.find (Vb.up s).toList with
      | none => rw [chk_none hl hf] at h; exact absurd h (by decide)
      | some v =>
        cases hm : many (s :: r).length v.1 with
        | false => rw [chk_few hl hf hm] at h; exact absurd h (by decide)
        | true =>
          rw [chk_ok hl hf hm]
          exact ⟨rfl, by simp, s, r, rfl, hf, rfl, hm⟩
/-- where the keys of a row lie -/
theorem row_places {n : Nat} {r : Vb.Row} (hr : okRow r = true) (hm : many n r.1 = true) (h0 : r.2.2.1 ≠ 0) :
    r.2.2.1 = 1 ∧ (r.2.2.2.2 = 1 ∨ r.2.2.2.2 = 2) ∧ 1 ≤ lastK n r ∧ lastK n r < n ∧ ∀ k : Nat, (1 + k * r.2.2.2.2.toNat : Nat) ≤ lastK n r ↔ k < cntK n r := by
  obtain ⟨a, f, x, y, z⟩ := r
  unfold okRow at hr
  unfold many at hm
  dsimp only at *
  simp only [Bool.and_eq_true, Bool.or_eq_true, decide_eq_true_eq] at hr
  obtain ⟨⟨⟨q1, q2, q3⟩, q4⟩, q5⟩ := hr
  rcases q5 with q5 | ⟨⟨⟨⟨q5, q6⟩, q7⟩, q8⟩, q9⟩
  · exact absurd q5 h0
  · have hn : (a < 0 ∧ -a ≤ (n : Int)) ∨ (¬ a < 0 ∧ (n : Int) = a) := by
      by_cases c : a < 0
      · rw [if_pos c] at hm; exact .inl ⟨c, by simpa using hm⟩
      · rw [if_neg c] at hm; exact .inr ⟨c, by simpa using hm⟩
    have hL : 1 ≤ lastK n (a, f, x, y, z) ∧ lastK n (a, f, x, y, z) < n := by
      unfold lastK
      dsimp only
      rcases q6 with (rfl | rfl) | rfl
      · rw [if_pos (by omega)]; omega
      · rw [if_neg (by omega)]; omega
      · rw [if_neg (by omega)]; omega
    refine ⟨q5, q7, hL.1, hL.2, fun k => ?_⟩
    unfold cntK
    dsimp only
    generalize lastK n (a, f, x, y, z) = L at *
    rcases q7 with rfl | rfl
    · show ((1 + k * 1 : Nat) : Int) ≤ L ↔ k < L.toNat.pred / 1 + 1
      rw [Nat.div_one, Nat.pred_eq_sub_one]
      omega
    · show ((1 + k * 2 : Nat) : Int) ≤ L ↔ k < L.toNat.pred / 2 + 1
      rw [Nat.pred_eq_sub_one]
      omega
theorem keysR_len (S : List ByteArray) (r : Vb.Row) : (keysR S r).length = cntK S.length r := by unfold keysR; simp
def kpre (S : List ByteArray) (j k : Nat) : List ByteArray := (List.range k).map fun i => S.getD (1 + i * j) ByteArray.empty
theorem kpre_succ (S : List ByteArray) (j k : Nat) : kpre S j (k + 1) = kpre S j k ++ [S.getD (1 + k * j) ByteArray.empty] := by unfold kpre; rw [List.range_succ, List.map_append]; rfl
theorem kpre_len (S : List ByteArray) (j k : Nat) : (kpre S j k).length = k := by unfold kpre; simp
/-- how Keys ends -/
def KeyE (S : List ByteArray) (w : World) (e : Ending) (w' : World) : Prop := ∃ v, e = .returned v ∧ Ks w.heap.size w' v (keysL S)
set_option maxRecDepth 100000 in
set_option maxHeartbeats 4000000 in
theorem keys_any (so : Option Addr) (cap : Nat) (S : List ByteArray) (w : World) (hT : Wd w so S) (hl : S.length ≤ maxLen) : Calls Tryd.prog 15 #[.slice so S.length cap] w fun e w' => KeyE S w e w' ∧ Below w.heap.size w w' := by
  obtain ⟨PP, hPP⟩ : ∃ PP : Ending → World → Prop, PP = fun e w' => KeyE S w e w' ∧ Below w.heap.size w w' := ⟨_, rfl⟩
  rw [← hPP]
  have HP := keep hPP
  clear hPP
  have mC := keep (check_any so cap S w hT hl)
  have HT := keep hT
  have HL := keep hl
  obtain ⟨N, hN⟩ : ∃ N, S.length = N := ⟨_, rfl⟩
  rw [hN] at mC ⊢
  have HN := keep hN
  clear hT hl hN
  go_enter Tryd.func15, Tryd.ntmps15
  go_wp2_with fail
  refine mC.out.mono ?_
  rintro _ w2 ⟨hE, hb2⟩
  unfold ChkE at hE
  obtain ⟨K, hK⟩ : ∃ K, K = chk S := ⟨_, rfl⟩
  rw [← hK] at hE
  have HK := keep hK
  obtain ⟨n, ⟨ra, rf, rx, ry, rz⟩, c⟩ := K
  rw [row_form] at hE
  dsimp only at hE
  subst hE
  have HB2 := keep hb2
  clear hK hb2 mC
  by_cases hc : c = 0
  · subst hc
    have hc0 : ((0 : Int) != 0) = false := rfl
    by_cases hx : rx = 0
    · subst hx
      have hkl : keysL S = [] := by unfold keysL; rw [← HK.out, if_neg (by simp)]
      have HKL := keep hkl
      clear hkl
      go_wp2_with fail
      rw [HP.out]
      exact ⟨⟨_, rfl, by rw [HKL.out]; exact Ks.nil _ _⟩, HB2.out.alloc HB2.out.size _⟩
    · have hrw := chk_row (S := S) (by rw [← HK.out])
      obtain ⟨g1, g2, s, r, g3, g4, g5, g6⟩ := hrw
      have hok := find_okRow g4
      rw [← HK.out] at g6 hok
      dsimp only at g6 hok
      obtain ⟨p1, p2, p3, p4, p5⟩ := row_places hok g6 hx
      dsimp only at p1 p2
      have hN24 : N ≤ 1024 := by rw [← HN.out]; exact (not_long g1).1
      have hkl : keysL S = kpre S rz.toNat (cntK N (ra, rf, rx, ry, rz)) := by unfold keysL; rw [← HK.out, if_pos ⟨rfl, hx⟩]; unfold keysR kpre; rw [HN.out]
      rw [HN.out] at p3 p4 p5
      obtain ⟨L, hL⟩ : ∃ L, L = lastK N (ra, rf, rx, ry, rz) := ⟨_, rfl⟩
      obtain ⟨C, hC⟩ : ∃ C, C = cntK N (ra, rf, rx, ry, rz) := ⟨_, rfl⟩
      obtain ⟨J, hJ⟩ : ∃ J, J = rz.toNat := ⟨_, rfl⟩
      have hrz : rz = (J : Int) := by omega
      rw [← hL, ← hC] at p5
      dsimp only at p5
      rw [← hJ] at p5
      rw [← hL] at p3 p4
      rw [← hC, ← hJ] at hkl
      have hJ2 : J ≤ 2 := by omega
      have hLy : (ry < 0 ∧ L = ry + (N : Int)) ∨ (¬ ry < 0 ∧ L = ry) := by
        rw [hL]; unfold lastK; dsimp only
        by_cases cy : ry < 0
        · exact .inl ⟨cy, if_pos cy⟩
        · exact .inr ⟨cy, if_neg cy⟩
      have HKL := keep hkl
      have P3 := keep p3
      have P4 := keep p4
      have P5 := keep p5
      have HN24 := keep hN24
      have HJ2 := keep hJ2
      have HJ1 := keep (show 1 ≤ J by omega)
      have hx0 : ((1 : Int) == 0) = false := rfl
      subst hrz
      subst p1
      obtain ⟨w3, hw3⟩ : ∃ w3, w2.alloc (.cells #[.string n, .int .i64 ra, .int .i64 rf, .int .i64 1, .int .i64 ry, .int .i64 (J : Int)] 23) = w3 := ⟨_, rfl⟩
      have g50 : w3.heap[w2.heap.size]? = some (.cells #[.string n, .int .i64 ra, .int .i64 rf, .int .i64 1, .int .i64 ry, .int .i64 (J : Int)] 23) := by rw [← hw3]; exact heap_alloc_new _ _
      have hb3 : Below w.heap.size w w3 := by rw [← hw3]; exact HB2.out.alloc HB2.out.size _
      have hz3 : w3.heap.size = w2.heap.size + 1 := by rw [← hw3]; simp
      have k3 : w3.cell? ⟨w2.heap.size, 3, none⟩ = some (.int .i64 1) := by rw [cell_of_row _ _ _ _ _ _ g50]; rfl
      have k4 : w3.cell? ⟨w2.heap.size, 4, none⟩ = some (.int .i64 ry) := by rw [cell_of_row _ _ _ _ _ _ g50]; rfl
      have k5 : w3.cell? ⟨w2.heap.size, 5, none⟩ = some (.int .i64 (J : Int)) := by rw [cell_of_row _ _ _ _ _ _ g50]; rfl
      have K5 := keep k5
      have HB3 := keep hb3
      have HZ3 := keep hz3
      have HT3 := keep (HT.out.below hb3)
      clear g50 hb3 hz3 k5 hkl p3 p4 p5 hok g6 g4 g5 g1 g2 g3 hL hC hJ hx p2
      rcases hLy with ⟨cy, hLe⟩ | ⟨cy, hLe⟩
      · have hwy : IntKind.i64.wrap (ry + (N : Int)) = L := by have := P3.out; have := P4.out; have := HN24.out; rw [IntKind.wrap_i64]; omega
        clear hLe
        go_wp2_with fail
        clear k3 k4
        go_loopw [6, 7] (fun v6 v7 wr => ∃ k : Nat, k ≤ C ∧ v7 = .int .i64 ((1 + k * J : Nat) : Int) ∧ Kept (Ks w3.heap.size wr v6 (kpre S J k)) ∧ Kept (Below w3.heap.size w3 wr)) (fun _ v7 _ => N + 2 - (intOf v7).toNat)
        case atStart => exact ⟨0, Nat.zero_le _, by rw [Nat.zero_mul]; rfl, Ks.nil _ _, Below.refl _ _⟩
        case round =>
          obtain ⟨k, hk, rfl, KS, KB⟩ := hrel
          obtain ⟨I, hI⟩ : ∃ I, I = 1 + k * J := ⟨_, rfl⟩
          rw [← hI]
          have hp := P5.out k
          rw [← hI] at hp
          have hJI : I + J = 1 + (k + 1) * J := by rw [hI, Nat.succ_mul]; omega
          have HJI := keep hJI
          by_cases hlt : k < C
          · have hle := hp.2 hlt
            have hIN : I < N := by have := P4.out; omega
            obtain ⟨a, rfl, q2, q3, q4⟩ := (HT3.out.below KB.out) I (by rw [HN.out]; exact hIN)
            have hgd : S.getD I ByteArray.empty = S[I]'(by rw [HN.out]; exact hIN) := by rw [List.getD_eq_getElem?_getD, List.getElem?_eq_getElem (by rw [HN.out]; exact hIN)]; rfl
            have hsucc := kpre_succ S J k
            rw [← hI, hgd] at hsucc
            obtain ⟨x, hx⟩ : ∃ x, x = S[I]'(by rw [HN.out]; exact hIN) := ⟨_, rfl⟩
            rw [← hx] at q4 hsucc
            have hb0 : w3.heap.size ≤ wr.heap.size := KB.out.size
            have hkJ : k ≤ k * J := Nat.le_mul_of_pos_right k HJ1.out
            obtain ⟨v', w', hrun, hks, hgr⟩ := app_tx x KS.out hb0 (by rw [kpre_len]; have := HN24.out; omega) 28
            obtain ⟨ao, cc, hform⟩ := KS.out.form
            rw [kpre_len] at hform
            subst hform
            have hbw : Below w3.heap.size w3 w' := KB.out.trans (hgr.below hb0 KS.out.from)
            have k5 : w'.cell? ⟨w2.heap.size, 5, none⟩ = some (.int .i64 (J : Int)) := (hbw.cell (by have := HZ3.out; show w2.heap.size < _; omega)).trans K5.out
            have hi0 : (0 : Int) ≤ (I : Int) := by omega
            have hi1 : (I : Int) < (N : Int) := by omega
            have hwj : IntKind.i64.wrap ((I : Int) + (J : Int)) = ((I + J : Nat) : Int) := by have := HN24.out; have := HJ2.out; rw [IntKind.wrap_i64]; omega
            obtain ⟨ao', cc', hform'⟩ := hks.form
            have HKS := keep hks
            have HBW := keep hbw
            have HRUN := keep hrun
            have HSU := keep hsucc
            have HIN := keep hIN
            have HIE := keep hI
            have HKL2 := keep hlt
            clear hI hp hJI hlt hkJ hgd hsucc hks hgr hbw hrun hform' hb0 q2 q3 hx hIN
            go_wp2_with (first | (at_builtin; refine wpList_app_run rfl _ _ _ _ rfl _ _ _ rfl rfl HRUN.out ?_))
            go_roundw
            case measure => have := HIN.out; have := HJ1.out; simp [intOf]; omega
            case rel => exact ⟨k + 1, by have := HKL2.out; omega, by rw [← HJI.out, Int.natCast_add], by rw [HSU.out]; exact HKS, HBW⟩
          · have hkC : k = C := by omega
            have hle : ¬ (I : Int) ≤ L := fun h => hlt (hp.1 h)
            have hle' : L < (I : Int) := by omega
            have HKC := keep hkC
            clear hp hI hJI hlt hkC hk
            go_wp2_with fail
            rw [HP.out]
            exact ⟨⟨_, rfl, by rw [HKL.out, ← HKC.out]; exact ⟨KS.out.1, KS.out.2.imp id (fun ⟨g, cap', cur, q⟩ => ⟨g, cap', cur, q.1, Nat.le_trans HB3.out.size q.2.1, q.2.2⟩)⟩⟩, HB3.out.trans (KB.out.mono HB3.out.size)⟩
      · subst hLe
        go_wp2_with fail
        clear k3 k4
        go_loopw [6, 7] (fun v6 v7 wr => ∃ k : Nat, k ≤ C ∧ v7 = .int .i64 ((1 + k * J : Nat) : Int) ∧ Kept (Ks w3.heap.size wr v6 (kpre S J k)) ∧ Kept (Below w3.heap.size w3 wr)) (fun _ v7 _ => N + 2 - (intOf v7).toNat)
        case atStart => exact ⟨0, Nat.zero_le _, by rw [Nat.zero_mul]; rfl, Ks.nil _ _, Below.refl _ _⟩
        case round =>
          obtain ⟨k, hk, rfl, KS, KB⟩ := hrel
          obtain ⟨I, hI⟩ : ∃ I, I = 1 + k * J := ⟨_, rfl⟩
          rw [← hI]
          have hp := P5.out k
          rw [← hI] at hp
          have hJI : I + J = 1 + (k + 1) * J := by rw [hI, Nat.succ_mul]; omega
          have HJI := keep hJI
          by_cases hlt : k < C
          · have hle := hp.2 hlt
            have hIN : I < N := by have := P4.out; omega
            obtain ⟨a, rfl, q2, q3, q4⟩ := (HT3.out.below KB.out) I (by rw [HN.out]; exact hIN)
            have hgd : S.getD I ByteArray.empty = S[I]'(by rw [HN.out]; exact hIN) := by rw [List.getD_eq_getElem?_getD, List.getElem?_eq_getElem (by rw [HN.out]; exact hIN)]; rfl
            have hsucc := kpre_succ S J k
            rw [← hI, hgd] at hsucc
            obtain ⟨x, hx⟩ : ∃ x, x = S[I]'(by rw [HN.out]; exact hIN) := ⟨_, rfl⟩
            rw [← hx] at q4 hsucc
            have hb0 : w3.heap.size ≤ wr.heap.size := KB.out.size
            have hkJ : k ≤ k * J := Nat.le_mul_of_pos_right k HJ1.out
            obtain ⟨v', w', hrun, hks, hgr⟩ := app_tx x KS.out hb0 (by rw [kpre_len]; have := HN24.out; omega) 28
            obtain ⟨ao, cc, hform⟩ := KS.out.form
            rw [kpre_len] at hform
            subst hform
            have hbw : Below w3.heap.size w3 w' := KB.out.trans (hgr.below hb0 KS.out.from)
            have k5 : w'.cell? ⟨w2.heap.size, 5, none⟩ = some (.int .i64 (J : Int)) := (hbw.cell (by have := HZ3.out; show w2.heap.size < _; omega)).trans K5.out
            have hi0 : (0 : Int) ≤ (I : Int) := by omega
            have hi1 : (I : Int) < (N : Int) := by omega
            have hwj : IntKind.i64.wrap ((I : Int) + (J : Int)) = ((I + J : Nat) : Int) := by have := HN24.out; have := HJ2.out; rw [IntKind.wrap_i64]; omega
            obtain ⟨ao', cc', hform'⟩ := hks.form
            have HKS := keep hks
            have HBW := keep hbw
            have HRUN := keep hrun
            have HSU := keep hsucc
            have HIN := keep hIN
            have HIE := keep hI
            have HKL2 := keep hlt
            clear hI hp hJI hlt hkJ hgd hsucc hks hgr hbw hrun hform' hb0 q2 q3 hx hIN
            go_wp2_with (first | (at_builtin; refine wpList_app_run rfl _ _ _ _ rfl _ _ _ rfl rfl HRUN.out ?_))
            go_roundw
            case measure => have := HIN.out; have := HJ1.out; simp [intOf]; omega
            case rel => exact ⟨k + 1, by have := HKL2.out; omega, by rw [← HJI.out, Int.natCast_add], by rw [HSU.out]; exact HKS, HBW⟩
          · have hkC : k = C := by omega
            have hle : ¬ (I : Int) ≤ L := fun h => hlt (hp.1 h)
            have hle' : L < (I : Int) := by omega
            have HKC := keep hkC
            clear hp hI hJI hlt hkC hk
            go_wp2_with fail
            rw [HP.out]
            exact ⟨⟨_, rfl, by rw [HKL.out, ← HKC.out]; exact ⟨KS.out.1, KS.out.2.imp id (fun ⟨g, cap', cur, q⟩ => ⟨g, cap', cur, q.1, Nat.le_trans HB3.out.size q.2.1, q.2.2⟩)⟩⟩, HB3.out.trans (KB.out.mono HB3.out.size)⟩
  · have hc0 : (c != 0) = true := by simpa using hc
    have hkl : keysL S = [] := by unfold keysL; rw [← HK.out, if_neg (by simp [hc])]
    have HKL := keep hkl
    clear hkl hc
    go_wp2_with fail
    rw [HP.out]
    exact ⟨⟨_, rfl, by rw [HKL.out]; exact Ks.nil _ _⟩, HB2.out.alloc HB2.out.size _⟩
end Go.Proofs.YtaflggjgndkdlaaDoor
