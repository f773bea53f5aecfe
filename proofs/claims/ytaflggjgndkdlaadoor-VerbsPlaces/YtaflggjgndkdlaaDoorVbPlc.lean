/-
  The walk of VerbsPlaces.
-/
import Derived.Test.YtaflggjgndkdlaaDoorVbKeys
namespace Go.Proofs.YtaflggjgndkdlaaDoor
open Go.RowKit
set_option linter.unusedVariables false
theorem wd_row {W : World} {b : Nat} {t : TypeId} {fr : Nat × Nat} (S : List ByteArray) (h : W.heap[b]? = some (.cells (S.map Value.string).toArray t fr)) (hs : ∀ s ∈ S, s.size ≤ maxLen) : Wd W (some ⟨b, 0, none⟩) S := fun j hj => by
  refine ⟨_, rfl, (Array.getElem?_eq_some_iff.1 h).1, hs _ (List.getElem_mem _), ?_⟩
  rw [add_at, cell_of_row _ _ _ _ _ _ h]
  simp [hj]
/-- rename, a, b -/
def ren3 : List ByteArray := [⟨#[114, 101, 110, 97, 109, 101]⟩, ⟨#[97]⟩, ⟨#[98]⟩]
theorem ren3_keys : (keysL ren3).length = 2 := by decide +kernel
theorem ren3_small : ∀ s ∈ ren3, s.size ≤ maxLen := by decide +kernel
theorem place_arith (k J I : Nat) (hI : I = 1 + k * J) (h : I ≤ 1024) : wrap64 ((k : Int) * (J : Int)) = (I : Int) - 1 ∧ wrap64 (1 + ((I : Int) - 1)) = (I : Int) ∧ IntKind.i64.wrap ((k : Int) * (J : Int)) = (I : Int) - 1 ∧ IntKind.i64.wrap (1 + ((I : Int) - 1)) = (I : Int) := by
  have e : (k : Int) * (J : Int) = (I : Int) - 1 := by rw [← Int.natCast_mul]; generalize k * J = p at *; omega
  rw [e]
  clear e hI
  refine ⟨?_, ?_, ?_, ?_⟩
  · unfold wrap64; omega
  · unfold wrap64; omega
  · rw [IntKind.wrap_i64]; omega
  · rw [IntKind.wrap_i64]; omega
theorem keys_small {S : List ByteArray} {J C : Nat} (h : ∀ s ∈ S, s.size ≤ 1048576) (hk : keysL S = kpre S J C) : ∀ s ∈ keysL S, s.size ≤ maxLen := fun s hs => by
  rw [hk] at hs
  unfold kpre at hs
  obtain ⟨i, _, rfl⟩ := List.mem_map.1 hs
  rw [List.getD_eq_getElem?_getD]
  rcases Nat.lt_or_ge (1 + i * J) S.length with g | g
  · rw [List.getElem?_eq_getElem g]
    exact Nat.le_trans (h _ (List.getElem_mem g)) (by decide)
  · rw [List.getElem?_eq_none g]
    exact Nat.zero_le _
set_option maxRecDepth 100000 in
set_option maxHeartbeats 4000000 in
theorem places_walk (so : Option Addr) (cap : Nat) (S : List ByteArray) (w : World) (hT : Wd w so S) (hl : S.length ≤ maxLen) : Calls Tryd.prog 8 #[.slice so S.length cap] w fun e w' => e = .returned (.bool true) ∧ Below w.heap.size w w' := by
  have mK := keep (keys_any so cap S w hT hl)
  have mC := keep (fun w' (hb : Below w.heap.size w w') => check_any so cap S w' (hT.below hb) hl)
  have HT := keep hT
  have HL := keep hl
  obtain ⟨N, hN⟩ : ∃ N, S.length = N := ⟨_, rfl⟩
  rw [hN] at mC mK ⊢
  have HN := keep hN
  clear hT hl hN
  go_enter Tryd.func8, Tryd.ntmps8
  go_wp2_with fail
  refine mK.out.mono ?_
  rintro _ w1 ⟨⟨v1, rfl, hks⟩, hb1⟩
  obtain ⟨ao, cc, hform⟩ := hks.form
  subst hform
  have HKS := keep hks
  have HB1 := keep hb1
  clear hks hb1
  go_wp2_with fail
  refine (mC.out _ HB1.out).mono ?_
  rintro _ w2 ⟨hE, hb2⟩
  unfold ChkE at hE
  obtain ⟨K, hK⟩ : ∃ K, K = chk S := ⟨_, rfl⟩
  rw [← hK] at hE
  have HK := keep hK
  obtain ⟨n, ⟨ra, rf, rx, ry, rz⟩, c⟩ := K
  rw [row_form] at hE
  dsimp only at hE
  subst hE
  have HB2 := keep (HB1.out.trans (hb2.mono HB1.out.size))
  have HK2 := keep (HKS.out.later hb2)
  clear hK hb2 mC mK HKS
  obtain ⟨CL, hCL⟩ : ∃ CL : Obj, CL = .cells #[.string n, .int .i64 ra, .int .i64 rf, .int .i64 rx, .int .i64 ry, .int .i64 rz] 23 := ⟨_, rfl⟩
  have hb3 : Below w2.heap.size w2 (w2.alloc CL) := (Below.refl _ w2).alloc (Nat.le_refl _) _
  have hg3 : (w2.alloc CL).heap[w2.heap.size]? = some CL := heap_alloc_new _ _
  have hb4 : Below w2.heap.size w2 ((w2.alloc CL).alloc (.cells #[.string ⟨#[114, 101, 110, 97, 109, 101]⟩, .string ⟨#[97]⟩, .string ⟨#[98]⟩] 9)) := hb3.alloc hb3.size _
  have hw4 : Wd ((w2.alloc CL).alloc (.cells #[.string ⟨#[114, 101, 110, 97, 109, 101]⟩, .string ⟨#[97]⟩, .string ⟨#[98]⟩] 9)) (some ⟨w2.heap.size + 1, 0, none⟩) ren3 := wd_row ren3 (t := 9) (fr := (0, 0)) (by have := heap_alloc_new (w2.alloc CL) (.cells #[.string ⟨#[114, 101, 110, 97, 109, 101]⟩, .string ⟨#[97]⟩, .string ⟨#[98]⟩] 9); rw [World.size_alloc] at this; exact this) ren3_small
  have m4 := keep (keys_any (some ⟨w2.heap.size + 1, 0, none⟩) 3 ren3 _ hw4 (by decide))
  have hg4 := (heap_alloc_old (w2.alloc CL) (.cells #[.string ⟨#[114, 101, 110, 97, 109, 101]⟩, .string ⟨#[97]⟩, .string ⟨#[98]⟩] 9) (r := w2.heap.size) (by simp)).trans hg3
  have HG4 := keep hg4
  have HB4 := keep hb4
  have HCL := keep hCL
  rw [hCL] at m4
  clear hb3 hg3 hb4 hw4 hg4 hCL
  go_wp2_with fail
  refine m4.out.mono ?_
  rintro _ w5 ⟨⟨v5, rfl, hk5⟩, hb5⟩
  obtain ⟨ao5, cc5, hf5⟩ := hk5.form
  rw [ren3_keys] at hf5
  subst hf5
  rw [← HCL.out] at hb5
  have hB5 : Below w2.heap.size w2 w5 := HB4.out.trans (hb5.mono HB4.out.size)
  have hB05 := HB2.out.trans (hB5.mono HB2.out.size)
  have hg5 : w5.heap[w2.heap.size]? = some (.cells #[.string n, .int .i64 ra, .int .i64 rf, .int .i64 rx, .int .i64 ry, .int .i64 rz] 23) := by
    rw [← HCL.out]
    exact (hb5.block _ (by simp; omega)).trans HG4.out
  have k3 : w5.cell? ⟨w2.heap.size, 3, none⟩ = some (.int .i64 rx) := by rw [cell_of_row _ _ _ _ _ _ hg5]; rfl
  have k4 : w5.cell? ⟨w2.heap.size, 4, none⟩ = some (.int .i64 ry) := by rw [cell_of_row _ _ _ _ _ _ hg5]; rfl
  have k5 : w5.cell? ⟨w2.heap.size, 5, none⟩ = some (.int .i64 rz) := by rw [cell_of_row _ _ _ _ _ _ hg5]; rfl
  have HK5 := keep (HK2.out.later hB5)
  have HB5 := keep hB05
  have HT5 := keep (HT.out.below hB05)
  have HG5 := keep hg5
  clear hk5 hb5 hB5 hB05 hg5 HG4 HB4 HCL m4 HK2
  obtain ⟨PP, hPP⟩ : ∃ PP : Ending → World → Prop, PP = fun e w' => e = .returned (.bool true) ∧ Below w.heap.size w w' := ⟨_, rfl⟩
  by_cases hc : c = 0
  · subst hc
    have hc0 : ((0 : Int) != 0) = false := rfl
    by_cases hx : rx = 0
    · subst hx
      have hkl : (keysL S).length = 0 := by unfold keysL; rw [← HK.out, if_neg (by simp)]; rfl
      rw [hkl] at HK5 ⊢
      clear hkl
      go_wp2_with fail
      go_ret
      exact ⟨rfl, HB5.out⟩
    · have hrw := chk_row (S := S) (by rw [← HK.out])
      obtain ⟨g1, g2, s, r, g3, g4, g5, g6⟩ := hrw
      have hok := find_okRow g4
      rw [← HK.out] at g6 hok
      dsimp only at g6 hok
      obtain ⟨p1, p2, p3, p4, p5⟩ := row_places hok g6 hx
      dsimp only at p1 p2
      have hN24 : N ≤ 1024 := by rw [← HN.out]; exact (not_long g1).1
      have hsm := (not_long g1).2.1
      have hkl : keysL S = kpre S rz.toNat (cntK N (ra, rf, rx, ry, rz)) := by unfold keysL; rw [← HK.out, if_pos ⟨rfl, hx⟩]; unfold keysR kpre; rw [HN.out]
      rw [HN.out] at p3 p4 p5
      have hcnt : cntK N (ra, rf, rx, ry, rz) = (lastK N (ra, rf, rx, ry, rz)).toNat.pred / rz.toNat + 1 := rfl
      obtain ⟨L, hL⟩ : ∃ L, L = lastK N (ra, rf, rx, ry, rz) := ⟨_, rfl⟩
      obtain ⟨C, hC⟩ : ∃ C, C = cntK N (ra, rf, rx, ry, rz) := ⟨_, rfl⟩
      obtain ⟨J, hJ⟩ : ∃ J, J = rz.toNat := ⟨_, rfl⟩
      have hrz : rz = (J : Int) := by omega
      rw [← hL, ← hC] at p5
      dsimp only at p5
      rw [← hJ] at p5
      rw [← hL] at p3 p4
      rw [← hL, ← hC, ← hJ, Nat.pred_eq_sub_one] at hcnt
      rw [← hC, ← hJ] at hkl
      have hJ2 : J = 1 ∨ J = 2 := by omega
      have hLy : (ry < 0 ∧ L = ry + (N : Int)) ∨ (¬ ry < 0 ∧ L = ry) := by
        rw [hL]; unfold lastK; dsimp only
        by_cases cy : ry < 0
        · exact .inl ⟨cy, if_pos cy⟩
        · exact .inr ⟨cy, if_neg cy⟩
      have hquo : (L - 1).tdiv (J : Int) + 1 = (C : Int) := by
        rw [hcnt, Int.tdiv_eq_ediv_of_nonneg (by omega)]
        rcases hJ2 with rfl | rfl
        · rw [Nat.div_one]; omega
        · omega
      have P3 := keep p3
      have P4 := keep p4
      have P5 := keep p5
      have HN24 := keep hN24
      have HSM := keep hsm
      have HJ2 := keep hJ2
      have HKL := keep hkl
      have HQ := keep hquo
      have hJ0 : ¬ J = 0 := by rcases hJ2 with rfl | rfl <;> decide
      have hL1 : wrap64 (L - 1) = L - 1 := by unfold wrap64; omega
      have hC24 : C ≤ 1024 := by
        rcases Nat.lt_or_ge 1024 C with h | h
        · have h1 := (p5 1024).2 h
          have : 1024 ≤ 1024 * J := Nat.le_mul_of_pos_right _ (by omega)
          omega
        · exact h
      have hqq : wrap64 (wrap64 ((wrap64 (L - 1)).tdiv (J : Int)) + 1) = (C : Int) := by
        rw [hL1]
        have e : (L - 1).tdiv (J : Int) = (C : Int) - 1 := by omega
        rw [e]
        have e2 : wrap64 ((C : Int) - 1) = (C : Int) - 1 := by unfold wrap64; omega
        rw [e2]
        unfold wrap64; omega
      have hne : ((C : Int) != wrap64 (wrap64 ((wrap64 (L - 1)).tdiv (J : Int)) + 1)) = false := by rw [hqq]; simp
      have HC24 := keep hC24
      have HQQ := keep hqq
      clear hqq hL1 hC24 hne
      subst hrz
      subst p1
      have hx0 : ((1 : Int) == 0) = false := rfl
      clear hL hC hJ hcnt p3 p4 p5 hok g4 g5 g6 g1 g2 g3 hx hkl hN24 hsm hquo hJ2 p2
      have hkll : (keysL S).length = C := by rw [HKL.out, kpre_len]
      rw [hkll] at HK5 ⊢
      clear hkll
      rcases hLy with ⟨cy, hLe⟩ | ⟨cy, hLe⟩
      · have hwy : IntKind.i64.wrap ((N : Int) + ry) = L := by have := P3.out; have := P4.out; have := HN24.out; rw [IntKind.wrap_i64]; omega
        clear hLe
        go_wp2_with fail
        · rename_i q
          rw [HQQ.out, bne_self_eq_false] at q
          exact (Bool.false_ne_true q).elim
        clear k4
        go_loopw [7] (fun v7 wr => ∃ k : Nat, k ≤ C ∧ v7 = .int .i64 (k : Nat) ∧ Kept (Below w5.heap.size w5 wr)) (fun v7 _ => C - (intOf v7).toNat)
        case atStart => exact ⟨0, Nat.zero_le _, rfl, Below.refl _ _⟩
        case round =>
          obtain ⟨k, hk, rfl, KB⟩ := hrel
          have h2 : w2.heap.size < w5.heap.size := (Array.getElem?_eq_some_iff.1 HG5.out).1
          by_cases hlt : k < C
          · obtain ⟨I, hI⟩ : ∃ I, I = 1 + k * J := ⟨_, rfl⟩
            have hle := (P5.out k).2 hlt
            rw [← hI] at hle
            have hIN : I < N := by have := P4.out; omega
            obtain ⟨a2, rfl, l1, l2, c2⟩ := (HT5.out.below KB.out) I (by rw [HN.out]; exact hIN)
            have hwd1 := (HK5.out.later KB.out).wd (fun s hs => keys_small HSM.out HKL.out s hs)
            have hkl1 : (keysL S).length = C := by rw [HKL.out, kpre_len]
            obtain ⟨a1, rfl, l3, l4, c1⟩ := hwd1 k (by rw [hkl1]; exact hlt)
            have hxx : (keysL S)[k]'(by rw [hkl1]; exact hlt) = S[I]'(by rw [HN.out]; exact hIN) := by
              have e1 : (keysL S)[k]? = some (S.getD (1 + k * J) ByteArray.empty) := by rw [HKL.out]; unfold kpre; rw [List.getElem?_map, List.getElem?_range hlt]; rfl
              rw [List.getElem?_eq_getElem (by rw [hkl1]; exact hlt), ← hI, List.getD_eq_getElem?_getD, List.getElem?_eq_getElem (by rw [HN.out]; exact hIN)] at e1
              exact Option.some.inj e1
            rw [hxx] at c1
            obtain ⟨x, hx⟩ : ∃ x, x = S[I]'(by rw [HN.out]; exact hIN) := ⟨_, rfl⟩
            rw [← hx] at c1 c2
            have e3 : wr.cell? ⟨w2.heap.size, 3, none⟩ = some (.int .i64 1) := (KB.out.cell (p := ⟨w2.heap.size, 3, none⟩) h2).trans k3
            have e5 : wr.cell? ⟨w2.heap.size, 5, none⟩ = some (.int .i64 (J : Int)) := (KB.out.cell (p := ⟨w2.heap.size, 5, none⟩) h2).trans k5
            have hkC : (k : Int) < (C : Int) := by omega
            have hk0 : (0 : Int) ≤ (k : Int) := by omega
            have hI0 : (0 : Int) ≤ (I : Int) := by omega
            have hI1 : (I : Int) < (N : Int) := by omega
            obtain ⟨hm1, hm2, hm3, hm4⟩ := place_arith k J I hI (by have := HN24.out; omega)
            have hk1 : IntKind.i64.wrap ((k : Int) + 1) = ((k + 1 : Nat) : Int) := by have := HC24.out; rw [IntKind.wrap_i64]; omega
            clear hI hle hwd1 hxx hx h2 k3 k5 l1 l2 l3 l4 hIN hkl1
            go_wp2_with fail
            go_region
            go_wp2
            go_roundw
            case measure => simp [intOf]; omega
            case rel => exact ⟨k + 1, by omega, by go_num, KB.out.drew⟩
          · have hkC : ¬ (k : Int) < (C : Int) := by omega
            clear k3 k5
            go_wp2_with fail
            go_ret
            exact ⟨rfl, HB5.out.trans (KB.out.mono HB5.out.size)⟩
      · subst hLe
        go_wp2_with fail
        · rename_i q
          rw [HQQ.out, bne_self_eq_false] at q
          exact (Bool.false_ne_true q).elim
        clear k4
        go_loopw [7] (fun v7 wr => ∃ k : Nat, k ≤ C ∧ v7 = .int .i64 (k : Nat) ∧ Kept (Below w5.heap.size w5 wr)) (fun v7 _ => C - (intOf v7).toNat)
        case atStart => exact ⟨0, Nat.zero_le _, rfl, Below.refl _ _⟩
        case round =>
          obtain ⟨k, hk, rfl, KB⟩ := hrel
          have h2 : w2.heap.size < w5.heap.size := (Array.getElem?_eq_some_iff.1 HG5.out).1
          by_cases hlt : k < C
          · obtain ⟨I, hI⟩ : ∃ I, I = 1 + k * J := ⟨_, rfl⟩
            have hle := (P5.out k).2 hlt
            rw [← hI] at hle
            have hIN : I < N := by have := P4.out; omega
            obtain ⟨a2, rfl, l1, l2, c2⟩ := (HT5.out.below KB.out) I (by rw [HN.out]; exact hIN)
            have hwd1 := (HK5.out.later KB.out).wd (fun s hs => keys_small HSM.out HKL.out s hs)
            have hkl1 : (keysL S).length = C := by rw [HKL.out, kpre_len]
            obtain ⟨a1, rfl, l3, l4, c1⟩ := hwd1 k (by rw [hkl1]; exact hlt)
            have hxx : (keysL S)[k]'(by rw [hkl1]; exact hlt) = S[I]'(by rw [HN.out]; exact hIN) := by
              have e1 : (keysL S)[k]? = some (S.getD (1 + k * J) ByteArray.empty) := by rw [HKL.out]; unfold kpre; rw [List.getElem?_map, List.getElem?_range hlt]; rfl
              rw [List.getElem?_eq_getElem (by rw [hkl1]; exact hlt), ← hI, List.getD_eq_getElem?_getD, List.getElem?_eq_getElem (by rw [HN.out]; exact hIN)] at e1
              exact Option.some.inj e1
            rw [hxx] at c1
            obtain ⟨x, hx⟩ : ∃ x, x = S[I]'(by rw [HN.out]; exact hIN) := ⟨_, rfl⟩
            rw [← hx] at c1 c2
            have e3 : wr.cell? ⟨w2.heap.size, 3, none⟩ = some (.int .i64 1) := (KB.out.cell (p := ⟨w2.heap.size, 3, none⟩) h2).trans k3
            have e5 : wr.cell? ⟨w2.heap.size, 5, none⟩ = some (.int .i64 (J : Int)) := (KB.out.cell (p := ⟨w2.heap.size, 5, none⟩) h2).trans k5
            have hkC : (k : Int) < (C : Int) := by omega
            have hk0 : (0 : Int) ≤ (k : Int) := by omega
            have hI0 : (0 : Int) ≤ (I : Int) := by omega
            have hI1 : (I : Int) < (N : Int) := by omega
            obtain ⟨hm1, hm2, hm3, hm4⟩ := place_arith k J I hI (by have := HN24.out; omega)
            have hk1 : IntKind.i64.wrap ((k : Int) + 1) = ((k + 1 : Nat) : Int) := by have := HC24.out; rw [IntKind.wrap_i64]; omega
            clear hI hle hwd1 hxx hx h2 k3 k5 l1 l2 l3 l4 hIN hkl1
            go_wp2_with fail
            go_region
            go_wp2
            go_roundw
            case measure => simp [intOf]; omega
            case rel => exact ⟨k + 1, by omega, by go_num, KB.out.drew⟩
          · have hkC : ¬ (k : Int) < (C : Int) := by omega
            clear k3 k5
            go_wp2_with fail
            go_ret
            exact ⟨rfl, HB5.out.trans (KB.out.mono HB5.out.size)⟩
  · have hc0 : (c != 0) = true := by simpa using hc
    have hkl : (keysL S).length = 0 := by unfold keysL; rw [← HK.out, if_neg (by simp [hc])]; rfl
    rw [hkl] at HK5 ⊢
    clear hkl hc
    go_wp2_with fail
    go_ret
    exact ⟨rfl, HB5.out⟩
end Go.Proofs.YtaflggjgndkdlaaDoor
