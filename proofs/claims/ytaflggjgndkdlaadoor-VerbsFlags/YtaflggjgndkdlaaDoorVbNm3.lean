/-
  Contracts over this program: verbs.Names.
-/
import Derived.Test.YtaflggjgndkdlaaDoorVbNm2
namespace Go.Proofs.YtaflggjgndkdlaaDoor
open Go.RowKit Go.Shelf
set_option linter.unusedVariables false
/-- the names of the first k lines -/
def catK (k : Nat) : List ByteArray := ((Vb.kinL.take k).flatMap fun q => Vb.pieces q.1).map Vb.ofL
theorem catK_succ {k : Nat} {q : List UInt8 × Vb.Row} (h : Vb.kinL[k]? = some q) : catK (k + 1) = catK k ++ (Vb.pieces q.1).map Vb.ofL := by
  unfold catK
  rw [List.take_add_one, h, List.flatMap_append, List.map_append]
  simp
theorem catK_all : catK 35 = namesL.map Vb.ofL := by
  unfold catK namesL
  rw [List.take_of_length_le (by rw [Vb.kin_len]; exact Nat.le_refl _)]
set_option maxRecDepth 100000 in
theorem cat_few : (List.range 36).all (fun k => decide ((catK k).length ≤ 2000)) = true := by decide +kernel
set_option maxRecDepth 100000 in
set_option maxHeartbeats 4000000 in
theorem names_any (w : World) (hm : ∃ m, w.cell? ⟨2, 0, none⟩ = some (.int .i64 m)) : Calls Tryd.prog 20 #[] w fun e w' => (∃ v, e = .returned v ∧ Ks w.heap.size w' v (srtK 113)) ∧ Below w.heap.size w w' := by
  obtain ⟨PP, hPP⟩ : ∃ PP : Ending → World → Prop, PP = fun e w' => (∃ v, e = .returned v ∧ Ks w.heap.size w' v (srtK 113)) ∧ Below w.heap.size w w' := ⟨_, rfl⟩
  rw [← hPP]
  have HP := keep hPP
  clear hPP
  obtain ⟨mx, hmx⟩ := hm
  have HM := keep hmx
  clear hmx
  have mT := keep table_any
  have mO := keep sort_names
  have mC := keep (fun k (h : k ≤ 35) => of_decide_eq_true (List.all_eq_true.1 cat_few k (List.mem_range.2 (by omega))))
  obtain ⟨T, hT⟩ : ∃ T, T = tabV := ⟨_, rfl⟩
  have ix := tab_row
  rw [← hT] at mT ix
  have IX := keep ix
  clear hT ix
  go_enter Tryd.func20, Tryd.ntmps20
  go_wp2_with fail
  refine (mT.out _).mono ?_
  rintro _ w2 ⟨rfl, hb2⟩
  have HB2 := keep hb2
  clear hb2
  go_wp2_with fail
  go_loopw [1, 5] (fun v1 v5 wr => ∃ i : Nat, i ≤ 35 ∧ v5 = .int .i64 (i : Nat) ∧ Kept (Ks w.heap.size wr v1 (catK i)) ∧ Kept (Below w.heap.size w wr)) (fun _ v5 _ => 35 - (intOf v5).toNat)
  case atStart => exact ⟨0, Nat.zero_le _, rfl, Ks.nil _ _, HB2.out⟩
  case round =>
    obtain ⟨i, hi, rfl, KS, KB⟩ := hrel
    by_cases hlt : i < 35
    · have hltz : (i : Int) < 35 := by omega
      have hwi : IntKind.i64.wrap ((i : Int) + 1) = ((i + 1 : Nat) : Int) := by rw [IntKind.wrap_i64]; omega
      obtain ⟨K, hK⟩ : ∃ K, Vb.kinL.getD i ([], Vb.zeroR) = K := ⟨_, rfl⟩
      have hmem : Vb.kinL[i]? = some K := by rw [← hK, List.getD_eq_getElem?_getD, List.getElem?_eq_getElem (by rw [Vb.kin_len]; exact hlt)]; rfl
      obtain ⟨s1, s2, s3, s4, s5⟩ := split_row hmem
      have hcs := catK_succ hmem
      have hci := mC.out i (by omega)
      obtain ⟨ks, ra, rf, rx, ry, rz⟩ := K
      have ixf : ∀ wx, (Instr.index 45 (.agg T) (.int .i64 (i : Nat))).run Tryd.prog wx = .ok (rowV (Vb.ofL ks) (ra, rf, rx, ry, rz)) wx := fun wx => by
        have := IX.out wx i hlt
        rwa [hK] at this
      have hrow : rowV (Vb.ofL ks) (ra, rf, rx, ry, rz) = .agg #[.string (Vb.ofL ks), .int .i64 ra, .int .i64 rf, .int .i64 rx, .int .i64 ry, .int .i64 rz] := rfl
      rw [hrow] at ixf
      dsimp only at s1 s2 s3 s4 s5 hcs
      have s6 : ∀ u ∈ (Vb.pieces ks).map Vb.ofL, u.size ≤ maxLen := fun u hu => by
        obtain ⟨x, hx, rfl⟩ := List.mem_map.1 hu
        rw [Vb.ofL_size]
        exact Nat.le_trans (s5 x hx) (by decide)
      have s7 : (Vb.ofL ks).size < 4294967281 := by rw [Vb.ofL_size]; exact s3
      obtain ⟨PL, hPL⟩ : ∃ PL, PL = (Vb.pieces ks).map Vb.ofL := ⟨_, rfl⟩
      have hpl : PL.length = (Vb.pieces ks).length := by rw [hPL, List.length_map]
      rw [← hPL] at s1 hcs s6
      rw [← s2] at hpl s4
      obtain ⟨KK, hKK⟩ : ∃ KK, KK = Vb.ofL ks := ⟨_, rfl⟩
      rw [← hKK] at ixf s1 s4 s7 hpl
      obtain ⟨W0, hW0⟩ : ∃ W, wr.alloc (.cells #[.string KK, .int .i64 ra, .int .i64 rf, .int .i64 rx, .int .i64 ry, .int .i64 rz] 44) = W := ⟨_, rfl⟩
      have g0 : W0.heap[wr.heap.size]? = some (.cells #[.string KK, .int .i64 ra, .int .i64 rf, .int .i64 rx, .int .i64 ry, .int .i64 rz] 44) := by rw [← hW0]; exact heap_alloc_new _ _
      have b0 : Below wr.heap.size wr W0 := by rw [← hW0]; exact (Below.refl _ _).alloc (Nat.le_refl _) _
      have k0 : W0.cell? ⟨wr.heap.size, 0, none⟩ = some (.string KK) := by rw [cell_of_row _ _ _ _ _ _ g0]; rfl
      have hms : W0.cell? ⟨2, 0, none⟩ = some (.int .i64 mx) := by
        have h1 := (KB.out.cell (World.block_lt_of_cell? _ _ HM.out)).trans HM.out
        exact (b0.cell (World.block_lt_of_cell? _ _ h1)).trans h1
      have msp := Tryd.strings_Split KK sp mx W0 s7 hms (by decide)
      rw [s1] at msp
      change Calls Tryd.prog 28 _ _ _ at msp
      obtain ⟨N, hN⟩ : ∃ N, N = Lib.countB KK sp + 1 := ⟨_, rfl⟩
      rw [← hN] at msp hpl s4
      obtain ⟨W1, hW1⟩ : ∃ W, W0.alloc (.cells (PL.map Value.string).toArray 9) = W := ⟨_, rfl⟩
      have b1 : Below W0.heap.size W0 W1 := by rw [← hW1]; exact (Below.refl _ _).alloc (Nat.le_refl _) _
      have t1 : Wd W1 (some ⟨W0.heap.size, 0, none⟩) PL := by rw [← hW1]; exact row_wd (t := 9) (fr := (0, 0)) PL (heap_alloc_new _ _) s6
      have b2 : Below wr.heap.size wr W1 := b0.trans (b1.mono b0.size)
      change Calls Tryd.prog 28 _ _ (fun e w' => _ ∧ w' = W0.alloc (.cells (PL.map Value.string).toArray 9)) at msp
      rw [hW1] at msp
      obtain ⟨v', w', hrun, hks, hgr⟩ := app_all N (KS.out.later b2) t1 (Nat.le_trans KB.out.size b2.size) (by rw [hpl]; omega) 28
      have hbw : Below w.heap.size w w' := (KB.out.trans (b2.mono KB.out.size)).trans (hgr.below (Nat.le_trans (Below.size KB.out) b2.size) KS.out.from)
      rw [← hcs] at hks
      rw [hpl] at hrun
      have HKS := keep hks
      have HBW := keep hbw
      have HRUN := keep hrun
      have HMSP := keep msp
      have HLT := keep hlt
      clear hks hbw hrun hgr b0 b1 b2 t1 g0 msp hms s1 s2 s3 s4 s5 s6 s7 hpl hPL hN hKK hK hmem hcs hci hrow hlt hW1
      go_wp2_with fail
      refine HMSP.out.mono ?_
      rintro _ w5 ⟨rfl, hw5⟩
      obtain rfl := hw5.symm
      clear hw5 hW0 k0
      go_wp2_with (first | (at_builtin; refine wpList_app_run rfl _ _ _ _ rfl _ _ _ rfl rfl HRUN.out ?_))
      go_roundw
      case measure => have := HLT.out; simp [intOf]; omega
      case rel => exact ⟨i + 1, HLT.out, by rfl, HKS, HBW⟩
    · obtain rfl : i = 35 := by omega
      have hltz : ¬ ((35 : Nat) : Int) < 35 := by omega
      have hks := KS.out
      rw [catK_all] at hks
      obtain ⟨ao, cap, hform⟩ := hks.form
      rw [List.length_map, names_len] at hform
      subst hform
      obtain ⟨g, rfl⟩ : ∃ g, ao = some ⟨g, 0, none⟩ := by
        rcases hks.2 with ⟨_, hn⟩ | ⟨g, cap, cur, e, _⟩
        · rw [List.length_map, names_len] at hn; cases hn
        · cases e; exact ⟨g, rfl⟩
      have hg := hks.from g rfl
      have HG := keep hg
      have HKS := keep hks
      clear hks hg KS
      go_wp2_with fail
      refine (mO.out _ _ _ _ HKS.out).mono ?_
      rintro _ w6 ⟨rfl, hk6, hg6⟩
      have hb6 : Below w.heap.size w w6 := KB.out.trans ((Below.refl _ _).grown hg6 KB.out.size (fun k hk => by cases hk; exact HG.out))
      have HK6 := keep hk6
      have HB6 := keep hb6
      clear hk6 hb6 hg6
      go_wp2_with fail
      rw [HP.out]
      exact ⟨⟨_, rfl, HK6.out⟩, HB6.out⟩
end Go.Proofs.YtaflggjgndkdlaaDoor
