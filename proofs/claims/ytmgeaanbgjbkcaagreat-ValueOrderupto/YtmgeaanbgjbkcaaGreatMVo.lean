/-
  Contracts over this program, put together.
-/
import Derived.Test.YtmgeaanbgjbkcaaGreatMVg
import Derived.Test.YtmgeaanbgjbkcaaGreatMVt
set_option maxHeartbeats 8000000
namespace Go.Proofs.YtmgeaanbgjbkcaaGreat
open Go.RowKit Go.Shelf
set_option linter.unusedVariables false
set_option linter.unusedSimpArgs false
set_option maxRecDepth 100000
namespace Vl
theorem turn_pm (d : Dt) : Pm d (turn d) := ⟨rfl, rfl, List.reverse_perm _, List.reverse_perm _, List.reverse_perm _⟩
theorem Told.same {d d' : Dt} (h : Told d d') (hf : Fit d) (hk : d.kind = 2) : d' = d := by
  have hp := h.pm hf
  rcases h with ⟨h1, _⟩ | ⟨h1, rfl⟩ | ⟨h1, _⟩ | ⟨h1, _⟩ | ⟨h1, _⟩
  · omega
  · obtain ⟨kd, tx, I, P, R⟩ := d
    obtain ⟨e1, e2, e3, e4, e5⟩ := hp
    dsimp only at *
    subst e1 e2
    rw [e4.nil_eq, e5.nil_eq]
  · omega
  · omega
  · omega
theorem order_walk (w : World) (kd : Int) (tx : ByteArray) (io po no so : Option Addr) (n1 n2 n3 n4 k1 k2 k3 k4 : Nat) (d : Dt) (hA : Arg w kd tx io po no so n1 n2 n3 n4 k1 k2 d) (hkd : d.kind = kd) (htx : d.text = tx) (hwf : Wf d) (s1 : d.items.length ≤ 1048576) (s2 : d.pairs.length ≤ 1048576) (s3 : d.ranks.length ≤ 1048576) (seed : Nat) (hs : seed < Dw.M) :
    Calls Tryz.prog 6 #[.agg #[.int .i64 kd, .string tx, .slice io n1 k1, .slice po n2 k2, .slice no n3 k3, .slice so n4 k4], .int .u64 seed] w fun e w' => e = .returned (.bool true) ∧ Below w.heap.size w w' := by
  obtain ⟨W1, hW1⟩ : ∃ W1, w.alloc (.cells #[.int .i64 kd, .string tx, .slice io n1 k1, .slice po n2 k2, .slice no n3 k3, .slice so n4 k4] 26) = W1 := ⟨_, rfl⟩
  have hb1 : Below w.heap.size w W1 := by rw [← hW1]; exact (Below.refl _ w).alloc (Nat.le_refl _) _
  have g1 : W1.heap[w.heap.size]? = some (.cells #[.int .i64 kd, .string tx, .slice io n1 k1, .slice po n2 k2, .slice no n3 k3, .slice so n4 k4] 26 (0, 0)) := by rw [← hW1]; exact heap_alloc_new _ _
  have DP : Kept (∀ W', Below W1.heap.size W1 W' → Calls Tryz.prog 9 #[.agg #[.int .i64 kd, .string tx, .slice io n1 k1, .slice po n2 k2, .slice no n3 k3, .slice so n4 k4]] W' fun e w'' => (∃ V, e = .returned V ∧ Pln w'' V d) ∧ Below W'.heap.size W' w'') :=
    fun W' hb => hA.plain (hb1.trans (hb.mono hb1.size))
  have NU : Kept (∀ W', Below W1.heap.size W1 W' → (W'.cell? ⟨w.heap.size, 0, none⟩ = some (.int .i64 kd) ∧ W'.cell? ⟨w.heap.size, 1, none⟩ = some (.string tx) ∧ W'.cell? ⟨w.heap.size, 2, none⟩ = some (.slice io n1 k1) ∧ W'.cell? ⟨w.heap.size, 3, none⟩ = some (.slice po n2 k2) ∧ W'.cell? ⟨w.heap.size, 4, none⟩ = some (.slice no n3 k3) ∧ W'.cell? ⟨w.heap.size, 5, none⟩ = some (.slice so n4 k4))) :=
    fun W' hb => six_cells ((hb.block _ (Array.getElem?_eq_some_iff.1 g1).1).trans g1)
  have HB1 := keep hb1
  have HW1 := keep hW1
  have HWF := keep hwf
  have HKD := keep hkd
  have HTX := keep htx
  have HT1 := keep (wf_pm (turn_pm d) hwf)
  have S1 := keep s1
  have S2 := keep s2
  have S3 := keep s3
  clear hA hb1 hW1 g1 hwf hkd htx s1 s2 s3
  go_enter Tryz.func6, Tryz.ntmps6
  go_wp2_with fail
  rw [HW1.out]
  refine (wakes_any _).mono ?_
  rintro _ V0 ⟨rfl, hb0⟩
  have HB0 := keep hb0
  obtain ⟨c0, c1, c2, c3, c4, c5⟩ := NU.out V0 hb0
  have mD := DP.out V0 hb0
  clear hb0
  go_wp2_with fail
  refine mD.mono ?_
  rintro _ V1 ⟨⟨V, rfl, hP⟩, hb⟩
  have HBa := keep (HB1.out.trans ((HB0.out.trans (hb.mono HB0.out.size)).mono HB1.out.size))
  obtain ⟨iv, pv, rv, rfl, q1, q2, q3⟩ := hP
  obtain ⟨io1, ic1, rfl⟩ := own_sl q1
  obtain ⟨po1, pc1, rfl⟩ := own_sl q2
  obtain ⟨ro1, rc1, rfl⟩ := own_sl q3
  obtain ⟨W4, hW4⟩ : ∃ W4, V1.alloc (.cells #[.int .i64 d.kind, .string d.text, .slice io1 d.items.length ic1, .slice po1 d.pairs.length pc1, .slice ro1 d.ranks.length rc1] 30) = W4 := ⟨_, rfl⟩
  have hb4 : Below V1.heap.size V1 W4 := by rw [← hW4]; exact (Below.refl _ _).alloc (Nat.le_refl _) _
  have g4 : Bx W4 V1.heap.size d.kind d.text (.slice io1 d.items.length ic1) (.slice po1 d.pairs.length pc1) (.slice ro1 d.ranks.length rc1) := by rw [← hW4]; exact heap_alloc_new _ _
  have hP4 : Pln W4 (plV d (.slice io1 d.items.length ic1) (.slice po1 d.pairs.length pc1) (.slice ro1 d.ranks.length rc1)) d := ⟨_, _, _, rfl, kept q1 hb4, kept q2 hb4, kept q3 hb4⟩
  have HIt : Kept (It W4 (.slice io1 d.items.length ic1) d.items) := kept q1 hb4
  have HP4 := keep hP4
  have G4 := keep g4
  have HW4 := keep hW4
  have HBe := keep (HBa.out.trans (hb4.mono HBa.out.size))
  have mO := of_any W4 _ d seed hP4 HWF.out hs
  unfold plV at mO HP4 ⊢
  rw [HKD.out, HTX.out] at mO HP4 G4 HW4 ⊢
  generalize hn1 : d.items.length = m1 at mO HP4 G4 HW4 HIt ⊢
  generalize hn2 : d.pairs.length = m2 at mO HP4 G4 HW4 ⊢
  generalize hn3 : d.ranks.length = m3 at mO HP4 G4 HW4 ⊢
  obtain ⟨e0, e1, e2, e3, e4⟩ := five_cells G4.out
  clear mD hb q1 q2 q3 hW4 hb4 g4 hP4 hn1 hn2 hn3 c0 c1 c2 c3 c4 c5
  go_wp2_with fail
  rw [HW4.out]
  refine mO.mono ?_
  rintro _ V5 ⟨hO, hb⟩
  have HBf := keep (HBe.out.trans (hb.mono HBe.out.size))
  have HP5 := keep (HP4.out.bel hb)
  have G5 := keep (G4.out.bel hb)
  have HI5 : Kept (It V5 (.slice io1 m1 ic1) d.items) := kept HIt.out hb
  have mT := turned_any V5 _ d HP5.out S1.out S2.out S3.out
  have HO := keep hO
  clear mO hb e0 e1 e2 e3 e4 hO
  obtain ⟨e0, e1, e2, e3, e4⟩ := five_cells G5.out
  have HV5 : Kept (∀ b, Val V5 b d → ∀ W, Below V5.heap.size V5 W → Val W b d) := fun b h W hb => h.bel hb
  rcases HO.out with ⟨c, hc0, hc, rfl⟩ | ⟨h0, b, rfl, hv⟩
  · have HC := keep hc
    have HC0 := keep hc0
    clear hc hc0
    go_wp2_with fail
    refine mT.mono ?_
    rintro _ V6 ⟨⟨V', rfl, hP⟩, hb⟩
    have HBg := keep (HBf.out.trans (hb.mono HBf.out.size))
    have mO := of_any V6 V' (turn d) seed hP HT1.out hs
    clear mT hb hP e0 e1 e2 e3 e4
    go_wp2_with fail
    refine mO.mono ?_
    rintro _ V7 ⟨hO, hb⟩
    have HBh := keep (HBg.out.trans (hb.mono HBg.out.size))
    clear mO hb
    rcases hO with ⟨c', hc0', hc', rfl⟩ | ⟨h0', b, rfl, hv⟩
    · obtain rfl := hc'.one ((turn_pm d).rfz HC.out)
      have hcd := hc'.codes
      clear hc' hc0'
      rcases hcd with rfl | rfl | rfl | rfl
      · go_wp2
        go_ret
        exact ⟨rfl, HBh.out⟩
      · go_wp2
        go_ret
        exact ⟨rfl, HBh.out⟩
      · go_wp2
        go_ret
        exact ⟨rfl, HBh.out⟩
      · exact absurd rfl HC0.out
    · exact absurd (((turn_pm d).rfz HC.out).one h0') HC0.out
  · have H0 := keep h0
    have HV := keep hv
    clear hv h0
    go_wp2_with fail
    refine mT.mono ?_
    rintro _ V6 ⟨⟨V', rfl, hP⟩, hb⟩
    have HB6 := keep hb
    have mO := of_any V6 V' (turn d) seed hP HT1.out hs
    clear mT hb hP e0 e1 e2 e3 e4
    go_wp2_with fail
    refine mO.mono ?_
    rintro _ V7 ⟨hO, hb⟩
    have HB7 := keep (HB6.out.trans (hb.mono HB6.out.size))
    clear mO hb
    rcases hO with ⟨c', hc0', hc', rfl⟩ | ⟨h0', b', rfl, hv'⟩
    · exact absurd (hc'.one ((turn_pm d).rfz H0.out)) hc0'
    · have H0' := keep h0'
      have HV' := keep hv'
      have HVa := keep (HV.out.bel HB7.out)
      have hfit : Fit d := Classical.byContradiction (fun e => H0.out.ok.1 (.inl e))
      have hfit' : Fit (turn d) := Classical.byContradiction (fun e => H0'.out.ok.1 (.inl e))
      have HF := keep hfit
      have HF' := keep hfit'
      have HCS : Kept (cstD (turn d) = cstD d) := cst_pm (turn_pm d)
      have HBi := keep (HBf.out.trans (HB7.out.mono HBf.out.size))
      have SH : Kept (∀ W : World, Below V7.heap.size V7 W → (W.cell? ⟨V1.heap.size, 0, none⟩ = some (.int .i64 kd) ∧ W.cell? ⟨V1.heap.size, 2, none⟩ = some (.slice io1 m1 ic1))) := fun W hb => by
        obtain ⟨x0, x1, x2, x3, x4⟩ := five_cells (G5.out.bel (HB7.out.trans (hb.mono HB7.out.size)))
        exact ⟨x0, x2⟩
      obtain ⟨x0, x2⟩ := SH.out V7 (Below.refl _ _)
      clear h0' hv' hfit hfit'
      by_cases hk : kd = 2
      · have HK2 : Kept (d.kind = 2) := HKD.out.trans hk
        subst hk
        have mA := vplain_any (HV'.out.bel (Below.refl _ V7).drew)
        go_upto_region 11 with fail
        clear x0 x2
        refine wp_region_held_drew (S := fun W => W.cell? ⟨V1.heap.size, 0, none⟩ = some (.int .i64 2) ∧ W.cell? ⟨V1.heap.size, 2, none⟩ = some (.slice io1 m1 ic1)) (by kernel_rfl) (SH.out _ (Below.refl _ V7).drew) (fun hHeld => ?_)
        refine wpAnyH_take (i := 0) (oi := ⟨some 41, _, _, _, _, _⟩) (v := ?v1) rfl (by kernel_rfl) (by kernel_rfl) (by kernel_rfl) (fun _ _ _ h => h) (Or.inl ⟨by rfl, ?hy1⟩) (by assumption) ?rest1
        case hy1 => (intro w hSw; go_simp; try with_reducible rfl)
        try simp only [Act.put, List.setIfInBounds_toArray, List.set_cons_zero, List.set_cons_succ]
        refine wpAnyH_take (i := 2) (oi := ⟨some 43, _, _, _, _, _⟩) (v := ?v2) rfl (by kernel_rfl) (by kernel_rfl) (by kernel_rfl) (fun _ _ _ h => h) (Or.inl ⟨by rfl, ?hy2⟩) (by assumption) ?rest2
        case hy2 => (intro w hSw; go_simp; try with_reducible rfl)
        try simp only [Act.put, List.setIfInBounds_toArray, List.set_cons_zero, List.set_cons_succ]
        refine wpAnyH_ready (rs := [1]) (by kernel_rfl) (by simp) ?_
        refine AllReadyH.cons (o := ⟨some 42, _, _, _, _, _⟩) rfl (fun K hK => ?_) AllReadyH.nil
        go_simp
        refine mA.mono ?_
        rintro _ V8 ⟨⟨Va, da, rfl, hPa, hTa⟩, hb8⟩
        replace hb8 : Below V7.heap.size V7 V8 := (Below.refl _ V7).drew.trans hb8
        obtain rfl := (hTa.same HF'.out HK2.out).symm
        have HPa := keep hPa
        have HB8 := keep hb8
        have mB := vplain_any (HVa.out.bel hb8)
        refine hK.out _ _ (SH.out _ hb8) (fun hHeld => ?_)
        try simp only [Act.put, List.setIfInBounds_toArray, List.set_cons_zero, List.set_cons_succ]
        clear hK mA hPa hTa hb8
        refine wpAnyH_ready (rs := [3]) (by kernel_rfl) (by simp) ?_
        refine AllReadyH.cons (o := ⟨some 44, _, _, _, _, _⟩) rfl (fun K hK => ?_) AllReadyH.nil
        go_simp
        refine mB.mono ?_
        rintro _ V9 ⟨⟨Vb, db, rfl, hPb, hTb⟩, hb9⟩
        obtain rfl := (hTb.same HF.out HK2.out).symm
        have hb97 := HB8.out.trans (hb9.mono HB8.out.size)
        have HB9 := keep hb97
        have HPa9 := keep (HPa.out.bel hb9)
        have mC := turned_any V9 Vb d hPb S1.out S2.out S3.out
        refine hK.out _ _ (SH.out _ hb97) (fun hHeld => ?_)
        try simp only [Act.put, List.setIfInBounds_toArray, List.set_cons_zero, List.set_cons_succ]
        clear hK mB hPb hTb hb9 hb97
        refine wpAnyH_ready (rs := [4]) (by kernel_rfl) (by simp) ?_
        refine AllReadyH.cons (o := ⟨some 45, _, _, _, _, _⟩) rfl (fun K hK => ?_) AllReadyH.nil
        go_simp
        refine mC.mono ?_
        rintro _ Va' ⟨⟨Vc, rfl, hPc⟩, hba⟩
        have hba7 := HB9.out.trans (hba.mono HB9.out.size)
        have HBA := keep hba7
        have mS := plain_same Va' Va Vc (turn d) (HPa9.out.bel hba) hPc
        refine hK.out _ _ (SH.out _ hba7) (fun hHeld => ?_)
        try simp only [Act.put, List.setIfInBounds_toArray, List.set_cons_zero, List.set_cons_succ]
        clear hK mC hPc hba hba7
        refine wpAnyH_ready (rs := [5]) (by kernel_rfl) (by simp) ?_
        refine AllReadyH.cons (o := ⟨some 46, _, _, _, _, _⟩) rfl (fun K hK => ?_) AllReadyH.nil
        go_simp
        refine mS.mono ?_
        rintro _ Vb' ⟨rfl, hbb⟩
        have hbb7 := HBA.out.trans (hbb.mono HBA.out.size)
        have HBB := keep hbb7
        have mP := vplain_any (HVa.out.bel hbb7)
        refine hK.out _ _ (SH.out _ hbb7) (fun hHeld => ?_)
        try simp only [Act.put, List.setIfInBounds_toArray, List.set_cons_zero, List.set_cons_succ]
        clear hK mS hbb hbb7
        refine wpAnyH_take (i := 6) (oi := ⟨some 47, _, _, _, _, _⟩) (v := ?v3) rfl (by kernel_rfl) (by kernel_rfl) (by kernel_rfl) (fun _ _ _ h => h) (Or.inl ⟨by rfl, ?hy3⟩) (by assumption) ?rest3
        case hy3 => (intro w hSw; obtain ⟨p0,p1⟩ := hSw; go_simp; try with_reducible rfl)
        try simp only [Act.put, List.setIfInBounds_toArray, List.set_cons_zero, List.set_cons_succ]
        refine wpAnyH_take (i := 7) (oi := ⟨some 48, _, _, _, _, _⟩) (v := ?v4) rfl (by kernel_rfl) (by kernel_rfl) (by kernel_rfl) (fun _ _ _ h => h) (Or.inl ⟨by rfl, ?hy4⟩) (by assumption) ?rest4
        case hy4 => (intro w hSw; obtain ⟨p0,p1⟩ := hSw; go_simp; try with_reducible rfl)
        try simp only [Act.put, List.setIfInBounds_toArray, List.set_cons_zero, List.set_cons_succ]
        refine wpAnyH_take (i := 10) (oi := ⟨some 51, _, _, _, _, _⟩) (v := (.pointer (some ⟨V1.heap.size, 2, none⟩))) rfl (by kernel_rfl) (by kernel_rfl) (by kernel_rfl) (fun _ _ _ h => h) (Or.inl ⟨by rfl, ?hy5⟩) (by assumption) ?rest5
        case hy5 => (intro w hSw; obtain ⟨p0,p1⟩ := hSw; first | (go_simp; done) | (go_simp; simp [*]; done) | (simp [*]; go_simp; done))
        try simp only [Act.put, List.setIfInBounds_toArray, List.set_cons_zero, List.set_cons_succ]
        refine wpAnyH_take (i := 11) (oi := ⟨some 52, _, _, _, _, _⟩) (v := (.slice io1 m1 ic1)) rfl (by kernel_rfl) (by kernel_rfl) (by kernel_rfl) (fun _ _ _ h => h) (Or.inl ⟨by rfl, ?hy6⟩) (by assumption) ?rest6
        case hy6 => (intro w hSw; obtain ⟨p0,p1⟩ := hSw; first | (go_simp; done) | (go_simp; simp [*]; done) | (simp [*]; go_simp; done))
        try simp only [Act.put, List.setIfInBounds_toArray, List.set_cons_zero, List.set_cons_succ]
        refine wpAnyH_ready (rs := [8]) (by kernel_rfl) (by simp) ?_
        refine AllReadyH.cons (o := ⟨some 49, _, _, _, _, _⟩) rfl (fun K hK => ?_) AllReadyH.nil
        go_simp
        refine mP.mono ?_
        rintro _ Vd ⟨⟨Ve, de, rfl, hPe, hTe⟩, hbd⟩
        obtain rfl := (hTe.same HF.out HK2.out).symm
        have hbd7 := HBB.out.trans (hbd.mono HBB.out.size)
        have HBD := keep hbd7
        obtain ⟨jv, jp, jr, rfl, r1, r2, r3⟩ := hPe
        have mX := texts_any Vd jv (.slice io1 m1 ic1) d.items r1 (kept HI5.out (HB7.out.trans (hbd7.mono HB7.out.size)))
        unfold plV
        have hfd : ∀ w : World, (Instr.field 30 (.agg #[.int .i64 d.kind, .string d.text, jv, jp, jr]) 2).run Tryz.prog w = .ok jv w := fun _ => by rfl
        refine hK.out _ _ (SH.out _ hbd7) (fun hHeld => ?_)
        try simp only [Act.put, List.setIfInBounds_toArray, List.set_cons_zero, List.set_cons_succ]
        clear hK mP hTe r1 r2 r3 hbd hbd7
        refine wpAnyH_take (i := 9) (oi := ⟨some 50, _, _, _, _, _⟩) (v := (jv)) rfl (by kernel_rfl) (by kernel_rfl) (by kernel_rfl) (fun _ _ _ h => h) (Or.inl ⟨by rfl, ?hy7⟩) (by assumption) ?rest7
        case hy7 => (intro w hSw; first | (go_simp; done) | (go_simp; simp [*]; done) | (simp [*]; go_simp; done))
        try simp only [Act.put, List.setIfInBounds_toArray, List.set_cons_zero, List.set_cons_succ]
        refine wpAnyH_ready (rs := [12]) (by kernel_rfl) (by simp) ?_
        refine AllReadyH.cons (o := ⟨some 53, _, _, _, _, _⟩) rfl (fun K hK => ?_) AllReadyH.nil
        go_simp
        refine mX.mono ?_
        rintro _ Vf ⟨rfl, hbf⟩
        have hbf7 := HBD.out.trans (hbf.mono HBD.out.size)
        have HBF := keep hbf7
        have m1' := vcost_any (HVa.out.bel hbf7) HWF.out
        have m2' := vcost_any (HV'.out.bel hbf7) HT1.out
        rw [HCS.out] at m2'
        obtain ⟨C, hC⟩ : ∃ C : Int, ((cstD d : Nat) : Int) = C := ⟨_, rfl⟩
        rw [hC] at m1' m2'
        refine hK.out _ _ (SH.out _ hbf7) (fun hHeld => ?_)
        try simp only [Act.put, List.setIfInBounds_toArray, List.set_cons_zero, List.set_cons_succ]
        clear hK mX hfd hbf hC
        refine wpAnyH_take (i := 13) (oi := ⟨some 54, _, _, _, _, _⟩) (v := (.bool true)) rfl (by kernel_rfl) (by kernel_rfl) (by kernel_rfl) (fun _ _ _ h => h) (Or.inl ⟨by rfl, ?hy8⟩) (by assumption) ?rest8
        case hy8 => (intro w hSw; first | (go_simp; done) | (go_simp; simp [*]; done) | (simp [*]; go_simp; done))
        try simp only [Act.put, List.setIfInBounds_toArray, List.set_cons_zero, List.set_cons_succ]
        refine wpAnyH_take (i := 14) (oi := ⟨some 55, _, _, _, _, _⟩) (v := (.bool true)) rfl (by kernel_rfl) (by kernel_rfl) (by kernel_rfl) (fun _ _ _ h => h) (Or.inl ⟨by rfl, ?hy9⟩) (by assumption) ?rest9
        case hy9 => (intro w hSw; first | (go_simp; done) | (go_simp; simp [*]; done) | (simp [*]; go_simp; done))
        try simp only [Act.put, List.setIfInBounds_toArray, List.set_cons_zero, List.set_cons_succ]
        refine wpAnyH_take (i := 15) (oi := ⟨some 56, _, _, _, _, _⟩) (v := ?v10) rfl (by kernel_rfl) (by kernel_rfl) (by kernel_rfl) (fun _ _ _ h => h) (Or.inl ⟨by rfl, ?hy10⟩) (by assumption) ?rest10
        case hy10 => (intro w hSw; go_simp; try with_reducible rfl)
        try simp only [Act.put, List.setIfInBounds_toArray, List.set_cons_zero, List.set_cons_succ]
        refine wpAnyH_take (i := 17) (oi := ⟨some 58, _, _, _, _, _⟩) (v := ?v11) rfl (by kernel_rfl) (by kernel_rfl) (by kernel_rfl) (fun _ _ _ h => h) (Or.inl ⟨by rfl, ?hy11⟩) (by assumption) ?rest11
        case hy11 => (intro w hSw; go_simp; try with_reducible rfl)
        try simp only [Act.put, List.setIfInBounds_toArray, List.set_cons_zero, List.set_cons_succ]
        refine wpAnyH_ready (rs := [16]) (by kernel_rfl) (by simp) ?_
        refine AllReadyH.cons (o := ⟨some 57, _, _, _, _, _⟩) rfl (fun K hK => ?_) AllReadyH.nil
        go_simp
        refine m1'.mono ?_
        rintro _ Vg ⟨rfl, hw⟩
        obtain rfl := hw.symm
        refine hK.out _ _ (SH.out _ hbf7) (fun hHeld => ?_)
        try simp only [Act.put, List.setIfInBounds_toArray, List.set_cons_zero, List.set_cons_succ]
        clear hK m1'
        refine wpAnyH_ready (rs := [18]) (by kernel_rfl) (by simp) ?_
        refine AllReadyH.cons (o := ⟨some 59, _, _, _, _, _⟩) rfl (fun K hK => ?_) AllReadyH.nil
        go_simp
        refine m2'.mono ?_
        rintro _ Vg ⟨rfl, hw⟩
        obtain rfl := hw.symm
        refine hK.out _ _ (SH.out _ hbf7) (fun hHeld => ?_)
        try simp only [Act.put, List.setIfInBounds_toArray, List.set_cons_zero, List.set_cons_succ]
        clear hK m2'
        refine wpAnyH_take (i := 19) (oi := ⟨some 60, _, _, _, _, _⟩) (v := (.bool true)) rfl (by kernel_rfl) (by kernel_rfl) (by kernel_rfl) (fun _ _ _ h => h) (Or.inl ⟨by rfl, ?hy12⟩) (by assumption) ?rest12
        case hy12 => (intro w hSw; first | (go_simp; done) | (go_simp; simp [*]; done) | (simp [*]; go_simp; done))
        try simp only [Act.put, List.setIfInBounds_toArray, List.set_cons_zero, List.set_cons_succ]
        refine wpAnyH_take (i := 20) (oi := ⟨some 61, _, _, _, _, _⟩) (v := (.bool true)) rfl (by kernel_rfl) (by kernel_rfl) (by kernel_rfl) (fun _ _ _ h => h) (Or.inl ⟨by rfl, ?hy13⟩) (by assumption) ?rest13
        case hy13 => (intro w hSw; first | (go_simp; done) | (go_simp; simp [*]; done) | (simp [*]; go_simp; done))
        try simp only [Act.put, List.setIfInBounds_toArray, List.set_cons_zero, List.set_cons_succ]
        refine wpAnyH_take (i := 21) (oi := ⟨some 4, _, _, _, _, _⟩) (v := (.bool true)) rfl (by kernel_rfl) (by kernel_rfl) (by kernel_rfl) (fun _ _ _ h => h) (Or.inl ⟨by rfl, ?hy14⟩) (by assumption) ?rest14
        case hy14 => (intro w hSw; first | (go_simp; done) | (go_simp; simp [*]; done) | (simp [*]; go_simp; done))
        try simp only [Act.put, List.setIfInBounds_toArray, List.set_cons_zero, List.set_cons_succ]
        refine wpAnyH_done (by kernel_rfl) ?_ _
        clear hHeld hbf7
        go_wp2
        go_ret
        exact ⟨rfl, HBi.out.trans (HBF.out.mono HBi.out.size)⟩
      · have hk2 : (kd == 2) = false := by simpa using hk
        have HK2 : Kept (d.kind ≠ 2) := by rw [HKD.out]; exact hk
        have mA := vplain_any HVa.out
        clear hk
        go_wp2_with fail
        refine mA.mono ?_
        rintro _ V8 ⟨⟨Va, da, rfl, hPa, hTa⟩, hb8⟩
        have HTa := keep hTa
        have HB8 := keep hb8
        have HPa := keep hPa
        have mB := vplain_any (HV'.out.bel hb8)
        clear mA hTa hb8 hPa x0 x2
        go_wp2_with fail
        refine mB.mono ?_
        rintro _ V9 ⟨⟨Vb, db, rfl, hPb, hTb⟩, hb9⟩
        obtain rfl := HTa.out.one hTb (turn_pm d) (fun e => absurd e HK2.out)
        have hb97 := HB8.out.trans (hb9.mono HB8.out.size)
        have HB9 := keep hb97
        have mS := plain_same V9 Va Vb _ (HPa.out.bel hb9) hPb
        clear mB hPb hTb hb9 hb97
        go_wp2_with fail
        refine mS.mono ?_
        rintro _ Vc ⟨rfl, hbc⟩
        have hbc7 := HB9.out.trans (hbc.mono HB9.out.size)
        have HBC := keep hbc7
        have m1' := vcost_any (HVa.out.bel hbc7) HWF.out
        have m2' := vcost_any (HV'.out.bel hbc7) HT1.out
        rw [HCS.out] at m2'
        obtain ⟨C, hC⟩ : ∃ C : Int, ((cstD d : Nat) : Int) = C := ⟨_, rfl⟩
        rw [hC] at m1' m2'
        clear mS hbc hbc7 hC
        go_wp2_with fail
        refine m1'.mono ?_
        rintro _ Vd ⟨rfl, hw⟩
        obtain rfl := hw.symm
        clear m1'
        go_wp2_with fail
        refine m2'.mono ?_
        rintro _ Vd ⟨rfl, hw⟩
        obtain rfl := hw.symm
        clear m2'
        go_wp2
        go_ret
        exact ⟨by first | rfl | simp, HBi.out.trans (HBC.out.mono HBi.out.size)⟩
end Vl
end Go.Proofs.YtmgeaanbgjbkcaaGreat
