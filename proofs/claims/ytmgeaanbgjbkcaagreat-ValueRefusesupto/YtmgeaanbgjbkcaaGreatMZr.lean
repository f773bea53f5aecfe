/-
  Contracts over this program, put together.
-/
import Derived.Test.YtmgeaanbgjbkcaaGreatMZ0
set_option maxHeartbeats 16000000
namespace Go.Proofs.YtmgeaanbgjbkcaaGreat
open Go.RowKit Go.Shelf
set_option linter.unusedVariables false
set_option linter.unusedSimpArgs false
set_option maxRecDepth 100000
namespace Vl
theorem refz_r (w : World) (kd : Int) (tx : ByteArray) (io po no so : Option Addr) (n1 n2 n3 n4 k1 k2 k3 k4 : Nat) (I : List ByteArray) (P : List (ByteArray × ByteArray)) (R : List (ByteArray × Nat)) (hA : Arg w kd tx io po no so n1 n2 n3 n4 k1 k2 ⟨kd, tx, I, P, R⟩) (hwf : Wf ⟨kd, tx, I, P, R⟩) (s1 : I.length ≤ 1048576) (s2 : P.length ≤ 1048576) (s3 : R.length ≤ 1048576) (how : Int) (s : ByteArray) (hs : s.size ≤ 1048576) (hsel : (kd = 3 ∧ ¬ (how = 0 ∨ how = 1 ∨ (how = 2 ∧ kd ≠ 1) ∨ (how = 3 ∧ kd ≠ 3) ∨ (how = 4 ∧ kd ≠ 5) ∨ (how = 5 ∧ kd ≠ 2 ∧ kd ≠ 4) ∨ (how = 9 ∧ 0 < R.length)) ∧ ¬ ((how = 6 ∧ kd = 4 ∧ 0 < I.length) ∨ (how = 7 ∧ 0 < P.length) ∨ (how = 8 ∧ 0 < R.length)))) :
    Calls Tryz.prog 7 #[.agg #[.int .i64 kd, .string tx, .slice io n1 k1, .slice po n2 k2, .slice no n3 k3, .slice so n4 k4], .int .i64 how, .string s] w fun e w' => e = .returned (.bool true) ∧ Below w.heap.size w w' := by
  obtain ⟨W1, hW1⟩ : ∃ W1, w.alloc (.cells #[.int .i64 kd, .string tx, .slice io n1 k1, .slice po n2 k2, .slice no n3 k3, .slice so n4 k4] 26) = W1 := ⟨_, rfl⟩
  have hb1 : Below w.heap.size w W1 := by rw [← hW1]; exact (Below.refl _ w).alloc (Nat.le_refl _) _
  have g1 : W1.heap[w.heap.size]? = some (.cells #[.int .i64 kd, .string tx, .slice io n1 k1, .slice po n2 k2, .slice no n3 k3, .slice so n4 k4] 26 (0, 0)) := by rw [← hW1]; exact heap_alloc_new _ _
  have HB1 := keep hb1
  have HW1 := keep hW1
  have HWF := keep hwf
  have SEL := keep hsel
  have S1 := keep s1
  have S2 := keep s2
  have S3 := keep s3
  have HS := keep hs
  have G1 := keep g1
  have HA := keep hA
  clear hA hb1 hW1 g1 hwf s1 s2 s3 hs hsel
  go_enter Tryz.func7, Tryz.ntmps7
  go_wp2_with fail
  rw [HW1.out]
  refine (wakes_any _).mono ?_
  rintro _ V0 ⟨rfl, hb0⟩
  have HV0 := keep (HB1.out.trans (hb0.mono HB1.out.size))
  obtain ⟨c0, c1, c2, c3, c4, c5⟩ := six_cells ((hb0.block _ (Array.getElem?_eq_some_iff.1 G1.out).1).trans G1.out)
  have mD := HA.out.plainO (k3 := k3) (k4 := k4) HV0.out
  clear hb0
  go_wp2_with fail
  refine mD.mono ?_
  rintro _ V1 ⟨⟨V, rfl, hP⟩, hb⟩
  obtain ⟨iv, pv, rv, rfl, q1, q2, q3⟩ := hP
  obtain ⟨io1, ic1, rfl⟩ := own_sl q1
  obtain ⟨po1, pc1, rfl⟩ := own_sl q2
  obtain ⟨ro1, rc1, rfl⟩ := own_sl q3
  unfold plV
  dsimp only at q1 q2 q3 ⊢
  obtain ⟨W4, hW4⟩ : ∃ W4, V1.alloc (.cells #[.int .i64 kd, .string tx, .slice io1 I.length ic1, .slice po1 P.length pc1, .slice ro1 R.length rc1] 30) = W4 := ⟨_, rfl⟩
  have hb4 : Below V1.heap.size V1 W4 := by rw [← hW4]; exact (Below.refl _ _).alloc (Nat.le_refl _) _
  have g4 : Bx W4 V1.heap.size kd tx (.slice io1 I.length ic1) (.slice po1 P.length pc1) (.slice ro1 R.length rc1) := by rw [← hW4]; exact heap_alloc_new _ _
  have hPb : Pb V0 V1.heap.size kd tx (.slice io1 I.length ic1) (.slice po1 P.length pc1) (.slice ro1 R.length rc1) I P R W4 := ⟨g4, kept q1 hb4, kept q2 hb4, kept q3 hb4, hb.trans (hb4.mono hb.size), hb.size⟩
  have HPb := keep hPb
  have HW4 := keep hW4
  have mO := of_any W4 _ ⟨kd, tx, I, P, R⟩ 3 hPb.pln HWF.out (by decide)
  unfold plV at mO
  dsimp only at mO
  have L1 := keep (rfl : I.length = I.length)
  have L2 := keep (rfl : P.length = P.length)
  have L3 := keep (rfl : R.length = R.length)
  generalize hn1 : I.length = m1 at mO HPb HW4 L1 S1 SEL ⊢
  generalize hn2 : P.length = m2 at mO HPb HW4 L2 S2 SEL ⊢
  generalize hn3 : R.length = m3 at mO HPb HW4 L3 S3 SEL ⊢
  have N1 := keep hn1
  have N2 := keep hn2
  have N3 := keep hn3
  obtain ⟨⟨e0, e1, e2, e3, e4⟩, ef⟩ := HPb.out.box
  clear mD hb q1 q2 q3 hW4 hb4 g4 hPb hn1 hn2 hn3 L1 L2 L3 c0 c1 c2 c3 c4 c5 ef
  go_wp2_with fail
  rw [HW4.out]
  refine mO.mono ?_
  rintro _ V5 ⟨hO, hb⟩
  have HP := keep (HPb.out.bel hb)
  clear mO hb e0 e1 e2 e3 e4 HPb HW4
  obtain ⟨B, hB⟩ : ∃ B, V1.heap.size = B := ⟨_, rfl⟩
  rw [hB] at HP ⊢
  clear hB
  rcases hO with ⟨c, hc0, hc, rfl⟩ | ⟨h0, b, rfl, hv⟩
  · have hne : (c != 0) = true := by simpa using hc0
    clear hc0 hc
    go_wp2
    go_ret
    exact ⟨rfl, HV0.out.trans (HP.out.2.2.2.2.1.mono HV0.out.size)⟩
  have H0 := keep h0
  have HF : Kept (Fit ⟨kd, tx, I, P, R⟩) := Classical.byContradiction (fun e => H0.out.ok.1 (.inl e))
  have HK : Kept (1 ≤ kd ∧ kd ≤ 5) := fit_kind HF.out
  clear h0 hv
  obtain ⟨⟨e0, e1, e2, e3, e4⟩, ef⟩ := HP.out.box
  have f0 := ef 0
  have f1 := ef 1
  have f2 := ef 2
  have f3 := ef 3
  have f4 := ef 4
  clear ef
  by_cases h0 : how = 0
  · have := SEL.out; exfalso; omega
  by_cases h1 : how = 1
  · have := SEL.out; exfalso; omega
  by_cases h2 : how = 2 ∧ kd ≠ 1
  · have := SEL.out; exfalso; omega
  by_cases h3 : how = 3 ∧ kd ≠ 3
  · have := SEL.out; exfalso; omega
  by_cases h4 : how = 4 ∧ kd ≠ 5
  · have := SEL.out; exfalso; omega
  by_cases h5 : how = 5 ∧ kd ≠ 2 ∧ kd ≠ 4
  · have := SEL.out; exfalso; omega
  by_cases h6 : how = 6 ∧ kd = 4 ∧ 0 < m1
  · have := SEL.out; exfalso; omega
  by_cases h7 : how = 7 ∧ 0 < m2
  · have := SEL.out; exfalso; omega
  by_cases h8 : how = 8 ∧ 0 < m3
  · have := SEL.out; exfalso; omega
  by_cases h9 : how = 9 ∧ 0 < m3
  · have := SEL.out; exfalso; omega
  by_cases hk1 : kd = 1
  · have := SEL.out; exfalso; omega
  by_cases hk3 : kd = 3
  · subst hk3
    have hnil : tx.size = 0 ∧ I = [] ∧ R = [] := by
      rcases HF.out with ⟨h, _⟩ | ⟨h, _⟩ | ⟨h, a, b, c⟩ | ⟨h, _⟩
      · dsimp only at h; omega
      · dsimp only at h; omega
      · exact ⟨a, b, c⟩
      · dsimp only at h; omega
    have hm3 : ¬ 0 < m3 := by have := N3.out; rw [hnil.2.2] at this; simp at this; omega
    obtain ⟨W6, z, mk, cv, hz, hb6⟩ := zeros_text V5.drew 1048577 (by omega)
    have MK : Kept ((Instr.makeSlice 74 (.int .i64 1048577) (.int .i64 1048577)).run Tryz.prog V5.drew = .ok (.slice (some ⟨V5.heap.size, 0, none⟩) 1048577 1048577) W6) := mk
    have CV : Kept ((convert 74 9 (.slice (some ⟨V5.heap.size, 0, none⟩) 1048577 1048577)).run Tryz.prog W6 = .ok (.string z) W6) := cv
    have HZ := keep hz
    clear mk cv hz
    have HQ : Kept (Pb V0 B 3 tx (.slice io1 m1 ic1) (.slice po1 m2 pc1) (.slice ro1 m3 rc1) I P R W6) := (HP.out.bel (Below.refl _ V5).drew).bel hb6
    have hba : Below W6.heap.size W6 (W6.alloc (.cells #[.string z, .string { data := #[] }] 70)) := (Below.refl _ _).alloc (Nat.le_refl _) _
    obtain ⟨v1, V3, r3, x3, p4⟩ := (HQ.out.bel hba).setP (J := [(z, { data := #[] })]) (so := some ⟨W6.heap.size, 0, none⟩) (m := 1) (c := 1) rfl (in_lit W6 #[.string z, .string { data := #[] }] 70 _ rfl) (fun h => by cases h) (by have := S2.out; have := N2.out; omega)
    obtain ⟨o1, l1, d1, hv1⟩ : ∃ o1 l1 d1, v1 = .slice o1 l1 d1 := by obtain ⟨a, b, c⟩ := own_sl p4.2.2.1; exact ⟨_, _, _, c⟩
    subst hv1
    have R3 := keep r3
    have HN := keep p4
    obtain ⟨y0, y1, y2, y3, y4⟩ := five_cells x3
    have yf := bx_free x3 3
    clear r3 x3 p4 hba
    have RB0 : Kept (V5.drew.cell? ⟨B, 3, none⟩ = some (.slice po1 m2 pc1)) := e3
    have RB1 : Kept (W6.cell? ⟨B, 3, none⟩ = some (.slice po1 m2 pc1)) := (hb6.cell (World.block_lt_of_cell? _ _ RB0.out)).trans RB0.out
    have RB2 : Kept ((W6.alloc (.cells #[.string z, .string { data := #[] }] 70)).cell? ⟨B, 3, none⟩ = some (.slice po1 m2 pc1)) := (((Below.refl _ W6).alloc (Nat.le_refl _) _).cell (World.block_lt_of_cell? _ _ RB1.out)).trans RB1.out
    have hnew : ∀ x ∈ P.map Prod.fst, x ≠ z := fun x hx e => H0.out.ok.2.1 (by obtain ⟨y, hy, rfl⟩ := List.mem_map.1 hx; exact .inr (.inr (.inl ⟨y, hy, .inl (by rw [e]; have := HZ.out; omega)⟩)))
    have HR : Kept (Rfz ⟨3, tx, I, P ++ [(z, { data := #[] })], R⟩ 2) := .inr (.inl ⟨rfl, fun h => by
      rcases h with h | h | h
      · exact h (.inr (.inr (.inl ⟨rfl, hnil⟩)))
      · rcases h with ⟨h1, h⟩ | h | h
        · dsimp only at h1; omega
        · dsimp only at h
          rw [List.map_append] at h
          exact h (List.nodup_append.2 ⟨Classical.byContradiction (fun e => H0.out.ok.1 (.inr (.inl (.inr (.inl e))))), by simp, fun a ha b hb => by simp at hb; subst hb; exact hnew a ha⟩)
        · exact H0.out.ok.1 (.inr (.inl (.inr (.inr h))))
      · exact H0.out.ok.1 (.inr (.inr h)), .inr (.inr (.inl ⟨(z, { data := #[] }), by simp, .inl (by have := HZ.out; dsimp only; omega)⟩))⟩)
    have HWN : Kept (Wf ⟨3, tx, I, P ++ [(z, { data := #[] })], R⟩) := ⟨HWF.out.1, HWF.out.2.1, fun x hx => by rcases List.mem_append.1 hx with h | h; exact HWF.out.2.2.1 x h; simp at h; subst h; have := HZ.out; exact ⟨by dsimp only; unfold maxLen; omega, by dsimp only; decide⟩, HWF.out.2.2.2⟩
    have hcl : how = 3 ∨ how = 6 ∨ (how = 7 ∧ ¬ 0 < m2) ∨ how = 8 ∨ how = 9 ∨ (how ≠ 0 ∧ how ≠ 1 ∧ how ≠ 2 ∧ how ≠ 3 ∧ how ≠ 4 ∧ how ≠ 5 ∧ how ≠ 6 ∧ how ≠ 7 ∧ how ≠ 8 ∧ how ≠ 9) := by omega
    clear hnil hb6 hnew h2 h3 h4 h5 h6 h7 h8 h9
    rcases hcl with rfl | rfl | ⟨rfl, hm2⟩ | rfl | rfl | ⟨q0, q1, q2, q3, q4, q5, q6, q7, q8, q9⟩
    case' inr.inr.inr.inr.inr =>
      have g0 : (how == 0) = false := by simpa using q0
      have g1 : (how == 1) = false := by simpa using q1
      have g2 : (how == 2) = false := by simpa using q2
      have g3 : (how == 3) = false := by simpa using q3
      have g4 : (how == 4) = false := by simpa using q4
      have g5 : (how == 5) = false := by simpa using q5
      have g6 : (how == 6) = false := by simpa using q6
      have g7 : (how == 7) = false := by simpa using q7
      have g8 : (how == 8) = false := by simpa using q8
      have g9 : (how == 9) = false := by simpa using q9
      clear h0 h1 q0 q1 q2 q3 q4 q5 q6 q7 q8 q9
    all_goals
      go_upto_region 35 with fail
      clear e0 e1 e2 e3 e4 f0 f1 f2 f3 f4
      apply wp_at
      case h =>
        refine wp_region_held_drew (S := fun _ => True) (by kernel_rfl) trivial (fun hHeld => ?_)
        refine wpAnyH_take (i := 0) (oi := ⟨some 216, _, _, _, _, _⟩) (v := (.pointer (some ⟨B, 3, none⟩))) rfl (by kernel_rfl) (by kernel_rfl) (by kernel_rfl) (fun _ _ _ h => h) (Or.inl ⟨by rfl, by intro w hSw; first | (go_simp; done) | (go_simp; simp [*]; done) | (simp [*]; go_simp; done)⟩) (by assumption) ?_
        try simp only [Act.put, List.setIfInBounds_toArray, List.set_cons_zero, List.set_cons_succ]
        refine wpAnyH_ready (rs := [1, 2]) (by kernel_rfl) (by simp) ?_
        refine AllReadyH.cons (o := ⟨some 217, _, _, _, _, _⟩) rfl (fun K hK => ?_) (AllReadyH.cons (o := ⟨some 218, _, _, _, _, _⟩) rfl (fun K hK => ?_) AllReadyH.nil)
        · have rb := RB0.out
          go_simp
          refine hK.out _ _ trivial (fun hHeld => ?_)
          try simp only [Act.put, List.setIfInBounds_toArray, List.set_cons_zero, List.set_cons_succ]
          clear hK rb
          refine wpAnyH_ready (rs := [2]) (by kernel_rfl) (by simp) ?_
          refine AllReadyH.cons (o := ⟨some 218, _, _, _, _, _⟩) rfl (fun K hK => ?_) AllReadyH.nil
          have rb := MK.out
          go_simp
          refine hK.out _ _ trivial (fun hHeld => ?_)
          try simp only [Act.put, List.setIfInBounds_toArray, List.set_cons_zero, List.set_cons_succ]
          clear hK rb
          refine wpAnyH_ready (rs := [3]) (by kernel_rfl) (by simp) ?_
          refine AllReadyH.cons (o := ⟨some 219, _, _, _, _, _⟩) rfl (fun K hK => ?_) AllReadyH.nil
          have rb := CV.out
          go_simp
          refine hK.out _ _ trivial (fun hHeld => ?_)
          try simp only [Act.put, List.setIfInBounds_toArray, List.set_cons_zero, List.set_cons_succ]
          clear hK rb
          refine wpAnyH_take (i := 4) (oi := ⟨some 220, _, _, _, _, _⟩) (v := (.agg #[.string z, .string { data := #[] }])) rfl (by kernel_rfl) (by kernel_rfl) (by kernel_rfl) (fun _ _ _ h => h) (Or.inl ⟨by rfl, by intro w hSw; first | (go_simp; done) | (go_simp; simp [*]; done) | (simp [*]; go_simp; done)⟩) (by assumption) ?_
          try simp only [Act.put, List.setIfInBounds_toArray, List.set_cons_zero, List.set_cons_succ]
          refine wpAnyH_ready (rs := [5]) (by kernel_rfl) (by simp) ?_
          refine AllReadyH.cons (o := ⟨some 221, _, _, _, _, _⟩) rfl (fun K hK => ?_) AllReadyH.nil
          go_simp
          refine hK.out _ _ trivial (fun hHeld => ?_)
          try simp only [Act.put, List.setIfInBounds_toArray, List.set_cons_zero, List.set_cons_succ]
          clear hK
          refine wpAnyH_ready (rs := [6]) (by kernel_rfl) (by simp) ?_
          refine AllReadyH.cons (o := ⟨some 222, _, _, _, _, _⟩) rfl (fun K hK => ?_) AllReadyH.nil
          rw [if_pos (by rfl)]
          refine app_one (.tmp 217) (.tmp 221) 23 rfl _ _ _ rfl rfl R3.out ?_
          refine hK.out _ _ trivial (fun hHeld => ?_)
          try simp only [Act.put, List.setIfInBounds_toArray, List.set_cons_zero, List.set_cons_succ]
          clear hK
          refine wpAnyH_take (i := 7) (oi := ⟨some 223, _, _, _, _, _⟩) (v := (.pointer (some ⟨B, 3, none⟩))) rfl (by kernel_rfl) (by kernel_rfl) (by kernel_rfl) (fun _ _ _ h => h) (Or.inl ⟨by rfl, by intro w hSw; first | (go_simp; done) | (go_simp; simp [*]; done) | (simp [*]; go_simp; done)⟩) (by assumption) ?_
          try simp only [Act.put, List.setIfInBounds_toArray, List.set_cons_zero, List.set_cons_succ]
          refine wpAnyH_ready (rs := [8]) (by kernel_rfl) (by simp) ?_
          refine AllReadyH.cons (o := ⟨none, _, _, _, _, _⟩) rfl (fun K hK => ?_) AllReadyH.nil
          go_simp
          refine hK.out _ _ trivial (fun hHeld => ?_)
          try simp only [Act.put, List.setIfInBounds_toArray, List.set_cons_zero, List.set_cons_succ]
          clear hK
          exact wpAnyH_done (by kernel_rfl) ⟨rfl, rfl⟩ _
        · have rb := MK.out
          go_simp
          refine hK.out _ _ trivial (fun hHeld => ?_)
          try simp only [Act.put, List.setIfInBounds_toArray, List.set_cons_zero, List.set_cons_succ]
          clear hK rb
          refine wpAnyH_ready (rs := [1, 3]) (by kernel_rfl) (by simp) ?_
          refine AllReadyH.cons (o := ⟨some 217, _, _, _, _, _⟩) rfl (fun K hK => ?_) (AllReadyH.cons (o := ⟨some 219, _, _, _, _, _⟩) rfl (fun K hK => ?_) AllReadyH.nil)
          · have rb := RB1.out
            go_simp
            refine hK.out _ _ trivial (fun hHeld => ?_)
            try simp only [Act.put, List.setIfInBounds_toArray, List.set_cons_zero, List.set_cons_succ]
            clear hK rb
            refine wpAnyH_ready (rs := [3]) (by kernel_rfl) (by simp) ?_
            refine AllReadyH.cons (o := ⟨some 219, _, _, _, _, _⟩) rfl (fun K hK => ?_) AllReadyH.nil
            have rb := CV.out
            go_simp
            refine hK.out _ _ trivial (fun hHeld => ?_)
            try simp only [Act.put, List.setIfInBounds_toArray, List.set_cons_zero, List.set_cons_succ]
            clear hK rb
            refine wpAnyH_take (i := 4) (oi := ⟨some 220, _, _, _, _, _⟩) (v := (.agg #[.string z, .string { data := #[] }])) rfl (by kernel_rfl) (by kernel_rfl) (by kernel_rfl) (fun _ _ _ h => h) (Or.inl ⟨by rfl, by intro w hSw; first | (go_simp; done) | (go_simp; simp [*]; done) | (simp [*]; go_simp; done)⟩) (by assumption) ?_
            try simp only [Act.put, List.setIfInBounds_toArray, List.set_cons_zero, List.set_cons_succ]
            refine wpAnyH_ready (rs := [5]) (by kernel_rfl) (by simp) ?_
            refine AllReadyH.cons (o := ⟨some 221, _, _, _, _, _⟩) rfl (fun K hK => ?_) AllReadyH.nil
            go_simp
            refine hK.out _ _ trivial (fun hHeld => ?_)
            try simp only [Act.put, List.setIfInBounds_toArray, List.set_cons_zero, List.set_cons_succ]
            clear hK
            refine wpAnyH_ready (rs := [6]) (by kernel_rfl) (by simp) ?_
            refine AllReadyH.cons (o := ⟨some 222, _, _, _, _, _⟩) rfl (fun K hK => ?_) AllReadyH.nil
            rw [if_pos (by rfl)]
            refine app_one (.tmp 217) (.tmp 221) 23 rfl _ _ _ rfl rfl R3.out ?_
            refine hK.out _ _ trivial (fun hHeld => ?_)
            try simp only [Act.put, List.setIfInBounds_toArray, List.set_cons_zero, List.set_cons_succ]
            clear hK
            refine wpAnyH_take (i := 7) (oi := ⟨some 223, _, _, _, _, _⟩) (v := (.pointer (some ⟨B, 3, none⟩))) rfl (by kernel_rfl) (by kernel_rfl) (by kernel_rfl) (fun _ _ _ h => h) (Or.inl ⟨by rfl, by intro w hSw; first | (go_simp; done) | (go_simp; simp [*]; done) | (simp [*]; go_simp; done)⟩) (by assumption) ?_
            try simp only [Act.put, List.setIfInBounds_toArray, List.set_cons_zero, List.set_cons_succ]
            refine wpAnyH_ready (rs := [8]) (by kernel_rfl) (by simp) ?_
            refine AllReadyH.cons (o := ⟨none, _, _, _, _, _⟩) rfl (fun K hK => ?_) AllReadyH.nil
            go_simp
            refine hK.out _ _ trivial (fun hHeld => ?_)
            try simp only [Act.put, List.setIfInBounds_toArray, List.set_cons_zero, List.set_cons_succ]
            clear hK
            exact wpAnyH_done (by kernel_rfl) ⟨rfl, rfl⟩ _
          · have rb := CV.out
            go_simp
            refine hK.out _ _ trivial (fun hHeld => ?_)
            try simp only [Act.put, List.setIfInBounds_toArray, List.set_cons_zero, List.set_cons_succ]
            clear hK rb
            refine wpAnyH_take (i := 4) (oi := ⟨some 220, _, _, _, _, _⟩) (v := (.agg #[.string z, .string { data := #[] }])) rfl (by kernel_rfl) (by kernel_rfl) (by kernel_rfl) (fun _ _ _ h => h) (Or.inl ⟨by rfl, by intro w hSw; first | (go_simp; done) | (go_simp; simp [*]; done) | (simp [*]; go_simp; done)⟩) (by assumption) ?_
            try simp only [Act.put, List.setIfInBounds_toArray, List.set_cons_zero, List.set_cons_succ]
            refine wpAnyH_ready (rs := [1, 5]) (by kernel_rfl) (by simp) ?_
            refine AllReadyH.cons (o := ⟨some 217, _, _, _, _, _⟩) rfl (fun K hK => ?_) (AllReadyH.cons (o := ⟨some 221, _, _, _, _, _⟩) rfl (fun K hK => ?_) AllReadyH.nil)
            · have rb := RB1.out
              go_simp
              refine hK.out _ _ trivial (fun hHeld => ?_)
              try simp only [Act.put, List.setIfInBounds_toArray, List.set_cons_zero, List.set_cons_succ]
              clear hK rb
              refine wpAnyH_ready (rs := [5]) (by kernel_rfl) (by simp) ?_
              refine AllReadyH.cons (o := ⟨some 221, _, _, _, _, _⟩) rfl (fun K hK => ?_) AllReadyH.nil
              go_simp
              refine hK.out _ _ trivial (fun hHeld => ?_)
              try simp only [Act.put, List.setIfInBounds_toArray, List.set_cons_zero, List.set_cons_succ]
              clear hK
              refine wpAnyH_ready (rs := [6]) (by kernel_rfl) (by simp) ?_
              refine AllReadyH.cons (o := ⟨some 222, _, _, _, _, _⟩) rfl (fun K hK => ?_) AllReadyH.nil
              rw [if_pos (by rfl)]
              refine app_one (.tmp 217) (.tmp 221) 23 rfl _ _ _ rfl rfl R3.out ?_
              refine hK.out _ _ trivial (fun hHeld => ?_)
              try simp only [Act.put, List.setIfInBounds_toArray, List.set_cons_zero, List.set_cons_succ]
              clear hK
              refine wpAnyH_take (i := 7) (oi := ⟨some 223, _, _, _, _, _⟩) (v := (.pointer (some ⟨B, 3, none⟩))) rfl (by kernel_rfl) (by kernel_rfl) (by kernel_rfl) (fun _ _ _ h => h) (Or.inl ⟨by rfl, by intro w hSw; first | (go_simp; done) | (go_simp; simp [*]; done) | (simp [*]; go_simp; done)⟩) (by assumption) ?_
              try simp only [Act.put, List.setIfInBounds_toArray, List.set_cons_zero, List.set_cons_succ]
              refine wpAnyH_ready (rs := [8]) (by kernel_rfl) (by simp) ?_
              refine AllReadyH.cons (o := ⟨none, _, _, _, _, _⟩) rfl (fun K hK => ?_) AllReadyH.nil
              go_simp
              refine hK.out _ _ trivial (fun hHeld => ?_)
              try simp only [Act.put, List.setIfInBounds_toArray, List.set_cons_zero, List.set_cons_succ]
              clear hK
              exact wpAnyH_done (by kernel_rfl) ⟨rfl, rfl⟩ _
            · go_simp
              refine hK.out _ _ trivial (fun hHeld => ?_)
              try simp only [Act.put, List.setIfInBounds_toArray, List.set_cons_zero, List.set_cons_succ]
              clear hK
              refine wpAnyH_ready (rs := [1]) (by kernel_rfl) (by simp) ?_
              refine AllReadyH.cons (o := ⟨some 217, _, _, _, _, _⟩) rfl (fun K hK => ?_) AllReadyH.nil
              have rb := RB2.out
              go_simp
              refine hK.out _ _ trivial (fun hHeld => ?_)
              try simp only [Act.put, List.setIfInBounds_toArray, List.set_cons_zero, List.set_cons_succ]
              clear hK rb
              refine wpAnyH_ready (rs := [6]) (by kernel_rfl) (by simp) ?_
              refine AllReadyH.cons (o := ⟨some 222, _, _, _, _, _⟩) rfl (fun K hK => ?_) AllReadyH.nil
              rw [if_pos (by rfl)]
              refine app_one (.tmp 217) (.tmp 221) 23 rfl _ _ _ rfl rfl R3.out ?_
              refine hK.out _ _ trivial (fun hHeld => ?_)
              try simp only [Act.put, List.setIfInBounds_toArray, List.set_cons_zero, List.set_cons_succ]
              clear hK
              refine wpAnyH_take (i := 7) (oi := ⟨some 223, _, _, _, _, _⟩) (v := (.pointer (some ⟨B, 3, none⟩))) rfl (by kernel_rfl) (by kernel_rfl) (by kernel_rfl) (fun _ _ _ h => h) (Or.inl ⟨by rfl, by intro w hSw; first | (go_simp; done) | (go_simp; simp [*]; done) | (simp [*]; go_simp; done)⟩) (by assumption) ?_
              try simp only [Act.put, List.setIfInBounds_toArray, List.set_cons_zero, List.set_cons_succ]
              refine wpAnyH_ready (rs := [8]) (by kernel_rfl) (by simp) ?_
              refine AllReadyH.cons (o := ⟨none, _, _, _, _, _⟩) rfl (fun K hK => ?_) AllReadyH.nil
              go_simp
              refine hK.out _ _ trivial (fun hHeld => ?_)
              try simp only [Act.put, List.setIfInBounds_toArray, List.set_cons_zero, List.set_cons_succ]
              clear hK
              exact wpAnyH_done (by kernel_rfl) ⟨rfl, rfl⟩ _
      clear y0 y1 y2 y3 y4 yf
      obtain ⟨⟨e0, e1, e2, e3, e4⟩, _⟩ := HN.out.box
      have mO := of_any _ _ ⟨3, tx, I, P ++ [(z, { data := #[] })], R⟩ 3 HN.out.pln HWN.out (by decide)
      unfold plV at mO
      dsimp only at mO
      go_wp2_with fail
      refine mO.mono ?_
      rintro _ V7 ⟨hO, hb⟩
      have HN7 := keep (HN.out.bel hb)
      clear mO hb e0 e1 e2 e3 e4
      rcases hO with ⟨c, hc0, hc, rfl⟩ | ⟨h0, _⟩
      · obtain rfl := hc.one HR.out
        obtain ⟨⟨e0, e1, e2, e3, e4⟩, _⟩ := HN7.out.box
        have mC := pcost_any V7 _ _ HN7.out.pln HWN.out
        unfold plV at mC
        dsimp only at mC
        clear hc0 hc
        go_wp2_with fail
        refine mC.mono ?_
        rintro _ V8 ⟨⟨k, rfl, hk⟩, hb⟩
        have hk0 : k = 0 := by
          rcases hk with ⟨h, _⟩ | ⟨_, h⟩
          · exact absurd (HR.out.one h) (by decide)
          · exact h
        subst hk0
        have HN8 := keep (HN7.out.bel hb)
        clear mC hb hk e0 e1 e2 e3 e4
        go_wp2
        go_ret
        exact ⟨by first | rfl | simp, HV0.out.trans (HN8.out.2.2.2.2.1.mono HV0.out.size)⟩
      · exact absurd (h0.one HR.out) (by decide)
  by_cases hk5 : kd = 5
  · have := SEL.out; exfalso; omega
  have hk24 : kd = 2 ∨ kd = 4 := by have := HK.out; omega
  have := SEL.out; exfalso; omega
end Vl
end Go.Proofs.YtmgeaanbgjbkcaaGreat
