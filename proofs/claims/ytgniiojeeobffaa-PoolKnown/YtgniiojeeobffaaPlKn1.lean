/-
  The statement's own walk: the chapter's examples.
-/
import Derived.Test.YtgniiojeeobffaaPlKn0
namespace Go.Proofs.Ytgniiojeeobffaa
open Go.RowKit Go.Shelf
set_option linter.unusedVariables false
set_option linter.unusedSimpArgs false
set_option maxRecDepth 100000 in
set_option maxHeartbeats 8000000 in
theorem known_walk (W : World) : Calls Try.prog 7 #[] W fun e w' => e = .returned (.bool true) ∧ Below W.heap.size W w' := by
  have MW := keep (wakes_any W)
  have und := und_cd
  have stood := stood_cd
  have gua := guard_cd
  go_enter Try.func7, Try.ntmps7
  go_wp2_with fail
  refine MW.out.mono ?_
  rintro _ w1 ⟨rfl, hb1⟩
  have B1 := keep hb1
  have MN := keep (new_ok w1 2 (by omega) (by omega))
  clear hb1 MW
  go_wp2_with fail
  refine MN.out.mono ?_
  rintro _ w2 ⟨rfl, hp2⟩
  obtain ⟨b, hb⟩ : ∃ b, w1.heap.size = b := ⟨_, rfl⟩
  rw [hb] at hp2 ⊢
  have hp := hp2.from B1.out
  obtain ⟨A, hA⟩ : ∃ x, w2.heap.size = x := ⟨_, rfl⟩
  obtain ⟨W3, hW3⟩ : ∃ x, w2.alloc (ob (ca, 5)) = x := ⟨_, rfl⟩
  have p3 := hp.more (ob (ca, 5))
  rw [hW3, hA] at p3
  obtain ⟨B, hB⟩ : ∃ x, W3.heap.size = x := ⟨_, rfl⟩
  obtain ⟨W4, hW4⟩ : ∃ x, W3.alloc (ob (cb, 3)) = x := ⟨_, rfl⟩
  have p4 := p3.more (ob (cb, 3))
  rw [hW4, hB] at p4
  obtain ⟨C, hC⟩ : ∃ x, W4.heap.size = x := ⟨_, rfl⟩
  obtain ⟨W5, hW5⟩ : ∃ x, W4.alloc (ob (cc, 4)) = x := ⟨_, rfl⟩
  have p5 := p4.more (ob (cc, 4))
  rw [hW5, hC] at p5
  have PD0 : Kept (PX W (X3 A B C (ca, 5) (cb, 3) (cc, 4)) W5.drew b _ 2 []) := (p5.less (fun p h => by simp [X3] at h; rcases h with rfl | rfl | rfl <;> simp)).below ((Below.refl _ W5).drew)
  have HLT : Kept (W.heap.size ≤ A ∧ A < B ∧ B < C) := by
    have := hp.bel.size
    refine ⟨by omega, ?_, ?_⟩
    · rw [← hB, ← hA, ← hW3]; simp
    · rw [← hC, ← hB, ← hW4]; simp
  clear MN hp2 hb B1 hp p3 p4 p5
  unfold ob at hW3 hW4 hW5
  dsimp only at hW3 hW4 hW5
  go_wp2_with fail
  refine code_two (fun a u v => ((((((((((((((((((((((((((((((((((a.put (some 25) (.pointer (some ⟨b, 0, none⟩))).put (some 26) (.bool false)).put (some 27) (.bool false)).put (some 28) (.pointer (some ⟨b, 0, none⟩))).put (some 29) (.agg #[.string ca, .int .u64 5])).put (some 30) (.bool true)).put (some 31) (.bool false)).put (some 32) (.bool false)).put (some 33) (.bool false)).put (some 34) (.pointer (some ⟨b, 0, none⟩))).put (some 35) (.agg #[.string cb, .int .u64 3])).put (some 36) (.bool true)).put (some 37) (.bool false)).put (some 38) (.bool false)).put (some 39) (.bool false)).put (some 40) (.pointer (some ⟨b, 0, none⟩))).put (some 41) (.agg #[.string cc, .int .u64 9])).put (some 42) (.bool false)).put (some 43) (.bool false)).put (some 44) (.bool false)).put (some 45) (.pointer (some ⟨b, 0, none⟩))).put (some 46) (.agg #[.string cc, .int .u64 4])).put (some 47) (.bool true)).put (some 48) (.bool false)).put (some 49) (.bool false)).put (some 50) (.bool false)).put (some 51) (.pointer (some ⟨b, 0, none⟩))).put (some 52) (u)).put (some 53) (.agg #[.string cb, .int .u64 3])).put (some 54) (.agg #[.string cc, .int .u64 4])).put (some 55) (v)).put (some 56) (.bool true)).put (some 57) (.bool false)).put (some 58) (.bool false))) (fun w' => ∃ v, PX W (X3 A B C (ca, 5) (cb, 3) (cc, 4)) w' b v 2 [(cb, 3), (cc, 4)]) ?first ?rest
  case first =>
    refine wp_region_held_drew (S := K3 A B C (ca, 5) (cb, 3) (cc, 4)) (by kernel_rfl) (PD0.out.k3 (fun _ h => h)) (fun hHeld => ?_)
    refine wpAnyH_take (i := 0) (oi := { dst := some 25, op := _, type := _, pos := _, after := _, guard := _ }) (v := ?v1) rfl (by kernel_rfl) (by kernel_rfl) (by kernel_rfl) (fun _ _ _ h => h) (Or.inl ⟨by rfl, ?hy1⟩) (by assumption) ?rest1
    case hy1 => (intro w hSw; go_simp; try with_reducible rfl)
    try simp only [Act.put, List.setIfInBounds_toArray, List.set_cons_zero, List.set_cons_succ]
    refine wpAnyH_take (i := 1) (oi := { dst := some 26, op := _, type := _, pos := _, after := _, guard := _ }) (v := (.bool false)) rfl (by kernel_rfl) (by kernel_rfl) (by kernel_rfl) (fun _ _ _ h => h) (Or.inl ⟨by rfl, ?hy2⟩) (by assumption) ?rest2
    case hy2 => (intro w hSw; first | (go_simp; done) | (go_simp; simp [*]; done) | (simp [*]; go_simp; done))
    try simp only [Act.put, List.setIfInBounds_toArray, List.set_cons_zero, List.set_cons_succ]
    refine wpAnyH_take (i := 2) (oi := { dst := some 27, op := _, type := _, pos := _, after := _, guard := _ }) (v := (.bool false)) rfl (by kernel_rfl) (by kernel_rfl) (by kernel_rfl) (fun _ _ _ h => h) (Or.inl ⟨by rfl, ?hy3⟩) (by assumption) ?rest3
    case hy3 => (intro w hSw; first | (go_simp; done) | (go_simp; simp [*]; done) | (simp [*]; go_simp; done))
    try simp only [Act.put, List.setIfInBounds_toArray, List.set_cons_zero, List.set_cons_succ]
    refine wpAnyH_take (i := 3) (oi := { dst := some 28, op := _, type := _, pos := _, after := _, guard := _ }) (v := ?v4) rfl (by kernel_rfl) (by kernel_rfl) (by kernel_rfl) (fun _ _ _ h => h) (Or.inl ⟨by rfl, ?hy4⟩) (by assumption) ?rest4
    case hy4 => (intro w hSw; obtain ⟨⟨p0,p1⟩,⟨p2,p3⟩,p4,p5⟩ := hSw; go_simp; try with_reducible rfl)
    try simp only [Act.put, List.setIfInBounds_toArray, List.set_cons_zero, List.set_cons_succ]
    refine wpAnyH_take (i := 4) (oi := { dst := some 29, op := _, type := _, pos := _, after := _, guard := _ }) (v := (.agg #[.string ca, .int .u64 5])) rfl (by kernel_rfl) (by kernel_rfl) (by kernel_rfl) (fun _ _ _ h => h) (Or.inl ⟨by rfl, ?hy5⟩) (by assumption) ?rest5
    case hy5 => (intro w hSw; obtain ⟨⟨p0,p1⟩,⟨p2,p3⟩,p4,p5⟩ := hSw; first | (go_simp; done) | (go_simp; simp [*]; done) | (simp [*]; go_simp; done))
    try simp only [Act.put, List.setIfInBounds_toArray, List.set_cons_zero, List.set_cons_succ]
    have MO30 := keep (px_offer PD0.out (ca, 5) good0 (by simp) (by omega) kn1)
    dsimp only at MO30
    refine wpAnyH_ready (rs := [5]) (by kernel_rfl) (by simp) ?_
    refine AllReadyH.cons (o := { dst := some 30, op := _, type := _, pos := _, after := _, guard := _ }) rfl (fun K hK => ?_) AllReadyH.nil
    go_simp
    refine MO30.out.mono ?_
    rintro _ wo1 ⟨rfl, vwo1, pwo1⟩
    have PO1 := keep pwo1
    refine hK.out _ _ (pwo1.k3 (fun _ h => h)) (fun hHeld => ?_)
    try simp only [Act.put, List.setIfInBounds_toArray, List.set_cons_zero, List.set_cons_succ]
    clear hK pwo1 MO30
    refine wpAnyH_take (i := 6) (oi := { dst := some 31, op := _, type := _, pos := _, after := _, guard := _ }) (v := (.bool false)) rfl (by kernel_rfl) (by kernel_rfl) (by kernel_rfl) (fun _ _ _ h => h) (Or.inl ⟨by rfl, ?hy6⟩) (by assumption) ?rest6
    case hy6 => (intro w hSw; obtain ⟨⟨p0,p1⟩,⟨p2,p3⟩,p4,p5⟩ := hSw; first | (go_simp; done) | (go_simp; simp [*]; done) | (simp [*]; go_simp; done))
    try simp only [Act.put, List.setIfInBounds_toArray, List.set_cons_zero, List.set_cons_succ]
    refine wpAnyH_take (i := 7) (oi := { dst := some 32, op := _, type := _, pos := _, after := _, guard := _ }) (v := (.bool false)) rfl (by kernel_rfl) (by kernel_rfl) (by kernel_rfl) (fun _ _ _ h => h) (Or.inl ⟨by rfl, ?hy7⟩) (by assumption) ?rest7
    case hy7 => (intro w hSw; obtain ⟨⟨p0,p1⟩,⟨p2,p3⟩,p4,p5⟩ := hSw; first | (go_simp; done) | (go_simp; simp [*]; done) | (simp [*]; go_simp; done))
    try simp only [Act.put, List.setIfInBounds_toArray, List.set_cons_zero, List.set_cons_succ]
    refine wpAnyH_take (i := 8) (oi := { dst := some 33, op := _, type := _, pos := _, after := _, guard := _ }) (v := (.bool false)) rfl (by kernel_rfl) (by kernel_rfl) (by kernel_rfl) (fun _ _ _ h => h) (Or.inl ⟨by rfl, ?hy8⟩) (by assumption) ?rest8
    case hy8 => (intro w hSw; obtain ⟨⟨p0,p1⟩,⟨p2,p3⟩,p4,p5⟩ := hSw; first | (go_simp; done) | (go_simp; simp [*]; done) | (simp [*]; go_simp; done))
    try simp only [Act.put, List.setIfInBounds_toArray, List.set_cons_zero, List.set_cons_succ]
    refine wpAnyH_take (i := 9) (oi := { dst := some 34, op := _, type := _, pos := _, after := _, guard := _ }) (v := ?v9) rfl (by kernel_rfl) (by kernel_rfl) (by kernel_rfl) (fun _ _ _ h => h) (Or.inl ⟨by rfl, ?hy9⟩) (by assumption) ?rest9
    case hy9 => (intro w hSw; obtain ⟨⟨p0,p1⟩,⟨p2,p3⟩,p4,p5⟩ := hSw; go_simp; try with_reducible rfl)
    try simp only [Act.put, List.setIfInBounds_toArray, List.set_cons_zero, List.set_cons_succ]
    refine wpAnyH_take (i := 10) (oi := { dst := some 35, op := _, type := _, pos := _, after := _, guard := _ }) (v := (.agg #[.string cb, .int .u64 3])) rfl (by kernel_rfl) (by kernel_rfl) (by kernel_rfl) (fun _ _ _ h => h) (Or.inl ⟨by rfl, ?hy10⟩) (by assumption) ?rest10
    case hy10 => (intro w hSw; obtain ⟨⟨p0,p1⟩,⟨p2,p3⟩,p4,p5⟩ := hSw; first | (go_simp; done) | (go_simp; simp [*]; done) | (simp [*]; go_simp; done))
    try simp only [Act.put, List.setIfInBounds_toArray, List.set_cons_zero, List.set_cons_succ]
    have MO36 := keep (px_offer PO1.out (cb, 3) (good1 _) (by simp) (by omega) kn2)
    dsimp only at MO36
    refine wpAnyH_ready (rs := [11]) (by kernel_rfl) (by simp) ?_
    refine AllReadyH.cons (o := { dst := some 36, op := _, type := _, pos := _, after := _, guard := _ }) rfl (fun K hK => ?_) AllReadyH.nil
    go_simp
    refine MO36.out.mono ?_
    rintro _ wo2 ⟨rfl, vwo2, pwo2⟩
    have PO2 := keep pwo2
    refine hK.out _ _ (pwo2.k3 (fun _ h => h)) (fun hHeld => ?_)
    try simp only [Act.put, List.setIfInBounds_toArray, List.set_cons_zero, List.set_cons_succ]
    clear hK pwo2 MO36
    refine wpAnyH_take (i := 12) (oi := { dst := some 37, op := _, type := _, pos := _, after := _, guard := _ }) (v := (.bool false)) rfl (by kernel_rfl) (by kernel_rfl) (by kernel_rfl) (fun _ _ _ h => h) (Or.inl ⟨by rfl, ?hy11⟩) (by assumption) ?rest11
    case hy11 => (intro w hSw; obtain ⟨⟨p0,p1⟩,⟨p2,p3⟩,p4,p5⟩ := hSw; first | (go_simp; done) | (go_simp; simp [*]; done) | (simp [*]; go_simp; done))
    try simp only [Act.put, List.setIfInBounds_toArray, List.set_cons_zero, List.set_cons_succ]
    refine wpAnyH_take (i := 13) (oi := { dst := some 38, op := _, type := _, pos := _, after := _, guard := _ }) (v := (.bool false)) rfl (by kernel_rfl) (by kernel_rfl) (by kernel_rfl) (fun _ _ _ h => h) (Or.inl ⟨by rfl, ?hy12⟩) (by assumption) ?rest12
    case hy12 => (intro w hSw; obtain ⟨⟨p0,p1⟩,⟨p2,p3⟩,p4,p5⟩ := hSw; first | (go_simp; done) | (go_simp; simp [*]; done) | (simp [*]; go_simp; done))
    try simp only [Act.put, List.setIfInBounds_toArray, List.set_cons_zero, List.set_cons_succ]
    refine wpAnyH_take (i := 14) (oi := { dst := some 39, op := _, type := _, pos := _, after := _, guard := _ }) (v := (.bool false)) rfl (by kernel_rfl) (by kernel_rfl) (by kernel_rfl) (fun _ _ _ h => h) (Or.inl ⟨by rfl, ?hy13⟩) (by assumption) ?rest13
    case hy13 => (intro w hSw; obtain ⟨⟨p0,p1⟩,⟨p2,p3⟩,p4,p5⟩ := hSw; first | (go_simp; done) | (go_simp; simp [*]; done) | (simp [*]; go_simp; done))
    try simp only [Act.put, List.setIfInBounds_toArray, List.set_cons_zero, List.set_cons_succ]
    refine wpAnyH_take (i := 15) (oi := { dst := some 40, op := _, type := _, pos := _, after := _, guard := _ }) (v := ?v14) rfl (by kernel_rfl) (by kernel_rfl) (by kernel_rfl) (fun _ _ _ h => h) (Or.inl ⟨by rfl, ?hy14⟩) (by assumption) ?rest14
    case hy14 => (intro w hSw; obtain ⟨⟨p0,p1⟩,⟨p2,p3⟩,p4,p5⟩ := hSw; go_simp; try with_reducible rfl)
    try simp only [Act.put, List.setIfInBounds_toArray, List.set_cons_zero, List.set_cons_succ]
    refine wpAnyH_take (i := 16) (oi := { dst := some 41, op := _, type := _, pos := _, after := _, guard := _ }) (v := (.agg #[.string cc, .int .u64 9])) rfl (by kernel_rfl) (by kernel_rfl) (by kernel_rfl) (fun _ _ _ h => h) (Or.inl ⟨by rfl, ?hy15⟩) (by assumption) ?rest15
    case hy15 => (intro w hSw; obtain ⟨⟨p0,p1⟩,⟨p2,p3⟩,p4,p5⟩ := hSw; first | (go_simp; done) | (go_simp; simp [*]; done) | (simp [*]; go_simp; done))
    try simp only [Act.put, List.setIfInBounds_toArray, List.set_cons_zero, List.set_cons_succ]
    have MO42 := keep (px_offer PO2.out (cc, 9) gd1 (by simp) (by omega) kn3)
    dsimp only at MO42
    refine wpAnyH_ready (rs := [17]) (by kernel_rfl) (by simp) ?_
    refine AllReadyH.cons (o := { dst := some 42, op := _, type := _, pos := _, after := _, guard := _ }) rfl (fun K hK => ?_) AllReadyH.nil
    go_simp
    refine MO42.out.mono ?_
    rintro _ wo3 ⟨rfl, vwo3, pwo3⟩
    have PO3 := keep pwo3
    refine hK.out _ _ (pwo3.k3 (fun _ h => h)) (fun hHeld => ?_)
    try simp only [Act.put, List.setIfInBounds_toArray, List.set_cons_zero, List.set_cons_succ]
    clear hK pwo3 MO42
    refine wpAnyH_take (i := 18) (oi := { dst := some 43, op := _, type := _, pos := _, after := _, guard := _ }) (v := (.bool false)) rfl (by kernel_rfl) (by kernel_rfl) (by kernel_rfl) (fun _ _ _ h => h) (Or.inl ⟨by rfl, ?hy16⟩) (by assumption) ?rest16
    case hy16 => (intro w hSw; obtain ⟨⟨p0,p1⟩,⟨p2,p3⟩,p4,p5⟩ := hSw; first | (go_simp; done) | (go_simp; simp [*]; done) | (simp [*]; go_simp; done))
    try simp only [Act.put, List.setIfInBounds_toArray, List.set_cons_zero, List.set_cons_succ]
    refine wpAnyH_take (i := 19) (oi := { dst := some 44, op := _, type := _, pos := _, after := _, guard := _ }) (v := (.bool false)) rfl (by kernel_rfl) (by kernel_rfl) (by kernel_rfl) (fun _ _ _ h => h) (Or.inl ⟨by rfl, ?hy17⟩) (by assumption) ?rest17
    case hy17 => (intro w hSw; obtain ⟨⟨p0,p1⟩,⟨p2,p3⟩,p4,p5⟩ := hSw; first | (go_simp; done) | (go_simp; simp [*]; done) | (simp [*]; go_simp; done))
    try simp only [Act.put, List.setIfInBounds_toArray, List.set_cons_zero, List.set_cons_succ]
    refine wpAnyH_take (i := 20) (oi := { dst := some 45, op := _, type := _, pos := _, after := _, guard := _ }) (v := ?v18) rfl (by kernel_rfl) (by kernel_rfl) (by kernel_rfl) (fun _ _ _ h => h) (Or.inl ⟨by rfl, ?hy18⟩) (by assumption) ?rest18
    case hy18 => (intro w hSw; obtain ⟨⟨p0,p1⟩,⟨p2,p3⟩,p4,p5⟩ := hSw; go_simp; try with_reducible rfl)
    try simp only [Act.put, List.setIfInBounds_toArray, List.set_cons_zero, List.set_cons_succ]
    refine wpAnyH_take (i := 21) (oi := { dst := some 46, op := _, type := _, pos := _, after := _, guard := _ }) (v := (.agg #[.string cc, .int .u64 4])) rfl (by kernel_rfl) (by kernel_rfl) (by kernel_rfl) (fun _ _ _ h => h) (Or.inl ⟨by rfl, ?hy19⟩) (by assumption) ?rest19
    case hy19 => (intro w hSw; obtain ⟨⟨p0,p1⟩,⟨p2,p3⟩,p4,p5⟩ := hSw; first | (go_simp; done) | (go_simp; simp [*]; done) | (simp [*]; go_simp; done))
    try simp only [Act.put, List.setIfInBounds_toArray, List.set_cons_zero, List.set_cons_succ]
    have MO47 := keep (px_offer PO3.out (cc, 4) gd1 (by simp) (by omega) kn4)
    dsimp only at MO47
    refine wpAnyH_ready (rs := [22]) (by kernel_rfl) (by simp) ?_
    refine AllReadyH.cons (o := { dst := some 47, op := _, type := _, pos := _, after := _, guard := _ }) rfl (fun K hK => ?_) AllReadyH.nil
    go_simp
    refine MO47.out.mono ?_
    rintro _ wo4 ⟨rfl, vwo4, pwo4⟩
    have PO4 := keep pwo4
    refine hK.out _ _ (pwo4.k3 (fun _ h => h)) (fun hHeld => ?_)
    try simp only [Act.put, List.setIfInBounds_toArray, List.set_cons_zero, List.set_cons_succ]
    clear hK pwo4 MO47
    refine wpAnyH_take (i := 23) (oi := { dst := some 48, op := _, type := _, pos := _, after := _, guard := _ }) (v := (.bool false)) rfl (by kernel_rfl) (by kernel_rfl) (by kernel_rfl) (fun _ _ _ h => h) (Or.inl ⟨by rfl, ?hy20⟩) (by assumption) ?rest20
    case hy20 => (intro w hSw; obtain ⟨⟨p0,p1⟩,⟨p2,p3⟩,p4,p5⟩ := hSw; first | (go_simp; done) | (go_simp; simp [*]; done) | (simp [*]; go_simp; done))
    try simp only [Act.put, List.setIfInBounds_toArray, List.set_cons_zero, List.set_cons_succ]
    refine wpAnyH_take (i := 24) (oi := { dst := some 49, op := _, type := _, pos := _, after := _, guard := _ }) (v := (.bool false)) rfl (by kernel_rfl) (by kernel_rfl) (by kernel_rfl) (fun _ _ _ h => h) (Or.inl ⟨by rfl, ?hy21⟩) (by assumption) ?rest21
    case hy21 => (intro w hSw; obtain ⟨⟨p0,p1⟩,⟨p2,p3⟩,p4,p5⟩ := hSw; first | (go_simp; done) | (go_simp; simp [*]; done) | (simp [*]; go_simp; done))
    try simp only [Act.put, List.setIfInBounds_toArray, List.set_cons_zero, List.set_cons_succ]
    refine wpAnyH_take (i := 25) (oi := { dst := some 50, op := _, type := _, pos := _, after := _, guard := _ }) (v := (.bool false)) rfl (by kernel_rfl) (by kernel_rfl) (by kernel_rfl) (fun _ _ _ h => h) (Or.inl ⟨by rfl, ?hy22⟩) (by assumption) ?rest22
    case hy22 => (intro w hSw; obtain ⟨⟨p0,p1⟩,⟨p2,p3⟩,p4,p5⟩ := hSw; first | (go_simp; done) | (go_simp; simp [*]; done) | (simp [*]; go_simp; done))
    try simp only [Act.put, List.setIfInBounds_toArray, List.set_cons_zero, List.set_cons_succ]
    refine wpAnyH_take (i := 26) (oi := { dst := some 51, op := _, type := _, pos := _, after := _, guard := _ }) (v := ?v23) rfl (by kernel_rfl) (by kernel_rfl) (by kernel_rfl) (fun _ _ _ h => h) (Or.inl ⟨by rfl, ?hy23⟩) (by assumption) ?rest23
    case hy23 => (intro w hSw; obtain ⟨⟨p0,p1⟩,⟨p2,p3⟩,p4,p5⟩ := hSw; go_simp; try with_reducible rfl)
    try simp only [Act.put, List.setIfInBounds_toArray, List.set_cons_zero, List.set_cons_succ]
    refine wpAnyH_take (i := 28) (oi := { dst := some 53, op := _, type := _, pos := _, after := _, guard := _ }) (v := (.agg #[.string cb, .int .u64 3])) rfl (by kernel_rfl) (by kernel_rfl) (by kernel_rfl) (fun _ _ _ h => h) (Or.inl ⟨by rfl, ?hy24⟩) (by assumption) ?rest24
    case hy24 => (intro w hSw; obtain ⟨⟨p0,p1⟩,⟨p2,p3⟩,p4,p5⟩ := hSw; first | (go_simp; done) | (go_simp; simp [*]; done) | (simp [*]; go_simp; done))
    try simp only [Act.put, List.setIfInBounds_toArray, List.set_cons_zero, List.set_cons_succ]
    refine wpAnyH_take (i := 29) (oi := { dst := some 54, op := _, type := _, pos := _, after := _, guard := _ }) (v := (.agg #[.string cc, .int .u64 4])) rfl (by kernel_rfl) (by kernel_rfl) (by kernel_rfl) (fun _ _ _ h => h) (Or.inl ⟨by rfl, ?hy25⟩) (by assumption) ?rest25
    case hy25 => (intro w hSw; obtain ⟨⟨p0,p1⟩,⟨p2,p3⟩,p4,p5⟩ := hSw; first | (go_simp; done) | (go_simp; simp [*]; done) | (simp [*]; go_simp; done))
    try simp only [Act.put, List.setIfInBounds_toArray, List.set_cons_zero, List.set_cons_succ]
    have MC := keep (px_cands PO4.out (by simp))
    refine wpAnyH_ready (rs := [27, 30]) (by kernel_rfl) (by simp) ?_
    refine AllReadyH.cons (o := { dst := some 52, op := _, type := _, pos := _, after := _, guard := _ }) rfl (fun K hK => ?_) (AllReadyH.cons (o := { dst := some 55, op := _, type := _, pos := _, after := _, guard := _ }) rfl (fun K hK => ?_) AllReadyH.nil)
    · go_simp
      refine MC.out.mono ?_
      rintro _ wA ⟨u, Y, rfl, pA, rdA⟩
      refine hK.out _ _ (pA.k3 (fun _ h => by simp [h])) (fun hHeld => ?_)
      try simp only [Act.put, List.setIfInBounds_toArray, List.set_cons_zero, List.set_cons_succ]
      clear hK MC
      obtain ⟨WB, hWB⟩ : ∃ x, wA.alloc (ob2 (cb, 3) (cc, 4)) = x := ⟨_, rfl⟩
      have pB : PX W ((wA.heap.size, ob2 (cb, 3) (cc, 4)) :: (Y ++ X3 A B C (ca, 5) (cb, 3) (cc, 4))) WB b vwo4 2 [(cb, 3), (cc, 4)] := by rw [← hWB]; exact pA.more _
      unfold ob2 at hWB
      dsimp only at hWB
      refine wpAnyH_ready (rs := [30]) (by kernel_rfl) (by simp) ?_
      refine AllReadyH.cons (o := { dst := some 55, op := _, type := _, pos := _, after := _, guard := _ }) rfl (fun K hK => ?_) AllReadyH.nil
      go_simp
      try rw [hWB]
      refine hK.out _ _ (pB.k3 (fun _ h => by simp [h])) (fun hHeld => ?_)
      try simp only [Act.put, List.setIfInBounds_toArray, List.set_cons_zero, List.set_cons_succ]
      clear hK

      have MS := keep (same_any WB u (.slice (some ⟨wA.heap.size, 0, none⟩) 2 2) [(cb, 3), (cc, 4)] [(cb, 3), (cc, 4)] (pB.rides (rdA.more (fun _ h => by simp [h]))) (pB.rides (rides_two (G := wA.heap.size) (by simp [ob2]))) (by simp))
      rw [show Smd WB [(cb, 3), (cc, 4)] [(cb, 3), (cc, 4)] = fun e w' => e = .returned (.bool true) ∧ Below WB.heap.size WB w' from by unfold Smd; rw [smL_iff.2 rfl]] at MS
      refine wpAnyH_ready (rs := [31]) (by kernel_rfl) (by simp) ?_
      refine AllReadyH.cons (o := { dst := some 56, op := _, type := _, pos := _, after := _, guard := _ }) rfl (fun K hK => ?_) AllReadyH.nil
      go_simp
      refine MS.out.mono ?_
      rintro _ wZ ⟨rfl, hbZ⟩
      have pZ := pB.below hbZ
      have PZ : Kept (PX W (X3 A B C (ca, 5) (cb, 3) (cc, 4)) wZ b _ 2 [(cb, 3), (cc, 4)]) := pZ.less (fun _ h => by simp [h])
      refine hK.out _ _ (PZ.out.k3 (fun _ h => h)) (fun hHeld => ?_)
      try simp only [Act.put, List.setIfInBounds_toArray, List.set_cons_zero, List.set_cons_succ]
      clear hK pZ hbZ MS

      refine wpAnyH_take (i := 32) (oi := { dst := some 57, op := _, type := _, pos := _, after := _, guard := _ }) (v := (.bool false)) rfl (by kernel_rfl) (by kernel_rfl) (by kernel_rfl) (fun _ _ _ h => h) (Or.inl ⟨by rfl, ?hy26⟩) (by assumption) ?rest26
      case hy26 => (intro w hSw; first | (go_simp; done) | (go_simp; simp [*]; done) | (simp [*]; go_simp; done))
      try simp only [Act.put, List.setIfInBounds_toArray, List.set_cons_zero, List.set_cons_succ]
      refine wpAnyH_take (i := 33) (oi := { dst := some 58, op := _, type := _, pos := _, after := _, guard := _ }) (v := (.bool false)) rfl (by kernel_rfl) (by kernel_rfl) (by kernel_rfl) (fun _ _ _ h => h) (Or.inl ⟨by rfl, ?hy27⟩) (by assumption) ?rest27
      case hy27 => (intro w hSw; first | (go_simp; done) | (go_simp; simp [*]; done) | (simp [*]; go_simp; done))
      try simp only [Act.put, List.setIfInBounds_toArray, List.set_cons_zero, List.set_cons_succ]

      refine wpAnyH_done (by kernel_rfl) ?_ _
      exact ⟨_, _, rfl, _, PZ.out⟩
    · obtain ⟨WB, hWB⟩ : ∃ x, wo4.alloc (ob2 (cb, 3) (cc, 4)) = x := ⟨_, rfl⟩
      have pB : PX W ((wo4.heap.size, ob2 (cb, 3) (cc, 4)) :: X3 A B C (ca, 5) (cb, 3) (cc, 4)) WB b vwo4 2 [(cb, 3), (cc, 4)] := by rw [← hWB]; exact PO4.out.more _
      unfold ob2 at hWB
      dsimp only at hWB
      go_simp
      try rw [hWB]
      refine hK.out _ _ (pB.k3 (fun _ h => by simp [h])) (fun hHeld => ?_)
      try simp only [Act.put, List.setIfInBounds_toArray, List.set_cons_zero, List.set_cons_succ]
      clear hK MC
      have MC := keep (px_cands pB (by simp))
      refine wpAnyH_ready (rs := [27]) (by kernel_rfl) (by simp) ?_
      refine AllReadyH.cons (o := { dst := some 52, op := _, type := _, pos := _, after := _, guard := _ }) rfl (fun K hK => ?_) AllReadyH.nil
      go_simp
      refine MC.out.mono ?_
      rintro _ wA ⟨u, Y, rfl, pA, rdA⟩
      refine hK.out _ _ (pA.k3 (fun _ h => by simp [h])) (fun hHeld => ?_)
      try simp only [Act.put, List.setIfInBounds_toArray, List.set_cons_zero, List.set_cons_succ]
      clear hK MC

      have MS := keep (same_any wA u (.slice (some ⟨wo4.heap.size, 0, none⟩) 2 2) [(cb, 3), (cc, 4)] [(cb, 3), (cc, 4)] (pA.rides rdA) (pA.rides (rides_two (G := wo4.heap.size) (by simp [ob2]))) (by simp))
      rw [show Smd wA [(cb, 3), (cc, 4)] [(cb, 3), (cc, 4)] = fun e w' => e = .returned (.bool true) ∧ Below wA.heap.size wA w' from by unfold Smd; rw [smL_iff.2 rfl]] at MS
      refine wpAnyH_ready (rs := [31]) (by kernel_rfl) (by simp) ?_
      refine AllReadyH.cons (o := { dst := some 56, op := _, type := _, pos := _, after := _, guard := _ }) rfl (fun K hK => ?_) AllReadyH.nil
      go_simp
      refine MS.out.mono ?_
      rintro _ wZ ⟨rfl, hbZ⟩
      have pZ := pA.below hbZ
      have PZ : Kept (PX W (X3 A B C (ca, 5) (cb, 3) (cc, 4)) wZ b _ 2 [(cb, 3), (cc, 4)]) := pZ.less (fun _ h => by simp [h])
      refine hK.out _ _ (PZ.out.k3 (fun _ h => h)) (fun hHeld => ?_)
      try simp only [Act.put, List.setIfInBounds_toArray, List.set_cons_zero, List.set_cons_succ]
      clear hK pZ hbZ MS

      refine wpAnyH_take (i := 32) (oi := { dst := some 57, op := _, type := _, pos := _, after := _, guard := _ }) (v := (.bool false)) rfl (by kernel_rfl) (by kernel_rfl) (by kernel_rfl) (fun _ _ _ h => h) (Or.inl ⟨by rfl, ?hy28⟩) (by assumption) ?rest28
      case hy28 => (intro w hSw; first | (go_simp; done) | (go_simp; simp [*]; done) | (simp [*]; go_simp; done))
      try simp only [Act.put, List.setIfInBounds_toArray, List.set_cons_zero, List.set_cons_succ]
      refine wpAnyH_take (i := 33) (oi := { dst := some 58, op := _, type := _, pos := _, after := _, guard := _ }) (v := (.bool false)) rfl (by kernel_rfl) (by kernel_rfl) (by kernel_rfl) (fun _ _ _ h => h) (Or.inl ⟨by rfl, ?hy29⟩) (by assumption) ?rest29
      case hy29 => (intro w hSw; first | (go_simp; done) | (go_simp; simp [*]; done) | (simp [*]; go_simp; done))
      try simp only [Act.put, List.setIfInBounds_toArray, List.set_cons_zero, List.set_cons_succ]

      refine wpAnyH_done (by kernel_rfl) ?_ _
      exact ⟨_, _, rfl, _, PZ.out⟩

  case rest =>
    rintro u52 u55 wq ⟨vq, pq⟩
    simp only [Act.put, List.setIfInBounds_toArray, List.set_cons_zero, List.set_cons_succ]
    have k3 := pq.k3 (A := A) (B := B) (C := C) (fun _ h => h)
    obtain ⟨⟨k0, k1⟩, ⟨k2, k3⟩, k4, k5⟩ := k3
    have zB := (cells_two (pq.side (B, ob (cb, 3)) (by simp [X3])).1).2.2
    obtain ⟨W6, hW6⟩ : ∃ x, wq.setCell ⟨B, 1, none⟩ (.int .u64 7) = x := ⟨_, rfl⟩
    have p6 : PX W (X3 A B C (ca, 5) (cb, 7) (cc, 4)) W6 b vq 2 [(cb, 3), (cc, 4)] := by
      rw [← hW6]
      exact pq.side_set (B := B) (c := (cb, 3)) (by simp [X3]) (by have := HLT.out; omega) (fun p h => by
        have := HLT.out
        simp only [X3, List.mem_cons, List.not_mem_nil, or_false] at h
        rcases h with rfl | rfl | rfl
        · exact .inr ⟨by simp [X3], by dsimp only; omega⟩
        · exact .inl rfl
        · exact .inr ⟨by simp [X3], by dsimp only; omega⟩)
    have PD1 : Kept (PX W (X3 A B C (ca, 5) (cb, 7) (cc, 4)) W6.drew b vq 2 [(cb, 3), (cc, 4)]) := p6.below ((Below.refl _ W6).drew)
    clear p6 pq
    go_wp2_with fail
    clear k0 k1 k2 k3 k4 k5
    refine code_two (fun a u v => (((((((((((((a.put (some 60) (.pointer (some ⟨b, 0, none⟩))).put (some 61) (.agg #[.string cb, .int .u64 7])).put (some 62) (.bool true)).put (some 63) (.bool false)).put (some 64) (.bool false)).put (some 65) (.pointer (some ⟨b, 0, none⟩))).put (some 66) (u)).put (some 67) (.agg #[.string cc, .int .u64 4])).put (some 68) (.agg #[.string cb, .int .u64 7])).put (some 69) (v)).put (some 70) (.bool true)).put (some 71) (.bool false)).put (some 72) (.bool false))) (fun w' => ∃ v, PX W (X3 A B C (ca, 5) (cb, 7) (cc, 4)) w' b v 2 [(cc, 4), (cb, 7)]) ?first ?rest
    case first =>
      refine wp_region_held_drew (S := K3 A B C (ca, 5) (cb, 7) (cc, 4)) (by kernel_rfl) (PD1.out.k3 (fun _ h => h)) (fun hHeld => ?_)
      refine wpAnyH_take (i := 0) (oi := { dst := some 60, op := _, type := _, pos := _, after := _, guard := _ }) (v := ?v30) rfl (by kernel_rfl) (by kernel_rfl) (by kernel_rfl) (fun _ _ _ h => h) (Or.inl ⟨by rfl, ?hy30⟩) (by assumption) ?rest30
      case hy30 => (intro w hSw; obtain ⟨⟨p0,p1⟩,⟨p2,p3⟩,p4,p5⟩ := hSw; go_simp; try with_reducible rfl)
      try simp only [Act.put, List.setIfInBounds_toArray, List.set_cons_zero, List.set_cons_succ]
      refine wpAnyH_take (i := 1) (oi := { dst := some 61, op := _, type := _, pos := _, after := _, guard := _ }) (v := (.agg #[.string cb, .int .u64 7])) rfl (by kernel_rfl) (by kernel_rfl) (by kernel_rfl) (fun _ _ _ h => h) (Or.inl ⟨by rfl, ?hy31⟩) (by assumption) ?rest31
      case hy31 => (intro w hSw; obtain ⟨⟨p0,p1⟩,⟨p2,p3⟩,p4,p5⟩ := hSw; first | (go_simp; done) | (go_simp; simp [*]; done) | (simp [*]; go_simp; done))
      try simp only [Act.put, List.setIfInBounds_toArray, List.set_cons_zero, List.set_cons_succ]
      have MO62 := keep (px_offer PD1.out (cb, 7) gd2 (by simp) (by omega) kn5)
      dsimp only at MO62
      refine wpAnyH_ready (rs := [2]) (by kernel_rfl) (by simp) ?_
      refine AllReadyH.cons (o := { dst := some 62, op := _, type := _, pos := _, after := _, guard := _ }) rfl (fun K hK => ?_) AllReadyH.nil
      go_simp
      refine MO62.out.mono ?_
      rintro _ wo5 ⟨rfl, vwo5, pwo5⟩
      have PO5 := keep pwo5
      refine hK.out _ _ (pwo5.k3 (fun _ h => h)) (fun hHeld => ?_)
      try simp only [Act.put, List.setIfInBounds_toArray, List.set_cons_zero, List.set_cons_succ]
      clear hK pwo5 MO62
      refine wpAnyH_take (i := 3) (oi := { dst := some 63, op := _, type := _, pos := _, after := _, guard := _ }) (v := (.bool false)) rfl (by kernel_rfl) (by kernel_rfl) (by kernel_rfl) (fun _ _ _ h => h) (Or.inl ⟨by rfl, ?hy32⟩) (by assumption) ?rest32
      case hy32 => (intro w hSw; obtain ⟨⟨p0,p1⟩,⟨p2,p3⟩,p4,p5⟩ := hSw; first | (go_simp; done) | (go_simp; simp [*]; done) | (simp [*]; go_simp; done))
      try simp only [Act.put, List.setIfInBounds_toArray, List.set_cons_zero, List.set_cons_succ]
      refine wpAnyH_take (i := 4) (oi := { dst := some 64, op := _, type := _, pos := _, after := _, guard := _ }) (v := (.bool false)) rfl (by kernel_rfl) (by kernel_rfl) (by kernel_rfl) (fun _ _ _ h => h) (Or.inl ⟨by rfl, ?hy33⟩) (by assumption) ?rest33
      case hy33 => (intro w hSw; obtain ⟨⟨p0,p1⟩,⟨p2,p3⟩,p4,p5⟩ := hSw; first | (go_simp; done) | (go_simp; simp [*]; done) | (simp [*]; go_simp; done))
      try simp only [Act.put, List.setIfInBounds_toArray, List.set_cons_zero, List.set_cons_succ]
      refine wpAnyH_take (i := 5) (oi := { dst := some 65, op := _, type := _, pos := _, after := _, guard := _ }) (v := ?v34) rfl (by kernel_rfl) (by kernel_rfl) (by kernel_rfl) (fun _ _ _ h => h) (Or.inl ⟨by rfl, ?hy34⟩) (by assumption) ?rest34
      case hy34 => (intro w hSw; obtain ⟨⟨p0,p1⟩,⟨p2,p3⟩,p4,p5⟩ := hSw; go_simp; try with_reducible rfl)
      try simp only [Act.put, List.setIfInBounds_toArray, List.set_cons_zero, List.set_cons_succ]
      refine wpAnyH_take (i := 7) (oi := { dst := some 67, op := _, type := _, pos := _, after := _, guard := _ }) (v := (.agg #[.string cc, .int .u64 4])) rfl (by kernel_rfl) (by kernel_rfl) (by kernel_rfl) (fun _ _ _ h => h) (Or.inl ⟨by rfl, ?hy35⟩) (by assumption) ?rest35
      case hy35 => (intro w hSw; obtain ⟨⟨p0,p1⟩,⟨p2,p3⟩,p4,p5⟩ := hSw; first | (go_simp; done) | (go_simp; simp [*]; done) | (simp [*]; go_simp; done))
      try simp only [Act.put, List.setIfInBounds_toArray, List.set_cons_zero, List.set_cons_succ]
      refine wpAnyH_take (i := 8) (oi := { dst := some 68, op := _, type := _, pos := _, after := _, guard := _ }) (v := (.agg #[.string cb, .int .u64 7])) rfl (by kernel_rfl) (by kernel_rfl) (by kernel_rfl) (fun _ _ _ h => h) (Or.inl ⟨by rfl, ?hy36⟩) (by assumption) ?rest36
      case hy36 => (intro w hSw; obtain ⟨⟨p0,p1⟩,⟨p2,p3⟩,p4,p5⟩ := hSw; first | (go_simp; done) | (go_simp; simp [*]; done) | (simp [*]; go_simp; done))
      try simp only [Act.put, List.setIfInBounds_toArray, List.set_cons_zero, List.set_cons_succ]
      have MC := keep (px_cands PO5.out (by simp))
      refine wpAnyH_ready (rs := [6, 9]) (by kernel_rfl) (by simp) ?_
      refine AllReadyH.cons (o := { dst := some 66, op := _, type := _, pos := _, after := _, guard := _ }) rfl (fun K hK => ?_) (AllReadyH.cons (o := { dst := some 69, op := _, type := _, pos := _, after := _, guard := _ }) rfl (fun K hK => ?_) AllReadyH.nil)
      · go_simp
        refine MC.out.mono ?_
        rintro _ wA ⟨u, Y, rfl, pA, rdA⟩
        refine hK.out _ _ (pA.k3 (fun _ h => by simp [h])) (fun hHeld => ?_)
        try simp only [Act.put, List.setIfInBounds_toArray, List.set_cons_zero, List.set_cons_succ]
        clear hK MC
        obtain ⟨WB, hWB⟩ : ∃ x, wA.alloc (ob2 (cc, 4) (cb, 7)) = x := ⟨_, rfl⟩
        have pB : PX W ((wA.heap.size, ob2 (cc, 4) (cb, 7)) :: (Y ++ X3 A B C (ca, 5) (cb, 7) (cc, 4))) WB b vwo5 2 [(cc, 4), (cb, 7)] := by rw [← hWB]; exact pA.more _
        unfold ob2 at hWB
        dsimp only at hWB
        refine wpAnyH_ready (rs := [9]) (by kernel_rfl) (by simp) ?_
        refine AllReadyH.cons (o := { dst := some 69, op := _, type := _, pos := _, after := _, guard := _ }) rfl (fun K hK => ?_) AllReadyH.nil
        go_simp
        try rw [hWB]
        refine hK.out _ _ (pB.k3 (fun _ h => by simp [h])) (fun hHeld => ?_)
        try simp only [Act.put, List.setIfInBounds_toArray, List.set_cons_zero, List.set_cons_succ]
        clear hK

        have MS := keep (same_any WB u (.slice (some ⟨wA.heap.size, 0, none⟩) 2 2) [(cc, 4), (cb, 7)] [(cc, 4), (cb, 7)] (pB.rides (rdA.more (fun _ h => by simp [h]))) (pB.rides (rides_two (G := wA.heap.size) (by simp [ob2]))) (by simp))
        rw [show Smd WB [(cc, 4), (cb, 7)] [(cc, 4), (cb, 7)] = fun e w' => e = .returned (.bool true) ∧ Below WB.heap.size WB w' from by unfold Smd; rw [smL_iff.2 rfl]] at MS
        refine wpAnyH_ready (rs := [10]) (by kernel_rfl) (by simp) ?_
        refine AllReadyH.cons (o := { dst := some 70, op := _, type := _, pos := _, after := _, guard := _ }) rfl (fun K hK => ?_) AllReadyH.nil
        go_simp
        refine MS.out.mono ?_
        rintro _ wZ ⟨rfl, hbZ⟩
        have pZ := pB.below hbZ
        have PZ : Kept (PX W (X3 A B C (ca, 5) (cb, 7) (cc, 4)) wZ b _ 2 [(cc, 4), (cb, 7)]) := pZ.less (fun _ h => by simp [h])
        refine hK.out _ _ (PZ.out.k3 (fun _ h => h)) (fun hHeld => ?_)
        try simp only [Act.put, List.setIfInBounds_toArray, List.set_cons_zero, List.set_cons_succ]
        clear hK pZ hbZ MS

        refine wpAnyH_take (i := 11) (oi := { dst := some 71, op := _, type := _, pos := _, after := _, guard := _ }) (v := (.bool false)) rfl (by kernel_rfl) (by kernel_rfl) (by kernel_rfl) (fun _ _ _ h => h) (Or.inl ⟨by rfl, ?hy37⟩) (by assumption) ?rest37
        case hy37 => (intro w hSw; first | (go_simp; done) | (go_simp; simp [*]; done) | (simp [*]; go_simp; done))
        try simp only [Act.put, List.setIfInBounds_toArray, List.set_cons_zero, List.set_cons_succ]
        refine wpAnyH_take (i := 12) (oi := { dst := some 72, op := _, type := _, pos := _, after := _, guard := _ }) (v := (.bool false)) rfl (by kernel_rfl) (by kernel_rfl) (by kernel_rfl) (fun _ _ _ h => h) (Or.inl ⟨by rfl, ?hy38⟩) (by assumption) ?rest38
        case hy38 => (intro w hSw; first | (go_simp; done) | (go_simp; simp [*]; done) | (simp [*]; go_simp; done))
        try simp only [Act.put, List.setIfInBounds_toArray, List.set_cons_zero, List.set_cons_succ]

        refine wpAnyH_done (by kernel_rfl) ?_ _
        exact ⟨_, _, rfl, _, PZ.out⟩
      · obtain ⟨WB, hWB⟩ : ∃ x, wo5.alloc (ob2 (cc, 4) (cb, 7)) = x := ⟨_, rfl⟩
        have pB : PX W ((wo5.heap.size, ob2 (cc, 4) (cb, 7)) :: X3 A B C (ca, 5) (cb, 7) (cc, 4)) WB b vwo5 2 [(cc, 4), (cb, 7)] := by rw [← hWB]; exact PO5.out.more _
        unfold ob2 at hWB
        dsimp only at hWB
        go_simp
        try rw [hWB]
        refine hK.out _ _ (pB.k3 (fun _ h => by simp [h])) (fun hHeld => ?_)
        try simp only [Act.put, List.setIfInBounds_toArray, List.set_cons_zero, List.set_cons_succ]
        clear hK MC
        have MC := keep (px_cands pB (by simp))
        refine wpAnyH_ready (rs := [6]) (by kernel_rfl) (by simp) ?_
        refine AllReadyH.cons (o := { dst := some 66, op := _, type := _, pos := _, after := _, guard := _ }) rfl (fun K hK => ?_) AllReadyH.nil
        go_simp
        refine MC.out.mono ?_
        rintro _ wA ⟨u, Y, rfl, pA, rdA⟩
        refine hK.out _ _ (pA.k3 (fun _ h => by simp [h])) (fun hHeld => ?_)
        try simp only [Act.put, List.setIfInBounds_toArray, List.set_cons_zero, List.set_cons_succ]
        clear hK MC

        have MS := keep (same_any wA u (.slice (some ⟨wo5.heap.size, 0, none⟩) 2 2) [(cc, 4), (cb, 7)] [(cc, 4), (cb, 7)] (pA.rides rdA) (pA.rides (rides_two (G := wo5.heap.size) (by simp [ob2]))) (by simp))
        rw [show Smd wA [(cc, 4), (cb, 7)] [(cc, 4), (cb, 7)] = fun e w' => e = .returned (.bool true) ∧ Below wA.heap.size wA w' from by unfold Smd; rw [smL_iff.2 rfl]] at MS
        refine wpAnyH_ready (rs := [10]) (by kernel_rfl) (by simp) ?_
        refine AllReadyH.cons (o := { dst := some 70, op := _, type := _, pos := _, after := _, guard := _ }) rfl (fun K hK => ?_) AllReadyH.nil
        go_simp
        refine MS.out.mono ?_
        rintro _ wZ ⟨rfl, hbZ⟩
        have pZ := pA.below hbZ
        have PZ : Kept (PX W (X3 A B C (ca, 5) (cb, 7) (cc, 4)) wZ b _ 2 [(cc, 4), (cb, 7)]) := pZ.less (fun _ h => by simp [h])
        refine hK.out _ _ (PZ.out.k3 (fun _ h => h)) (fun hHeld => ?_)
        try simp only [Act.put, List.setIfInBounds_toArray, List.set_cons_zero, List.set_cons_succ]
        clear hK pZ hbZ MS

        refine wpAnyH_take (i := 11) (oi := { dst := some 71, op := _, type := _, pos := _, after := _, guard := _ }) (v := (.bool false)) rfl (by kernel_rfl) (by kernel_rfl) (by kernel_rfl) (fun _ _ _ h => h) (Or.inl ⟨by rfl, ?hy39⟩) (by assumption) ?rest39
        case hy39 => (intro w hSw; first | (go_simp; done) | (go_simp; simp [*]; done) | (simp [*]; go_simp; done))
        try simp only [Act.put, List.setIfInBounds_toArray, List.set_cons_zero, List.set_cons_succ]
        refine wpAnyH_take (i := 12) (oi := { dst := some 72, op := _, type := _, pos := _, after := _, guard := _ }) (v := (.bool false)) rfl (by kernel_rfl) (by kernel_rfl) (by kernel_rfl) (fun _ _ _ h => h) (Or.inl ⟨by rfl, ?hy40⟩) (by assumption) ?rest40
        case hy40 => (intro w hSw; first | (go_simp; done) | (go_simp; simp [*]; done) | (simp [*]; go_simp; done))
        try simp only [Act.put, List.setIfInBounds_toArray, List.set_cons_zero, List.set_cons_succ]

        refine wpAnyH_done (by kernel_rfl) ?_ _
        exact ⟨_, _, rfl, _, PZ.out⟩

    case rest =>
      rintro u66 u69 wq2 ⟨vq2, pq⟩
      simp only [Act.put, List.setIfInBounds_toArray, List.set_cons_zero, List.set_cons_succ]
      have k3 := pq.k3 (A := A) (B := B) (C := C) (fun _ h => h)
      obtain ⟨⟨k0, k1⟩, ⟨k2, k3⟩, k4, k5⟩ := k3
      have zA := (cells_two (pq.side (A, ob (ca, 5)) (by simp [X3])).1).2.2
      obtain ⟨W7, hW7⟩ : ∃ x, wq2.setCell ⟨A, 1, none⟩ (.int .u64 7) = x := ⟨_, rfl⟩
      have p7 : PX W (X3 A B C (ca, 7) (cb, 7) (cc, 4)) W7 b vq2 2 [(cc, 4), (cb, 7)] := by
        rw [← hW7]
        exact pq.side_set (B := A) (c := (ca, 5)) (by simp [X3]) (by have := HLT.out; omega) (fun p h => by
          have := HLT.out
          simp only [X3, List.mem_cons, List.not_mem_nil, or_false] at h
          rcases h with rfl | rfl | rfl
          · exact .inl rfl
          · exact .inr ⟨by simp [X3], by dsimp only; omega⟩
          · exact .inr ⟨by simp [X3], by dsimp only; omega⟩)
      have PD2 : Kept (PX W (X3 A B C (ca, 7) (cb, 7) (cc, 4)) W7.drew b vq2 2 [(cc, 4), (cb, 7)]) := p7.below ((Below.refl _ W7).drew)
      clear p7 pq
      go_wp2_with fail
      clear k0 k1 k2 k3 k4 k5
      refine code_two (fun a u v => ((((((((((((((((((a.put (some 74) (.pointer (some ⟨b, 0, none⟩))).put (some 75) (.agg #[.string ca, .int .u64 7])).put (some 76) (.bool true)).put (some 77) (.bool false)).put (some 78) (.bool false)).put (some 79) (.pointer (some ⟨b, 0, none⟩))).put (some 80) (u)).put (some 81) (.agg #[.string cc, .int .u64 4])).put (some 82) (.agg #[.string ca, .int .u64 7])).put (some 83) (v)).put (some 84) (.bool true)).put (some 85) (.bool false)).put (some 86) (.bool false)).put (some 87) (.bool false)).put (some 88) (.pointer (some ⟨b, 0, none⟩))).put (some 89) (.agg #[.string cb, .int .u64 7])).put (some 90) (.bool false)).put (some 91) (.bool false))) (fun w' => ∃ v, PX W (X3 A B C (ca, 7) (cb, 7) (cc, 4)) w' b v 2 [(cc, 4), (ca, 7)]) ?first ?rest
      case first =>
        refine wp_region_held_drew (S := K3 A B C (ca, 7) (cb, 7) (cc, 4)) (by kernel_rfl) (PD2.out.k3 (fun _ h => h)) (fun hHeld => ?_)
        refine wpAnyH_take (i := 0) (oi := { dst := some 74, op := _, type := _, pos := _, after := _, guard := _ }) (v := ?v41) rfl (by kernel_rfl) (by kernel_rfl) (by kernel_rfl) (fun _ _ _ h => h) (Or.inl ⟨by rfl, ?hy41⟩) (by assumption) ?rest41
        case hy41 => (intro w hSw; obtain ⟨⟨p0,p1⟩,⟨p2,p3⟩,p4,p5⟩ := hSw; go_simp; try with_reducible rfl)
        try simp only [Act.put, List.setIfInBounds_toArray, List.set_cons_zero, List.set_cons_succ]
        refine wpAnyH_take (i := 1) (oi := { dst := some 75, op := _, type := _, pos := _, after := _, guard := _ }) (v := (.agg #[.string ca, .int .u64 7])) rfl (by kernel_rfl) (by kernel_rfl) (by kernel_rfl) (fun _ _ _ h => h) (Or.inl ⟨by rfl, ?hy42⟩) (by assumption) ?rest42
        case hy42 => (intro w hSw; obtain ⟨⟨p0,p1⟩,⟨p2,p3⟩,p4,p5⟩ := hSw; first | (go_simp; done) | (go_simp; simp [*]; done) | (simp [*]; go_simp; done))
        try simp only [Act.put, List.setIfInBounds_toArray, List.set_cons_zero, List.set_cons_succ]
        have MO76 := keep (px_offer PD2.out (ca, 7) gd3 (by simp) (by omega) kn6)
        dsimp only at MO76
        refine wpAnyH_ready (rs := [2]) (by kernel_rfl) (by simp) ?_
        refine AllReadyH.cons (o := { dst := some 76, op := _, type := _, pos := _, after := _, guard := _ }) rfl (fun K hK => ?_) AllReadyH.nil
        go_simp
        refine MO76.out.mono ?_
        rintro _ wo6 ⟨rfl, vwo6, pwo6⟩
        have PO6 := keep pwo6
        refine hK.out _ _ (pwo6.k3 (fun _ h => h)) (fun hHeld => ?_)
        try simp only [Act.put, List.setIfInBounds_toArray, List.set_cons_zero, List.set_cons_succ]
        clear hK pwo6 MO76
        refine wpAnyH_take (i := 3) (oi := { dst := some 77, op := _, type := _, pos := _, after := _, guard := _ }) (v := (.bool false)) rfl (by kernel_rfl) (by kernel_rfl) (by kernel_rfl) (fun _ _ _ h => h) (Or.inl ⟨by rfl, ?hy43⟩) (by assumption) ?rest43
        case hy43 => (intro w hSw; obtain ⟨⟨p0,p1⟩,⟨p2,p3⟩,p4,p5⟩ := hSw; first | (go_simp; done) | (go_simp; simp [*]; done) | (simp [*]; go_simp; done))
        try simp only [Act.put, List.setIfInBounds_toArray, List.set_cons_zero, List.set_cons_succ]
        refine wpAnyH_take (i := 4) (oi := { dst := some 78, op := _, type := _, pos := _, after := _, guard := _ }) (v := (.bool false)) rfl (by kernel_rfl) (by kernel_rfl) (by kernel_rfl) (fun _ _ _ h => h) (Or.inl ⟨by rfl, ?hy44⟩) (by assumption) ?rest44
        case hy44 => (intro w hSw; obtain ⟨⟨p0,p1⟩,⟨p2,p3⟩,p4,p5⟩ := hSw; first | (go_simp; done) | (go_simp; simp [*]; done) | (simp [*]; go_simp; done))
        try simp only [Act.put, List.setIfInBounds_toArray, List.set_cons_zero, List.set_cons_succ]
        refine wpAnyH_take (i := 5) (oi := { dst := some 79, op := _, type := _, pos := _, after := _, guard := _ }) (v := ?v45) rfl (by kernel_rfl) (by kernel_rfl) (by kernel_rfl) (fun _ _ _ h => h) (Or.inl ⟨by rfl, ?hy45⟩) (by assumption) ?rest45
        case hy45 => (intro w hSw; obtain ⟨⟨p0,p1⟩,⟨p2,p3⟩,p4,p5⟩ := hSw; go_simp; try with_reducible rfl)
        try simp only [Act.put, List.setIfInBounds_toArray, List.set_cons_zero, List.set_cons_succ]
        refine wpAnyH_take (i := 7) (oi := { dst := some 81, op := _, type := _, pos := _, after := _, guard := _ }) (v := (.agg #[.string cc, .int .u64 4])) rfl (by kernel_rfl) (by kernel_rfl) (by kernel_rfl) (fun _ _ _ h => h) (Or.inl ⟨by rfl, ?hy46⟩) (by assumption) ?rest46
        case hy46 => (intro w hSw; obtain ⟨⟨p0,p1⟩,⟨p2,p3⟩,p4,p5⟩ := hSw; first | (go_simp; done) | (go_simp; simp [*]; done) | (simp [*]; go_simp; done))
        try simp only [Act.put, List.setIfInBounds_toArray, List.set_cons_zero, List.set_cons_succ]
        refine wpAnyH_take (i := 8) (oi := { dst := some 82, op := _, type := _, pos := _, after := _, guard := _ }) (v := (.agg #[.string ca, .int .u64 7])) rfl (by kernel_rfl) (by kernel_rfl) (by kernel_rfl) (fun _ _ _ h => h) (Or.inl ⟨by rfl, ?hy47⟩) (by assumption) ?rest47
        case hy47 => (intro w hSw; obtain ⟨⟨p0,p1⟩,⟨p2,p3⟩,p4,p5⟩ := hSw; first | (go_simp; done) | (go_simp; simp [*]; done) | (simp [*]; go_simp; done))
        try simp only [Act.put, List.setIfInBounds_toArray, List.set_cons_zero, List.set_cons_succ]
        have MC := keep (px_cands PO6.out (by simp))
        refine wpAnyH_ready (rs := [6, 9]) (by kernel_rfl) (by simp) ?_
        refine AllReadyH.cons (o := { dst := some 80, op := _, type := _, pos := _, after := _, guard := _ }) rfl (fun K hK => ?_) (AllReadyH.cons (o := { dst := some 83, op := _, type := _, pos := _, after := _, guard := _ }) rfl (fun K hK => ?_) AllReadyH.nil)
        · go_simp
          refine MC.out.mono ?_
          rintro _ wA ⟨u, Y, rfl, pA, rdA⟩
          refine hK.out _ _ (pA.k3 (fun _ h => by simp [h])) (fun hHeld => ?_)
          try simp only [Act.put, List.setIfInBounds_toArray, List.set_cons_zero, List.set_cons_succ]
          clear hK MC
          obtain ⟨WB, hWB⟩ : ∃ x, wA.alloc (ob2 (cc, 4) (ca, 7)) = x := ⟨_, rfl⟩
          have pB : PX W ((wA.heap.size, ob2 (cc, 4) (ca, 7)) :: (Y ++ X3 A B C (ca, 7) (cb, 7) (cc, 4))) WB b vwo6 2 [(cc, 4), (ca, 7)] := by rw [← hWB]; exact pA.more _
          unfold ob2 at hWB
          dsimp only at hWB
          refine wpAnyH_ready (rs := [9]) (by kernel_rfl) (by simp) ?_
          refine AllReadyH.cons (o := { dst := some 83, op := _, type := _, pos := _, after := _, guard := _ }) rfl (fun K hK => ?_) AllReadyH.nil
          go_simp
          try rw [hWB]
          refine hK.out _ _ (pB.k3 (fun _ h => by simp [h])) (fun hHeld => ?_)
          try simp only [Act.put, List.setIfInBounds_toArray, List.set_cons_zero, List.set_cons_succ]
          clear hK

          have MS := keep (same_any WB u (.slice (some ⟨wA.heap.size, 0, none⟩) 2 2) [(cc, 4), (ca, 7)] [(cc, 4), (ca, 7)] (pB.rides (rdA.more (fun _ h => by simp [h]))) (pB.rides (rides_two (G := wA.heap.size) (by simp [ob2]))) (by simp))
          rw [show Smd WB [(cc, 4), (ca, 7)] [(cc, 4), (ca, 7)] = fun e w' => e = .returned (.bool true) ∧ Below WB.heap.size WB w' from by unfold Smd; rw [smL_iff.2 rfl]] at MS
          refine wpAnyH_ready (rs := [10]) (by kernel_rfl) (by simp) ?_
          refine AllReadyH.cons (o := { dst := some 84, op := _, type := _, pos := _, after := _, guard := _ }) rfl (fun K hK => ?_) AllReadyH.nil
          go_simp
          refine MS.out.mono ?_
          rintro _ wZ ⟨rfl, hbZ⟩
          have pZ := pB.below hbZ
          have PZ : Kept (PX W (X3 A B C (ca, 7) (cb, 7) (cc, 4)) wZ b _ 2 [(cc, 4), (ca, 7)]) := pZ.less (fun _ h => by simp [h])
          refine hK.out _ _ (PZ.out.k3 (fun _ h => h)) (fun hHeld => ?_)
          try simp only [Act.put, List.setIfInBounds_toArray, List.set_cons_zero, List.set_cons_succ]
          clear hK pZ hbZ MS

          refine wpAnyH_take (i := 11) (oi := { dst := some 85, op := _, type := _, pos := _, after := _, guard := _ }) (v := (.bool false)) rfl (by kernel_rfl) (by kernel_rfl) (by kernel_rfl) (fun _ _ _ h => h) (Or.inl ⟨by rfl, ?hy48⟩) (by assumption) ?rest48
          case hy48 => (intro w hSw; obtain ⟨⟨p0,p1⟩,⟨p2,p3⟩,p4,p5⟩ := hSw; first | (go_simp; done) | (go_simp; simp [*]; done) | (simp [*]; go_simp; done))
          try simp only [Act.put, List.setIfInBounds_toArray, List.set_cons_zero, List.set_cons_succ]
          refine wpAnyH_take (i := 12) (oi := { dst := some 86, op := _, type := _, pos := _, after := _, guard := _ }) (v := (.bool false)) rfl (by kernel_rfl) (by kernel_rfl) (by kernel_rfl) (fun _ _ _ h => h) (Or.inl ⟨by rfl, ?hy49⟩) (by assumption) ?rest49
          case hy49 => (intro w hSw; obtain ⟨⟨p0,p1⟩,⟨p2,p3⟩,p4,p5⟩ := hSw; first | (go_simp; done) | (go_simp; simp [*]; done) | (simp [*]; go_simp; done))
          try simp only [Act.put, List.setIfInBounds_toArray, List.set_cons_zero, List.set_cons_succ]
          refine wpAnyH_take (i := 13) (oi := { dst := some 87, op := _, type := _, pos := _, after := _, guard := _ }) (v := (.bool false)) rfl (by kernel_rfl) (by kernel_rfl) (by kernel_rfl) (fun _ _ _ h => h) (Or.inl ⟨by rfl, ?hy50⟩) (by assumption) ?rest50
          case hy50 => (intro w hSw; obtain ⟨⟨p0,p1⟩,⟨p2,p3⟩,p4,p5⟩ := hSw; first | (go_simp; done) | (go_simp; simp [*]; done) | (simp [*]; go_simp; done))
          try simp only [Act.put, List.setIfInBounds_toArray, List.set_cons_zero, List.set_cons_succ]
          refine wpAnyH_take (i := 14) (oi := { dst := some 88, op := _, type := _, pos := _, after := _, guard := _ }) (v := ?v51) rfl (by kernel_rfl) (by kernel_rfl) (by kernel_rfl) (fun _ _ _ h => h) (Or.inl ⟨by rfl, ?hy51⟩) (by assumption) ?rest51
          case hy51 => (intro w hSw; obtain ⟨⟨p0,p1⟩,⟨p2,p3⟩,p4,p5⟩ := hSw; go_simp; try with_reducible rfl)
          try simp only [Act.put, List.setIfInBounds_toArray, List.set_cons_zero, List.set_cons_succ]
          refine wpAnyH_take (i := 15) (oi := { dst := some 89, op := _, type := _, pos := _, after := _, guard := _ }) (v := (.agg #[.string cb, .int .u64 7])) rfl (by kernel_rfl) (by kernel_rfl) (by kernel_rfl) (fun _ _ _ h => h) (Or.inl ⟨by rfl, ?hy52⟩) (by assumption) ?rest52
          case hy52 => (intro w hSw; obtain ⟨⟨p0,p1⟩,⟨p2,p3⟩,p4,p5⟩ := hSw; first | (go_simp; done) | (go_simp; simp [*]; done) | (simp [*]; go_simp; done))
          try simp only [Act.put, List.setIfInBounds_toArray, List.set_cons_zero, List.set_cons_succ]

          have MO90 := keep (px_offer PZ.out (cb, 7) gd4 (by simp) (by omega) kn7)
          dsimp only at MO90
          refine wpAnyH_ready (rs := [16]) (by kernel_rfl) (by simp) ?_
          refine AllReadyH.cons (o := { dst := some 90, op := _, type := _, pos := _, after := _, guard := _ }) rfl (fun K hK => ?_) AllReadyH.nil
          go_simp
          refine MO90.out.mono ?_
          rintro _ wy ⟨rfl, vwy, pwy⟩
          have PY := keep pwy
          refine hK.out _ _ (pwy.k3 (fun _ h => h)) (fun hHeld => ?_)
          try simp only [Act.put, List.setIfInBounds_toArray, List.set_cons_zero, List.set_cons_succ]
          clear hK pwy MO90

          refine wpAnyH_take (i := 17) (oi := { dst := some 91, op := _, type := _, pos := _, after := _, guard := _ }) (v := (.bool false)) rfl (by kernel_rfl) (by kernel_rfl) (by kernel_rfl) (fun _ _ _ h => h) (Or.inl ⟨by rfl, ?hy53⟩) (by assumption) ?rest53
          case hy53 => (intro w hSw; first | (go_simp; done) | (go_simp; simp [*]; done) | (simp [*]; go_simp; done))
          try simp only [Act.put, List.setIfInBounds_toArray, List.set_cons_zero, List.set_cons_succ]

          refine wpAnyH_done (by kernel_rfl) ?_ _
          exact ⟨_, _, rfl, _, PY.out⟩
        · obtain ⟨WB, hWB⟩ : ∃ x, wo6.alloc (ob2 (cc, 4) (ca, 7)) = x := ⟨_, rfl⟩
          have pB : PX W ((wo6.heap.size, ob2 (cc, 4) (ca, 7)) :: X3 A B C (ca, 7) (cb, 7) (cc, 4)) WB b vwo6 2 [(cc, 4), (ca, 7)] := by rw [← hWB]; exact PO6.out.more _
          unfold ob2 at hWB
          dsimp only at hWB
          go_simp
          try rw [hWB]
          refine hK.out _ _ (pB.k3 (fun _ h => by simp [h])) (fun hHeld => ?_)
          try simp only [Act.put, List.setIfInBounds_toArray, List.set_cons_zero, List.set_cons_succ]
          clear hK MC
          have MC := keep (px_cands pB (by simp))
          refine wpAnyH_ready (rs := [6]) (by kernel_rfl) (by simp) ?_
          refine AllReadyH.cons (o := { dst := some 80, op := _, type := _, pos := _, after := _, guard := _ }) rfl (fun K hK => ?_) AllReadyH.nil
          go_simp
          refine MC.out.mono ?_
          rintro _ wA ⟨u, Y, rfl, pA, rdA⟩
          refine hK.out _ _ (pA.k3 (fun _ h => by simp [h])) (fun hHeld => ?_)
          try simp only [Act.put, List.setIfInBounds_toArray, List.set_cons_zero, List.set_cons_succ]
          clear hK MC

          have MS := keep (same_any wA u (.slice (some ⟨wo6.heap.size, 0, none⟩) 2 2) [(cc, 4), (ca, 7)] [(cc, 4), (ca, 7)] (pA.rides rdA) (pA.rides (rides_two (G := wo6.heap.size) (by simp [ob2]))) (by simp))
          rw [show Smd wA [(cc, 4), (ca, 7)] [(cc, 4), (ca, 7)] = fun e w' => e = .returned (.bool true) ∧ Below wA.heap.size wA w' from by unfold Smd; rw [smL_iff.2 rfl]] at MS
          refine wpAnyH_ready (rs := [10]) (by kernel_rfl) (by simp) ?_
          refine AllReadyH.cons (o := { dst := some 84, op := _, type := _, pos := _, after := _, guard := _ }) rfl (fun K hK => ?_) AllReadyH.nil
          go_simp
          refine MS.out.mono ?_
          rintro _ wZ ⟨rfl, hbZ⟩
          have pZ := pA.below hbZ
          have PZ : Kept (PX W (X3 A B C (ca, 7) (cb, 7) (cc, 4)) wZ b _ 2 [(cc, 4), (ca, 7)]) := pZ.less (fun _ h => by simp [h])
          refine hK.out _ _ (PZ.out.k3 (fun _ h => h)) (fun hHeld => ?_)
          try simp only [Act.put, List.setIfInBounds_toArray, List.set_cons_zero, List.set_cons_succ]
          clear hK pZ hbZ MS

          refine wpAnyH_take (i := 11) (oi := { dst := some 85, op := _, type := _, pos := _, after := _, guard := _ }) (v := (.bool false)) rfl (by kernel_rfl) (by kernel_rfl) (by kernel_rfl) (fun _ _ _ h => h) (Or.inl ⟨by rfl, ?hy54⟩) (by assumption) ?rest54
          case hy54 => (intro w hSw; obtain ⟨⟨p0,p1⟩,⟨p2,p3⟩,p4,p5⟩ := hSw; first | (go_simp; done) | (go_simp; simp [*]; done) | (simp [*]; go_simp; done))
          try simp only [Act.put, List.setIfInBounds_toArray, List.set_cons_zero, List.set_cons_succ]
          refine wpAnyH_take (i := 12) (oi := { dst := some 86, op := _, type := _, pos := _, after := _, guard := _ }) (v := (.bool false)) rfl (by kernel_rfl) (by kernel_rfl) (by kernel_rfl) (fun _ _ _ h => h) (Or.inl ⟨by rfl, ?hy55⟩) (by assumption) ?rest55
          case hy55 => (intro w hSw; obtain ⟨⟨p0,p1⟩,⟨p2,p3⟩,p4,p5⟩ := hSw; first | (go_simp; done) | (go_simp; simp [*]; done) | (simp [*]; go_simp; done))
          try simp only [Act.put, List.setIfInBounds_toArray, List.set_cons_zero, List.set_cons_succ]
          refine wpAnyH_take (i := 13) (oi := { dst := some 87, op := _, type := _, pos := _, after := _, guard := _ }) (v := (.bool false)) rfl (by kernel_rfl) (by kernel_rfl) (by kernel_rfl) (fun _ _ _ h => h) (Or.inl ⟨by rfl, ?hy56⟩) (by assumption) ?rest56
          case hy56 => (intro w hSw; obtain ⟨⟨p0,p1⟩,⟨p2,p3⟩,p4,p5⟩ := hSw; first | (go_simp; done) | (go_simp; simp [*]; done) | (simp [*]; go_simp; done))
          try simp only [Act.put, List.setIfInBounds_toArray, List.set_cons_zero, List.set_cons_succ]
          refine wpAnyH_take (i := 14) (oi := { dst := some 88, op := _, type := _, pos := _, after := _, guard := _ }) (v := ?v57) rfl (by kernel_rfl) (by kernel_rfl) (by kernel_rfl) (fun _ _ _ h => h) (Or.inl ⟨by rfl, ?hy57⟩) (by assumption) ?rest57
          case hy57 => (intro w hSw; obtain ⟨⟨p0,p1⟩,⟨p2,p3⟩,p4,p5⟩ := hSw; go_simp; try with_reducible rfl)
          try simp only [Act.put, List.setIfInBounds_toArray, List.set_cons_zero, List.set_cons_succ]
          refine wpAnyH_take (i := 15) (oi := { dst := some 89, op := _, type := _, pos := _, after := _, guard := _ }) (v := (.agg #[.string cb, .int .u64 7])) rfl (by kernel_rfl) (by kernel_rfl) (by kernel_rfl) (fun _ _ _ h => h) (Or.inl ⟨by rfl, ?hy58⟩) (by assumption) ?rest58
          case hy58 => (intro w hSw; obtain ⟨⟨p0,p1⟩,⟨p2,p3⟩,p4,p5⟩ := hSw; first | (go_simp; done) | (go_simp; simp [*]; done) | (simp [*]; go_simp; done))
          try simp only [Act.put, List.setIfInBounds_toArray, List.set_cons_zero, List.set_cons_succ]

          have MO90 := keep (px_offer PZ.out (cb, 7) gd4 (by simp) (by omega) kn7)
          dsimp only at MO90
          refine wpAnyH_ready (rs := [16]) (by kernel_rfl) (by simp) ?_
          refine AllReadyH.cons (o := { dst := some 90, op := _, type := _, pos := _, after := _, guard := _ }) rfl (fun K hK => ?_) AllReadyH.nil
          go_simp
          refine MO90.out.mono ?_
          rintro _ wy ⟨rfl, vwy, pwy⟩
          have PY := keep pwy
          refine hK.out _ _ (pwy.k3 (fun _ h => h)) (fun hHeld => ?_)
          try simp only [Act.put, List.setIfInBounds_toArray, List.set_cons_zero, List.set_cons_succ]
          clear hK pwy MO90

          refine wpAnyH_take (i := 17) (oi := { dst := some 91, op := _, type := _, pos := _, after := _, guard := _ }) (v := (.bool false)) rfl (by kernel_rfl) (by kernel_rfl) (by kernel_rfl) (fun _ _ _ h => h) (Or.inl ⟨by rfl, ?hy59⟩) (by assumption) ?rest59
          case hy59 => (intro w hSw; first | (go_simp; done) | (go_simp; simp [*]; done) | (simp [*]; go_simp; done))
          try simp only [Act.put, List.setIfInBounds_toArray, List.set_cons_zero, List.set_cons_succ]

          refine wpAnyH_done (by kernel_rfl) ?_ _
          exact ⟨_, _, rfl, _, PY.out⟩

      case rest =>
        rintro u80 u83 wq3 ⟨vq3, pq⟩
        simp only [Act.put, List.setIfInBounds_toArray, List.set_cons_zero, List.set_cons_succ]
        have PQ := keep pq
        clear pq
        have MT1 := keep (px_take PQ.out (by simp))
        unfold fstV at MT1
        dsimp only [List.tail_cons] at MT1
        go_wp2_with fail
        refine MT1.out.mono ?_
        rintro _ wt1 ⟨rfl, vt1, pt1⟩
        obtain ⟨D1, hD1⟩ : ∃ x, wt1.heap.size = x := ⟨_, rfl⟩
        obtain ⟨W8, hW8⟩ : ∃ x, wt1.alloc (ob (cc, 4)) = x := ⟨_, rfl⟩
        have p8 := pt1.more (ob (cc, 4))
        rw [hW8, hD1] at p8
        unfold ob at hW8
        dsimp only at hW8
        have P8 := keep p8
        have MT2 := keep (px_take P8.out (by simp))
        unfold fstV at MT2
        dsimp only [List.tail_cons] at MT2
        clear pt1 p8 MT1
        go_wp2_with fail
        refine MT2.out.mono ?_
        rintro _ wt2 ⟨rfl, vt2, pt2⟩
        obtain ⟨D2, hD2⟩ : ∃ x, wt2.heap.size = x := ⟨_, rfl⟩
        obtain ⟨W9, hW9⟩ : ∃ x, wt2.alloc (ob (ca, 7)) = x := ⟨_, rfl⟩
        have p9 := pt2.more (ob (ca, 7))
        rw [hW9, hD2] at p9
        unfold ob at hW9
        dsimp only at hW9
        have P9 := keep p9
        have MT3 := keep (px_take P9.out (by simp))
        unfold fstV at MT3
        dsimp only [List.tail_nil] at MT3
        clear pt2 p9 MT2
        go_wp2_with fail
        refine MT3.out.mono ?_
        rintro _ wt3 ⟨rfl, vt3, pt3⟩
        obtain ⟨D3, hD3⟩ : ∃ x, wt3.heap.size = x := ⟨_, rfl⟩
        obtain ⟨W10, hW10⟩ : ∃ x, wt3.alloc (.cells #[.string { data := #[] }, .int .u64 0] 32) = x := ⟨_, rfl⟩
        have g10 : W10.heap[D3]? = some (.cells #[.string { data := #[] }, .int .u64 0] 32 (0, 0)) := by rw [← hW10, ← hD3]; exact heap_alloc_new _ _
        have hb10 : Below wt3.heap.size wt3 W10 := by rw [← hW10]; exact (Below.refl _ wt3).alloc (Nat.le_refl _) _
        obtain ⟨y0, y1, y2⟩ := cells_two g10
        obtain ⟨W11, hW11⟩ : ∃ x, (W10.setCell ⟨D3, 0, none⟩ (.string { data := #[] })).setCell ⟨D3, 1, none⟩ (.int .u64 0) = x := ⟨_, rfl⟩
        obtain ⟨g11, o11⟩ := two_set g10 hW11
        have hb11 : Below wt3.heap.size wt3 W11 := by rw [← hW11]; exact (hb10.setCell (by rw [hD3]; exact Nat.le_refl _) _).setCell (by rw [hD3]; exact Nat.le_refl _) _
        have P11 := keep (pt3.below hb11)
        have z3 := P11.out.k3 (A := A) (B := B) (C := C) (a := (ca, 7)) (b := (cb, 7)) (c := (cc, 4)) (fun _ h => by simp [h])
        obtain ⟨⟨k0, k1⟩, ⟨k2, k3⟩, k4, k5⟩ := z3
        obtain ⟨d0, d1, _⟩ := cells_two (P11.out.side (D1, ob (cc, 4)) (by simp)).1
        obtain ⟨e0, e1, _⟩ := cells_two (P11.out.side (D2, ob (ca, 7)) (by simp)).1
        obtain ⟨f0, f1, _⟩ := cells_two g11
        have MN1 := keep (new_no W11 0 (by omega))
        have MN2 := keep (new_no W11 17 (by omega))
        have MD := keep (drop_any W11 b 2 vt3 [] ca P11.out.pl good0 (by simp))
        rw [show has ca [] = false from rfl] at MD
        have r1 := eq_run (cc, 4) (cc, 4)
        have r2 := eq_run (ca, 7) (ca, 7)
        have r3 := eq_run (⟨#[]⟩, 0) (⟨#[]⟩, 0)
        rw [eqE_self] at r1 r2 r3
        dsimp only at r1 r2 r3 k0 k1 k2 k3 k4 k5 d0 d1 e0 e1
        clear pt3 MT3 g10 hb10 o11 hb11 g11 zB zA
        go_wp2_with fail
        refine MN1.out.mono ?_
        rintro _ wn ⟨rfl, hw⟩
        obtain rfl := hw.symm
        go_wp2_with fail
        refine MN2.out.mono ?_
        rintro _ wn ⟨rfl, hw⟩
        obtain rfl := hw.symm
        clear MN1 MN2 y0 y1 y2
        go_wp2_with fail
        refine MD.out.mono ?_
        intro e wf hd
        obtain ⟨rfl, vf, pf⟩ := P11.out.did hd
        have BF := keep pf.bel
        clear hd pf MD
        go_wp2
        go_ret
        exact ⟨by simp, BF.out⟩
end Go.Proofs.Ytgniiojeeobffaa
