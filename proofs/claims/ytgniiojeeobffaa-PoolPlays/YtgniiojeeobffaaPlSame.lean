/-
  Contracts over this program: are two rows the same; does one come sooner (the statements' own).
-/
import Derived.Test.YtgniiojeeobffaaPlWakes
namespace Go.Proofs.Ytgniiojeeobffaa
open Go.RowKit Go.Shelf
set_option linter.unusedVariables false
set_option linter.unusedSimpArgs false
set_option maxRecDepth 100000
def smL : List Ent → List Ent → Bool
  | [], [] => true
  | a :: l, b :: m => eqE a b && smL l m
  | [], _ :: _ => false
  | _ :: _, [] => false
theorem smL_iff : ∀ {l m : List Ent}, smL l m = true ↔ l = m
  | [], [] => by simp [smL]
  | a :: l, b :: m => by rw [smL, Bool.and_eq_true, eqE_iff, smL_iff (l := l) (m := m), List.cons.injEq]
  | [], _ :: _ => by simp [smL]
  | _ :: _, [] => by simp [smL]
theorem smL_not {l m : List Ent} (h : l ≠ m) : smL l m = false := by
  cases e : smL l m with
  | false => rfl
  | true => exact absurd (smL_iff.1 e) h
def D4 (g1 g2 o : Nat) (x y : Ent) (W : World) : Prop := W.cell? ⟨g1, o, none⟩ = some (.string x.1) ∧ W.cell? ⟨g1, o + 1, none⟩ = some (.int .u64 x.2) ∧ W.cell? ⟨g2, o, none⟩ = some (.string y.1) ∧ W.cell? ⟨g2, o + 1, none⟩ = some (.int .u64 y.2)
def Smd (w : World) (l1 l2 : List Ent) (e : Ending) (w' : World) : Prop := e = .returned (.bool (smL l1 l2)) ∧ Below w.heap.size w w'
set_option maxHeartbeats 4000000 in
theorem same_any (w : World) (v1 v2 : Value) (l1 l2 : List Ent) (h1 : Row w v1 l1) (h2 : Row w v2 l2) (hn : l1.length ≤ 2000000) :
    Calls Try.prog 20 #[v1, v2] w fun e w' => Smd w l1 l2 e w' := by
  obtain ⟨a1, n1, c1, hv1, hn1, hg1⟩ : ∃ ao n c, v1 = .slice ao n c ∧ n = l1.length ∧ (0 < n → ∃ g, ao = some ⟨g, 0, none⟩ ∧ Cel w g l1) := by
    rcases h1.form with ⟨rfl, rfl⟩ | ⟨g, c, rfl, _⟩
    · exact ⟨_, _, _, rfl, rfl, fun h => by omega⟩
    · exact ⟨_, _, _, rfl, rfl, fun _ => ⟨g, rfl, cel_of h1⟩⟩
  obtain ⟨a2, n2, c2, hv2, hn2, hg2⟩ : ∃ ao n c, v2 = .slice ao n c ∧ n = l2.length ∧ (0 < n → ∃ g, ao = some ⟨g, 0, none⟩ ∧ Cel w g l2) := by
    rcases h2.form with ⟨rfl, rfl⟩ | ⟨g, c, rfl, _⟩
    · exact ⟨_, _, _, rfl, rfl, fun h => by omega⟩
    · exact ⟨_, _, _, rfl, rfl, fun _ => ⟨g, rfl, cel_of h2⟩⟩
  subst hv1 hv2
  have HQ : Kept (∀ (r : Bool) w', (r = true ↔ l1 = l2) → Below w.heap.size w w' → Smd w l1 l2 (.returned (.bool r)) w') := fun r w' hr hb => by
    refine ⟨?_, hb⟩
    cases r
    · rw [smL_not (fun e => by have := hr.2 e; cases this)]
    · rw [smL_iff.2 (hr.1 rfl)]
  generalize Smd w l1 l2 = Q at *
  clear h1 h2
  by_cases hne : n1 = n2
  · subst hne
    rcases Nat.eq_zero_or_pos n1 with h0 | hpos
    · subst h0
      have e1 : l1 = [] := List.length_eq_zero_iff.1 hn1.symm
      have e2 : l2 = [] := List.length_eq_zero_iff.1 hn2.symm
      have HF := keep (HQ.out true w (by simp [e1, e2]) (Below.refl _ _))
      clear hg1 hg2 hn1 hn2 hn HQ e1 e2
      go_enter Try.func20, Try.ntmps20
      go_wp2
      refine loop_at ?_
      go_wp2
      first | exact HF.out | (go_ret; exact HF.out)
    · obtain ⟨g1, rfl, C1⟩ := hg1 hpos
      obtain ⟨g2, rfl, C2⟩ := hg2 hpos
      have K1 := keep C1
      have K2 := keep C2
      have HN1 := keep hn1
      have HN2 := keep hn2
      have HN : Kept (n1 ≤ 2000000) := by show _ ≤ _; omega
      obtain ⟨n, hn'⟩ : ∃ n, n1 = n := ⟨_, rfl⟩
      subst hn'
      have und := und_cd
      have stood := stood_cd
      have gua := guard_cd
      clear hn1 hn2 hn C1 C2 hg1 hg2 hpos
      go_enter Try.func20, Try.ntmps20
      go_wp2
      go_loopg [13] n1 (fun kx s wr => ∃ i : Nat, s = .int .i64 i ∧ i ≤ n1 ∧ n1 - i ≤ kx ∧ Kept (Below w.heap.size w wr) ∧ Kept (∀ t : Nat, t < i → l1[t]? = l2[t]?))
      case atStart => exact ⟨0, rfl, Nat.zero_le _, by omega, Below.refl _ _, fun t ht => absurd ht (Nat.not_lt_zero _)⟩
      case round =>
        obtain ⟨i, rfl, hin, hg, BW, I⟩ := hrel
        by_cases hlt : i < n1
        · have hm1 : i < l1.length := by have := HN1.out; omega
          have hm2 : i < l2.length := by have := HN2.out; omega
          obtain ⟨x, hx⟩ : ∃ x, l1[i]? = some x := ⟨_, List.getElem?_eq_getElem hm1⟩
          obtain ⟨y, hy⟩ : ∃ y, l2[i]? = some y := ⟨_, List.getElem?_eq_getElem hm2⟩
          obtain ⟨oM, hoM⟩ : ∃ o, o = i * 2 := ⟨_, rfl⟩
          obtain ⟨e0, e1⟩ := K1.out.bel BW.out i _ hx
          obtain ⟨f0, f1⟩ := K2.out.bel BW.out i _ hy
          rw [← hoM] at e0 e1 f0 f1
          have hoM' : i * 2 = oM := hoM.symm
          have i0 : (0 : Int) ≤ (i : Int) := by omega
          have i1 : (i : Int) < (n1 : Int) := by omega
          have hS : D4 g1 g2 oM x y wr.drew := ⟨e0, e1, f0, f1⟩
          have HS := keep hS
          have HX := keep hx
          have HY := keep hy
          have nr := ne_run x y
          have HE : Kept (eqE x y = true ↔ x = y) := eqE_iff
          obtain ⟨x1, x2⟩ := x
          obtain ⟨y1, y2⟩ := y
          dsimp only at nr
          have BW' : Kept (Below w.heap.size w wr.drew) := BW.out.drew
          clear hx hy hm1 hm2 hoM e0 e1 f0 f1 hS
          cases hq : eqE (x1, x2) (y1, y2)
          · rw [hq] at nr
            have hxy : (x1, x2) ≠ (y1, y2) := fun e => by have := HE.out.2 e; rw [hq] at this; cases this
            have HF := keep (HQ.out false wr.drew (by constructor; (intro h; cases h); (intro h; rw [h, HY.out] at HX; have := Option.some.inj HX.out; exact absurd this.symm hxy)) BW'.out)
            clear hq hxy HE
            go_wp2_with fail
            refine wp_region_held_drew (S := D4 g1 g2 oM (x1, x2) (y1, y2)) (by kernel_rfl) HS.out (fun hHeld => ?_)
            refine wpAnyH_take (i := 0) (oi := { dst := some 16, op := _, type := _, pos := _, after := _, guard := _ }) (v := ?v1) rfl (by kernel_rfl) (by kernel_rfl) (by kernel_rfl) (fun _ _ _ h => h) (Or.inl ⟨by rfl, ?hy1⟩) (by assumption) ?rest1
            case hy1 => (intro w hSw; obtain ⟨p0,p1,p2,p3⟩ := hSw; go_simp; try with_reducible rfl)
            try simp only [Act.put, List.setIfInBounds_toArray, List.set_cons_zero, List.set_cons_succ]
            refine wpAnyH_take (i := 1) (oi := { dst := some 17, op := _, type := _, pos := _, after := _, guard := _ }) (v := ?v2) rfl (by kernel_rfl) (by kernel_rfl) (by kernel_rfl) (fun _ _ _ h => h) (Or.inl ⟨by rfl, ?hy2⟩) (by assumption) ?rest2
            case hy2 => (intro w hSw; obtain ⟨p0,p1,p2,p3⟩ := hSw; go_simp; try with_reducible rfl)
            try simp only [Act.put, List.setIfInBounds_toArray, List.set_cons_zero, List.set_cons_succ]
            refine wpAnyH_take (i := 2) (oi := { dst := some 18, op := _, type := _, pos := _, after := _, guard := _ }) (v := (.pointer (some ⟨g1, oM, none⟩))) rfl (by kernel_rfl) (by kernel_rfl) (by kernel_rfl) (fun _ _ _ h => h) (Or.inl ⟨by rfl, ?hy3⟩) (by assumption) ?rest3
            case hy3 => (intro w hSw; obtain ⟨p0,p1,p2,p3⟩ := hSw; first | (go_simp; done) | (go_simp; simp [*]; done) | (simp [*]; go_simp; done))
            try simp only [Act.put, List.setIfInBounds_toArray, List.set_cons_zero, List.set_cons_succ]
            refine wpAnyH_take (i := 3) (oi := { dst := some 19, op := _, type := _, pos := _, after := _, guard := _ }) (v := (.agg #[.string x1, .int .u64 x2])) rfl (by kernel_rfl) (by kernel_rfl) (by kernel_rfl) (fun _ _ _ h => h) (Or.inl ⟨by rfl, ?hy4⟩) (by assumption) ?rest4
            case hy4 => (intro w hSw; obtain ⟨p0,p1,p2,p3⟩ := hSw; first | (go_simp; done) | (go_simp; simp [*]; done) | (simp [*]; go_simp; done))
            try simp only [Act.put, List.setIfInBounds_toArray, List.set_cons_zero, List.set_cons_succ]
            refine wpAnyH_take (i := 4) (oi := { dst := some 20, op := _, type := _, pos := _, after := _, guard := _ }) (v := ?v5) rfl (by kernel_rfl) (by kernel_rfl) (by kernel_rfl) (fun _ _ _ h => h) (Or.inl ⟨by rfl, ?hy5⟩) (by assumption) ?rest5
            case hy5 => (intro w hSw; obtain ⟨p0,p1,p2,p3⟩ := hSw; go_simp; try with_reducible rfl)
            try simp only [Act.put, List.setIfInBounds_toArray, List.set_cons_zero, List.set_cons_succ]
            refine wpAnyH_take (i := 5) (oi := { dst := some 21, op := _, type := _, pos := _, after := _, guard := _ }) (v := ?v6) rfl (by kernel_rfl) (by kernel_rfl) (by kernel_rfl) (fun _ _ _ h => h) (Or.inl ⟨by rfl, ?hy6⟩) (by assumption) ?rest6
            case hy6 => (intro w hSw; obtain ⟨p0,p1,p2,p3⟩ := hSw; go_simp; try with_reducible rfl)
            try simp only [Act.put, List.setIfInBounds_toArray, List.set_cons_zero, List.set_cons_succ]
            refine wpAnyH_take (i := 6) (oi := { dst := some 22, op := _, type := _, pos := _, after := _, guard := _ }) (v := (.pointer (some ⟨g2, oM, none⟩))) rfl (by kernel_rfl) (by kernel_rfl) (by kernel_rfl) (fun _ _ _ h => h) (Or.inl ⟨by rfl, ?hy7⟩) (by assumption) ?rest7
            case hy7 => (intro w hSw; obtain ⟨p0,p1,p2,p3⟩ := hSw; first | (go_simp; done) | (go_simp; simp [*]; done) | (simp [*]; go_simp; done))
            try simp only [Act.put, List.setIfInBounds_toArray, List.set_cons_zero, List.set_cons_succ]
            refine wpAnyH_take (i := 7) (oi := { dst := some 23, op := _, type := _, pos := _, after := _, guard := _ }) (v := (.agg #[.string y1, .int .u64 y2])) rfl (by kernel_rfl) (by kernel_rfl) (by kernel_rfl) (fun _ _ _ h => h) (Or.inl ⟨by rfl, ?hy8⟩) (by assumption) ?rest8
            case hy8 => (intro w hSw; obtain ⟨p0,p1,p2,p3⟩ := hSw; first | (go_simp; done) | (go_simp; simp [*]; done) | (simp [*]; go_simp; done))
            try simp only [Act.put, List.setIfInBounds_toArray, List.set_cons_zero, List.set_cons_succ]
            refine wpAnyH_take (i := 8) (oi := { dst := some 24, op := _, type := _, pos := _, after := _, guard := _ }) (v := (.bool true)) rfl (by kernel_rfl) (by kernel_rfl) (by kernel_rfl) (fun _ _ _ h => h) (Or.inl ⟨by rfl, ?hy9⟩) (by assumption) ?rest9
            case hy9 => (intro w hSw; obtain ⟨p0,p1,p2,p3⟩ := hSw; first | (go_simp; done) | (go_simp; simp [*]; done) | (simp [*]; go_simp; done))
            try simp only [Act.put, List.setIfInBounds_toArray, List.set_cons_zero, List.set_cons_succ]
            refine wpAnyH_done (by kernel_rfl) ?_ _
            clear hHeld
            go_wp2
            first | exact HF.out | (go_ret; exact HF.out)
          · rw [hq] at nr
            have hxy : (x1, x2) = (y1, y2) := HE.out.1 hq
            have I' : Kept (∀ t : Nat, t < i + 1 → l1[t]? = l2[t]?) := fun t ht => by
              rcases Nat.lt_or_ge t i with h' | h'
              · exact I.out t h'
              · obtain rfl : t = i := by omega
                rw [HX.out, HY.out, hxy]
            clear hq hxy HE
            go_wp2_with fail
            refine wp_region_held_drew (S := D4 g1 g2 oM (x1, x2) (y1, y2)) (by kernel_rfl) HS.out (fun hHeld => ?_)
            refine wpAnyH_take (i := 0) (oi := { dst := some 16, op := _, type := _, pos := _, after := _, guard := _ }) (v := ?v10) rfl (by kernel_rfl) (by kernel_rfl) (by kernel_rfl) (fun _ _ _ h => h) (Or.inl ⟨by rfl, ?hy10⟩) (by assumption) ?rest10
            case hy10 => (intro w hSw; obtain ⟨p0,p1,p2,p3⟩ := hSw; go_simp; try with_reducible rfl)
            try simp only [Act.put, List.setIfInBounds_toArray, List.set_cons_zero, List.set_cons_succ]
            refine wpAnyH_take (i := 1) (oi := { dst := some 17, op := _, type := _, pos := _, after := _, guard := _ }) (v := ?v11) rfl (by kernel_rfl) (by kernel_rfl) (by kernel_rfl) (fun _ _ _ h => h) (Or.inl ⟨by rfl, ?hy11⟩) (by assumption) ?rest11
            case hy11 => (intro w hSw; obtain ⟨p0,p1,p2,p3⟩ := hSw; go_simp; try with_reducible rfl)
            try simp only [Act.put, List.setIfInBounds_toArray, List.set_cons_zero, List.set_cons_succ]
            refine wpAnyH_take (i := 2) (oi := { dst := some 18, op := _, type := _, pos := _, after := _, guard := _ }) (v := (.pointer (some ⟨g1, oM, none⟩))) rfl (by kernel_rfl) (by kernel_rfl) (by kernel_rfl) (fun _ _ _ h => h) (Or.inl ⟨by rfl, ?hy12⟩) (by assumption) ?rest12
            case hy12 => (intro w hSw; obtain ⟨p0,p1,p2,p3⟩ := hSw; first | (go_simp; done) | (go_simp; simp [*]; done) | (simp [*]; go_simp; done))
            try simp only [Act.put, List.setIfInBounds_toArray, List.set_cons_zero, List.set_cons_succ]
            refine wpAnyH_take (i := 3) (oi := { dst := some 19, op := _, type := _, pos := _, after := _, guard := _ }) (v := (.agg #[.string x1, .int .u64 x2])) rfl (by kernel_rfl) (by kernel_rfl) (by kernel_rfl) (fun _ _ _ h => h) (Or.inl ⟨by rfl, ?hy13⟩) (by assumption) ?rest13
            case hy13 => (intro w hSw; obtain ⟨p0,p1,p2,p3⟩ := hSw; first | (go_simp; done) | (go_simp; simp [*]; done) | (simp [*]; go_simp; done))
            try simp only [Act.put, List.setIfInBounds_toArray, List.set_cons_zero, List.set_cons_succ]
            refine wpAnyH_take (i := 4) (oi := { dst := some 20, op := _, type := _, pos := _, after := _, guard := _ }) (v := ?v14) rfl (by kernel_rfl) (by kernel_rfl) (by kernel_rfl) (fun _ _ _ h => h) (Or.inl ⟨by rfl, ?hy14⟩) (by assumption) ?rest14
            case hy14 => (intro w hSw; obtain ⟨p0,p1,p2,p3⟩ := hSw; go_simp; try with_reducible rfl)
            try simp only [Act.put, List.setIfInBounds_toArray, List.set_cons_zero, List.set_cons_succ]
            refine wpAnyH_take (i := 5) (oi := { dst := some 21, op := _, type := _, pos := _, after := _, guard := _ }) (v := ?v15) rfl (by kernel_rfl) (by kernel_rfl) (by kernel_rfl) (fun _ _ _ h => h) (Or.inl ⟨by rfl, ?hy15⟩) (by assumption) ?rest15
            case hy15 => (intro w hSw; obtain ⟨p0,p1,p2,p3⟩ := hSw; go_simp; try with_reducible rfl)
            try simp only [Act.put, List.setIfInBounds_toArray, List.set_cons_zero, List.set_cons_succ]
            refine wpAnyH_take (i := 6) (oi := { dst := some 22, op := _, type := _, pos := _, after := _, guard := _ }) (v := (.pointer (some ⟨g2, oM, none⟩))) rfl (by kernel_rfl) (by kernel_rfl) (by kernel_rfl) (fun _ _ _ h => h) (Or.inl ⟨by rfl, ?hy16⟩) (by assumption) ?rest16
            case hy16 => (intro w hSw; obtain ⟨p0,p1,p2,p3⟩ := hSw; first | (go_simp; done) | (go_simp; simp [*]; done) | (simp [*]; go_simp; done))
            try simp only [Act.put, List.setIfInBounds_toArray, List.set_cons_zero, List.set_cons_succ]
            refine wpAnyH_take (i := 7) (oi := { dst := some 23, op := _, type := _, pos := _, after := _, guard := _ }) (v := (.agg #[.string y1, .int .u64 y2])) rfl (by kernel_rfl) (by kernel_rfl) (by kernel_rfl) (fun _ _ _ h => h) (Or.inl ⟨by rfl, ?hy17⟩) (by assumption) ?rest17
            case hy17 => (intro w hSw; obtain ⟨p0,p1,p2,p3⟩ := hSw; first | (go_simp; done) | (go_simp; simp [*]; done) | (simp [*]; go_simp; done))
            try simp only [Act.put, List.setIfInBounds_toArray, List.set_cons_zero, List.set_cons_succ]
            refine wpAnyH_take (i := 8) (oi := { dst := some 24, op := _, type := _, pos := _, after := _, guard := _ }) (v := (.bool false)) rfl (by kernel_rfl) (by kernel_rfl) (by kernel_rfl) (fun _ _ _ h => h) (Or.inl ⟨by rfl, ?hy18⟩) (by assumption) ?rest18
            case hy18 => (intro w hSw; obtain ⟨p0,p1,p2,p3⟩ := hSw; first | (go_simp; done) | (go_simp; simp [*]; done) | (simp [*]; go_simp; done))
            try simp only [Act.put, List.setIfInBounds_toArray, List.set_cons_zero, List.set_cons_succ]
            refine wpAnyH_done (by kernel_rfl) ?_ _
            clear hHeld
            have hnn := HN.out
            go_wp2
            go_roundg (n1 - (i + 1))
            case measure => omega
            case rel => exact ⟨i + 1, by simp, by omega, Nat.le_refl _, BW'.out, I'.out⟩
        · obtain rfl : i = n1 := by omega
          have HF := keep (HQ.out true wr (by
            refine ⟨fun _ => List.ext_getElem? (fun t => ?_), fun _ => rfl⟩
            rcases Nat.lt_or_ge t i with h' | h'
            · exact I.out t h'
            · rw [List.getElem?_eq_none (by have := HN1.out; omega), List.getElem?_eq_none (by have := HN2.out; omega)]) BW.out)
          go_wp2
          first | exact HF.out | (go_ret; exact HF.out)
  · have HF := keep (HQ.out false w (by constructor; (intro h; cases h); (intro h; rw [h] at hn1; exact absurd (hn1.trans hn2.symm) hne)) (Below.refl _ _))
    have hb : ((n1 : Int) != (n2 : Int)) = true := by simpa using (fun e => hne (by omega) : ¬ (n1 : Int) = (n2 : Int))
    clear hg1 hg2 hn1 hn2 hn HQ
    go_enter Try.func20, Try.ntmps20
    go_wp2
    first | exact HF.out | (go_ret; exact HF.out)
set_option maxHeartbeats 1000000 in
theorem sooner_any (a b : Ent) (w : World) : Calls Try.prog 19 #[agE a, agE b] w fun e w' => e = .returned (.bool (snr a b)) ∧ Below w.heap.size w w' := by
  obtain ⟨a1, a2⟩ := a
  obtain ⟨b1, b2⟩ := b
  have hb : ∀ (w : World) (o p : Obj), Below w.heap.size w ((w.alloc o).alloc p) := fun w o p => ((Below.refl _ w).alloc (Nat.le_refl _) _).alloc (by simp) _
  have HB := keep hb
  clear hb
  unfold agE
  dsimp only
  by_cases h1 : a2 < b2
  · have hs : snr (a1, a2) (b1, b2) = true := by simp [snr, h1]
    rw [hs]
    clear hs
    go_enter Try.func19, Try.ntmps19
    go_wp2
    go_ret
    exact ⟨by simp, HB.out _ _ _⟩
  · by_cases h2 : a2 = b2
    · subst h2
      obtain ⟨r, hr⟩ : ∃ r, Op.bytesLess a1.toList b1.toList = r := ⟨_, rfl⟩
      have hs : snr (a1, a2) (b1, a2) = r := by simp [snr, tls, hr]
      rw [hs]
      clear hs h1
      go_enter Try.func19, Try.ntmps19
      go_wp2
      go_ret
      exact ⟨by simp, HB.out _ _ _⟩
    · have hs : snr (a1, a2) (b1, b2) = false := by simp [snr, h1, h2]
      rw [hs]
      clear hs
      go_enter Try.func19, Try.ntmps19
      go_wp2
      go_ret
      exact ⟨by simp, HB.out _ _ _⟩
end Go.Proofs.Ytgniiojeeobffaa
