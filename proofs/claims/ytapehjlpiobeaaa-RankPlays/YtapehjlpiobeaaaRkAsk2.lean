/-
  Contracts over this program: Range, with ends beyond the row.
-/
import Derived.Test.YtapehjlpiobeaaaRkAsk
namespace Go.Proofs.Ytapehjlpiobeaaa
open Go.RowKit Go.Shelf
set_option linter.unusedVariables false
set_option linter.unusedSimpArgs false
set_option maxRecDepth 100000 in
set_option maxHeartbeats 4000000 in
theorem krange_hi {w : World} {O : Nat → Prop} {R seed : Nat} {L : List Ent} (hK : RK w O R seed L) (lo : Nat) (B : Int) (hB : (L.length : Int) < B) (hlh : lo < L.length) :
    Calls Try.prog 14 #[.pointer (some ⟨R, 0, none⟩), .int .i64 (lo : Int), .int .i64 B] w fun e w' => (∃ v, e = .returned v ∧ Mr w.heap.size w' v (seg L lo L.length)) ∧ Below w.heap.size w w' := by
  have hlen0 : L.length = L.length := rfl
  generalize hHi : L.length = hi at hlh hB hlen0 ⊢
  have hhi : hi ≤ L.length := by omega
  have mL := klen_any hK
  rw [hHi] at mL
  have hmath := hK.math
  obtain ⟨h, r, bb, rv, T, s, hH, hR, rfl, hO⟩ := hK
  have hL := hR.2.2.1
  have hG := hR.2.2.2.1
  have hne : ∀ x ∈ T, x.2.2 ≠ [] := fun x hx => (hG x hx).1
  have hlen := hmath.2.2.1
  have hhl : hi ≤ (flat T).length := hhi
  have hT0 : 0 < T.length := by
    cases T with
    | nil => simp [flat_nil] at hhl; omega
    | cons y T => simp
  obtain ⟨gt, c, hrv, hc1, hc2⟩ := hL.2.1.form hT0
  subst hrv
  obtain ⟨n, hn'⟩ : ∃ n, T.length = n := ⟨_, rfl⟩
  have hnl : n ≤ 1048576 := by have := gd_len hne; omega
  obtain ⟨m, hm⟩ : ∃ m, m = hi - lo := ⟨_, rfl⟩
  obtain ⟨i0, hi0, hz0, hz1, hz2⟩ := info_parts info_rk
  obtain ⟨w1, k1, k2, k3⟩ := run_make_own (P := Try.prog) w w.heap.size 41 46 i0 _ 2 Try.underlying41 hi0 hz0 hz1 .i64 .i64 m (by rw [hz2]; omega) (by unfold maxLen; omega) (Nat.le_refl _)
  have hb1 : Below w.heap.size w w1 := (Below.refl _ w).grown k3 (Nat.le_refl _) (fun k hk => by cases hk)
  have d2 := (four (hL.below hb1).1).2.2.1
  rw [hn'] at d2
  have hwm : IntKind.i64.wrap ((hi : Int) - (lo : Int)) = (m : Int) := by rw [IntKind.wrap_i64]; omega
  have HL := keep hL
  have HG := keep hG
  have HK2 : Kept (Mr w.heap.size w1 (.slice (some ⟨w.heap.size, 0, none⟩) 0 m) []) := k2
  have HB1 := keep hb1
  have HN := keep hn'
  have HNL := keep hnl
  have HLEN := keep hlen
  have HHL := keep hhl
  have HLH := keep hlh
  have hlt : ¬ (hi : Int) ≤ (lo : Int) := by omega
  have hltd : decide ((hi : Int) ≤ (lo : Int)) = false := decide_eq_false hlt
  have hltn : ¬ hi ≤ lo := by omega
  have hltm : lo < hi := by omega
  have LOOP : Kept (∀ (k f t : Nat) (tv : Value) (M : List Ent) (wr : World), k < n → f = lo - cntA T k → t = hi - cntA T k → M = seg (flat (T.take k)) lo hi → Mr w.heap.size wr tv M → Below w.heap.size w wr → ∃ gx cx mx lx, wr.cell? ⟨gt, k, none⟩ = some (.slice (some ⟨gx, 0, none⟩) lx cx) ∧ lx ≤ 1024 ∧ f ≤ t ∧ t ≤ 1048576 ∧ Kept (∀ m1 m2, m1 = min f lx → m2 = min t lx → ∃ so cc v' w' o' c', (∀ w, (Instr.slice 41 (.slice (some ⟨gx, 0, none⟩) lx cx) (some (.int .i64 (m1 : Int))) (some (.int .i64 (m2 : Int))) none).run Try.prog w = .ok (.slice (some so) (m2 - m1) cc) w) ∧
      (Builtin.append_ #[41, 41] 41 #[tv, .slice (some so) (m2 - m1) cc]).run Try.prog wr = .ok v' w' ∧ v' = .slice o' (M ++ seg mx m1 m2).length c' ∧ Mr w.heap.size w' v' (seg (flat (T.take (k + 1))) lo hi) ∧ Below w.heap.size w w') ∧ f - lx = lo - cntA T (k + 1) ∧ t - lx = hi - cntA T (k + 1)) := by
    intro k f t tv M wr hk hf ht hM hMr hB
    have hLr := hL.below hB
    obtain ⟨x, hx⟩ : ∃ x, T[k]? = some x := ⟨_, List.getElem?_eq_getElem (by omega)⟩
    have hcell := hLr.2.1.at hx
    have hrow := hLr.2.1.2.1 x (List.mem_of_getElem? hx)
    have hxl := hL.lt x.1 (by rw [bl_some]; exact List.mem_cons.2 (.inr (List.mem_cons.2 (.inr (List.mem_map.2 ⟨x, List.mem_of_getElem? hx, rfl⟩)))))
    have hgd := hG x (List.mem_of_getElem? hx)
    have hcnt := cntA_succ hx
    have hcl := flat_take_le T (k + 1)
    obtain ⟨gx, cx, mx⟩ := x
    unfold rwV at hcell
    dsimp only at hcell hgd hcnt hxl
    refine ⟨gx, cx, mx, mx.length, hcell, hgd.2, by omega, by omega, ?_, by omega, by omega⟩
    intro m1 m2 e1 e2
    have hMl : M.length ≤ 1048576 := by
      rw [hM, seg_len]
      have := flat_take_le T k
      unfold cntA at this
      omega
    obtain ⟨so, cc, v', w', o', c', q1, q2, q3, q4, q5⟩ := range_round (m1 := m1) (m2 := m2) (n := 0) (g := 0) (c := 0) hB.size hMr hrow rfl (by omega) (by omega) (by have := hgd.2; omega) hxl
    refine ⟨so, cc, v', w', o', c', q1, q2, q3, ?_, hB.trans q5⟩
    have e3 : seg (flat (T.take (k + 1))) lo hi = M ++ seg mx m1 m2 := by
      have e4 : flat (T.take (k + 1)) = flat (T.take k) ++ mx := by
        rw [List.take_add_one, hx, flat_app]
        show _ ++ flat [(gx, cx, mx)] = _
        rw [flat_cons, flat_nil, List.append_nil]
      rw [e4, seg_app, hM]
      congr 1
      have hc' : (flat (T.take k)).length = cntA T k := rfl
      rw [hc', ← hf, ← ht]
      unfold seg
      rw [e1, e2]
      rcases Nat.le_total t mx.length with h1 | h1
      · rw [Nat.min_eq_left h1, Nat.min_eq_left (by omega)]
      · rw [Nat.min_eq_right h1, List.take_of_length_le h1, List.take_of_length_le (Nat.le_refl _)]
        rcases Nat.le_total f mx.length with h2 | h2
        · rw [Nat.min_eq_left h2]
        · rw [Nat.min_eq_right h2, List.drop_of_length_le h2, List.drop_of_length_le (Nat.le_refl _)]
    rw [e3]
    exact q4
  clear hR hO hL hG hne hlen hhl hT0 hc1 hc2 hmath hm k2 k3 hb1 hnl hlh hn'
  have ha0 : (0 : Int) ≤ (lo : Int) := by omega
  have hb0 : ¬ B ≤ (hi : Int) := by omega
  clear hHi hlen0
  go_enter Try.func14, Try.ntmps14
  go_wp2_with fail
  refine mL.mono ?_
  rintro _ _ ⟨rfl, hw⟩
  obtain rfl := hw.symm
  clear mL
  go_wp2
  go_loopg [1, 2, 7, 9, 10, 29] n (fun kx s1 s2 s7 s9 s10 s29 wr => ∃ (k f t : Nat) (o : Option Addr) (l c7 : Nat), s1 = .int .i64 f ∧ s2 = .int .i64 t ∧ s7 = .slice o l c7 ∧ s29 = .int .i64 k ∧ k ≤ n ∧ n - k ≤ kx ∧ Kept (f = lo - cntA T k ∧ t = hi - cntA T k ∧ Mr w.heap.size wr (.slice o l c7) (seg (flat (T.take k)) lo hi) ∧ Below w.heap.size w wr))
  case atStart => exact ⟨0, lo, hi, some ⟨w.heap.size, 0, none⟩, 0, m, rfl, rfl, rfl, rfl, Nat.zero_le _, by omega, ⟨by simp [cntA, flat_nil], by simp [cntA, flat_nil], by simpa [seg, flat_nil] using HK2.out, HB1.out⟩⟩
  case round =>
    obtain ⟨k, f, t, o, l, c7, rfl, rfl, rfl, rfl, hk, hg, I⟩ := hrel
    obtain ⟨I1, I2, I3, I4⟩ := I.out
    by_cases hkn : k < n
    · obtain ⟨gx, cx, mx, lx, hcell, hlx, hft, htl, RN, e1, e2⟩ := LOOP.out k f t _ _ wr hkn I1 I2 rfl I3 I4
      have E1 := keep e1
      have E2 := keep e2
      have k0 : (0 : Int) ≤ (k : Int) := by omega
      have k1' : (k : Int) < (n : Int) := by omega
      have kw : IntKind.i64.wrap ((k : Int) + 1) = ((k + 1 : Nat) : Int) := by have := HNL.out; rw [IntKind.wrap_i64]; omega
      have HKN := keep hkn
      have HK := keep hk
      clear I1 I2 I3 I4 I e1 e2
      obtain ⟨d1, hd1⟩ : ∃ d1 : Int, (f : Int) - (lx : Int) = d1 := ⟨_, rfl⟩
      obtain ⟨d2', hd2⟩ : ∃ d2' : Int, (t : Int) - (lx : Int) = d2' := ⟨_, rfl⟩
      have w1' : IntKind.i64.wrap ((f : Int) - (lx : Int)) = d1 := by rw [IntKind.wrap_i64]; omega
      have w2' : IntKind.i64.wrap ((t : Int) - (lx : Int)) = d2' := by rw [IntKind.wrap_i64]; omega
      have HX := keep hlx
      have HT := keep htl
      clear hlx htl
      rcases Nat.lt_trichotomy f lx with hf1 | hf1 | hf1
      · rcases Nat.lt_trichotomy t lx with ht1 | ht1 | ht1
        · have a1 : (f : Int) ≤ (lx : Int) := by omega
          have a2 : ¬ (0 : Int) ≤ d1 := by omega
          have b1 : (t : Int) ≤ (lx : Int) := by omega
          have b2 : ¬ (0 : Int) ≤ d2' := by omega
          have hra := keep (RN.out f t (by omega) (by omega))
          obtain ⟨so, cc, v', w', o', c', q1, q2, q3, q4, q5⟩ := hra.out
          subst q3
          obtain ⟨l', hl'⟩ : ∃ l', l' = (seg (flat (T.take k)) lo hi ++ seg mx f t).length := ⟨_, rfl⟩
          rw [← hl'] at q2 q4
          have Q2 := keep q2
          have Q4 := keep q4
          have Q5 := keep q5
          have HD1 := keep hd1
          have HD2 := keep hd2
          have HFT := keep hft
          clear hra q2 q4 q5 RN hl' hd1 hd2 hft
          go_wp2_with (at_builtin; refine wpList_app_run rfl _ _ _ _ rfl _ _ _ rfl rfl Q2.out ?_)
          go_roundg (n - (k + 1))
          case measure => have := HKN.out; omega
          case rel => exact ⟨k + 1, 0, 0, o', l', c', by first | rfl | (have := HD1.out; congr 1; omega), by first | rfl | (have := HD2.out; congr 1; omega), rfl, by first | rfl | simp, HKN.out, by have := HKN.out; omega, ⟨by have := E1.out; have := HD1.out; omega, by have := E2.out; have := HD2.out; omega, Q4.out, Q5.out⟩⟩
        · subst ht1
          have a1 : (f : Int) ≤ (t : Int) := by omega
          have a2 : ¬ (0 : Int) ≤ d1 := by omega
          have b1 : (t : Int) ≤ (t : Int) := by omega
          have b2 : (0 : Int) ≤ d2' := by omega
          have hra := keep (RN.out f t (by omega) (by omega))
          obtain ⟨so, cc, v', w', o', c', q1, q2, q3, q4, q5⟩ := hra.out
          subst q3
          obtain ⟨l', hl'⟩ : ∃ l', l' = (seg (flat (T.take k)) lo hi ++ seg mx f t).length := ⟨_, rfl⟩
          rw [← hl'] at q2 q4
          have Q2 := keep q2
          have Q4 := keep q4
          have Q5 := keep q5
          have HD1 := keep hd1
          have HD2 := keep hd2
          have HFT := keep hft
          clear hra q2 q4 q5 RN hl' hd1 hd2 hft
          go_wp2_with (at_builtin; refine wpList_app_run rfl _ _ _ _ rfl _ _ _ rfl rfl Q2.out ?_)
          go_roundg (n - (k + 1))
          case measure => have := HKN.out; omega
          case rel => exact ⟨k + 1, 0, 0, o', l', c', by first | rfl | (have := HD1.out; congr 1; omega), by first | rfl | (have := HD2.out; congr 1; omega), rfl, by first | rfl | simp, HKN.out, by have := HKN.out; omega, ⟨by have := E1.out; have := HD1.out; omega, by have := E2.out; have := HD2.out; omega, Q4.out, Q5.out⟩⟩
        · have a1 : (f : Int) ≤ (lx : Int) := by omega
          have a2 : ¬ (0 : Int) ≤ d1 := by omega
          have b1 : ¬ (t : Int) ≤ (lx : Int) := by omega
          have b2 : (0 : Int) ≤ d2' := by omega
          have hra := keep (RN.out f lx (by omega) (by omega))
          obtain ⟨so, cc, v', w', o', c', q1, q2, q3, q4, q5⟩ := hra.out
          subst q3
          obtain ⟨l', hl'⟩ : ∃ l', l' = (seg (flat (T.take k)) lo hi ++ seg mx f lx).length := ⟨_, rfl⟩
          rw [← hl'] at q2 q4
          have Q2 := keep q2
          have Q4 := keep q4
          have Q5 := keep q5
          have HD1 := keep hd1
          have HD2 := keep hd2
          have HFT := keep hft
          clear hra q2 q4 q5 RN hl' hd1 hd2 hft
          go_wp2_with (at_builtin; refine wpList_app_run rfl _ _ _ _ rfl _ _ _ rfl rfl Q2.out ?_)
          go_roundg (n - (k + 1))
          case measure => have := HKN.out; omega
          case rel => exact ⟨k + 1, 0, (t - lx), o', l', c', by first | rfl | (have := HD1.out; congr 1; omega), by first | rfl | (have := HD2.out; congr 1; omega), rfl, by first | rfl | simp, HKN.out, by have := HKN.out; omega, ⟨by have := E1.out; have := HD1.out; omega, by have := E2.out; have := HD2.out; omega, Q4.out, Q5.out⟩⟩
      · subst hf1
        rcases Nat.lt_or_eq_of_le hft with ht1 | ht1
        · have a1 : (f : Int) ≤ (f : Int) := by omega
          have a2 : (0 : Int) ≤ d1 := by omega
          have b1 : ¬ (t : Int) ≤ (f : Int) := by omega
          have b2 : (0 : Int) ≤ d2' := by omega
          have hra := keep (RN.out f f (by omega) (by omega))
          obtain ⟨so, cc, v', w', o', c', q1, q2, q3, q4, q5⟩ := hra.out
          subst q3
          simp only [Nat.sub_self] at q1 q2
          obtain ⟨l', hl'⟩ : ∃ l', l' = (seg (flat (T.take k)) lo hi ++ seg mx f f).length := ⟨_, rfl⟩
          rw [← hl'] at q2 q4
          have Q2 := keep q2
          have Q4 := keep q4
          have Q5 := keep q5
          have HD1 := keep hd1
          have HD2 := keep hd2
          have HFT := keep hft
          clear hra q2 q4 q5 RN hl' hd1 hd2 hft
          go_wp2_with (at_builtin; refine wpList_app_run rfl _ _ _ _ rfl _ _ _ rfl rfl Q2.out ?_)
          go_roundg (n - (k + 1))
          case measure => have := HKN.out; omega
          case rel => exact ⟨k + 1, 0, (t - f), o', l', c', by first | rfl | (have := HD1.out; congr 1; omega), by first | rfl | (have := HD2.out; congr 1; omega), rfl, by first | rfl | simp, HKN.out, by have := HKN.out; omega, ⟨by have := E1.out; have := HD1.out; omega, by have := E2.out; have := HD2.out; omega, Q4.out, Q5.out⟩⟩
        · subst ht1
          have a1 : (f : Int) ≤ (f : Int) := by omega
          have a2 : (0 : Int) ≤ d1 := by omega
          have b2 : (0 : Int) ≤ d2' := by omega
          have hra := keep (RN.out f f (by omega) (by omega))
          obtain ⟨so, cc, v', w', o', c', q1, q2, q3, q4, q5⟩ := hra.out
          subst q3
          simp only [Nat.sub_self] at q1 q2
          obtain ⟨l', hl'⟩ : ∃ l', l' = (seg (flat (T.take k)) lo hi ++ seg mx f f).length := ⟨_, rfl⟩
          rw [← hl'] at q2 q4
          have Q2 := keep q2
          have Q4 := keep q4
          have Q5 := keep q5
          have HD1 := keep hd1
          have HD2 := keep hd2
          have HFT := keep hft
          clear hra q2 q4 q5 RN hl' hd1 hd2 hft
          go_wp2_with (at_builtin; refine wpList_app_run rfl _ _ _ _ rfl _ _ _ rfl rfl Q2.out ?_)
          go_roundg (n - (k + 1))
          case measure => have := HKN.out; omega
          case rel => exact ⟨k + 1, 0, 0, o', l', c', by first | rfl | (have := HD1.out; congr 1; omega), by first | rfl | (have := HD2.out; congr 1; omega), rfl, by first | rfl | simp, HKN.out, by have := HKN.out; omega, ⟨by have := E1.out; have := HD1.out; omega, by have := E2.out; have := HD2.out; omega, Q4.out, Q5.out⟩⟩
      · have a1 : ¬ (f : Int) ≤ (lx : Int) := by omega
        have a2 : (0 : Int) ≤ d1 := by omega
        have b1 : ¬ (t : Int) ≤ (lx : Int) := by omega
        have b2 : (0 : Int) ≤ d2' := by omega
        have hra := keep (RN.out lx lx (by omega) (by omega))
        obtain ⟨so, cc, v', w', o', c', q1, q2, q3, q4, q5⟩ := hra.out
        subst q3
        simp only [Nat.sub_self] at q1 q2
        obtain ⟨l', hl'⟩ : ∃ l', l' = (seg (flat (T.take k)) lo hi ++ seg mx lx lx).length := ⟨_, rfl⟩
        rw [← hl'] at q2 q4
        have Q2 := keep q2
        have Q4 := keep q4
        have Q5 := keep q5
        have HD1 := keep hd1
        have HD2 := keep hd2
        have HFT := keep hft
        clear hra q2 q4 q5 RN hl' hd1 hd2 hft
        go_wp2_with (at_builtin; refine wpList_app_run rfl _ _ _ _ rfl _ _ _ rfl rfl Q2.out ?_)
        go_roundg (n - (k + 1))
        case measure => have := HKN.out; omega
        case rel => exact ⟨k + 1, (f - lx), (t - lx), o', l', c', by first | rfl | (have := HD1.out; congr 1; omega), by first | rfl | (have := HD2.out; congr 1; omega), rfl, by first | rfl | simp, HKN.out, by have := HKN.out; omega, ⟨by have := E1.out; have := HD1.out; omega, by have := E2.out; have := HD2.out; omega, Q4.out, Q5.out⟩⟩
    · obtain rfl : k = n := by omega
      rw [← HN.out] at I3
      rw [List.take_length] at I3
      have Z := keep I3
      have Z4 := keep I4
      clear I1 I2 I3 I4 I LOOP
      go_wp2
      go_ret
      exact ⟨⟨_, rfl, Z.out⟩, Z4.out⟩
set_option maxRecDepth 100000 in
set_option maxHeartbeats 4000000 in
theorem krange_lo {w : World} {O : Nat → Prop} {R seed : Nat} {L : List Ent} (hK : RK w O R seed L) (A : Int) (hA : A < 0) (lo : Nat) (hlo : lo = 0) (hi : Nat) (hhi : hi ≤ L.length) (hlh : lo < hi) :
    Calls Try.prog 14 #[.pointer (some ⟨R, 0, none⟩), .int .i64 A, .int .i64 (hi : Int)] w fun e w' => (∃ v, e = .returned v ∧ Mr w.heap.size w' v (seg L lo hi)) ∧ Below w.heap.size w w' := by
  have HLO := keep hlo
  have mL := klen_any hK
  have hmath := hK.math
  obtain ⟨h, r, bb, rv, T, s, hH, hR, rfl, hO⟩ := hK
  have hL := hR.2.2.1
  have hG := hR.2.2.2.1
  have hne : ∀ x ∈ T, x.2.2 ≠ [] := fun x hx => (hG x hx).1
  have hlen := hmath.2.2.1
  have hhl : hi ≤ (flat T).length := hhi
  have hT0 : 0 < T.length := by
    cases T with
    | nil => simp [flat_nil] at hhl; omega
    | cons y T => simp
  obtain ⟨gt, c, hrv, hc1, hc2⟩ := hL.2.1.form hT0
  subst hrv
  obtain ⟨n, hn'⟩ : ∃ n, T.length = n := ⟨_, rfl⟩
  have hnl : n ≤ 1048576 := by have := gd_len hne; omega
  obtain ⟨m, hm⟩ : ∃ m, m = hi - lo := ⟨_, rfl⟩
  obtain ⟨i0, hi0, hz0, hz1, hz2⟩ := info_parts info_rk
  obtain ⟨w1, k1, k2, k3⟩ := run_make_own (P := Try.prog) w w.heap.size 41 46 i0 _ 2 Try.underlying41 hi0 hz0 hz1 .i64 .i64 m (by rw [hz2]; omega) (by unfold maxLen; omega) (Nat.le_refl _)
  have hb1 : Below w.heap.size w w1 := (Below.refl _ w).grown k3 (Nat.le_refl _) (fun k hk => by cases hk)
  have d2 := (four (hL.below hb1).1).2.2.1
  rw [hn'] at d2
  have hwm : IntKind.i64.wrap ((hi : Int) - 0) = (m : Int) := by rw [IntKind.wrap_i64]; omega
  have hwm2 : IntKind.i64.wrap (hi : Int) = (m : Int) := by rw [IntKind.wrap_i64]; omega
  have HL := keep hL
  have HG := keep hG
  have HK2 : Kept (Mr w.heap.size w1 (.slice (some ⟨w.heap.size, 0, none⟩) 0 m) []) := k2
  have HB1 := keep hb1
  have HN := keep hn'
  have HNL := keep hnl
  have HLEN := keep hlen
  have HHL := keep hhl
  have HLH := keep hlh
  have hlt : ¬ (hi : Int) ≤ 0 := by omega
  have hltd : decide ((hi : Int) ≤ 0) = false := decide_eq_false hlt
  have hltn : ¬ hi ≤ 0 := by omega
  have hlt0 : ¬ hi = 0 := by omega
  have hltm : 0 < hi := by omega
  have LOOP : Kept (∀ (k f t : Nat) (tv : Value) (M : List Ent) (wr : World), k < n → f = lo - cntA T k → t = hi - cntA T k → M = seg (flat (T.take k)) lo hi → Mr w.heap.size wr tv M → Below w.heap.size w wr → ∃ gx cx mx lx, wr.cell? ⟨gt, k, none⟩ = some (.slice (some ⟨gx, 0, none⟩) lx cx) ∧ lx ≤ 1024 ∧ f ≤ t ∧ t ≤ 1048576 ∧ Kept (∀ m1 m2, m1 = min f lx → m2 = min t lx → ∃ so cc v' w' o' c', (∀ w, (Instr.slice 41 (.slice (some ⟨gx, 0, none⟩) lx cx) (some (.int .i64 (m1 : Int))) (some (.int .i64 (m2 : Int))) none).run Try.prog w = .ok (.slice (some so) (m2 - m1) cc) w) ∧
      (Builtin.append_ #[41, 41] 41 #[tv, .slice (some so) (m2 - m1) cc]).run Try.prog wr = .ok v' w' ∧ v' = .slice o' (M ++ seg mx m1 m2).length c' ∧ Mr w.heap.size w' v' (seg (flat (T.take (k + 1))) lo hi) ∧ Below w.heap.size w w') ∧ f - lx = lo - cntA T (k + 1) ∧ t - lx = hi - cntA T (k + 1)) := by
    intro k f t tv M wr hk hf ht hM hMr hB
    have hLr := hL.below hB
    obtain ⟨x, hx⟩ : ∃ x, T[k]? = some x := ⟨_, List.getElem?_eq_getElem (by omega)⟩
    have hcell := hLr.2.1.at hx
    have hrow := hLr.2.1.2.1 x (List.mem_of_getElem? hx)
    have hxl := hL.lt x.1 (by rw [bl_some]; exact List.mem_cons.2 (.inr (List.mem_cons.2 (.inr (List.mem_map.2 ⟨x, List.mem_of_getElem? hx, rfl⟩)))))
    have hgd := hG x (List.mem_of_getElem? hx)
    have hcnt := cntA_succ hx
    have hcl := flat_take_le T (k + 1)
    obtain ⟨gx, cx, mx⟩ := x
    unfold rwV at hcell
    dsimp only at hcell hgd hcnt hxl
    refine ⟨gx, cx, mx, mx.length, hcell, hgd.2, by omega, by omega, ?_, by omega, by omega⟩
    intro m1 m2 e1 e2
    have hMl : M.length ≤ 1048576 := by
      rw [hM, seg_len]
      have := flat_take_le T k
      unfold cntA at this
      omega
    obtain ⟨so, cc, v', w', o', c', q1, q2, q3, q4, q5⟩ := range_round (m1 := m1) (m2 := m2) (n := 0) (g := 0) (c := 0) hB.size hMr hrow rfl (by omega) (by omega) (by have := hgd.2; omega) hxl
    refine ⟨so, cc, v', w', o', c', q1, q2, q3, ?_, hB.trans q5⟩
    have e3 : seg (flat (T.take (k + 1))) lo hi = M ++ seg mx m1 m2 := by
      have e4 : flat (T.take (k + 1)) = flat (T.take k) ++ mx := by
        rw [List.take_add_one, hx, flat_app]
        show _ ++ flat [(gx, cx, mx)] = _
        rw [flat_cons, flat_nil, List.append_nil]
      rw [e4, seg_app, hM]
      congr 1
      have hc' : (flat (T.take k)).length = cntA T k := rfl
      rw [hc', ← hf, ← ht]
      unfold seg
      rw [e1, e2]
      rcases Nat.le_total t mx.length with h1 | h1
      · rw [Nat.min_eq_left h1, Nat.min_eq_left (by omega)]
      · rw [Nat.min_eq_right h1, List.take_of_length_le h1, List.take_of_length_le (Nat.le_refl _)]
        rcases Nat.le_total f mx.length with h2 | h2
        · rw [Nat.min_eq_left h2]
        · rw [Nat.min_eq_right h2, List.drop_of_length_le h2, List.drop_of_length_le (Nat.le_refl _)]
    rw [e3]
    exact q4
  clear hR hO hL hG hne hlen hhl hT0 hc1 hc2 hmath hm k2 k3 hb1 hnl hlh hn'
  have ha0 : ¬ (0 : Int) ≤ A := by omega
  clear hlo
  have hb0 : (hi : Int) ≤ ((flat T).length : Int) := by omega
  go_enter Try.func14, Try.ntmps14
  go_wp2_with fail
  refine mL.mono ?_
  rintro _ _ ⟨rfl, hw⟩
  obtain rfl := hw.symm
  clear mL
  go_wp2
  go_loopg [1, 2, 7, 9, 10, 29] n (fun kx s1 s2 s7 s9 s10 s29 wr => ∃ (k f t : Nat) (o : Option Addr) (l c7 : Nat), s1 = .int .i64 f ∧ s2 = .int .i64 t ∧ s7 = .slice o l c7 ∧ s29 = .int .i64 k ∧ k ≤ n ∧ n - k ≤ kx ∧ Kept (f = lo - cntA T k ∧ t = hi - cntA T k ∧ Mr w.heap.size wr (.slice o l c7) (seg (flat (T.take k)) lo hi) ∧ Below w.heap.size w wr))
  case atStart => exact ⟨0, lo, hi, some ⟨w.heap.size, 0, none⟩, 0, m, by rw [HLO.out]; rfl, rfl, rfl, rfl, Nat.zero_le _, by omega, ⟨by simp [cntA, flat_nil], by simp [cntA, flat_nil], by simpa [seg, flat_nil] using HK2.out, HB1.out⟩⟩
  case round =>
    obtain ⟨k, f, t, o, l, c7, rfl, rfl, rfl, rfl, hk, hg, I⟩ := hrel
    obtain ⟨I1, I2, I3, I4⟩ := I.out
    by_cases hkn : k < n
    · obtain ⟨gx, cx, mx, lx, hcell, hlx, hft, htl, RN, e1, e2⟩ := LOOP.out k f t _ _ wr hkn I1 I2 rfl I3 I4
      have E1 := keep e1
      have E2 := keep e2
      have k0 : (0 : Int) ≤ (k : Int) := by omega
      have k1' : (k : Int) < (n : Int) := by omega
      have kw : IntKind.i64.wrap ((k : Int) + 1) = ((k + 1 : Nat) : Int) := by have := HNL.out; rw [IntKind.wrap_i64]; omega
      have HKN := keep hkn
      have HK := keep hk
      clear I1 I2 I3 I4 I e1 e2
      obtain ⟨d1, hd1⟩ : ∃ d1 : Int, (f : Int) - (lx : Int) = d1 := ⟨_, rfl⟩
      obtain ⟨d2', hd2⟩ : ∃ d2' : Int, (t : Int) - (lx : Int) = d2' := ⟨_, rfl⟩
      have w1' : IntKind.i64.wrap ((f : Int) - (lx : Int)) = d1 := by rw [IntKind.wrap_i64]; omega
      have w2' : IntKind.i64.wrap ((t : Int) - (lx : Int)) = d2' := by rw [IntKind.wrap_i64]; omega
      have HX := keep hlx
      have HT := keep htl
      clear hlx htl
      rcases Nat.lt_trichotomy f lx with hf1 | hf1 | hf1
      · rcases Nat.lt_trichotomy t lx with ht1 | ht1 | ht1
        · have a1 : (f : Int) ≤ (lx : Int) := by omega
          have a2 : ¬ (0 : Int) ≤ d1 := by omega
          have b1 : (t : Int) ≤ (lx : Int) := by omega
          have b2 : ¬ (0 : Int) ≤ d2' := by omega
          have hra := keep (RN.out f t (by omega) (by omega))
          obtain ⟨so, cc, v', w', o', c', q1, q2, q3, q4, q5⟩ := hra.out
          subst q3
          obtain ⟨l', hl'⟩ : ∃ l', l' = (seg (flat (T.take k)) lo hi ++ seg mx f t).length := ⟨_, rfl⟩
          rw [← hl'] at q2 q4
          have Q2 := keep q2
          have Q4 := keep q4
          have Q5 := keep q5
          have HD1 := keep hd1
          have HD2 := keep hd2
          have HFT := keep hft
          clear hra q2 q4 q5 RN hl' hd1 hd2 hft
          go_wp2_with (at_builtin; refine wpList_app_run rfl _ _ _ _ rfl _ _ _ rfl rfl Q2.out ?_)
          go_roundg (n - (k + 1))
          case measure => have := HKN.out; omega
          case rel => exact ⟨k + 1, 0, 0, o', l', c', by first | rfl | (have := HD1.out; congr 1; omega), by first | rfl | (have := HD2.out; congr 1; omega), rfl, by first | rfl | simp, HKN.out, by have := HKN.out; omega, ⟨by have := E1.out; have := HD1.out; omega, by have := E2.out; have := HD2.out; omega, Q4.out, Q5.out⟩⟩
        · subst ht1
          have a1 : (f : Int) ≤ (t : Int) := by omega
          have a2 : ¬ (0 : Int) ≤ d1 := by omega
          have b1 : (t : Int) ≤ (t : Int) := by omega
          have b2 : (0 : Int) ≤ d2' := by omega
          have hra := keep (RN.out f t (by omega) (by omega))
          obtain ⟨so, cc, v', w', o', c', q1, q2, q3, q4, q5⟩ := hra.out
          subst q3
          obtain ⟨l', hl'⟩ : ∃ l', l' = (seg (flat (T.take k)) lo hi ++ seg mx f t).length := ⟨_, rfl⟩
          rw [← hl'] at q2 q4
          have Q2 := keep q2
          have Q4 := keep q4
          have Q5 := keep q5
          have HD1 := keep hd1
          have HD2 := keep hd2
          have HFT := keep hft
          clear hra q2 q4 q5 RN hl' hd1 hd2 hft
          go_wp2_with (at_builtin; refine wpList_app_run rfl _ _ _ _ rfl _ _ _ rfl rfl Q2.out ?_)
          go_roundg (n - (k + 1))
          case measure => have := HKN.out; omega
          case rel => exact ⟨k + 1, 0, 0, o', l', c', by first | rfl | (have := HD1.out; congr 1; omega), by first | rfl | (have := HD2.out; congr 1; omega), rfl, by first | rfl | simp, HKN.out, by have := HKN.out; omega, ⟨by have := E1.out; have := HD1.out; omega, by have := E2.out; have := HD2.out; omega, Q4.out, Q5.out⟩⟩
        · have a1 : (f : Int) ≤ (lx : Int) := by omega
          have a2 : ¬ (0 : Int) ≤ d1 := by omega
          have b1 : ¬ (t : Int) ≤ (lx : Int) := by omega
          have b2 : (0 : Int) ≤ d2' := by omega
          have hra := keep (RN.out f lx (by omega) (by omega))
          obtain ⟨so, cc, v', w', o', c', q1, q2, q3, q4, q5⟩ := hra.out
          subst q3
          obtain ⟨l', hl'⟩ : ∃ l', l' = (seg (flat (T.take k)) lo hi ++ seg mx f lx).length := ⟨_, rfl⟩
          rw [← hl'] at q2 q4
          have Q2 := keep q2
          have Q4 := keep q4
          have Q5 := keep q5
          have HD1 := keep hd1
          have HD2 := keep hd2
          have HFT := keep hft
          clear hra q2 q4 q5 RN hl' hd1 hd2 hft
          go_wp2_with (at_builtin; refine wpList_app_run rfl _ _ _ _ rfl _ _ _ rfl rfl Q2.out ?_)
          go_roundg (n - (k + 1))
          case measure => have := HKN.out; omega
          case rel => exact ⟨k + 1, 0, (t - lx), o', l', c', by first | rfl | (have := HD1.out; congr 1; omega), by first | rfl | (have := HD2.out; congr 1; omega), rfl, by first | rfl | simp, HKN.out, by have := HKN.out; omega, ⟨by have := E1.out; have := HD1.out; omega, by have := E2.out; have := HD2.out; omega, Q4.out, Q5.out⟩⟩
      · subst hf1
        rcases Nat.lt_or_eq_of_le hft with ht1 | ht1
        · have a1 : (f : Int) ≤ (f : Int) := by omega
          have a2 : (0 : Int) ≤ d1 := by omega
          have b1 : ¬ (t : Int) ≤ (f : Int) := by omega
          have b2 : (0 : Int) ≤ d2' := by omega
          have hra := keep (RN.out f f (by omega) (by omega))
          obtain ⟨so, cc, v', w', o', c', q1, q2, q3, q4, q5⟩ := hra.out
          subst q3
          simp only [Nat.sub_self] at q1 q2
          obtain ⟨l', hl'⟩ : ∃ l', l' = (seg (flat (T.take k)) lo hi ++ seg mx f f).length := ⟨_, rfl⟩
          rw [← hl'] at q2 q4
          have Q2 := keep q2
          have Q4 := keep q4
          have Q5 := keep q5
          have HD1 := keep hd1
          have HD2 := keep hd2
          have HFT := keep hft
          clear hra q2 q4 q5 RN hl' hd1 hd2 hft
          go_wp2_with (at_builtin; refine wpList_app_run rfl _ _ _ _ rfl _ _ _ rfl rfl Q2.out ?_)
          go_roundg (n - (k + 1))
          case measure => have := HKN.out; omega
          case rel => exact ⟨k + 1, 0, (t - f), o', l', c', by first | rfl | (have := HD1.out; congr 1; omega), by first | rfl | (have := HD2.out; congr 1; omega), rfl, by first | rfl | simp, HKN.out, by have := HKN.out; omega, ⟨by have := E1.out; have := HD1.out; omega, by have := E2.out; have := HD2.out; omega, Q4.out, Q5.out⟩⟩
        · subst ht1
          have a1 : (f : Int) ≤ (f : Int) := by omega
          have a2 : (0 : Int) ≤ d1 := by omega
          have b2 : (0 : Int) ≤ d2' := by omega
          have hra := keep (RN.out f f (by omega) (by omega))
          obtain ⟨so, cc, v', w', o', c', q1, q2, q3, q4, q5⟩ := hra.out
          subst q3
          simp only [Nat.sub_self] at q1 q2
          obtain ⟨l', hl'⟩ : ∃ l', l' = (seg (flat (T.take k)) lo hi ++ seg mx f f).length := ⟨_, rfl⟩
          rw [← hl'] at q2 q4
          have Q2 := keep q2
          have Q4 := keep q4
          have Q5 := keep q5
          have HD1 := keep hd1
          have HD2 := keep hd2
          have HFT := keep hft
          clear hra q2 q4 q5 RN hl' hd1 hd2 hft
          go_wp2_with (at_builtin; refine wpList_app_run rfl _ _ _ _ rfl _ _ _ rfl rfl Q2.out ?_)
          go_roundg (n - (k + 1))
          case measure => have := HKN.out; omega
          case rel => exact ⟨k + 1, 0, 0, o', l', c', by first | rfl | (have := HD1.out; congr 1; omega), by first | rfl | (have := HD2.out; congr 1; omega), rfl, by first | rfl | simp, HKN.out, by have := HKN.out; omega, ⟨by have := E1.out; have := HD1.out; omega, by have := E2.out; have := HD2.out; omega, Q4.out, Q5.out⟩⟩
      · have a1 : ¬ (f : Int) ≤ (lx : Int) := by omega
        have a2 : (0 : Int) ≤ d1 := by omega
        have b1 : ¬ (t : Int) ≤ (lx : Int) := by omega
        have b2 : (0 : Int) ≤ d2' := by omega
        have hra := keep (RN.out lx lx (by omega) (by omega))
        obtain ⟨so, cc, v', w', o', c', q1, q2, q3, q4, q5⟩ := hra.out
        subst q3
        simp only [Nat.sub_self] at q1 q2
        obtain ⟨l', hl'⟩ : ∃ l', l' = (seg (flat (T.take k)) lo hi ++ seg mx lx lx).length := ⟨_, rfl⟩
        rw [← hl'] at q2 q4
        have Q2 := keep q2
        have Q4 := keep q4
        have Q5 := keep q5
        have HD1 := keep hd1
        have HD2 := keep hd2
        have HFT := keep hft
        clear hra q2 q4 q5 RN hl' hd1 hd2 hft
        go_wp2_with (at_builtin; refine wpList_app_run rfl _ _ _ _ rfl _ _ _ rfl rfl Q2.out ?_)
        go_roundg (n - (k + 1))
        case measure => have := HKN.out; omega
        case rel => exact ⟨k + 1, (f - lx), (t - lx), o', l', c', by first | rfl | (have := HD1.out; congr 1; omega), by first | rfl | (have := HD2.out; congr 1; omega), rfl, by first | rfl | simp, HKN.out, by have := HKN.out; omega, ⟨by have := E1.out; have := HD1.out; omega, by have := E2.out; have := HD2.out; omega, Q4.out, Q5.out⟩⟩
    · obtain rfl : k = n := by omega
      rw [← HN.out] at I3
      rw [List.take_length] at I3
      have Z := keep I3
      have Z4 := keep I4
      clear I1 I2 I3 I4 I LOOP
      go_wp2
      go_ret
      exact ⟨⟨_, rfl, Z.out⟩, Z4.out⟩
set_option maxRecDepth 100000 in
set_option maxHeartbeats 4000000 in
theorem krange_both {w : World} {O : Nat → Prop} {R seed : Nat} {L : List Ent} (hK : RK w O R seed L) (A : Int) (hA : A < 0) (lo : Nat) (hlo : lo = 0) (B : Int) (hB : (L.length : Int) < B) (hlh : lo < L.length) :
    Calls Try.prog 14 #[.pointer (some ⟨R, 0, none⟩), .int .i64 A, .int .i64 B] w fun e w' => (∃ v, e = .returned v ∧ Mr w.heap.size w' v (seg L lo L.length)) ∧ Below w.heap.size w w' := by
  have hlen0 : L.length = L.length := rfl
  generalize hHi : L.length = hi at hlh hB hlen0 ⊢
  have hhi : hi ≤ L.length := by omega
  have HLO := keep hlo
  have mL := klen_any hK
  rw [hHi] at mL
  have hmath := hK.math
  obtain ⟨h, r, bb, rv, T, s, hH, hR, rfl, hO⟩ := hK
  have hL := hR.2.2.1
  have hG := hR.2.2.2.1
  have hne : ∀ x ∈ T, x.2.2 ≠ [] := fun x hx => (hG x hx).1
  have hlen := hmath.2.2.1
  have hhl : hi ≤ (flat T).length := hhi
  have hT0 : 0 < T.length := by
    cases T with
    | nil => simp [flat_nil] at hhl; omega
    | cons y T => simp
  obtain ⟨gt, c, hrv, hc1, hc2⟩ := hL.2.1.form hT0
  subst hrv
  obtain ⟨n, hn'⟩ : ∃ n, T.length = n := ⟨_, rfl⟩
  have hnl : n ≤ 1048576 := by have := gd_len hne; omega
  obtain ⟨m, hm⟩ : ∃ m, m = hi - lo := ⟨_, rfl⟩
  obtain ⟨i0, hi0, hz0, hz1, hz2⟩ := info_parts info_rk
  obtain ⟨w1, k1, k2, k3⟩ := run_make_own (P := Try.prog) w w.heap.size 41 46 i0 _ 2 Try.underlying41 hi0 hz0 hz1 .i64 .i64 m (by rw [hz2]; omega) (by unfold maxLen; omega) (Nat.le_refl _)
  have hb1 : Below w.heap.size w w1 := (Below.refl _ w).grown k3 (Nat.le_refl _) (fun k hk => by cases hk)
  have d2 := (four (hL.below hb1).1).2.2.1
  rw [hn'] at d2
  have hwm : IntKind.i64.wrap ((hi : Int) - 0) = (m : Int) := by rw [IntKind.wrap_i64]; omega
  have hwm2 : IntKind.i64.wrap (hi : Int) = (m : Int) := by rw [IntKind.wrap_i64]; omega
  have HL := keep hL
  have HG := keep hG
  have HK2 : Kept (Mr w.heap.size w1 (.slice (some ⟨w.heap.size, 0, none⟩) 0 m) []) := k2
  have HB1 := keep hb1
  have HN := keep hn'
  have HNL := keep hnl
  have HLEN := keep hlen
  have HHL := keep hhl
  have HLH := keep hlh
  have hlt : ¬ (hi : Int) ≤ 0 := by omega
  have hltd : decide ((hi : Int) ≤ 0) = false := decide_eq_false hlt
  have hltn : ¬ hi ≤ 0 := by omega
  have hlt0 : ¬ hi = 0 := by omega
  have hltm : 0 < hi := by omega
  have LOOP : Kept (∀ (k f t : Nat) (tv : Value) (M : List Ent) (wr : World), k < n → f = lo - cntA T k → t = hi - cntA T k → M = seg (flat (T.take k)) lo hi → Mr w.heap.size wr tv M → Below w.heap.size w wr → ∃ gx cx mx lx, wr.cell? ⟨gt, k, none⟩ = some (.slice (some ⟨gx, 0, none⟩) lx cx) ∧ lx ≤ 1024 ∧ f ≤ t ∧ t ≤ 1048576 ∧ Kept (∀ m1 m2, m1 = min f lx → m2 = min t lx → ∃ so cc v' w' o' c', (∀ w, (Instr.slice 41 (.slice (some ⟨gx, 0, none⟩) lx cx) (some (.int .i64 (m1 : Int))) (some (.int .i64 (m2 : Int))) none).run Try.prog w = .ok (.slice (some so) (m2 - m1) cc) w) ∧
      (Builtin.append_ #[41, 41] 41 #[tv, .slice (some so) (m2 - m1) cc]).run Try.prog wr = .ok v' w' ∧ v' = .slice o' (M ++ seg mx m1 m2).length c' ∧ Mr w.heap.size w' v' (seg (flat (T.take (k + 1))) lo hi) ∧ Below w.heap.size w w') ∧ f - lx = lo - cntA T (k + 1) ∧ t - lx = hi - cntA T (k + 1)) := by
    intro k f t tv M wr hk hf ht hM hMr hB
    have hLr := hL.below hB
    obtain ⟨x, hx⟩ : ∃ x, T[k]? = some x := ⟨_, List.getElem?_eq_getElem (by omega)⟩
    have hcell := hLr.2.1.at hx
    have hrow := hLr.2.1.2.1 x (List.mem_of_getElem? hx)
    have hxl := hL.lt x.1 (by rw [bl_some]; exact List.mem_cons.2 (.inr (List.mem_cons.2 (.inr (List.mem_map.2 ⟨x, List.mem_of_getElem? hx, rfl⟩)))))
    have hgd := hG x (List.mem_of_getElem? hx)
    have hcnt := cntA_succ hx
    have hcl := flat_take_le T (k + 1)
    obtain ⟨gx, cx, mx⟩ := x
    unfold rwV at hcell
    dsimp only at hcell hgd hcnt hxl
    refine ⟨gx, cx, mx, mx.length, hcell, hgd.2, by omega, by omega, ?_, by omega, by omega⟩
    intro m1 m2 e1 e2
    have hMl : M.length ≤ 1048576 := by
      rw [hM, seg_len]
      have := flat_take_le T k
      unfold cntA at this
      omega
    obtain ⟨so, cc, v', w', o', c', q1, q2, q3, q4, q5⟩ := range_round (m1 := m1) (m2 := m2) (n := 0) (g := 0) (c := 0) hB.size hMr hrow rfl (by omega) (by omega) (by have := hgd.2; omega) hxl
    refine ⟨so, cc, v', w', o', c', q1, q2, q3, ?_, hB.trans q5⟩
    have e3 : seg (flat (T.take (k + 1))) lo hi = M ++ seg mx m1 m2 := by
      have e4 : flat (T.take (k + 1)) = flat (T.take k) ++ mx := by
        rw [List.take_add_one, hx, flat_app]
        show _ ++ flat [(gx, cx, mx)] = _
        rw [flat_cons, flat_nil, List.append_nil]
      rw [e4, seg_app, hM]
      congr 1
      have hc' : (flat (T.take k)).length = cntA T k := rfl
      rw [hc', ← hf, ← ht]
      unfold seg
      rw [e1, e2]
      rcases Nat.le_total t mx.length with h1 | h1
      · rw [Nat.min_eq_left h1, Nat.min_eq_left (by omega)]
      · rw [Nat.min_eq_right h1, List.take_of_length_le h1, List.take_of_length_le (Nat.le_refl _)]
        rcases Nat.le_total f mx.length with h2 | h2
        · rw [Nat.min_eq_left h2]
        · rw [Nat.min_eq_right h2, List.drop_of_length_le h2, List.drop_of_length_le (Nat.le_refl _)]
    rw [e3]
    exact q4
  clear hR hO hL hG hne hlen hhl hT0 hc1 hc2 hmath hm k2 k3 hb1 hnl hlh hn'
  have ha0 : ¬ (0 : Int) ≤ A := by omega
  clear hlo
  have hb0 : ¬ B ≤ (hi : Int) := by omega
  clear hHi hlen0
  go_enter Try.func14, Try.ntmps14
  go_wp2_with fail
  refine mL.mono ?_
  rintro _ _ ⟨rfl, hw⟩
  obtain rfl := hw.symm
  clear mL
  go_wp2
  go_loopg [1, 2, 7, 9, 10, 29] n (fun kx s1 s2 s7 s9 s10 s29 wr => ∃ (k f t : Nat) (o : Option Addr) (l c7 : Nat), s1 = .int .i64 f ∧ s2 = .int .i64 t ∧ s7 = .slice o l c7 ∧ s29 = .int .i64 k ∧ k ≤ n ∧ n - k ≤ kx ∧ Kept (f = lo - cntA T k ∧ t = hi - cntA T k ∧ Mr w.heap.size wr (.slice o l c7) (seg (flat (T.take k)) lo hi) ∧ Below w.heap.size w wr))
  case atStart => exact ⟨0, lo, hi, some ⟨w.heap.size, 0, none⟩, 0, m, by rw [HLO.out]; rfl, rfl, rfl, rfl, Nat.zero_le _, by omega, ⟨by simp [cntA, flat_nil], by simp [cntA, flat_nil], by simpa [seg, flat_nil] using HK2.out, HB1.out⟩⟩
  case round =>
    obtain ⟨k, f, t, o, l, c7, rfl, rfl, rfl, rfl, hk, hg, I⟩ := hrel
    obtain ⟨I1, I2, I3, I4⟩ := I.out
    by_cases hkn : k < n
    · obtain ⟨gx, cx, mx, lx, hcell, hlx, hft, htl, RN, e1, e2⟩ := LOOP.out k f t _ _ wr hkn I1 I2 rfl I3 I4
      have E1 := keep e1
      have E2 := keep e2
      have k0 : (0 : Int) ≤ (k : Int) := by omega
      have k1' : (k : Int) < (n : Int) := by omega
      have kw : IntKind.i64.wrap ((k : Int) + 1) = ((k + 1 : Nat) : Int) := by have := HNL.out; rw [IntKind.wrap_i64]; omega
      have HKN := keep hkn
      have HK := keep hk
      clear I1 I2 I3 I4 I e1 e2
      obtain ⟨d1, hd1⟩ : ∃ d1 : Int, (f : Int) - (lx : Int) = d1 := ⟨_, rfl⟩
      obtain ⟨d2', hd2⟩ : ∃ d2' : Int, (t : Int) - (lx : Int) = d2' := ⟨_, rfl⟩
      have w1' : IntKind.i64.wrap ((f : Int) - (lx : Int)) = d1 := by rw [IntKind.wrap_i64]; omega
      have w2' : IntKind.i64.wrap ((t : Int) - (lx : Int)) = d2' := by rw [IntKind.wrap_i64]; omega
      have HX := keep hlx
      have HT := keep htl
      clear hlx htl
      rcases Nat.lt_trichotomy f lx with hf1 | hf1 | hf1
      · rcases Nat.lt_trichotomy t lx with ht1 | ht1 | ht1
        · have a1 : (f : Int) ≤ (lx : Int) := by omega
          have a2 : ¬ (0 : Int) ≤ d1 := by omega
          have b1 : (t : Int) ≤ (lx : Int) := by omega
          have b2 : ¬ (0 : Int) ≤ d2' := by omega
          have hra := keep (RN.out f t (by omega) (by omega))
          obtain ⟨so, cc, v', w', o', c', q1, q2, q3, q4, q5⟩ := hra.out
          subst q3
          obtain ⟨l', hl'⟩ : ∃ l', l' = (seg (flat (T.take k)) lo hi ++ seg mx f t).length := ⟨_, rfl⟩
          rw [← hl'] at q2 q4
          have Q2 := keep q2
          have Q4 := keep q4
          have Q5 := keep q5
          have HD1 := keep hd1
          have HD2 := keep hd2
          have HFT := keep hft
          clear hra q2 q4 q5 RN hl' hd1 hd2 hft
          go_wp2_with (at_builtin; refine wpList_app_run rfl _ _ _ _ rfl _ _ _ rfl rfl Q2.out ?_)
          go_roundg (n - (k + 1))
          case measure => have := HKN.out; omega
          case rel => exact ⟨k + 1, 0, 0, o', l', c', by first | rfl | (have := HD1.out; congr 1; omega), by first | rfl | (have := HD2.out; congr 1; omega), rfl, by first | rfl | simp, HKN.out, by have := HKN.out; omega, ⟨by have := E1.out; have := HD1.out; omega, by have := E2.out; have := HD2.out; omega, Q4.out, Q5.out⟩⟩
        · subst ht1
          have a1 : (f : Int) ≤ (t : Int) := by omega
          have a2 : ¬ (0 : Int) ≤ d1 := by omega
          have b1 : (t : Int) ≤ (t : Int) := by omega
          have b2 : (0 : Int) ≤ d2' := by omega
          have hra := keep (RN.out f t (by omega) (by omega))
          obtain ⟨so, cc, v', w', o', c', q1, q2, q3, q4, q5⟩ := hra.out
          subst q3
          obtain ⟨l', hl'⟩ : ∃ l', l' = (seg (flat (T.take k)) lo hi ++ seg mx f t).length := ⟨_, rfl⟩
          rw [← hl'] at q2 q4
          have Q2 := keep q2
          have Q4 := keep q4
          have Q5 := keep q5
          have HD1 := keep hd1
          have HD2 := keep hd2
          have HFT := keep hft
          clear hra q2 q4 q5 RN hl' hd1 hd2 hft
          go_wp2_with (at_builtin; refine wpList_app_run rfl _ _ _ _ rfl _ _ _ rfl rfl Q2.out ?_)
          go_roundg (n - (k + 1))
          case measure => have := HKN.out; omega
          case rel => exact ⟨k + 1, 0, 0, o', l', c', by first | rfl | (have := HD1.out; congr 1; omega), by first | rfl | (have := HD2.out; congr 1; omega), rfl, by first | rfl | simp, HKN.out, by have := HKN.out; omega, ⟨by have := E1.out; have := HD1.out; omega, by have := E2.out; have := HD2.out; omega, Q4.out, Q5.out⟩⟩
        · have a1 : (f : Int) ≤ (lx : Int) := by omega
          have a2 : ¬ (0 : Int) ≤ d1 := by omega
          have b1 : ¬ (t : Int) ≤ (lx : Int) := by omega
          have b2 : (0 : Int) ≤ d2' := by omega
          have hra := keep (RN.out f lx (by omega) (by omega))
          obtain ⟨so, cc, v', w', o', c', q1, q2, q3, q4, q5⟩ := hra.out
          subst q3
          obtain ⟨l', hl'⟩ : ∃ l', l' = (seg (flat (T.take k)) lo hi ++ seg mx f lx).length := ⟨_, rfl⟩
          rw [← hl'] at q2 q4
          have Q2 := keep q2
          have Q4 := keep q4
          have Q5 := keep q5
          have HD1 := keep hd1
          have HD2 := keep hd2
          have HFT := keep hft
          clear hra q2 q4 q5 RN hl' hd1 hd2 hft
          go_wp2_with (at_builtin; refine wpList_app_run rfl _ _ _ _ rfl _ _ _ rfl rfl Q2.out ?_)
          go_roundg (n - (k + 1))
          case measure => have := HKN.out; omega
          case rel => exact ⟨k + 1, 0, (t - lx), o', l', c', by first | rfl | (have := HD1.out; congr 1; omega), by first | rfl | (have := HD2.out; congr 1; omega), rfl, by first | rfl | simp, HKN.out, by have := HKN.out; omega, ⟨by have := E1.out; have := HD1.out; omega, by have := E2.out; have := HD2.out; omega, Q4.out, Q5.out⟩⟩
      · subst hf1
        rcases Nat.lt_or_eq_of_le hft with ht1 | ht1
        · have a1 : (f : Int) ≤ (f : Int) := by omega
          have a2 : (0 : Int) ≤ d1 := by omega
          have b1 : ¬ (t : Int) ≤ (f : Int) := by omega
          have b2 : (0 : Int) ≤ d2' := by omega
          have hra := keep (RN.out f f (by omega) (by omega))
          obtain ⟨so, cc, v', w', o', c', q1, q2, q3, q4, q5⟩ := hra.out
          subst q3
          simp only [Nat.sub_self] at q1 q2
          obtain ⟨l', hl'⟩ : ∃ l', l' = (seg (flat (T.take k)) lo hi ++ seg mx f f).length := ⟨_, rfl⟩
          rw [← hl'] at q2 q4
          have Q2 := keep q2
          have Q4 := keep q4
          have Q5 := keep q5
          have HD1 := keep hd1
          have HD2 := keep hd2
          have HFT := keep hft
          clear hra q2 q4 q5 RN hl' hd1 hd2 hft
          go_wp2_with (at_builtin; refine wpList_app_run rfl _ _ _ _ rfl _ _ _ rfl rfl Q2.out ?_)
          go_roundg (n - (k + 1))
          case measure => have := HKN.out; omega
          case rel => exact ⟨k + 1, 0, (t - f), o', l', c', by first | rfl | (have := HD1.out; congr 1; omega), by first | rfl | (have := HD2.out; congr 1; omega), rfl, by first | rfl | simp, HKN.out, by have := HKN.out; omega, ⟨by have := E1.out; have := HD1.out; omega, by have := E2.out; have := HD2.out; omega, Q4.out, Q5.out⟩⟩
        · subst ht1
          have a1 : (f : Int) ≤ (f : Int) := by omega
          have a2 : (0 : Int) ≤ d1 := by omega
          have b2 : (0 : Int) ≤ d2' := by omega
          have hra := keep (RN.out f f (by omega) (by omega))
          obtain ⟨so, cc, v', w', o', c', q1, q2, q3, q4, q5⟩ := hra.out
          subst q3
          simp only [Nat.sub_self] at q1 q2
          obtain ⟨l', hl'⟩ : ∃ l', l' = (seg (flat (T.take k)) lo hi ++ seg mx f f).length := ⟨_, rfl⟩
          rw [← hl'] at q2 q4
          have Q2 := keep q2
          have Q4 := keep q4
          have Q5 := keep q5
          have HD1 := keep hd1
          have HD2 := keep hd2
          have HFT := keep hft
          clear hra q2 q4 q5 RN hl' hd1 hd2 hft
          go_wp2_with (at_builtin; refine wpList_app_run rfl _ _ _ _ rfl _ _ _ rfl rfl Q2.out ?_)
          go_roundg (n - (k + 1))
          case measure => have := HKN.out; omega
          case rel => exact ⟨k + 1, 0, 0, o', l', c', by first | rfl | (have := HD1.out; congr 1; omega), by first | rfl | (have := HD2.out; congr 1; omega), rfl, by first | rfl | simp, HKN.out, by have := HKN.out; omega, ⟨by have := E1.out; have := HD1.out; omega, by have := E2.out; have := HD2.out; omega, Q4.out, Q5.out⟩⟩
      · have a1 : ¬ (f : Int) ≤ (lx : Int) := by omega
        have a2 : (0 : Int) ≤ d1 := by omega
        have b1 : ¬ (t : Int) ≤ (lx : Int) := by omega
        have b2 : (0 : Int) ≤ d2' := by omega
        have hra := keep (RN.out lx lx (by omega) (by omega))
        obtain ⟨so, cc, v', w', o', c', q1, q2, q3, q4, q5⟩ := hra.out
        subst q3
        simp only [Nat.sub_self] at q1 q2
        obtain ⟨l', hl'⟩ : ∃ l', l' = (seg (flat (T.take k)) lo hi ++ seg mx lx lx).length := ⟨_, rfl⟩
        rw [← hl'] at q2 q4
        have Q2 := keep q2
        have Q4 := keep q4
        have Q5 := keep q5
        have HD1 := keep hd1
        have HD2 := keep hd2
        have HFT := keep hft
        clear hra q2 q4 q5 RN hl' hd1 hd2 hft
        go_wp2_with (at_builtin; refine wpList_app_run rfl _ _ _ _ rfl _ _ _ rfl rfl Q2.out ?_)
        go_roundg (n - (k + 1))
        case measure => have := HKN.out; omega
        case rel => exact ⟨k + 1, (f - lx), (t - lx), o', l', c', by first | rfl | (have := HD1.out; congr 1; omega), by first | rfl | (have := HD2.out; congr 1; omega), rfl, by first | rfl | simp, HKN.out, by have := HKN.out; omega, ⟨by have := E1.out; have := HD1.out; omega, by have := E2.out; have := HD2.out; omega, Q4.out, Q5.out⟩⟩
    · obtain rfl : k = n := by omega
      rw [← HN.out] at I3
      rw [List.take_length] at I3
      have Z := keep I3
      have Z4 := keep I4
      clear I1 I2 I3 I4 I LOOP
      go_wp2
      go_ret
      exact ⟨⟨_, rfl, Z.out⟩, Z4.out⟩
end Go.Proofs.Ytapehjlpiobeaaa
