/-
  Contracts over this program: alike of any two replies.
-/
import Derived.Test.YtoalnfkjpdgbiaaDoorRwLike
import Derived.Test.YtoalnfkjpdgbiaaDoorRpSame
namespace Go.Proofs.YtoalnfkjpdgbiaaDoor
open Go.RowKit
set_option linter.unusedVariables false
set_option maxRecDepth 100000 in
set_option maxHeartbeats 4000000 in
theorem rsame_go (n : Nat) (H : RSame n) (a b : Rp.T (n + 1)) (ca cb : List Value) (w : World) (ha : Tel (· < w.heap.size) w (n + 1) ca a) (hb : Tel (· < w.heap.size) w (n + 1) cb b)
    (h1 : Rp.kd a = Rp.kd b) (h2 : Rp.tx a = Rp.tx b) (h3 : Rp.nm a = Rp.nm b) (h4 : (Rp.ls a).length = (Rp.ls b).length) :
    Calls Tryd.prog 14 #[.agg ca.toArray, .agg cb.toArray] w fun e w' => Says (Rp.ls a = Rp.ls b) e ∧ Below w.heap.size w w' := by
  obtain ⟨va, rfl, la, _⟩ := ha
  obtain ⟨vb, rfl, lb, _⟩ := hb
  obtain ⟨aoa, cpa, rfl, _, hma⟩ := la.form
  obtain ⟨aob, cpb, rfl, _⟩ := lb.form
  have LA := keep la
  have LB := keep lb
  have HH := keep H
  rw [← h1, ← h2, ← h3, ← h4]
  rw [← h4] at LB
  have HL := keep h4
  clear la lb h1 h2 h3 h4 H
  generalize Rp.kd a = ka at *
  generalize Rp.tx a = sa at *
  generalize Rp.nm a = ia at *
  generalize Rp.ls a = La at *
  generalize Rp.ls b = Lb at *
  obtain ⟨m, hm⟩ : ∃ m, m = La.length := ⟨_, rfl⟩
  rw [← hm] at LA LB HL ⊢
  have HM := keep hm
  have HCM : Kept (m ≤ 9223372036854775807) := keep (by unfold maxLen at hma; omega)
  obtain ⟨W1, W2, hW1, hW2, XA, XB, B2⟩ := rlike_pre w (.int .i64 ka) (.string sa) (.int .i64 ia) (.slice aoa m cpa) (.int .i64 ka) (.string sa) (.int .i64 ia) (.slice aob m cpb)
  have Z1 : Kept (W1.heap.size < W2.heap.size) := keep XB.out.lt
  have Z0 : Kept (w.heap.size < W2.heap.size) := keep XA.out.lt
  obtain ⟨d0, d1, d2, d3⟩ := XA.out.cells
  obtain ⟨e0, e1, e2, e3⟩ := XB.out.cells
  clear hm hma
  go_enter Tryd.func14, Tryd.ntmps14
  go_wp2
  clear d0 d1 d2 d3 e0 e1 e2 e3
  go_loopw [37] (fun i wr => ∃ (k : Nat), k ≤ m ∧ i = .int .i64 k ∧ Kept (Below W2.heap.size W2 wr) ∧ Kept (∀ j, j < k → La[j]? = Lb[j]?)) (fun i _ => m - (intOf i).toNat)
  case atStart => exact ⟨0, Nat.zero_le _, rfl, keep (Below.refl _ _), keep (fun j hj => absurd hj (Nat.not_lt_zero j))⟩
  case round =>
    obtain ⟨k, hk, rfl, BR, EQ⟩ := hrel
    have XA1 := keep (XA.out.below BR.out Z0.out)
    have XB1 := keep (XB.out.below BR.out Z1.out)
    have B1 := keep (B2.out.trans (BR.out.mono B2.out.size))
    obtain ⟨d0, d1, d2, d3⟩ := XA1.out.cells
    obtain ⟨e0, e1, e2, e3⟩ := XB1.out.cells
    by_cases hlt : k < m
    · have hz : (k : Int) < (m : Int) := by omega
      have hz0 : (0 : Int) ≤ (k : Int) := by omega
      have hkw : IntKind.i64.wrap ((k : Int) + 1) = ((k + 1 : Nat) : Int) := by have := HCM.out; rw [IntKind.wrap_i64]; omega
      obtain ⟨x, hx⟩ : ∃ x, La[k]? = some x := ⟨_, List.getElem?_eq_getElem (by rw [← HM.out]; exact hlt)⟩
      obtain ⟨y, hy⟩ : ∃ y, Lb[k]? = some y := ⟨_, List.getElem?_eq_getElem (by rw [← HL.out]; exact hlt)⟩
      have hfar : ∀ b, b < w.heap.size → b < wr.heap.size := fun b hb => Nat.lt_of_lt_of_le hb B1.out.size
      have hsame : ∀ b, b < w.heap.size → wr.heap[b]? = w.heap[b]? := fun b hb => B1.out.block b hb
      have hLA : Lst (· < wr.heap.size) wr (Tel (· < wr.heap.size) wr n) (.slice aoa m cpa) La := LA.out.mono hfar hsame (fun cs x hx => Tel.mono hfar hsame n cs x hx)
      have hLB : Lst (· < wr.heap.size) wr (Tel (· < wr.heap.size) wr n) (.slice aob m cpb) Lb := LB.out.mono hfar hsame (fun cs x hx => Tel.mono hfar hsame n cs x hx)
      obtain ⟨g, cap, e, _, p0, p1, p2, p3, htx, x0, x1, x2, x3⟩ := hLA.at hx (fun cs h => h.four)
      obtain ⟨rfl, rfl⟩ : aoa = some ⟨g, 0, none⟩ ∧ cpa = cap := by injection e with q1 q2 q3; exact ⟨q1, q3⟩
      obtain ⟨g2, cap2, e', _, q0, q1, q2, q3, hty, y0, y1, y2, y3⟩ := hLB.at hy (fun cs h => h.four)
      obtain ⟨rfl, rfl⟩ : aob = some ⟨g2, 0, none⟩ ∧ cpb = cap2 := by injection e' with q1 q2 q3; exact ⟨q1, q3⟩
      obtain ⟨s0, s1, s2, s3, s4, s5, hq, _⟩ := htx.six
      obtain ⟨rfl, rfl, rfl, rfl⟩ : p0 = .int .i64 s0 ∧ p1 = .string s1 ∧ p2 = .int .i64 s2 ∧ p3 = .slice s3 s4 s5 := by simpa using hq
      obtain ⟨t0, t1, t2, t3, t4, t5, hq2, _⟩ := hty.six
      obtain ⟨rfl, rfl, rfl, rfl⟩ : q0 = .int .i64 t0 ∧ q1 = .string t1 ∧ q2 = .int .i64 t2 ∧ q3 = .slice t3 t4 t5 := by simpa using hq2
      have TX := keep htx
      have TY := keep hty
      have HX := keep hx
      have HY := keep hy
      have CA := keep (fun (w3 : World) (b3 : Below wr.heap.size wr w3) => HH.out x y _ _ w3 (Tel.mono (fun b hb => Nat.lt_of_lt_of_le hb b3.size) (fun b hb => b3.block b hb) n _ x TX.out) (Tel.mono (fun b hb => Nat.lt_of_lt_of_le hb b3.size) (fun b hb => b3.block b hb) n _ y TY.out))
      clear hfar hsame hLA hLB htx hty hx hy e e' hq hq2
      go_wp2
      have hS : (fun W : World => W.cell? ⟨w.heap.size, 3, none⟩ = some (.slice (some ⟨g, 0, none⟩) m cpa) ∧ W.cell? ⟨W1.heap.size, 3, none⟩ = some (.slice (some ⟨g2, 0, none⟩) m cpb) ∧
        (W.cell? ⟨g, k * 4, none⟩ = some (.int .i64 s0) ∧ W.cell? ⟨g, k * 4 + 1, none⟩ = some (.string s1) ∧ W.cell? ⟨g, k * 4 + 2, none⟩ = some (.int .i64 s2) ∧ W.cell? ⟨g, k * 4 + 3, none⟩ = some (.slice s3 s4 s5)) ∧
        (W.cell? ⟨g2, k * 4, none⟩ = some (.int .i64 t0) ∧ W.cell? ⟨g2, k * 4 + 1, none⟩ = some (.string t1) ∧ W.cell? ⟨g2, k * 4 + 2, none⟩ = some (.int .i64 t2) ∧ W.cell? ⟨g2, k * 4 + 3, none⟩ = some (.slice t3 t4 t5))) wr.drew := ⟨d3, e3, ⟨x0, x1, x2, x3⟩, ⟨y0, y1, y2, y3⟩⟩
      refine wp_region_any (by kernel_rfl) (wpAny_of_held (S := fun W : World => W.cell? ⟨w.heap.size, 3, none⟩ = some (.slice (some ⟨g, 0, none⟩) m cpa) ∧ W.cell? ⟨W1.heap.size, 3, none⟩ = some (.slice (some ⟨g2, 0, none⟩) m cpb) ∧
        (W.cell? ⟨g, k * 4, none⟩ = some (.int .i64 s0) ∧ W.cell? ⟨g, k * 4 + 1, none⟩ = some (.string s1) ∧ W.cell? ⟨g, k * 4 + 2, none⟩ = some (.int .i64 s2) ∧ W.cell? ⟨g, k * 4 + 3, none⟩ = some (.slice s3 s4 s5)) ∧
        (W.cell? ⟨g2, k * 4, none⟩ = some (.int .i64 t0) ∧ W.cell? ⟨g2, k * 4 + 1, none⟩ = some (.string t1) ∧ W.cell? ⟨g2, k * 4 + 2, none⟩ = some (.int .i64 t2) ∧ W.cell? ⟨g2, k * 4 + 3, none⟩ = some (.slice t3 t4 t5))) _ _ _ _ ?_)
      refine wpAnyH_take (i := 0) (oi := { dst := some 40, op := _, type := _, pos := _, after := _, guard := _ }) (v := ?v1) rfl (by kernel_rfl) (by kernel_rfl) (by kernel_rfl) (fun _ _ _ h => h) (Or.inl ⟨by rfl, ?hy1⟩) (by assumption) ?rest1
      case hy1 => (intro w hSw; obtain ⟨r0, r1, ⟨r2, r3, r4, r5⟩, ⟨r6, r7, r8, r9⟩⟩ := hSw; go_simp; try with_reducible rfl)
      try simp only [Act.put, List.setIfInBounds_toArray, List.set_cons_zero, List.set_cons_succ]
      refine wpAnyH_take (i := 1) (oi := { dst := some 41, op := _, type := _, pos := _, after := _, guard := _ }) (v := ?v2) rfl (by kernel_rfl) (by kernel_rfl) (by kernel_rfl) (fun _ _ _ h => h) (Or.inl ⟨by rfl, ?hy2⟩) (by assumption) ?rest2
      case hy2 => (intro w hSw; obtain ⟨r0, r1, ⟨r2, r3, r4, r5⟩, ⟨r6, r7, r8, r9⟩⟩ := hSw; go_simp; try with_reducible rfl)
      try simp only [Act.put, List.setIfInBounds_toArray, List.set_cons_zero, List.set_cons_succ]
      refine wpAnyH_take (i := 2) (oi := { dst := some 42, op := _, type := _, pos := _, after := _, guard := _ }) (v := ?v3) rfl (by kernel_rfl) (by kernel_rfl) (by kernel_rfl) (fun _ _ _ h => h) (Or.inl ⟨by rfl, ?hy3⟩) (by assumption) ?rest3
      case hy3 => (intro w hSw; obtain ⟨r0, r1, ⟨r2, r3, r4, r5⟩, ⟨r6, r7, r8, r9⟩⟩ := hSw; go_simp; try with_reducible rfl)
      try simp only [Act.put, List.setIfInBounds_toArray, List.set_cons_zero, List.set_cons_succ]
      refine wpAnyH_take (i := 3) (oi := { dst := some 43, op := _, type := _, pos := _, after := _, guard := _ }) (v := ?v4) rfl (by kernel_rfl) (by kernel_rfl) (by kernel_rfl) (fun _ _ _ h => h) (Or.inl ⟨by rfl, ?hy4⟩) (by assumption) ?rest4
      case hy4 => (intro w hSw; obtain ⟨r0, r1, ⟨r2, r3, r4, r5⟩, ⟨r6, r7, r8, r9⟩⟩ := hSw; go_simp; try with_reducible rfl)
      try simp only [Act.put, List.setIfInBounds_toArray, List.set_cons_zero, List.set_cons_succ]
      refine wpAnyH_take (i := 4) (oi := { dst := some 44, op := _, type := _, pos := _, after := _, guard := _ }) (v := ?v5) rfl (by kernel_rfl) (by kernel_rfl) (by kernel_rfl) (fun _ _ _ h => h) (Or.inl ⟨by rfl, ?hy5⟩) (by assumption) ?rest5
      case hy5 => (intro w hSw; obtain ⟨r0, r1, ⟨r2, r3, r4, r5⟩, ⟨r6, r7, r8, r9⟩⟩ := hSw; go_simp; try with_reducible rfl)
      try simp only [Act.put, List.setIfInBounds_toArray, List.set_cons_zero, List.set_cons_succ]
      refine wpAnyH_take (i := 5) (oi := { dst := some 45, op := _, type := _, pos := _, after := _, guard := _ }) (v := ?v6) rfl (by kernel_rfl) (by kernel_rfl) (by kernel_rfl) (fun _ _ _ h => h) (Or.inl ⟨by rfl, ?hy6⟩) (by assumption) ?rest6
      case hy6 => (intro w hSw; obtain ⟨r0, r1, ⟨r2, r3, r4, r5⟩, ⟨r6, r7, r8, r9⟩⟩ := hSw; go_simp; try with_reducible rfl)
      try simp only [Act.put, List.setIfInBounds_toArray, List.set_cons_zero, List.set_cons_succ]
      refine wpAnyH_take (i := 6) (oi := { dst := some 46, op := _, type := _, pos := _, after := _, guard := _ }) (v := ?v7) rfl (by kernel_rfl) (by kernel_rfl) (by kernel_rfl) (fun _ _ _ h => h) (Or.inl ⟨by rfl, ?hy7⟩) (by assumption) ?rest7
      case hy7 => (intro w hSw; obtain ⟨r0, r1, ⟨r2, r3, r4, r5⟩, ⟨r6, r7, r8, r9⟩⟩ := hSw; go_simp; try with_reducible rfl)
      try simp only [Act.put, List.setIfInBounds_toArray, List.set_cons_zero, List.set_cons_succ]
      refine wpAnyH_take (i := 7) (oi := { dst := some 47, op := _, type := _, pos := _, after := _, guard := _ }) (v := ?v8) rfl (by kernel_rfl) (by kernel_rfl) (by kernel_rfl) (fun _ _ _ h => h) (Or.inl ⟨by rfl, ?hy8⟩) (by assumption) ?rest8
      case hy8 => (intro w hSw; obtain ⟨r0, r1, ⟨r2, r3, r4, r5⟩, ⟨r6, r7, r8, r9⟩⟩ := hSw; go_simp; try with_reducible rfl)
      try simp only [Act.put, List.setIfInBounds_toArray, List.set_cons_zero, List.set_cons_succ]
      refine wpAnyH_take (i := 8) (oi := { dst := some 48, op := _, type := _, pos := _, after := _, guard := _ }) (v := ?v9) rfl (by kernel_rfl) (by kernel_rfl) (by kernel_rfl) (fun _ _ _ h => h) (Or.inl ⟨by rfl, ?hy9⟩) (by assumption) ?rest9
      case hy9 => (intro w hSw; obtain ⟨r0, r1, ⟨r2, r3, r4, r5⟩, ⟨r6, r7, r8, r9⟩⟩ := hSw; go_simp; try with_reducible rfl)
      try simp only [Act.put, List.setIfInBounds_toArray, List.set_cons_zero, List.set_cons_succ]
      refine wpAnyH_take (i := 9) (oi := { dst := some 49, op := _, type := _, pos := _, after := _, guard := _ }) (v := ?v10) rfl (by kernel_rfl) (by kernel_rfl) (by kernel_rfl) (fun _ _ _ h => h) (Or.inl ⟨by rfl, ?hy10⟩) (by assumption) ?rest10
      case hy10 => (intro w hSw; obtain ⟨r0, r1, ⟨r2, r3, r4, r5⟩, ⟨r6, r7, r8, r9⟩⟩ := hSw; go_simp; try with_reducible rfl)
      try simp only [Act.put, List.setIfInBounds_toArray, List.set_cons_zero, List.set_cons_succ]
      refine wpAnyH_ready (rs := [10]) (by kernel_rfl) (by simp) ?_
      refine AllReadyH.cons (o := { dst := some 50, op := _, type := _, pos := _, after := _, guard := _ }) rfl (fun K hK => ?_) AllReadyH.nil
      go_simp
      have bd : Below wr.heap.size wr wr.drew := below_drewN wr 1
      refine (CA.out _ bd).mono ?_
      rintro e w3 ⟨⟨v, rfl, hv⟩, b3⟩
      have kp : ∀ {A : Nat} {o : Nat} {u : Value}, wr.drew.cell? ⟨A, o, none⟩ = some u → w3.cell? ⟨A, o, none⟩ = some u := fun h => cell_below b3 h
      have B3 := keep (B1.out.trans ((bd.trans b3).mono B1.out.size))
      have BR3 := keep (BR.out.trans ((bd.trans b3).mono BR.out.size))
      have HV := keep hv
      refine hK _ _ ⟨kp hS.1, kp hS.2.1, ⟨kp hS.2.2.1.1, kp hS.2.2.1.2.1, kp hS.2.2.1.2.2.1, kp hS.2.2.1.2.2.2⟩, ⟨kp hS.2.2.2.1, kp hS.2.2.2.2.1, kp hS.2.2.2.2.2.1, kp hS.2.2.2.2.2.2⟩⟩ (fun hHeld => ?_)
      try simp only [Act.put, List.setIfInBounds_toArray, List.set_cons_zero, List.set_cons_succ]
      clear hK hv kp bd b3
      refine wpAnyH_ready (rs := [11]) (by kernel_rfl) (by simp) ?_
      refine AllReadyH.cons (o := { dst := some 51, op := _, type := _, pos := _, after := _, guard := _ }) rfl (fun K hK => ?_) AllReadyH.nil
      go_simp
      refine hK _ _ hHeld (fun hHeld => ?_)
      refine wpAnyH_done (by kernel_rfl) ?_ _
      clear hK hHeld hS
      cases v
      · have hne : Kept (La ≠ Lb) := keep (fun e => by
          have e2 := HY.out
          rw [← e, HX.out] at e2
          have := HV.out.2 (Option.some.inj e2)
          cases this)
        simp only [Exit.then]
        go_at_K
        go_wp2
        go_ret
        exact ⟨⟨false, rfl, ⟨fun h => absurd h (by decide), fun h => absurd h hne.out⟩⟩, B3.out⟩
      · have hxy : x = y := HV.out.1 rfl
        simp only [Exit.then]
        go_at_K
        go_wp2
        go_roundw
        case measure => simp [intOf]; omega
        case rel => exact ⟨k + 1, by omega, by rfl, BR3, keep (fun j hj => by
          by_cases e : j = k
          · rw [e, HX.out, HY.out, hxy]
          · exact EQ.out j (by omega))⟩
    · have hz : ¬ (k : Int) < (m : Int) := by omega
      have hall : Kept (La = Lb) := keep (List.ext_getElem? (fun j => by
        by_cases e : j < k
        · exact EQ.out j e
        · rw [List.getElem?_eq_none (by rw [← HM.out]; omega), List.getElem?_eq_none (by rw [← HL.out]; omega)]))
      clear hlt
      go_wp2
      go_ret
      exact ⟨⟨true, rfl, ⟨fun _ => hall.out, fun _ => rfl⟩⟩, B1.out⟩
theorem rsame_any : ∀ (n : Nat), RSame n
  | 0 => fun r => nomatch r
  | n + 1 => fun a b ca cb w ha hb => by
    by_cases h1 : Rp.kd a = Rp.kd b
    · by_cases h2 : Rp.tx a = Rp.tx b
      · by_cases h3 : Rp.nm a = Rp.nm b
        · by_cases h4 : (Rp.ls a).length = (Rp.ls b).length
          · refine (rsame_go n (rsame_any n) a b ca cb w ha hb h1 h2 h3 h4).mono ?_
            rintro e w' ⟨⟨v, he, hv⟩, hbl⟩
            exact ⟨⟨v, he, ⟨fun h => T_extR h1 h2 h3 (hv.1 h), fun h => hv.2 (by rw [h])⟩⟩, hbl⟩
          · exact (rsame_no n a b ca cb w ha hb (.inr (.inr (.inr h4)))).mono fun e w' ⟨he, hbl⟩ => ⟨⟨false, he, ⟨fun h => by (cases h), fun h => absurd (by rw [h]) h4⟩⟩, hbl⟩
        · exact (rsame_no n a b ca cb w ha hb (.inr (.inr (.inl h3)))).mono fun e w' ⟨he, hbl⟩ => ⟨⟨false, he, ⟨fun h => by (cases h), fun h => absurd (by rw [h]) h3⟩⟩, hbl⟩
      · exact (rsame_no n a b ca cb w ha hb (.inr (.inl h2))).mono fun e w' ⟨he, hbl⟩ => ⟨⟨false, he, ⟨fun h => by (cases h), fun h => absurd (by rw [h]) h2⟩⟩, hbl⟩
    · exact (rsame_no n a b ca cb w ha hb (.inl h1)).mono fun e w' ⟨he, hbl⟩ => ⟨⟨false, he, ⟨fun h => by (cases h), fun h => absurd (by rw [h]) h1⟩⟩, hbl⟩
end Go.Proofs.YtoalnfkjpdgbiaaDoor
