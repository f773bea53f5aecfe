/-
  Contracts over this program: the statements' own same: are these the same bytes?
-/
import Derived.Test.YtoalnfkjpdgbiaaDoorRpDecode
import Derived.BigQuiet
import Derived.Deep.QuietTactic
/-
  Contracts over this program: the statements' own alike: are two replies the same?
-/
namespace Go.Proofs.YtoalnfkjpdgbiaaDoor
open Go.RowKit
set_option linter.unusedVariables false
def Alike (n : Nat) : Prop := ∀ (a b : Rp.T n) (ca cb : List Value) (w : World), Tel (· < w.heap.size) w n ca a → Tel (· < w.heap.size) w n cb b →
  Calls Tryd.prog 39 #[.agg ca.toArray, .agg cb.toArray] w fun e w' => (∃ v, e = .returned (.bool v) ∧ (v = true ↔ a = b)) ∧ Below w.heap.size w w'
theorem T_ext {n : Nat} {a b : Rp.T (n + 1)} (h1 : Rp.kd a = Rp.kd b) (h2 : Rp.tx a = Rp.tx b) (h3 : Rp.nm a = Rp.nm b) (h4 : Rp.ls a = Rp.ls b) : a = b := by
  obtain ⟨k, s, i, l⟩ := a
  obtain ⟨k', s', i', l'⟩ := b
  simp only [Rp.kd, Rp.tx, Rp.nm, Rp.ls] at h1 h2 h3 h4
  subst h1; subst h2; subst h3; subst h4
  rfl
/-- the two blocks that alike lays -/
theorem like_pre (w : World) (a0 a1 a2 a3 b0 b1 b2 b3 : Value) : ∃ W1 W2, w.alloc (.cells #[a0, a1, a2, a3] 25) = W1 ∧ W1.alloc (.cells #[b0, b1, b2, b3] 25) = W2 ∧
    Kept (Box W2 w.heap.size a0 a1 a2 a3) ∧ Kept (Box W2 W1.heap.size b0 b1 b2 b3) ∧ Kept (Below w.heap.size w W2) := by
  obtain ⟨W1, hW1⟩ : ∃ x, w.alloc (.cells #[a0, a1, a2, a3] 25) = x := ⟨_, rfl⟩
  obtain ⟨W2, hW2⟩ : ∃ x, W1.alloc (.cells #[b0, b1, b2, b3] 25) = x := ⟨_, rfl⟩
  have x1 : Box W1 w.heap.size a0 a1 a2 a3 := hW1 ▸ Box.new w _ _ _ _
  have bb1 : Below w.heap.size w W1 := hW1 ▸ (Below.refl _ _).alloc (Nat.le_refl _) _
  have bb2 : Below W1.heap.size W1 W2 := hW2 ▸ (Below.refl _ _).alloc (Nat.le_refl _) _
  exact ⟨W1, W2, hW1, hW2, keep (x1.below bb2 x1.lt), keep (hW2 ▸ Box.new W1 _ _ _ _), keep (bb1.trans (bb2.mono bb1.size))⟩
set_option maxRecDepth 100000 in
set_option maxHeartbeats 2000000 in
theorem alike_no (n : Nat) (a b : Rp.T (n + 1)) (ca cb : List Value) (w : World) (ha : Tel (· < w.heap.size) w (n + 1) ca a) (hb : Tel (· < w.heap.size) w (n + 1) cb b)
    (hne : Rp.kd a ≠ Rp.kd b ∨ Rp.tx a ≠ Rp.tx b ∨ Rp.nm a ≠ Rp.nm b ∨ (Rp.ls a).length ≠ (Rp.ls b).length) :
    Calls Tryd.prog 39 #[.agg ca.toArray, .agg cb.toArray] w fun e w' => e = .returned (.bool false) ∧ Below w.heap.size w w' := by
  obtain ⟨va, rfl, la, _⟩ := ha
  obtain ⟨vb, rfl, lb, _⟩ := hb
  obtain ⟨aoa, cpa, rfl, _⟩ := la.form
  obtain ⟨aob, cpb, rfl, _⟩ := lb.form
  clear la lb
  generalize Rp.kd a = ka at *
  generalize Rp.tx a = sa at *
  generalize Rp.nm a = ia at *
  generalize (Rp.ls a).length = ma at *
  generalize Rp.kd b = kb at *
  generalize Rp.tx b = sb at *
  generalize Rp.nm b = ib at *
  generalize (Rp.ls b).length = mb at *
  obtain ⟨W1, W2, hW1, hW2, XA, XB, B2⟩ := like_pre w (.int .i64 ka) (.string sa) (.int .i64 ia) (.slice aoa ma cpa) (.int .i64 kb) (.string sb) (.int .i64 ib) (.slice aob mb cpb)
  obtain ⟨d0, d1, d2, d3⟩ := XA.out.cells
  obtain ⟨e0, e1, e2, e3⟩ := XB.out.cells
  by_cases h1 : ka = kb
  · subst h1
    by_cases h2 : sa = sb
    · subst h2
      by_cases h3 : ia = ib
      · subst h3
        have h4 : ma ≠ mb := by
          rcases hne with h | h | h | h
          · exact absurd rfl h
          · exact absurd rfl h
          · exact absurd rfl h
          · exact h
        have q4 : ((ma : Int) != (mb : Int)) = true := by simp; omega
        have r4 : ¬ (ma : Int) = (mb : Int) := by omega
        clear hne h4
        go_enter Tryd.func39, Tryd.ntmps39
        go_wp2
        go_ret
        exact ⟨rfl, B2.out⟩
      · have q3 : (ia != ib) = true := by simpa using h3
        clear hne
        go_enter Tryd.func39, Tryd.ntmps39
        go_wp2
        go_ret
        exact ⟨rfl, B2.out⟩
    · have q2 : (sa.toList == sb.toList) = false := beq_eq_false_iff_ne.2 (fun e => h2 (by
        rw [Lib.toList_data, Lib.toList_data] at e
        exact ByteArray.ext (by exact Array.ext' e)))
      have q2' : (sa.toList != sb.toList) = true := by rw [bne, q2]; rfl
      clear hne
      go_enter Tryd.func39, Tryd.ntmps39
      go_wp2
      go_ret
      exact ⟨rfl, B2.out⟩
  · have q1 : (ka != kb) = true := by simpa using h1
    clear hne
    go_enter Tryd.func39, Tryd.ntmps39
    go_wp2
    go_ret
    exact ⟨rfl, B2.out⟩
end Go.Proofs.YtoalnfkjpdgbiaaDoor

/-
  Contracts over this program: alike of any two replies.
-/
namespace Go.Proofs.YtoalnfkjpdgbiaaDoor
open Go.RowKit
set_option linter.unusedVariables false
/-- yes or no, as p is -/
def Says (p : Prop) (e : Ending) : Prop := ∃ v, e = .returned (.bool v) ∧ (v = true ↔ p)
set_option maxRecDepth 100000 in
set_option maxHeartbeats 4000000 in
theorem alike_go (n : Nat) (H : Alike n) (a b : Rp.T (n + 1)) (ca cb : List Value) (w : World) (ha : Tel (· < w.heap.size) w (n + 1) ca a) (hb : Tel (· < w.heap.size) w (n + 1) cb b)
    (h1 : Rp.kd a = Rp.kd b) (h2 : Rp.tx a = Rp.tx b) (h3 : Rp.nm a = Rp.nm b) (h4 : (Rp.ls a).length = (Rp.ls b).length) :
    Calls Tryd.prog 39 #[.agg ca.toArray, .agg cb.toArray] w fun e w' => Says (Rp.ls a = Rp.ls b) e ∧ Below w.heap.size w w' := by
  obtain ⟨va, rfl, la, _⟩ := ha
  obtain ⟨vb, rfl, lb, _⟩ := hb
  obtain ⟨aoa, cpa, rfl, _, hma⟩ := la.form
  obtain ⟨aob, cpb, rfl, _⟩ := lb.form
  have LA := keep la
  have LB := keep lb
  have HH := keep H
  rw [← h1, ← h2, ← h3, ← h4]
  rw [← h4] at LB
  have HL := keep h4
  clear la lb h1 h2 h3 h4 H
  generalize Rp.kd a = ka at *
  generalize Rp.tx a = sa at *
  generalize Rp.nm a = ia at *
  generalize Rp.ls a = La at *
  generalize Rp.ls b = Lb at *
  obtain ⟨m, hm⟩ : ∃ m, m = La.length := ⟨_, rfl⟩
  rw [← hm] at LA LB HL ⊢
  have HM := keep hm
  have HCM : Kept (m ≤ 9223372036854775807) := keep (by unfold maxLen at hma; omega)
  obtain ⟨W1, W2, hW1, hW2, XA, XB, B2⟩ := like_pre w (.int .i64 ka) (.string sa) (.int .i64 ia) (.slice aoa m cpa) (.int .i64 ka) (.string sa) (.int .i64 ia) (.slice aob m cpb)
  have Z1 : Kept (W1.heap.size < W2.heap.size) := keep XB.out.lt
  have Z0 : Kept (w.heap.size < W2.heap.size) := keep XA.out.lt
  obtain ⟨d0, d1, d2, d3⟩ := XA.out.cells
  obtain ⟨e0, e1, e2, e3⟩ := XB.out.cells
  clear hm hma
  go_enter Tryd.func39, Tryd.ntmps39
  go_wp2
  clear d0 d1 d2 d3 e0 e1 e2 e3
  go_loopw [37] (fun i wr => ∃ (k : Nat), k ≤ m ∧ i = .int .i64 k ∧ Kept (Below W2.heap.size W2 wr) ∧ Kept (∀ j, j < k → La[j]? = Lb[j]?)) (fun i _ => m - (intOf i).toNat)
  case atStart => exact ⟨0, Nat.zero_le _, rfl, keep (Below.refl _ _), keep (fun j hj => absurd hj (Nat.not_lt_zero j))⟩
  case round =>
    obtain ⟨k, hk, rfl, BR, EQ⟩ := hrel
    have XA1 := keep (XA.out.below BR.out Z0.out)
    have XB1 := keep (XB.out.below BR.out Z1.out)
    have B1 := keep (B2.out.trans (BR.out.mono B2.out.size))
    obtain ⟨d0, d1, d2, d3⟩ := XA1.out.cells
    obtain ⟨e0, e1, e2, e3⟩ := XB1.out.cells
    by_cases hlt : k < m
    · have hz : (k : Int) < (m : Int) := by omega
      have hz0 : (0 : Int) ≤ (k : Int) := by omega
      have hkw : IntKind.i64.wrap ((k : Int) + 1) = ((k + 1 : Nat) : Int) := by have := HCM.out; rw [IntKind.wrap_i64]; omega
      obtain ⟨x, hx⟩ : ∃ x, La[k]? = some x := ⟨_, List.getElem?_eq_getElem (by rw [← HM.out]; exact hlt)⟩
      obtain ⟨y, hy⟩ : ∃ y, Lb[k]? = some y := ⟨_, List.getElem?_eq_getElem (by rw [← HL.out]; exact hlt)⟩
      have hfar : ∀ b, b < w.heap.size → b < wr.heap.size := fun b hb => Nat.lt_of_lt_of_le hb B1.out.size
      have hsame : ∀ b, b < w.heap.size → wr.heap[b]? = w.heap[b]? := fun b hb => B1.out.block b hb
      have hLA : Lst (· < wr.heap.size) wr (Tel (· < wr.heap.size) wr n) (.slice aoa m cpa) La := LA.out.mono hfar hsame (fun cs x hx => Tel.mono hfar hsame n cs x hx)
      have hLB : Lst (· < wr.heap.size) wr (Tel (· < wr.heap.size) wr n) (.slice aob m cpb) Lb := LB.out.mono hfar hsame (fun cs x hx => Tel.mono hfar hsame n cs x hx)
      obtain ⟨g, cap, e, _, p0, p1, p2, p3, htx, x0, x1, x2, x3⟩ := hLA.at hx (fun cs h => h.four)
      obtain ⟨rfl, rfl⟩ : aoa = some ⟨g, 0, none⟩ ∧ cpa = cap := by injection e with q1 q2 q3; exact ⟨q1, q3⟩
      obtain ⟨g2, cap2, e', _, q0, q1, q2, q3, hty, y0, y1, y2, y3⟩ := hLB.at hy (fun cs h => h.four)
      obtain ⟨rfl, rfl⟩ : aob = some ⟨g2, 0, none⟩ ∧ cpb = cap2 := by injection e' with q1 q2 q3; exact ⟨q1, q3⟩
      obtain ⟨s0, s1, s2, s3, s4, s5, hq, _⟩ := htx.six
      obtain ⟨rfl, rfl, rfl, rfl⟩ : p0 = .int .i64 s0 ∧ p1 = .string s1 ∧ p2 = .int .i64 s2 ∧ p3 = .slice s3 s4 s5 := by simpa using hq
      obtain ⟨t0, t1, t2, t3, t4, t5, hq2, _⟩ := hty.six
      obtain ⟨rfl, rfl, rfl, rfl⟩ : q0 = .int .i64 t0 ∧ q1 = .string t1 ∧ q2 = .int .i64 t2 ∧ q3 = .slice t3 t4 t5 := by simpa using hq2
      have TX := keep htx
      have TY := keep hty
      have HX := keep hx
      have HY := keep hy
      have CA := keep (fun (w3 : World) (b3 : Below wr.heap.size wr w3) => HH.out x y _ _ w3 (Tel.mono (fun b hb => Nat.lt_of_lt_of_le hb b3.size) (fun b hb => b3.block b hb) n _ x TX.out) (Tel.mono (fun b hb => Nat.lt_of_lt_of_le hb b3.size) (fun b hb => b3.block b hb) n _ y TY.out))
      clear hfar hsame hLA hLB htx hty hx hy e e' hq hq2
      go_wp2
      have hS : (fun W : World => W.cell? ⟨w.heap.size, 3, none⟩ = some (.slice (some ⟨g, 0, none⟩) m cpa) ∧ W.cell? ⟨W1.heap.size, 3, none⟩ = some (.slice (some ⟨g2, 0, none⟩) m cpb) ∧
        (W.cell? ⟨g, k * 4, none⟩ = some (.int .i64 s0) ∧ W.cell? ⟨g, k * 4 + 1, none⟩ = some (.string s1) ∧ W.cell? ⟨g, k * 4 + 2, none⟩ = some (.int .i64 s2) ∧ W.cell? ⟨g, k * 4 + 3, none⟩ = some (.slice s3 s4 s5)) ∧
        (W.cell? ⟨g2, k * 4, none⟩ = some (.int .i64 t0) ∧ W.cell? ⟨g2, k * 4 + 1, none⟩ = some (.string t1) ∧ W.cell? ⟨g2, k * 4 + 2, none⟩ = some (.int .i64 t2) ∧ W.cell? ⟨g2, k * 4 + 3, none⟩ = some (.slice t3 t4 t5))) wr.drew := ⟨d3, e3, ⟨x0, x1, x2, x3⟩, ⟨y0, y1, y2, y3⟩⟩
      refine wp_region_any (by kernel_rfl) (wpAny_of_held (S := fun W : World => W.cell? ⟨w.heap.size, 3, none⟩ = some (.slice (some ⟨g, 0, none⟩) m cpa) ∧ W.cell? ⟨W1.heap.size, 3, none⟩ = some (.slice (some ⟨g2, 0, none⟩) m cpb) ∧
        (W.cell? ⟨g, k * 4, none⟩ = some (.int .i64 s0) ∧ W.cell? ⟨g, k * 4 + 1, none⟩ = some (.string s1) ∧ W.cell? ⟨g, k * 4 + 2, none⟩ = some (.int .i64 s2) ∧ W.cell? ⟨g, k * 4 + 3, none⟩ = some (.slice s3 s4 s5)) ∧
        (W.cell? ⟨g2, k * 4, none⟩ = some (.int .i64 t0) ∧ W.cell? ⟨g2, k * 4 + 1, none⟩ = some (.string t1) ∧ W.cell? ⟨g2, k * 4 + 2, none⟩ = some (.int .i64 t2) ∧ W.cell? ⟨g2, k * 4 + 3, none⟩ = some (.slice t3 t4 t5))) _ _ _ _ ?_)
      refine wpAnyH_take (i := 0) (oi := { dst := some 40, op := _, type := _, pos := _, after := _, guard := _ }) (v := ?v1) rfl (by kernel_rfl) (by kernel_rfl) (by kernel_rfl) (fun _ _ _ h => h) (Or.inl ⟨by rfl, ?hy1⟩) (by assumption) ?rest1
      case hy1 => (intro w hSw; obtain ⟨r0, r1, ⟨r2, r3, r4, r5⟩, ⟨r6, r7, r8, r9⟩⟩ := hSw; go_simp; try with_reducible rfl)
      try simp only [Act.put, List.setIfInBounds_toArray, List.set_cons_zero, List.set_cons_succ]
      refine wpAnyH_take (i := 1) (oi := { dst := some 41, op := _, type := _, pos := _, after := _, guard := _ }) (v := ?v2) rfl (by kernel_rfl) (by kernel_rfl) (by kernel_rfl) (fun _ _ _ h => h) (Or.inl ⟨by rfl, ?hy2⟩) (by assumption) ?rest2
      case hy2 => (intro w hSw; obtain ⟨r0, r1, ⟨r2, r3, r4, r5⟩, ⟨r6, r7, r8, r9⟩⟩ := hSw; go_simp; try with_reducible rfl)
      try simp only [Act.put, List.setIfInBounds_toArray, List.set_cons_zero, List.set_cons_succ]
      refine wpAnyH_take (i := 2) (oi := { dst := some 42, op := _, type := _, pos := _, after := _, guard := _ }) (v := ?v3) rfl (by kernel_rfl) (by kernel_rfl) (by kernel_rfl) (fun _ _ _ h => h) (Or.inl ⟨by rfl, ?hy3⟩) (by assumption) ?rest3
      case hy3 => (intro w hSw; obtain ⟨r0, r1, ⟨r2, r3, r4, r5⟩, ⟨r6, r7, r8, r9⟩⟩ := hSw; go_simp; try with_reducible rfl)
      try simp only [Act.put, List.setIfInBounds_toArray, List.set_cons_zero, List.set_cons_succ]
      refine wpAnyH_take (i := 3) (oi := { dst := some 43, op := _, type := _, pos := _, after := _, guard := _ }) (v := ?v4) rfl (by kernel_rfl) (by kernel_rfl) (by kernel_rfl) (fun _ _ _ h => h) (Or.inl ⟨by rfl, ?hy4⟩) (by assumption) ?rest4
      case hy4 => (intro w hSw; obtain ⟨r0, r1, ⟨r2, r3, r4, r5⟩, ⟨r6, r7, r8, r9⟩⟩ := hSw; go_simp; try with_reducible rfl)
      try simp only [Act.put, List.setIfInBounds_toArray, List.set_cons_zero, List.set_cons_succ]
      refine wpAnyH_take (i := 4) (oi := { dst := some 44, op := _, type := _, pos := _, after := _, guard := _ }) (v := ?v5) rfl (by kernel_rfl) (by kernel_rfl) (by kernel_rfl) (fun _ _ _ h => h) (Or.inl ⟨by rfl, ?hy5⟩) (by assumption) ?rest5
      case hy5 => (intro w hSw; obtain ⟨r0, r1, ⟨r2, r3, r4, r5⟩, ⟨r6, r7, r8, r9⟩⟩ := hSw; go_simp; try with_reducible rfl)
      try simp only [Act.put, List.setIfInBounds_toArray, List.set_cons_zero, List.set_cons_succ]
      refine wpAnyH_take (i := 5) (oi := { dst := some 45, op := _, type := _, pos := _, after := _, guard := _ }) (v := ?v6) rfl (by kernel_rfl) (by kernel_rfl) (by kernel_rfl) (fun _ _ _ h => h) (Or.inl ⟨by rfl, ?hy6⟩) (by assumption) ?rest6
      case hy6 => (intro w hSw; obtain ⟨r0, r1, ⟨r2, r3, r4, r5⟩, ⟨r6, r7, r8, r9⟩⟩ := hSw; go_simp; try with_reducible rfl)
      try simp only [Act.put, List.setIfInBounds_toArray, List.set_cons_zero, List.set_cons_succ]
      refine wpAnyH_take (i := 6) (oi := { dst := some 46, op := _, type := _, pos := _, after := _, guard := _ }) (v := ?v7) rfl (by kernel_rfl) (by kernel_rfl) (by kernel_rfl) (fun _ _ _ h => h) (Or.inl ⟨by rfl, ?hy7⟩) (by assumption) ?rest7
      case hy7 => (intro w hSw; obtain ⟨r0, r1, ⟨r2, r3, r4, r5⟩, ⟨r6, r7, r8, r9⟩⟩ := hSw; go_simp; try with_reducible rfl)
      try simp only [Act.put, List.setIfInBounds_toArray, List.set_cons_zero, List.set_cons_succ]
      refine wpAnyH_take (i := 7) (oi := { dst := some 47, op := _, type := _, pos := _, after := _, guard := _ }) (v := ?v8) rfl (by kernel_rfl) (by kernel_rfl) (by kernel_rfl) (fun _ _ _ h => h) (Or.inl ⟨by rfl, ?hy8⟩) (by assumption) ?rest8
      case hy8 => (intro w hSw; obtain ⟨r0, r1, ⟨r2, r3, r4, r5⟩, ⟨r6, r7, r8, r9⟩⟩ := hSw; go_simp; try with_reducible rfl)
      try simp only [Act.put, List.setIfInBounds_toArray, List.set_cons_zero, List.set_cons_succ]
      refine wpAnyH_take (i := 8) (oi := { dst := some 48, op := _, type := _, pos := _, after := _, guard := _ }) (v := ?v9) rfl (by kernel_rfl) (by kernel_rfl) (by kernel_rfl) (fun _ _ _ h => h) (Or.inl ⟨by rfl, ?hy9⟩) (by assumption) ?rest9
      case hy9 => (intro w hSw; obtain ⟨r0, r1, ⟨r2, r3, r4, r5⟩, ⟨r6, r7, r8, r9⟩⟩ := hSw; go_simp; try with_reducible rfl)
      try simp only [Act.put, List.setIfInBounds_toArray, List.set_cons_zero, List.set_cons_succ]
      refine wpAnyH_take (i := 9) (oi := { dst := some 49, op := _, type := _, pos := _, after := _, guard := _ }) (v := ?v10) rfl (by kernel_rfl) (by kernel_rfl) (by kernel_rfl) (fun _ _ _ h => h) (Or.inl ⟨by rfl, ?hy10⟩) (by assumption) ?rest10
      case hy10 => (intro w hSw; obtain ⟨r0, r1, ⟨r2, r3, r4, r5⟩, ⟨r6, r7, r8, r9⟩⟩ := hSw; go_simp; try with_reducible rfl)
      try simp only [Act.put, List.setIfInBounds_toArray, List.set_cons_zero, List.set_cons_succ]
      refine wpAnyH_ready (rs := [10]) (by kernel_rfl) (by simp) ?_
      refine AllReadyH.cons (o := { dst := some 50, op := _, type := _, pos := _, after := _, guard := _ }) rfl (fun K hK => ?_) AllReadyH.nil
      go_simp
      have bd : Below wr.heap.size wr wr.drew := below_drewN wr 1
      refine (CA.out _ bd).mono ?_
      rintro e w3 ⟨⟨v, rfl, hv⟩, b3⟩
      have kp : ∀ {A : Nat} {o : Nat} {u : Value}, wr.drew.cell? ⟨A, o, none⟩ = some u → w3.cell? ⟨A, o, none⟩ = some u := fun h => cell_below b3 h
      have B3 := keep (B1.out.trans ((bd.trans b3).mono B1.out.size))
      have BR3 := keep (BR.out.trans ((bd.trans b3).mono BR.out.size))
      have HV := keep hv
      refine hK _ _ ⟨kp hS.1, kp hS.2.1, ⟨kp hS.2.2.1.1, kp hS.2.2.1.2.1, kp hS.2.2.1.2.2.1, kp hS.2.2.1.2.2.2⟩, ⟨kp hS.2.2.2.1, kp hS.2.2.2.2.1, kp hS.2.2.2.2.2.1, kp hS.2.2.2.2.2.2⟩⟩ (fun hHeld => ?_)
      try simp only [Act.put, List.setIfInBounds_toArray, List.set_cons_zero, List.set_cons_succ]
      clear hK hv kp bd b3
      refine wpAnyH_ready (rs := [11]) (by kernel_rfl) (by simp) ?_
      refine AllReadyH.cons (o := { dst := some 51, op := _, type := _, pos := _, after := _, guard := _ }) rfl (fun K hK => ?_) AllReadyH.nil
      go_simp
      refine hK _ _ hHeld (fun hHeld => ?_)
      refine wpAnyH_done (by kernel_rfl) ?_ _
      clear hK hHeld hS
      cases v
      · have hne : Kept (La ≠ Lb) := keep (fun e => by
          have e2 := HY.out
          rw [← e, HX.out] at e2
          have := HV.out.2 (Option.some.inj e2)
          cases this)
        simp only [Exit.then]
        go_at_K
        go_wp2
        go_ret
        exact ⟨⟨false, rfl, ⟨fun h => absurd h (by decide), fun h => absurd h hne.out⟩⟩, B3.out⟩
      · have hxy : x = y := HV.out.1 rfl
        simp only [Exit.then]
        go_at_K
        go_wp2
        go_roundw
        case measure => simp [intOf]; omega
        case rel => exact ⟨k + 1, by omega, by rfl, BR3, keep (fun j hj => by
          by_cases e : j = k
          · rw [e, HX.out, HY.out, hxy]
          · exact EQ.out j (by omega))⟩
    · have hz : ¬ (k : Int) < (m : Int) := by omega
      have hall : Kept (La = Lb) := keep (List.ext_getElem? (fun j => by
        by_cases e : j < k
        · exact EQ.out j e
        · rw [List.getElem?_eq_none (by rw [← HM.out]; omega), List.getElem?_eq_none (by rw [← HL.out]; omega)]))
      clear hlt
      go_wp2
      go_ret
      exact ⟨⟨true, rfl, ⟨fun _ => hall.out, fun _ => rfl⟩⟩, B1.out⟩
theorem alike_any : ∀ (n : Nat), Alike n
  | 0 => fun r => nomatch r
  | n + 1 => fun a b ca cb w ha hb => by
    by_cases h1 : Rp.kd a = Rp.kd b
    · by_cases h2 : Rp.tx a = Rp.tx b
      · by_cases h3 : Rp.nm a = Rp.nm b
        · by_cases h4 : (Rp.ls a).length = (Rp.ls b).length
          · refine (alike_go n (alike_any n) a b ca cb w ha hb h1 h2 h3 h4).mono ?_
            rintro e w' ⟨⟨v, he, hv⟩, hbl⟩
            exact ⟨⟨v, he, ⟨fun h => T_ext h1 h2 h3 (hv.1 h), fun h => hv.2 (by rw [h])⟩⟩, hbl⟩
          · exact (alike_no n a b ca cb w ha hb (.inr (.inr (.inr h4)))).mono fun e w' ⟨he, hbl⟩ => ⟨⟨false, he, ⟨fun h => by (cases h), fun h => absurd (by rw [h]) h4⟩⟩, hbl⟩
        · exact (alike_no n a b ca cb w ha hb (.inr (.inr (.inl h3)))).mono fun e w' ⟨he, hbl⟩ => ⟨⟨false, he, ⟨fun h => by (cases h), fun h => absurd (by rw [h]) h3⟩⟩, hbl⟩
      · exact (alike_no n a b ca cb w ha hb (.inr (.inl h2))).mono fun e w' ⟨he, hbl⟩ => ⟨⟨false, he, ⟨fun h => by (cases h), fun h => absurd (by rw [h]) h2⟩⟩, hbl⟩
    · exact (alike_no n a b ca cb w ha hb (.inl h1)).mono fun e w' ⟨he, hbl⟩ => ⟨⟨false, he, ⟨fun h => by (cases h), fun h => absurd (by rw [h]) h1⟩⟩, hbl⟩
end Go.Proofs.YtoalnfkjpdgbiaaDoor

namespace Go.Proofs.YtoalnfkjpdgbiaaDoor
open Go.RowKit
set_option linter.unusedVariables false
theorem Kb.bs {w : World} {v : Value} {l : List UInt8} (h : Kb w v l) : Bs (· < w.heap.size) w v l := by
  have hlt := h.lt
  rcases h.2 with ⟨rfl, e⟩ | ⟨g, cap, cur, rfl, _, hg, hc, _, hs, ht⟩
  · have : l = [] := List.length_eq_zero_iff.1 e
    subst this
    exact ⟨none, 0, rfl, Nat.le_refl _, .inl rfl⟩
  · refine ⟨_, cap, rfl, hc, .inr ⟨g, 0, rfl, hlt g rfl, fun j x hx => ?_⟩⟩
    rw [cell_of_row _ _ _ _ _ _ hg, Nat.zero_add]
    have hj := (List.getElem?_eq_some_iff.1 hx).1
    have e : cur.toList[j]? = (bcells l)[j]? := by
      rw [← ht, List.getElem?_take, if_pos (by omega)]
    rw [← Array.getElem?_toList, e, bcells, List.getElem?_map, hx]
    rfl
set_option maxHeartbeats 2000000 in
theorem same_no (va vb : Value) (la lb : List UInt8) (w : World) (ha : Bs (· < w.heap.size) w va la) (hb : Bs (· < w.heap.size) w vb lb) (h : la.length ≠ lb.length) :
    Calls Tryd.prog 13 #[va, vb] w fun e w' => e = .returned (.bool false) ∧ w' = w := by
  obtain ⟨ao, c, rfl, _⟩ := ha
  obtain ⟨bo, d, rfl, _⟩ := hb
  have q : ((la.length : Int) != (lb.length : Int)) = true := by simp; omega
  generalize la.length = m at *
  generalize lb.length = n at *
  clear h
  go_enter Tryd.func13, Tryd.ntmps13
  go_wp2
  go_ret
  exact ⟨rfl, rfl⟩
set_option maxHeartbeats 2000000 in
theorem same_go (va vb : Value) (la lb : List UInt8) (w : World) (ha : Bs (· < w.heap.size) w va la) (hb : Bs (· < w.heap.size) w vb lb) (h : la.length = lb.length) (hm : la.length ≤ 140737488355328) :
    Calls Tryd.prog 13 #[va, vb] w fun e w' => Says (la = lb) e ∧ Below w.heap.size w w' := by
  obtain ⟨ao, c, rfl, hc, h1⟩ := ha
  obtain ⟨bo, d, rfl, hd, h2⟩ := hb
  obtain ⟨m, hmm⟩ : ∃ m, m = la.length := ⟨_, rfl⟩
  rw [← h, ← hmm]
  have HA := keep hmm
  have HB := keep h
  have H1 := keep h1
  have H2 := keep h2
  have HC := keep hm
  clear h1 h2 hm h hc hd hmm
  go_enter Tryd.func13, Tryd.ntmps13
  go_wp2
  go_loopw [13] (fun i wr => ∃ (k : Nat), k ≤ m ∧ i = .int .i64 k ∧ Kept (Below w.heap.size w wr) ∧ Kept (∀ j, j < k → la[j]? = lb[j]?)) (fun i _ => m - (intOf i).toNat)
  case atStart => exact ⟨0, Nat.zero_le _, rfl, keep (Below.refl _ _), keep (fun j hj => absurd hj (Nat.not_lt_zero j))⟩
  case round =>
    obtain ⟨k, hk, rfl, BR, EQ⟩ := hrel
    by_cases hlt : k < m
    · have hz : (k : Int) < (m : Int) := by omega
      have hz0 : (0 : Int) ≤ (k : Int) := by omega
      have hkw : IntKind.i64.wrap ((k : Int) + 1) = ((k + 1 : Nat) : Int) := by have := HC.out; have := HA.out; rw [IntKind.wrap_i64]; omega
      obtain ⟨x, hx⟩ : ∃ x, la[k]? = some x := ⟨_, List.getElem?_eq_getElem (by rw [← HA.out]; exact hlt)⟩
      obtain ⟨y, hy⟩ : ∃ y, lb[k]? = some y := ⟨_, List.getElem?_eq_getElem (by rw [← HB.out, ← HA.out]; exact hlt)⟩
      obtain ⟨g, o, rfl, hg, hga⟩ := H1.out.resolve_left (fun e => by rw [e] at hx; simp at hx)
      obtain ⟨g2, o2, rfl, hg2, hgb⟩ := H2.out.resolve_left (fun e => by rw [e] at hy; simp at hy)
      have cx : wr.cell? ⟨g, o + k, none⟩ = some (.int .u8 (x.toNat : Int)) := (World.cell?_of_block (BR.out.block g hg)).trans (hga k x hx)
      have cy : wr.cell? ⟨g2, o2 + k, none⟩ = some (.int .u8 (y.toNat : Int)) := (World.cell?_of_block (BR.out.block g2 hg2)).trans (hgb k y hy)
      have HX := keep hx
      have HY := keep hy
      clear hga hgb hg hg2 hx hy
      by_cases hxy : x = y
      · have q : ((x.toNat : Int) != (y.toNat : Int)) = false := by simp [hxy]
        go_wp2
        go_quiet (fail)
        have BQ : Kept (Below w.heap.size w (wr.drewN nq)) := keep (BR.out.trans ((below_drewN wr nq).mono BR.out.size))
        generalize wr.drewN nq = wq at *
        try rw [q]
        go_wp2
        go_roundw
        case measure => simp [intOf]; omega
        case rel => exact ⟨k + 1, by omega, by rfl, BQ, keep (fun j hj => by
          by_cases e : j = k
          · rw [e, HX.out, HY.out, hxy]
          · exact EQ.out j (by omega))⟩
      · have q : ((x.toNat : Int) != (y.toNat : Int)) = true := by
          have : x.toNat ≠ y.toNat := fun e => hxy (UInt8.toNat_inj.1 e)
          simp; omega
        have hne : Kept (la ≠ lb) := keep (fun e => by
          have e2 := HY.out
          rw [← e, HX.out] at e2
          exact hxy (Option.some.inj e2))
        go_wp2
        go_quiet (fail)
        have BQ : Kept (Below w.heap.size w (wr.drewN nq)) := keep (BR.out.trans ((below_drewN wr nq).mono BR.out.size))
        generalize wr.drewN nq = wq at *
        try rw [q]
        go_wp2
        go_ret
        exact ⟨⟨false, rfl, ⟨fun h => absurd h (by decide), fun h => absurd h hne.out⟩⟩, BQ.out⟩
    · have hz : ¬ (k : Int) < (m : Int) := by omega
      have hall : Kept (la = lb) := keep (List.ext_getElem? (fun j => by
        by_cases e : j < k
        · exact EQ.out j e
        · rw [List.getElem?_eq_none (by rw [← HA.out]; omega), List.getElem?_eq_none (by rw [← HB.out, ← HA.out]; omega)]))
      clear hlt
      go_wp2
      go_ret
      exact ⟨⟨true, rfl, ⟨fun _ => hall.out, fun _ => rfl⟩⟩, BR.out⟩
theorem same_any (va vb : Value) (la lb : List UInt8) (w : World) (ha : Bs (· < w.heap.size) w va la) (hb : Bs (· < w.heap.size) w vb lb) (hm : la.length ≤ 140737488355328) :
    Calls Tryd.prog 13 #[va, vb] w fun e w' => Says (la = lb) e ∧ Below w.heap.size w w' := by
  by_cases h : la.length = lb.length
  · exact same_go va vb la lb w ha hb h hm
  · exact (same_no va vb la lb w ha hb h).mono fun e w' ⟨he, hw⟩ => ⟨⟨false, he, ⟨fun h => absurd h (by decide), fun e => absurd (by rw [e]) h⟩⟩, hw ▸ Below.refl _ _⟩
theorem simple1_any (s : ByteArray) (w : World) :
    Calls Tryd.prog 23 #[.string s] w fun e w' => e = .returned (.agg #[.int .i64 1, .string s, .int .i64 0, .slice none 0 0]) ∧ Below w.heap.size w w' := by
  go_enter Tryd.func23, Tryd.ntmps23
  go_wp2
  (try simp only [Exit.inBlock, Exit.then])
  refine bodyPost_ret (res_rp1 rfl _ _ _ _ _ _ _ rfl (Box.new _ _ _ _ _)) rfl ?_
  exact ⟨rfl, (Below.refl _ _).alloc (Nat.le_refl _) _⟩
end Go.Proofs.YtoalnfkjpdgbiaaDoor
