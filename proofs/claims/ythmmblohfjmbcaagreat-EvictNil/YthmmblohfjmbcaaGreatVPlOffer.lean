/-
  Contracts over this program: Offer and New of a pool.
-/
import Derived.Test.YthmmblohfjmbcaaGreatVPlCalls
namespace Go.Proofs.YthmmblohfjmbcaaGreat.DV
open Go.RowKit Go.Shelf
set_option linter.unusedVariables false
set_option maxRecDepth 100000
/-- what Offer leaves, and what it answers -/
def offL (m : Nat) (c : Ent) (l : List Ent) : List Ent := (put c (del c.1 l)).take m
def offB (m : Nat) (c : Ent) (l : List Ent) : Bool := match (put c (del c.1 l))[m]? with | none => true | some x => !eqE x c
theorem put_ne (c : Ent) (l : List Ent) : put c l ≠ [] := fun e => by have := put_length c l; rw [e] at this; simp at this
set_option maxHeartbeats 1000000 in
theorem offer_any (w : World) (b m : Nat) (v : Value) (l : List Ent) (c : Ent) (h : Pl w b v m l) (hg : Good l) (hlm : l.length ≤ m) (hm : m ≤ 16) :
    Calls Tryz.prog 46 #[.pointer (some ⟨b, 0, none⟩), agE c] w fun e w' => Did w b m v (offL m c l) (.bool (offB m c l)) e w' := by
  obtain ⟨W1, hW1⟩ : ∃ W1, w.alloc (.cells #[.string c.1, .int .u64 c.2] 65) = W1 := ⟨_, rfl⟩
  have hb1 : Below w.heap.size w W1 := by rw [← hW1]; exact (Below.refl _ w).alloc (Nat.le_refl _) _
  have hs1 : W1.heap.size = w.heap.size + 1 := by rw [← hW1]; simp
  have g1 : W1.heap[w.heap.size]? = some (.cells #[.string c.1, .int .u64 c.2] 65 (0, 0)) := by rw [← hW1]; exact heap_alloc_new _ _
  have h1 := h.bel hb1
  have hH : w.heap.size ∉ bl b v := fun hk => by have := h.lt _ hk; omega
  have mD := drop_any W1 b m v l c.1 h1 hg (by omega)
  obtain ⟨q, hq⟩ : ∃ q, put c (del c.1 l) = q := ⟨_, rfl⟩
  obtain ⟨qn, hqn⟩ : ∃ n, q.length = n := ⟨_, rfl⟩
  have hqn1 : 1 ≤ qn := by rw [← hqn, ← hq, put_length]; omega
  have hqn2 : qn ≤ m + 1 := by have := del_len c.1 l; rw [← hqn, ← hq, put_length]; omega
  have P1 : Kept (∀ (r : Value) e w2, Did W1 b m v (del c.1 l) r e w2 → ∃ v2, e = .returned r ∧ Pl w2 b v2 m (del c.1 l) ∧ Fm (bl b v) w (bl b v2) w2 ∧ w2.heap[w.heap.size]? = some (.cells #[.string c.1, .int .u64 c.2] 65 (0, 0)) ∧ w.heap.size ∉ bl b v2 ∧ w.heap.size < w2.heap.size) := by
    rintro r e w2 ⟨rfl, v2, p2, f2⟩
    obtain ⟨e1, e2⟩ := f2.keeps (k := w.heap.size) (by omega) hH
    exact ⟨v2, rfl, p2, (Fm.below hb1).trans f2, e1.trans g1, e2, by have := f2.2.1; omega⟩
  have MD := keep mD
  have HG := keep (good_del (key := c.1) hg)
  have HN : Kept ((del c.1 l).length ≤ 100000) := by have := del_len c.1 l; show _ ≤ _; omega
  have HA : Kept (m ≤ 16 ∧ 1 ≤ qn ∧ qn ≤ m + 1 ∧ q.length = qn) := ⟨hm, hqn1, hqn2, hqn⟩
  obtain ⟨d0, d1, d2⟩ := cells_two g1
  have hL : offL m c l = q.take m := by unfold offL; rw [hq]
  rw [hL]
  have OB : Kept (offB m c l = (match q[m]? with | none => true | some x => !eqE x c)) := by show _ = _; unfold offB; rw [hq]
  have HQ := keep hq
  obtain ⟨c1, c2⟩ := c
  unfold agE
  dsimp only at *
  clear hL h h1 hg hlm hm hb1 hs1 g1 hH mD hqn1 hqn2 hqn hq
  go_enter Tryz.func46, Tryz.ntmps46
  go_wp2_with fail
  refine MD.out.mono ?_
  intro e w2 hh
  obtain ⟨v2, rfl, p2, f2, g2, n2, s2⟩ := P1.out _ _ _ hh
  clear hh MD P1
  obtain ⟨d0, d1, d2⟩ := cells_two g2
  have mP := putIn_any w2 b m v2 (del c1 l) (c1, c2) p2 HG.out.1 HN.out
  unfold agE at mP
  dsimp only at mP
  rw [HQ.out] at mP
  have P2 : Kept (∀ e w3, Putd w2 b m v2 q e w3 → ∃ v3, e = .returned (.tuple #[]) ∧ Pl w3 b v3 m q ∧ Fm (bl b v) w (bl b v3) w3 ∧ w3.heap[w.heap.size]? = some (.cells #[.string c1, .int .u64 c2] 65 (0, 0)) ∧ w.heap.size ∉ bl b v3 ∧ w.heap.size < w3.heap.size) := by
    rintro e w3 ⟨rfl, v3, p3, f3⟩
    obtain ⟨e1, e2⟩ := f3.keeps (k := w.heap.size) s2 n2
    exact ⟨v3, rfl, p3, f2.trans f3, e1.trans g2, e2, by have := f3.2.1; omega⟩
  have MP := keep mP
  clear mP p2 f2 g2 n2 s2
  go_wp2_with fail
  refine MP.out.mono ?_
  intro e w3 hh
  obtain ⟨v3, rfl, p3, f3, g3, n3, s3⟩ := P2.out _ _ hh
  clear hh MP P2 d0 d1 d2
  rcases p3.2.1.form with ⟨_, e⟩ | ⟨g, cp, rfl, _⟩
  · exfalso; have := HA.out; rw [e] at this; simp at this; omega
  have p3' := p3
  rw [HA.out.2.2.2] at p3' f3 n3
  obtain ⟨k0, k1, k2⟩ := p3'.cells
  obtain ⟨d0, d1, d2⟩ := cells_two g3
  have P3 := keep p3
  have F3 := keep f3
  have HH : Kept (w.heap.size ∉ bl b (.slice (some ⟨g, 0, none⟩) qn cp) ∧ w3.heap[w.heap.size]? = some (.cells #[.string c1, .int .u64 c2] 65 (0, 0)) ∧ w.heap.size < w3.heap.size) := ⟨n3, g3, s3⟩
  have S1 : Kept (w3.drew.cell? ⟨b, 0, none⟩ = some (.int .i64 (m : Int)) ∧ w3.drew.cell? ⟨b, 1, none⟩ = some (.slice (some ⟨g, 0, none⟩) qn cp)) := ⟨k0, k1⟩
  clear p3 p3' f3 n3 g3 s3 k1 k2
  by_cases hfit : qn ≤ m
  · have hle : decide ((qn : Int) ≤ (m : Int)) = true := decide_eq_true (by omega)
    have hle' : (qn : Int) ≤ (m : Int) := by omega
    have HD : Kept (Did w b m v (q.take m) (.bool (offB m (c1, c2) l)) (.returned (.bool true)) w3.drew) := by
      have hl := HA.out.2.2.2
      rw [OB.out, List.take_of_length_le (by omega), List.getElem?_eq_none (by omega)]
      have hp := P3.out
      rw [hl] at hp
      exact ⟨rfl, _, hp, F3.out⟩
    go_wp2_with fail
    refine wp_region_held_drew (S := fun W => W.cell? ⟨b, 0, none⟩ = some (.int .i64 (m : Int)) ∧ W.cell? ⟨b, 1, none⟩ = some (.slice (some ⟨g, 0, none⟩) qn cp)) (by kernel_rfl) S1.out (fun hHeld => ?_)
    refine wpAnyH_take (i := 0) (oi := { dst := some 14, op := _, type := _, pos := _, after := _, guard := _ }) (v := ?v1) rfl (by kernel_rfl) (by kernel_rfl) (by kernel_rfl) (fun _ _ _ h => h) (Or.inl ⟨by rfl, ?hy1⟩) (by assumption) ?rest1
    case hy1 => (intro w hSw; obtain ⟨p0,p1⟩ := hSw; go_simp; try with_reducible rfl)
    try simp only [Act.put, List.setIfInBounds_toArray, List.set_cons_zero, List.set_cons_succ]
    refine wpAnyH_take (i := 1) (oi := { dst := some 15, op := _, type := _, pos := _, after := _, guard := _ }) (v := ?v2) rfl (by kernel_rfl) (by kernel_rfl) (by kernel_rfl) (fun _ _ _ h => h) (Or.inl ⟨by rfl, ?hy2⟩) (by assumption) ?rest2
    case hy2 => (intro w hSw; obtain ⟨p0,p1⟩ := hSw; go_simp; try with_reducible rfl)
    try simp only [Act.put, List.setIfInBounds_toArray, List.set_cons_zero, List.set_cons_succ]
    refine wpAnyH_take (i := 2) (oi := { dst := some 16, op := _, type := _, pos := _, after := _, guard := _ }) (v := ?v3) rfl (by kernel_rfl) (by kernel_rfl) (by kernel_rfl) (fun _ _ _ h => h) (Or.inl ⟨by rfl, ?hy3⟩) (by assumption) ?rest3
    case hy3 => (intro w hSw; obtain ⟨p0,p1⟩ := hSw; go_simp; try with_reducible rfl)
    try simp only [Act.put, List.setIfInBounds_toArray, List.set_cons_zero, List.set_cons_succ]
    refine wpAnyH_take (i := 3) (oi := { dst := some 17, op := _, type := _, pos := _, after := _, guard := _ }) (v := (.slice (some ⟨g, 0, none⟩) qn cp)) rfl (by kernel_rfl) (by kernel_rfl) (by kernel_rfl) (fun _ _ _ h => h) (Or.inl ⟨by rfl, ?hy4⟩) (by assumption) ?rest4
    case hy4 => (intro w hSw; obtain ⟨p0,p1⟩ := hSw; first | (go_simp; done) | (go_simp; simp [*]; done) | (simp [*]; go_simp; done))
    try simp only [Act.put, List.setIfInBounds_toArray, List.set_cons_zero, List.set_cons_succ]
    refine wpAnyH_take (i := 4) (oi := { dst := some 18, op := _, type := _, pos := _, after := _, guard := _ }) (v := (.int .i64 (qn : Int))) rfl (by kernel_rfl) (by kernel_rfl) (by kernel_rfl) (fun _ _ _ h => h) (Or.inl ⟨by rfl, ?hy5⟩) (by assumption) ?rest5
    case hy5 => (intro w hSw; obtain ⟨p0,p1⟩ := hSw; first | (go_simp; done) | (go_simp; simp [*]; done) | (simp [*]; go_simp; done))
    try simp only [Act.put, List.setIfInBounds_toArray, List.set_cons_zero, List.set_cons_succ]
    refine wpAnyH_take (i := 5) (oi := { dst := some 19, op := _, type := _, pos := _, after := _, guard := _ }) (v := ?v6) rfl (by kernel_rfl) (by kernel_rfl) (by kernel_rfl) (fun _ _ _ h => h) (Or.inl ⟨by rfl, ?hy6⟩) (by assumption) ?rest6
    case hy6 => (intro w hSw; obtain ⟨p0,p1⟩ := hSw; go_simp; try with_reducible rfl)
    try simp only [Act.put, List.setIfInBounds_toArray, List.set_cons_zero, List.set_cons_succ]
    refine wpAnyH_take (i := 6) (oi := { dst := some 20, op := _, type := _, pos := _, after := _, guard := _ }) (v := ?v7) rfl (by kernel_rfl) (by kernel_rfl) (by kernel_rfl) (fun _ _ _ h => h) (Or.inl ⟨by rfl, ?hy7⟩) (by assumption) ?rest7
    case hy7 => (intro w hSw; obtain ⟨p0,p1⟩ := hSw; go_simp; try with_reducible rfl)
    try simp only [Act.put, List.setIfInBounds_toArray, List.set_cons_zero, List.set_cons_succ]
    refine wpAnyH_take (i := 7) (oi := { dst := some 21, op := _, type := _, pos := _, after := _, guard := _ }) (v := ?v8) rfl (by kernel_rfl) (by kernel_rfl) (by kernel_rfl) (fun _ _ _ h => h) (Or.inl ⟨by rfl, ?hy8⟩) (by assumption) ?rest8
    case hy8 => (intro w hSw; obtain ⟨p0,p1⟩ := hSw; go_simp; try with_reducible rfl)
    try simp only [Act.put, List.setIfInBounds_toArray, List.set_cons_zero, List.set_cons_succ]
    refine wpAnyH_take (i := 8) (oi := { dst := some 22, op := _, type := _, pos := _, after := _, guard := _ }) (v := (.int .i64 (m : Int))) rfl (by kernel_rfl) (by kernel_rfl) (by kernel_rfl) (fun _ _ _ h => h) (Or.inl ⟨by rfl, ?hy9⟩) (by assumption) ?rest9
    case hy9 => (intro w hSw; obtain ⟨p0,p1⟩ := hSw; first | (go_simp; done) | (go_simp; simp [*]; done) | (simp [*]; go_simp; done))
    try simp only [Act.put, List.setIfInBounds_toArray, List.set_cons_zero, List.set_cons_succ]
    refine wpAnyH_take (i := 9) (oi := { dst := some 23, op := _, type := _, pos := _, after := _, guard := _ }) (v := (.bool true)) rfl (by kernel_rfl) (by kernel_rfl) (by kernel_rfl) (fun _ _ _ h => h) (Or.inl ⟨by rfl, ?hy10⟩) (by assumption) ?rest10
    case hy10 => (intro w hSw; obtain ⟨p0,p1⟩ := hSw; first | (go_simp; done) | (go_simp; simp [*]; done) | (simp [*]; go_simp; done))
    try simp only [Act.put, List.setIfInBounds_toArray, List.set_cons_zero, List.set_cons_succ]
    refine wpAnyH_done (by kernel_rfl) ?_ _
    clear hHeld
    go_wp2
    first | exact HD.out | (go_ret; exact HD.out)
  · have hle : decide ((qn : Int) ≤ (m : Int)) = false := decide_eq_false (by omega)
    have hle' : ¬ (qn : Int) ≤ (m : Int) := by omega
    have hml : m < q.length := by have := HA.out; omega
    obtain ⟨x, hx⟩ : ∃ x, q[m]? = some x := ⟨_, List.getElem?_eq_getElem hml⟩
    obtain ⟨x1, x2⟩ := x
    have mT := takeOut_any w3.drew.drew b m m _ q (x1, x2) P3.out hx (by have := HA.out; omega)
    rw [HA.out.2.2.2] at mT
    unfold agE at mT
    dsimp only at mT
    have MT := keep mT
    have HD : Kept (∀ w4, (∃ v', Pl w4 b v' m (q.take m ++ q.drop (m + 1)) ∧ Fm (bl b (.slice (some ⟨g, 0, none⟩) qn cp)) w3.drew.drew (bl b v') w4) → (w4.cell? ⟨b, 0, none⟩ = some (.int .i64 (m : Int)) ∧ w4.cell? ⟨w.heap.size, 0, none⟩ = some (.string c1) ∧ w4.cell? ⟨w.heap.size, 1, none⟩ = some (.int .u64 c2)) ∧
        Did w b m v (q.take m) (.bool (offB m (c1, c2) l)) (.returned (.bool (!eqE (x1, x2) (c1, c2)))) w4) := by
      rintro w4 ⟨v4, p4, f4⟩
      obtain ⟨e1, e2⟩ := f4.keeps (k := w.heap.size) HH.out.2.2 HH.out.1
      obtain ⟨u0, u1, _⟩ := cells_two (e1.trans HH.out.2.1)
      rw [List.drop_of_length_le (by have := HA.out; omega), List.append_nil] at p4
      refine ⟨⟨p4.cells.1, u0, u1⟩, ?_⟩
      rw [OB.out, hx]
      exact ⟨rfl, v4, p4, F3.out.trans f4⟩
    have und := und_cd
    have stood := stood_cd
    have gua := guard_cd
    have S2 : Kept (w3.drew.drew.cell? ⟨b, 0, none⟩ = some (.int .i64 (m : Int)) ∧ w3.drew.drew.cell? ⟨w.heap.size, 0, none⟩ = some (.string c1) ∧ w3.drew.drew.cell? ⟨w.heap.size, 1, none⟩ = some (.int .u64 c2)) := ⟨k0, d0, d1⟩
    have nr := ne_run (x1, x2) (c1, c2)
    dsimp only at nr
    generalize eqE (x1, x2) (c1, c2) = r at *
    have hfit' : m < qn := by omega
    clear mT hx hml
    go_wp2_with fail
    refine wp_region_held_drew (S := fun W => W.cell? ⟨b, 0, none⟩ = some (.int .i64 (m : Int)) ∧ W.cell? ⟨b, 1, none⟩ = some (.slice (some ⟨g, 0, none⟩) qn cp)) (by kernel_rfl) S1.out (fun hHeld => ?_)
    refine wpAnyH_take (i := 0) (oi := { dst := some 14, op := _, type := _, pos := _, after := _, guard := _ }) (v := ?v11) rfl (by kernel_rfl) (by kernel_rfl) (by kernel_rfl) (fun _ _ _ h => h) (Or.inl ⟨by rfl, ?hy11⟩) (by assumption) ?rest11
    case hy11 => (intro w hSw; obtain ⟨p0,p1⟩ := hSw; go_simp; try with_reducible rfl)
    try simp only [Act.put, List.setIfInBounds_toArray, List.set_cons_zero, List.set_cons_succ]
    refine wpAnyH_take (i := 1) (oi := { dst := some 15, op := _, type := _, pos := _, after := _, guard := _ }) (v := ?v12) rfl (by kernel_rfl) (by kernel_rfl) (by kernel_rfl) (fun _ _ _ h => h) (Or.inl ⟨by rfl, ?hy12⟩) (by assumption) ?rest12
    case hy12 => (intro w hSw; obtain ⟨p0,p1⟩ := hSw; go_simp; try with_reducible rfl)
    try simp only [Act.put, List.setIfInBounds_toArray, List.set_cons_zero, List.set_cons_succ]
    refine wpAnyH_take (i := 2) (oi := { dst := some 16, op := _, type := _, pos := _, after := _, guard := _ }) (v := ?v13) rfl (by kernel_rfl) (by kernel_rfl) (by kernel_rfl) (fun _ _ _ h => h) (Or.inl ⟨by rfl, ?hy13⟩) (by assumption) ?rest13
    case hy13 => (intro w hSw; obtain ⟨p0,p1⟩ := hSw; go_simp; try with_reducible rfl)
    try simp only [Act.put, List.setIfInBounds_toArray, List.set_cons_zero, List.set_cons_succ]
    refine wpAnyH_take (i := 3) (oi := { dst := some 17, op := _, type := _, pos := _, after := _, guard := _ }) (v := (.slice (some ⟨g, 0, none⟩) qn cp)) rfl (by kernel_rfl) (by kernel_rfl) (by kernel_rfl) (fun _ _ _ h => h) (Or.inl ⟨by rfl, ?hy14⟩) (by assumption) ?rest14
    case hy14 => (intro w hSw; obtain ⟨p0,p1⟩ := hSw; first | (go_simp; done) | (go_simp; simp [*]; done) | (simp [*]; go_simp; done))
    try simp only [Act.put, List.setIfInBounds_toArray, List.set_cons_zero, List.set_cons_succ]
    refine wpAnyH_take (i := 4) (oi := { dst := some 18, op := _, type := _, pos := _, after := _, guard := _ }) (v := (.int .i64 (qn : Int))) rfl (by kernel_rfl) (by kernel_rfl) (by kernel_rfl) (fun _ _ _ h => h) (Or.inl ⟨by rfl, ?hy15⟩) (by assumption) ?rest15
    case hy15 => (intro w hSw; obtain ⟨p0,p1⟩ := hSw; first | (go_simp; done) | (go_simp; simp [*]; done) | (simp [*]; go_simp; done))
    try simp only [Act.put, List.setIfInBounds_toArray, List.set_cons_zero, List.set_cons_succ]
    refine wpAnyH_take (i := 5) (oi := { dst := some 19, op := _, type := _, pos := _, after := _, guard := _ }) (v := ?v16) rfl (by kernel_rfl) (by kernel_rfl) (by kernel_rfl) (fun _ _ _ h => h) (Or.inl ⟨by rfl, ?hy16⟩) (by assumption) ?rest16
    case hy16 => (intro w hSw; obtain ⟨p0,p1⟩ := hSw; go_simp; try with_reducible rfl)
    try simp only [Act.put, List.setIfInBounds_toArray, List.set_cons_zero, List.set_cons_succ]
    refine wpAnyH_take (i := 6) (oi := { dst := some 20, op := _, type := _, pos := _, after := _, guard := _ }) (v := ?v17) rfl (by kernel_rfl) (by kernel_rfl) (by kernel_rfl) (fun _ _ _ h => h) (Or.inl ⟨by rfl, ?hy17⟩) (by assumption) ?rest17
    case hy17 => (intro w hSw; obtain ⟨p0,p1⟩ := hSw; go_simp; try with_reducible rfl)
    try simp only [Act.put, List.setIfInBounds_toArray, List.set_cons_zero, List.set_cons_succ]
    refine wpAnyH_take (i := 7) (oi := { dst := some 21, op := _, type := _, pos := _, after := _, guard := _ }) (v := ?v18) rfl (by kernel_rfl) (by kernel_rfl) (by kernel_rfl) (fun _ _ _ h => h) (Or.inl ⟨by rfl, ?hy18⟩) (by assumption) ?rest18
    case hy18 => (intro w hSw; obtain ⟨p0,p1⟩ := hSw; go_simp; try with_reducible rfl)
    try simp only [Act.put, List.setIfInBounds_toArray, List.set_cons_zero, List.set_cons_succ]
    refine wpAnyH_take (i := 8) (oi := { dst := some 22, op := _, type := _, pos := _, after := _, guard := _ }) (v := (.int .i64 (m : Int))) rfl (by kernel_rfl) (by kernel_rfl) (by kernel_rfl) (fun _ _ _ h => h) (Or.inl ⟨by rfl, ?hy19⟩) (by assumption) ?rest19
    case hy19 => (intro w hSw; obtain ⟨p0,p1⟩ := hSw; first | (go_simp; done) | (go_simp; simp [*]; done) | (simp [*]; go_simp; done))
    try simp only [Act.put, List.setIfInBounds_toArray, List.set_cons_zero, List.set_cons_succ]
    refine wpAnyH_take (i := 9) (oi := { dst := some 23, op := _, type := _, pos := _, after := _, guard := _ }) (v := (.bool false)) rfl (by kernel_rfl) (by kernel_rfl) (by kernel_rfl) (fun _ _ _ h => h) (Or.inl ⟨by rfl, ?hy20⟩) (by assumption) ?rest20
    case hy20 => (intro w hSw; obtain ⟨p0,p1⟩ := hSw; first | (go_simp; done) | (go_simp; simp [*]; done) | (simp [*]; go_simp; done))
    try simp only [Act.put, List.setIfInBounds_toArray, List.set_cons_zero, List.set_cons_succ]
    refine wpAnyH_done (by kernel_rfl) ?_ _
    clear hHeld
    go_wp2_with fail
    refine wp_region_held_drew (S := fun W => W.cell? ⟨b, 0, none⟩ = some (.int .i64 (m : Int)) ∧ W.cell? ⟨w.heap.size, 0, none⟩ = some (.string c1) ∧ W.cell? ⟨w.heap.size, 1, none⟩ = some (.int .u64 c2)) (by kernel_rfl) S2.out (fun hHeld => ?_)
    refine wpAnyH_take (i := 0) (oi := { dst := some 24, op := _, type := _, pos := _, after := _, guard := _ }) (v := ?v21) rfl (by kernel_rfl) (by kernel_rfl) (by kernel_rfl) (fun _ _ _ h => h) (Or.inl ⟨by rfl, ?hy21⟩) (by assumption) ?rest21
    case hy21 => (intro w hSw; obtain ⟨p0,p1,p2⟩ := hSw; go_simp; try with_reducible rfl)
    try simp only [Act.put, List.setIfInBounds_toArray, List.set_cons_zero, List.set_cons_succ]
    refine wpAnyH_take (i := 1) (oi := { dst := some 25, op := _, type := _, pos := _, after := _, guard := _ }) (v := ?v22) rfl (by kernel_rfl) (by kernel_rfl) (by kernel_rfl) (fun _ _ _ h => h) (Or.inl ⟨by rfl, ?hy22⟩) (by assumption) ?rest22
    case hy22 => (intro w hSw; obtain ⟨p0,p1,p2⟩ := hSw; go_simp; try with_reducible rfl)
    try simp only [Act.put, List.setIfInBounds_toArray, List.set_cons_zero, List.set_cons_succ]
    refine wpAnyH_take (i := 2) (oi := { dst := some 26, op := _, type := _, pos := _, after := _, guard := _ }) (v := ?v23) rfl (by kernel_rfl) (by kernel_rfl) (by kernel_rfl) (fun _ _ _ h => h) (Or.inl ⟨by rfl, ?hy23⟩) (by assumption) ?rest23
    case hy23 => (intro w hSw; obtain ⟨p0,p1,p2⟩ := hSw; go_simp; try with_reducible rfl)
    try simp only [Act.put, List.setIfInBounds_toArray, List.set_cons_zero, List.set_cons_succ]
    refine wpAnyH_take (i := 3) (oi := { dst := some 27, op := _, type := _, pos := _, after := _, guard := _ }) (v := ?v24) rfl (by kernel_rfl) (by kernel_rfl) (by kernel_rfl) (fun _ _ _ h => h) (Or.inl ⟨by rfl, ?hy24⟩) (by assumption) ?rest24
    case hy24 => (intro w hSw; obtain ⟨p0,p1,p2⟩ := hSw; go_simp; try with_reducible rfl)
    try simp only [Act.put, List.setIfInBounds_toArray, List.set_cons_zero, List.set_cons_succ]
    refine wpAnyH_take (i := 4) (oi := { dst := some 28, op := _, type := _, pos := _, after := _, guard := _ }) (v := (.int .i64 (m : Int))) rfl (by kernel_rfl) (by kernel_rfl) (by kernel_rfl) (fun _ _ _ h => h) (Or.inl ⟨by rfl, ?hy25⟩) (by assumption) ?rest25
    case hy25 => (intro w hSw; obtain ⟨p0,p1,p2⟩ := hSw; first | (go_simp; done) | (go_simp; simp [*]; done) | (simp [*]; go_simp; done))
    try simp only [Act.put, List.setIfInBounds_toArray, List.set_cons_zero, List.set_cons_succ]
    refine wpAnyH_take (i := 6) (oi := { dst := some 30, op := _, type := _, pos := _, after := _, guard := _ }) (v := (.agg #[.string c1, .int .u64 c2])) rfl (by kernel_rfl) (by kernel_rfl) (by kernel_rfl) (fun _ _ _ h => h) (Or.inl ⟨by rfl, ?hy26⟩) (by assumption) ?rest26
    case hy26 => (intro w hSw; obtain ⟨p0,p1,p2⟩ := hSw; first | (go_simp; done) | (go_simp; simp [*]; done) | (simp [*]; go_simp; done))
    try simp only [Act.put, List.setIfInBounds_toArray, List.set_cons_zero, List.set_cons_succ]
    refine wpAnyH_ready (rs := [5]) (by kernel_rfl) (by simp) ?_
    refine AllReadyH.cons (o := { dst := some 29, op := _, type := _, pos := _, after := _, guard := _ }) rfl (fun K hK => ?_) AllReadyH.nil
    go_simp
    refine MT.out.mono ?_
    rintro _ w4 ⟨rfl, hh⟩
    obtain ⟨s4, hd⟩ := HD.out w4 hh
    have HD4 := keep hd
    refine hK.out _ _ s4 (fun hHeld => ?_)
    try simp only [Act.put, List.setIfInBounds_toArray, List.set_cons_zero, List.set_cons_succ]
    clear hK hd hh HD MT
    refine wpAnyH_take (i := 7) (oi := { dst := some 31, op := _, type := _, pos := _, after := _, guard := _ }) (v := (.bool (!r))) rfl (by kernel_rfl) (by kernel_rfl) (by kernel_rfl) (fun _ _ _ h => h) (Or.inl ⟨by rfl, ?hy27⟩) (by assumption) ?rest27
    case hy27 => (intro w hSw; first | (go_simp; done) | (go_simp; simp [*]; done) | (simp [*]; go_simp; done))
    try simp only [Act.put, List.setIfInBounds_toArray, List.set_cons_zero, List.set_cons_succ]
    refine wpAnyH_take (i := 8) (oi := { dst := some 4, op := _, type := _, pos := _, after := _, guard := _ }) (v := ?v28) rfl (by kernel_rfl) (by kernel_rfl) (by kernel_rfl) (fun _ _ _ h => h) (Or.inl ⟨by rfl, ?hy28⟩) (by assumption) ?rest28
    case hy28 => (intro w hSw; go_simp; try with_reducible rfl)
    try simp only [Act.put, List.setIfInBounds_toArray, List.set_cons_zero, List.set_cons_succ]
    refine wpAnyH_done (by kernel_rfl) ?_ _
    clear hHeld
    go_wp2
    first | exact HD4.out | (go_ret; exact HD4.out)
end Go.Proofs.YthmmblohfjmbcaaGreat.DV
