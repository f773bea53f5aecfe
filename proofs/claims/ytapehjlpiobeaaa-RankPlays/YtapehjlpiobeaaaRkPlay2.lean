/-
  Contracts over this program: a step answers what the document says (the statements' own plays).
-/
import Derived.Test.YtapehjlpiobeaaaRkPlay1
import Derived.Deep.CutRange
namespace Go.Proofs.Ytapehjlpiobeaaa
open Go.RowKit Go.Shelf
set_option linter.unusedVariables false
set_option linter.unusedSimpArgs false
set_option maxRecDepth 100000
/-- a region that ends in one way -/
def At (aa : Act) (ww : World) : Exit → Act → World → Prop
  | .normal, a, w => a = aa ∧ w = ww
  | _, _, _ => False
theorem wp_at {P : Program} {c : Code} {Q : Exit → Act → World → Prop} {a : Act} {w : World} (aa : Act) (ww : World) (h : c.wp P (At aa ww) a w) (hq : Q .normal aa ww) : c.wp P Q a w :=
  Code.wp_mono (fun e a' w' h => by
    cases e
    case normal => obtain ⟨rfl, rfl⟩ := h; exact hq
    all_goals exact (h : False).elim) h
def Pld (w : World) (O : Nat → Prop) (R seed b : Nat) (v : Value) (e : Ending) (w' : World) : Prop := e = .returned (.bool true) ∧ Fin w O R seed b v w'
theorem Fin.from {w W1 w2 : World} {O : Nat → Prop} {R seed b : Nat} {v : Value} (hb : Below w.heap.size w W1) (h : Fin W1 O R seed b v w2) : Fin w O R seed b v w2 := by
  obtain ⟨O', L', v', M', h1, h2⟩ := h
  exact ⟨O', L', v', M', h1, (FO.below hb).trans h2⟩
theorem step_all {w : World} {b : Nat} {v0 v1 v2 v3 v4 v5 v6 v7 v8 : Value} {t : TypeId} (h : w.heap[b]? = some (.cells #[v0, v1, v2, v3, v4, v5, v6, v7, v8] t (0, 0))) :
    w.cell? ⟨b, 1, none⟩ = some v1 ∧ w.cell? ⟨b, 2, none⟩ = some v2 ∧ w.cell? ⟨b, 3, none⟩ = some v3 ∧ w.cell? ⟨b, 4, none⟩ = some v4 ∧ w.cell? ⟨b, 5, none⟩ = some v5 ∧ w.cell? ⟨b, 6, none⟩ = some v6 ∧ w.cell? ⟨b, 7, none⟩ = some v7 ∧ w.cell? ⟨b, 8, none⟩ = some v8 := by
  refine ⟨?_, ?_, ?_, ?_, ?_, ?_, ?_, ?_⟩ <;> simp [World.cell?, h]
set_option maxHeartbeats 16000000 in
theorem plays_any (w : World) (O : Nat → Prop) (R seed b : Nat) (v : Value) (L M : List Ent) (who dO sa sb : Int) (key : ByteArray) (x y : Nat) (ox oy : Bool) (h : Pr w O R seed L b v M) (hk : key.size ≤ maxLen) :
    Calls Try.prog 10 #[.pointer (some ⟨R, 0, none⟩), .pointer (some ⟨b, 0, none⟩), stV who dO sa sb key x y ox oy] w fun e w' => Pld w O R seed b v e w' := by
  have sf : ∀ (x : Nat) (w : World) (a : Addr), (store a (.float .f64 x)).run Try.prog w = stored Try.prog w a (.float .f64 x) .plain := fun x w a => run_store _ w a _ _ rfl
  have fb : ∀ w, (callFunc 26 #[.int .u64 (x : Int)]).run Try.prog w = .ok (.value (.float .f64 x)) w := fun w => by have := run_frombits (x : Int) w; simpa using this
  have fc : ∀ w, (callFunc 26 #[.int .u64 (y : Int)]).run Try.prog w = .ok (.value (.float .f64 y)) w := fun w => by have := run_frombits (y : Int) w; simpa using this
  obtain ⟨X, hX⟩ : ∃ X, w.heap.size = X := ⟨_, rfl⟩
  obtain ⟨W1, hW1⟩ : ∃ W1, w.alloc (.cells #[.int .i64 who, .int .i64 dO, .int .i64 sa, .int .i64 sb, .string key, .int .u64 (x : Int), .int .u64 (y : Int), .bool ox, .bool oy] 31) = W1 := ⟨_, rfl⟩
  have hb1 : Below w.heap.size w W1 := by rw [← hW1]; exact (Below.refl _ w).alloc (Nat.le_refl _) _
  have hs1 : W1.heap.size = X + 1 := by rw [← hW1, ← hX]; simp
  have g1 : W1.heap[X]? = some (.cells #[.int .i64 who, .int .i64 dO, .int .i64 sa, .int .i64 sb, .string key, .int .u64 (x : Int), .int .u64 (y : Int), .bool ox, .bool oy] 31 (0, 0)) := by rw [← hW1, ← hX]; exact heap_alloc_new _ _
  have hXn : ¬ PO O b v X := fun hh => by
    rcases hh with hh | hh
    · have := h.rk.lt X hh; omega
    · have := h.rp.lt X hh; omega
  -- what holds of the step as long as its block stands
  have SX : Kept (∀ wz : World, wz.heap[X]? = W1.heap[X]? → wz.cell? ⟨X, 1, none⟩ = some (.int .i64 dO) ∧ wz.cell? ⟨X, 2, none⟩ = some (.int .i64 sa) ∧ wz.cell? ⟨X, 3, none⟩ = some (.int .i64 sb) ∧ wz.cell? ⟨X, 4, none⟩ = some (.string key) ∧ wz.cell? ⟨X, 5, none⟩ = some (.int .u64 (x : Int)) ∧ wz.cell? ⟨X, 6, none⟩ = some (.int .u64 (y : Int)) ∧ wz.cell? ⟨X, 7, none⟩ = some (.bool ox) ∧ wz.cell? ⟨X, 8, none⟩ = some (.bool oy)) := fun wz hz => step_all (hz.trans g1)
  have HX : Kept (∀ (w1 w2 : World), w1.heap[X]? = W1.heap[X]? → X < w1.heap.size → (∀ k, k < w1.heap.size → ¬ PO O b v k → w2.heap[k]? = w1.heap[k]?) → w2.heap[X]? = W1.heap[X]?) := fun w1 w2 h1 h2 h3 => (h3 X h2 hXn).trans h1
  have HS1 : Kept (X < W1.heap.size) := by show X < _; omega
  have HP : Kept (∀ wz, Below W1.heap.size W1 wz → Pr wz O R seed L b v M ∧ Below w.heap.size w wz) := fun wz hb => ⟨(h.bel hb1).bel hb, Below.up hb1 hb⟩
  have HK := keep hk
  have HF : Kept (∀ wz w2, Below W1.heap.size W1 wz → Fin wz O R seed b v w2 → Pld w O R seed b v (.returned (.bool true)) w2) := fun wz w2 hb hf => ⟨rfl, Fin.from (Below.up hb1 hb) hf⟩
  obtain ⟨c1, c2, c3, c4, c5, c6, c7, c8⟩ := SX.out W1 rfl
  unfold stV
  clear h hk hb1 hs1 g1 hXn
  by_cases a0 : dO = 0
  · subst a0
    obtain ⟨i, c, hp⟩ := pair_set (HP.out W1.drew (Below.refl _ W1).drew).1 key HK.out x
    have MS := keep hp
    unfold Pair2 at MS
    have SL : Kept (W1.drew.cell? ⟨X, 4, none⟩ = some (.string key) ∧ W1.drew.cell? ⟨X, 5, none⟩ = some (.int .u64 (x : Int))) := ⟨c4, c5⟩
    clear hp c2 c3 c6 c7 c8
    go_enter Try.func10, Try.ntmps10
    go_wp2_with fail
    refine wp_region_held_drew (S := fun W => W.cell? ⟨X, 4, none⟩ = some (.string key) ∧ W.cell? ⟨X, 5, none⟩ = some (.int .u64 (x : Int))) (by kernel_rfl) SL.out (fun hHeld => ?_)
    refine wpAnyH_take (i := 0) (oi := { dst := some 31, op := _, type := _, pos := _, after := _, guard := _ }) (v := ?v1) rfl (by kernel_rfl) (by kernel_rfl) (by kernel_rfl) (fun _ _ _ h => h) (Or.inl ⟨by rfl, ?hy1⟩) (by assumption) ?rest1
    case hy1 => (intro w hSw; obtain ⟨p0,p1⟩ := hSw; go_simp; try with_reducible rfl)
    try simp only [Act.put, List.setIfInBounds_toArray, List.set_cons_zero, List.set_cons_succ]
    refine wpAnyH_take (i := 1) (oi := { dst := some 32, op := _, type := _, pos := _, after := _, guard := _ }) (v := ?v2) rfl (by kernel_rfl) (by kernel_rfl) (by kernel_rfl) (fun _ _ _ h => h) (Or.inl ⟨by rfl, ?hy2⟩) (by assumption) ?rest2
    case hy2 => (intro w hSw; obtain ⟨p0,p1⟩ := hSw; go_simp; try with_reducible rfl)
    try simp only [Act.put, List.setIfInBounds_toArray, List.set_cons_zero, List.set_cons_succ]
    refine wpAnyH_take (i := 2) (oi := { dst := some 33, op := _, type := _, pos := _, after := _, guard := _ }) (v := (.string key)) rfl (by kernel_rfl) (by kernel_rfl) (by kernel_rfl) (fun _ _ _ h => h) (Or.inl ⟨by rfl, ?hy3⟩) (by assumption) ?rest3
    case hy3 => (intro w hSw; obtain ⟨p0,p1⟩ := hSw; first | (go_simp; done) | (go_simp; simp [*]; done) | (simp [*]; go_simp; done))
    try simp only [Act.put, List.setIfInBounds_toArray, List.set_cons_zero, List.set_cons_succ]
    refine wpAnyH_take (i := 3) (oi := { dst := some 34, op := _, type := _, pos := _, after := _, guard := _ }) (v := ?v4) rfl (by kernel_rfl) (by kernel_rfl) (by kernel_rfl) (fun _ _ _ h => h) (Or.inl ⟨by rfl, ?hy4⟩) (by assumption) ?rest4
    case hy4 => (intro w hSw; obtain ⟨p0,p1⟩ := hSw; go_simp; try with_reducible rfl)
    try simp only [Act.put, List.setIfInBounds_toArray, List.set_cons_zero, List.set_cons_succ]
    refine wpAnyH_take (i := 4) (oi := { dst := some 35, op := _, type := _, pos := _, after := _, guard := _ }) (v := (.int .u64 (x : Int))) rfl (by kernel_rfl) (by kernel_rfl) (by kernel_rfl) (fun _ _ _ h => h) (Or.inl ⟨by rfl, ?hy5⟩) (by assumption) ?rest5
    case hy5 => (intro w hSw; obtain ⟨p0,p1⟩ := hSw; first | (go_simp; done) | (go_simp; simp [*]; done) | (simp [*]; go_simp; done))
    try simp only [Act.put, List.setIfInBounds_toArray, List.set_cons_zero, List.set_cons_succ]
    refine wpAnyH_ready (rs := [5]) (by kernel_rfl) (by simp) ?_
    refine AllReadyH.cons (o := { dst := some 36, op := _, type := _, pos := _, after := _, guard := _ }) rfl (fun K hK => ?_) AllReadyH.nil
    go_simp
    refine hK.out _ _ SL.out (fun hHeld => ?_)
    try simp only [Act.put, List.setIfInBounds_toArray, List.set_cons_zero, List.set_cons_succ]
    clear hK
    refine wpAnyH_ready (rs := [6]) (by kernel_rfl) (by simp) ?_
    refine AllReadyH.cons (o := { dst := some 37, op := _, type := _, pos := _, after := _, guard := _ }) rfl (fun K hK => ?_) AllReadyH.nil
    go_simp
    refine MS.out.mono ?_
    rintro _ w2 ⟨rfl, n2, s2, nx2⟩
    have x2 := HX.out W1.drew w2 rfl HS1.out n2
    have SL2 : Kept (w2.cell? ⟨X, 4, none⟩ = some (.string key) ∧ w2.cell? ⟨X, 5, none⟩ = some (.int .u64 (x : Int))) := ⟨(SX.out w2 x2).2.2.2.1, (SX.out w2 x2).2.2.2.2.1⟩
    refine hK.out _ _ SL2.out (fun hHeld => ?_)
    try simp only [Act.put, List.setIfInBounds_toArray, List.set_cons_zero, List.set_cons_succ]
    clear hK MS n2 s2 x2
    refine wpAnyH_take (i := 7) (oi := { dst := some 30, op := _, type := _, pos := _, after := _, guard := _ }) (v := ?v6) rfl (by kernel_rfl) (by kernel_rfl) (by kernel_rfl) (fun _ _ _ h => h) (Or.inl ⟨by rfl, ?hy6⟩) (by assumption) ?rest6
    case hy6 => (intro w hSw; go_simp; try with_reducible rfl)
    try simp only [Act.put, List.setIfInBounds_toArray, List.set_cons_zero, List.set_cons_succ]
    refine wpAnyH_take (i := 8) (oi := { dst := some 38, op := _, type := _, pos := _, after := _, guard := _ }) (v := ?v7) rfl (by kernel_rfl) (by kernel_rfl) (by kernel_rfl) (fun _ _ _ h => h) (Or.inl ⟨by rfl, ?hy7⟩) (by assumption) ?rest7
    case hy7 => (intro w hSw; go_simp; try with_reducible rfl)
    try simp only [Act.put, List.setIfInBounds_toArray, List.set_cons_zero, List.set_cons_succ]
    refine wpAnyH_take (i := 9) (oi := { dst := some 39, op := _, type := _, pos := _, after := _, guard := _ }) (v := ?v8) rfl (by kernel_rfl) (by kernel_rfl) (by kernel_rfl) (fun _ _ _ h => h) (Or.inl ⟨by rfl, ?hy8⟩) (by assumption) ?rest8
    case hy8 => (intro w hSw; go_simp; try with_reducible rfl)
    try simp only [Act.put, List.setIfInBounds_toArray, List.set_cons_zero, List.set_cons_succ]
    refine wpAnyH_take (i := 10) (oi := { dst := some 7, op := _, type := _, pos := _, after := _, guard := _ }) (v := ?v9) rfl (by kernel_rfl) (by kernel_rfl) (by kernel_rfl) (fun _ _ _ h => h) (Or.inl ⟨by rfl, ?hy9⟩) (by assumption) ?rest9
    case hy9 => (intro w hSw; go_simp; try with_reducible rfl)
    try simp only [Act.put, List.setIfInBounds_toArray, List.set_cons_zero, List.set_cons_succ]
    refine wpAnyH_take (i := 11) (oi := { dst := some 8, op := _, type := _, pos := _, after := _, guard := _ }) (v := ?v10) rfl (by kernel_rfl) (by kernel_rfl) (by kernel_rfl) (fun _ _ _ h => h) (Or.inl ⟨by rfl, ?hy10⟩) (by assumption) ?rest10
    case hy10 => (intro w hSw; go_simp; try with_reducible rfl)
    try simp only [Act.put, List.setIfInBounds_toArray, List.set_cons_zero, List.set_cons_succ]
    refine wpAnyH_done (by kernel_rfl) ?_ _
    clear hHeld
    have MT := keep (nx2 w2.drew (Below.refl _ w2).drew)
    clear nx2
    go_wp2_with fail
    refine wp_region_held_drew (S := fun W => W.cell? ⟨X, 4, none⟩ = some (.string key) ∧ W.cell? ⟨X, 5, none⟩ = some (.int .u64 (x : Int))) (by kernel_rfl) SL2.out (fun hHeld => ?_)
    refine wpAnyH_take (i := 0) (oi := { dst := some 41, op := _, type := _, pos := _, after := _, guard := _ }) (v := ?v11) rfl (by kernel_rfl) (by kernel_rfl) (by kernel_rfl) (fun _ _ _ h => h) (Or.inl ⟨by rfl, ?hy11⟩) (by assumption) ?rest11
    case hy11 => (intro w hSw; obtain ⟨p0,p1⟩ := hSw; go_simp; try with_reducible rfl)
    try simp only [Act.put, List.setIfInBounds_toArray, List.set_cons_zero, List.set_cons_succ]
    refine wpAnyH_take (i := 1) (oi := { dst := some 42, op := _, type := _, pos := _, after := _, guard := _ }) (v := ?v12) rfl (by kernel_rfl) (by kernel_rfl) (by kernel_rfl) (fun _ _ _ h => h) (Or.inl ⟨by rfl, ?hy12⟩) (by assumption) ?rest12
    case hy12 => (intro w hSw; obtain ⟨p0,p1⟩ := hSw; go_simp; try with_reducible rfl)
    try simp only [Act.put, List.setIfInBounds_toArray, List.set_cons_zero, List.set_cons_succ]
    refine wpAnyH_take (i := 2) (oi := { dst := some 43, op := _, type := _, pos := _, after := _, guard := _ }) (v := (.string key)) rfl (by kernel_rfl) (by kernel_rfl) (by kernel_rfl) (fun _ _ _ h => h) (Or.inl ⟨by rfl, ?hy13⟩) (by assumption) ?rest13
    case hy13 => (intro w hSw; obtain ⟨p0,p1⟩ := hSw; first | (go_simp; done) | (go_simp; simp [*]; done) | (simp [*]; go_simp; done))
    try simp only [Act.put, List.setIfInBounds_toArray, List.set_cons_zero, List.set_cons_succ]
    refine wpAnyH_take (i := 3) (oi := { dst := some 44, op := _, type := _, pos := _, after := _, guard := _ }) (v := ?v14) rfl (by kernel_rfl) (by kernel_rfl) (by kernel_rfl) (fun _ _ _ h => h) (Or.inl ⟨by rfl, ?hy14⟩) (by assumption) ?rest14
    case hy14 => (intro w hSw; obtain ⟨p0,p1⟩ := hSw; go_simp; try with_reducible rfl)
    try simp only [Act.put, List.setIfInBounds_toArray, List.set_cons_zero, List.set_cons_succ]
    refine wpAnyH_take (i := 4) (oi := { dst := some 45, op := _, type := _, pos := _, after := _, guard := _ }) (v := (.int .u64 (x : Int))) rfl (by kernel_rfl) (by kernel_rfl) (by kernel_rfl) (fun _ _ _ h => h) (Or.inl ⟨by rfl, ?hy15⟩) (by assumption) ?rest15
    case hy15 => (intro w hSw; obtain ⟨p0,p1⟩ := hSw; first | (go_simp; done) | (go_simp; simp [*]; done) | (simp [*]; go_simp; done))
    try simp only [Act.put, List.setIfInBounds_toArray, List.set_cons_zero, List.set_cons_succ]
    refine wpAnyH_ready (rs := [5]) (by kernel_rfl) (by simp) ?_
    refine AllReadyH.cons (o := { dst := some 46, op := _, type := _, pos := _, after := _, guard := _ }) rfl (fun K hK => ?_) AllReadyH.nil
    go_simp
    refine hK.out _ _ SL2.out (fun hHeld => ?_)
    try simp only [Act.put, List.setIfInBounds_toArray, List.set_cons_zero, List.set_cons_succ]
    clear hK
    refine wpAnyH_ready (rs := [6]) (by kernel_rfl) (by simp) ?_
    refine AllReadyH.cons (o := { dst := some 47, op := _, type := _, pos := _, after := _, guard := _ }) rfl (fun K hK => ?_) AllReadyH.nil
    go_simp
    refine MT.out.mono ?_
    rintro _ w3 ⟨rfl, f3⟩
    have HD := keep (HF.out _ w3 (Below.refl _ W1).drew f3)
    obtain ⟨O3, L3, v3, M3, pr3, fo3⟩ := f3
    have x3 := HX.out W1.drew w3 rfl HS1.out (fun k hk hn => (fo3.2.2 k hk hn).1)
    have SL3 : Kept (w3.cell? ⟨X, 4, none⟩ = some (.string key) ∧ w3.cell? ⟨X, 5, none⟩ = some (.int .u64 (x : Int))) := ⟨(SX.out w3 x3).2.2.2.1, (SX.out w3 x3).2.2.2.2.1⟩
    refine hK.out _ _ SL3.out (fun hHeld => ?_)
    try simp only [Act.put, List.setIfInBounds_toArray, List.set_cons_zero, List.set_cons_succ]
    clear hK MT pr3 fo3 x3
    refine wpAnyH_take (i := 7) (oi := { dst := some 40, op := _, type := _, pos := _, after := _, guard := _ }) (v := ?v16) rfl (by kernel_rfl) (by kernel_rfl) (by kernel_rfl) (fun _ _ _ h => h) (Or.inl ⟨by rfl, ?hy16⟩) (by assumption) ?rest16
    case hy16 => (intro w hSw; go_simp; try with_reducible rfl)
    try simp only [Act.put, List.setIfInBounds_toArray, List.set_cons_zero, List.set_cons_succ]
    refine wpAnyH_take (i := 8) (oi := { dst := some 48, op := _, type := _, pos := _, after := _, guard := _ }) (v := ?v17) rfl (by kernel_rfl) (by kernel_rfl) (by kernel_rfl) (fun _ _ _ h => h) (Or.inl ⟨by rfl, ?hy17⟩) (by assumption) ?rest17
    case hy17 => (intro w hSw; go_simp; try with_reducible rfl)
    try simp only [Act.put, List.setIfInBounds_toArray, List.set_cons_zero, List.set_cons_succ]
    refine wpAnyH_take (i := 9) (oi := { dst := some 49, op := _, type := _, pos := _, after := _, guard := _ }) (v := ?v18) rfl (by kernel_rfl) (by kernel_rfl) (by kernel_rfl) (fun _ _ _ h => h) (Or.inl ⟨by rfl, ?hy18⟩) (by assumption) ?rest18
    case hy18 => (intro w hSw; go_simp; try with_reducible rfl)
    try simp only [Act.put, List.setIfInBounds_toArray, List.set_cons_zero, List.set_cons_succ]
    refine wpAnyH_take (i := 10) (oi := { dst := some 9, op := _, type := _, pos := _, after := _, guard := _ }) (v := ?v19) rfl (by kernel_rfl) (by kernel_rfl) (by kernel_rfl) (fun _ _ _ h => h) (Or.inl ⟨by rfl, ?hy19⟩) (by assumption) ?rest19
    case hy19 => (intro w hSw; go_simp; try with_reducible rfl)
    try simp only [Act.put, List.setIfInBounds_toArray, List.set_cons_zero, List.set_cons_succ]
    refine wpAnyH_take (i := 11) (oi := { dst := some 10, op := _, type := _, pos := _, after := _, guard := _ }) (v := ?v20) rfl (by kernel_rfl) (by kernel_rfl) (by kernel_rfl) (fun _ _ _ h => h) (Or.inl ⟨by rfl, ?hy20⟩) (by assumption) ?rest20
    case hy20 => (intro w hSw; go_simp; try with_reducible rfl)
    try simp only [Act.put, List.setIfInBounds_toArray, List.set_cons_zero, List.set_cons_succ]
    refine wpAnyH_done (by kernel_rfl) ?_ _
    clear hHeld
    go_wp2
    go_ret
    first | exact HD.out | simpa using HD.out
  · have a0b : (dO == 0) = false := beq_eq_false_iff_ne.2 a0
    by_cases a1 : dO = 1
    · subst a1
      obtain ⟨i, hp⟩ := pair_del (HP.out W1 (Below.refl _ W1)).1 key HK.out
      have MS := keep hp
      unfold Pair2 at MS
      clear hp c2 c3 c5 c6 c7 c8
      go_enter Try.func10, Try.ntmps10
      go_wp2_with fail
      refine MS.out.mono ?_
      rintro _ w2 ⟨rfl, n2, s2, nx2⟩
      have x2 := HX.out W1 w2 rfl HS1.out n2
      have d4 := (SX.out w2 x2).2.2.2.1
      have MT := keep (nx2 w2 (Below.refl _ w2))
      clear nx2 n2 s2 x2 MS c4
      go_wp2_with fail
      refine MT.out.mono ?_
      rintro _ w3 ⟨rfl, f3⟩
      have HD := keep (HF.out _ w3 (Below.refl _ W1) f3)
      clear f3 MT d4
      go_wp2
      go_ret
      first | exact HD.out | simpa using HD.out
    · have a1b : (dO == 1) = false := beq_eq_false_iff_ne.2 a1
      by_cases a2 : dO = 2
      · subst a2
        obtain ⟨xv, t, hp⟩ := pair_score (HP.out W1 (Below.refl _ W1)).1 key HK.out
        have MS := keep hp
        unfold Pair2 at MS
        clear hp c2 c3 c5 c6 c7 c8
        go_enter Try.func10, Try.ntmps10
        go_wp2_with fail
        refine MS.out.mono ?_
        rintro _ w2 ⟨rfl, n2, s2, nx2⟩
        have x2 := HX.out W1 w2 rfl HS1.out n2
        have d4 := (SX.out w2 x2).2.2.2.1
        have MT := keep (nx2 w2 (Below.refl _ w2))
        clear nx2 n2 s2 x2 MS c4
        go_wp2_with fail
        refine MT.out.mono ?_
        rintro _ w3 ⟨rfl, f3⟩
        have HD := keep (HF.out _ w3 (Below.refl _ W1) f3)
        clear f3 MT d4
        have mA := alike_any xv xv w3
        rw [alk_self] at mA
        have MA := keep mA
        clear mA
        go_wp2_with fail
        refine MA.out.mono ?_
        rintro _ wa ⟨rfl, hw⟩
        obtain rfl := hw.symm
        clear MA
        go_wp2
        go_ret
        first | exact HD.out | simpa using HD.out
      · have a2b : (dO == 2) = false := beq_eq_false_iff_ne.2 a2
        by_cases a3 : dO = 3
        · subst a3
          obtain ⟨n, t, hp⟩ := pair_rank (HP.out W1 (Below.refl _ W1)).1 key HK.out
          have MS := keep hp
          unfold Pair2 at MS
          clear hp c2 c3 c5 c6 c7 c8
          go_enter Try.func10, Try.ntmps10
          go_wp2_with fail
          refine MS.out.mono ?_
          rintro _ w2 ⟨rfl, n2, s2, nx2⟩
          have x2 := HX.out W1 w2 rfl HS1.out n2
          have d4 := (SX.out w2 x2).2.2.2.1
          have MT := keep (nx2 w2 (Below.refl _ w2))
          clear nx2 n2 s2 x2 MS c4
          go_wp2_with fail
          refine MT.out.mono ?_
          rintro _ w3 ⟨rfl, f3⟩
          have HD := keep (HF.out _ w3 (Below.refl _ W1) f3)
          clear f3 MT d4
          go_wp2
          go_ret
          first | exact HD.out | simpa using HD.out
        · have a3b : (dO == 3) = false := beq_eq_false_iff_ne.2 a3
          by_cases a4 : dO = 4
          · subst a4
            have MR := keep (row_any W1 O R seed b v L M sa sb (HP.out W1 (Below.refl _ W1)).1)
            clear c4 c5 c6 c7 c8
            go_enter Try.func10, Try.ntmps10
            go_wp2_with fail
            refine MR.out.mono ?_
            rintro _ w2 ⟨rfl, b2⟩
            have HD := keep (HF.out W1 w2 (Below.refl _ W1) (fin_bel (HP.out W1 (Below.refl _ W1)).1 b2))
            clear b2 MR
            go_wp2
            go_ret
            exact HD.out
          · have a4b : (dO == 4) = false := beq_eq_false_iff_ne.2 a4
            by_cases a5 : dO = 5
            · subst a5
              obtain ⟨D1, hD1⟩ : ∃ D, W1.heap.size = D := ⟨_, rfl⟩
              obtain ⟨V1, hV1⟩ : ∃ V, W1.drew.alloc (.cells #[.float .f64 0, .bool false] 74) = V := ⟨_, rfl⟩
              have gV1 : V1.heap[D1]? = some (.cells #[.float .f64 0, .bool false] 74 (0, 0)) := by rw [← hV1, ← hD1]; exact heap_alloc_new W1.drew _
              obtain ⟨y01, y11, yz1⟩ := two_c0 gV1
              have bV1 : Below W1.heap.size W1 V1 := by rw [← hV1]; exact (Below.refl _ W1).drew.alloc (Nat.le_refl _) _
              obtain ⟨U1, hU1⟩ : ∃ U, (V1.setCell ⟨D1, 0, none⟩ (.float .f64 x)).setCell ⟨D1, 1, none⟩ (.bool ox) = U := ⟨_, rfl⟩
              have bU1 : Below W1.heap.size W1 U1 := by rw [← hU1]; exact (bV1.setCell (by rw [hD1]; exact Nat.le_refl _) _).setCell (by rw [hD1]; exact Nat.le_refl _) _
              have gU1 : U1.heap[D1]? = some (.cells #[.float .f64 x, .bool ox] 74 (0, 0)) := by rw [← hU1]; exact cellsSet (cellsSet gV1)
              have SL1 : Kept (W1.drew.cell? ⟨X, 5, none⟩ = some (.int .u64 (x : Int)) ∧ W1.drew.cell? ⟨X, 7, none⟩ = some (.bool ox)) := ⟨(SX.out W1.drew rfl).2.2.2.2.1, (SX.out W1.drew rfl).2.2.2.2.2.2.1⟩
              have eV1 : V1.heap[X]? = W1.heap[X]? := bV1.block X HS1.out
              have eU1 : U1.heap[X]? = W1.heap[X]? := bU1.block X HS1.out
              have SV1 : Kept (V1.cell? ⟨X, 5, none⟩ = some (.int .u64 (x : Int)) ∧ V1.cell? ⟨X, 7, none⟩ = some (.bool ox)) := ⟨(SX.out V1 eV1).2.2.2.2.1, (SX.out V1 eV1).2.2.2.2.2.2.1⟩
              have SU1 : Kept (U1.cell? ⟨X, 5, none⟩ = some (.int .u64 (x : Int)) ∧ U1.cell? ⟨X, 7, none⟩ = some (.bool ox)) := ⟨(SX.out U1 eU1).2.2.2.2.1, (SX.out U1 eU1).2.2.2.2.2.2.1⟩
              obtain ⟨D2, hD2⟩ : ∃ D, U1.heap.size = D := ⟨_, rfl⟩
              obtain ⟨V2, hV2⟩ : ∃ V, U1.drew.alloc (.cells #[.float .f64 0, .bool false] 74) = V := ⟨_, rfl⟩
              have gV2 : V2.heap[D2]? = some (.cells #[.float .f64 0, .bool false] 74 (0, 0)) := by rw [← hV2, ← hD2]; exact heap_alloc_new U1.drew _
              obtain ⟨y02, y12, yz2⟩ := two_c0 gV2
              have bV2 : Below U1.heap.size U1 V2 := by rw [← hV2]; exact (Below.refl _ U1).drew.alloc (Nat.le_refl _) _
              obtain ⟨U2, hU2⟩ : ∃ U, (V2.setCell ⟨D2, 0, none⟩ (.float .f64 y)).setCell ⟨D2, 1, none⟩ (.bool oy) = U := ⟨_, rfl⟩
              have bU2 : Below U1.heap.size U1 U2 := by rw [← hU2]; exact (bV2.setCell (by rw [hD2]; exact Nat.le_refl _) _).setCell (by rw [hD2]; exact Nat.le_refl _) _
              have gU2 : U2.heap[D2]? = some (.cells #[.float .f64 y, .bool oy] 74 (0, 0)) := by rw [← hU2]; exact cellsSet (cellsSet gV2)
              have HX1 : X < U1.heap.size := Nat.lt_of_lt_of_le HS1.out bU1.size
              have eV2 : V2.heap[X]? = W1.heap[X]? := (bV2.block X HX1).trans eU1
              have eU2 : U2.heap[X]? = W1.heap[X]? := (bU2.block X HX1).trans eU1
              have SL2 : Kept (U1.drew.cell? ⟨X, 6, none⟩ = some (.int .u64 (y : Int)) ∧ U1.drew.cell? ⟨X, 8, none⟩ = some (.bool oy)) := ⟨(SX.out U1.drew eU1).2.2.2.2.2.1, (SX.out U1.drew eU1).2.2.2.2.2.2.2⟩
              have SV2 : Kept (V2.cell? ⟨X, 6, none⟩ = some (.int .u64 (y : Int)) ∧ V2.cell? ⟨X, 8, none⟩ = some (.bool oy)) := ⟨(SX.out V2 eV2).2.2.2.2.2.1, (SX.out V2 eV2).2.2.2.2.2.2.2⟩
              have SU2 : Kept (U2.cell? ⟨X, 6, none⟩ = some (.int .u64 (y : Int)) ∧ U2.cell? ⟨X, 8, none⟩ = some (.bool oy)) := ⟨(SX.out U2 eU2).2.2.2.2.2.1, (SX.out U2 eU2).2.2.2.2.2.2.2⟩
              have b02 := Below.up bU1 bU2
              obtain ⟨m, n, hp⟩ := pair_within (HP.out U2 b02).1 x y ox oy
              have MS := keep hp
              unfold Pair2 at MS
              have hD1l : D1 < U1.heap.size := (Array.getElem?_eq_some_iff.1 gU1).1
              have kD1 := two_c0 ((bU2.block D1 hD1l).trans gU1)
              have kD2 := two_c0 gU2
              obtain ⟨k10, k11, _⟩ := kD1
              obtain ⟨k20, k21, _⟩ := kD2
              have HN : Kept (∀ k, (k = D1 ∨ k = D2) → k < U2.heap.size ∧ ¬ PO O b v k) := fun k hk => by
                have h0 := (HP.out W1 (Below.refl _ W1)).1
                have hl : ∀ k, PO O b v k → k < W1.heap.size := fun k hh => hh.elim (h0.rk.lt k) (h0.rp.lt k)
                have h1 : W1.heap.size ≤ k := by rcases hk with rfl | rfl; exact Nat.le_of_eq hD1; exact Nat.le_trans bU1.size (Nat.le_of_eq hD2)
                refine ⟨?_, fun hh => by have := hl k hh; omega⟩
                rcases hk with rfl | rfl
                · exact Nat.lt_of_lt_of_le hD1l bU2.size
                · exact (Array.getElem?_eq_some_iff.1 gU2).1
              have KC : Kept (∀ w2 : World, (∀ k, k < U2.heap.size → ¬ PO O b v k → w2.heap[k]? = U2.heap[k]?) → (w2.cell? ⟨D1, 0, none⟩ = some (.float .f64 x) ∧ w2.cell? ⟨D1, 1, none⟩ = some (.bool ox)) ∧ (w2.cell? ⟨D2, 0, none⟩ = some (.float .f64 y) ∧ w2.cell? ⟨D2, 1, none⟩ = some (.bool oy))) := fun w2 hn => by
                have e1 := hn D1 (HN.out D1 (.inl rfl)).1 (HN.out D1 (.inl rfl)).2
                have e2 := hn D2 (HN.out D2 (.inr rfl)).1 (HN.out D2 (.inr rfl)).2
                exact ⟨⟨(World.cell?_of_block (w := U2) (a := ⟨D1, 0, none⟩) e1).trans k10, (World.cell?_of_block (w := U2) (a := ⟨D1, 1, none⟩) e1).trans k11⟩, ⟨(World.cell?_of_block (w := U2) (a := ⟨D2, 0, none⟩) e2).trans k20, (World.cell?_of_block (w := U2) (a := ⟨D2, 1, none⟩) e2).trans k21⟩⟩
              have B02 := keep b02
              clear hp c2 c3 c4 c5 c6 c7 c8 gV1 gU1 bV1 bU1 gV2 gU2 bV2 bU2 eV1 eU1 eV2 eU2 HX1 hD1l HN b02
              go_enter Try.func10, Try.ntmps10
              go_upto_region 20 with fail
              apply wp_at
              case h =>
                refine wp_region_held_drew (S := fun W => W.cell? ⟨X, 5, none⟩ = some (.int .u64 (x : Int)) ∧ W.cell? ⟨X, 7, none⟩ = some (.bool ox)) (by kernel_rfl) SL1.out (fun hHeld => ?_)
                refine wpAnyH_take (i := 0) (oi := { dst := some 129, op := _, type := _, pos := _, after := _, guard := _ }) (v := ?v21) rfl (by kernel_rfl) (by kernel_rfl) (by kernel_rfl) (fun _ _ _ h => h) (Or.inl ⟨by rfl, ?hy21⟩) (by assumption) ?rest21
                case hy21 => (intro w hSw; obtain ⟨p0,p1⟩ := hSw; go_simp; try with_reducible rfl)
                try simp only [Act.put, List.setIfInBounds_toArray, List.set_cons_zero, List.set_cons_succ]
                refine wpAnyH_take (i := 1) (oi := { dst := some 130, op := _, type := _, pos := _, after := _, guard := _ }) (v := (.int .u64 (x : Int))) rfl (by kernel_rfl) (by kernel_rfl) (by kernel_rfl) (fun _ _ _ h => h) (Or.inl ⟨by rfl, ?hy22⟩) (by assumption) ?rest22
                case hy22 => (intro w hSw; obtain ⟨p0,p1⟩ := hSw; first | (go_simp; done) | (go_simp; simp [*]; done) | (simp [*]; go_simp; done))
                try simp only [Act.put, List.setIfInBounds_toArray, List.set_cons_zero, List.set_cons_succ]
                refine wpAnyH_take (i := 3) (oi := { dst := some 132, op := _, type := _, pos := _, after := _, guard := _ }) (v := ?v23) rfl (by kernel_rfl) (by kernel_rfl) (by kernel_rfl) (fun _ _ _ h => h) (Or.inl ⟨by rfl, ?hy23⟩) (by assumption) ?rest23
                case hy23 => (intro w hSw; obtain ⟨p0,p1⟩ := hSw; go_simp; try with_reducible rfl)
                try simp only [Act.put, List.setIfInBounds_toArray, List.set_cons_zero, List.set_cons_succ]
                refine wpAnyH_take (i := 4) (oi := { dst := some 133, op := _, type := _, pos := _, after := _, guard := _ }) (v := (.bool ox)) rfl (by kernel_rfl) (by kernel_rfl) (by kernel_rfl) (fun _ _ _ h => h) (Or.inl ⟨by rfl, ?hy24⟩) (by assumption) ?rest24
                case hy24 => (intro w hSw; obtain ⟨p0,p1⟩ := hSw; first | (go_simp; done) | (go_simp; simp [*]; done) | (simp [*]; go_simp; done))
                try simp only [Act.put, List.setIfInBounds_toArray, List.set_cons_zero, List.set_cons_succ]
                refine wpAnyH_ready (rs := [2, 6]) (by kernel_rfl) (by simp) ?_
                refine AllReadyH.cons (o := { dst := some 131, op := _, type := _, pos := _, after := _, guard := _ }) rfl (fun K hK => ?_) (AllReadyH.cons (o := { dst := some 20, op := _, type := _, pos := _, after := _, guard := _ }) rfl (fun K hK => ?_) AllReadyH.nil)
                · go_simp
                  refine hK.out _ _ SL1.out (fun hHeld => ?_)
                  try simp only [Act.put, List.setIfInBounds_toArray, List.set_cons_zero, List.set_cons_succ]
                  clear hK
                  refine wpAnyH_take (i := 5) (oi := { dst := some 134, op := _, type := _, pos := _, after := _, guard := _ }) (v := (.agg #[.float .f64 x, .bool ox])) rfl (by kernel_rfl) (by kernel_rfl) (by kernel_rfl) (fun _ _ _ h => h) (Or.inl ⟨by rfl, ?hy25⟩) (by assumption) ?rest25
                  case hy25 => (intro w hSw; first | (go_simp; done) | (go_simp; simp [*]; done) | (simp [*]; go_simp; done))
                  try simp only [Act.put, List.setIfInBounds_toArray, List.set_cons_zero, List.set_cons_succ]
                  refine wpAnyH_ready (rs := [6]) (by kernel_rfl) (by simp) ?_
                  refine AllReadyH.cons (o := { dst := some 20, op := _, type := _, pos := _, after := _, guard := _ }) rfl (fun K hK => ?_) AllReadyH.nil
                  go_simp
                  try rw [hV1]
                  try rw [hD1]
                  refine hK.out _ _ SV1.out (fun hHeld => ?_)
                  try simp only [Act.put, List.setIfInBounds_toArray, List.set_cons_zero, List.set_cons_succ]
                  clear hK
                  refine wpAnyH_ready (rs := [7]) (by kernel_rfl) (by simp) ?_
                  refine AllReadyH.cons (o := { dst := none, op := _, type := _, pos := _, after := _, guard := _ }) rfl (fun K hK => ?_) AllReadyH.nil
                  go_simp
                  try rw [hU1]
                  refine hK.out _ _ SU1.out (fun hHeld => ?_)
                  try simp only [Act.put, List.setIfInBounds_toArray, List.set_cons_zero, List.set_cons_succ]
                  clear hK
                  exact wpAnyH_done (by kernel_rfl) ⟨rfl, rfl⟩ _
                · go_simp
                  try rw [hV1]
                  try rw [hD1]
                  refine hK.out _ _ SV1.out (fun hHeld => ?_)
                  try simp only [Act.put, List.setIfInBounds_toArray, List.set_cons_zero, List.set_cons_succ]
                  clear hK
                  refine wpAnyH_ready (rs := [2]) (by kernel_rfl) (by simp) ?_
                  refine AllReadyH.cons (o := { dst := some 131, op := _, type := _, pos := _, after := _, guard := _ }) rfl (fun K hK => ?_) AllReadyH.nil
                  go_simp
                  refine hK.out _ _ SV1.out (fun hHeld => ?_)
                  try simp only [Act.put, List.setIfInBounds_toArray, List.set_cons_zero, List.set_cons_succ]
                  clear hK
                  refine wpAnyH_take (i := 5) (oi := { dst := some 134, op := _, type := _, pos := _, after := _, guard := _ }) (v := (.agg #[.float .f64 x, .bool ox])) rfl (by kernel_rfl) (by kernel_rfl) (by kernel_rfl) (fun _ _ _ h => h) (Or.inl ⟨by rfl, ?hy26⟩) (by assumption) ?rest26
                  case hy26 => (intro w hSw; first | (go_simp; done) | (go_simp; simp [*]; done) | (simp [*]; go_simp; done))
                  try simp only [Act.put, List.setIfInBounds_toArray, List.set_cons_zero, List.set_cons_succ]
                  refine wpAnyH_ready (rs := [7]) (by kernel_rfl) (by simp) ?_
                  refine AllReadyH.cons (o := { dst := none, op := _, type := _, pos := _, after := _, guard := _ }) rfl (fun K hK => ?_) AllReadyH.nil
                  go_simp
                  try rw [hU1]
                  refine hK.out _ _ SU1.out (fun hHeld => ?_)
                  try simp only [Act.put, List.setIfInBounds_toArray, List.set_cons_zero, List.set_cons_succ]
                  clear hK
                  exact wpAnyH_done (by kernel_rfl) ⟨rfl, rfl⟩ _
              go_upto_region 21 with fail
              apply wp_at
              case h =>
                refine wp_region_held_drew (S := fun W => W.cell? ⟨X, 6, none⟩ = some (.int .u64 (y : Int)) ∧ W.cell? ⟨X, 8, none⟩ = some (.bool oy)) (by kernel_rfl) SL2.out (fun hHeld => ?_)
                refine wpAnyH_take (i := 0) (oi := { dst := some 135, op := _, type := _, pos := _, after := _, guard := _ }) (v := ?v27) rfl (by kernel_rfl) (by kernel_rfl) (by kernel_rfl) (fun _ _ _ h => h) (Or.inl ⟨by rfl, ?hy27⟩) (by assumption) ?rest27
                case hy27 => (intro w hSw; obtain ⟨p0,p1⟩ := hSw; go_simp; try with_reducible rfl)
                try simp only [Act.put, List.setIfInBounds_toArray, List.set_cons_zero, List.set_cons_succ]
                refine wpAnyH_take (i := 1) (oi := { dst := some 136, op := _, type := _, pos := _, after := _, guard := _ }) (v := (.int .u64 (y : Int))) rfl (by kernel_rfl) (by kernel_rfl) (by kernel_rfl) (fun _ _ _ h => h) (Or.inl ⟨by rfl, ?hy28⟩) (by assumption) ?rest28
                case hy28 => (intro w hSw; obtain ⟨p0,p1⟩ := hSw; first | (go_simp; done) | (go_simp; simp [*]; done) | (simp [*]; go_simp; done))
                try simp only [Act.put, List.setIfInBounds_toArray, List.set_cons_zero, List.set_cons_succ]
                refine wpAnyH_take (i := 3) (oi := { dst := some 138, op := _, type := _, pos := _, after := _, guard := _ }) (v := ?v29) rfl (by kernel_rfl) (by kernel_rfl) (by kernel_rfl) (fun _ _ _ h => h) (Or.inl ⟨by rfl, ?hy29⟩) (by assumption) ?rest29
                case hy29 => (intro w hSw; obtain ⟨p0,p1⟩ := hSw; go_simp; try with_reducible rfl)
                try simp only [Act.put, List.setIfInBounds_toArray, List.set_cons_zero, List.set_cons_succ]
                refine wpAnyH_take (i := 4) (oi := { dst := some 139, op := _, type := _, pos := _, after := _, guard := _ }) (v := (.bool oy)) rfl (by kernel_rfl) (by kernel_rfl) (by kernel_rfl) (fun _ _ _ h => h) (Or.inl ⟨by rfl, ?hy30⟩) (by assumption) ?rest30
                case hy30 => (intro w hSw; obtain ⟨p0,p1⟩ := hSw; first | (go_simp; done) | (go_simp; simp [*]; done) | (simp [*]; go_simp; done))
                try simp only [Act.put, List.setIfInBounds_toArray, List.set_cons_zero, List.set_cons_succ]
                refine wpAnyH_ready (rs := [2, 6]) (by kernel_rfl) (by simp) ?_
                refine AllReadyH.cons (o := { dst := some 137, op := _, type := _, pos := _, after := _, guard := _ }) rfl (fun K hK => ?_) (AllReadyH.cons (o := { dst := some 21, op := _, type := _, pos := _, after := _, guard := _ }) rfl (fun K hK => ?_) AllReadyH.nil)
                · go_simp
                  refine hK.out _ _ SL2.out (fun hHeld => ?_)
                  try simp only [Act.put, List.setIfInBounds_toArray, List.set_cons_zero, List.set_cons_succ]
                  clear hK
                  refine wpAnyH_take (i := 5) (oi := { dst := some 140, op := _, type := _, pos := _, after := _, guard := _ }) (v := (.agg #[.float .f64 y, .bool oy])) rfl (by kernel_rfl) (by kernel_rfl) (by kernel_rfl) (fun _ _ _ h => h) (Or.inl ⟨by rfl, ?hy31⟩) (by assumption) ?rest31
                  case hy31 => (intro w hSw; first | (go_simp; done) | (go_simp; simp [*]; done) | (simp [*]; go_simp; done))
                  try simp only [Act.put, List.setIfInBounds_toArray, List.set_cons_zero, List.set_cons_succ]
                  refine wpAnyH_ready (rs := [6]) (by kernel_rfl) (by simp) ?_
                  refine AllReadyH.cons (o := { dst := some 21, op := _, type := _, pos := _, after := _, guard := _ }) rfl (fun K hK => ?_) AllReadyH.nil
                  go_simp
                  try rw [hV2]
                  try rw [hD2]
                  refine hK.out _ _ SV2.out (fun hHeld => ?_)
                  try simp only [Act.put, List.setIfInBounds_toArray, List.set_cons_zero, List.set_cons_succ]
                  clear hK
                  refine wpAnyH_ready (rs := [7]) (by kernel_rfl) (by simp) ?_
                  refine AllReadyH.cons (o := { dst := none, op := _, type := _, pos := _, after := _, guard := _ }) rfl (fun K hK => ?_) AllReadyH.nil
                  go_simp
                  try rw [hU2]
                  refine hK.out _ _ SU2.out (fun hHeld => ?_)
                  try simp only [Act.put, List.setIfInBounds_toArray, List.set_cons_zero, List.set_cons_succ]
                  clear hK
                  exact wpAnyH_done (by kernel_rfl) ⟨rfl, rfl⟩ _
                · go_simp
                  try rw [hV2]
                  try rw [hD2]
                  refine hK.out _ _ SV2.out (fun hHeld => ?_)
                  try simp only [Act.put, List.setIfInBounds_toArray, List.set_cons_zero, List.set_cons_succ]
                  clear hK
                  refine wpAnyH_ready (rs := [2]) (by kernel_rfl) (by simp) ?_
                  refine AllReadyH.cons (o := { dst := some 137, op := _, type := _, pos := _, after := _, guard := _ }) rfl (fun K hK => ?_) AllReadyH.nil
                  go_simp
                  refine hK.out _ _ SV2.out (fun hHeld => ?_)
                  try simp only [Act.put, List.setIfInBounds_toArray, List.set_cons_zero, List.set_cons_succ]
                  clear hK
                  refine wpAnyH_take (i := 5) (oi := { dst := some 140, op := _, type := _, pos := _, after := _, guard := _ }) (v := (.agg #[.float .f64 y, .bool oy])) rfl (by kernel_rfl) (by kernel_rfl) (by kernel_rfl) (fun _ _ _ h => h) (Or.inl ⟨by rfl, ?hy32⟩) (by assumption) ?rest32
                  case hy32 => (intro w hSw; first | (go_simp; done) | (go_simp; simp [*]; done) | (simp [*]; go_simp; done))
                  try simp only [Act.put, List.setIfInBounds_toArray, List.set_cons_zero, List.set_cons_succ]
                  refine wpAnyH_ready (rs := [7]) (by kernel_rfl) (by simp) ?_
                  refine AllReadyH.cons (o := { dst := none, op := _, type := _, pos := _, after := _, guard := _ }) rfl (fun K hK => ?_) AllReadyH.nil
                  go_simp
                  try rw [hU2]
                  refine hK.out _ _ SU2.out (fun hHeld => ?_)
                  try simp only [Act.put, List.setIfInBounds_toArray, List.set_cons_zero, List.set_cons_succ]
                  clear hK
                  exact wpAnyH_done (by kernel_rfl) ⟨rfl, rfl⟩ _
              clear y01 y11 yz1 y02 y12 yz2
              go_wp2_with fail
              refine MS.out.mono ?_
              rintro _ w2 ⟨rfl, n2, s2, nx2⟩
              obtain ⟨⟨q10, q11⟩, q20, q21⟩ := KC.out w2 n2
              have MT := keep (nx2 w2 (Below.refl _ w2))
              clear nx2 n2 s2 MS k10 k11 k20 k21 KC
              go_wp2_with fail
              refine MT.out.mono ?_
              rintro _ w3 ⟨rfl, f3⟩
              have HD := keep (HF.out _ w3 B02.out f3)
              clear f3 MT q10 q11 q20 q21
              go_wp2
              go_ret
              first | exact HD.out | simpa using HD.out
            · have a5b : (dO == 5) = false := beq_eq_false_iff_ne.2 a5
              have pr := (HP.out W1 (Below.refl _ W1)).1
              have hcst : rcst M = rcst L := (rcst_perm pr.perm).symm
              have M1 := keep (klen_any pr.rk)
              have M2 := keep (rlen_any W1 b v M pr.rp)
              have M3 := keep (kcost_any pr.rk)
              have M4 := keep (rcost_any W1 b v M pr.rp pr.len.2 pr.nums.2)
              rw [hcst] at M4
              rw [pr.len.1] at M2
              have HD : Kept (∀ w2, Below W1.heap.size W1 w2 → Pld w O R seed b v (.returned (.bool true)) w2) := fun w2 b2 => HF.out W1 w2 (Below.refl _ W1) (fin_bel pr b2)
              generalize rcst L = cc at M3 M4
              generalize L.length = ll at M1 M2
              clear pr hcst c2 c3 c4 c5 c6 c7 c8
              go_enter Try.func10, Try.ntmps10
              go_wp2_with fail
              refine M1.out.mono ?_
              rintro _ wa ⟨rfl, hw⟩
              obtain rfl := hw.symm
              go_wp2_with fail
              refine M2.out.mono ?_
              rintro _ wa ⟨rfl, hw⟩
              obtain rfl := hw.symm
              go_wp2_with fail
              refine M3.out.mono ?_
              rintro _ wa ⟨rfl, hw⟩
              obtain rfl := hw.symm
              go_wp2_with fail
              refine M4.out.mono ?_
              rintro _ w2 ⟨rfl, b2⟩
              have HE := keep (HD.out w2 b2)
              clear b2 M1 M2 M3 M4 HD
              go_wp2
              go_ret
              first | exact HE.out | simpa using HE.out
end Go.Proofs.Ytapehjlpiobeaaa
