/-
  Plain mathematics: going depth by depth tells whether all are right, and else whether an array lies too deep.
-/
import Derived.Test.YtoalnfkjpdgbiaaDoorRpBfs
/-
  Plain mathematics: what the going depth by depth comes to, whatever lists stand in many places.
-/
namespace Go.Proofs.YtoalnfkjpdgbiaaDoor
set_option linter.unusedVariables false
def rightE (E : Spot → List El) : Nat → Spot → Bool
  | 0, _ => true
  | f + 1, S => (E S).all fun e => e.1 && (match e.2.2 with | none => true | some c => rightE E f c.1)
def deepE (E : Spot → List El) : Nat → Nat → Spot → Bool
  | 0, _, _ => false
  | f + 1, g, S => (E S).any fun x => (x.2.1 && g == 0) || (match x.2.2 with | none => false | some c => deepE E f (g - 1) c.1)
def cw (W : Spot → Nat) (e : El) : Nat := match e.2.2 with | none => 0 | some c => W c.1
def wtE (E : Spot → List El) : Nat → Spot → Nat
  | 0, _ => 0
  | f + 1, S => ((E S).map fun e => 1 + cw (wtE E f) e).sum
def Hb (E : Spot → List El) : Nat → Spot → Prop
  | 0, _ => False
  | f + 1, S => ∀ e ∈ E S, ∀ c, e.2.2 = some c → Hb E f c.1
theorem rightE_st (E : Spot → List El) : ∀ (h f : Nat) (S : Spot), Hb E h S → h ≤ f → rightE E f S = rightE E h S
  | 0, _, _, hb, _ => hb.elim
  | h + 1, 0, _, _, hf => by omega
  | h + 1, f + 1, S, hb, hf => by
    unfold rightE
    rw [Bool.eq_iff_iff, List.all_eq_true, List.all_eq_true]
    have key : ∀ e ∈ E S, (e.1 && (match e.2.2 with | none => true | some c => rightE E f c.1)) = (e.1 && (match e.2.2 with | none => true | some c => rightE E h c.1)) := fun e he => by
      cases hc : e.2.2 with
      | none => rfl
      | some c => simp only [rightE_st E h f c.1 (hb e he c hc) (by omega)]
    exact ⟨fun g e he => by rw [← key e he]; exact g e he, fun g e he => by rw [key e he]; exact g e he⟩
theorem deepE_st (E : Spot → List El) : ∀ (h f g : Nat) (S : Spot), Hb E h S → h ≤ f → deepE E f g S = deepE E h g S
  | 0, _, _, _, hb, _ => hb.elim
  | h + 1, 0, _, _, _, hf => by omega
  | h + 1, f + 1, g, S, hb, hf => by
    unfold deepE
    rw [Bool.eq_iff_iff, List.any_eq_true, List.any_eq_true]
    have key : ∀ e ∈ E S, ((e.2.1 && g == 0) || (match e.2.2 with | none => false | some c => deepE E f (g - 1) c.1)) = ((e.2.1 && g == 0) || (match e.2.2 with | none => false | some c => deepE E h (g - 1) c.1)) := fun e he => by
      cases hc : e.2.2 with
      | none => rfl
      | some c => simp only [deepE_st E h f (g - 1) c.1 (hb e he c hc) (by omega)]
    exact ⟨fun ⟨e, he, q⟩ => ⟨e, he, by rw [← key e he]; exact q⟩, fun ⟨e, he, q⟩ => ⟨e, he, by rw [key e he]; exact q⟩⟩
theorem wtE_st (E : Spot → List El) : ∀ (h f : Nat) (S : Spot), Hb E h S → h ≤ f → wtE E f S = wtE E h S
  | 0, _, _, hb, _ => hb.elim
  | h + 1, 0, _, _, hf => by omega
  | h + 1, f + 1, S, hb, hf => by
    unfold wtE
    congr 1
    apply List.map_congr_left
    intro e he
    unfold cw
    cases hc : e.2.2 with
    | none => rfl
    | some c => simp only [wtE_st E h f c.1 (hb e he c hc) (by omega)]
theorem right_iff (E : Spot → List El) (n h : Nat) (S : Spot) (hb : Hb E (h + 1) S) (hn : h + 1 ≤ n) : rightE E n S = true ↔ ∀ e ∈ E S, e.1 = true ∧ ∀ c, e.2.2 = some c → rightE E n c.1 = true := by
  rw [rightE_st E (h + 1) n S hb hn]
  show ((E S).all fun e => e.1 && (match e.2.2 with | none => true | some c => rightE E h c.1)) = true ↔ _
  rw [List.all_eq_true]
  constructor
  · intro g e he
    have := g e he
    rw [Bool.and_eq_true] at this
    refine ⟨this.1, fun c hc => ?_⟩
    rw [rightE_st E h n c.1 (hb e he c hc) (by omega)]
    have h2 := this.2
    rw [hc] at h2
    exact h2
  · intro g e he
    obtain ⟨g1, g2⟩ := g e he
    rw [Bool.and_eq_true]
    refine ⟨g1, ?_⟩
    cases hc : e.2.2 with
    | none => rfl
    | some c =>
      have := g2 c hc
      rw [rightE_st E h n c.1 (hb e he c hc) (by omega)] at this
      exact this
theorem deep_iff (E : Spot → List El) (n h g : Nat) (S : Spot) (hb : Hb E (h + 1) S) (hn : h + 1 ≤ n) : deepE E n g S = true ↔ ∃ e ∈ E S, (e.2.1 = true ∧ g = 0) ∨ ∃ c, e.2.2 = some c ∧ deepE E n (g - 1) c.1 = true := by
  rw [deepE_st E (h + 1) n g S hb hn]
  show ((E S).any fun x => (x.2.1 && g == 0) || (match x.2.2 with | none => false | some c => deepE E h (g - 1) c.1)) = true ↔ _
  rw [List.any_eq_true]
  constructor
  · rintro ⟨e, he, q⟩
    refine ⟨e, he, ?_⟩
    rw [Bool.or_eq_true] at q
    rcases q with q | q
    · rw [Bool.and_eq_true, beq_iff_eq] at q; exact .inl q
    · cases hc : e.2.2 with
      | none => rw [hc] at q; cases q
      | some c =>
        rw [hc] at q
        exact .inr ⟨c, rfl, by rw [deepE_st E h n (g - 1) c.1 (hb e he c hc) (by omega)]; exact q⟩
  · rintro ⟨e, he, q⟩
    refine ⟨e, he, ?_⟩
    rw [Bool.or_eq_true]
    rcases q with q | ⟨c, hc, q⟩
    · exact .inl (by rw [Bool.and_eq_true, beq_iff_eq]; exact q)
    · refine .inr ?_
      rw [hc]
      rw [deepE_st E h n (g - 1) c.1 (hb e he c hc) (by omega)] at q
      exact q
theorem wt_eq (E : Spot → List El) (n h : Nat) (S : Spot) (hb : Hb E (h + 1) S) (hn : h + 1 ≤ n) : wtE E n S = ((E S).map fun e => 1 + cw (wtE E n) e).sum := by
  rw [wtE_st E (h + 1) n S hb hn]
  show ((E S).map fun e => 1 + cw (wtE E h) e).sum = _
  congr 1
  apply List.map_congr_left
  intro e he
  unfold cw
  cases hc : e.2.2 with
  | none => rfl
  | some c => simp only [wtE_st E h n c.1 (hb e he c hc) (by omega)]
def stepT (d : Nat) (s : St) (e : El) : St :=
  (if e.2.1 = true ∧ 8 ≤ d then 161 else s.1, match e.2.2 with
    | none => (s.2.1, s.2.2)
    | some c => if s.2.2 c.1 = dep (d + 1) then (s.2.1, s.2.2) else (s.2.1 ++ [c], fun x => if x = c.1 then dep (d + 1) else s.2.2 x))
theorem stepE_T (d : Nat) (s : St) (e : El) (h : e.1 = true) : stepE d e s = some (stepT d s e) := by
  unfold stepE stepT
  rw [if_neg (by rw [h]; simp)]
  cases e.2.2 with
  | none => rfl
  | some c =>
    simp only
    split <;> rfl
theorem stepT_len (d : Nat) (s : St) (e : El) : (stepT d s e).2.1.length ≤ s.2.1.length + 1 := by
  unfold stepT
  cases e.2.2 with
  | none => simp
  | some c =>
    simp only
    split <;> simp
theorem foldT_len (d : Nat) : ∀ (es : List El) (s : St), (es.foldl (stepT d) s).2.1.length ≤ s.2.1.length + es.length
  | [], s => by simp
  | e :: es, s => by
    have h1 := foldT_len d es (stepT d s e)
    have h2 := stepT_len d s e
    simp only [List.foldl_cons, List.length_cons]
    omega
theorem goE_yes (d : Nat) (k : St → Option Int) : ∀ (es : List El) (s : St), s.2.1.length + es.length ≤ 4000000000000 → (∀ e ∈ es, e.1 = true) → goE d k es s = k (es.foldl (stepT d) s)
  | [], s, _, _ => rfl
  | e :: es, s, hl, h => by
    unfold goE
    rw [stepE_T d s e (h e (.head _))]
    have h2 := stepT_len d s e
    simp only [List.length_cons] at hl
    simp only
    rw [if_pos (by omega)]
    exact goE_yes d k es (stepT d s e) (by omega) (fun e he => h e (.tail _ he))
theorem goE_no (d : Nat) (k : St → Option Int) : ∀ (es : List El) (s : St), s.2.1.length + es.length ≤ 4000000000000 → (∃ e ∈ es, e.1 = false) → goE d k es s = some 160
  | [], s, _, ⟨e, he, _⟩ => by cases he
  | e :: es, s, hl, h => by
    unfold goE
    by_cases he : e.1 = false
    · have : stepE d e s = none := by unfold stepE; rw [if_pos he]
      rw [this]
    · have he' : e.1 = true := by cases hq : e.1 <;> simp_all
      rw [stepE_T d s e he']
      have h2 := stepT_len d s e
      simp only [List.length_cons] at hl
      simp only
      rw [if_pos (by omega)]
      refine goE_no d k es (stepT d s e) (by omega) ?_
      obtain ⟨x, hx, q⟩ := h
      rcases List.mem_cons.1 hx with rfl | hx
      · exact absurd q he
      · exact ⟨x, hx, q⟩
theorem goR_yes (d : Nat) (E : Spot → List El) (k : St → Option Int) : ∀ (R : List (Spot × Nat)) (s : St), s.2.1.length + (R.flatMap fun x => E x.1).length ≤ 4000000000000 → (∀ e ∈ R.flatMap (fun x => E x.1), e.1 = true) →
    goR d E k R s = k ((R.flatMap fun x => E x.1).foldl (stepT d) s)
  | [], s, _, _ => rfl
  | x :: R, s, hl, h => by
    unfold goR
    rw [List.flatMap_cons, List.length_append] at hl
    have h1 : ∀ e ∈ E x.1, e.1 = true := fun e he => h e (by rw [List.flatMap_cons]; exact List.mem_append_left _ he)
    have h3 := foldT_len d (E x.1) s
    rw [goE_yes d _ (E x.1) s (by omega) h1, goR_yes d E k R _ (by omega) (fun e he => h e (by rw [List.flatMap_cons]; exact List.mem_append_right _ he)), List.flatMap_cons, List.foldl_append]
theorem goR_no (d : Nat) (E : Spot → List El) (k : St → Option Int) : ∀ (R : List (Spot × Nat)) (s : St), s.2.1.length + (R.flatMap fun x => E x.1).length ≤ 4000000000000 → (∃ e ∈ R.flatMap (fun x => E x.1), e.1 = false) → goR d E k R s = some 160
  | [], s, _, ⟨e, he, _⟩ => by cases he
  | x :: R, s, hl, h => by
    unfold goR
    rw [List.flatMap_cons, List.length_append] at hl
    by_cases h1 : ∃ e ∈ E x.1, e.1 = false
    · exact goE_no d _ (E x.1) s (by omega) h1
    · have h1' : ∀ e ∈ E x.1, e.1 = true := fun e he => by
        cases hq : e.1 with
        | true => rfl
        | false => exact absurd ⟨e, he, hq⟩ h1
      have h3 := foldT_len d (E x.1) s
      rw [goE_yes d _ (E x.1) s (by omega) h1']
      refine goR_no d E k R _ (by omega) ?_
      obtain ⟨e, he, q⟩ := h
      rw [List.flatMap_cons] at he
      rcases List.mem_append.1 he with he | he
      · exact absurd ⟨e, he, q⟩ h1
      · exact ⟨e, he, q⟩
/-- what is so while a depth is gone through -/
def Jn (d : Nat) (N0 : Spot → Int) (c0 : Int) (dn : List El) (s : St) : Prop :=
  (∀ x ∈ s.2.1, ∃ e ∈ dn, e.2.2 = some x) ∧ (∀ e ∈ dn, ∀ c, e.2.2 = some c → s.2.2 c.1 = dep (d + 1)) ∧ (∀ S, s.2.2 S = N0 S ∨ (s.2.2 S = dep (d + 1) ∧ ∃ x ∈ s.2.1, x.1 = S)) ∧ (∀ x ∈ s.2.1, s.2.2 x.1 = dep (d + 1)) ∧
  (s.1 = 161 ↔ c0 = 161 ∨ (8 ≤ d ∧ ∃ e ∈ dn, e.2.1 = true)) ∧ (s.1 = c0 ∨ s.1 = 161) ∧ s.2.1.length ≤ dn.length ∧ ∀ W : Spot → Nat, (s.2.1.map fun x => W x.1).sum ≤ (dn.map (cw W)).sum
theorem Jn.start (d : Nat) (N0 : Spot → Int) (c0 : Int) : Jn d N0 c0 [] (c0, [], N0) :=
  ⟨fun x hx => (nomatch hx), fun e he => (nomatch he), fun S => .inl rfl, fun x hx => (nomatch hx), ⟨fun h => .inl h, fun h => by rcases h with h | ⟨_, e, he, _⟩; exact h; cases he⟩, .inl rfl, Nat.le_refl _, fun W => Nat.le_refl _⟩
theorem Jn.step {d : Nat} {N0 : Spot → Int} {c0 : Int} {dn : List El} {s : St} (h : Jn d N0 c0 dn s) (e : El) : Jn d N0 c0 (dn ++ [e]) (stepT d s e) := by
  obtain ⟨h1, h2, h3, h4, h5, h6, h7, h8⟩ := h
  have c1 : (stepT d s e).1 = if e.2.1 = true ∧ 8 ≤ d then 161 else s.1 := rfl
  have code : ((stepT d s e).1 = 161 ↔ c0 = 161 ∨ (8 ≤ d ∧ ∃ x ∈ dn ++ [e], x.2.1 = true)) ∧ ((stepT d s e).1 = c0 ∨ (stepT d s e).1 = 161) := by
    rw [c1]
    by_cases q : e.2.1 = true ∧ 8 ≤ d
    · rw [if_pos q]
      exact ⟨⟨fun _ => .inr ⟨q.2, e, by simp, q.1⟩, fun _ => rfl⟩, .inr rfl⟩
    · rw [if_neg q]
      refine ⟨?_, h6⟩
      rw [h5]
      constructor
      · rintro (g | ⟨g, x, hx, hq⟩)
        · exact .inl g
        · exact .inr ⟨g, x, List.mem_append_left _ hx, hq⟩
      · rintro (g | ⟨g, x, hx, hq⟩)
        · exact .inl g
        · rcases List.mem_append.1 hx with hx | hx
          · exact .inr ⟨g, x, hx, hq⟩
          · simp at hx; subst hx; exact absurd ⟨hq, g⟩ q
  have old : (stepT d s e).2 = (s.2.1, s.2.2) → (∀ c, e.2.2 = some c → s.2.2 c.1 = dep (d + 1)) → Jn d N0 c0 (dn ++ [e]) (stepT d s e) := by
    intro hs hc
    have e1 : (stepT d s e).2.1 = s.2.1 := by rw [hs]
    have e2 : (stepT d s e).2.2 = s.2.2 := by rw [hs]
    refine ⟨?_, ?_, ?_, ?_, code.1, code.2, ?_, ?_⟩
    · rw [e1]; intro x hx; obtain ⟨y, hy, q⟩ := h1 x hx; exact ⟨y, List.mem_append_left _ hy, q⟩
    · rw [e2]; intro y hy c q
      rcases List.mem_append.1 hy with hy | hy
      · exact h2 y hy c q
      · simp at hy; subst hy; exact hc c q
    · rw [e1, e2]; exact h3
    · rw [e1, e2]; exact h4
    · rw [e1, List.length_append]; omega
    · intro W; rw [e1, List.map_append, List.sum_append]; have := h8 W; omega
  cases hc : e.2.2 with
  | none => exact old (by unfold stepT; rw [hc]) (fun c q => by rw [hc] at q; cases q)
  | some c =>
    by_cases q : s.2.2 c.1 = dep (d + 1)
    · exact old (by unfold stepT; rw [hc]; simp only [if_pos q]) (fun c' q' => by rw [hc] at q'; cases q'; exact q)
    · have hs : (stepT d s e).2 = (s.2.1 ++ [c], fun x => if x = c.1 then dep (d + 1) else s.2.2 x) := by unfold stepT; rw [hc]; simp only [if_neg q]
      have e1 : (stepT d s e).2.1 = s.2.1 ++ [c] := by rw [hs]
      have e2 : ∀ S, (stepT d s e).2.2 S = if S = c.1 then dep (d + 1) else s.2.2 S := fun S => by rw [hs]
      refine ⟨?_, ?_, ?_, ?_, code.1, code.2, ?_, ?_⟩
      · rw [e1]; intro x hx
        rcases List.mem_append.1 hx with hx | hx
        · obtain ⟨y, hy, q⟩ := h1 x hx; exact ⟨y, List.mem_append_left _ hy, q⟩
        · simp at hx; subst hx; exact ⟨e, by simp, hc⟩
      · intro y hy c' q'
        rw [e2]
        split
        · rfl
        · rcases List.mem_append.1 hy with hy | hy
          · exact h2 y hy c' q'
          · simp at hy; subst hy; rw [hc] at q'; cases q'; rename_i hne; exact absurd rfl hne
      · intro S
        rw [e1, e2]
        by_cases es : S = c.1
        · rw [if_pos es]; exact .inr ⟨rfl, c, by simp, es.symm⟩
        · rw [if_neg es]
          rcases h3 S with g | ⟨g, x, hx, q⟩
          · exact .inl g
          · exact .inr ⟨g, x, List.mem_append_left _ hx, q⟩
      · rw [e1]; intro x hx
        rw [e2]
        split
        · rfl
        · rcases List.mem_append.1 hx with hx | hx
          · exact h4 x hx
          · simp at hx; subst hx; rename_i hne; exact absurd rfl hne
      · rw [e1, List.length_append, List.length_append]; simp; omega
      · intro W
        rw [e1, List.map_append, List.sum_append, List.map_append, List.sum_append]
        have := h8 W
        have hcw : cw W e = W c.1 := by unfold cw; rw [hc]
        simp [hcw]
        omega
theorem Jn.all (d : Nat) (N0 : Spot → Int) (c0 : Int) : ∀ (es dn : List El) (s : St), Jn d N0 c0 dn s → Jn d N0 c0 (dn ++ es) (es.foldl (stepT d) s)
  | [], dn, s, h => by simpa using h
  | e :: es, dn, s, h => by
    have := Jn.all d N0 c0 es (dn ++ [e]) _ (h.step e)
    simpa [List.append_assoc] using this
end Go.Proofs.YtoalnfkjpdgbiaaDoor

namespace Go.Proofs.YtoalnfkjpdgbiaaDoor
set_option linter.unusedVariables false
theorem Hb.mono (E : Spot → List El) : ∀ (h h' : Nat) (S : Spot), Hb E h S → h ≤ h' → Hb E h' S
  | 0, _, _, hb, _ => hb.elim
  | h + 1, 0, _, _, hf => by omega
  | h + 1, h' + 1, S, hb, hf => fun e he c hc => Hb.mono E h h' c.1 (hb e he c hc) (by omega)
def Iv (E : Spot → List El) (n : Nat) (S0 : Spot) (d : Nat) (code : Int) (R : List (Spot × Nat)) (N : Spot → Int) : Prop :=
  (∀ x ∈ R, Hb E (n - d) x.1) ∧ (rightE E n S0 = true → ∀ x ∈ R, rightE E n x.1 = true) ∧ (∀ x ∈ R, deepE E n (8 - d) x.1 = true → deepE E n 8 S0 = true) ∧
  (code = 0 ∨ code = 161) ∧ (code = 161 → deepE E n 8 S0 = true) ∧
  (d ≤ 8 → code = 0 ∧ ((∀ x ∈ R, rightE E n x.1 = true) → rightE E n S0 = true) ∧ (deepE E n 8 S0 = true → ∃ x ∈ R, deepE E n (8 - d) x.1 = true)) ∧
  (8 ≤ d → (∀ S, N S = 8 → Hb E n S ∧ ((∃ x ∈ R, x.1 = S) ∨ ∀ e ∈ E S, e.1 = true ∧ ∀ c, e.2.2 = some c → N c.1 = 8)) ∧ ((∀ S, N S = 8 → rightE E n S = true) → rightE E n S0 = true)) ∧
  (9 ≤ d → deepE E n 8 S0 = true → code = 161) ∧ (∀ S, N S ≤ (d : Int) ∧ N S ≤ 8) ∧ (1 ≤ d → d ≤ 8 → ∀ S, N S = (d : Int) → ∃ x ∈ R, x.1 = S) ∧ (1 ≤ d → ∀ x ∈ R, N x.1 = dep d) ∧
  (R.map fun x => wtE E n x.1).sum ≤ wtE E n S0
theorem mem_A {E : Spot → List El} {R : List (Spot × Nat)} {e : El} (h : e ∈ R.flatMap fun x => E x.1) : ∃ y ∈ R, e ∈ E y.1 := by
  obtain ⟨y, hy, he⟩ := List.mem_flatMap.1 h
  exact ⟨y, hy, he⟩
theorem in_A {E : Spot → List El} {R : List (Spot × Nat)} {e : El} {y : Spot × Nat} (hy : y ∈ R) (he : e ∈ E y.1) : e ∈ R.flatMap fun x => E x.1 := List.mem_flatMap.2 ⟨y, hy, he⟩
theorem sum_one (W : Spot → Nat) : ∀ l : List El, (l.map fun e => 1 + cw W e).sum = l.length + (l.map (cw W)).sum
  | [] => rfl
  | e :: l => by simp only [List.map_cons, List.sum_cons, List.length_cons, sum_one W l]; omega
theorem wt_A (E : Spot → List El) (n h : Nat) (hn : h + 1 ≤ n) : ∀ R : List (Spot × Nat), (∀ x ∈ R, Hb E (h + 1) x.1) → (R.map fun x => wtE E n x.1).sum = (R.flatMap fun x => E x.1).length + ((R.flatMap fun x => E x.1).map (cw (wtE E n))).sum
  | [], _ => rfl
  | x :: R, hb => by
    have ih := wt_A E n h hn R (fun y hy => hb y (.tail _ hy))
    simp only [List.map_cons, List.sum_cons, List.flatMap_cons, List.length_append, List.map_append, List.sum_append, ih]
    rw [wt_eq E n h x.1 (hb x (.head _)) hn, sum_one]
    omega
theorem closed_right (E : Spot → List El) (n : Nat) (N : Spot → Int) (hc : ∀ S, N S = 8 → ∀ e ∈ E S, e.1 = true ∧ ∀ c, e.2.2 = some c → N c.1 = 8) : ∀ (h : Nat) (S : Spot), h ≤ n → Hb E h S → N S = 8 → rightE E n S = true
  | 0, _, _, hb, _ => hb.elim
  | h + 1, S, hn, hb, hS => by
    rw [right_iff E n h S hb hn]
    intro e he
    obtain ⟨g1, g2⟩ := hc S hS e he
    exact ⟨g1, fun c q => closed_right E n N hc h c.1 (by omega) (hb e he c q) (g2 c q)⟩
theorem Iv.step {E : Spot → List El} {n : Nat} {S0 : Spot} {d : Nat} {code : Int} {R : List (Spot × Nat)} {N : Spot → Int} (hK : ∀ S e, e ∈ E S → e.1 = true → e.2.2 ≠ none → e.2.1 = true)
    (h : Iv E n S0 d code R N) (hd : d < n) (hA : ∀ e ∈ R.flatMap (fun x => E x.1), e.1 = true) {s : St} (hJ : Jn d N code (R.flatMap fun x => E x.1) s) : Iv E n S0 (d + 1) s.1 s.2.1 s.2.2 := by
  obtain ⟨a, b, c, d1, d2, ee, ff, f2, g1, g2, g3, hh⟩ := h
  obtain ⟨j1, j2, j3, j4, j5, j6, j7, j8⟩ := hJ
  obtain ⟨m, hm⟩ : ∃ m, n - d = m + 1 := ⟨n - d - 1, by omega⟩
  have hmn : m + 1 ≤ n := by omega
  rw [hm] at a
  have child : ∀ x ∈ s.2.1, ∃ y ∈ R, ∃ e ∈ E y.1, e.2.2 = some x := fun x hx => by
    obtain ⟨e, he, q⟩ := j1 x hx
    obtain ⟨y, hy, he'⟩ := mem_A he
    exact ⟨y, hy, e, he', q⟩
  have fresh : d < 8 → ∀ S, s.2.2 S = (d : Int) + 1 → ∃ x ∈ s.2.1, x.1 = S := fun h8 S hS => by
    rcases j3 S with q | ⟨_, q⟩
    · have := (g1 S).1; omega
    · exact q
  have depd : ∀ {k : Nat}, k ≤ 8 → dep k = (k : Int) := fun hk => by unfold dep; omega
  have depn : 8 ≤ d → dep (d + 1) = 8 := fun hk => by unfold dep; omega
  have cov : d < 8 → ∀ y ∈ R, ∀ e ∈ E y.1, ∀ q, e.2.2 = some q → ∃ x ∈ s.2.1, x.1 = q.1 := fun h8 y hy e he q hq => fresh h8 q.1 (by
    have := j2 e (in_A hy he) q hq
    rw [this, depd (by omega)]; omega)
  have covR : d < 8 → (∀ x ∈ s.2.1, rightE E n x.1 = true) → rightE E n S0 = true := fun h8 hall => (ee (by omega)).2.1 (fun y hy => by
    rw [right_iff E n m y.1 (a y hy) hmn]
    intro e he
    refine ⟨hA e (in_A hy he), fun q hq => ?_⟩
    obtain ⟨x, hx, hxq⟩ := cov h8 y hy e he q hq
    rw [← hxq]; exact hall x hx)
  have keep8 : 8 ≤ d → ∀ S, N S = 8 → s.2.2 S = 8 := fun h8 S hS => by
    rcases j3 S with q | ⟨q, _⟩
    · rw [q]; exact hS
    · rw [q]; exact depn h8
  have isArr : ∀ y ∈ R, ∀ e ∈ E y.1, ∀ q, e.2.2 = some q → e.2.1 = true := fun y hy e he q hq => hK y.1 e he (hA e (in_A hy he)) (by rw [hq]; simp)
  refine ⟨?_, ?_, ?_, ?_, ?_, ?_, ?_, ?_, ?_, ?_, ?_, ?_⟩
  · intro x hx
    obtain ⟨y, hy, e, he, q⟩ := child x hx
    rw [show n - (d + 1) = m by omega]
    exact a y hy e he x q
  · intro hr x hx
    obtain ⟨y, hy, e, he, q⟩ := child x hx
    have := (right_iff E n m y.1 (a y hy) hmn).1 (b hr y hy) e he
    exact this.2 x q
  · intro x hx hdp
    obtain ⟨y, hy, e, he, q⟩ := child x hx
    refine c y hy ((deep_iff E n m (8 - d) y.1 (a y hy) hmn).2 ⟨e, he, .inr ⟨x, q, ?_⟩⟩)
    rw [show 8 - d - 1 = 8 - (d + 1) by omega]
    exact hdp
  · rcases j6 with q | q
    · rw [q]; exact d1
    · exact .inr q
  · intro q
    rcases j5.1 q with q | ⟨h8, e, he, q⟩
    · exact d2 q
    · obtain ⟨y, hy, he'⟩ := mem_A he
      exact c y hy ((deep_iff E n m (8 - d) y.1 (a y hy) hmn).2 ⟨e, he', .inl ⟨q, by omega⟩⟩)
  · intro h8
    refine ⟨?_, covR (by omega), ?_⟩
    · rcases j6 with q | q
      · rw [q]; exact (ee (by omega)).1
      · rcases j5.1 q with q2 | ⟨h9, _⟩
        · have := (ee (by omega)).1; omega
        · omega
    · intro hdp
      obtain ⟨y, hy, q⟩ := (ee (by omega)).2.2 hdp
      obtain ⟨e, he, q⟩ := (deep_iff E n m (8 - d) y.1 (a y hy) hmn).1 q
      rcases q with ⟨_, q⟩ | ⟨x, hx, q⟩
      · omega
      · obtain ⟨z, hz, hzx⟩ := cov (by omega) y hy e he x hx
        refine ⟨z, hz, ?_⟩
        rw [hzx, show 8 - (d + 1) = 8 - d - 1 by omega]
        exact q
  · intro h8
    by_cases hd8 : d < 8
    · obtain rfl : d = 7 := by omega
      refine ⟨fun S hS => ?_, fun hall => covR (by omega) (fun x hx => hall x.1 (by rw [j4 x hx]; rfl))⟩
      obtain ⟨x, hx, hxS⟩ := fresh (by omega) S (by rw [hS]; rfl)
      obtain ⟨y, hy, e, he, q⟩ := child x hx
      exact ⟨hxS ▸ Hb.mono E m n x.1 (a y hy e he x q) (by omega), .inl ⟨x, hx, hxS⟩⟩
    · obtain ⟨i1, i2⟩ := ff (by omega)
      refine ⟨fun S hS => ?_, fun hall => i2 (fun S hS => hall S (keep8 (by omega) S hS))⟩
      rcases j3 S with q | ⟨_, x, hx, hxS⟩
      · rw [hS] at q
        obtain ⟨k1, k2⟩ := i1 S q.symm
        refine ⟨k1, .inr ?_⟩
        rcases k2 with ⟨y, hy, rfl⟩ | k2
        · intro e he
          exact ⟨hA e (in_A hy he), fun q hq => by rw [j2 e (in_A hy he) q hq]; exact depn (by omega)⟩
        · intro e he
          exact ⟨(k2 e he).1, fun q hq => keep8 (by omega) q.1 ((k2 e he).2 q hq)⟩
      · obtain ⟨y, hy, e, he, q⟩ := child x hx
        exact ⟨hxS ▸ Hb.mono E m n x.1 (a y hy e he x q) (by omega), .inl ⟨x, hx, hxS⟩⟩
  · intro h9 hdp
    by_cases h8 : d = 8
    · subst h8
      obtain ⟨y, hy, q⟩ := (ee (by omega)).2.2 hdp
      obtain ⟨e, he, q⟩ := (deep_iff E n m (8 - 8) y.1 (a y hy) hmn).1 q
      refine j5.2 (.inr ⟨by omega, e, in_A hy he, ?_⟩)
      rcases q with ⟨q, _⟩ | ⟨x, hx, q⟩
      · exact q
      · exact isArr y hy e he x hx
    · exact j5.2 (.inl (f2 (by omega) hdp))
  · intro S
    rcases j3 S with q | ⟨q, _⟩
    · rw [q]; have := g1 S; omega
    · rw [q]; unfold dep; omega
  · intro _ h8 S hS
    exact fresh (by omega) S (by rw [hS]; omega)
  · intro _ x hx
    exact j4 x hx
  · have h1 := j8 (wtE E n)
    have h2 := wt_A E n m hmn R a
    omega
theorem bfs_main (E : Spot → List El) (n : Nat) (S0 : Spot) (hK : ∀ S e, e ∈ E S → e.1 = true → e.2.2 ≠ none → e.2.1 = true) (hw : wtE E n S0 ≤ 4000000000000) :
    ∀ (f d : Nat) (code : Int) (R : List (Spot × Nat)) (N : Spot → Int), d + f = n + 1 → d ≤ n → Iv E n S0 d code R N → bfs E f d code R N = some (if rightE E n S0 = true then (if deepE E n 8 S0 = true then 161 else 0) else 160)
  | 0, d, code, R, N, h1, h2, _ => by omega
  | f + 1, d, code, R, N, h1, h2, hI => by
    unfold bfs
    have hI' := hI
    obtain ⟨a, b, c, d1, d2, ee, ff, f2, g1, g2, g3, hh⟩ := hI'
    by_cases hR : R.length = 0
    · rw [if_pos hR]
      obtain rfl : R = [] := List.length_eq_zero_iff.1 hR
      by_cases h8 : d ≤ 8
      · obtain ⟨e1, e2, e3⟩ := ee h8
        have hr : rightE E n S0 = true := e2 (fun x hx => by cases hx)
        have hdp : ¬ deepE E n 8 S0 = true := fun q => by obtain ⟨x, hx, _⟩ := e3 q; cases hx
        rw [if_pos hr, if_neg hdp, e1]
      · obtain ⟨i1, i2⟩ := ff (by omega)
        have hcl : ∀ S, N S = 8 → ∀ e ∈ E S, e.1 = true ∧ ∀ c, e.2.2 = some c → N c.1 = 8 := fun S hS => by
          rcases (i1 S hS).2 with ⟨x, hx, _⟩ | q
          · cases hx
          · exact q
        have hr : rightE E n S0 = true := i2 (fun S hS => closed_right E n N hcl n S (Nat.le_refl _) (i1 S hS).1 hS)
        rw [if_pos hr]
        by_cases hdp : deepE E n 8 S0 = true
        · rw [if_pos hdp, f2 (by omega) hdp]
        · rw [if_neg hdp]
          rcases d1 with q | q
          · rw [q]
          · exact absurd (d2 q) hdp
    · rw [if_neg hR]
      obtain ⟨x0, hx0⟩ : ∃ x, x ∈ R := by
        cases R with
        | nil => exact absurd rfl hR
        | cons x R => exact ⟨x, .head _⟩
      have hdn : d < n := by
        have := a x0 hx0
        apply Decidable.byContradiction
        intro hge
        rw [show n - d = 0 by omega] at this
        exact this
      obtain ⟨m, hm⟩ : ∃ m, n - d = m + 1 := ⟨n - d - 1, by omega⟩
      rw [hm] at a
      have hlen := wt_A E n m (by omega) R a
      have hle : ([] : List (Spot × Nat)).length + (R.flatMap fun x => E x.1).length ≤ 4000000000000 := by
        show 0 + _ ≤ _; omega
      by_cases hall : ∀ e ∈ R.flatMap (fun x => E x.1), e.1 = true
      · rw [goR_yes d E _ R (code, [], N) hle hall]
        have hJ := Jn.all d N code (R.flatMap fun x => E x.1) [] _ (Jn.start d N code)
        rw [List.nil_append] at hJ
        exact bfs_main E n S0 hK hw f (d + 1) _ _ _ (by omega) (by omega) (hI.step hK hdn hall hJ)
      · have hex : ∃ e ∈ R.flatMap (fun x => E x.1), e.1 = false := by
          apply Decidable.byContradiction
          intro hno
          exact hall (fun e he => by
            cases hq : e.1 with
            | true => rfl
            | false => exact absurd ⟨e, he, hq⟩ hno)
        rw [goR_no d E _ R (code, [], N) hle hex]
        obtain ⟨e, he, q⟩ := hex
        obtain ⟨y, hy, he'⟩ := mem_A he
        have hnr : ¬ rightE E n S0 = true := fun hr => by
          have := ((right_iff E n m y.1 (a y hy) (by omega)).1 (b hr y hy) e he').1
          rw [q] at this; cases this
        rw [if_neg hnr]
theorem bfs_all (E : Spot → List El) (n : Nat) (S0 : Spot) (c0 : Nat) (hK : ∀ S e, e ∈ E S → e.1 = true → e.2.2 ≠ none → e.2.1 = true) (hb : Hb E n S0) (hw : wtE E n S0 ≤ 4000000000000) :
    bfs E (n + 1) 0 0 [(S0, c0)] (fun _ => 0) = some (if rightE E n S0 = true then (if deepE E n 8 S0 = true then 161 else 0) else 160) := by
  refine bfs_main E n S0 hK hw (n + 1) 0 0 _ _ (by omega) (by omega) ⟨?_, ?_, ?_, .inl rfl, ?_, ?_, ?_, ?_, ?_, ?_, ?_, ?_⟩
  · intro x hx; simp at hx; subst hx; exact hb
  · intro hr x hx; simp at hx; subst hx; exact hr
  · intro x hx h; simp at hx; subst hx; exact h
  · intro h; cases h
  · intro _; exact ⟨rfl, fun h => h (S0, c0) (by simp), fun h => ⟨(S0, c0), by simp, h⟩⟩
  · intro h; omega
  · intro h; omega
  · intro S; exact ⟨by simp, by simp⟩
  · intro h; omega
  · intro h; omega
  · simp
end Go.Proofs.YtoalnfkjpdgbiaaDoor
