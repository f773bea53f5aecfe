/-
  A range over a function, whatever that function does with blocks of its own: whose block is whose is said by a set; and some blocks (M0) were its own before it was called.
-/
import Derived.RangeFuncNested
import Derived.RangeFuncBound
import Derived.RangeFuncLeaves
import Derived.Below
import Derived.OwnWalkIn
import Derived.OwnWalk
namespace Go.Proofs.YtaflggjgndkdlaaDoor
open Go.RowKit
/-- only M's blocks, and new ones, have turned -/
def Sep (M : Nat → Prop) (A B : World) : Prop := (B.os = A.os ∧ B.tape = A.tape ∧ B.output = A.output) ∧ A.heap.size ≤ B.heap.size ∧ ∀ k, k < A.heap.size → ¬ M k → B.heap[k]? = A.heap[k]?
/-- M's blocks are as they were -/
def Mk (M : Nat → Prop) (A B : World) : Prop := A.heap.size ≤ B.heap.size ∧ ∀ k, M k → B.heap[k]? = A.heap[k]?
/-- M' has no more than M, and new ones -/
def Ext (M M' : Nat → Prop) (A B : World) : Prop := ∀ k, M' k → M k ∨ (A.heap.size ≤ k ∧ k < B.heap.size)
/-- what speaks of no block of M's stays so -/
def Abd (I : (Nat → Prop) → Nat → World → Prop) : Prop := ∀ M M' s A B, I M s A → Sep M A B → Ext M M' A B → I M' s B
theorem Sep.refl (M : Nat → Prop) (A : World) : Sep M A A := ⟨⟨rfl, rfl, rfl⟩, Nat.le_refl _, fun _ _ _ => rfl⟩
theorem Sep.trans {M : Nat → Prop} {A B C : World} (h : Sep M A B) (g : Sep M B C) : Sep M A C :=
  ⟨⟨g.1.1.trans h.1.1, g.1.2.1.trans h.1.2.1, g.1.2.2.trans h.1.2.2⟩, Nat.le_trans h.2.1 g.2.1, fun k hk hm => (g.2.2 k (Nat.lt_of_lt_of_le hk h.2.1) hm).trans (h.2.2 k hk hm)⟩
theorem Sep.more {M M' : Nat → Prop} {A B : World} (h : Sep M A B) (hm : ∀ k, M k → M' k) : Sep M' A B := ⟨h.1, h.2.1, fun k hk hn => h.2.2 k hk (fun e => hn (hm k e))⟩
theorem Sep.of_below {M : Nat → Prop} {A B : World} (h : Below A.heap.size A B) : Sep M A B := ⟨⟨h.os, h.tape, h.output⟩, h.size, fun k hk _ => h.block k hk⟩
theorem Sep.alloc (M : Nat → Prop) (A : World) (o : Obj) : Sep M A (A.alloc o) := Sep.of_below ((Below.refl _ A).alloc (Nat.le_refl _) o)
theorem Sep.put {M : Nat → Prop} (A : World) {l : Nat} (o : Obj) (hl : M l) : Sep M A (A.putObj l o) :=
  ⟨⟨rfl, rfl, rfl⟩, by simp, fun k _ hk => World.putObj_heap_other (fun e => hk (e ▸ hl))⟩
theorem Sep.below {M : Nat → Prop} {A B : World} {n : Nat} (h : Sep M A B) (hn : n ≤ A.heap.size) (hm : ∀ k, M k → n ≤ k) : Below n A B :=
  ⟨h.1.1, h.1.2.1, h.1.2.2, h.2.1, fun k hk => h.2.2 k (by omega) (fun e => by have := hm k e; omega)⟩
theorem Mk.refl (M : Nat → Prop) (A : World) : Mk M A A := ⟨Nat.le_refl _, fun _ _ => rfl⟩
theorem Mk.trans {M : Nat → Prop} {A B C : World} (h : Mk M A B) (g : Mk M B C) : Mk M A C := ⟨Nat.le_trans h.1 g.1, fun k hk => (g.2 k hk).trans (h.2 k hk)⟩
theorem Mk.less {M M' : Nat → Prop} {A B : World} (h : Mk M A B) (hm : ∀ k, M' k → M k) : Mk M' A B := ⟨h.1, fun k hk => h.2 k (hm k hk)⟩
theorem Mk.alloc {M : Nat → Prop} {A : World} (o : Obj) (hm : ∀ k, M k → k < A.heap.size) : Mk M A (A.alloc o) := ⟨by simp, fun k hk => Below.heap_alloc _ _ _ (hm k hk)⟩
theorem Mk.below {M : Nat → Prop} {A B : World} (h : Below A.heap.size A B) (hm : ∀ k, M k → k < A.heap.size) : Mk M A B := ⟨h.size, fun k hk => h.block k (hm k hk)⟩
theorem Ext.refl (M : Nat → Prop) (A B : World) : Ext M M A B := fun _ h => .inl h
theorem Ext.lt {M M' : Nat → Prop} {A B : World} (h : Ext M M' A B) {k : Nat} (hk : k < A.heap.size) (hn : ¬ M k) : ¬ M' k := fun e => by
  rcases h k e with h' | h'
  · exact hn h'
  · omega
theorem Ext.ge {M M' : Nat → Prop} {A B : World} {n : Nat} (h : Ext M M' A B) (hn : n ≤ A.heap.size) (hm : ∀ k, M k → n ≤ k) : ∀ k, M' k → n ≤ k := fun k e => by
  rcases h k e with h' | h'
  · exact hm k h'
  · omega
variable {P : Program}
/-- a call of yield -/
def Yl (P : Program) (l : Nat) (args : Array Value) (W : World) (R : Ending → World → Prop) : Prop := YieldAt Fence.wide 0 P l args W R
theorem Yl.at {l : Nat} {args : Array Value} {W : World} {R : Ending → World → Prop} (h : Yl P l args W R) (m : Nat) :
    ∃ fn tmps assign body, (Instr.yield l args).run P W = .ok (.round l fn tmps assign body) W ∧ RoundIn Fence.wide m P l fn tmps assign body W R := by
  obtain ⟨fn, tmps, assign, body, h1, h2⟩ := h
  exact ⟨fn, tmps, assign, body, h1, h2.1, fun c cs _ => h2.2 c cs (room_wide _)⟩
theorem Yl.mono {l : Nat} {args : Array Value} {W : World} {R R' : Ending → World → Prop} (h : Yl P l args W R) (hr : ∀ e w, R e w → R' e w) : Yl P l args W R' := by
  obtain ⟨fn, tmps, assign, body, h1, h2⟩ := h
  exact ⟨fn, tmps, assign, body, h1, h2.mono hr⟩
theorem wpIn_n {m n l : Nat} {c : Code} {Q : Exit → Act → World → Prop} {a : Act} {w : World} (h : c.wpIn (Fence.wide.inRound l) m P Q a w) : c.wpIn (Fence.wide.inRound l) n P Q a w :=
  fun b k cs h1 h2 _ => h b k cs h1 h2 (fun _ h => by cases h)
/-- what a function that can be ranged over does, called in W: it tells L, one by one; Rd: what it reads on its way -/
def Iter {α : Type} (P : Program) (g : Nat) (lb : Array Value) (encs : α → Array Value) (Rd : Nat → World → Prop) (L : List α) (M0 : Nat → Prop) (W : World) : Prop :=
  ∀ (l : Nat) (J Jx : (Nat → Prop) → Nat → World → Prop), Abd J → Abd Jx → (∀ M m W1, J M m W1 → Rd m W1) →
    (∀ M m x W1, J M m W1 → L[m]? = some x → (∀ k, M k → (M0 k ∨ W.heap.size ≤ k) ∧ k < W1.heap.size) → Yl P l (encs x) W1 fun e W' => Mk M W1 W' ∧ ((e = .returned (.bool true) ∧ J M (m + 1) W') ∨ (e = .returned (.bool false) ∧ Jx M (m + 1) W'))) →
    J M0 0 W →
    Calls P g (#[.func (.yield l) #[] #[]] ++ lb) W fun e W' => (∃ v, e = .returned v) ∧ ∃ M, (∀ k, M k → (M0 k ∨ W.heap.size ≤ k) ∧ k < W'.heap.size) ∧ (J M L.length W' ∨ ∃ m, m < L.length ∧ Jx M (m + 1) W')
/-- how a round may end; W2: where its body began -/
def rdPost (I : (Nat → Prop) → Nat → World → Prop) (Ix : Code → (Nat → Prop) → Nat → World → Prop) (M : Nat → Prop) (s : Nat) (W2 : World) : Exit → Act → World → Prop
  | .normal, _, W3 => Mk M W2 W3 ∧ I M s W3
  | .ret, _, W3 => Mk M W2 W3 ∧ Ix .ret M s W3
  | .exit id, _, W3 => Mk M W2 W3 ∧ Ix (.exit id) M s W3
  | .goto t, _, W3 => Mk M W2 W3 ∧ Ix (.goto t) M s W3
  | .panic _, _, _ => False
  | .outgrown, _, _ => False
/-- the statement 'for .. := range g { .. }' outside of all rounds -/
theorem range_own {α : Type} {n : Nat} {g : Operand} {ps : Array Tmp} {assign body : Code} {Q : Exit → Act → World → Prop} {a : Act} {w : World}
    {gf : Nat} {lb : Array Value} (hg : a.eval g = .func (.func gf) #[] lb) (eg : ∀ args w, (callFunc gf args).run P w = .ok (.enter gf args) w)
    {encs : α → Array Value} {Rd : Nat → World → Prop} {L : List α} (hps : ∀ x, (encs x).size = ps.size)
    {M0 : Nat → Prop} (hM0 : ∀ k, M0 k → k < w.heap.size) (hseq : ∀ W1, Below w.heap.size w W1 → Iter P gf lb encs Rd L M0 W1)
    (I : (Nat → Prop) → Nat → World → Prop) (Ix : Code → (Nat → Prop) → Nat → World → Prop) (hI : Abd I) (hIx : ∀ c, Abd (Ix c)) (h0 : I M0 0 w) (hRd : ∀ M m W1, I M m W1 → Rd m W1)
    (hround : ∀ (M : Nat → Prop) (l m : Nat) (x : α) (W : World), I M m W → L[m]? = some x → M l → (∃ r, W.heap[l]? = some (.loop r)) → (∀ k, M k → (M0 k ∨ w.heap.size ≤ k) ∧ k < W.heap.size) →
      assign.wpIn (Fence.wide.inRound l) 0 P (Exit.then (fun a1 W1 => Mk M W W1 ∧ ∀ r, body.wpIn (Fence.wide.inRound l) 0 P (rdPost I Ix M (m + 1) (W1.putObj l (.loop r))) a1 (W1.putObj l (.loop r))) (fun _ _ _ => False))
        { tmps := (ps.zip (encs x)).foldl (fun t (p, v) => t.setIfInBounds p v) a.tmps, defers := [] } W)
    (hdone : ∀ (M : Nat → Prop) (D : Nat) (W : World), I M L.length W → M D → W.heap[D]? = some (.deferred (some [])) → (∀ k, M k → (M0 k ∨ w.heap.size ≤ k) ∧ k < W.heap.size) → Q .normal { a with defers := { target := .collected D, args := #[] } :: a.defers } W)
    (hstop : ∀ (c : Code) (M : Nat → Prop) (D m : Nat) (W : World), m < L.length → Ix c M (m + 1) W → M D → W.heap[D]? = some (.deferred (some [])) → (∀ k, M k → (M0 k ∨ w.heap.size ≤ k) ∧ k < W.heap.size) → c.wpIn Fence.wide n P Q { a with defers := { target := .collected D, args := #[] } :: a.defers } W) :
    (Code.rangeFunc g ps assign body).wpIn Fence.wide n P Q a w := by
  refine wpIn_rangeFunc ?_
  intro fn hfn
  show ∃ (l : Nat) (mark : List Deferred) (w₁ : World) (d : Deferred) (w₁' : World) (f : FuncId) (args : Array Value) (w₂ : World), (Instr.enterLoop fn a.tmps ps assign body none).run P w = .ok (l, mark) w₁ ∧ _
  obtain ⟨rec, hrec⟩ : ∃ rec : LoopState → Option Code → Loop, rec = fun st pe => { state := st, pending := pe, fn, tmps := a.tmps, params := ps, assign, body, defers := w.heap.size } := ⟨_, rfl⟩
  obtain ⟨W1, hW1⟩ : ∃ W1, (w.alloc (.deferred (some []))).alloc (.loop (rec .ready none)) = W1 := ⟨_, rfl⟩
  have hL1 : W1.heap[w.heap.size + 1]? = some (.loop (rec .ready none)) := by
    rw [← hW1]; have := World.alloc_heap_new (w.alloc (.deferred (some []))) (.loop (rec .ready none)); rwa [World.size_alloc] at this
  have hK1 : W1.heap[w.heap.size]? = some (.deferred (some [])) := by
    rw [← hW1]; exact (Below.heap_alloc _ _ _ (by simp)).trans (World.alloc_heap_new w _)
  have hs1 : W1.heap.size = w.heap.size + 2 := by rw [← hW1]; simp
  have hb1 : Below w.heap.size w W1 := by rw [← hW1]; exact ((Below.refl _ w).alloc (Nat.le_refl _) _).alloc (by simp) _
  obtain ⟨B, hB⟩ : ∃ B : (Nat → Prop) → Nat → Prop, B = fun M k => M k ∨ k = w.heap.size ∨ k = w.heap.size + 1 := ⟨_, rfl⟩
  have hBm : ∀ M k, B M k ↔ M k ∨ k = w.heap.size ∨ k = w.heap.size + 1 := fun M k => by rw [hB]
  obtain ⟨J, hJ⟩ : ∃ J : (Nat → Prop) → Nat → World → Prop, J = fun M m W => I (B M) m W ∧ W.heap[w.heap.size + 1]? = some (.loop (rec .ready none)) ∧ W.heap[w.heap.size]? = some (.deferred (some [])) ∧ ¬ M (w.heap.size) ∧ ¬ M (w.heap.size + 1) := ⟨_, rfl⟩
  obtain ⟨Jx, hJx⟩ : ∃ Jx : (Nat → Prop) → Nat → World → Prop, Jx = fun M m W => ∃ c, Ix c (B M) m W ∧ W.heap[w.heap.size + 1]? = some (.loop (rec .done (some c))) ∧ W.heap[w.heap.size]? = some (.deferred (some [])) ∧ ¬ M (w.heap.size) ∧ ¬ M (w.heap.size + 1) := ⟨_, rfl⟩
  have hext : ∀ M M' A C, Ext M M' A C → Ext (B M) (B M') A C := fun M M' A C h k hk => by
    rw [hBm] at hk ⊢
    rcases hk with hk | hk
    · rcases h k hk with h' | h'
      · exact .inl (.inl h')
      · exact .inr h'
    · exact .inl (.inr hk)
  have hAJ : Abd J := by
    intro M M' s A C hs hsep hx
    rw [hJ] at hs ⊢
    obtain ⟨h1, h2, h3, h4, h5⟩ := hs
    have l2 := (Array.getElem?_eq_some_iff.1 h2).1
    exact ⟨hI _ _ s A C h1 (hsep.more (fun k hk => (hBm M k).2 (.inl hk))) (hext _ _ _ _ hx), (hsep.2.2 _ l2 h5).trans h2, (hsep.2.2 _ (by omega) h4).trans h3, hx.lt (by omega) h4, hx.lt l2 h5⟩
  have hAJx : Abd Jx := by
    intro M M' s A C hs hsep hx
    rw [hJx] at hs ⊢
    obtain ⟨c, h1, h2, h3, h4, h5⟩ := hs
    have l2 := (Array.getElem?_eq_some_iff.1 h2).1
    exact ⟨c, hIx c _ _ s A C h1 (hsep.more (fun k hk => (hBm M k).2 (.inl hk))) (hext _ _ _ _ hx), (hsep.2.2 _ l2 h5).trans h2, (hsep.2.2 _ (by omega) h4).trans h3, hx.lt (by omega) h4, hx.lt l2 h5⟩
  refine ⟨w.heap.size + 1, [{ target := .collected w.heap.size, args := #[] }], W1, { target := .fn (.func gf) lb, args := #[.func (.yield (w.heap.size + 1)) #[] #[]] }, W1, gf,
    #[.func (.yield (w.heap.size + 1)) #[] #[]] ++ lb, W1, ?_, ?_, fun _ _ => trivial, ?_, (fun h => by cases h), callsIn_wide.2 ?_⟩
  · rw [← hW1, hrec]; exact run_enterLoop_outer _ _ _ _ _
  · simp only [resolve, hg]
    simp [go_sem]
  · simp [invoke, go_sem, eg]
  · refine (hseq W1 hb1 (w.heap.size + 1) J Jx hAJ hAJx (fun M m W hj => by rw [hJ] at hj; exact hRd _ _ _ hj.1) ?_ ?_).mono ?_
    · -- one round
      intro M m x W hj hx hM
      rw [hJ] at hj
      obtain ⟨hi, hl, hk, hn4, hn5⟩ := hj
      have hlt : w.heap.size + 1 < W.heap.size := (Array.getElem?_eq_some_iff.1 hl).1
      have hBM : ∀ k, B M k → (M0 k ∨ w.heap.size ≤ k) ∧ k < W.heap.size := fun k hk' => by
        rw [hBm] at hk'
        rcases hk' with hk' | rfl | rfl
        · obtain ⟨h1 | h1, h2⟩ := hM k hk'
          · exact ⟨.inl h1, h2⟩
          · exact ⟨.inr (by omega), h2⟩
        · exact ⟨.inr (by omega), by omega⟩
        · exact ⟨.inr (by omega), by omega⟩
      have hy := run_yield (P := P) (args := encs x) hl (by rw [hrec]; exact hps x)
      rw [hrec] at hy
      refine ⟨fn, _, assign, body, hy, roundIn_of_wpIn hfn ?_⟩
      clear hy
      refine wpIn_mono (hround (B M) (w.heap.size + 1) m x W hi hx ((hBm _ _).2 (.inr (.inr rfl))) ⟨_, hl⟩ hBM) ?_
      rintro e a1 Wa ha
      cases e with
      | normal =>
        obtain ⟨hka, hbody⟩ := ha
        have hla := (hka.2 _ ((hBm _ _).2 (.inr (.inr rfl)))).trans hl
        have hkd := (hka.2 _ ((hBm _ _).2 (.inr (.inl rfl)))).trans hk
        have hlta : w.heap.size + 1 < Wa.heap.size := (Array.getElem?_eq_some_iff.1 hla).1
        refine ⟨_, run_beginRound hla (by rw [hrec]), wpIn_mono (hbody _) ?_⟩
        obtain ⟨W2, hW2⟩ : ∃ W2, Wa.putObj (w.heap.size + 1) (.loop { rec .ready none with state := .busy }) = W2 := ⟨_, rfl⟩
        rw [hW2]
        have h2l : W2.heap[w.heap.size + 1]? = some (.loop { rec .ready none with state := .busy }) := by rw [← hW2]; exact World.putObj_heap_same hlta
        have h2o : ∀ k, k ≠ w.heap.size + 1 → W2.heap[k]? = Wa.heap[k]? := fun k hk' => by rw [← hW2]; exact World.putObj_heap_other hk'
        have h2s : W2.heap.size = Wa.heap.size := by rw [← hW2]; simp
        have fin : ∀ (jump : Option Code) (W3 : World), Mk (B M) W2 W3 →
            (Instr.endRound (w.heap.size + 1) jump).run P W3 = .ok (.bool jump.isNone) (W3.putObj (w.heap.size + 1) (.loop (rec (if jump.isNone then .ready else .done) jump))) ∧
            (W3.putObj (w.heap.size + 1) (.loop (rec (if jump.isNone then .ready else .done) jump))).heap[w.heap.size + 1]? = some (.loop (rec (if jump.isNone then .ready else .done) jump)) ∧
            (W3.putObj (w.heap.size + 1) (.loop (rec (if jump.isNone then .ready else .done) jump))).heap[w.heap.size]? = some (.deferred (some [])) ∧
            Mk M W (W3.putObj (w.heap.size + 1) (.loop (rec (if jump.isNone then .ready else .done) jump))) := fun jump W3 hk3 => by
          have hl3 := (hk3.2 _ ((hBm _ _).2 (.inr (.inr rfl)))).trans h2l
          have := run_endRound (P := P) jump hl3
          rw [hrec] at this ⊢
          refine ⟨this, World.putObj_heap_same (Array.getElem?_eq_some_iff.1 hl3).1, ?_, ?_, fun k hk' => ?_⟩
          · rw [World.putObj_heap_other (by omega), hk3.2 _ ((hBm _ _).2 (.inr (.inl rfl))), h2o _ (by omega)]
            exact hkd
          · have a1 := hk3.1
            have a2 := hka.1
            simp; omega
          · have hne : k ≠ w.heap.size + 1 := fun e => hn5 (e ▸ hk')
            rw [World.putObj_heap_other hne, hk3.2 k ((hBm _ _).2 (.inl hk')), h2o k hne]
            exact hka.2 k ((hBm _ _).2 (.inl hk'))
        rintro e a3 W3 hp
        cases e with
        | normal =>
          obtain ⟨hk3, hi3⟩ := hp
          obtain ⟨q1, q2, q3, q4⟩ := fin none W3 hk3
          refine ⟨_, _, q1, q4, .inl ⟨rfl, ?_⟩⟩
          rw [hJ]
          exact ⟨hI _ _ _ _ _ hi3 (Sep.put _ _ ((hBm _ _).2 (.inr (.inr rfl)))) (Ext.refl _ _ _), q2, q3, hn4, hn5⟩
        | ret =>
          obtain ⟨hk3, hi3⟩ := hp
          obtain ⟨q1, q2, q3, q4⟩ := fin (some .ret) W3 hk3
          refine ⟨_, _, q1, q4, .inr ⟨rfl, ?_⟩⟩
          rw [hJx]
          exact ⟨_, hIx _ _ _ _ _ _ hi3 (Sep.put _ _ ((hBm _ _).2 (.inr (.inr rfl)))) (Ext.refl _ _ _), q2, q3, hn4, hn5⟩
        | exit id =>
          obtain ⟨hk3, hi3⟩ := hp
          obtain ⟨q1, q2, q3, q4⟩ := fin (some (.exit id)) W3 hk3
          refine ⟨_, _, q1, q4, .inr ⟨rfl, ?_⟩⟩
          rw [hJx]
          exact ⟨_, hIx _ _ _ _ _ _ hi3 (Sep.put _ _ ((hBm _ _).2 (.inr (.inr rfl)))) (Ext.refl _ _ _), q2, q3, hn4, hn5⟩
        | goto t =>
          obtain ⟨hk3, hi3⟩ := hp
          obtain ⟨q1, q2, q3, q4⟩ := fin (some (.goto t)) W3 hk3
          refine ⟨_, _, q1, q4, .inr ⟨rfl, ?_⟩⟩
          rw [hJx]
          exact ⟨_, hIx _ _ _ _ _ _ hi3 (Sep.put _ _ ((hBm _ _).2 (.inr (.inr rfl)))) (Ext.refl _ _ _), q2, q3, hn4, hn5⟩
        | panic ch => exact hp.elim
        | outgrown => exact hp.elim
      | ret => exact ha.elim
      | exit id => exact ha.elim
      | goto t => exact ha.elim
      | panic ch => exact ha.elim
      | outgrown => exact ha.elim
    · rw [hJ]
      refine ⟨hI _ _ _ _ _ h0 (Sep.of_below hb1) (fun k hk => ?_), hL1, hK1, fun h => by have := hM0 _ h; omega, fun h => by have := hM0 _ h; omega⟩
      rw [hBm] at hk
      rcases hk with hk | rfl | rfl
      · exact .inl hk
      · exact .inr (by omega)
      · exact .inr (by omega)
    · -- behind the function
      rintro e W2 ⟨⟨v, rfl⟩, M, hM, hend⟩
      have hBM : ∀ k, B M k → (M0 k ∨ w.heap.size ≤ k) ∧ (W2.heap.size > w.heap.size + 1 → k < W2.heap.size) := fun k hk' => by
        rw [hBm] at hk'
        rcases hk' with hk' | rfl | rfl
        · obtain ⟨h1 | h1, h2⟩ := hM k hk'
          · exact ⟨.inl h1, fun _ => h2⟩
          · exact ⟨.inr (by omega), fun _ => h2⟩
        · exact ⟨.inr (by omega), fun h => by omega⟩
        · exact ⟨.inr (by omega), fun h => by omega⟩
      have put : ∀ (o : Obj) k, B M k → w.heap.size + 1 < W2.heap.size → (M0 k ∨ w.heap.size ≤ k) ∧ k < (W2.putObj (w.heap.size + 1) o).heap.size := fun o k hk hs => by
        obtain ⟨h1, h2⟩ := hBM k hk
        refine ⟨h1, ?_⟩
        have := h2 hs
        simp; omega
      rcases hend with hj | ⟨m, hm, hj⟩
      · rw [hJ] at hj
        obtain ⟨hi, hl, hk, hn4, hn5⟩ := hj
        have hlt := (Array.getElem?_eq_some_iff.1 hl).1
        refine ⟨none, _, by have := run_endLoop (P := P) hl (by rw [hrec]; simp); rw [hrec] at this; exact this, ?_⟩
        exact hdone (B M) w.heap.size _ (hI _ _ _ _ _ hi (Sep.put _ _ ((hBm _ _).2 (.inr (.inr rfl)))) (Ext.refl _ _ _)) ((hBm _ _).2 (.inr (.inl rfl))) ((World.putObj_heap_other (by omega)).trans hk) (fun k hk' => put _ k hk' hlt)
      · rw [hJx] at hj
        obtain ⟨c, hi, hl, hk, hn4, hn5⟩ := hj
        have hlt := (Array.getElem?_eq_some_iff.1 hl).1
        refine ⟨some c, _, by have := run_endLoop (P := P) hl (by rw [hrec]; simp); rw [hrec] at this; exact this, ?_⟩
        exact hstop c (B M) w.heap.size m _ hm (hIx _ _ _ _ _ _ hi (Sep.put _ _ ((hBm _ _).2 (.inr (.inr rfl)))) (Ext.refl _ _ _)) ((hBm _ _).2 (.inr (.inl rfl))) ((World.putObj_heap_other (by omega)).trans hk) (fun k hk' => put _ k hk' hlt)
/-- a cell is as it was where the record of a loop turns -/
theorem cell_put {W : World} {l : Nat} {r : Obj} {o : Loop} {a : Addr} {v : Value} (hc : W.cell? a = some v) (hl : W.heap[l]? = some (.loop o)) : (W.putObj l r).cell? a = some v := by
  have hne : a.block ≠ l := fun e => by
    unfold World.cell? at hc
    rw [e, hl] at hc
    simp at hc
  exact (World.cell?_of_block (World.putObj_heap_other hne)).trans hc
/-- the one mark is taken at a function's return -/
theorem leave_mark {F : Fence} {n : Nat} {fn : Func} {tmps : Array Value} {R : Ending → World → Prop} {D : Nat} {W : World} (hD : W.heap[D]? = some (.deferred (some [])))
    (h : LeavesInM F n P fn tmps R [] .returning (W.putObj D (.deferred none))) : LeavesInM F n P fn tmps R [{ target := .collected D, args := #[] }] .returning W :=
  ⟨by simp, .inl ⟨_, _, rfl, run_takeDeferred hD, h⟩⟩
theorem round_in {n l l' : Nat} {f : FuncId} {tmps : Array Value} {assign body : Code} {w : World} {R : Ending → World → Prop} (h : RoundIn Fence.wide n P l f tmps assign body w R) : RoundIn (Fence.wide.inRound l') n P l f tmps assign body w R := h
/-- an append whose run is known, within a round and elsewhere -/
theorem wpListIn_app_run {F : Fence} {n : Nat} {w w' : World} {ops : Array Oper} {rest : List Oper} {o : Oper} {a : Act} {Q : Exit → Act → World → Prop} (hg : o.guard = none) (s x : Operand) (t : TypeId)
    (hop : o.op = Op.call { callee := Callee.builtin Builtin.append, args := #[s, x], argTypes := #[t, t] }) (v v2 v' : Value) (hs : a.eval s = v) (hx : a.eval x = v2)
    (hrun : (Builtin.append_ #[t, t] o.type #[v, v2]).run P w = .ok v' w') (hK : wpListIn F n P ops Q rest (a.put o.dst v') w') : wpListIn F n P ops Q (o :: rest) a w := by
  refine wpListIn_plain hg fun K hK' => ?_
  unfold Oper.wpIn
  refine ⟨?_, ?_⟩
  · simp [Oper.about, hop, resolve, Target.leads, Sem.run_pure]
  · rw [Oper.semAt_plain F _ _ (by rw [hop]; intro c hc'; cases hc')]
    simp [execOp, hop, resolve, invoke, builtin, hs, hx, hrun, Result.andThen]
    exact hK' _ _ hK
theorem wpL_app_run {w w' : World} {ops : Array Oper} {rest : List Oper} {o : Oper} {a : Act} {Q : Exit → Act → World → Prop} (hg : o.guard = none) (s x : Operand) (t : TypeId)
    (hop : o.op = Op.call { callee := Callee.builtin Builtin.append, args := #[s, x], argTypes := #[t, t] }) (v v2 v' : Value) (hs : a.eval s = v) (hx : a.eval x = v2)
    (hrun : (Builtin.append_ #[t, t] o.type #[v, v2]).run P w = .ok v' w') (hK : wpList P ops Q rest (a.put o.dst v') w') : wpList P ops Q (o :: rest) a w := by
  refine wpList_plain hg fun K hK' => ?_
  unfold Oper.wp
  simp [execOp, hop, resolve, invoke, builtin, hs, hx, hrun, Result.andThen]
  exact hK' _ _ hK
/-- all the marks are taken at a function's return -/
theorem leave_marks {F : Fence} {n : Nat} {fn : Func} {tmps : Array Value} {R : Ending → World → Prop} : ∀ (Ds : List Nat) (W : World), Ds.Nodup → (∀ D ∈ Ds, W.heap[D]? = some (.deferred (some []))) →
    (∀ W', Sep (· ∈ Ds) W W' → LeavesInM F n P fn tmps R [] .returning W') → LeavesInM F n P fn tmps R (Ds.map fun D => { target := .collected D, args := #[] }) .returning W := by
  intro Ds
  induction Ds with
  | nil => intro W _ _ h; exact h W (Sep.refl _ _)
  | cons D Ds ih =>
    intro W hn hD h
    rw [List.nodup_cons] at hn
    refine ⟨by simp, .inl ⟨_, _, rfl, run_takeDeferred (hD D (by simp)), ih _ hn.2 (fun D' h' => ?_) (fun W' hs => h W' ?_)⟩⟩
    · rw [World.putObj_heap_other (fun (e : D' = D) => hn.1 (e ▸ h'))]
      exact hD D' (by simp [h'])
    · exact (Sep.put W _ (by simp)).trans (hs.more (fun k hk => by simp [hk]))
end Go.Proofs.YtaflggjgndkdlaaDoor
