/-
  Contracts over this program: Each tells all entries, as they stood when it was called.
-/
import Derived.RangeFuncNested
import Derived.RangeFuncBound
import Derived.RangeFuncLeaves
import Derived.Below
import Derived.OwnWalkIn
import Derived.OwnWalk
import Derived.Test.YtlfpkbjiofelkaaGreatDictOk
import Derived.Test.YtlfpkbjiofelkaaGreatDictTale
/-
  A range over a function, whatever that function does with blocks of its own: whose block is whose is said by a set.
-/
namespace Go.Proofs.YtlfpkbjiofelkaaGreat
open Go.RowKit
/-- only M's blocks, and new ones, have turned -/
def Sep (M : Nat → Prop) (A B : World) : Prop := (B.os = A.os ∧ B.tape = A.tape ∧ B.output = A.output) ∧ A.heap.size ≤ B.heap.size ∧ ∀ k, k < A.heap.size → ¬ M k → B.heap[k]? = A.heap[k]?
/-- M's blocks are as they were -/
def Mk (M : Nat → Prop) (A B : World) : Prop := A.heap.size ≤ B.heap.size ∧ ∀ k, M k → B.heap[k]? = A.heap[k]?
/-- M' has no more than M, and new ones -/
def Ext (M M' : Nat → Prop) (A B : World) : Prop := ∀ k, M' k → M k ∨ (A.heap.size ≤ k ∧ k < B.heap.size)
/-- what speaks of no block of M's stays so -/
def Abd (I : (Nat → Prop) → Nat → World → Prop) : Prop := ∀ M M' s A B, I M s A → Sep M A B → Ext M M' A B → I M' s B
theorem Sep.refl (M : Nat → Prop) (A : World) : Sep M A A := ⟨⟨rfl, rfl, rfl⟩, Nat.le_refl _, fun _ _ _ => rfl⟩
theorem Sep.trans {M : Nat → Prop} {A B C : World} (h : Sep M A B) (g : Sep M B C) : Sep M A C :=
  ⟨⟨g.1.1.trans h.1.1, g.1.2.1.trans h.1.2.1, g.1.2.2.trans h.1.2.2⟩, Nat.le_trans h.2.1 g.2.1, fun k hk hm => (g.2.2 k (Nat.lt_of_lt_of_le hk h.2.1) hm).trans (h.2.2 k hk hm)⟩
theorem Sep.more {M M' : Nat → Prop} {A B : World} (h : Sep M A B) (hm : ∀ k, M k → M' k) : Sep M' A B := ⟨h.1, h.2.1, fun k hk hn => h.2.2 k hk (fun e => hn (hm k e))⟩
theorem Sep.of_below {M : Nat → Prop} {A B : World} (h : Below A.heap.size A B) : Sep M A B := ⟨⟨h.os, h.tape, h.output⟩, h.size, fun k hk _ => h.block k hk⟩
theorem Sep.alloc (M : Nat → Prop) (A : World) (o : Obj) : Sep M A (A.alloc o) := Sep.of_below ((Below.refl _ A).alloc (Nat.le_refl _) o)
theorem Sep.put {M : Nat → Prop} (A : World) {l : Nat} (o : Obj) (hl : M l) : Sep M A (A.putObj l o) :=
  ⟨⟨rfl, rfl, rfl⟩, by simp, fun k _ hk => World.putObj_heap_other (fun e => hk (e ▸ hl))⟩
theorem Sep.below {M : Nat → Prop} {A B : World} {n : Nat} (h : Sep M A B) (hn : n ≤ A.heap.size) (hm : ∀ k, M k → n ≤ k) : Below n A B :=
  ⟨h.1.1, h.1.2.1, h.1.2.2, h.2.1, fun k hk => h.2.2 k (by omega) (fun e => by have := hm k e; omega)⟩
theorem Mk.refl (M : Nat → Prop) (A : World) : Mk M A A := ⟨Nat.le_refl _, fun _ _ => rfl⟩
theorem Mk.trans {M : Nat → Prop} {A B C : World} (h : Mk M A B) (g : Mk M B C) : Mk M A C := ⟨Nat.le_trans h.1 g.1, fun k hk => (g.2 k hk).trans (h.2 k hk)⟩
theorem Mk.less {M M' : Nat → Prop} {A B : World} (h : Mk M A B) (hm : ∀ k, M' k → M k) : Mk M' A B := ⟨h.1, fun k hk => h.2 k (hm k hk)⟩
theorem Mk.alloc {M : Nat → Prop} {A : World} (o : Obj) (hm : ∀ k, M k → k < A.heap.size) : Mk M A (A.alloc o) := ⟨by simp, fun k hk => Below.heap_alloc _ _ _ (hm k hk)⟩
theorem Mk.below {M : Nat → Prop} {A B : World} (h : Below A.heap.size A B) (hm : ∀ k, M k → k < A.heap.size) : Mk M A B := ⟨h.size, fun k hk => h.block k (hm k hk)⟩
theorem Ext.refl (M : Nat → Prop) (A B : World) : Ext M M A B := fun _ h => .inl h
theorem Ext.lt {M M' : Nat → Prop} {A B : World} (h : Ext M M' A B) {k : Nat} (hk : k < A.heap.size) (hn : ¬ M k) : ¬ M' k := fun e => by
  rcases h k e with h' | h'
  · exact hn h'
  · omega
theorem Ext.ge {M M' : Nat → Prop} {A B : World} {n : Nat} (h : Ext M M' A B) (hn : n ≤ A.heap.size) (hm : ∀ k, M k → n ≤ k) : ∀ k, M' k → n ≤ k := fun k e => by
  rcases h k e with h' | h'
  · exact hm k h'
  · omega
variable {P : Program}
/-- a call of yield -/
def Yl (P : Program) (l : Nat) (args : Array Value) (W : World) (R : Ending → World → Prop) : Prop := YieldAt Fence.wide 0 P l args W R
theorem Yl.at {l : Nat} {args : Array Value} {W : World} {R : Ending → World → Prop} (h : Yl P l args W R) (m : Nat) :
    ∃ fn tmps assign body, (Instr.yield l args).run P W = .ok (.round l fn tmps assign body) W ∧ RoundIn Fence.wide m P l fn tmps assign body W R := by
  obtain ⟨fn, tmps, assign, body, h1, h2⟩ := h
  exact ⟨fn, tmps, assign, body, h1, h2.1, fun c cs _ => h2.2 c cs (room_wide _)⟩
theorem Yl.mono {l : Nat} {args : Array Value} {W : World} {R R' : Ending → World → Prop} (h : Yl P l args W R) (hr : ∀ e w, R e w → R' e w) : Yl P l args W R' := by
  obtain ⟨fn, tmps, assign, body, h1, h2⟩ := h
  exact ⟨fn, tmps, assign, body, h1, h2.mono hr⟩
theorem wpIn_n {m n l : Nat} {c : Code} {Q : Exit → Act → World → Prop} {a : Act} {w : World} (h : c.wpIn (Fence.wide.inRound l) m P Q a w) : c.wpIn (Fence.wide.inRound l) n P Q a w :=
  fun b k cs h1 h2 _ => h b k cs h1 h2 (fun _ h => by cases h)
/-- what a function that can be ranged over does, called in W: it tells L, one by one; Rd: what it reads on its way -/
def Iter {α : Type} (P : Program) (g : Nat) (lb : Array Value) (encs : α → Array Value) (Rd : Nat → World → Prop) (L : List α) (W : World) : Prop :=
  ∀ (l : Nat) (J Jx : (Nat → Prop) → Nat → World → Prop), Abd J → Abd Jx → (∀ M m W1, J M m W1 → Rd m W1) →
    (∀ M m x W1, J M m W1 → L[m]? = some x → (∀ k, M k → W.heap.size ≤ k ∧ k < W1.heap.size) → Yl P l (encs x) W1 fun e W' => Mk M W1 W' ∧ ((e = .returned (.bool true) ∧ J M (m + 1) W') ∨ (e = .returned (.bool false) ∧ Jx M (m + 1) W'))) →
    J (fun _ => False) 0 W →
    Calls P g (#[.func (.yield l) #[] #[]] ++ lb) W fun e W' => (∃ v, e = .returned v) ∧ ∃ M, (∀ k, M k → W.heap.size ≤ k ∧ k < W'.heap.size) ∧ (J M L.length W' ∨ ∃ m, m < L.length ∧ Jx M (m + 1) W')
/-- how a round may end; W2: where its body began -/
def rdPost (I : (Nat → Prop) → Nat → World → Prop) (Ix : Code → (Nat → Prop) → Nat → World → Prop) (M : Nat → Prop) (s : Nat) (W2 : World) : Exit → Act → World → Prop
  | .normal, _, W3 => Mk M W2 W3 ∧ I M s W3
  | .ret, _, W3 => Mk M W2 W3 ∧ Ix .ret M s W3
  | .exit id, _, W3 => Mk M W2 W3 ∧ Ix (.exit id) M s W3
  | .goto t, _, W3 => Mk M W2 W3 ∧ Ix (.goto t) M s W3
  | .panic _, _, _ => False
  | .outgrown, _, _ => False
/-- the statement 'for .. := range g { .. }' outside of all rounds -/
theorem range_own {α : Type} {n : Nat} {g : Operand} {ps : Array Tmp} {assign body : Code} {Q : Exit → Act → World → Prop} {a : Act} {w : World}
    {gf : Nat} {lb : Array Value} (hg : a.eval g = .func (.func gf) #[] lb) (eg : ∀ args w, (callFunc gf args).run P w = .ok (.enter gf args) w)
    {encs : α → Array Value} {Rd : Nat → World → Prop} {L : List α} (hps : ∀ x, (encs x).size = ps.size)
    (hseq : ∀ W1, Below w.heap.size w W1 → Iter P gf lb encs Rd L W1)
    (I : (Nat → Prop) → Nat → World → Prop) (Ix : Code → (Nat → Prop) → Nat → World → Prop) (hI : Abd I) (hIx : ∀ c, Abd (Ix c)) (h0 : I (fun _ => False) 0 w) (hRd : ∀ M m W1, I M m W1 → Rd m W1)
    (hround : ∀ (M : Nat → Prop) (l m : Nat) (x : α) (W : World), I M m W → L[m]? = some x → M l → (∃ r, W.heap[l]? = some (.loop r)) → (∀ k, M k → w.heap.size ≤ k ∧ k < W.heap.size) →
      assign.wpIn (Fence.wide.inRound l) 0 P (Exit.then (fun a1 W1 => Mk M W W1 ∧ ∀ r, body.wpIn (Fence.wide.inRound l) 0 P (rdPost I Ix M (m + 1) (W1.putObj l (.loop r))) a1 (W1.putObj l (.loop r))) (fun _ _ _ => False))
        { tmps := (ps.zip (encs x)).foldl (fun t (p, v) => t.setIfInBounds p v) a.tmps, defers := [] } W)
    (hdone : ∀ (M : Nat → Prop) (D : Nat) (W : World), I M L.length W → M D → W.heap[D]? = some (.deferred (some [])) → (∀ k, M k → w.heap.size ≤ k ∧ k < W.heap.size) → Q .normal { a with defers := { target := .collected D, args := #[] } :: a.defers } W)
    (hstop : ∀ (c : Code) (M : Nat → Prop) (D m : Nat) (W : World), m < L.length → Ix c M (m + 1) W → M D → W.heap[D]? = some (.deferred (some [])) → (∀ k, M k → w.heap.size ≤ k ∧ k < W.heap.size) → c.wpIn Fence.wide n P Q { a with defers := { target := .collected D, args := #[] } :: a.defers } W) :
    (Code.rangeFunc g ps assign body).wpIn Fence.wide n P Q a w := by
  refine wpIn_rangeFunc ?_
  intro fn hfn
  show ∃ (l : Nat) (mark : List Deferred) (w₁ : World) (d : Deferred) (w₁' : World) (f : FuncId) (args : Array Value) (w₂ : World), (Instr.enterLoop fn a.tmps ps assign body none).run P w = .ok (l, mark) w₁ ∧ _
  obtain ⟨rec, hrec⟩ : ∃ rec : LoopState → Option Code → Loop, rec = fun st pe => { state := st, pending := pe, fn, tmps := a.tmps, params := ps, assign, body, defers := w.heap.size } := ⟨_, rfl⟩
  obtain ⟨W1, hW1⟩ : ∃ W1, (w.alloc (.deferred (some []))).alloc (.loop (rec .ready none)) = W1 := ⟨_, rfl⟩
  have hL1 : W1.heap[w.heap.size + 1]? = some (.loop (rec .ready none)) := by
    rw [← hW1]; have := World.alloc_heap_new (w.alloc (.deferred (some []))) (.loop (rec .ready none)); rwa [World.size_alloc] at this
  have hK1 : W1.heap[w.heap.size]? = some (.deferred (some [])) := by
    rw [← hW1]; exact (Below.heap_alloc _ _ _ (by simp)).trans (World.alloc_heap_new w _)
  have hs1 : W1.heap.size = w.heap.size + 2 := by rw [← hW1]; simp
  have hb1 : Below w.heap.size w W1 := by rw [← hW1]; exact ((Below.refl _ w).alloc (Nat.le_refl _) _).alloc (by simp) _
  obtain ⟨B, hB⟩ : ∃ B : (Nat → Prop) → Nat → Prop, B = fun M k => M k ∨ k = w.heap.size ∨ k = w.heap.size + 1 := ⟨_, rfl⟩
  have hBm : ∀ M k, B M k ↔ M k ∨ k = w.heap.size ∨ k = w.heap.size + 1 := fun M k => by rw [hB]
  obtain ⟨J, hJ⟩ : ∃ J : (Nat → Prop) → Nat → World → Prop, J = fun M m W => I (B M) m W ∧ W.heap[w.heap.size + 1]? = some (.loop (rec .ready none)) ∧ W.heap[w.heap.size]? = some (.deferred (some [])) ∧ ¬ M (w.heap.size) ∧ ¬ M (w.heap.size + 1) := ⟨_, rfl⟩
  obtain ⟨Jx, hJx⟩ : ∃ Jx : (Nat → Prop) → Nat → World → Prop, Jx = fun M m W => ∃ c, Ix c (B M) m W ∧ W.heap[w.heap.size + 1]? = some (.loop (rec .done (some c))) ∧ W.heap[w.heap.size]? = some (.deferred (some [])) ∧ ¬ M (w.heap.size) ∧ ¬ M (w.heap.size + 1) := ⟨_, rfl⟩
  have hext : ∀ M M' A C, Ext M M' A C → Ext (B M) (B M') A C := fun M M' A C h k hk => by
    rw [hBm] at hk ⊢
    rcases hk with hk | hk
    · rcases h k hk with h' | h'
      · exact .inl (.inl h')
      · exact .inr h'
    · exact .inl (.inr hk)
  have hAJ : Abd J := by
    intro M M' s A C hs hsep hx
    rw [hJ] at hs ⊢
    obtain ⟨h1, h2, h3, h4, h5⟩ := hs
    have l2 := (Array.getElem?_eq_some_iff.1 h2).1
    exact ⟨hI _ _ s A C h1 (hsep.more (fun k hk => (hBm M k).2 (.inl hk))) (hext _ _ _ _ hx), (hsep.2.2 _ l2 h5).trans h2, (hsep.2.2 _ (by omega) h4).trans h3, hx.lt (by omega) h4, hx.lt l2 h5⟩
  have hAJx : Abd Jx := by
    intro M M' s A C hs hsep hx
    rw [hJx] at hs ⊢
    obtain ⟨c, h1, h2, h3, h4, h5⟩ := hs
    have l2 := (Array.getElem?_eq_some_iff.1 h2).1
    exact ⟨c, hIx c _ _ s A C h1 (hsep.more (fun k hk => (hBm M k).2 (.inl hk))) (hext _ _ _ _ hx), (hsep.2.2 _ l2 h5).trans h2, (hsep.2.2 _ (by omega) h4).trans h3, hx.lt (by omega) h4, hx.lt l2 h5⟩
  refine ⟨w.heap.size + 1, [{ target := .collected w.heap.size, args := #[] }], W1, { target := .fn (.func gf) lb, args := #[.func (.yield (w.heap.size + 1)) #[] #[]] }, W1, gf,
    #[.func (.yield (w.heap.size + 1)) #[] #[]] ++ lb, W1, ?_, ?_, fun _ _ => trivial, ?_, (fun h => by cases h), callsIn_wide.2 ?_⟩
  · rw [← hW1, hrec]; exact run_enterLoop_outer _ _ _ _ _
  · simp only [resolve, hg]
    simp [go_sem]
  · simp [invoke, go_sem, eg]
  · refine (hseq W1 hb1 (w.heap.size + 1) J Jx hAJ hAJx (fun M m W hj => by rw [hJ] at hj; exact hRd _ _ _ hj.1) ?_ ?_).mono ?_
    · -- one round
      intro M m x W hj hx hM
      rw [hJ] at hj
      obtain ⟨hi, hl, hk, hn4, hn5⟩ := hj
      have hlt : w.heap.size + 1 < W.heap.size := (Array.getElem?_eq_some_iff.1 hl).1
      have hBM : ∀ k, B M k → w.heap.size ≤ k ∧ k < W.heap.size := fun k hk' => by
        rw [hBm] at hk'
        rcases hk' with hk' | rfl | rfl
        · have := hM k hk'; omega
        · omega
        · omega
      have hy := run_yield (P := P) (args := encs x) hl (by rw [hrec]; exact hps x)
      rw [hrec] at hy
      refine ⟨fn, _, assign, body, hy, roundIn_of_wpIn hfn ?_⟩
      clear hy
      refine wpIn_mono (hround (B M) (w.heap.size + 1) m x W hi hx ((hBm _ _).2 (.inr (.inr rfl))) ⟨_, hl⟩ hBM) ?_
      rintro e a1 Wa ha
      cases e with
      | normal =>
        obtain ⟨hka, hbody⟩ := ha
        have hla := (hka.2 _ ((hBm _ _).2 (.inr (.inr rfl)))).trans hl
        have hkd := (hka.2 _ ((hBm _ _).2 (.inr (.inl rfl)))).trans hk
        have hlta : w.heap.size + 1 < Wa.heap.size := (Array.getElem?_eq_some_iff.1 hla).1
        refine ⟨_, run_beginRound hla (by rw [hrec]), wpIn_mono (hbody _) ?_⟩
        obtain ⟨W2, hW2⟩ : ∃ W2, Wa.putObj (w.heap.size + 1) (.loop { rec .ready none with state := .busy }) = W2 := ⟨_, rfl⟩
        rw [hW2]
        have h2l : W2.heap[w.heap.size + 1]? = some (.loop { rec .ready none with state := .busy }) := by rw [← hW2]; exact World.putObj_heap_same hlta
        have h2o : ∀ k, k ≠ w.heap.size + 1 → W2.heap[k]? = Wa.heap[k]? := fun k hk' => by rw [← hW2]; exact World.putObj_heap_other hk'
        have h2s : W2.heap.size = Wa.heap.size := by rw [← hW2]; simp
        have fin : ∀ (jump : Option Code) (W3 : World), Mk (B M) W2 W3 →
            (Instr.endRound (w.heap.size + 1) jump).run P W3 = .ok (.bool jump.isNone) (W3.putObj (w.heap.size + 1) (.loop (rec (if jump.isNone then .ready else .done) jump))) ∧
            (W3.putObj (w.heap.size + 1) (.loop (rec (if jump.isNone then .ready else .done) jump))).heap[w.heap.size + 1]? = some (.loop (rec (if jump.isNone then .ready else .done) jump)) ∧
            (W3.putObj (w.heap.size + 1) (.loop (rec (if jump.isNone then .ready else .done) jump))).heap[w.heap.size]? = some (.deferred (some [])) ∧
            Mk M W (W3.putObj (w.heap.size + 1) (.loop (rec (if jump.isNone then .ready else .done) jump))) := fun jump W3 hk3 => by
          have hl3 := (hk3.2 _ ((hBm _ _).2 (.inr (.inr rfl)))).trans h2l
          have := run_endRound (P := P) jump hl3
          rw [hrec] at this ⊢
          refine ⟨this, World.putObj_heap_same (Array.getElem?_eq_some_iff.1 hl3).1, ?_, ?_, fun k hk' => ?_⟩
          · rw [World.putObj_heap_other (by omega), hk3.2 _ ((hBm _ _).2 (.inr (.inl rfl))), h2o _ (by omega)]
            exact hkd
          · have a1 := hk3.1
            have a2 := hka.1
            simp; omega
          · have hne : k ≠ w.heap.size + 1 := fun e => hn5 (e ▸ hk')
            rw [World.putObj_heap_other hne, hk3.2 k ((hBm _ _).2 (.inl hk')), h2o k hne]
            exact hka.2 k ((hBm _ _).2 (.inl hk'))
        rintro e a3 W3 hp
        cases e with
        | normal =>
          obtain ⟨hk3, hi3⟩ := hp
          obtain ⟨q1, q2, q3, q4⟩ := fin none W3 hk3
          refine ⟨_, _, q1, q4, .inl ⟨rfl, ?_⟩⟩
          rw [hJ]
          exact ⟨hI _ _ _ _ _ hi3 (Sep.put _ _ ((hBm _ _).2 (.inr (.inr rfl)))) (Ext.refl _ _ _), q2, q3, hn4, hn5⟩
        | ret =>
          obtain ⟨hk3, hi3⟩ := hp
          obtain ⟨q1, q2, q3, q4⟩ := fin (some .ret) W3 hk3
          refine ⟨_, _, q1, q4, .inr ⟨rfl, ?_⟩⟩
          rw [hJx]
          exact ⟨_, hIx _ _ _ _ _ _ hi3 (Sep.put _ _ ((hBm _ _).2 (.inr (.inr rfl)))) (Ext.refl _ _ _), q2, q3, hn4, hn5⟩
        | exit id =>
          obtain ⟨hk3, hi3⟩ := hp
          obtain ⟨q1, q2, q3, q4⟩ := fin (some (.exit id)) W3 hk3
          refine ⟨_, _, q1, q4, .inr ⟨rfl, ?_⟩⟩
          rw [hJx]
          exact ⟨_, hIx _ _ _ _ _ _ hi3 (Sep.put _ _ ((hBm _ _).2 (.inr (.inr rfl)))) (Ext.refl _ _ _), q2, q3, hn4, hn5⟩
        | goto t =>
          obtain ⟨hk3, hi3⟩ := hp
          obtain ⟨q1, q2, q3, q4⟩ := fin (some (.goto t)) W3 hk3
          refine ⟨_, _, q1, q4, .inr ⟨rfl, ?_⟩⟩
          rw [hJx]
          exact ⟨_, hIx _ _ _ _ _ _ hi3 (Sep.put _ _ ((hBm _ _).2 (.inr (.inr rfl)))) (Ext.refl _ _ _), q2, q3, hn4, hn5⟩
        | panic ch => exact hp.elim
        | outgrown => exact hp.elim
      | ret => exact ha.elim
      | exit id => exact ha.elim
      | goto t => exact ha.elim
      | panic ch => exact ha.elim
      | outgrown => exact ha.elim
    · rw [hJ]
      refine ⟨hI _ _ _ _ _ h0 (Sep.of_below hb1) (fun k hk => .inr ?_), hL1, hK1, id, id⟩
      rw [hBm] at hk
      rcases hk with hk | rfl | rfl
      · exact hk.elim
      · omega
      · omega
    · -- behind the function
      rintro e W2 ⟨⟨v, rfl⟩, M, hM, hend⟩
      have hBM : ∀ k, B M k → w.heap.size ≤ k ∧ (W2.heap.size > w.heap.size + 1 → k < W2.heap.size) := fun k hk' => by
        rw [hBm] at hk'
        rcases hk' with hk' | rfl | rfl
        · have := hM k hk'; omega
        · omega
        · omega
      have put : ∀ (o : Obj) k, B M k → w.heap.size + 1 < W2.heap.size → w.heap.size ≤ k ∧ k < (W2.putObj (w.heap.size + 1) o).heap.size := fun o k hk hs => by
        have := hBM k hk
        simp; omega
      rcases hend with hj | ⟨m, hm, hj⟩
      · rw [hJ] at hj
        obtain ⟨hi, hl, hk, hn4, hn5⟩ := hj
        have hlt := (Array.getElem?_eq_some_iff.1 hl).1
        refine ⟨none, _, by have := run_endLoop (P := P) hl (by rw [hrec]; simp); rw [hrec] at this; exact this, ?_⟩
        exact hdone (B M) w.heap.size _ (hI _ _ _ _ _ hi (Sep.put _ _ ((hBm _ _).2 (.inr (.inr rfl)))) (Ext.refl _ _ _)) ((hBm _ _).2 (.inr (.inl rfl))) ((World.putObj_heap_other (by omega)).trans hk) (fun k hk' => put _ k hk' hlt)
      · rw [hJx] at hj
        obtain ⟨c, hi, hl, hk, hn4, hn5⟩ := hj
        have hlt := (Array.getElem?_eq_some_iff.1 hl).1
        refine ⟨some c, _, by have := run_endLoop (P := P) hl (by rw [hrec]; simp); rw [hrec] at this; exact this, ?_⟩
        exact hstop c (B M) w.heap.size m _ hm (hIx _ _ _ _ _ _ hi (Sep.put _ _ ((hBm _ _).2 (.inr (.inr rfl)))) (Ext.refl _ _ _)) ((hBm _ _).2 (.inr (.inl rfl))) ((World.putObj_heap_other (by omega)).trans hk) (fun k hk' => put _ k hk' hlt)
/-- a cell is as it was where the record of a loop turns -/
theorem cell_put {W : World} {l : Nat} {r : Obj} {o : Loop} {a : Addr} {v : Value} (hc : W.cell? a = some v) (hl : W.heap[l]? = some (.loop o)) : (W.putObj l r).cell? a = some v := by
  have hne : a.block ≠ l := fun e => by
    unfold World.cell? at hc
    rw [e, hl] at hc
    simp at hc
  exact (World.cell?_of_block (World.putObj_heap_other hne)).trans hc
/-- the one mark is taken at a function's return -/
theorem leave_mark {F : Fence} {n : Nat} {fn : Func} {tmps : Array Value} {R : Ending → World → Prop} {D : Nat} {W : World} (hD : W.heap[D]? = some (.deferred (some [])))
    (h : LeavesInM F n P fn tmps R [] .returning (W.putObj D (.deferred none))) : LeavesInM F n P fn tmps R [{ target := .collected D, args := #[] }] .returning W :=
  ⟨by simp, .inl ⟨_, _, rfl, run_takeDeferred hD, h⟩⟩
theorem round_in {n l l' : Nat} {f : FuncId} {tmps : Array Value} {assign body : Code} {w : World} {R : Ending → World → Prop} (h : RoundIn Fence.wide n P l f tmps assign body w R) : RoundIn (Fence.wide.inRound l') n P l f tmps assign body w R := h
/-- an append whose run is known, within a round and elsewhere -/
theorem wpListIn_app_run {F : Fence} {n : Nat} {w w' : World} {ops : Array Oper} {rest : List Oper} {o : Oper} {a : Act} {Q : Exit → Act → World → Prop} (hg : o.guard = none) (s x : Operand) (t : TypeId)
    (hop : o.op = Op.call { callee := Callee.builtin Builtin.append, args := #[s, x], argTypes := #[t, t] }) (v v2 v' : Value) (hs : a.eval s = v) (hx : a.eval x = v2)
    (hrun : (Builtin.append_ #[t, t] o.type #[v, v2]).run P w = .ok v' w') (hK : wpListIn F n P ops Q rest (a.put o.dst v') w') : wpListIn F n P ops Q (o :: rest) a w := by
  refine wpListIn_plain hg fun K hK' => ?_
  unfold Oper.wpIn
  refine ⟨?_, ?_⟩
  · simp [Oper.about, hop, resolve, Target.leads, Sem.run_pure]
  · rw [Oper.semAt_plain F _ _ (by rw [hop]; intro c hc'; cases hc')]
    simp [execOp, hop, resolve, invoke, builtin, hs, hx, hrun, Result.andThen]
    exact hK' _ _ hK
theorem wpL_app_run {w w' : World} {ops : Array Oper} {rest : List Oper} {o : Oper} {a : Act} {Q : Exit → Act → World → Prop} (hg : o.guard = none) (s x : Operand) (t : TypeId)
    (hop : o.op = Op.call { callee := Callee.builtin Builtin.append, args := #[s, x], argTypes := #[t, t] }) (v v2 v' : Value) (hs : a.eval s = v) (hx : a.eval x = v2)
    (hrun : (Builtin.append_ #[t, t] o.type #[v, v2]).run P w = .ok v' w') (hK : wpList P ops Q rest (a.put o.dst v') w') : wpList P ops Q (o :: rest) a w := by
  refine wpList_plain hg fun K hK' => ?_
  unfold Oper.wp
  simp [execOp, hop, resolve, invoke, builtin, hs, hx, hrun, Result.andThen]
  exact hK' _ _ hK
/-- all the marks are taken at a function's return -/
theorem leave_marks {F : Fence} {n : Nat} {fn : Func} {tmps : Array Value} {R : Ending → World → Prop} : ∀ (Ds : List Nat) (W : World), Ds.Nodup → (∀ D ∈ Ds, W.heap[D]? = some (.deferred (some []))) →
    (∀ W', Sep (· ∈ Ds) W W' → LeavesInM F n P fn tmps R [] .returning W') → LeavesInM F n P fn tmps R (Ds.map fun D => { target := .collected D, args := #[] }) .returning W := by
  intro Ds
  induction Ds with
  | nil => intro W _ _ h; exact h W (Sep.refl _ _)
  | cons D Ds ih =>
    intro W hn hD h
    rw [List.nodup_cons] at hn
    refine ⟨by simp, .inl ⟨_, _, rfl, run_takeDeferred (hD D (by simp)), ih _ hn.2 (fun D' h' => ?_) (fun W' hs => h W' ?_)⟩⟩
    · rw [World.putObj_heap_other (fun (e : D' = D) => hn.1 (e ▸ h'))]
      exact hD D' (by simp [h'])
    · exact (Sep.put W _ (by simp)).trans (hs.more (fun k hk => by simp [hk]))
end Go.Proofs.YtlfpkbjiofelkaaGreat

/-
  Contracts over this program: a chain is gone through from its head on, by the own law for ranging.
-/
namespace Go.Proofs.YtlfpkbjiofelkaaGreat
open Go.RowKit Go.Shelf
attribute [local go_sem] Oper.semAt_some
/-- what is told of a chain: the places fall -/
def bkL : List Ent → List (Nat × Ent)
  | [] => []
  | e :: c => (c.length, e) :: bkL c
def bkV (x : Nat × Ent) : Array Value := #[.int .i64 (x.1 : Int), .agg #[.string x.2.1]]
theorem bkL_len (c : List Ent) : (bkL c).length = c.length := by
  induction c with
  | nil => rfl
  | cons e c ih => simp [bkL, ih]
theorem bkL_at {c : List Ent} : ∀ {m : Nat} {e : Ent}, c[m]? = some e → (bkL c)[m]? = some (c.length - 1 - m, e) := by
  induction c with
  | nil => intro m e h; simp at h
  | cons d c ih =>
    intro m e h
    cases m with
    | zero => simp at h; simp [bkL, h]
    | succ m =>
      rw [List.getElem?_cons_succ] at h
      have := ih h
      simp only [bkL, List.getElem?_cons_succ, this, List.length_cons]
      rw [show c.length + 1 - 1 - (m + 1) = c.length - 1 - m by omega]
theorem bkL_is {c : List Ent} {m : Nat} {x : Nat × Ent} (h : (bkL c)[m]? = some x) : c[m]? = some x.2 := by
  have hl := (List.getElem?_eq_some_iff.1 h).1
  rw [bkL_len] at hl
  have h1 := List.getElem?_eq_getElem hl
  have := bkL_at h1
  rw [h] at this
  rw [h1, Option.some.inj this]
theorem rev_of {c : List Ent} {m : Nat} (h : m < c.length) : c.reverse[m]? = c[c.length - 1 - m]? := List.getElem?_reverse h
set_option maxRecDepth 100000 in
set_option maxHeartbeats 2000000 in
theorem back_iter (Bs : Nat) (v : Value) (c : List Ent) (W : World) :
    Iter Tryz.prog 115 #[.pointer (some ⟨Bs, 0, none⟩)] bkV (fun _ W1 => W1.cell? ⟨Bs, 0, none⟩ = some v ∧ Chn W1 v c) (bkL c) W := by
  intro l J Jx hJ hJx hRd hY h0
  obtain ⟨hBs, hC⟩ := hRd _ _ _ h0
  obtain ⟨co, cc, rfl⟩ := chn_len hC
  have hlen : c.length ≤ 9223372036854775807 := by
    rcases hC.form with ⟨_, rfl⟩ | ⟨g, cap, _, _, h1, h2⟩
    · simp
    · unfold maxLen at h2; omega
  have HY := keep hY
  have HRD := keep hRd
  clear hC hY hRd
  obtain ⟨L, hL⟩ : ∃ L, c.length = L := ⟨_, rfl⟩
  rw [hL] at hBs hlen
  have HL := keep hL
  have H0 := keep h0
  clear h0 hL hJ hJx
  have hw0 : IntKind.i64.wrap ((L : Int) - 1) = (L : Int) - 1 := by rw [IntKind.wrap_i64]; omega
  refine (callsIn_wide (n := 5)).1 (callsIn_of_wp Tryz.func115 rfl trivial ?_ rfl)
  simp only [Tryz.ntmps115, List.size_toArray, List.length_cons, List.length_nil, Nat.reduceAdd, Nat.reduceSub, Array.replicate_succ, Array.replicate_zero, List.push_toArray, List.append_toArray, List.nil_append, List.cons_append]
  gi_wp2
  clear hw0 hBs
  gi_loopw [3] (fun i wr => ∃ m : Nat, m ≤ L ∧ i = .int .i64 ((m : Int) - 1) ∧ Kept (J (fun _ => False) (L - m) wr)) (fun i _ => (intOf i + 1).toNat)
  case atStart => exact ⟨L, Nat.le_refl _, rfl, by show J _ _ _; rw [Nat.sub_self]; exact H0.out⟩
  case round =>
    obtain ⟨m, hm, rfl, KJ⟩ := hrel
    have hrd := HRD.out _ _ _ KJ.out
    have hBs : wr.cell? ⟨Bs, 0, none⟩ = some (.slice co L cc) := by rw [hrd.1, HL.out]
    cases m with
    | zero =>
      clear hBs hrd
      gi_wp2
      go_end0
      refine ⟨⟨_, rfl⟩, fun _ => False, fun _ h => h.elim, .inl ?_⟩
      rw [bkL_len, HL.out]
      exact KJ.out
    | succ m =>
      have em : ((m + 1 : Nat) : Int) - 1 = (m : Int) := by omega
      rw [em]
      obtain ⟨e, he⟩ := rev_some (c := c) (k := m) (by rw [HL.out]; omega)
      have he2 : c[L - (m + 1)]? = some e := by rw [← he, rev_of (by rw [HL.out]; omega), HL.out, show L - 1 - m = L - (m + 1) by omega]
      have hx := bkL_at he2
      rw [HL.out, show L - 1 - (L - (m + 1)) = m by omega] at hx
      have hmem : e ∈ c := List.mem_reverse.1 (List.mem_of_getElem? he)
      rcases hrd.2.form with ⟨hh, hcn⟩ | ⟨g, cap, hh, hg, _, _⟩
      · rw [hcn] at hmem; cases hmem
      · cases hh
        obtain ⟨l1, l2⟩ := hrd.2.at he
        clear hrd he he2
        obtain ⟨fn, tmps, assign, body, hy, hR⟩ := (HY.out _ _ _ wr KJ.out hx (fun _ h => h.elim)).at (5 - 1)
        obtain ⟨e1, e2⟩ := e
        unfold bkV at hy
        dsimp only at hy l1 l2
        have hm0 : (0 : Int) ≤ (m : Int) := by omega
        have hm1 : (m : Int) < (L : Int) := by omega
        have hmw : IntKind.i64.wrap ((m : Int) - 1) = (m : Int) - 1 := by rw [IntKind.wrap_i64]; omega
        have hLm : L - (m + 1) + 1 = L - m := by omega
        rw [hLm] at hR
        have HR := keep hR
        clear hmem em hx hLm hR
        gi_wp2
        refine RoundIn.mono HR.out ?_
        rintro e W3 ⟨_, (⟨rfl, hJ3⟩ | ⟨rfl, hJx3⟩)⟩
        · have K3 := keep hJ3
          clear hJ3
          gi_wp2
          go_roundw
          case rel => exact ⟨m, by omega, rfl, K3⟩
          case measure => simp [intOf]
        · have K3 := keep hJx3
          clear hJx3
          gi_wp2
          refine bodyPost_ret (results_none rfl _ _ _) rfl ?_
          refine ⟨⟨_, rfl⟩, fun _ => False, fun _ h => h.elim, .inr ⟨L - (m + 1), by rw [bkL_len, HL.out]; omega, ?_⟩⟩
          rw [show L - (m + 1) + 1 = L - m by omega]
          exact K3.out
end Go.Proofs.YtlfpkbjiofelkaaGreat

/-
  Contracts over this program: the live buckets.
-/
namespace Go.Proofs.YtlfpkbjiofelkaaGreat
open Go.RowKit Go.Shelf
set_option maxHeartbeats 400000 in
theorem liveb_at (w : World) (r : Roles) (b seed n : Nat) (s : Dc.St ByteArray Unit) (hD : Dct w r b seed n s) (hp : s.pos ≤ s.old.length) (hm0 : s.old.length ≤ 5400000000000) (hm1 : s.young.length ≤ 5400000000000) :
    Calls Tryz.prog 93 #[.pointer (some ⟨b, 0, none⟩)] w fun e w' => e = .returned (.int .i64 ((Dc.opened s).length : Nat)) ∧ ∃ q, w' = w.drewN q := by
  obtain ⟨ao, ca, bo, cb, h4, h5, h3⟩ := hD.cells
  obtain ⟨c0, c1, c2, c3, c4, cf⟩ := five h3
  have hl : (((Dc.opened s).length : Nat) : Int) = (s.old.length : Int) - (s.pos : Int) + (s.young.length : Int) := by unfold Dc.opened; rw [List.length_append, List.length_drop]; omega
  have hw1 : IntKind.i64.wrap ((s.old.length : Int) - (s.pos : Int)) = (s.old.length : Int) - (s.pos : Int) := by rw [IntKind.wrap_i64]; omega
  have hw2 : IntKind.i64.wrap ((s.old.length : Int) - (s.pos : Int) + (s.young.length : Int)) = (s.old.length : Int) - (s.pos : Int) + (s.young.length : Int) := by rw [IntKind.wrap_i64]; omega
  rw [hl]
  clear hD h4 h5 h3 c0 c1 cf hl
  go_enter Tryz.func93, Tryz.ntmps93
  go_wp2_with fail
  go_quiet (fail)
  go_wp2
  go_ret
  exact ⟨rfl, nq, rfl⟩
set_option maxHeartbeats 1000000 in
theorem live_at (w : World) (r : Roles) (b seed n : Nat) (s : Dc.St ByteArray Unit) (hD : Dct w r b seed n s) (hp : s.pos ≤ s.old.length) (hm0 : s.old.length ≤ 5400000000000) (hm1 : s.young.length ≤ 5400000000000) (i : Nat) (c : List Ent) (hi : (Dc.opened s)[i]? = some c) :
    Calls Tryz.prog 95 #[.pointer (some ⟨b, 0, none⟩), .int .i64 i] w fun e w' => (∃ ao cap, e = .returned (.slice ao c.length cap) ∧ Chn w (.slice ao c.length cap) c ∧ ∀ k, (Value.slice ao c.length cap).ownBlock = some k → r k ≠ (0, 0)) ∧ ∃ q, w' = w.drewN q := by
  obtain ⟨ao, ca, bo, cb, h4, h5, h3⟩ := hD.cells
  obtain ⟨c0, c1, c2, c3, c4, cf⟩ := five h3
  have hw1 : IntKind.i64.wrap ((s.old.length : Int) - (s.pos : Int)) = (s.old.length : Int) - (s.pos : Int) := by rw [IntKind.wrap_i64]; omega
  have hil := (List.getElem?_eq_some_iff.1 hi).1
  have hll : (Dc.opened s).length = s.old.length - s.pos + s.young.length := by unfold Dc.opened; rw [List.length_append, List.length_drop]
  rw [hll] at hil
  clear hD h3 c0 c1 cf hll
  unfold Dc.opened at hi
  by_cases hlt : i < s.old.length - s.pos
  · rw [List.getElem?_append_left (by rw [List.length_drop]; exact hlt), List.getElem?_drop] at hi
    obtain ⟨g, ca', e4, hrg, hgl⟩ := h4.form (by omega)
    have e5 : ao = some ⟨g, 0, none⟩ := by injection e4
    subst e5
    clear e4
    obtain ⟨v, hv1, hv2, hv3⟩ := h4.at hi
    obtain ⟨co, cc, rfl⟩ := chn_len hv2
    have HV := keep hv2
    have HR : Kept (∀ k, (Value.slice co c.length cc).ownBlock = some k → r k ≠ (0, 0)) := fun k hk => by rw [hv3 k hk]; simp
    clear hv2 hv3 h4 h5 hi
    have l1 : ¬ (s.old.length : Int) - (s.pos : Int) ≤ (i : Int) := by omega
    have d1 : decide ((s.old.length : Int) - (s.pos : Int) ≤ (i : Int)) = false := decide_eq_false l1
    have hw2 : IntKind.i64.wrap ((s.pos : Int) + (i : Int)) = ((s.pos + i : Nat) : Int) := by rw [IntKind.wrap_i64]; omega
    have j0 : (0 : Int) ≤ ((s.pos + i : Nat) : Int) := by omega
    have j1 : ((s.pos + i : Nat) : Int) < (s.old.length : Int) := by omega
    generalize s.pos + i = j at *
    go_enter Tryz.func95, Tryz.ntmps95
    go_wp2_with fail
    go_quiet (fail)
    go_wp2_with fail
    go_quiet (fail)
    go_wp2
    go_ret
    exact ⟨⟨co, cc, rfl, HV.out, HR.out⟩, _, World.drewN_drewN _ _ _⟩
  · rw [List.getElem?_append_right (by rw [List.length_drop]; omega), List.length_drop] at hi
    obtain ⟨g, ca', e4, hrg, hgl⟩ := h5.form (by omega)
    have e5 : bo = some ⟨g, 0, none⟩ := by injection e4
    subst e5
    clear e4
    obtain ⟨v, hv1, hv2, hv3⟩ := h5.at hi
    obtain ⟨co, cc, rfl⟩ := chn_len hv2
    have HV := keep hv2
    have HR : Kept (∀ k, (Value.slice co c.length cc).ownBlock = some k → r k ≠ (0, 0)) := fun k hk => by rw [hv3 k hk]; simp
    clear hv2 hv3 h4 h5 hi
    have l1 : (s.old.length : Int) - (s.pos : Int) ≤ (i : Int) := by omega
    have d1 : decide ((s.old.length : Int) - (s.pos : Int) ≤ (i : Int)) = true := decide_eq_true l1
    have hw2 : IntKind.i64.wrap ((i : Int) - ((s.old.length : Int) - (s.pos : Int))) = ((i - (s.old.length - s.pos) : Nat) : Int) := by rw [IntKind.wrap_i64]; omega
    have j0 : (0 : Int) ≤ ((i - (s.old.length - s.pos) : Nat) : Int) := by omega
    have j1 : ((i - (s.old.length - s.pos) : Nat) : Int) < (s.young.length : Int) := by omega
    generalize i - (s.old.length - s.pos) = j at *
    go_enter Tryz.func95, Tryz.ntmps95
    go_wp2_with fail
    go_quiet (fail)
    go_wp2
    go_ret
    exact ⟨⟨co, cc, rfl, HV.out, HR.out⟩, nq, rfl⟩
end Go.Proofs.YtlfpkbjiofelkaaGreat

/-
  Contracts over this program: all the entries of a dict, bucket by bucket.
-/
namespace Go.Proofs.YtlfpkbjiofelkaaGreat
open Go.RowKit Go.Shelf
attribute [local go_sem] Oper.semAt_some
def allV (e : Ent) : Array Value := #[.agg #[.string e.1]]
/-- how many entries the first i buckets have -/
def offs (s : Dc.St ByteArray Unit) (i : Nat) : Nat := ((Dc.opened s).take i).flatten.length
theorem offs_succ {s : Dc.St ByteArray Unit} {i : Nat} {c : List Ent} (h : (Dc.opened s)[i]? = some c) : offs s (i + 1) = offs s i + c.length := by
  obtain ⟨hi, e⟩ := List.getElem?_eq_some_iff.1 h
  unfold offs
  rw [List.take_succ_eq_append_getElem hi, List.flatten_append, List.length_append, e]
  simp
theorem offs_all (s : Dc.St ByteArray Unit) : offs s (Dc.opened s).length = (Dc.all s).length := by
  unfold offs
  rw [List.take_length, Dc.opened_all]
theorem offs_at {s : Dc.St ByteArray Unit} {i m : Nat} {c : List Ent} {e : Ent} (h : (Dc.opened s)[i]? = some c) (he : c[m]? = some e) : (Dc.all s)[offs s i + m]? = some e := by
  obtain ⟨hi, e1⟩ := List.getElem?_eq_some_iff.1 h
  rw [← Dc.opened_all]
  have hsp : (Dc.opened s).flatten = ((Dc.opened s).take i).flatten ++ (c ++ ((Dc.opened s).drop (i + 1)).flatten) := by
    rw [← e1, ← List.flatten_cons, ← List.drop_eq_getElem_cons hi, ← List.flatten_append, List.take_append_drop]
  rw [hsp]
  unfold offs
  rw [List.getElem?_append_right (by omega), Nat.add_sub_cancel_left, List.getElem?_append_left (List.getElem?_eq_some_iff.1 he).1]
  exact he
/-- what all's function holds between two buckets -/
def AllS (J : (Nat → Prop) → Nat → World → Prop) (W : World) (l Y0 t0 : Nat) (M : Nat → Prop) (Ds : List Nat) (m : Nat) (w : World) : Prop :=
  J M m w ∧ w.heap[Y0]? = some (.cells #[.func (.yield l) #[] #[]] t0 (0, 0)) ∧ M Y0 ∧ (∀ k, M k → W.heap.size ≤ k ∧ k < w.heap.size) ∧ Ds.Nodup ∧ (∀ D ∈ Ds, M D ∧ w.heap[D]? = some (.deferred (some []))) ∧ W.heap.size ≤ w.heap.size
/-- what it holds between two entries of a bucket; M': the blocks of the going through the bucket, Bi: the box of the chain -/
def AllI (J : (Nat → Prop) → Nat → World → Prop) (l Y0 t0 Bi t1 : Nat) (cv : Value) (M : Nat → Prop) (Ds : List Nat) (off : Nat) (M' : Nat → Prop) (m : Nat) (w : World) : Prop :=
  J (fun k => M k ∨ M' k ∨ k = Bi) (off + m) w ∧ (¬ M' Y0 ∧ w.heap[Y0]? = some (.cells #[.func (.yield l) #[] #[]] t0 (0, 0))) ∧ (¬ M' Bi ∧ w.heap[Bi]? = some (.cells #[cv] t1 (0, 0))) ∧ (∀ D ∈ Ds, ¬ M' D ∧ w.heap[D]? = some (.deferred (some []))) ∧ (∀ k, M k → ¬ M' k ∧ k < w.heap.size)
theorem AllI.abd {J : (Nat → Prop) → Nat → World → Prop} {l Y0 t0 Bi t1 : Nat} {cv : Value} {M : Nat → Prop} {Ds : List Nat} {off : Nat} (hJ : Abd J) : Abd (AllI J l Y0 t0 Bi t1 cv M Ds off) := by
  rintro M1 M2 m A B ⟨h1, ⟨h2, h2'⟩, ⟨h3, h3'⟩, h4, h5⟩ hs hx
  have keepB : ∀ k o, ¬ M1 k → A.heap[k]? = some o → ¬ M2 k ∧ B.heap[k]? = some o := fun k o hn ho => by
    have hl := (Array.getElem?_eq_some_iff.1 ho).1
    exact ⟨hx.lt hl hn, (hs.2.2 k hl hn).trans ho⟩
  refine ⟨hJ _ _ _ _ _ h1 (hs.more (fun k hk => .inr (.inl hk))) (fun k hk => ?_), keepB _ _ h2 h2', keepB _ _ h3 h3', fun D hD => keepB _ _ (h4 D hD).1 (h4 D hD).2, fun k hk => ?_⟩
  · rcases hk with hk | hk | hk
    · exact .inl (.inl hk)
    · rcases hx k hk with h | h
      · exact .inl (.inr (.inl h))
      · exact .inr h
    · exact .inl (.inr (.inr hk))
  · obtain ⟨q1, q2⟩ := h5 k hk
    exact ⟨hx.lt q2 q1, Nat.lt_of_lt_of_le q2 hs.2.1⟩
set_option maxRecDepth 100000 in
set_option maxHeartbeats 2000000 in
theorem all_iter (Bd b seed n : Nat) (r : Roles) (s : Dc.St ByteArray Unit) (W0 W : World) (hD : Dct W0 r b seed n s) (hp : s.pos ≤ s.old.length) (hm0 : s.old.length ≤ 5400000000000) (hm1 : s.young.length ≤ 5400000000000) :
    Iter Tryz.prog 92 #[.pointer (some ⟨Bd, 0, none⟩)] allV (fun _ W1 => Below W0.heap.size W0 W1 ∧ W1.cell? ⟨Bd, 0, none⟩ = some (.pointer (some ⟨b, 0, none⟩))) (Dc.all s) W := by
  intro l J Jx hJ hJx hRd hY h0
  have hDk : ∀ W1, Below W0.heap.size W0 W1 → Dct W1 r b seed n s := fun W1 hb => hD.below hb
  have hsep0 : Sep (fun _ => False) W (W.alloc (.cells #[.func (.yield l) #[] #[]] 131)) := Sep.alloc _ _ _
  have h1 : J (fun k => k = W.heap.size) 0 (W.alloc (.cells #[.func (.yield l) #[] #[]] 131)) := hJ _ _ _ _ _ h0 hsep0 (fun k hk => .inr (by subst hk; simp))
  obtain ⟨hb1, hc1⟩ := hRd _ _ _ h1
  obtain ⟨T, hT⟩ : ∃ T, (Dc.opened s).length = T := ⟨_, rfl⟩
  have hTm : T ≤ 10800000000000 := by rw [← hT]; unfold Dc.opened; rw [List.length_append, List.length_drop]; omega
  have mB := liveb_at _ r b seed n s (hDk _ hb1) hp hm0 hm1
  rw [hT] at mB
  have hS1 : AllS J W l W.heap.size 131 (fun k => k = W.heap.size) [] 0 (W.alloc (.cells #[.func (.yield l) #[] #[]] 131)) :=
    ⟨h1, heap_alloc_new _ _, rfl, fun k hk => by subst hk; simp, List.nodup_nil, fun D h => by simp at h, by simp⟩
  have HT := keep hT
  have HRD := keep hRd
  have HY := keep hY
  have HS1 := keep hS1
  have HDK := keep hDk
  clear hT hRd hY hS1 hDk h0 h1 hsep0 hb1
  refine callsIn_wide (n := 9) |>.1 (callsIn_of_wp_marks Tryz.func92 rfl trivial (wpIn_wide.2 ?_) rfl)
  simp only [Tryz.ntmps92, List.size_toArray, List.length_cons, List.length_nil, Nat.reduceAdd, Nat.reduceSub, Array.replicate_succ, Array.replicate_zero, List.push_toArray, List.append_toArray, List.nil_append, List.cons_append]
  go_wp2_with fail
  refine mB.mono ?_
  rintro _ w2 ⟨rfl, q, hw2⟩
  have HS2 : Kept (AllS J W l W.heap.size 131 (fun k => k = W.heap.size) [] 0 w2) := by
    subst hw2
    obtain ⟨a1, a2, a3, a4, a5, a6, a7⟩ := HS1.out
    exact ⟨hJ _ _ _ _ _ a1 (Sep.of_below (below_drewN (Below.refl _ _) q)) (Ext.refl _ _ _), a2, a3, a4, a5, a6, a7⟩
  clear hw2 mB HS1 hc1
  go_wp2
  refine wp_loop (fun a w' => ∃ (i : Nat) (M : Nat → Prop) (Ds : List Nat) (v3 v11 v12 v13 v14 v15 v16 v23 : Value), i ≤ T ∧ a = { tmps := #[.func (.yield l) #[] #[], .pointer (some ⟨Bd, 0, none⟩), .pointer (some ⟨W.heap.size, 0, none⟩), v3, undef, undef, .pointer (some ⟨b, 0, none⟩), .bool false, .pointer (some ⟨b, 0, none⟩), .int .i64 T, .int .i64 i, v11, v12, v13, v14, v15, v16, undef, undef, undef, undef, undef, undef, v23], defers := Ds.map fun D => { target := .collected D, args := #[] } } ∧ Kept (AllS J W l W.heap.size 131 M Ds (offs s i) w')) (fun a _ => T - (intOf (a.tmps.getD 10 undef)).toNat) ⟨0, _, [], _, _, _, _, _, _, _, _, Nat.zero_le _, rfl, HS2⟩ ?_
  rintro a wr ⟨i, M, Ds, v3, v11, v12, v13, v14, v15, v16, v23, hi, rfl, KS⟩
  obtain ⟨hbW, hcB⟩ := HRD.out _ _ _ KS.out.1
  by_cases hlt : i < T
  · have hltz : (i : Int) < (T : Int) := by omega
    obtain ⟨c0, hc⟩ : ∃ c, (Dc.opened s)[i]? = some c := ⟨_, List.getElem?_eq_getElem (by rw [HT.out]; exact hlt)⟩
    have mV := live_at wr r b seed n s (HDK.out _ hbW) hp hm0 hm1 i c0 hc
    have HC := keep hc
    have HBW := keep hbW
    clear hc hbW
    go_wp2_with fail
    refine mV.mono ?_
    rintro _ w3 ⟨⟨ao, cap, rfl, hChn, hrole⟩, q3, hw3⟩
    have hb3 : Below wr.heap.size wr w3 := by rw [hw3]; exact below_drewN (Below.refl _ _) q3
    have hz3 : w3.heap.size = wr.heap.size := by rw [hw3]; rfl
    clear mV hw3
    go_wp2_with fail
    refine (back_any _ _ _ _).mono ?_
    rintro _ w4 ⟨rfl, hw4⟩
    have hb4 : Below wr.heap.size wr w4 := by rw [hw4]; exact hb3.alloc hb3.size _
    have hz4 : w4.heap.size = wr.heap.size + 1 := by rw [hw4]; simp [hz3]
    have hB4 : w4.heap[wr.heap.size]? = some (.cells #[.slice ao c0.length cap] 107 (0, 0)) := by rw [hw4, ← hz3]; exact heap_alloc_new _ _
    rw [hz3]
    clear hw4 hb3 hz3
    go_wp2
    obtain ⟨a1, a2, a3, a4, a5, a6, a7⟩ := KS.out
    have hI0 : AllI J l W.heap.size 131 wr.heap.size 107 (.slice ao c0.length cap) M Ds (offs s i) (fun _ => False) 0 w4 := by
      refine ⟨hJ _ _ _ _ _ a1 (Sep.of_below hb4) (fun k hk => ?_), ⟨id, (hb4.block _ (a4 _ a3).2).trans a2⟩, ⟨id, hB4⟩, fun D hD => ⟨id, (hb4.block _ (a4 _ (a6 D hD).1).2).trans (a6 D hD).2⟩, fun k hk => ⟨id, by have := (a4 k hk).2; omega⟩⟩
      rcases hk with hk | hk | hk
      · exact .inl hk
      · exact hk.elim
      · exact .inr (by omega)
    have HB4 := keep hB4
    have HI0 := keep hI0
    clear hB4 hI0
    refine (wpIn_wide (n := 9)).1 (range_own (α := Nat × Ent) (gf := 115) (lb := #[.pointer (some ⟨wr.heap.size, 0, none⟩)]) rfl (enters_of Tryz.func115 (by kernel_rfl) rfl) (encs := bkV) (L := bkL c0) (fun _ => rfl)
      (fun W1 _ => back_iter wr.heap.size (.slice ao c0.length cap) c0 W1)
      (AllI J l W.heap.size 131 wr.heap.size 107 (.slice ao c0.length cap) M Ds (offs s i)) (fun c M' m w' => c = .ret ∧ AllI Jx l W.heap.size 131 wr.heap.size 107 (.slice ao c0.length cap) M Ds (offs s i) M' m w') (AllI.abd hJ) ?ax HI0.out ?rd ?round ?done ?stop)
    case ax => exact fun c M1 M2 m A B h hs hx => ⟨h.1, AllI.abd hJx _ _ _ _ _ h.2 hs hx⟩
    case rd =>
      rintro M1 m W1 ⟨j1, _, ⟨_, hBx⟩, _⟩
      refine ⟨by rw [cell_of_row _ _ _ _ _ _ hBx]; rfl, own_kept hChn (fun k hk => ?_)⟩
      have hk0 := hD.1 k (hrole k hk)
      exact ((HRD.out _ _ _ j1).1.block k hk0).trans (HBW.out.block k hk0).symm
    case round =>
      intro M' l' m x W1 hI hx hl hrec hM'
      have he := bkL_is hx
      have hat := offs_at HC.out he
      obtain ⟨i0, e1, e2⟩ := x
      dsimp only at he hat
      have HI := keep hI
      have HAT := keep hat
      have HM' := keep hM'
      obtain ⟨r0, hr0'⟩ := hrec
      have HREC := keep hr0'
      clear hI hat hM' he hx hr0'
      unfold bkV
      gi_wp2
      refine ⟨Mk.alloc _ (fun k hk => (HM'.out k hk).2), fun rl => ?_⟩
      obtain ⟨W2, hW2⟩ : ∃ W2, (W1.alloc (.cells #[.string e1] 105)).putObj l' (.loop rl) = W2 := ⟨_, rfl⟩
      rw [hW2]
      obtain ⟨j1, ⟨j2, j2'⟩, ⟨j3, j3'⟩, j4, j5⟩ := HI.out
      have hll : l' < W1.heap.size := (HM'.out l' hl).2
      have hz2 : W2.heap.size = W1.heap.size + 1 := by rw [← hW2]; simp
      have h2o : ∀ k, k < W1.heap.size → k ≠ l' → W2.heap[k]? = W1.heap[k]? := fun k hk hn => by rw [← hW2, World.putObj_heap_other hn]; exact Below.heap_alloc _ _ _ hk
      have h2n : W2.heap[W1.heap.size]? = some (.cells #[.string e1] 105 (0, 0)) := by rw [← hW2, World.putObj_heap_other (by omega)]; exact heap_alloc_new _ _
      have hs2 : Sep (fun k => M k ∨ M' k ∨ k = wr.heap.size) W1 W2 := by rw [← hW2]; exact (Sep.alloc _ _ _).trans (Sep.put _ _ (.inr (.inl hl)))
      have hj2 : J (fun k => (M k ∨ M' k ∨ k = wr.heap.size) ∨ k = W1.heap.size) (offs s i + m) W2 := hJ _ _ _ _ _ j1 hs2 (fun k hk => by
        rcases hk with hk | hk
        · exact .inl hk
        · exact .inr (by omega))
      have hBl : wr.heap.size < W1.heap.size := (Array.getElem?_eq_some_iff.1 j3').1
      have hyc : W2.cell? ⟨W.heap.size, 0, none⟩ = some (.func (.yield l) #[] #[]) := by
        rw [cell_of_row _ _ _ _ _ _ ((h2o _ (Array.getElem?_eq_some_iff.1 j2').1 (fun e => j2 (e ▸ hl))).trans j2')]; rfl
      have hc0 : W2.cell? ⟨W1.heap.size, 0, none⟩ = some (.string e1) := by rw [cell_of_row _ _ _ _ _ _ h2n]; rfl
      obtain ⟨fn, tmps, assign, body, hy, hR⟩ := (HY.out _ _ _ W2 hj2 HAT.out (fun k hk => by
        rcases hk with (hk | hk | hk) | hk
        · have := a4 k hk; have := j5 k hk; omega
        · have := HM'.out k hk; omega
        · omega
        · omega)).at 0
      unfold allV at hy
      dsimp only at hy
      have HR := keep hR
      have fin : Kept (∀ W3, Mk (fun k => (M k ∨ M' k ∨ k = wr.heap.size) ∨ k = W1.heap.size) W2 W3 → ∀ J', Abd J' → J' (fun k => (M k ∨ M' k ∨ k = wr.heap.size) ∨ k = W1.heap.size) (offs s i + m + 1) W3 →
          Mk M' W2 W3 ∧ AllI J' l W.heap.size 131 wr.heap.size 107 (.slice ao c0.length cap) M Ds (offs s i) M' (m + 1) W3) := fun W3 hk J' hJ' h3 => by
        have kb : ∀ k o, (M k ∨ M' k ∨ k = wr.heap.size) → k ≠ l' → W1.heap[k]? = some o → W3.heap[k]? = some o := fun k o h1 h2 h3 => by
          rw [hk.2 k (.inl h1), h2o k (Array.getElem?_eq_some_iff.1 h3).1 h2]; exact h3
        have hne : ∀ k, ¬ M' k → k ≠ l' := fun k h e => h (e ▸ hl)
        refine ⟨hk.less (fun k h => .inl (.inr (.inl h))), hJ' _ _ _ _ _ h3 (Sep.refl _ _) (fun k h => .inl (.inl h)), ⟨j2, kb _ _ (.inl a3) (hne _ j2) j2'⟩, ⟨j3, kb _ _ (.inr (.inr rfl)) (hne _ j3) j3'⟩, fun D hD => ⟨(j4 D hD).1, kb _ _ (.inl (a6 D hD).1) (hne _ (j4 D hD).1) (j4 D hD).2⟩, fun k h => ⟨(j5 k h).1, ?_⟩⟩
        have := (j5 k h).2
        have := hk.1
        omega
      clear hR hW2 j1 j2 j2' j3 j3' j4 j5 h2n hs2 hj2
      gi_wp2
      refine ⟨rfl, (round_in HR.out).mono ?_⟩
      rintro e W3 ⟨hk3, (⟨rfl, hJ3⟩ | ⟨rfl, hJx3⟩)⟩
      · have F3 := keep (fin.out W3 hk3 J hJ hJ3)
        clear hk3 hJ3 fin HR
        gi_wp2
        exact F3.out
      · have F3 := keep (fin.out W3 hk3 Jx hJx hJx3)
        clear hk3 hJx3 fin HR
        gi_wp2
        exact ⟨F3.out.1, rfl, F3.out.2⟩
    case done =>
      intro M' D W5 hI hD hDk hM'
      obtain ⟨j1, ⟨j2, j2'⟩, ⟨j3, j3'⟩, j4, j5⟩ := hI
      rw [bkL_len, ← offs_succ HC.out] at j1
      have hBl : wr.heap.size < W5.heap.size := (Array.getElem?_eq_some_iff.1 j3').1
      have KS5 : Kept (AllS J W l W.heap.size 131 (fun k => M k ∨ M' k ∨ k = wr.heap.size) (D :: Ds) (offs s (i + 1)) W5) := by
        refine ⟨j1, j2', .inl a3, fun k hk => ?_, List.nodup_cons.2 ⟨fun h => (j4 D h).1 hD, a5⟩, fun D' hD' => ?_, by omega⟩
        · rcases hk with hk | hk | hk
          · have := a4 k hk; have := j5 k hk; omega
          · have := hM' k hk; omega
          · omega
        · rcases List.mem_cons.1 hD' with rfl | h
          · exact ⟨.inr (.inl hD), hDk⟩
          · exact ⟨.inl (a6 D' h).1, (j4 D' h).2⟩
      clear j1 j2 j2' j3 j3' j4 j5 hM' hDk hD KS HI0 HB4
      go_wp2
      exact ⟨⟨i + 1, _, D :: Ds, _, _, _, _, _, _, _, _, by omega, rfl, KS5⟩, by simp [intOf]; omega⟩
    case stop =>
      rintro c' M' D m W5 hm ⟨rfl, hI⟩ hD hDk hM'
      obtain ⟨j1, ⟨j2, j2'⟩, ⟨j3, j3'⟩, j4, j5⟩ := hI
      have hBl : wr.heap.size < W5.heap.size := (Array.getElem?_eq_some_iff.1 j3').1
      refine (wpIn_wide (n := 9)).2 ?_
      dsimp only
      have J1 := keep j1
      clear j1 HI0 HB4 KS
      go_wp2
      refine leave_marks (D :: Ds) W5 (List.nodup_cons.2 ⟨fun h => (j4 D h).1 hD, a5⟩) (fun D' hD' => ?_) (fun W' hs => ?_)
      · rcases List.mem_cons.1 hD' with rfl | h
        · exact hDk
        · exact (j4 D' h).2
      refine ⟨_, results_none rfl _ _ _, ⟨_, rfl⟩, fun k => M k ∨ M' k ∨ k = wr.heap.size, fun k hk => ?_, .inr ⟨offs s i + m, ?_, ?_⟩⟩
      · have := hs.2.1
        rcases hk with hk | hk | hk
        · have := a4 k hk; have := j5 k hk; omega
        · have := hM' k hk; omega
        · omega
      · rw [bkL_len] at hm
        have h2 := offs_at HC.out (List.getElem?_eq_getElem hm)
        exact (List.getElem?_eq_some_iff.1 h2).1
      · refine hJx _ _ _ _ _ J1.out (hs.more (fun k hk => ?_)) (Ext.refl _ _ _)
        rcases List.mem_cons.1 hk with rfl | h
        · exact .inr (.inl hD)
        · exact .inl (a6 k h).1
  · have hltz : ¬ (i : Int) < (T : Int) := by omega
    obtain rfl : i = T := by omega
    go_wp2
    obtain ⟨a1, a2, a3, a4, a5, a6, a7⟩ := KS.out
    refine leave_marks Ds wr a5 (fun D hD => (a6 D hD).2) (fun W' hs => ?_)
    refine ⟨_, results_none rfl _ _ _, ⟨_, rfl⟩, M, fun k hk => ?_, .inl ?_⟩
    · have := a4 k hk
      have := hs.2.1
      omega
    · rw [← offs_all, HT.out]
      exact hJ _ _ _ _ _ a1 (hs.more (fun k hk => (a6 k hk).1)) (Ext.refl _ _ _)
end Go.Proofs.YtlfpkbjiofelkaaGreat

/-
  The cells of a row of entries.
-/
namespace Go.Proofs.YtlfpkbjiofelkaaGreat
open Go.RowKit
def enL (l : List Ent) : List Value := l.flatMap enE
theorem enL_len (l : List Ent) : (enL l).length = l.length := by
  unfold enL
  induction l with
  | nil => rfl
  | cons e l ih => rw [List.flatMap_cons, List.length_append, ih]; simp [enE]; omega
end Go.Proofs.YtlfpkbjiofelkaaGreat

namespace Go.Proofs.YtlfpkbjiofelkaaGreat
open Go.RowKit Go.Shelf
attribute [local go_sem] Oper.semAt_some
def eachV (e : Ent) : Array Value := #[.string e.1, .agg #[]]
set_option maxHeartbeats 400000 in
theorem all_any (w : World) (b : Value) (hb : b = .pointer none ∨ ∃ x, b = .pointer (some ⟨x, 0, none⟩)) :
    Calls Tryz.prog 75 #[b] w fun e w' => e = .returned (.func (.func 92) #[] #[.pointer (some ⟨w.heap.size, 0, none⟩)]) ∧ w' = w.alloc (.cells #[b] 52) := by
  have hmf : ∀ (fn : Fn) (first cap : Array Value) (w : World), (Instr.makeFunc fn first cap).run Tryz.prog w = .ok (.func fn first cap) w := fun _ _ _ _ => rfl
  rcases hb with rfl | ⟨x, rfl⟩
  · go_enter Tryz.func75, Tryz.ntmps75
    go_wp2
    go_ret
    exact ⟨rfl, rfl⟩
  · go_enter Tryz.func75, Tryz.ntmps75
    go_wp2
    go_ret
    exact ⟨rfl, rfl⟩
set_option maxHeartbeats 400000 in
theorem each_any (w : World) (b : Value) (hb : b = .pointer none ∨ ∃ x, b = .pointer (some ⟨x, 0, none⟩)) :
    Calls Tryz.prog 51 #[b] w fun e w' => e = .returned (.func (.func 74) #[] #[.pointer (some ⟨w.heap.size, 0, none⟩)]) ∧ w' = w.alloc (.cells #[b] 52) := by
  have hmf : ∀ (fn : Fn) (first cap : Array Value) (w : World), (Instr.makeFunc fn first cap).run Tryz.prog w = .ok (.func fn first cap) w := fun _ _ _ _ => rfl
  rcases hb with rfl | ⟨x, rfl⟩
  · go_enter Tryz.func51, Tryz.ntmps51
    go_wp2
    go_ret
    exact ⟨rfl, rfl⟩
  · go_enter Tryz.func51, Tryz.ntmps51
    go_wp2
    go_ret
    exact ⟨rfl, rfl⟩
/-- while the entries are taken down; H: the box of the slice that they lie in, Bd: the box of the dict -/
def EchI (W : World) (H Bd : Nat) (dv : Value) (es : List Ent) (M : Nat → Prop) (m : Nat) (w : World) : Prop :=
  (∃ v, (¬ M H ∧ w.heap[H]? = some (.cells #[v] 106 (0, 0))) ∧ w.ownsRow W.heap.size 105 1 v m (enL (es.take m)) ∧ ∀ k, v.ownBlock = some k → ¬ M k ∧ k ≠ H ∧ k ≠ Bd) ∧
    (¬ M Bd ∧ w.heap[Bd]? = some (.cells #[dv] 52 (0, 0))) ∧ Below W.heap.size W w ∧ ∀ k, M k → W.heap.size ≤ k
theorem EchI.abd {W : World} {H Bd : Nat} {dv : Value} {es : List Ent} : Abd (EchI W H Bd dv es) := by
  rintro M M' m A B ⟨⟨v, ⟨h1, h1'⟩, h2, h3⟩, ⟨h4, h4'⟩, h5, h6⟩ hs hx
  have keepB : ∀ k o, ¬ M k → A.heap[k]? = some o → ¬ M' k ∧ B.heap[k]? = some o := fun k o hn ho => by
    have hl := (Array.getElem?_eq_some_iff.1 ho).1
    exact ⟨hx.lt hl hn, (hs.2.2 k hl hn).trans ho⟩
  refine ⟨⟨v, keepB _ _ h1 h1', own_kept h2 (fun k hk => hs.2.2 k (own_lt h2 hk) (h3 k hk).1), fun k hk => ⟨hx.lt (own_lt h2 hk) (h3 k hk).1, (h3 k hk).2⟩⟩, keepB _ _ h4 h4', h5.trans (hs.below h5.size h6), hx.ge h5.size h6⟩
theorem enL_at {es : List Ent} : ∀ {k : Nat} {e : Ent}, es[k]? = some e → (enL es)[k]? = some (.string e.1) ∧ True := by
  induction es with
  | nil => intro k e h; simp at h
  | cons d es ih =>
    intro k e h
    cases k with
    | zero => simp at h; subst h; exact ⟨rfl, trivial⟩
    | succ k =>
      rw [List.getElem?_cons_succ] at h
      exact ih h
/-- while they are told; v: the slice, D: what is taken at the return -/
def EchS (J : (Nat → Prop) → Nat → World → Prop) (W : World) (v : Value) (D : Nat) (es : List Ent) (m : Nat) (w : World) : Prop :=
  ∃ M : Nat → Prop, J M m w ∧ (∀ k, v.ownBlock = some k → M k) ∧ w.ownsRow W.heap.size 105 1 v es.length (enL es) ∧ (M D ∧ w.heap[D]? = some (.deferred (some []))) ∧ (∀ k, M k → W.heap.size ≤ k ∧ k < w.heap.size) ∧ W.heap.size ≤ w.heap.size
set_option maxRecDepth 100000 in
set_option maxHeartbeats 600000 in
theorem each_iter (Bd b seed n : Nat) (r : Roles) (s : Dc.St ByteArray Unit) (W : World) (hD : Dct W r b seed n s) (hBd : W.cell? ⟨Bd, 0, none⟩ = some (.pointer (some ⟨b, 0, none⟩))) (hp : s.pos ≤ s.old.length) (hm0 : s.old.length ≤ 5400000000000) (hm1 : s.young.length ≤ 5400000000000) (hal : (Dc.all s).length ≤ 2600000000000) :
    Iter Tryz.prog 74 #[.pointer (some ⟨Bd, 0, none⟩)] eachV (fun _ _ => True) (Dc.all s) W := by
  intro l J Jx hJ hJx _ hY h0
  have hBl : Bd < W.heap.size := World.block_lt_of_cell? _ _ hBd
  have hc1 : (W.alloc (.cells #[.slice none 0 0] 106)).cell? ⟨Bd, 0, none⟩ = some (.pointer (some ⟨b, 0, none⟩)) := (((Below.refl _ W).alloc (Nat.le_refl _) _).cell (p := ⟨Bd, 0, none⟩) hBl).trans hBd
  have HY := keep hY
  have HD := keep hD
  have H0 := keep h0
  clear hY hD h0 hBd
  refine callsIn_wide (n := 9) |>.1 (callsIn_of_wp_marks Tryz.func74 rfl trivial (wpIn_wide.2 ?_) rfl)
  simp only [Tryz.ntmps74, List.size_toArray, List.length_cons, List.length_nil, Nat.reduceAdd, Nat.reduceSub, Array.replicate_succ, Array.replicate_zero, List.push_toArray, List.append_toArray, List.nil_append, List.cons_append]
  go_wp2_with fail
  refine (all_any _ _ (.inr ⟨b, rfl⟩)).mono ?_
  rintro _ w2 ⟨rfl, hw2⟩
  have hz2 : w2.heap.size = W.heap.size + 2 := by rw [hw2]; simp
  have hb2 : Below W.heap.size W w2 := by rw [hw2]; exact ((Below.refl _ W).alloc (Nat.le_refl _) _).alloc (by simp) _
  have h2H : w2.heap[W.heap.size]? = some (.cells #[.slice none 0 0] 106 (0, 0)) := by rw [hw2, Below.heap_alloc _ _ _ (by simp)]; exact heap_alloc_new _ _
  have h2B : w2.heap[W.heap.size + 1]? = some (.cells #[.pointer (some ⟨b, 0, none⟩)] 52 (0, 0)) := by
    rw [hw2]
    have := heap_alloc_new (W.alloc (.cells #[.slice none 0 0] 106)) (.cells #[.pointer (some ⟨b, 0, none⟩)] 52)
    rwa [World.size_alloc] at this
  have hI0 : EchI W W.heap.size (W.heap.size + 1) (.pointer (some ⟨b, 0, none⟩)) (Dc.all s) (fun _ => False) 0 w2 :=
    ⟨⟨.slice none 0 0, ⟨id, h2H⟩, ⟨rfl, .inl ⟨rfl, rfl⟩⟩, fun k hk => by cases hk⟩, ⟨id, h2B⟩, hb2, fun _ h => h.elim⟩
  clear hw2 hc1 hb2 h2H h2B
  go_wp2
  obtain ⟨i0, hi0, hz0, hz1, hzb⟩ := info_parts info_ent
  have HI0 := keep hI0
  clear hI0
  refine (wpIn_wide (n := 9)).1 (range_own (α := Ent) (gf := 92) (lb := #[.pointer (some ⟨W.heap.size + 1, 0, none⟩)]) (by simp [Act.eval]) (enters_of Tryz.func92 (by kernel_rfl) rfl) (encs := allV) (L := Dc.all s) (fun _ => rfl)
    (fun W1 _ => all_iter (W.heap.size + 1) b seed n r s W W1 HD.out hp hm0 hm1)
    (EchI W W.heap.size (W.heap.size + 1) (.pointer (some ⟨b, 0, none⟩)) (Dc.all s)) (fun _ _ _ _ => False) EchI.abd (fun _ _ _ _ _ _ h _ _ => h) HI0.out ?rd ?round ?done ?stop)
  case rd =>
    rintro M m W1 ⟨_, ⟨_, h4⟩, h5, _⟩
    exact ⟨h5, by rw [cell_of_row _ _ _ _ _ _ h4]; rfl⟩
  case stop => exact fun _ _ _ _ _ _ h => h.elim
  case round =>
    intro M' l' m x W1 hI hx hl hrec hM'
    obtain ⟨r0, hr0'⟩ := hrec
    obtain ⟨e1, e2⟩ := x
    have HI := keep hI
    have HX := keep hx
    have HM' := keep hM'
    have HREC := keep hr0'
    clear hI hx hM' hr0' HI0
    unfold allV
    gi_wp2
    refine ⟨Mk.alloc _ (fun k hk => (HM'.out k hk).2), fun rl => ?_⟩
    obtain ⟨W2, hW2⟩ : ∃ W2, (W1.alloc (.cells #[.string e1] 105)).putObj l' (.loop rl) = W2 := ⟨_, rfl⟩
    rw [hW2]
    have hll : l' < W1.heap.size := (HM'.out l' hl).2
    have hz2' : W2.heap.size = W1.heap.size + 1 := by rw [← hW2]; simp
    have h2n : W2.heap[W1.heap.size]? = some (.cells #[.string e1] 105 (0, 0)) := by rw [← hW2, World.putObj_heap_other (by omega)]; exact heap_alloc_new _ _
    have hI2 : EchI W W.heap.size (W.heap.size + 1) (.pointer (some ⟨b, 0, none⟩)) (Dc.all s) M' m W2 := EchI.abd _ _ _ _ _ HI.out (by rw [← hW2]; exact (Sep.alloc _ _ _).trans (Sep.put _ _ hl)) (Ext.refl _ _ _)
    obtain ⟨⟨v, ⟨j1, j1'⟩, j2, j3⟩, ⟨j4, j4'⟩, j5, j6⟩ := hI2
    have hml : m < (Dc.all s).length := (List.getElem?_eq_some_iff.1 HX.out).1
    obtain ⟨ao, cp, rfl⟩ : ∃ ao cp, v = .slice ao m cp := by
      rcases j2.2 with ⟨rfl, h0⟩ | ⟨g, cap, cur, rfl, _⟩
      · exact ⟨none, 0, by rw [h0]⟩
      · exact ⟨_, _, rfl⟩
    have hHl : W.heap.size < W2.heap.size := (Array.getElem?_eq_some_iff.1 j1').1
    have hBl2 : W.heap.size + 1 < W2.heap.size := (Array.getElem?_eq_some_iff.1 j4').1
    have cH : W2.cell? ⟨W.heap.size, 0, none⟩ = some (.slice ao m cp) := by rw [cell_of_row _ _ _ _ _ _ j1']; rfl
    have ce0 : W2.cell? ⟨W1.heap.size, 0, none⟩ = some (.string e1) := by rw [cell_of_row _ _ _ _ _ _ h2n]; rfl
    obtain ⟨g, cap, W3, hrun, hown, hgr, hat, hg3⟩ := run_append_lies (P := Tryz.prog) (w := W2.alloc (.cells #[.string e1] 105)) 106 106 W.heap.size 105 i0 _ 1 24 Tryz.underlying106 hi0 hz0 hz1 hzb rfl (by omega) (.slice ao m cp) m (enL ((Dc.all s).take m)) (j2.alloc _) ⟨W2.heap.size, 0, none⟩ 1 1 [.string e1] rfl (World.news_of_block (cs := #[.string e1]) (t := 105) (fr := (0, 0)) (heap_alloc_new W2 _)) (by simp [Value.oneCell']) (by omega) (by unfold maxLen; omega) (by omega) (by simp; omega) (W2.heap.size + 1) (by simp)
    have MA := keep hrun
    have hs3 : W2.heap.size + 1 ≤ W3.heap.size := by have := hgr.size; simpa using this
    have same : ∀ k, k < W2.heap.size → (Value.slice ao m cp).ownBlock ≠ some k → W3.heap[k]? = W2.heap[k]? := fun k hk hn => by
      rw [hgr.block k (by simp; omega) (fun e => hn e.symm), Below.heap_alloc _ _ _ hk]
    have h3H : W3.heap[W.heap.size]? = some (.cells #[.slice ao m cp] 106 (0, 0)) := (same _ hHl (fun e => (j3 _ e).2.1 rfl)).trans j1'
    have c3H : W3.cell? ⟨W.heap.size, 0, none⟩ = some (.slice ao m cp) := by rw [cell_of_row _ _ _ _ _ _ h3H]; rfl
    have f3H : W3.frozen? ⟨W.heap.size, 0, none⟩ = false := by simp [World.frozen?, h3H]
    have fin : Kept (rdPost (EchI W W.heap.size (W.heap.size + 1) (.pointer (some ⟨b, 0, none⟩)) (Dc.all s)) (fun _ _ _ _ => False) M' (m + 1) W2 .normal { tmps := #[], defers := [] } (W3.setCell ⟨W.heap.size, 0, none⟩ (.slice (some ⟨g, 0, none⟩) (m + 1) cap))) := by
      have hgW : g ≠ W.heap.size := fun e => by
        rcases hat with h | h
        · exact (j3 _ h).2.1 e
        · omega
      have hgB : g ≠ W.heap.size + 1 := fun e => by
        rcases hat with h | h
        · exact (j3 _ h).2.2 e
        · omega
      have hgM : ¬ M' g := fun e => by
        rcases hat with h | h
        · exact (j3 _ h).1 e
        · have := HM'.out g e; omega
      have sameS : ∀ k, k ≠ W.heap.size → (W3.setCell ⟨W.heap.size, 0, none⟩ (.slice (some ⟨g, 0, none⟩) (m + 1) cap)).heap[k]? = W3.heap[k]? := fun k hk => Below.heap_setCell _ _ _ _ hk
      have hss : (W3.setCell ⟨W.heap.size, 0, none⟩ (.slice (some ⟨g, 0, none⟩) (m + 1) cap)).heap.size = W3.heap.size := by simp [World.setCell]
      refine ⟨⟨by rw [hss]; omega, fun k hk => ?_⟩, ⟨_, ⟨j1, cells_setCell h3H⟩, ?_, fun k hk => ?_⟩, ⟨j4, ?_⟩, ?_, j6⟩
      · have hkb := HM'.out k hk
        rw [sameS k (fun e => j1 (e ▸ hk)), same k (by omega) (fun e => (j3 k e).1 hk)]
      · have e : enL ((Dc.all s).take (m + 1)) = enL ((Dc.all s).take m) ++ [.string e1] := by
          rw [List.take_succ_eq_append_getElem hml]
          have := (List.getElem?_eq_some_iff.1 HX.out).2
          rw [this]
          unfold enL
          rw [List.flatMap_append]
          rfl
        rw [e]
        exact own_kept hown (fun k hk => by cases hk; exact sameS g hgW)
      · cases hk
        exact ⟨hgM, hgW, hgB⟩
      · rw [sameS _ (by omega), same _ hBl2 (fun e => (j3 _ e).2.2 rfl)]
        exact j4'
      · refine j5.trans ⟨hgr.os, hgr.tape, hgr.output, by rw [hss]; omega, fun k hk => ?_⟩
        rw [sameS k (by omega), same k (by omega) (fun e => ?_)]
        have := (j2.lt k e).1
        omega
    clear hrun hown hgr hat same h3H j1 j1' j2 j3 j4 j4' j5 j6 h2n hW2
    clear hz2'
    gi_wp2_with (first | (show wpListIn _ _ _ _ _ ({ dst := some 13, op := Op.call { callee := Callee.builtin Builtin.append, args := _, argTypes := _ }, type := _, pos := _, after := _, guard := _ } :: _) _ _; refine wpListIn_app_run rfl (.tmp 10) (.tmp 12) 106 rfl _ _ _ rfl rfl MA.out ?_))
    exact fin.out
  case done =>
    intro M' D W5 hI hD hDk hM'
    obtain ⟨⟨v, ⟨j1, j1'⟩, j2, j3⟩, ⟨j4, j4'⟩, j5, j6⟩ := hI
    rw [List.take_length] at j2
    obtain ⟨es, hes⟩ : ∃ es, Dc.all s = es := ⟨_, rfl⟩
    rw [hes] at j2 hal HY
    have HES := keep hes
    obtain ⟨L, hL⟩ : ∃ L, es.length = L := ⟨_, rfl⟩
    obtain ⟨ao, cp, rfl, hao⟩ : ∃ ao cp, v = .slice ao L cp ∧ (L = 0 ∨ ∃ g, ao = some ⟨g, 0, none⟩) := by
      rcases j2.2 with ⟨rfl, h0⟩ | ⟨g, cap, cur, rfl, _⟩
      · exact ⟨none, 0, by rw [← hL, h0], .inl (by rw [← hL]; exact h0)⟩
      · exact ⟨_, _, by rw [hL], .inr ⟨g, rfl⟩⟩
    have cH : W5.cell? ⟨W.heap.size, 0, none⟩ = some (.slice ao L cp) := by rw [cell_of_row _ _ _ _ _ _ j1']; rfl
    have HS : Kept (EchS J W (.slice ao L cp) D es 0 W5) :=
      ⟨fun k => W.heap.size ≤ k ∧ k < W5.heap.size, hJ _ _ _ _ _ H0.out (Sep.of_below j5) (fun k hk => .inr hk), fun k hk => ⟨(j2.lt k hk).1, (j2.lt k hk).2⟩, j2, ⟨⟨j6 D hD, (Array.getElem?_eq_some_iff.1 hDk).1⟩, hDk⟩, fun k hk => hk, j5.size⟩
    rw [hL] at hal
    have HL := keep hL
    clear j1 j1' j2 j3 j4 j4' j5 j6 hL hes hDk hM' HI0 H0
    go_wp2
    refine (wpIn_wide (n := 9)).1 ?_
    gi_loopw [16] (fun i wr => ∃ m : Nat, m ≤ L ∧ i = .int .i64 m ∧ Kept (EchS J W (.slice ao L cp) D es m wr)) (fun i _ => L - (intOf i).toNat)
    case atStart => exact ⟨0, Nat.zero_le _, rfl, HS⟩
    case round =>
      obtain ⟨m, hm, rfl, KS⟩ := hrel
      obtain ⟨M, q1, q2, q3, ⟨q4, q4'⟩, q5, q6⟩ := KS.out
      by_cases hlt : m < L
      · have hltz : (m : Int) < (L : Int) := by omega
        have hz0 : (0 : Int) ≤ (m : Int) := by omega
        obtain ⟨g, rfl⟩ : ∃ g, ao = some ⟨g, 0, none⟩ := by
          rcases hao with h | h
          · omega
          · exact h
        obtain ⟨e, he⟩ : ∃ e, es[m]? = some e := ⟨_, List.getElem?_eq_getElem (by rw [HL.out]; exact hlt)⟩
        obtain ⟨c0, _⟩ := enL_at he
        have add : ∀ i, (⟨g, 0, none⟩ : Addr).add i = ⟨g, i, none⟩ := by intro i; unfold Addr.add; split <;> simp_all
        replace c0 := q3.cells (g := g) rfl _ _ c0
        rw [add] at c0
        obtain ⟨e1, e2⟩ := e
        dsimp only at c0
        obtain ⟨W6, hW6⟩ : ∃ W6, wr.alloc (.cells #[.string e1] 105) = W6 := ⟨_, rfl⟩
        have hb6 : Below wr.heap.size wr W6 := by rw [← hW6]; exact (Below.refl _ _).alloc (Nat.le_refl _) _
        have hz6 : W6.heap.size = wr.heap.size + 1 := by rw [← hW6]; simp
        have h6n : W6.heap[wr.heap.size]? = some (.cells #[.string e1] 105 (0, 0)) := by rw [← hW6]; exact heap_alloc_new _ _
        have hj6 : J (fun k => M k ∨ k = wr.heap.size) m W6 := hJ _ _ _ _ _ q1 (Sep.of_below hb6) (fun k hk => by
          rcases hk with hk | hk
          · exact .inl hk
          · exact .inr (by omega))
        have b0 : W6.cell? ⟨wr.heap.size, 0, none⟩ = some (.string e1) := by rw [cell_of_row _ _ _ _ _ _ h6n]; rfl
        have hpa : (partAt ⟨wr.heap.size, 0, none⟩ 1 16).run Tryz.prog W6 = .ok ⟨wr.heap.size, 1, some 16⟩ W6 := by simpa using part_ent (p := 0) h6n
        obtain ⟨fn, tmps, assign, body, hy, hR⟩ := (HY.out _ _ _ W6 hj6 he (fun k hk => by
          rcases hk with hk | hk
          · have := q5 k hk; omega
          · omega)).at 8
        unfold eachV at hy
        dsimp only at hy
        have HR := keep hR
        have fin : Kept (∀ W7, Mk (fun k => M k ∨ k = wr.heap.size) W6 W7 → ∀ J', Abd J' → J' (fun k => M k ∨ k = wr.heap.size) (m + 1) W7 → EchS J' W (.slice (some ⟨g, 0, none⟩) L cp) D es (m + 1) W7) := fun W7 hk J' hJ' h7 => by
          have kb : ∀ k o, M k → wr.heap[k]? = some o → W7.heap[k]? = some o := fun k o h1 h2 => by
            rw [hk.2 k (.inl h1), hb6.block k (q5 k h1).2]; exact h2
          have hs := hk.1
          exact ⟨M, hJ' _ _ _ _ _ h7 (Sep.refl _ _) (fun k h => .inl (.inl h)), q2, own_kept q3 (fun k hk' => by rw [hk.2 k (.inl (q2 k hk')), hb6.block k (q5 k (q2 k hk')).2]), ⟨q4, kb _ _ q4 q4'⟩, fun k h => by have := q5 k h; omega, by omega⟩
        have hW6' : wr.alloc (.cells #[.string e1] 105) = W6 := hW6
        clear q1 q2 q3 q4 q4' q5 q6 he hR hj6 h6n hb6 hz6 hW6 KS add
        gi_wp2
        refine RoundIn.mono HR.out ?_
        rintro e W7 ⟨hk7, (⟨rfl, hJ7⟩ | ⟨rfl, hJx7⟩)⟩
        · have F7 := keep (fin.out W7 hk7 J hJ hJ7)
          clear hk7 hJ7 fin HR
          gi_wp2
          go_roundw
          case rel => exact ⟨m + 1, by omega, by go_num, F7⟩
          case measure => simp [intOf]; omega
        · have F7 := keep (fin.out W7 hk7 Jx hJx hJx7)
          clear hk7 hJx7 fin HR
          gi_wp2
          obtain ⟨M7, p1, p2, p3, ⟨p4, p4'⟩, p5, p6⟩ := F7.out
          refine leave_mark p4' ?_
          refine ⟨_, results_none rfl _ _ _, ⟨_, rfl⟩, M7, fun k hk => ?_, .inr ⟨m, by rw [HES.out, HL.out]; exact hlt, hJx _ _ _ _ _ p1 (Sep.put _ _ p4) (Ext.refl _ _ _)⟩⟩
          have := p5 k hk
          simp; omega
      · have hltz : ¬ (m : Int) < (L : Int) := by omega
        obtain rfl : m = L := by omega
        clear KS
        gi_wp2
        refine leave_mark q4' ?_
        refine ⟨_, results_none rfl _ _ _, ⟨_, rfl⟩, M, fun k hk => ?_, .inl (by rw [HES.out, HL.out]; exact hJ _ _ _ _ _ q1 (Sep.put _ _ q4) (Ext.refl _ _ _))⟩
        have := q5 k hk
        simp; omega
end Go.Proofs.YtlfpkbjiofelkaaGreat
