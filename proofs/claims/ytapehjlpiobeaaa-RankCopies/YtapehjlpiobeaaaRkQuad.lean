/-
  Two ranks, each beside its plain list, and what lies beside them.
-/
import Derived.Test.YtapehjlpiobeaaaRkDoneF
import Derived.Test.YtapehjlpiobeaaaRkCopy2
import Derived.Laws.MakeOwn
import Derived.Test.YtapehjlpiobeaaaRkSame
import Derived.Test.YtapehjlpiobeaaaRkOrd
namespace Go.Proofs.Ytapehjlpiobeaaa
open Go.RowKit Go.Shelf
set_option linter.unusedVariables false
set_option linter.unusedSimpArgs false
structure Qd (W : World) (X : List (Nat × Obj)) (seed : Nat) (w : World) (O1 : Nat → Prop) (R1 : Nat) (L1 : List Ent) (lv : Value) (M1 : List Ent) (O2 : Nat → Prop) (R2 : Nat) (L2 : List Ent) (mv : Value) (M2 : List Ent) : Prop where
  b1 : Bt w O1 R1 seed L1 lv M1
  b2 : Bt w O2 R2 seed L2 mv M2
  dis : ∀ k, OB O1 lv k → ¬ OB O2 mv k
  new1 : ∀ k, OB O1 lv k → W.heap.size ≤ k
  new2 : ∀ k, OB O2 mv k → W.heap.size ≤ k
  bel : Below W.heap.size W w
  side : ∀ p ∈ X, w.heap[p.1]? = some p.2 ∧ ¬ OB O1 lv p.1 ∧ ¬ OB O2 mv p.1
theorem Bt.lt {w : World} {O : Nat → Prop} {R seed : Nat} {L M : List Ent} {lv : Value} (h : Bt w O R seed L lv M) : ∀ k, OB O lv k → k < w.heap.size := fun k hk => hk.elim (h.1.lt k) (fun e => own_lt h.2.1 e)
theorem Bt.kept {w w' : World} {O : Nat → Prop} {R seed : Nat} {L M : List Ent} {lv : Value} (h : Bt w O R seed L lv M) (hs : w.heap.size ≤ w'.heap.size) (hk : ∀ k, OB O lv k → w'.heap[k]? = w.heap[k]?) : Bt w' O R seed L lv M :=
  ⟨h.1.kept hs (fun k h' => hk k (.inl h')), h.2.1.kept (fun k h' => hk k (.inr h')), h.2.2⟩
section
variable {W : World} {X : List (Nat × Obj)} {seed : Nat} {w : World} {O1 : Nat → Prop} {R1 : Nat} {L1 : List Ent} {lv : Value} {M1 : List Ent} {O2 : Nat → Prop} {R2 : Nat} {L2 : List Ent} {mv : Value} {M2 : List Ent}
theorem Qd.swap (h : Qd W X seed w O1 R1 L1 lv M1 O2 R2 L2 mv M2) : Qd W X seed w O2 R2 L2 mv M2 O1 R1 L1 lv M1 :=
  ⟨h.b2, h.b1, fun k h1 h2 => h.dis k h2 h1, h.new2, h.new1, h.bel, fun p hp => ⟨(h.side p hp).1, (h.side p hp).2.2, (h.side p hp).2.1⟩⟩
theorem Qd.step {w' : World} {O' : Nat → Prop} {L' : List Ent} {lv' : Value} {M' : List Ent} (h : Qd W X seed w O1 R1 L1 lv M1 O2 R2 L2 mv M2) (hb : Bt w' O' R1 seed L' lv' M') (hf : FO (OB O1 lv) w (OB O' lv') w') : Qd W X seed w' O' R1 L' lv' M' O2 R2 L2 mv M2 := by
  have hk : ∀ k, OB O2 mv k → w'.heap[k]? = w.heap[k]? ∧ ¬ OB O' lv' k := fun k h2 => hf.2.2 k (h.b2.lt k h2) (fun h1 => h.dis k h1 h2)
  obtain ⟨u1, u2⟩ := FO.bel hf h.new1 h.bel.size
  exact ⟨hb, h.b2.kept hf.2.1 (fun k h2 => (hk k h2).1), fun k h1 h2 => (hk k h2).2 h1, u2, h.new2, h.bel.trans u1, fun p hp => by
    obtain ⟨s1, s2, s3⟩ := h.side p hp
    obtain ⟨e1, e2⟩ := hf.2.2 p.1 (Array.getElem?_eq_some_iff.1 s1).1 s2
    exact ⟨e1.trans s1, e2, s3⟩⟩
theorem Qd.below {w' : World} (h : Qd W X seed w O1 R1 L1 lv M1 O2 R2 L2 mv M2) (hb : Below w.heap.size w w') : Qd W X seed w' O1 R1 L1 lv M1 O2 R2 L2 mv M2 := h.step (h.b1.below hb) (FO.below hb)
/-- ranks alone have turned (a question may step the dict) -/
theorem Qd.turn {w' : World} {O' : Nat → Prop} (h : Qd W X seed w O1 R1 L1 lv M1 O2 R2 L2 mv M2) (hR : RK w' O' R1 seed L1) (hf : FO O1 w O' w') : Qd W X seed w' O' R1 L1 lv M1 O2 R2 L2 mv M2 := by
  obtain ⟨t1, t2, t3, t4⟩ := h.b1.turn hR hf
  exact h.step ⟨t1, t2, t3, h.b1.2.2.2⟩ t4
theorem Qd.less {Y : List (Nat × Obj)} (h : Qd W X seed w O1 R1 L1 lv M1 O2 R2 L2 mv M2) (hs : ∀ p ∈ Y, p ∈ X) : Qd W Y seed w O1 R1 L1 lv M1 O2 R2 L2 mv M2 := ⟨h.b1, h.b2, h.dis, h.new1, h.new2, h.bel, fun p hp => h.side p (hs p hp)⟩
/-- a row that is told by blocks alone -/
def MrR (X : List (Nat × Obj)) (u : Value) (N : List Ent) : Prop := ∀ w : World, (∀ p ∈ X, w.heap[p.1]? = some p.2) → Mr 0 w u N
theorem Qd.rides {u : Value} {N : List Ent} (h : Qd W X seed w O1 R1 L1 lv M1 O2 R2 L2 mv M2) (hr : MrR X u N) : Mr 0 w u N := hr w (fun p hp => (h.side p hp).1)
theorem Qd.copy {w' : World} {u : Value} {N : List Ent} (h : Qd W X seed w O1 R1 L1 lv M1 O2 R2 L2 mv M2) (hm : Mr w.heap.size w' u N) (hb : Below w.heap.size w w') : ∃ Y, Qd W (Y ++ X) seed w' O1 R1 L1 lv M1 O2 R2 L2 mv M2 ∧ MrR (Y ++ X) u N := by
  have h' := h.below hb
  rcases hm.2 with ⟨e1, e2⟩ | ⟨g, cap, cur, e1, e2, e3, rest⟩
  · exact ⟨[], h', fun w'' _ => ⟨hm.1, .inl ⟨e1, e2⟩⟩⟩
  · refine ⟨[(g, .cells cur 46 (0, 0))], ⟨h'.b1, h'.b2, h'.dis, h'.new1, h'.new2, h'.bel, fun p hp => ?_⟩, fun w'' hX => ⟨hm.1, .inr ⟨g, cap, cur, e1, Nat.zero_le _, hX (g, _) (by simp), rest⟩⟩⟩
    rcases List.mem_cons.1 hp with rfl | hp
    · exact ⟨e3, fun hk => by have := h.b1.lt _ hk; omega, fun hk => by have := h.b2.lt _ hk; omega⟩
    · exact h'.side p hp
end
/-- what a script makes of the plain list -/
def runR : List Stp → List Ent → List Ent → Prop
  | [], M, M' => M' = M
  | o :: S, M, M' => ∃ M1, (Dc.keys M).Nodup ∧ dnR M o.act o.key o.x M1 ∧ runR S M1 M'
theorem runR_snoc : ∀ {S : List Stp} {o : Stp} {M M' M'' : List Ent}, runR S M M' → (Dc.keys M').Nodup → dnR M' o.act o.key o.x M'' → runR (S ++ [o]) M M''
  | [], o, M, M', M'', h, hn, hd => by
    have h : M' = M := h
    subst h
    exact ⟨M'', hn, hd, rfl⟩
  | p :: S, o, M, M', M'', ⟨M1, h1, h2, h3⟩, hn, hd => ⟨M1, h1, h2, runR_snoc h3 hn hd⟩
theorem runR_fun : ∀ {S : List Stp} {M A B : List Ent}, runR S M A → runR S M B → A = B
  | [], M, A, B, h1, h2 => by rw [show A = M from h1, show B = M from h2]
  | p :: S, M, A, B, ⟨M1, a1, a2, a3⟩, ⟨M2, b1, b2, b3⟩ => by
    have := dnR_fun a1 a2 b2
    subst this
    exact runR_fun a3 b3
theorem ends_alike {w w' : World} {O1 O2 : Nat → Prop} {R1 R2 seed : Nat} {L1 L2 M : List Ent} {lv mv : Value} (h1 : Bt w O1 R1 seed L1 lv M) (h2 : Bt w' O2 R2 seed L2 mv M) : L1 = L2 :=
  ris_eq h1.1.math.1 h2.1.math.1 ((h1.2.2.2.perm h1.1.math.2.2.2).trans (h2.2.2.2.perm h2.1.math.2.2.2).symm)
/-- a list of one's own out of another -/
theorem mk_list (w : World) (lv : Value) (M : List Ent) (n : Nat) (h : En w lv M) (hn : M.length = n) (hl : n ≤ 2000000) :
    ∃ W1, (Instr.makeSlice 38 (.int .i64 0) (.int .i64 (n : Int))).run Try.prog w = .ok (.slice (some ⟨w.heap.size, 0, none⟩) 0 n) W1 ∧ ∃ o c W2, (Builtin.append_ #[38, 38] 38 #[.slice (some ⟨w.heap.size, 0, none⟩) 0 n, lv]).run Try.prog W1 = .ok (.slice o n c) W2 ∧ En W2 (.slice o n c) M ∧ (∀ k, (Value.slice o n c).ownBlock = some k → w.heap.size ≤ k) ∧ Below w.heap.size w W2 := by
  obtain ⟨i0, hi0, hz0, hz1, hz2⟩ := info_parts info_en
  have uT := Try.underlying38
  obtain ⟨W1, m1, m2, m3⟩ := run_make_own (P := Try.prog) w w.heap.size 38 53 i0 _ 2 uT hi0 hz0 hz1 .i64 .i64 n (by rw [hz2]; omega) (by unfold maxLen; omega) (Nat.le_refl _)
  have hb1 : Below w.heap.size w W1 := (Below.refl _ w).grown m3 (Nat.le_refl _) (fun k hk => by cases hk)
  refine ⟨W1, m1, ?_⟩
  rcases h.2 with ⟨e1, e2⟩ | ⟨g, cap, cur, e1, _, e3, e4, e5, e6, e7⟩
  · subst e1
    have hM : M = [] := List.length_eq_zero_iff.1 e2
    subst hM
    obtain rfl : n = 0 := by simpa using hn.symm
    refine ⟨some ⟨w.heap.size, 0, none⟩, 0, W1, ?_, ?_, fun k hk => (by cases hk; exact Nat.le_refl _), hb1⟩
    · have hf : (Builtin.firstCells 2 0 (.slice none 0 0)).run Try.prog W1 = .ok #[] W1 := run_firstCells_none (P := Try.prog) W1 _ _ _ _
      simp [Builtin.append_, run_underlying uT, hi0, typeInfo, Builtin.lenOf, hf, hz1]
      rfl
    · rcases m2.2 with ⟨h', _⟩ | ⟨g', cap', cur', e, _, rest⟩
      · cases h'
      · exact ⟨rfl, .inr ⟨g', cap', cur', e, Nat.zero_le _, rest⟩⟩
  · subst e1
    have h1 : En W1 (.slice (some ⟨g, 0, none⟩) M.length cap) M := h.kept (fun k hk => hb1.block k (own_lt h hk))
    obtain ⟨v', W2, r1, r2, r3, r4, r5⟩ := run_append_own_at (P := Try.prog) W1 w.heap.size 38 38 53 i0 _ 2 24 uT hi0 hz0 hz1 hz2 (by simp [Value.cells]) (by decide) _ 0 [] m2 ⟨g, 0, none⟩ M.length cap (enR M) (enR_len M) (fun j u hj => World.ownsRow.cells h1 (g := g) rfl j u hj) enR_one (by unfold maxLen; omega) (by omega) hb1.size
    rw [Nat.zero_add, List.nil_append] at r2
    have hb2 : Below w.heap.size w W2 := hb1.grown r3 hb1.size (fun k hk => by cases hk; exact Nat.le_refl _)
    have hf : ∃ o c, v' = .slice o n c := by
      rcases r2.2 with ⟨e, h0⟩ | ⟨g', c', cur', e, _⟩
      · exact ⟨none, 0, by rw [e, ← hn, h0]⟩
      · exact ⟨_, _, by rw [e, hn]⟩
    obtain ⟨o, c, rfl⟩ := hf
    refine ⟨o, c, W2, by rw [← hn] at *; exact r1, ?_, fun k hk => (r2.lt k hk).1, hb2⟩
    refine ⟨r2.1, ?_⟩
    rcases r2.2 with ⟨e, h0⟩ | ⟨g', c', cur', e, _, rest⟩
    · exact .inl ⟨e, h0⟩
    · exact .inr ⟨g', c', cur', e, Nat.zero_le _, rest⟩
end Go.Proofs.Ytapehjlpiobeaaa
