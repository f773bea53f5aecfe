/-
  Three flocks beside the document's own ones, and the two rows of pointers to them, in one memory.
-/
import Derived.Test.YtlfpkbjiofelkaaGreatRdV1
import Derived.Test.YtlfpkbjiofelkaaGreatRdV0
namespace Go.Proofs.YtlfpkbjiofelkaaGreat
open Go.RowKit Go.Shelf
set_option linter.unusedVariables false
set_option linter.unusedSimpArgs false
set_option maxRecDepth 100000
namespace Rd
/-- a new flock of the program's, in blocks of its own -/
def Fl (w : World) (O : Nat → Prop) (R seed : Nat) : Prop := ∃ r b, Rec (hs seed) 0 w r R b seed Dc.none0 ∧ O = fun k => rr r R k ≠ (0, 0)
/-- a new one of the document's -/
def Ml (w : World) (O : Nat → Prop) (R seed : Nat) : Prop := ∃ r b, RF (hs seed) 0 w r R b seed (.slice none 0 0) [] Dc.none0 [] ∧ O = fun k => rf r R (.slice none 0 0) k ≠ (0, 0)
section
variable {w w' : World} {O : Nat → Prop} {R seed : Nat}
theorem Fl.kept (h : Fl w O R seed) (hs : w.heap.size ≤ w'.heap.size) (hk : ∀ k, k < w.heap.size → O k → w'.heap[k]? = w.heap[k]?) : Fl w' O R seed := by
  obtain ⟨r, b, h1, rfl⟩ := h
  exact ⟨r, b, h1.kept hs hk, rfl⟩
theorem Ml.kept (h : Ml w O R seed) (hs : w.heap.size ≤ w'.heap.size) (hk : ∀ k, k < w.heap.size → O k → w'.heap[k]? = w.heap[k]?) : Ml w' O R seed := by
  obtain ⟨r, b, h1, rfl⟩ := h
  exact ⟨r, b, h1.kept hs hk, rfl⟩
theorem Fl.lt (h : Fl w O R seed) {k : Nat} (hk : O k) : k < w.heap.size := by
  obtain ⟨r, b, h1, rfl⟩ := h
  exact h1.role_lt hk
theorem Ml.lt (h : Ml w O R seed) {k : Nat} (hk : O k) : k < w.heap.size := by
  obtain ⟨r, b, h1, rfl⟩ := h
  exact h1.role_lt hk
end
/-- what New makes, of the program's (T = Fl) and of the document's (T = Ml) -/
def Nw (T : World → (Nat → Prop) → Nat → Nat → Prop) (w : World) (seed : Nat) (e : Ending) (w' : World) : Prop := ∃ R O, e = .returned (.pointer (some ⟨R, 0, none⟩)) ∧ T w' O R seed ∧ Below w.heap.size w w' ∧ ∀ k, O k → w.heap.size ≤ k ∧ k < w'.heap.size
theorem newf (w : World) (seed : Nat) : Calls Tryz.prog 5 #[.int .u64 seed] w (Nw Fl w seed) := by
  refine (rnew_any (hs seed) w seed 0).mono ?_
  rintro _ w' ⟨rfl, hb, hr⟩
  exact ⟨_, _, rfl, ⟨_, _, hr, rfl⟩, hb, fun k hk => ⟨(nroles _ k hk).1, hr.role_lt hk⟩⟩
theorem newm (w : World) (seed : Nat) : Calls Tryz.prog 6 #[.int .u64 seed] w (Nw Ml w seed) := by
  refine (rfnew_any (hs seed) w seed 0).mono ?_
  rintro _ w' ⟨R, r, b, rfl, hb, hf, hm⟩
  exact ⟨R, _, rfl, ⟨_, _, hf, rfl⟩, hb, fun k hk => ⟨hm k hk, hf.role_lt hk⟩⟩
def p3 (a b c : Nat) : Array Value := #[.pointer (some ⟨a, 0, none⟩), .pointer (some ⟨b, 0, none⟩), .pointer (some ⟨c, 0, none⟩)]
/-- three new ones and a row of pointers to them -/
def N3 (T : World → (Nat → Prop) → Nat → Nat → Prop) (t : TypeId) (B : Nat) (s0 s1 s2 : Nat) (w : World) (a b c X : Nat) : Prop :=
  ∃ Oa Ob Oc, (T w Oa a s0 ∧ T w Ob b s1 ∧ T w Oc c s2) ∧ w.heap[X]? = some (.cells (p3 a b c) t (0, 0)) ∧ (B ≤ X ∧ ∀ k, (Oa k → B ≤ k ∧ k ≠ X) ∧ (Ob k → B ≤ k ∧ k ≠ X) ∧ (Oc k → B ≤ k ∧ k ≠ X)) ∧ (∀ k, Oa k → ¬ Ob k ∧ ¬ Oc k) ∧ ∀ k, Ob k → ¬ Oc k
theorem leaf3 {T : World → (Nat → Prop) → Nat → Nat → Prop} (hT : ∀ {w w' : World} {O : Nat → Prop} {R seed : Nat}, T w O R seed → w.heap.size ≤ w'.heap.size → (∀ k, k < w.heap.size → O k → w'.heap[k]? = w.heap[k]?) → T w' O R seed) {t : TypeId} {B s0 s1 s2 a b c X : Nat} {wa wb wc w4 w5 : World} {Oa Ob Oc : Nat → Prop} {la lb lc : Nat}
    (ha : T wa Oa a s0) (hb : T wb Ob b s1) (hc : T wc Oc c s2) (ba : Below wa.heap.size wa w4) (bb : Below wb.heap.size wb w4) (bc : Below wc.heap.size wc w4)
    (ga : ∀ k, Oa k → la ≤ k ∧ k < wa.heap.size) (gb : ∀ k, Ob k → lb ≤ k ∧ k < wb.heap.size) (gc : ∀ k, Oc k → lc ≤ k ∧ k < wc.heap.size)
    (h5 : w5.heap[X]? = some (.cells (p3 a b c) t (0, 0))) (k5 : w4.heap.size ≤ w5.heap.size ∧ ∀ k, k ≠ X → w5.heap[k]? = w4.heap[k]?)
    (dX : B ≤ X ∧ (X < la ∨ wa.heap.size ≤ X) ∧ (X < lb ∨ wb.heap.size ≤ X) ∧ (X < lc ∨ wc.heap.size ≤ X)) (dl : B ≤ la ∧ B ≤ lb ∧ B ≤ lc)
    (d1 : wa.heap.size ≤ lb ∨ wb.heap.size ≤ la) (d2 : wa.heap.size ≤ lc ∨ wc.heap.size ≤ la) (d3 : wb.heap.size ≤ lc ∨ wc.heap.size ≤ lb) : N3 T t B s0 s1 s2 w5 a b c X := by
  have na : ∀ k, Oa k → k ≠ X := fun k hk e => by have := ga k hk; omega
  have nb : ∀ k, Ob k → k ≠ X := fun k hk e => by have := gb k hk; omega
  have nc : ∀ k, Oc k → k ≠ X := fun k hk e => by have := gc k hk; omega
  refine ⟨Oa, Ob, Oc, ⟨hT ha (by have := ba.size; omega) (fun k hk ho => (k5.2 k (na k ho)).trans (ba.block k hk)), hT hb (by have := bb.size; omega) (fun k hk ho => (k5.2 k (nb k ho)).trans (bb.block k hk)), hT hc (by have := bc.size; omega) (fun k hk ho => (k5.2 k (nc k ho)).trans (bc.block k hk))⟩, h5, ⟨dX.1, fun k => ⟨fun h => ⟨by have := ga k h; omega, na k h⟩, fun h => ⟨by have := gb k h; omega, nb k h⟩, fun h => ⟨by have := gc k h; omega, nc k h⟩⟩⟩, fun k hk => ⟨fun h => ?_, fun h => ?_⟩, fun k hk h => ?_⟩
  · have := ga k hk; have := gb k h; omega
  · have := ga k hk; have := gc k h; omega
  · have := gb k hk; have := gc k h; omega
/-- all orders end alike but for some values, of which one fact holds -/
def onlyNm (R : Act → World → Prop) : Exit → Act → World → Prop
  | .normal, a, w => R a w
  | _, _, _ => False
theorem code_ex {ι : Type} {P : Program} {c : Code} {Q : Exit → Act → World → Prop} {a : Act} {w : World} (f : Act → ι → Act) (G : ι → World → Prop) (h : c.wp P (onlyNm (fun a' w' => ∃ i, a' = f a i ∧ G i w')) a w) (hR : ∀ i w', G i w' → Q .normal (f a i) w') : c.wp P Q a w :=
  Code.wp_mono (fun e a' w' h => by
    cases e
    case normal => obtain ⟨i, rfl, hg⟩ := h; exact hR i w' hg
    all_goals exact (h : False).elim) h
theorem cells_set3 {w : World} {g a b c d : Nat} {t : TypeId} (h : w.heap[g]? = some (.cells (p3 a b c) t (0, 0))) : (w.setCell ⟨g, 2, none⟩ (.pointer (some ⟨d, 0, none⟩))).heap[g]? = some (.cells (p3 a b d) t (0, 0)) := by
  have hlt := (Array.getElem?_eq_some_iff.1 h).1
  simp [World.setCell, Array.getElem?_modify, h, p3]
/-- three pairs -/
structure Tri (W w : World) (F G : Nat) (I : Nat → Itm) (NM : Nat) : Prop where
  bel : Below W.heap.size W w
  f : w.heap[F]? = some (.cells (p3 (I 0).R (I 1).R (I 2).R) 27 (0, 0))
  g : w.heap[G]? = some (.cells (p3 (I 0).R2 (I 1).R2 (I 2).R2) 30 (0, 0))
  new : W.heap.size ≤ F ∧ W.heap.size ≤ G ∧ F ≠ G
  it : ∀ i, i < 3 → (I i).Lies w ∧ (I i).N ≤ NM ∧ (I i).seed < Dw.M ∧ ∀ k, (I i).O k → W.heap.size ≤ k ∧ k ≠ F ∧ k ≠ G
  ap : ∀ i j, i < 3 → j < 3 → i ≠ j → ∀ k, (I i).O k → ¬ (I j).O k
def upd (I : Nat → Itm) (i : Nat) (f : Itm) : Nat → Itm := fun j => if j = i then f else I j
section
variable {W w w' : World} {F G : Nat} {I : Nat → Itm} {NM NM' : Nat}
theorem Tri.lt (h : Tri W w F G I NM) : F < w.heap.size ∧ G < w.heap.size := ⟨(Array.getElem?_eq_some_iff.1 h.f).1, (Array.getElem?_eq_some_iff.1 h.g).1⟩
theorem Tri.kept (h : Tri W w F G I NM) (hb : Below W.heap.size W w') (hsz : w.heap.size ≤ w'.heap.size) (hk : ∀ k, k < w.heap.size → (k = F ∨ k = G ∨ ∃ i, i < 3 ∧ (I i).O k) → w'.heap[k]? = w.heap[k]?) (hN : NM ≤ NM') : Tri W w' F G I NM' :=
  ⟨hb, (hk F h.lt.1 (.inl rfl)).trans h.f, (hk G h.lt.2 (.inr (.inl rfl))).trans h.g, h.new, fun i hi => by
    obtain ⟨h1, h2, h3, h4⟩ := h.it i hi
    exact ⟨h1.kept hsz (fun k hk' ho => hk k hk' (.inr (.inr ⟨i, hi, ho⟩))), Nat.le_trans h2 hN, h3, h4⟩, h.ap⟩
theorem Tri.below (h : Tri W w F G I NM) (hb : Below w.heap.size w w') (hN : NM ≤ NM') : Tri W w' F G I NM' :=
  h.kept (h.bel.trans (hb.mono h.bel.size)) hb.size (fun k hk _ => hb.block k hk) hN
theorem Tri.cf (h : Tri W w F G I NM) {i : Nat} (hi : i < 3) : w.cell? ⟨F, i, none⟩ = some (.pointer (some ⟨(I i).R, 0, none⟩)) := by
  match i, hi with
  | 0, _ => simp [World.cell?, h.f, p3]
  | 1, _ => simp [World.cell?, h.f, p3]
  | 2, _ => simp [World.cell?, h.f, p3]
theorem Tri.cg (h : Tri W w F G I NM) {i : Nat} (hi : i < 3) : w.cell? ⟨G, i, none⟩ = some (.pointer (some ⟨(I i).R2, 0, none⟩)) := by
  match i, hi with
  | 0, _ => simp [World.cell?, h.g, p3]
  | 1, _ => simp [World.cell?, h.g, p3]
  | 2, _ => simp [World.cell?, h.g, p3]
/-- one pair does something -/
theorem Tri.step (h : Tri W w F G I NM) {i : Nat} (hi : i < 3) {O' : Nat → Prop} {N' : Nat} {l' : List ByteArray} {s' : Sf} (hl : Pf (hs (I i).seed) N' w' O' (I i).R (I i).R2 (I i).seed l' s') (hF : Fp w (I i).O w' O') (hN : NM ≤ NM') (hN' : N' ≤ NM') :
    Tri W w' F G (upd I i ⟨(I i).R, (I i).R2, (I i).seed, N', O', l', s'⟩) NM' := by
  obtain ⟨i1, i2, i3, i4⟩ := h.it i hi
  have eR : ∀ j, (upd I i ⟨(I i).R, (I i).R2, (I i).seed, N', O', l', s'⟩ j).R = (I j).R := fun j => by unfold upd; split <;> simp_all
  have eR2 : ∀ j, (upd I i ⟨(I i).R, (I i).R2, (I i).seed, N', O', l', s'⟩ j).R2 = (I j).R2 := fun j => by unfold upd; split <;> simp_all
  have hF0 : ¬ (I i).O F := fun e => (i4 F e).2.1 rfl
  have hG0 : ¬ (I i).O G := fun e => (i4 G e).2.2 rfl
  have hO' : ∀ k, O' k → (I i).O k ∨ w.heap.size ≤ k := fun k hk => by
    by_cases hlt : k < w.heap.size
    · by_cases ho : (I i).O k
      · exact .inl ho
      · exact absurd hk (hF.2.2 k hlt ho).2
    · exact .inr (by omega)
  have oth : ∀ j, j < 3 → j ≠ i → ∀ k, (I j).O k → ¬ O' k := fun j hj hji k hk hk' => by
    rcases hO' k hk' with e | e
    · exact h.ap j i hj hi hji k hk e
    · have := ((h.it j hj).1).lt hk; omega
  refine ⟨h.bel.trans ⟨hF.1.1, hF.1.2.1, hF.1.2.2, by have := h.bel.size; have := hF.2.1; omega, fun k hk => (hF.2.2 k (Nat.lt_of_lt_of_le hk h.bel.size) (fun e => by have := (i4 k e).1; omega)).1⟩, ?_, ?_, h.new, fun j hj => ?_, fun a b ha hb hab k hk hk' => ?_⟩
  · rw [eR, eR, eR]; exact ((hF.2.2 F h.lt.1 hF0).1).trans h.f
  · rw [eR2, eR2, eR2]; exact ((hF.2.2 G h.lt.2 hG0).1).trans h.g
  · by_cases e : j = i
    · subst e
      unfold upd
      rw [if_pos rfl]
      refine ⟨hl, hN', i3, fun k hk => ?_⟩
      rcases hO' k hk with e | e
      · exact i4 k e
      · have := h.bel.size; have := h.lt; exact ⟨by omega, by omega, by omega⟩
    · unfold upd
      rw [if_neg e]
      obtain ⟨j1, j2, j3, j4⟩ := h.it j hj
      exact ⟨j1.kept hF.2.1 (fun k hk ho => (hF.2.2 k hk (h.ap j i hj hi e k ho)).1), Nat.le_trans j2 hN, j3, j4⟩
  · unfold upd at hk hk'
    by_cases ea : a = i
    · rw [if_pos ea] at hk
      rw [if_neg (fun e => hab (ea.trans e.symm))] at hk'
      exact oth b hb (fun e => hab (ea.trans e.symm)) k hk' hk
    · rw [if_neg ea] at hk
      by_cases eb : b = i
      · rw [if_pos eb] at hk'
        exact oth a ha ea k hk hk'
      · rw [if_neg eb] at hk'
        exact h.ap a b ha hb hab k hk hk'
/-- the third pair is a new one -/
theorem Tri.third {w1 w2 w3 w4 : World} (h : Tri W w F G I NM) (b1 : Below w.heap.size w w1) {R R2 seed N : Nat} {r q : Roles} {b bb : Nat} {v : Value} {l : List ByteArray} {s : Sf} {KV : List (ByteArray × Int)}
    (hr : Rec (hs seed) N w1 r R b seed s) (hn : ∀ k, rr r R k ≠ (0, 0) → w.heap.size ≤ k) (h2 : w2 = w1.setCell ⟨F, 2, none⟩ (.pointer (some ⟨R, 0, none⟩)))
    (b3 : Below w2.heap.size w2 w3) (hf : RF (hs seed) N w3 q R2 bb seed v l s KV) (hm : ∀ k, rf q R2 v k ≠ (0, 0) → w2.heap.size ≤ k) (h4 : w4 = w3.setCell ⟨G, 2, none⟩ (.pointer (some ⟨R2, 0, none⟩))) (hsd : seed < Dw.M) (hN : NM ≤ NM') (hN' : N ≤ NM') :
    ∃ O, Tri W w4 F G (upd I 2 ⟨R, R2, seed, N, O, l, s⟩) NM' := by
  have hsz2 : w2.heap.size = w1.heap.size := by rw [h2]; simp
  have hsz4 : w4.heap.size = w3.heap.size := by rw [h4]; simp
  have k2 : ∀ k, k ≠ F → w2.heap[k]? = w1.heap[k]? := fun k hk => by rw [h2]; exact Below.heap_setCell _ _ _ _ hk
  have k4 : ∀ k, k ≠ G → w4.heap[k]? = w3.heap[k]? := fun k hk => by rw [h4]; exact Below.heap_setCell _ _ _ _ hk
  have hlt := h.lt
  have s1 := b1.size
  have s3 := b3.size
  have hfg := h.new.2.2
  have bel2 : Below W.heap.size W w2 := by rw [h2]; exact (h.bel.trans (b1.mono h.bel.size)).setCell h.new.1 _
  have bel4 : Below W.heap.size W w4 := by rw [h4]; exact (bel2.trans (b3.mono bel2.size)).setCell h.new.2.1 _
  have f1 : w1.heap[F]? = some (.cells (p3 (I 0).R (I 1).R (I 2).R) 27 (0, 0)) := (b1.block F hlt.1).trans h.f
  have f2 : w2.heap[F]? = some (.cells (p3 (I 0).R (I 1).R R) 27 (0, 0)) := by rw [h2]; exact cells_set3 f1
  have g3 : w3.heap[G]? = some (.cells (p3 (I 0).R2 (I 1).R2 (I 2).R2) 30 (0, 0)) := (b3.block G (by omega)).trans ((k2 G (fun e => hfg e.symm)).trans ((b1.block G hlt.2).trans h.g))
  have g4 : w4.heap[G]? = some (.cells (p3 (I 0).R2 (I 1).R2 R2) 30 (0, 0)) := by rw [h4]; exact cells_set3 g3
  have f4 : w4.heap[F]? = some (.cells (p3 (I 0).R (I 1).R R) 27 (0, 0)) := (k4 F hfg).trans ((b3.block F (by omega)).trans f2)
  have old : ∀ k, k < w.heap.size → k ≠ F → k ≠ G → w4.heap[k]? = w.heap[k]? := fun k hk hF hG => (k4 k hG).trans ((b3.block k (by omega)).trans ((k2 k hF).trans (b1.block k hk)))
  have hr4 : Rec (hs seed) N w4 r R b seed s := hr.kept (by omega) (fun k hk hne => by
    have := hn k hne
    exact (k4 k (by omega)).trans ((b3.block k (by omega)).trans (k2 k (by omega))))
  have hf4 : RF (hs seed) N w4 q R2 bb seed v l s KV := hf.kept (by omega) (fun k hk hne => k4 k (by have := hm k hne; omega))
  have ha : ∀ k, rr r R k = (0, 0) ∨ rf q R2 v k = (0, 0) := fun k => by
    by_cases e : rr r R k = (0, 0)
    · exact .inl e
    · refine .inr (Classical.byContradiction fun e' => ?_)
      have := hr.role_lt e
      have := hm k e'
      omega
  have hO : ∀ k, Own r R q R2 v k → w.heap.size ≤ k := fun k hk => hk.elim (fun e => hn k e) (fun e => by have := hm k e; omega)
  refine ⟨Own r R q R2 v, bel4, ?_, ?_, h.new, fun j hj => ?_, fun a b' ha' hb' hab k hk hk' => ?_⟩
  · exact f4
  · exact g4
  · unfold upd
    by_cases e : j = 2
    · rw [if_pos e]
      exact ⟨⟨r, b, q, bb, v, KV, hr4, hf4, ha, rfl⟩, hN', hsd, fun k hk => by have := hO k hk; have := h.bel.size; exact ⟨by omega, by omega, by omega⟩⟩
    · rw [if_neg e]
      obtain ⟨j1, j2, j3, j4⟩ := h.it j hj
      exact ⟨j1.kept (by omega) (fun k hk ho => old k hk (j4 k ho).2.1 (j4 k ho).2.2), Nat.le_trans j2 hN, j3, j4⟩
  · unfold upd at hk hk'
    by_cases ea : a = 2
    · rw [if_pos ea] at hk
      rw [if_neg (fun e => hab (ea.trans e.symm))] at hk'
      have := hO k hk
      have := ((h.it b' hb').1).lt hk'
      omega
    · rw [if_neg ea] at hk
      by_cases eb : b' = 2
      · rw [if_pos eb] at hk'
        have := hO k hk'
        have := ((h.it a ha').1).lt hk
        omega
      · rw [if_neg eb] at hk'
        exact h.ap a b' ha' hb' hab k hk hk'
end
/-- at the start -/
theorem tri_start {W w1 w2 : World} {F G a b c a2 b2 c2 s0 s1 : Nat} (hb1 : Below W.heap.size W w1) (h1 : N3 Fl 27 W.heap.size s0 s1 0 w1 a b c F) (hb2 : Below w1.heap.size w1 w2) (h2 : N3 Ml 30 w1.heap.size s0 s1 0 w2 a2 b2 c2 G) (hs0 : s0 < Dw.M) (hs1 : s1 < Dw.M) :
    ∃ I NM, NM ≤ 1048576 ∧ (I 0).R = a ∧ (I 1).R = b ∧ (I 2).R = c ∧ Tri W w2 F G I NM := by
  obtain ⟨Oa, Ob, Oc, ⟨ta, tb, tc⟩, hF, ⟨nF, rg⟩, d1, d2⟩ := h1
  obtain ⟨Pa, Pb, Pc, ⟨ua, ub, uc⟩, hG, ⟨nG, sg⟩, e1, e2⟩ := h2
  have hFl := (Array.getElem?_eq_some_iff.1 hF).1
  have hGl := (Array.getElem?_eq_some_iff.1 hG).1
  have hz := hb1.size
  have mk : ∀ {O P : Nat → Prop} {R R2 seed : Nat}, Fl w1 O R seed → Ml w2 P R2 seed → (∀ k, P k → w1.heap.size ≤ k) → Pf (hs seed) 0 w2 (fun k => O k ∨ P k) R R2 seed [] Dc.none0 := by
    intro O P R R2 seed hf hm hp
    obtain ⟨r, b, hr, rfl⟩ := hf
    obtain ⟨q, bb, hq, rfl⟩ := hm
    refine ⟨r, b, q, bb, _, [], hr.below hb2, hq, fun k => ?_, rfl⟩
    by_cases e : rr r R k = (0, 0)
    · exact .inl e
    · refine .inr (Classical.byContradiction fun e' => ?_)
      have := hr.role_lt e
      have := hp k e'
      omega
  let I : Nat → Itm := fun i => match i with
    | 0 => ⟨a, a2, s0, 0, fun k => Oa k ∨ Pa k, [], Dc.none0⟩
    | 1 => ⟨b, b2, s1, 0, fun k => Ob k ∨ Pb k, [], Dc.none0⟩
    | _ => ⟨c, c2, 0, 0, fun k => Oc k ∨ Pc k, [], Dc.none0⟩
  have rO : ∀ k, (Oa k ∨ Ob k ∨ Oc k) → W.heap.size ≤ k ∧ k ≠ F ∧ k ≠ G := fun k hk => by
    obtain ⟨x1, x2, x3⟩ := rg k
    have : k < w1.heap.size := by rcases hk with e | e | e; exact ta.lt e; exact tb.lt e; exact tc.lt e
    have h3 : W.heap.size ≤ k ∧ k ≠ F := by rcases hk with e | e | e; exact x1 e; exact x2 e; exact x3 e
    exact ⟨h3.1, h3.2, by omega⟩
  have rP : ∀ k, (Pa k ∨ Pb k ∨ Pc k) → w1.heap.size ≤ k ∧ k ≠ G := fun k hk => by
    obtain ⟨x1, x2, x3⟩ := sg k
    rcases hk with e | e | e; exact x1 e; exact x2 e; exact x3 e
  have lO : ∀ k, (Oa k ∨ Ob k ∨ Oc k) → k < w1.heap.size := fun k hk => by rcases hk with e | e | e; exact ta.lt e; exact tb.lt e; exact tc.lt e
  refine ⟨I, 0, by omega, rfl, rfl, rfl, bup hb1 hb2, (hb2.block F hFl).trans hF, hG, ⟨nF, by omega, by omega⟩, fun i hi => ?_, fun i j hi hj hij k hk hk' => ?_⟩
  · have fin : ∀ {O P : Nat → Prop}, (∀ k, O k → Oa k ∨ Ob k ∨ Oc k) → (∀ k, P k → Pa k ∨ Pb k ∨ Pc k) → ∀ k, (O k ∨ P k) → W.heap.size ≤ k ∧ k ≠ F ∧ k ≠ G := fun h1 h2 k hk => by
      rcases hk with e | e
      · exact rO k (h1 k e)
      · have := rP k (h2 k e); exact ⟨by omega, by omega, this.2⟩
    match i, hi with
    | 0, _ => exact ⟨mk ta ua (fun k hk => (rP k (.inl hk)).1), Nat.le_refl _, hs0, fin (fun k h => .inl h) (fun k h => .inl h)⟩
    | 1, _ => exact ⟨mk tb ub (fun k hk => (rP k (.inr (.inl hk))).1), Nat.le_refl _, hs1, fin (fun k h => .inr (.inl h)) (fun k h => .inr (.inl h))⟩
    | 2, _ => exact ⟨mk tc uc (fun k hk => (rP k (.inr (.inr hk))).1), Nat.le_refl _, (show (0 : Nat) < Dw.M by decide), fin (fun k h => .inr (.inr h)) (fun k h => .inr (.inr h))⟩
  · have cross : ∀ {k}, (Oa k ∨ Ob k ∨ Oc k) → (Pa k ∨ Pb k ∨ Pc k) → False := fun {k} h1 h2 => by have := lO k h1; have := (rP k h2).1; omega
    have x1 := d1 k
    have x2 := d2 k
    have x3 := e1 k
    have x4 := e2 k
    match i, j, hi, hj, hij with
    | 0, 0, _, _, h => exact absurd rfl h
    | 1, 1, _, _, h => exact absurd rfl h
    | 2, 2, _, _, h => exact absurd rfl h
    | 0, 1, _, _, _ => rcases hk with e | e <;> rcases hk' with e' | e' <;> first | exact (x1 e).1 e' | exact (x3 e).1 e' | exact cross (.inl e) (.inr (.inl e')) | exact cross (.inr (.inl e')) (.inl e)
    | 0, 2, _, _, _ => rcases hk with e | e <;> rcases hk' with e' | e' <;> first | exact (x1 e).2 e' | exact (x3 e).2 e' | exact cross (.inl e) (.inr (.inr e')) | exact cross (.inr (.inr e')) (.inl e)
    | 1, 0, _, _, _ => rcases hk with e | e <;> rcases hk' with e' | e' <;> first | exact (x1 e').1 e | exact (x3 e').1 e | exact cross (.inr (.inl e)) (.inl e') | exact cross (.inl e') (.inr (.inl e))
    | 1, 2, _, _, _ => rcases hk with e | e <;> rcases hk' with e' | e' <;> first | exact x2 e e' | exact x4 e e' | exact cross (.inr (.inl e)) (.inr (.inr e')) | exact cross (.inr (.inr e')) (.inr (.inl e))
    | 2, 0, _, _, _ => rcases hk with e | e <;> rcases hk' with e' | e' <;> first | exact (x1 e').2 e | exact (x3 e').2 e | exact cross (.inr (.inr e)) (.inl e') | exact cross (.inl e') (.inr (.inr e))
    | 2, 1, _, _, _ => rcases hk with e | e <;> rcases hk' with e' | e' <;> first | exact x2 e' e | exact x4 e' e | exact cross (.inr (.inr e)) (.inr (.inl e')) | exact cross (.inr (.inl e')) (.inr (.inr e))
end Rd
end Go.Proofs.YtlfpkbjiofelkaaGreat
