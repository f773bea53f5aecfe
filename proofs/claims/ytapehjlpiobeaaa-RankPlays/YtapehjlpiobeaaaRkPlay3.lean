/-
  Two ranks of the program and the document's own two, all apart, and what lies beside them.
-/
import Derived.Test.YtapehjlpiobeaaaRkPlay2
import Derived.Test.YtapehjlpiobeaaaRkCopy2
import Derived.Test.YtapehjlpiobeaaaRkSame
namespace Go.Proofs.Ytapehjlpiobeaaa
open Go.RowKit Go.Shelf
set_option linter.unusedVariables false
set_option linter.unusedSimpArgs false
set_option maxRecDepth 100000
/-- one pair, and its blocks -/
def OneP (w : World) (d : Nat × Nat) (F : Nat → Prop) : Prop := ∃ O seed L v M, seed < Dw.M ∧ Pr w O d.1 seed L d.2 v M ∧ ∀ k, F k ↔ PO O d.2 v k
theorem Pr.lt {w : World} {O : Nat → Prop} {R seed b : Nat} {L M : List Ent} {v : Value} (h : Pr w O R seed L b v M) : ∀ k, PO O b v k → k < w.heap.size := fun k hk => hk.elim (h.rk.lt k) (h.rp.lt k)
theorem OneP.lt {w : World} {d : Nat × Nat} {F : Nat → Prop} (h : OneP w d F) : ∀ k, F k → k < w.heap.size := fun k hk => by
  obtain ⟨O, seed, L, v, M, hs, hp, hF⟩ := h
  exact hp.lt k ((hF k).1 hk)
theorem OneP.kept {w w' : World} {d : Nat × Nat} {F : Nat → Prop} (h : OneP w d F) (hs : w.heap.size ≤ w'.heap.size) (hk : ∀ k, F k → w'.heap[k]? = w.heap[k]?) : OneP w' d F := by
  obtain ⟨O, seed, L, v, M, hsd, hp, hF⟩ := h
  exact ⟨O, seed, L, v, M, hsd, ⟨hp.rk.kept hs (fun k h => hk k ((hF k).2 (.inl h))), hp.rp.kept (fun k h => hk k ((hF k).2 (.inr h))), hp.dis, hp.sm⟩, hF⟩
/-- both pairs, and what lies beside them -/
def Duo (W : World) (Sd : List (Nat × Obj)) (w : World) (d0 d1 : Nat × Nat) : Prop :=
  ∃ F0 F1, OneP w d0 F0 ∧ OneP w d1 F1 ∧ (∀ k, F0 k → ¬ F1 k) ∧ (∀ k, F0 k → W.heap.size ≤ k) ∧ (∀ k, F1 k → W.heap.size ≤ k) ∧ Below W.heap.size W w ∧ ∀ p ∈ Sd, w.heap[p.1]? = some p.2 ∧ ¬ F0 p.1 ∧ ¬ F1 p.1
section
variable {W w w' : World} {Sd Sd' : List (Nat × Obj)} {d0 d1 : Nat × Nat}
theorem Duo.bel (h : Duo W Sd w d0 d1) : Below W.heap.size W w := by
  obtain ⟨F0, F1, h1, h2, h3, h4, h5, h6, h7⟩ := h
  exact h6
theorem Duo.side (h : Duo W Sd w d0 d1) : ∀ p ∈ Sd, w.heap[p.1]? = some p.2 := by
  obtain ⟨F0, F1, h1, h2, h3, h4, h5, h6, h7⟩ := h
  exact fun p hp => (h7 p hp).1
theorem Duo.swap (h : Duo W Sd w d0 d1) : Duo W Sd w d1 d0 := by
  obtain ⟨F0, F1, h1, h2, h3, h4, h5, h6, h7⟩ := h
  exact ⟨F1, F0, h2, h1, fun k hk hk' => h3 k hk' hk, h5, h4, h6, fun p hp => ⟨(h7 p hp).1, (h7 p hp).2.2, (h7 p hp).2.1⟩⟩
theorem Duo.below (h : Duo W Sd w d0 d1) (hb : Below w.heap.size w w') : Duo W Sd w' d0 d1 := by
  obtain ⟨F0, F1, h1, h2, h3, h4, h5, h6, h7⟩ := h
  exact ⟨F0, F1, h1.kept hb.size (fun k hk => hb.block k (h1.lt k hk)), h2.kept hb.size (fun k hk => hb.block k (h2.lt k hk)), h3, h4, h5, Below.up h6 hb, fun p hp => ⟨(hb.block _ (Array.getElem?_eq_some_iff.1 (h7 p hp).1).1).trans (h7 p hp).1, (h7 p hp).2⟩⟩
theorem Duo.more (h : Duo W Sd w d0 d1) (o : Obj) : Duo W ((w.heap.size, o) :: Sd) (w.alloc o) d0 d1 := by
  have hb : Below w.heap.size w (w.alloc o) := (Below.refl _ w).alloc (Nat.le_refl _) _
  obtain ⟨F0, F1, h1, h2, h3, h4, h5, h6, h7⟩ := h.below hb
  obtain ⟨G0, G1, g1, g2, g3, g4, g5, g6, g7⟩ := h
  refine ⟨G0, G1, g1.kept hb.size (fun k hk => hb.block k (g1.lt k hk)), g2.kept hb.size (fun k hk => hb.block k (g2.lt k hk)), g3, g4, g5, Below.up g6 hb, fun p hp => ?_⟩
  rcases List.mem_cons.1 hp with rfl | hp
  · exact ⟨heap_alloc_new _ _, fun hk => absurd (g1.lt _ hk) (Nat.lt_irrefl _), fun hk => absurd (g2.lt _ hk) (Nat.lt_irrefl _)⟩
  · exact ⟨(hb.block _ (Array.getElem?_eq_some_iff.1 (g7 p hp).1).1).trans (g7 p hp).1, (g7 p hp).2⟩
theorem Duo.less (h : Duo W Sd w d0 d1) (hs : ∀ p ∈ Sd', p ∈ Sd) : Duo W Sd' w d0 d1 := by
  obtain ⟨F0, F1, h1, h2, h3, h4, h5, h6, h7⟩ := h
  exact ⟨F0, F1, h1, h2, h3, h4, h5, h6, fun p hp => h7 p (hs p hp)⟩
theorem duo_plays {R b : Nat} (h : Duo W Sd w (R, b) d1) (who dO sa sb : Int) (key : ByteArray) (x y : Nat) (ox oy : Bool) (hk : key.size ≤ maxLen) :
    Calls Try.prog 10 #[.pointer (some ⟨R, 0, none⟩), .pointer (some ⟨b, 0, none⟩), stV who dO sa sb key x y ox oy] w fun e w' => e = .returned (.bool true) ∧ Duo W Sd w' (R, b) d1 := by
  obtain ⟨F0, F1, ⟨O, seed, L, v, M, hsd, hp, hF⟩, h2, h3, h4, h5, h6, h7⟩ := h
  refine (plays_any w O R seed b v L M who dO sa sb key x y ox oy hp hk).mono ?_
  rintro e w' ⟨rfl, O', L', v', M', hp', hf⟩
  have nF : ∀ k, k < w.heap.size → ¬ F0 k → w'.heap[k]? = w.heap[k]? ∧ ¬ PO O' b v' k := fun k hk hn => hf.2.2 k hk (fun h => hn ((hF k).2 h))
  have kB : ∀ k, F1 k → w'.heap[k]? = w.heap[k]? ∧ ¬ PO O' b v' k := fun k hk => nF k (h2.lt k hk) (fun h => h3 k h hk)
  refine ⟨rfl, _, F1, ⟨O', seed, L', v', M', hsd, hp', fun k => Iff.rfl⟩, h2.kept hf.2.1 (fun k hk => (kB k hk).1), fun k hk hk' => (kB k hk').2 hk, fun k hk => ?_, h5, ⟨hf.1.1.trans h6.os, hf.1.2.1.trans h6.tape, hf.1.2.2.trans h6.output, Nat.le_trans h6.size hf.2.1, fun k hk => ?_⟩, fun p hp => ?_⟩
  · rcases Nat.lt_or_ge k W.heap.size with h' | h'
    · exact absurd hk (nF k (Nat.lt_of_lt_of_le h' h6.size) (fun h'' => by have := h4 k h''; omega)).2
    · exact h'
  · exact (nF k (Nat.lt_of_lt_of_le hk h6.size) (fun h'' => by have := h4 k h''; omega)).1.trans (h6.block k hk)
  · obtain ⟨g1, g2, g3⟩ := h7 p hp
    obtain ⟨e1, e2⟩ := nF _ (Array.getElem?_eq_some_iff.1 g1).1 g2
    exact ⟨e1.trans g1, e2, g3⟩
theorem duo_row {R b : Nat} (h : Duo W Sd w (R, b) d1) (A B : Int) :
    Calls Try.prog 11 #[.pointer (some ⟨R, 0, none⟩), .pointer (some ⟨b, 0, none⟩), .int .i64 A, .int .i64 B] w fun e w' => e = .returned (.bool true) ∧ Duo W Sd w' (R, b) d1 := by
  have h' := h
  obtain ⟨F0, F1, ⟨O, seed, L, v, M, hsd, hp, hF⟩, _⟩ := h
  exact (row_any w O R seed b v L M A B hp).mono fun e w' hd => ⟨hd.1, h'.below hd.2⟩
/-- what stands when the program's ranks are copied, and the document's own not yet -/
def Half (W : World) (Sd : List (Nat × Obj)) (w : World) (d0 : Nat × Nat) (R2 : Nat) : Prop :=
  ∃ (F0 O2 O : Nat → Prop) (seed : Nat) (L : List Ent) (v : Value) (M : List Ent), seed < Dw.M ∧ Pr w O d0.1 seed L d0.2 v M ∧ (∀ k, F0 k ↔ PO O d0.2 v k) ∧ RK w O2 R2 seed L ∧ (∀ k, F0 k → ¬ O2 k) ∧ (∀ k, F0 k → W.heap.size ≤ k) ∧ (∀ k, O2 k → W.heap.size ≤ k) ∧ Below W.heap.size W w ∧ ∀ p ∈ Sd, w.heap[p.1]? = some p.2 ∧ ¬ F0 p.1 ∧ ¬ O2 p.1 ∧ W.heap.size ≤ p.1
theorem duo_copy {R b : Nat} (h : Duo W Sd w (R, b) d1) (hSd : ∀ p ∈ Sd, W.heap.size ≤ p.1) :
    Calls Try.prog 8 #[.pointer (some ⟨R, 0, none⟩)] w fun e w' => ∃ R2, e = .returned (.pointer (some ⟨R2, 0, none⟩)) ∧ Half W Sd w' (R, b) R2 := by
  obtain ⟨F0, F1, ⟨O, seed, L, v, M, hsd, hp, hF⟩, h2, h3, h4, h5, h6, h7⟩ := h
  refine (kcopy_any hp.rk hsd).mono ?_
  rintro e w' ⟨⟨R2, O2, rfl, hk2, hn2⟩, hb⟩
  refine ⟨R2, rfl, F0, O2, O, seed, L, v, M, hsd, hp.bel hb, hF, hk2, fun k hk hO => ?_, h4, fun k hk => Nat.le_trans h6.size (hn2 k hk), Below.up h6 hb, fun p hp' => ?_⟩
  · have := hp.lt k ((hF k).1 hk); have := hn2 k hO; omega
  · have hlt := (Array.getElem?_eq_some_iff.1 (h7 p hp').1).1
    exact ⟨(hb.block _ hlt).trans (h7 p hp').1, (h7 p hp').2.1, fun hO => by have := hn2 _ hO; omega, hSd p hp'⟩
theorem Half.side {d0 : Nat × Nat} {R2 : Nat} (h : Half W Sd w d0 R2) : ∀ p ∈ Sd, w.heap[p.1]? = some p.2 := by
  obtain ⟨F0, O2, O, seed, L, v, M, h1, h2, h3, h4, h5, h6, h7, h8, h9⟩ := h
  exact fun p hp => (h9 p hp).1
/-- one of the blocks beside is written -/
theorem Half.put {d0 : Nat × Nat} {R2 PA i : Nat} {ca : Array Value} {t : TypeId} {u : Value} {Sd : List (Nat × Obj)} (h : Half W ((PA, .cells ca t (0, 0)) :: Sd) w d0 R2) (hne : ∀ p ∈ Sd, p.1 ≠ PA) (hW : w.setCell ⟨PA, i, none⟩ u = w') : Half W ((PA, .cells (ca.setIfInBounds i u) t (0, 0)) :: Sd) w' d0 R2 := by
  obtain ⟨F0, O2, O, seed, L, v, M, h1, h2, h3, h4, h5, h6, h7, h8, h9⟩ := h
  have ho : Only PA w w' := by rw [← hW]; exact (Only.refl PA w).setCell i u
  obtain ⟨p1, p2, p3, p4⟩ := h9 (PA, .cells ca t (0, 0)) (by simp)
  have hs : w.heap.size ≤ w'.heap.size := by rw [ho.2.1]; exact Nat.le_refl _
  have k0 : ∀ k, PO O d0.2 v k → w'.heap[k]? = w.heap[k]? := fun k hk => ho.2.2 k (fun e => p2 ((h3 PA).2 (e ▸ hk)))
  refine ⟨F0, O2, O, seed, L, v, M, h1, ⟨h2.rk.kept hs (fun k hk => k0 k (.inl hk)), h2.rp.kept (fun k hk => k0 k (.inr hk)), h2.dis, h2.sm⟩, h3, h4.kept hs (fun k hk => ho.2.2 k (fun e => p3 (e ▸ hk))), h5, h6, h7, by rw [← hW]; exact h8.setCell p4 u, fun p hp => ?_⟩
  rcases List.mem_cons.1 hp with rfl | hp
  · exact ⟨by rw [← hW]; exact cellsSet p1, p2, p3, p4⟩
  · obtain ⟨q1, q2⟩ := h9 p (by simp [hp])
    exact ⟨(ho.2.2 _ (hne p hp)).trans q1, q2⟩
theorem Half.drew {d0 : Nat × Nat} {R2 : Nat} (h : Half W Sd w d0 R2) : Half W Sd w.drew d0 R2 := by
  obtain ⟨F0, O2, O, seed, L, v, M, h1, h2, h3, h4, h5, h6, h7, h8, h9⟩ := h
  exact ⟨F0, O2, O, seed, L, v, M, h1, h2.bel (Below.refl _ w).drew, h3, h4.below (Below.refl _ w).drew, h5, h6, h7, h8.drew, h9⟩
theorem half_copy {R b R2 : Nat} (h : Half W Sd w (R, b) R2) :
    Calls Try.prog 9 #[.pointer (some ⟨b, 0, none⟩)] w fun e w' => ∃ b2, e = .returned (.pointer (some ⟨b2, 0, none⟩)) ∧ Duo W Sd w' (R, b) (R2, b2) ∧ ∀ p ∈ Sd, W.heap.size ≤ p.1 := by
  obtain ⟨F0, O2, O, seed, L, v, M, h1, h2, h3, h4, h5, h6, h7, h8, h9⟩ := h
  refine (rcopy_any w b v M h2.rp h2.len.2).mono ?_
  rintro e w' ⟨b2, v2, rfl, hr, hn, hb⟩
  refine ⟨b2, rfl, ⟨F0, PO O2 b2 v2, ⟨O, seed, L, v, M, h1, h2.bel hb, h3⟩, ⟨O2, seed, L, v2, M, h1, ⟨h4.below hb, hr, fun k hk hO => ?_, h2.sm⟩, fun k => Iff.rfl⟩, fun k hk hk' => ?_, h6, fun k hk => ?_, Below.up h8 hb, fun p hp => ?_⟩, fun p hp => (h9 p hp).2.2.2⟩
  · have := hn k hk; have := h4.lt k hO; omega
  · rcases hk' with hk' | hk'
    · exact h5 k hk hk'
    · have := hn k hk'; have := h2.lt k ((h3 k).1 hk); omega
  · rcases hk with hk | hk
    · exact h7 k hk
    · exact Nat.le_trans h8.size (hn k hk)
  · obtain ⟨q1, q2, q3, q4⟩ := h9 p hp
    have hlt := (Array.getElem?_eq_some_iff.1 q1).1
    exact ⟨(hb.block _ hlt).trans q1, q2, fun hh => hh.elim q3 (fun hh => by have := hn _ hh; omega)⟩
theorem Duo.put {PA i : Nat} {ca : Array Value} {t : TypeId} {u : Value} {Sd : List (Nat × Obj)} (h : Duo W ((PA, .cells ca t (0, 0)) :: Sd) w d0 d1) (hPA : W.heap.size ≤ PA) (hne : ∀ p ∈ Sd, p.1 ≠ PA) (hW : w.setCell ⟨PA, i, none⟩ u = w') : Duo W ((PA, .cells (ca.setIfInBounds i u) t (0, 0)) :: Sd) w' d0 d1 := by
  obtain ⟨F0, F1, h1, h2, h3, h4, h5, h6, h7⟩ := h
  have ho : Only PA w w' := by rw [← hW]; exact (Only.refl PA w).setCell i u
  obtain ⟨p1, p2, p3⟩ := h7 (PA, .cells ca t (0, 0)) (by simp)
  have hs : w.heap.size ≤ w'.heap.size := by rw [ho.2.1]; exact Nat.le_refl _
  refine ⟨F0, F1, h1.kept hs (fun k hk => ho.2.2 k (fun e => p2 (e ▸ hk))), h2.kept hs (fun k hk => ho.2.2 k (fun e => p3 (e ▸ hk))), h3, h4, h5, by rw [← hW]; exact h6.setCell hPA u, fun p hp => ?_⟩
  rcases List.mem_cons.1 hp with rfl | hp
  · exact ⟨by rw [← hW]; exact cellsSet p1, p2, p3⟩
  · obtain ⟨q1, q2⟩ := h7 p (by simp [hp])
    exact ⟨(ho.2.2 _ (hne p hp)).trans q1, q2⟩
end
end Go.Proofs.Ytapehjlpiobeaaa
