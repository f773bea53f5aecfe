/-
  Two pools of the program and the document's own two, all apart; each may be missing.
-/
import Derived.Test.YtgniiojeeobffaaPlPlay1
namespace Go.Proofs.Ytgniiojeeobffaa
open Go.RowKit Go.Shelf
set_option linter.unusedVariables false
set_option linter.unusedSimpArgs false
set_option maxRecDepth 100000
def OptPr (w : World) : Option (Nat × Nat) → List Nat → Prop
  | none, F => F = []
  | some (pb, rb), F => ∃ v u m l all, Pr w pb v rb u m l all ∧ F = bl pb v ++ bl rb u
theorem Pr.lt {w : World} {pb rb m : Nat} {v u : Value} {l all : List Ent} (h : Pr w pb v rb u m l all) : ∀ k ∈ bl pb v ++ bl rb u, k < w.heap.size := fun k hk => by
  rcases List.mem_append.1 hk with hk | hk
  · exact h.pl.lt k hk
  · exact h.rp.lt k hk
theorem OptPr.lt {w : World} {d : Option (Nat × Nat)} {F : List Nat} (h : OptPr w d F) : ∀ k ∈ F, k < w.heap.size := by
  cases d with
  | none => intro k hk; rw [show F = [] from h] at hk; cases hk
  | some d => obtain ⟨v, u, m, l, all, hp, rfl⟩ := h; exact hp.lt
theorem OptPr.kept {w w' : World} {d : Option (Nat × Nat)} {F : List Nat} (h : OptPr w d F) (hk : ∀ k ∈ F, w'.heap[k]? = w.heap[k]?) : OptPr w' d F := by
  cases d with
  | none => exact h
  | some d =>
    obtain ⟨v, u, m, l, all, hp, rfl⟩ := h
    exact ⟨v, u, m, l, all, ⟨hp.pl.kept (fun k h => hk k (by simp [h])), hp.rp.kept (fun k h => hk k (by simp [h])), hp.dis, hp.good, hp.few, hp.perm, hp.lo, hp.hi⟩, rfl⟩
/-- both pairs, and what lies beside them -/
def Duo (W : World) (Sd : List (Nat × Obj)) (w : World) (dA dB : Option (Nat × Nat)) : Prop :=
  ∃ FA FB, OptPr w dA FA ∧ OptPr w dB FB ∧ (∀ k ∈ FA, k ∉ FB) ∧ (∀ k ∈ FA, W.heap.size ≤ k) ∧ (∀ k ∈ FB, W.heap.size ≤ k) ∧ Below W.heap.size W w ∧ ∀ p ∈ Sd, w.heap[p.1]? = some p.2 ∧ p.1 ∉ FA ∧ p.1 ∉ FB
theorem Duo.bel {W w : World} {Sd : List (Nat × Obj)} {dA dB : Option (Nat × Nat)} (h : Duo W Sd w dA dB) : Below W.heap.size W w := by
  obtain ⟨FA, FB, h1, h2, h3, h4, h5, h6, h7⟩ := h
  exact h6
theorem Duo.swap {W w : World} {Sd : List (Nat × Obj)} {dA dB : Option (Nat × Nat)} (h : Duo W Sd w dA dB) : Duo W Sd w dB dA := by
  obtain ⟨FA, FB, h1, h2, h3, h4, h5, h6, h7⟩ := h
  exact ⟨FB, FA, h2, h1, fun k hk hk' => h3 k hk' hk, h5, h4, h6, fun p hp => ⟨(h7 p hp).1, (h7 p hp).2.2, (h7 p hp).2.1⟩⟩
theorem Duo.below {W w w' : World} {Sd : List (Nat × Obj)} {dA dB : Option (Nat × Nat)} (h : Duo W Sd w dA dB) (hb : Below w.heap.size w w') : Duo W Sd w' dA dB := by
  obtain ⟨FA, FB, h1, h2, h3, h4, h5, h6, h7⟩ := h
  exact ⟨FA, FB, h1.kept (fun k hk => hb.block k (h1.lt k hk)), h2.kept (fun k hk => hb.block k (h2.lt k hk)), h3, h4, h5, Below.up h6 hb, fun p hp => ⟨(hb.block _ (Array.getElem?_eq_some_iff.1 (h7 p hp).1).1).trans (h7 p hp).1, (h7 p hp).2⟩⟩
theorem Duo.more {W w : World} {Sd : List (Nat × Obj)} {dA dB : Option (Nat × Nat)} (h : Duo W Sd w dA dB) (o : Obj) : Duo W ((w.heap.size, o) :: Sd) (w.alloc o) dA dB := by
  have hb : Below w.heap.size w (w.alloc o) := (Below.refl _ w).alloc (Nat.le_refl _) _
  obtain ⟨FA, FB, h1, h2, h3, h4, h5, h6, h7⟩ := h
  refine ⟨FA, FB, h1.kept (fun k hk => hb.block k (h1.lt k hk)), h2.kept (fun k hk => hb.block k (h2.lt k hk)), h3, h4, h5, Below.up h6 hb, fun p hp => ?_⟩
  rcases List.mem_cons.1 hp with rfl | hp
  · exact ⟨heap_alloc_new _ _, fun hk => absurd (h1.lt _ hk) (Nat.lt_irrefl _), fun hk => absurd (h2.lt _ hk) (Nat.lt_irrefl _)⟩
  · exact ⟨(hb.block _ (Array.getElem?_eq_some_iff.1 (h7 p hp).1).1).trans (h7 p hp).1, (h7 p hp).2⟩
theorem Duo.less {W w : World} {Sd Sd' : List (Nat × Obj)} {dA dB : Option (Nat × Nat)} (h : Duo W Sd w dA dB) (hs : ∀ p ∈ Sd', p ∈ Sd) : Duo W Sd' w dA dB := by
  obtain ⟨FA, FB, h1, h2, h3, h4, h5, h6, h7⟩ := h
  exact ⟨FA, FB, h1, h2, h3, h4, h5, h6, fun p hp => h7 p (hs p hp)⟩
theorem duoA {W w : World} {Sd : List (Nat × Obj)} {pb rb : Nat} {dB : Option (Nat × Nat)} (h : Duo W Sd w (some (pb, rb)) dB) (who act x : Int) (key : ByteArray) :
    Calls Try.prog 10 #[.pointer (some ⟨pb, 0, none⟩), .pointer (some ⟨rb, 0, none⟩), .agg #[.int .i64 who, .int .i64 act, .string key, .int .u64 x]] w fun e w' => e = .returned (.bool true) ∧ Duo W Sd w' (some (pb, rb)) dB := by
  obtain ⟨FA, FB, ⟨v, u, m, l, all, hp, rfl⟩, h2, h3, h4, h5, h6, h7⟩ := h
  refine (plays_any w pb rb m v u l all who act x key hp).mono ?_
  rintro e w' ⟨rfl, v', u', l', all', hp', hf⟩
  have kB : ∀ k ∈ FB, w'.heap[k]? = w.heap[k]? ∧ k ∉ bl pb v' ++ bl rb u' := fun k hk => hf.keeps (h2.lt k hk) (fun h => h3 k h hk)
  refine ⟨rfl, _, FB, ⟨v', u', m, l', all', hp', rfl⟩, h2.kept (fun k hk => (kB k hk).1), fun k hk hk' => (kB k hk').2 hk, fun k hk => ?_, h5, ⟨hf.1.1.trans h6.os, hf.1.2.1.trans h6.tape, hf.1.2.2.trans h6.output, Nat.le_trans h6.size hf.2.1, fun k hk => ?_⟩, fun p hp => ?_⟩
  · rcases Nat.lt_or_ge k W.heap.size with h' | h'
    · exact absurd hk (hf.keeps (Nat.lt_of_lt_of_le h' h6.size) (fun h'' => by have := h4 k h''; omega)).2
    · exact h'
  · exact (hf.keeps (Nat.lt_of_lt_of_le hk h6.size) (fun h'' => by have := h4 k h''; omega)).1.trans (h6.block k hk)
  · obtain ⟨g1, g2, g3⟩ := h7 p hp
    obtain ⟨e1, e2⟩ := hf.keeps (Array.getElem?_eq_some_iff.1 g1).1 g2
    exact ⟨e1.trans g1, e2, g3⟩
theorem duoB {W w : World} {Sd : List (Nat × Obj)} {pb rb : Nat} {dA : Option (Nat × Nat)} (h : Duo W Sd w dA (some (pb, rb))) (who act x : Int) (key : ByteArray) :
    Calls Try.prog 10 #[.pointer (some ⟨pb, 0, none⟩), .pointer (some ⟨rb, 0, none⟩), .agg #[.int .i64 who, .int .i64 act, .string key, .int .u64 x]] w fun e w' => e = .returned (.bool true) ∧ Duo W Sd w' dA (some (pb, rb)) :=
  (duoA h.swap who act x key).mono fun e w' hd => ⟨hd.1, hd.2.swap⟩
theorem duoRowA {W w : World} {Sd : List (Nat × Obj)} {pb rb : Nat} {dB : Option (Nat × Nat)} (h : Duo W Sd w (some (pb, rb)) dB) :
    Calls Try.prog 11 #[.pointer (some ⟨pb, 0, none⟩), .pointer (some ⟨rb, 0, none⟩)] w fun e w' => e = .returned (.bool true) ∧ Duo W Sd w' (some (pb, rb)) dB := by
  have h' := h
  obtain ⟨FA, FB, ⟨v, u, m, l, all, hp, rfl⟩, _⟩ := h
  exact (row_any w pb rb m v u l all hp).mono fun e w' hd => ⟨hd.1, h'.below hd.2⟩
theorem duoRowB {W w : World} {Sd : List (Nat × Obj)} {pb rb : Nat} {dA : Option (Nat × Nat)} (h : Duo W Sd w dA (some (pb, rb))) :
    Calls Try.prog 11 #[.pointer (some ⟨pb, 0, none⟩), .pointer (some ⟨rb, 0, none⟩)] w fun e w' => e = .returned (.bool true) ∧ Duo W Sd w' dA (some (pb, rb)) :=
  (duoRowA h.swap).mono fun e w' hd => ⟨hd.1, hd.2.swap⟩
/-- a new pair -/
theorem Duo.new {W w w1 w2 : World} {dA : Option (Nat × Nat)} {m : Nat} (h : Duo W [] w dA none) (hp : PX w [] w1 w.heap.size (.slice none 0 0) m []) (hr : Rp w2 w1.heap.size (.slice none 0 0) m []) (hb : Below w1.heap.size w1 w2) (h1 : 1 ≤ m) (h2 : m ≤ 16) :
    Duo W [] w2 dA (some (w.heap.size, w1.heap.size)) := by
  have hb02 := Below.up hp.bel hb
  obtain ⟨FA0, FB0, g1, _, _, g4, _, g6, _⟩ := h
  have hs : w.heap.size < w1.heap.size := hp.pl.lt _ (by simp [bl])
  refine ⟨FA0, _, g1.kept (fun k hk => hb02.block k (g1.lt k hk)), ⟨.slice none 0 0, .slice none 0 0, m, [], [], ⟨hp.pl.bel hb, hr, ?_, good0, by simp, List.Perm.refl _, h1, h2⟩, rfl⟩, ?_, g4, ?_, Below.up g6 hb02, fun p hp => by cases hp⟩
  · intro k hk hk'
    simp [bl, Value.ownBlock] at hk hk'
    omega
  · intro k hk hk'
    have := g1.lt k hk
    simp [bl, Value.ownBlock] at hk'
    omega
  · intro k hk
    simp [bl, Value.ownBlock] at hk
    have := g6.size
    omega
end Go.Proofs.Ytgniiojeeobffaa
