/-
  Rows of flocks and of the document's own ones, some of them none: Union, Inter and Diff of both tell the same.
-/
import Derived.Test.YtlfpkbjiofelkaaGreatRdQ1
import Derived.Test.YtlfpkbjiofelkaaGreatFlInter2
import Derived.Maps.AppendAt
import Derived.Deep.AppendLies
/-
  Flocks beside the document's own ones, and the rows of pointers to them, in one memory.
-/
namespace Go.Proofs.YtlfpkbjiofelkaaGreat
open Go.RowKit Go.Shelf
set_option linter.unusedVariables false
set_option linter.unusedSimpArgs false
set_option maxRecDepth 100000
namespace Rd
/-- a row of pointers -/
def Po (t : TypeId) (B : Nat) (w : World) (v : Value) (P : List (Option Addr)) : Prop := w.ownsRow B t 1 v P.length (P.map Value.pointer)
theorem po_form {t : TypeId} {B : Nat} {w : World} {v : Value} {P : List (Option Addr)} (h : Po t B w v P) : ∃ ao cap, v = .slice ao P.length cap := by
  unfold Po at h
  rcases h.2 with ⟨rfl, h0⟩ | ⟨g, cap, cur, rfl, _⟩
  · exact ⟨none, 0, by rw [h0]⟩
  · exact ⟨_, _, rfl⟩
theorem po_kept {t : TypeId} {B : Nat} {w w' : World} {v : Value} {P : List (Option Addr)} (h : Po t B w v P) (hk : ∀ k, v.ownBlock = some k → w'.heap[k]? = w.heap[k]?) : Po t B w' v P := own_kept h hk
theorem po_lt {t : TypeId} {B : Nat} {w : World} {v : Value} {P : List (Option Addr)} (h : Po t B w v P) {k : Nat} (hk : v.ownBlock = some k) : B ≤ k ∧ k < w.heap.size := ⟨(World.ownsRow.lt h k hk).1, own_lt h hk⟩
theorem po_at {t : TypeId} {B : Nat} {w : World} {ao : Option Addr} {m cp : Nat} {P : List (Option Addr)} (h : Po t B w (.slice ao m cp) P) {j : Nat} {x : Option Addr} (hj : P[j]? = some x) :
    ∃ g, ao = some ⟨g, 0, none⟩ ∧ w.cell? ⟨g, j, none⟩ = some (.pointer x) ∧ g < w.heap.size := by
  unfold Po at h
  have hj' := (List.getElem?_eq_some_iff.1 hj).1
  rcases h.2 with ⟨e, h0⟩ | ⟨g, cap, cur, e, _, hg, _⟩
  · omega
  · cases e
    have h2 := h.cells (g := g) rfl j (.pointer x) (by rw [List.getElem?_map, hj]; rfl)
    rw [show (⟨g, 0, none⟩ : Addr).add j = ⟨g, j, none⟩ by unfold Addr.add; split <;> simp_all] at h2
    exact ⟨g, rfl, h2, (Array.getElem?_eq_some_iff.1 hg).1⟩
theorem po_cap {t : TypeId} {B : Nat} {w : World} {g m cp : Nat} {P : List (Option Addr)} (h : Po t B w (.slice (some ⟨g, 0, none⟩) m cp) P) : P.length ≤ cp := by
  unfold Po at h
  rcases h.2 with ⟨e, _⟩ | ⟨g', cap, cur, e, _, _, h1, _⟩
  · cases e
  · cases e; exact h1
/-- nothing has turned but the block of one row, and new ones -/
def Grw (v : Value) (w w' : World) : Prop := (w'.os = w.os ∧ w'.tape = w.tape ∧ w'.output = w.output) ∧ w.heap.size ≤ w'.heap.size ∧ ∀ k, k < w.heap.size → v.ownBlock ≠ some k → w'.heap[k]? = w.heap[k]?

/-- a row of pointers grows by one -/
theorem pushF {B : Nat} {w : World} {v : Value} {P : List (Option Addr)} (h : Po 25 B w v P) (hB : B ≤ w.heap.size) (x : Option Addr) (hl : P.length ≤ 7000000000000) :
    ∃ g cap w', (Builtin.append_ #[41, 41] 41 #[v, .slice (some ⟨w.heap.size, 0, none⟩) 1 1]).run Tryz.prog (w.alloc (.cells #[.pointer x] 25)) = .ok (.slice (some ⟨g, 0, none⟩) (P.length + 1) cap) w' ∧
      Po 25 B w' (.slice (some ⟨g, 0, none⟩) (P.length + 1) cap) (P ++ [x]) ∧ Grw v w w' ∧ (v.ownBlock = some g ∨ w.heap.size ≤ g) := by
  obtain ⟨i0, hi0, hz0, hz1, hzb⟩ := info_parts info_ptr
  obtain ⟨ao, cap0, rfl⟩ := po_form h
  have h5 := h
  unfold Po at h5
  obtain ⟨g, cap, W3, hrun, hown, hgr, hat, hg3⟩ := run_append_lies (P := Tryz.prog) (w := w.alloc (.cells #[.pointer x] 25)) 41 41 B 25 i0 _ 1 8 Tryz.underlying41 hi0 hz0 hz1 hzb rfl (by omega) (.slice ao P.length cap0) P.length _ (h5.alloc _) ⟨w.heap.size, 0, none⟩ 1 1 [.pointer x] rfl (World.news_of_block (cs := #[.pointer x]) (t := 25) (fr := (0, 0)) (heap_alloc_new w _)) (by simp [Value.oneCell']) (by omega) (by unfold maxLen; omega) (by omega) (by simp; omega) (w.heap.size + 1) (by simp)
  have hs3 : w.heap.size + 1 ≤ W3.heap.size := by have := hgr.size; simpa using this
  refine ⟨g, cap, W3, hrun, ?_, ⟨⟨hgr.os, hgr.tape, hgr.output⟩, by omega, fun k hk hn => ?_⟩, hat.imp id (fun e => by omega)⟩
  · unfold Po
    rw [List.map_append, List.length_append]
    exact hown
  · rw [hgr.block k (by simp; omega) (fun e => hn e.symm), Below.heap_alloc _ _ _ hk]
/-- a row of pointers, copied into a new one -/
theorem copyF {B : Nat} {w : World} {v : Value} {P : List (Option Addr)} (h : Po 25 B w v P) (hl : P.length ≤ 7000000000000) :
    ∃ ao cap w', (Builtin.append_ #[41, 41] 41 #[.slice (some ⟨w.heap.size, 0, none⟩) 0 0, v]).run Tryz.prog (w.alloc (.cells #[] 25)) = .ok (.slice ao P.length cap) w' ∧
      Po 25 w.heap.size w' (.slice ao P.length cap) P ∧ Below w.heap.size w w' := by
  obtain ⟨i0, hi0, hz0, hz1, hzb⟩ := info_parts info_ptr
  have h0 : (w.alloc (.cells #[] 25)).ownsRow w.heap.size 25 1 (.slice (some ⟨w.heap.size, 0, none⟩) 0 0) 0 [] := ⟨rfl, .inr ⟨w.heap.size, 0, _, rfl, Nat.le_refl _, heap_alloc_new _ _, Nat.le_refl _, by unfold maxLen; omega, rfl, rfl⟩⟩
  have hb0 : Below w.heap.size w (w.alloc (.cells #[] 25)) := (Below.refl _ w).alloc (Nat.le_refl _) _
  have h5 := h
  unfold Po at h5
  rcases h5.2 with ⟨rfl, e0⟩ | ⟨g, cap, cur, rfl, _⟩
  · have e : P = [] := List.length_eq_zero_iff.1 e0
    subst e
    exact ⟨_, _, _, run_append_owned_none (P := Tryz.prog) (w := w.alloc (.cells #[] 25)) w.heap.size 41 41 25 i0 1 Tryz.underlying41 hi0 _ 0 _ h0, h0, hb0⟩
  · obtain ⟨v', W3, hrun, hown, hgr, _, hat⟩ := run_append_own_at (P := Tryz.prog) (w.alloc (.cells #[] 25)) w.heap.size 41 41 25 i0 _ 1 8 Tryz.underlying41 hi0 hz0 hz1 hzb rfl (by omega) (.slice (some ⟨w.heap.size, 0, none⟩) 0 0) 0 _ h0 ⟨g, 0, none⟩ P.length cap (P.map Value.pointer) (by simp) (fun j u hu => by
      have hc := h5.cells (g := g) rfl j u hu
      exact (hb0.cell (World.block_lt_of_cell? _ _ hc)).trans hc) (fun u hu => by
        obtain ⟨y, _, rfl⟩ := List.mem_map.1 hu
        rfl) (by unfold maxLen; omega) (by omega) (by simp)
    rw [Nat.zero_add, List.nil_append] at hown
    have hp : Po 25 w.heap.size W3 v' P := hown
    obtain ⟨ao, cp, rfl⟩ := po_form hp
    refine ⟨ao, cp, W3, hrun, hp, hb0.grown hgr (by simp) (fun k hk => by cases hk; exact Nat.le_refl _)⟩

/-- a row of pointers grows by one -/
theorem pushR {B : Nat} {w : World} {v : Value} {P : List (Option Addr)} (h : Po 28 B w v P) (hB : B ≤ w.heap.size) (x : Option Addr) (hl : P.length ≤ 7000000000000) :
    ∃ g cap w', (Builtin.append_ #[42, 42] 42 #[v, .slice (some ⟨w.heap.size, 0, none⟩) 1 1]).run Tryz.prog (w.alloc (.cells #[.pointer x] 28)) = .ok (.slice (some ⟨g, 0, none⟩) (P.length + 1) cap) w' ∧
      Po 28 B w' (.slice (some ⟨g, 0, none⟩) (P.length + 1) cap) (P ++ [x]) ∧ Grw v w w' ∧ (v.ownBlock = some g ∨ w.heap.size ≤ g) := by
  obtain ⟨i0, hi0, hz0, hz1, hzb⟩ := info_parts info_fp
  obtain ⟨ao, cap0, rfl⟩ := po_form h
  have h5 := h
  unfold Po at h5
  obtain ⟨g, cap, W3, hrun, hown, hgr, hat, hg3⟩ := run_append_lies (P := Tryz.prog) (w := w.alloc (.cells #[.pointer x] 28)) 42 42 B 28 i0 _ 1 8 Tryz.underlying42 hi0 hz0 hz1 hzb rfl (by omega) (.slice ao P.length cap0) P.length _ (h5.alloc _) ⟨w.heap.size, 0, none⟩ 1 1 [.pointer x] rfl (World.news_of_block (cs := #[.pointer x]) (t := 28) (fr := (0, 0)) (heap_alloc_new w _)) (by simp [Value.oneCell']) (by omega) (by unfold maxLen; omega) (by omega) (by simp; omega) (w.heap.size + 1) (by simp)
  have hs3 : w.heap.size + 1 ≤ W3.heap.size := by have := hgr.size; simpa using this
  refine ⟨g, cap, W3, hrun, ?_, ⟨⟨hgr.os, hgr.tape, hgr.output⟩, by omega, fun k hk hn => ?_⟩, hat.imp id (fun e => by omega)⟩
  · unfold Po
    rw [List.map_append, List.length_append]
    exact hown
  · rw [hgr.block k (by simp; omega) (fun e => hn e.symm), Below.heap_alloc _ _ _ hk]
/-- a row of pointers, copied into a new one -/
theorem copyR {B : Nat} {w : World} {v : Value} {P : List (Option Addr)} (h : Po 28 B w v P) (hl : P.length ≤ 7000000000000) :
    ∃ ao cap w', (Builtin.append_ #[42, 42] 42 #[.slice (some ⟨w.heap.size, 0, none⟩) 0 0, v]).run Tryz.prog (w.alloc (.cells #[] 28)) = .ok (.slice ao P.length cap) w' ∧
      Po 28 w.heap.size w' (.slice ao P.length cap) P ∧ Below w.heap.size w w' := by
  obtain ⟨i0, hi0, hz0, hz1, hzb⟩ := info_parts info_fp
  have h0 : (w.alloc (.cells #[] 28)).ownsRow w.heap.size 28 1 (.slice (some ⟨w.heap.size, 0, none⟩) 0 0) 0 [] := ⟨rfl, .inr ⟨w.heap.size, 0, _, rfl, Nat.le_refl _, heap_alloc_new _ _, Nat.le_refl _, by unfold maxLen; omega, rfl, rfl⟩⟩
  have hb0 : Below w.heap.size w (w.alloc (.cells #[] 28)) := (Below.refl _ w).alloc (Nat.le_refl _) _
  have h5 := h
  unfold Po at h5
  rcases h5.2 with ⟨rfl, e0⟩ | ⟨g, cap, cur, rfl, _⟩
  · have e : P = [] := List.length_eq_zero_iff.1 e0
    subst e
    exact ⟨_, _, _, run_append_owned_none (P := Tryz.prog) (w := w.alloc (.cells #[] 28)) w.heap.size 42 42 28 i0 1 Tryz.underlying42 hi0 _ 0 _ h0, h0, hb0⟩
  · obtain ⟨v', W3, hrun, hown, hgr, _, hat⟩ := run_append_own_at (P := Tryz.prog) (w.alloc (.cells #[] 28)) w.heap.size 42 42 28 i0 _ 1 8 Tryz.underlying42 hi0 hz0 hz1 hzb rfl (by omega) (.slice (some ⟨w.heap.size, 0, none⟩) 0 0) 0 _ h0 ⟨g, 0, none⟩ P.length cap (P.map Value.pointer) (by simp) (fun j u hu => by
      have hc := h5.cells (g := g) rfl j u hu
      exact (hb0.cell (World.block_lt_of_cell? _ _ hc)).trans hc) (fun u hu => by
        obtain ⟨y, _, rfl⟩ := List.mem_map.1 hu
        rfl) (by unfold maxLen; omega) (by omega) (by simp)
    rw [Nat.zero_add, List.nil_append] at hown
    have hp : Po 28 w.heap.size W3 v' P := hown
    obtain ⟨ao, cp, rfl⟩ := po_form hp
    refine ⟨ao, cp, W3, hrun, hp, hb0.grown hgr (by simp) (fun k hk => by cases hk; exact Nat.le_refl _)⟩

/-- a flock and the document's own one -/
structure Itm where
  R : Nat
  R2 : Nat
  seed : Nat
  N : Nat
  O : Nat → Prop
  l : List ByteArray
  s : Sf
def Itm.Lies (f : Itm) (w : World) : Prop := Pf (hs f.seed) f.N w f.O f.R f.R2 f.seed f.l f.s
theorem Pf.kept {h : ByteArray → Nat} {N : Nat} {w w' : World} {O : Nat → Prop} {R R2 seed : Nat} {l : List ByteArray} {s : Sf} (hp : Pf h N w O R R2 seed l s) (hs : w.heap.size ≤ w'.heap.size) (hk : ∀ k, k < w.heap.size → O k → w'.heap[k]? = w.heap[k]?) : Pf h N w' O R R2 seed l s := by
  obtain ⟨r, b, q, b2, v, KV, hr, hf, ha, rfl⟩ := hp.ex
  exact ⟨r, b, q, b2, v, KV, hr.kept hs (fun k h1 h2 => hk k h1 (.inl h2)), hf.kept hs (fun k h1 h2 => hk k h1 (.inr h2)), ha, rfl⟩
theorem Pf.lt {h : ByteArray → Nat} {N : Nat} {w : World} {O : Nat → Prop} {R R2 seed : Nat} {l : List ByteArray} {s : Sf} (hp : Pf h N w O R R2 seed l s) {k : Nat} (hk : O k) : k < w.heap.size := by
  obtain ⟨r, b, q, b2, v, KV, hr, hf, ha, rfl⟩ := hp.ex
  exact hk.elim (fun e => hr.role_lt e) (fun e => hf.role_lt e)
theorem Pf.below {h : ByteArray → Nat} {N : Nat} {w w' : World} {O : Nat → Prop} {R R2 seed : Nat} {l : List ByteArray} {s : Sf} (hp : Pf h N w O R R2 seed l s) (hb : Below w.heap.size w w') : Pf h N w' O R R2 seed l s := hp.kept hb.size (fun k hk _ => hb.block k hk)
/-- such pairs, no two of them in one block -/
def Fms (W w : World) (v5 v6 : Value) (L : List Itm) : Prop :=
  (∀ f ∈ L, f.Lies w ∧ ∀ k, f.O k → W.heap.size ≤ k ∧ v5.ownBlock ≠ some k ∧ v6.ownBlock ≠ some k) ∧ L.Pairwise (fun f g => ∀ k, f.O k → ¬ g.O k)
/-- pairs, and two rows of pointers, all in blocks that W does not have -/
def Sts (W w : World) (v5 v6 : Value) (P5 P6 : List (Option Addr)) (L : List Itm) : Prop :=
  Below W.heap.size W w ∧ Po 25 W.heap.size w v5 P5 ∧ Po 28 W.heap.size w v6 P6 ∧ (∀ g, v5.ownBlock = some g → v6.ownBlock ≠ some g) ∧ Fms W w v5 v6 L
theorem Sts.below {W w w' : World} {v5 v6 : Value} {P5 P6 : List (Option Addr)} {L : List Itm} (h : Sts W w v5 v6 P5 P6 L) (hb : Below w.heap.size w w') : Sts W w' v5 v6 P5 P6 L :=
  ⟨h.1.trans (hb.mono h.1.size), po_kept h.2.1 (fun k hk => hb.block k (po_lt h.2.1 hk).2), po_kept h.2.2.1 (fun k hk => hb.block k (po_lt h.2.2.1 hk).2), h.2.2.2.1, fun f hf => ⟨(h.2.2.2.2.1 f hf).1.below hb, (h.2.2.2.2.1 f hf).2⟩, h.2.2.2.2.2⟩
theorem Sts.start {W w : World} (h : Below W.heap.size W w) : Sts W w (.slice none 0 0) (.slice none 0 0) [] [] [] :=
  ⟨h, ⟨rfl, .inl ⟨rfl, rfl⟩⟩, ⟨rfl, .inl ⟨rfl, rfl⟩⟩, (fun g hg => by cases hg), (fun f hf => by cases hf), List.Pairwise.nil⟩
/-- a pair more, all its blocks being new -/
theorem Sts.new {W w w' : World} {v5 v6 : Value} {P5 P6 : List (Option Addr)} {L : List Itm} (h : Sts W w v5 v6 P5 P6 L) (hb : Below w.heap.size w w') {f : Itm} (hf : f.Lies w') (hn : ∀ k, f.O k → w.heap.size ≤ k) : Sts W w' v5 v6 P5 P6 (L ++ [f]) := by
  obtain ⟨p1, p2, p3, p4, p5, p6⟩ := h.below hb
  refine ⟨p1, p2, p3, p4, fun g hg => ?_, ?_⟩
  · rcases List.mem_append.1 hg with e | e
    · exact p5 g e
    · rw [List.mem_singleton.1 e]
      refine ⟨hf, fun k hk => ⟨Nat.le_trans h.1.size (hn k hk), fun e => ?_, fun e => ?_⟩⟩
      · have := (po_lt h.2.1 e).2; have := hn k hk; omega
      · have := (po_lt h.2.2.1 e).2; have := hn k hk; omega
  · rw [List.pairwise_append]
    refine ⟨p6, List.pairwise_singleton _ _, fun g hg g' hg' k h1 h2 => ?_⟩
    rw [List.mem_singleton.1 hg'] at h2
    have := hn k h2
    have := ((h.2.2.2.2.1 g hg).1).lt h1
    omega
/-- the last pair does something -/
theorem Sts.step {W w w' : World} {v5 v6 : Value} {P5 P6 : List (Option Addr)} {L : List Itm} {f f' : Itm} (h : Sts W w v5 v6 P5 P6 (L ++ [f])) (hf : f'.Lies w') (hF : Fp w f.O w' f'.O) : Sts W w' v5 v6 P5 P6 (L ++ [f']) := by
  obtain ⟨p1, p2, p3, p4, p5, p6⟩ := h
  have hin : f ∈ L ++ [f] := by simp
  obtain ⟨q1, q2⟩ := p5 f hin
  rw [List.pairwise_append] at p6
  obtain ⟨r1, _, r3⟩ := p6
  have oth : ∀ g ∈ L, ∀ k, g.O k → ¬ f.O k := fun g hg k hk => r3 g hg f (by simp) k hk
  refine ⟨p1.trans ⟨hF.1.1, hF.1.2.1, hF.1.2.2, Nat.le_trans p1.size hF.2.1 |> fun _ => by have := p1.size; have := hF.2.1; omega, fun k hk => (hF.2.2 k (Nat.lt_of_lt_of_le hk p1.size) (fun e => by have := (q2 k e).1; omega)).1⟩, po_kept p2 (fun k hk => (hF.2.2 k (po_lt p2 hk).2 (fun e => (q2 k e).2.1 hk)).1), po_kept p3 (fun k hk => (hF.2.2 k (po_lt p3 hk).2 (fun e => (q2 k e).2.2 hk)).1), p4, fun g hg => ?_, ?_⟩
  · rcases List.mem_append.1 hg with e | e
    · obtain ⟨s1, s2⟩ := p5 g (by simp [e])
      exact ⟨s1.kept hF.2.1 (fun k hk ho => (hF.2.2 k hk (oth g e k ho)).1), s2⟩
    · rw [List.mem_singleton.1 e]
      refine ⟨hf, fun k hk => ?_⟩
      by_cases hlt : k < w.heap.size
      · by_cases ho : f.O k
        · exact q2 k ho
        · exact absurd hk (hF.2.2 k hlt ho).2
      · exact ⟨by have := p1.size; omega, fun e => by have := (po_lt p2 e).2; omega, fun e => by have := (po_lt p3 e).2; omega⟩
  · rw [List.pairwise_append]
    refine ⟨r1, List.pairwise_singleton _ _, fun g hg g' hg' k h1 h2 => ?_⟩
    rw [List.mem_singleton.1 hg'] at h2
    have hlt := ((p5 g (by simp [hg])).1).lt h1
    exact (hF.2.2 k hlt (oth g hg k h1)).2 h2
/-- the first row has grown -/
theorem Sts.row5 {W w w' : World} {v5 v5' v6 : Value} {P5 P5' P6 : List (Option Addr)} {L : List Itm} (h : Sts W w v5 v6 P5 P6 L) (hk : Po 25 W.heap.size w' v5' P5') (hG : Grw v5 w w') (hat : ∀ g, v5'.ownBlock = some g → v5.ownBlock = some g ∨ w.heap.size ≤ g) : Sts W w' v5' v6 P5' P6 L := by
  obtain ⟨p1, p2, p3, p4, p5, p6⟩ := h
  refine ⟨p1.trans ⟨hG.1.1, hG.1.2.1, hG.1.2.2, by have := p1.size; have := hG.2.1; omega, fun k hk => hG.2.2 k (Nat.lt_of_lt_of_le hk p1.size) (fun e => by have := (po_lt p2 e).1; omega)⟩, hk, po_kept p3 (fun k hk => hG.2.2 k (po_lt p3 hk).2 (fun e => p4 k e hk)), fun g hg hg' => ?_, fun f hf => ?_, p6⟩
  · rcases hat g hg with e | e
    · exact p4 g e hg'
    · have := (po_lt p3 hg').2; omega
  · obtain ⟨s1, s2⟩ := p5 f hf
    refine ⟨s1.kept hG.2.1 (fun k hk ho => hG.2.2 k hk (s2 k ho).2.1), fun k ho => ⟨(s2 k ho).1, fun e => ?_, (s2 k ho).2.2⟩⟩
    rcases hat k e with e | e
    · exact (s2 k ho).2.1 e
    · have := s1.lt ho; omega
theorem Sts.row6 {W w w' : World} {v5 v6 v6' : Value} {P5 P6 P6' : List (Option Addr)} {L : List Itm} (h : Sts W w v5 v6 P5 P6 L) (hk : Po 28 W.heap.size w' v6' P6') (hG : Grw v6 w w') (hat : ∀ g, v6'.ownBlock = some g → v6.ownBlock = some g ∨ w.heap.size ≤ g) : Sts W w' v5 v6' P5 P6' L := by
  obtain ⟨p1, p2, p3, p4, p5, p6⟩ := h
  refine ⟨p1.trans ⟨hG.1.1, hG.1.2.1, hG.1.2.2, by have := p1.size; have := hG.2.1; omega, fun k hk => hG.2.2 k (Nat.lt_of_lt_of_le hk p1.size) (fun e => by have := (po_lt p3 e).1; omega)⟩, po_kept p2 (fun k hk => hG.2.2 k (po_lt p2 hk).2 (fun e => p4 k hk e)), hk, fun g hg hg' => ?_, fun f hf => ?_, p6⟩
  · rcases hat g hg' with e | e
    · exact p4 g hg e
    · have := (po_lt p2 hg).2; omega
  · obtain ⟨s1, s2⟩ := p5 f hf
    refine ⟨s1.kept hG.2.1 (fun k hk ho => hG.2.2 k hk (s2 k ho).2.2), fun k ho => ⟨(s2 k ho).1, (s2 k ho).2.1, fun e => ?_⟩⟩
    rcases hat k e with e | e
    · exact (s2 k ho).2.2 e
    · have := s1.lt ho; omega
end Rd
end Go.Proofs.YtlfpkbjiofelkaaGreat

/-
  Flocks beside the document's own ones: both are made, and a text is added to both.
-/
namespace Go.Proofs.YtlfpkbjiofelkaaGreat
open Go.RowKit Go.Shelf
set_option linter.unusedVariables false
set_option linter.unusedSimpArgs false
set_option maxRecDepth 100000
namespace Rd
/-- what an added text makes of a table, a long one nothing -/
def addT (h : ByteArray → Nat) (s : Sf) (x : ByteArray) : Sf := if x.size ≤ 1048576 then addS h s x else s
/-- the program's flock has done something, the document's not yet -/
structure Mid (h : ByteArray → Nat) (N : Nat) (w : World) (O : Nat → Prop) (R R2 seed : Nat) (l : List ByteArray) (s1 s : Sf) : Prop where
  ex : ∃ r b q b2 v KV, Rec h (N + 1) w r R b seed s1 ∧ RF h N w q R2 b2 seed v l s KV ∧ (∀ k, rr r R k = (0, 0) ∨ rf q R2 v k = (0, 0)) ∧ O = Own r R q R2 v
section
variable {N : Nat} {w : World} {O : Nat → Prop} {R R2 seed : Nat} {l : List ByteArray} {s s1 : Sf}
theorem add_f (hp : Pf (hs seed) N w O R R2 seed l s) (hsd : seed < Dw.M) (hN : N + 1 ≤ 2600000000000) (x : ByteArray) :
    Calls Tryz.prog 12 #[.pointer (some ⟨R, 0, none⟩), .string x] w fun e w' => ∃ v O', e = .returned v ∧ Mid (hs seed) N w' O' R R2 seed l (addT (hs seed) s x) s ∧ Fp w O w' O' := by
  obtain ⟨r, b, q, b2, v, KV, hr, hf, ha, rfl⟩ := hp.ex
  unfold addT
  by_cases hx : x.size ≤ 1048576
  · rw [if_pos hx]
    refine (fadd_all (hs_is seed hsd) hr hN x hx).mono ?_
    rintro _ w' ⟨rfl, r', h1, h2⟩
    obtain ⟨f1, f2⟩ := hf.aside h2 ha
    exact ⟨_, _, rfl, ⟨r', b, q, b2, v, KV, h1, f1, f2, rfl⟩, Fp.left h2⟩
  · rw [if_neg hx]
    refine (fadd_long x (decide_eq_true (by omega))).mono ?_
    rintro _ w' ⟨rfl, rfl⟩
    exact ⟨_, _, rfl, ⟨r, b, q, b2, v, KV, hr.more (by omega), hf, ha, rfl⟩, ⟨⟨rfl, rfl, rfl⟩, Nat.le_refl _, fun k _ hn => ⟨rfl, hn⟩⟩⟩
theorem add_m {x : ByteArray} (hp : Mid (hs seed) N w O R R2 seed l (addT (hs seed) s x) s) (hsd : seed < Dw.M) (hN : N + 1 ≤ 2600000000000) :
    Calls Tryz.prog 13 #[.pointer (some ⟨R2, 0, none⟩), .string x] w fun e w' => ∃ v O' l', e = .returned v ∧ Pf (hs seed) (N + 1) w' O' R R2 seed l' (addT (hs seed) s x) ∧ Fp w O w' O' := by
  obtain ⟨r, b, q, b2, v, KV, hr, hf, ha, rfl⟩ := hp.ex
  unfold addT at hr ⊢
  by_cases hx : x.size ≤ 1048576
  · rw [if_pos hx] at hr ⊢
    refine (rfadd_all (rhs_is seed hsd) hf hN x hx).mono ?_
    rintro _ w' ⟨rfl, q', v', l', KV', h1, h2⟩
    obtain ⟨f1, f2⟩ := hr.aside h2 ha
    exact ⟨_, _, l', rfl, ⟨r, b, q', b2, v', KV', f1, h1, f2, rfl⟩, Fp.right h2⟩
  · rw [if_neg hx] at hr ⊢
    refine (rfadd_long w R2 x (by omega)).mono ?_
    rintro _ w' ⟨rfl, rfl⟩
    exact ⟨_, _, l, rfl, ⟨r, b, q, b2, v, KV, hr, hf.more (by omega), ha, rfl⟩, ⟨⟨rfl, rfl, rfl⟩, Nat.le_refl _, fun k _ hn => ⟨rfl, hn⟩⟩⟩
end
/-- both are new -/
theorem new_pair {h : ByteArray → Nat} {w w1 w2 : World} {r q : Roles} {R R2 b b2 seed : Nat} (b1 : Below w.heap.size w w1) (hr : Rec h 0 w1 r R b seed Dc.none0) (hn : ∀ k, rr r R k ≠ (0, 0) → w.heap.size ≤ k) (b2' : Below w1.heap.size w1 w2) (hf : RF h 0 w2 q R2 b2 seed (.slice none 0 0) [] Dc.none0 []) (hm : ∀ k, rf q R2 (.slice none 0 0) k ≠ (0, 0) → w1.heap.size ≤ k) :
    ∃ O, Pf h 0 w2 O R R2 seed [] Dc.none0 ∧ ∀ k, O k → w.heap.size ≤ k := by
  refine ⟨_, ⟨r, b, q, b2, _, [], hr.below b2', hf, fun k => ?_, rfl⟩, fun k hk => hk.elim (fun e => hn k e) (fun e => Nat.le_trans b1.size (hm k e))⟩
  by_cases e : rr r R k = (0, 0)
  · exact .inl e
  · refine .inr (Classical.byContradiction fun e' => ?_)
    have h1 := hr.role_lt e
    have h2 := hm k e'
    omega
end Rd
end Go.Proofs.YtlfpkbjiofelkaaGreat

namespace Go.Proofs.YtlfpkbjiofelkaaGreat
open Go.RowKit Go.Shelf
set_option linter.unusedVariables false
set_option linter.unusedSimpArgs false
set_option maxRecDepth 100000
set_option maxHeartbeats 400000 in
theorem ofFirst_none (w : World) (ao : Option Addr) (cp : Nat) (oth : Int) : Calls Tryz.prog 47 #[.slice ao 0 cp, .int .i64 oth] w fun e w' => e = .returned (.slice none 0 0) ∧ RowKit.Below w.heap.size w w' := by
  go_enter Tryz.func47, Tryz.ntmps47
  go_wp2
  go_ret
  exact ⟨rfl, (RowKit.Below.refl _ w).alloc (Nat.le_refl _) _⟩
set_option maxHeartbeats 400000 in
theorem inter_none (w : World) (ao : Option Addr) (cp : Nat) : Calls Tryz.prog 15 #[.slice ao 0 cp] w fun e w' => e = .returned (.slice none 0 0) ∧ RowKit.Below w.heap.size w w' := by
  go_enter Tryz.func15, Tryz.ntmps15
  go_wp2_with fail
  refine (ofFirst_none w _ _ _).mono ?_
  rintro _ w2 ⟨rfl, h⟩
  go_wp2
  go_ret
  exact ⟨rfl, h⟩
set_option maxHeartbeats 400000 in
theorem diff_none (w : World) (ao : Option Addr) (cp : Nat) : Calls Tryz.prog 16 #[.slice ao 0 cp] w fun e w' => e = .returned (.slice none 0 0) ∧ RowKit.Below w.heap.size w w' := by
  go_enter Tryz.func16, Tryz.ntmps16
  go_wp2_with fail
  refine (ofFirst_none w _ _ _).mono ?_
  rintro _ w2 ⟨rfl, h⟩
  go_wp2
  go_ret
  exact ⟨rfl, h⟩
namespace Rd
def fx (o : Option Itm) : List ByteArray := match o with | none => [] | some f => f.l
def kx (o : Option Itm) : List ByteArray := match o with | none => [] | some f => kys f.s
def p5 (o : Option Itm) : Option Addr := o.map fun f => ⟨f.R, 0, none⟩
def p6 (o : Option Itm) : Option Addr := o.map fun f => ⟨f.R2, 0, none⟩
def psm (M : List (Option Itm)) : List (Option Nat × List ByteArray) := M.map fun o => (o.map (·.R), kx o)
def Uni (M : List (Option Itm)) (L : List ByteArray) : Prop := Rise L ∧ ∀ x, x ∈ L ↔ ∃ o ∈ M, x ∈ fx o
def Itr (M : List (Option Itm)) (L : List ByteArray) : Prop := Rise L ∧ ∀ x, x ∈ L ↔ ∃ o0 T, M = o0 :: T ∧ x ∈ fx o0 ∧ ∀ o ∈ T, x ∈ fx o
def Dif (M : List (Option Itm)) (L : List ByteArray) : Prop := Rise L ∧ ∀ x, x ∈ L ↔ ∃ o0 T, M = o0 :: T ∧ x ∈ fx o0 ∧ ∀ o ∈ T, x ∉ fx o
theorem rise_mem {L L' : List ByteArray} (h : Rise L) (h' : Rise L') (hm : ∀ x, x ∈ L ↔ x ∈ L') : L = L' := rise_eq h h' ((List.perm_ext_iff_of_nodup (rise_nd h) (rise_nd h')).2 hm)
theorem Uni.one {M : List (Option Itm)} {L L' : List ByteArray} (h : Uni M L) (h' : Uni M L') : L' = L := rise_mem h'.1 h.1 fun x => (h'.2 x).trans (h.2 x).symm
theorem Itr.one {M : List (Option Itm)} {L L' : List ByteArray} (h : Itr M L) (h' : Itr M L') : L' = L := rise_mem h'.1 h.1 fun x => (h'.2 x).trans (h.2 x).symm
theorem Dif.one {M : List (Option Itm)} {L L' : List ByteArray} (h : Dif M L) (h' : Dif M L') : L' = L := rise_mem h'.1 h.1 fun x => (h'.2 x).trans (h.2 x).symm
/-- all of them stand -/
def Alls (w : World) (M : List (Option Itm)) : Prop := ∀ o ∈ M, ∀ f, o = some f → f.Lies w ∧ f.N ≤ 2000000000000
theorem Alls.below {w w' : World} {M : List (Option Itm)} (h : Alls w M) (hb : Below w.heap.size w w') : Alls w' M := fun o ho f hf => ⟨(h o ho f hf).1.below hb, (h o ho f hf).2⟩
section
variable {w : World} {M : List (Option Itm)}
theorem Alls.mem (h : Alls w M) : ∀ o ∈ M, ∀ x, x ∈ kx o ↔ x ∈ fx o := fun o ho x => by
  cases o with
  | none => exact Iff.rfl
  | some f =>
    obtain ⟨r, b, q, b2, v, KV, hr, hf, ha, _⟩ := (h _ ho f rfl).1.ex
    exact (mem_tab hf x).symm
theorem Alls.rise (h : Alls w M) : ∀ o ∈ M, Rise (fx o) := fun o ho => by
  cases o with
  | none => exact List.Pairwise.nil
  | some f =>
    obtain ⟨r, b, q, b2, v, KV, hr, hf, ha, _⟩ := (h _ ho f rfl).1.ex
    exact hf.2.1
theorem Alls.few (h : Alls w M) : ∀ o ∈ M, (fx o).length ≤ 1048576 ∧ (kx o).length ≤ 1048576 := fun o ho => by
  cases o with
  | none => exact ⟨Nat.zero_le _, Nat.zero_le _⟩
  | some f =>
    obtain ⟨r, b, q, b2, v, KV, hr, hf, ha, _⟩ := (h _ ho f rfl).1.ex
    have h1 := (row_few hr hf).1
    exact ⟨h1, by show (kys f.s).length ≤ _; rw [← (row_perm hr hf).length_eq]; exact h1⟩
theorem sum_few {α : Type} {g : α → Nat} {c : Nat} : ∀ {L : List α}, (∀ a ∈ L, g a ≤ c) → (L.map g).sum ≤ L.length * c
  | [], _ => Nat.zero_le _
  | a :: L, h => by
    have h1 := h a (by simp)
    have h2 := sum_few (L := L) (fun b hb => h b (by simp [hb]))
    rw [List.map_cons, List.sum_cons, List.length_cons, Nat.add_mul]
    omega
theorem Alls.flk (h : Alls w M) : ∀ p ∈ psm M, FlkO w p.1 p.2 := fun p hp => by
  obtain ⟨o, ho, rfl⟩ := List.mem_map.1 hp
  cases o with
  | none => rfl
  | some f =>
    obtain ⟨r, b, q, b2, v, KV, hr, hf, ha, _⟩ := (h _ ho f rfl).1.ex
    exact ⟨_, _, r, b, _, _, hr, by have := (h _ ho f rfl).2; omega, rfl⟩
theorem psm_len : (psm M).length = M.length := by simp [psm]
theorem psm_rows : (psm M).map (·.2) = M.map kx := by simp [psm]
theorem Alls.sum (h : Alls w M) (hM : M.length ≤ 1048577) : ((psm M).map (fun p => p.2.length)).sum ≤ 2600000000000 := by
  have : (psm M).map (fun p => p.2.length) = M.map fun o => (kx o).length := by simp [psm]
  rw [this]
  have := sum_few (L := M) (g := fun o => (kx o).length) fun o ho => (h.few o ho).2
  omega
theorem Alls.cells {B : Nat} {ao : Option Addr} {m cp : Nat} (hv : Po 25 B w (.slice ao m cp) (M.map p5)) : ∀ j p, (psm M)[j]? = some p → ∃ g, ao = some ⟨g, 0, none⟩ ∧ w.cell? ⟨g, 0 + j, none⟩ = some (pv p.1) := fun j p hp => by
  unfold psm at hp
  rw [List.getElem?_map] at hp
  cases e : M[j]? with
  | none => rw [e] at hp; cases hp
  | some o =>
    rw [e] at hp
    cases hp
    obtain ⟨g, h1, h2, _⟩ := po_at hv (j := j) (x := p5 o) (by rw [List.getElem?_map, e]; rfl)
    refine ⟨g, h1, ?_⟩
    rw [Nat.zero_add, h2]
    cases o <;> rfl
theorem Alls.frow {B : Nat} {ao : Option Addr} {m cp : Nat} (h : Alls w M) (hv : Po 28 B w (.slice ao m cp) (M.map p6)) : FRow w (.slice ao m cp) (M.map fx) := by
  obtain ⟨ao', cp', e⟩ := po_form hv
  cases e
  refine ⟨ao, cp, by simp, ?_, fun h0 => ?_, fun g j l e hj => ?_⟩
  · rcases hv.2 with ⟨e, h0⟩ | ⟨g, cap, cur, e, _, _, h1, _⟩
    · rw [List.length_map] at h0 ⊢; omega
    · cases e; simpa using h1
  · rw [List.length_map] at h0
    obtain ⟨o, ho⟩ : ∃ o, M[0]? = some o := ⟨_, List.getElem?_eq_getElem h0⟩
    obtain ⟨g, h1, _⟩ := po_at hv (j := 0) (x := p6 o) (by rw [List.getElem?_map, ho]; rfl)
    exact ⟨g, h1⟩
  · rw [List.getElem?_map] at hj
    cases e' : M[j]? with
    | none => rw [e'] at hj; cases hj
    | some o =>
      rw [e'] at hj
      cases hj
      obtain ⟨g', h1, h2, _⟩ := po_at hv (j := j) (x := p6 o) (by rw [List.getElem?_map, e']; rfl)
      rw [e] at h1
      cases h1
      refine ⟨_, h2, ?_⟩
      cases o with
      | none => exact .inl ⟨rfl, rfl⟩
      | some f =>
        obtain ⟨r, b, q, b2, v, KV, hr, hf, ha, _⟩ := (h _ (List.mem_of_getElem? e') f rfl).1.ex
        exact .inr ⟨_, _, _, q, b2, _, v, _, KV, rfl, hf, by have := (h _ (List.mem_of_getElem? e') f rfl).2; omega⟩
/-- a row is told, in new blocks -/
def Tel (P : List ByteArray → Prop) (w : World) (e : Ending) (w' : World) : Prop := ∃ v L, e = .returned v ∧ P L ∧ Ks w.heap.size w' v L ∧ Below w.heap.size w w'
def Ted (P : List ByteArray → Prop) (w : World) (e : Ending) (w' : World) : Prop := ∃ v L, e = .returned v ∧ P L ∧ Ks 0 w' v L ∧ Below w.heap.size w w'
theorem un_f {B : Nat} {ao : Option Addr} {m cp : Nat} (h : Alls w M) (hv : Po 25 B w (.slice ao m cp) (M.map p5)) (hM : M.length ≤ 1048577) :
    Calls Tryz.prog 14 #[.slice ao m cp] w (Tel (Uni M) w) := by
  obtain ⟨ao', cp', e⟩ := po_form hv
  cases e
  have mU := uniono_any w ao cp (psm M) (fun j p hp => by obtain ⟨g, h1, h2⟩ := Alls.cells hv j p hp; exact ⟨g, 0, h1, h2⟩) h.flk (by rw [psm_len]; omega) (h.sum hM)
  rw [psm_len, psm_rows] at mU
  rw [List.length_map]
  refine mU.mono ?_
  rintro _ w' ⟨v, rfl, L, hL, hk, hb⟩
  refine ⟨v, L, rfl, ⟨hL.2, fun x => ?_⟩, hk, hb⟩
  rw [hL.1.mem_iff, mem_uniq, List.mem_flatten]
  constructor
  · rintro ⟨l, hl, hx⟩
    obtain ⟨o, ho, rfl⟩ := List.mem_map.1 hl
    exact ⟨o, ho, (h.mem o ho x).1 hx⟩
  · rintro ⟨o, ho, hx⟩
    exact ⟨_, List.mem_map.2 ⟨o, ho, rfl⟩, (h.mem o ho x).2 hx⟩
theorem un_m {B : Nat} {ao : Option Addr} {m cp : Nat} (h : Alls w M) (hv : Po 28 B w (.slice ao m cp) (M.map p6)) (hM : M.length ≤ 1048577) :
    Calls Tryz.prog 18 #[.slice ao m cp] w (Ted (Uni M) w) := by
  have ht : total (M.map fx) ≤ 2600000000000 := by
    unfold total
    rw [List.map_map]
    have := sum_few (L := M) (g := List.length ∘ fx) fun o ho => (h.few o ho).1
    omega
  refine (union_any w _ _ (h.frow hv) ht (by rw [List.length_map]; omega)).mono ?_
  rintro _ w' ⟨v, L, rfl, hm, hr, hx⟩
  refine ⟨v, L, rfl, ⟨hr, fun x => (hx x).trans ⟨?_, ?_⟩⟩, hm.1, hm.2.2⟩
  · rintro ⟨l, hl, hx⟩
    obtain ⟨o, ho, rfl⟩ := List.mem_map.1 hl
    exact ⟨o, ho, hx⟩
  · rintro ⟨o, ho, hx⟩
    exact ⟨_, List.mem_map.2 ⟨o, ho, rfl⟩, hx⟩
theorem tal_all (T : List (Option Itm)) (x : ByteArray) : (tal (T.map kx) x == T.length) = true ↔ ∀ o ∈ T, x ∈ kx o := by
  rw [beq_iff_eq]
  unfold tal
  have := List.length_filter_eq_length_iff (p := fun l => inB x l) (l := T.map kx)
  rw [List.length_map] at this
  rw [this]
  constructor
  · intro h o ho
    exact (inB_iff _ _).1 (h _ (List.mem_map.2 ⟨o, ho, rfl⟩))
  · intro h l hl
    obtain ⟨o, ho, rfl⟩ := List.mem_map.1 hl
    exact (inB_iff _ _).2 (h o ho)
theorem tal_not (T : List (Option Itm)) (x : ByteArray) : (tal (T.map kx) x == 0) = true ↔ ∀ o ∈ T, x ∉ kx o := by
  rw [beq_iff_eq]
  unfold tal
  rw [List.length_eq_zero_iff, List.filter_eq_nil_iff]
  constructor
  · intro h o ho hx
    exact h _ (List.mem_map.2 ⟨o, ho, rfl⟩) ((inB_iff _ _).2 hx)
  · intro h l hl hx
    obtain ⟨o, ho, rfl⟩ := List.mem_map.1 hl
    exact h o ho ((inB_iff _ _).1 hx)
theorem cnt_all (T : List (Option Itm)) (x : ByteArray) : cnt x (T.map fx) = (T.map fx).length ↔ ∀ o ∈ T, x ∈ fx o := by
  unfold cnt
  rw [List.countP_eq_length]
  constructor
  · intro h o ho
    exact isin_iff.1 (h _ (List.mem_map.2 ⟨o, ho, rfl⟩))
  · intro h l hl
    obtain ⟨o, ho, rfl⟩ := List.mem_map.1 hl
    exact isin_iff.2 (h o ho)
theorem cnt_not (T : List (Option Itm)) (x : ByteArray) : cnt x (T.map fx) = 0 ↔ ∀ o ∈ T, x ∉ fx o := by
  unfold cnt
  rw [List.countP_eq_zero]
  constructor
  · intro h o ho hx
    exact h _ (List.mem_map.2 ⟨o, ho, rfl⟩) (isin_iff.2 hx)
  · intro h l hl hx
    obtain ⟨o, ho, rfl⟩ := List.mem_map.1 hl
    exact h o ho (isin_iff.1 hx)
theorem head_ex {P : Option Itm → List (Option Itm) → Prop} {o0 : Option Itm} {T : List (Option Itm)} : (∃ o T', o0 :: T = o :: T' ∧ P o T') ↔ P o0 T :=
  ⟨by rintro ⟨o, T', e, h⟩; cases e; exact h, fun h => ⟨_, _, rfl, h⟩⟩
theorem in_f [Inhabited Txt] {B : Nat} {ao : Option Addr} {m cp : Nat} (h : Alls w M) (hv : Po 25 B w (.slice ao m cp) (M.map p5)) (hM : M.length ≤ 1048577) :
    Calls Tryz.prog 15 #[.slice ao m cp] w (Tel (Itr M) w) := by
  obtain ⟨ao', cp', e⟩ := po_form hv
  cases e
  cases M with
  | nil =>
    refine (inter_none w ao cp).mono ?_
    rintro _ w' ⟨rfl, hb⟩
    exact ⟨_, [], rfl, ⟨List.Pairwise.nil, fun x => by simp⟩, ks_nil _ _, hb⟩
  | cons o0 T =>
    obtain ⟨g, rfl, _⟩ := Alls.cells hv 0 _ rfl
    have mI := intero_any w g 0 cp (o0.map (fun f : Itm => f.R), kx o0) (psm T) (fun j p hp => by
      obtain ⟨g', h1, h2⟩ := Alls.cells hv j p hp
      cases h1
      exact h2) h.flk (by have := po_cap hv; rw [psm_len]; simpa using this) (by rw [psm_len]; simp at hM; omega) (Alls.sum (fun o ho => h o (by simp [ho])) (by simp at hM; omega))
    rw [psm_len, psm_rows] at mI
    rw [List.length_map, List.length_cons]
    refine mI.mono ?_
    rintro _ w' ⟨v, rfl, L, hL, hk, hb⟩
    refine ⟨v, L, rfl, ⟨hL.2, fun x => ?_⟩, hk, hb⟩
    rw [hL.1.mem_iff, List.mem_filter, tal_all, head_ex (P := fun o T' => x ∈ fx o ∧ ∀ o' ∈ T', x ∈ fx o')]
    exact and_congr (h.mem o0 (by simp) x) ⟨fun g o ho => (h.mem o (by simp [ho]) x).1 (g o ho), fun g o ho => (h.mem o (by simp [ho]) x).2 (g o ho)⟩
theorem di_f [Inhabited Txt] {B : Nat} {ao : Option Addr} {m cp : Nat} (h : Alls w M) (hv : Po 25 B w (.slice ao m cp) (M.map p5)) (hM : M.length ≤ 1048577) :
    Calls Tryz.prog 16 #[.slice ao m cp] w (Tel (Dif M) w) := by
  obtain ⟨ao', cp', e⟩ := po_form hv
  cases e
  cases M with
  | nil =>
    refine (diff_none w ao cp).mono ?_
    rintro _ w' ⟨rfl, hb⟩
    exact ⟨_, [], rfl, ⟨List.Pairwise.nil, fun x => by simp⟩, ks_nil _ _, hb⟩
  | cons o0 T =>
    obtain ⟨g, rfl, _⟩ := Alls.cells hv 0 _ rfl
    have mI := diffo_any w g 0 cp (o0.map (fun f : Itm => f.R), kx o0) (psm T) (fun j p hp => by
      obtain ⟨g', h1, h2⟩ := Alls.cells hv j p hp
      cases h1
      exact h2) h.flk (by have := po_cap hv; rw [psm_len]; simpa using this) (by rw [psm_len]; simp at hM; omega) (Alls.sum (fun o ho => h o (by simp [ho])) (by simp at hM; omega))
    rw [psm_len, psm_rows] at mI
    rw [List.length_map, List.length_cons]
    refine mI.mono ?_
    rintro _ w' ⟨v, rfl, L, hL, hk, hb⟩
    refine ⟨v, L, rfl, ⟨hL.2, fun x => ?_⟩, hk, hb⟩
    rw [hL.1.mem_iff, List.mem_filter, tal_not, head_ex (P := fun o T' => x ∈ fx o ∧ ∀ o' ∈ T', x ∉ fx o')]
    exact and_congr (h.mem o0 (by simp) x) ⟨fun g o ho e => g o ho ((h.mem o (by simp [ho]) x).2 e), fun g o ho e => g o ho ((h.mem o (by simp [ho]) x).1 e)⟩
theorem in_m {B : Nat} {ao : Option Addr} {m cp : Nat} (h : Alls w M) (hv : Po 28 B w (.slice ao m cp) (M.map p6)) (hM : M.length ≤ 1048577) :
    Calls Tryz.prog 19 #[.slice ao m cp] w (Ted (Itr M) w) := by
  refine (inter_any w _ _ (h.frow hv) (by rw [List.length_map]; omega) (fun l hl => by obtain ⟨o, ho, rfl⟩ := List.mem_map.1 hl; have := (h.few o ho).1; omega)).mono ?_
  rintro _ w' ⟨v, rfl, hm⟩
  refine ⟨v, _, rfl, ⟨?_, fun x => ?_⟩, hm.1, hm.2.2⟩
  · cases M with
    | nil => exact List.Pairwise.nil
    | cons o0 T => exact List.Pairwise.filter _ (h.rise o0 (by simp))
  · cases M with
    | nil => simp
    | cons o0 T =>
      rw [head_ex (P := fun o T' => x ∈ fx o ∧ ∀ o' ∈ T', x ∈ fx o'), List.mem_filter]
      refine and_congr Iff.rfl ?_
      have := cnt_all T x
      simp only [chs, List.map_cons, List.tail_cons, Bool.true_and, Bool.not_true, Bool.false_and, Bool.or_false, decide_eq_true_iff]
      exact this
theorem di_m {B : Nat} {ao : Option Addr} {m cp : Nat} (h : Alls w M) (hv : Po 28 B w (.slice ao m cp) (M.map p6)) (hM : M.length ≤ 1048577) :
    Calls Tryz.prog 20 #[.slice ao m cp] w (Ted (Dif M) w) := by
  refine (diff_any w _ _ (h.frow hv) (by rw [List.length_map]; omega) (fun l hl => by obtain ⟨o, ho, rfl⟩ := List.mem_map.1 hl; have := (h.few o ho).1; omega)).mono ?_
  rintro _ w' ⟨v, rfl, hm⟩
  refine ⟨v, _, rfl, ⟨?_, fun x => ?_⟩, hm.1, hm.2.2⟩
  · cases M with
    | nil => exact List.Pairwise.nil
    | cons o0 T => exact List.Pairwise.filter _ (h.rise o0 (by simp))
  · cases M with
    | nil => simp
    | cons o0 T =>
      rw [head_ex (P := fun o T' => x ∈ fx o ∧ ∀ o' ∈ T', x ∉ fx o'), List.mem_filter]
      refine and_congr Iff.rfl ?_
      have := cnt_not T x
      simp only [chs, List.map_cons, List.tail_cons, Bool.false_and, Bool.not_false, Bool.true_and, Bool.false_or, decide_eq_true_iff]
      exact this
end
end Rd
end Go.Proofs.YtlfpkbjiofelkaaGreat
