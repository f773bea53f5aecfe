/-
  A flock beside the document's own: a call of the document's, and the same call of the program's a while later, answer alike and leave them alike.
-/
import Derived.Test.YtlfpkbjiofelkaaGreatRdQ1
import Derived.Test.YtlfpkbjiofelkaaGreatFlInter2
import Derived.Maps.AppendAt
import Derived.Deep.AppendLies
/-
  Flocks beside the document's own ones, and the rows of pointers to them, in one memory.
-/
namespace Go.Proofs.YtlfpkbjiofelkaaGreat
open Go.RowKit Go.Shelf
set_option linter.unusedVariables false
set_option linter.unusedSimpArgs false
set_option maxRecDepth 100000
namespace Rd
/-- a row of pointers -/
def Po (t : TypeId) (B : Nat) (w : World) (v : Value) (P : List (Option Addr)) : Prop := w.ownsRow B t 1 v P.length (P.map Value.pointer)
theorem po_form {t : TypeId} {B : Nat} {w : World} {v : Value} {P : List (Option Addr)} (h : Po t B w v P) : ∃ ao cap, v = .slice ao P.length cap := by
  unfold Po at h
  rcases h.2 with ⟨rfl, h0⟩ | ⟨g, cap, cur, rfl, _⟩
  · exact ⟨none, 0, by rw [h0]⟩
  · exact ⟨_, _, rfl⟩
theorem po_kept {t : TypeId} {B : Nat} {w w' : World} {v : Value} {P : List (Option Addr)} (h : Po t B w v P) (hk : ∀ k, v.ownBlock = some k → w'.heap[k]? = w.heap[k]?) : Po t B w' v P := own_kept h hk
theorem po_lt {t : TypeId} {B : Nat} {w : World} {v : Value} {P : List (Option Addr)} (h : Po t B w v P) {k : Nat} (hk : v.ownBlock = some k) : B ≤ k ∧ k < w.heap.size := ⟨(World.ownsRow.lt h k hk).1, own_lt h hk⟩
theorem po_at {t : TypeId} {B : Nat} {w : World} {ao : Option Addr} {m cp : Nat} {P : List (Option Addr)} (h : Po t B w (.slice ao m cp) P) {j : Nat} {x : Option Addr} (hj : P[j]? = some x) :
    ∃ g, ao = some ⟨g, 0, none⟩ ∧ w.cell? ⟨g, j, none⟩ = some (.pointer x) ∧ g < w.heap.size := by
  unfold Po at h
  have hj' := (List.getElem?_eq_some_iff.1 hj).1
  rcases h.2 with ⟨e, h0⟩ | ⟨g, cap, cur, e, _, hg, _⟩
  · omega
  · cases e
    have h2 := h.cells (g := g) rfl j (.pointer x) (by rw [List.getElem?_map, hj]; rfl)
    rw [show (⟨g, 0, none⟩ : Addr).add j = ⟨g, j, none⟩ by unfold Addr.add; split <;> simp_all] at h2
    exact ⟨g, rfl, h2, (Array.getElem?_eq_some_iff.1 hg).1⟩
theorem po_cap {t : TypeId} {B : Nat} {w : World} {g m cp : Nat} {P : List (Option Addr)} (h : Po t B w (.slice (some ⟨g, 0, none⟩) m cp) P) : P.length ≤ cp := by
  unfold Po at h
  rcases h.2 with ⟨e, _⟩ | ⟨g', cap, cur, e, _, _, h1, _⟩
  · cases e
  · cases e; exact h1
/-- nothing has turned but the block of one row, and new ones -/
def Grw (v : Value) (w w' : World) : Prop := (w'.os = w.os ∧ w'.tape = w.tape ∧ w'.output = w.output) ∧ w.heap.size ≤ w'.heap.size ∧ ∀ k, k < w.heap.size → v.ownBlock ≠ some k → w'.heap[k]? = w.heap[k]?

/-- a row of pointers grows by one -/
theorem pushF {B : Nat} {w : World} {v : Value} {P : List (Option Addr)} (h : Po 25 B w v P) (hB : B ≤ w.heap.size) (x : Option Addr) (hl : P.length ≤ 7000000000000) :
    ∃ g cap w', (Builtin.append_ #[41, 41] 41 #[v, .slice (some ⟨w.heap.size, 0, none⟩) 1 1]).run Tryz.prog (w.alloc (.cells #[.pointer x] 25)) = .ok (.slice (some ⟨g, 0, none⟩) (P.length + 1) cap) w' ∧
      Po 25 B w' (.slice (some ⟨g, 0, none⟩) (P.length + 1) cap) (P ++ [x]) ∧ Grw v w w' ∧ (v.ownBlock = some g ∨ w.heap.size ≤ g) := by
  obtain ⟨i0, hi0, hz0, hz1, hzb⟩ := info_parts info_ptr
  obtain ⟨ao, cap0, rfl⟩ := po_form h
  have h5 := h
  unfold Po at h5
  obtain ⟨g, cap, W3, hrun, hown, hgr, hat, hg3⟩ := run_append_lies (P := Tryz.prog) (w := w.alloc (.cells #[.pointer x] 25)) 41 41 B 25 i0 _ 1 8 Tryz.underlying41 hi0 hz0 hz1 hzb rfl (by omega) (.slice ao P.length cap0) P.length _ (h5.alloc _) ⟨w.heap.size, 0, none⟩ 1 1 [.pointer x] rfl (World.news_of_block (cs := #[.pointer x]) (t := 25) (fr := (0, 0)) (heap_alloc_new w _)) (by simp [Value.oneCell']) (by omega) (by unfold maxLen; omega) (by omega) (by simp; omega) (w.heap.size + 1) (by simp)
  have hs3 : w.heap.size + 1 ≤ W3.heap.size := by have := hgr.size; simpa using this
  refine ⟨g, cap, W3, hrun, ?_, ⟨⟨hgr.os, hgr.tape, hgr.output⟩, by omega, fun k hk hn => ?_⟩, hat.imp id (fun e => by omega)⟩
  · unfold Po
    rw [List.map_append, List.length_append]
    exact hown
  · rw [hgr.block k (by simp; omega) (fun e => hn e.symm), Below.heap_alloc _ _ _ hk]
/-- a row of pointers, copied into a new one -/
theorem copyF {B : Nat} {w : World} {v : Value} {P : List (Option Addr)} (h : Po 25 B w v P) (hl : P.length ≤ 7000000000000) :
    ∃ ao cap w', (Builtin.append_ #[41, 41] 41 #[.slice (some ⟨w.heap.size, 0, none⟩) 0 0, v]).run Tryz.prog (w.alloc (.cells #[] 25)) = .ok (.slice ao P.length cap) w' ∧
      Po 25 w.heap.size w' (.slice ao P.length cap) P ∧ Below w.heap.size w w' := by
  obtain ⟨i0, hi0, hz0, hz1, hzb⟩ := info_parts info_ptr
  have h0 : (w.alloc (.cells #[] 25)).ownsRow w.heap.size 25 1 (.slice (some ⟨w.heap.size, 0, none⟩) 0 0) 0 [] := ⟨rfl, .inr ⟨w.heap.size, 0, _, rfl, Nat.le_refl _, heap_alloc_new _ _, Nat.le_refl _, by unfold maxLen; omega, rfl, rfl⟩⟩
  have hb0 : Below w.heap.size w (w.alloc (.cells #[] 25)) := (Below.refl _ w).alloc (Nat.le_refl _) _
  have h5 := h
  unfold Po at h5
  rcases h5.2 with ⟨rfl, e0⟩ | ⟨g, cap, cur, rfl, _⟩
  · have e : P = [] := List.length_eq_zero_iff.1 e0
    subst e
    exact ⟨_, _, _, run_append_owned_none (P := Tryz.prog) (w := w.alloc (.cells #[] 25)) w.heap.size 41 41 25 i0 1 Tryz.underlying41 hi0 _ 0 _ h0, h0, hb0⟩
  · obtain ⟨v', W3, hrun, hown, hgr, _, hat⟩ := run_append_own_at (P := Tryz.prog) (w.alloc (.cells #[] 25)) w.heap.size 41 41 25 i0 _ 1 8 Tryz.underlying41 hi0 hz0 hz1 hzb rfl (by omega) (.slice (some ⟨w.heap.size, 0, none⟩) 0 0) 0 _ h0 ⟨g, 0, none⟩ P.length cap (P.map Value.pointer) (by simp) (fun j u hu => by
      have hc := h5.cells (g := g) rfl j u hu
      exact (hb0.cell (World.block_lt_of_cell? _ _ hc)).trans hc) (fun u hu => by
        obtain ⟨y, _, rfl⟩ := List.mem_map.1 hu
        rfl) (by unfold maxLen; omega) (by omega) (by simp)
    rw [Nat.zero_add, List.nil_append] at hown
    have hp : Po 25 w.heap.size W3 v' P := hown
    obtain ⟨ao, cp, rfl⟩ := po_form hp
    refine ⟨ao, cp, W3, hrun, hp, hb0.grown hgr (by simp) (fun k hk => by cases hk; exact Nat.le_refl _)⟩

/-- a row of pointers grows by one -/
theorem pushR {B : Nat} {w : World} {v : Value} {P : List (Option Addr)} (h : Po 28 B w v P) (hB : B ≤ w.heap.size) (x : Option Addr) (hl : P.length ≤ 7000000000000) :
    ∃ g cap w', (Builtin.append_ #[42, 42] 42 #[v, .slice (some ⟨w.heap.size, 0, none⟩) 1 1]).run Tryz.prog (w.alloc (.cells #[.pointer x] 28)) = .ok (.slice (some ⟨g, 0, none⟩) (P.length + 1) cap) w' ∧
      Po 28 B w' (.slice (some ⟨g, 0, none⟩) (P.length + 1) cap) (P ++ [x]) ∧ Grw v w w' ∧ (v.ownBlock = some g ∨ w.heap.size ≤ g) := by
  obtain ⟨i0, hi0, hz0, hz1, hzb⟩ := info_parts info_fp
  obtain ⟨ao, cap0, rfl⟩ := po_form h
  have h5 := h
  unfold Po at h5
  obtain ⟨g, cap, W3, hrun, hown, hgr, hat, hg3⟩ := run_append_lies (P := Tryz.prog) (w := w.alloc (.cells #[.pointer x] 28)) 42 42 B 28 i0 _ 1 8 Tryz.underlying42 hi0 hz0 hz1 hzb rfl (by omega) (.slice ao P.length cap0) P.length _ (h5.alloc _) ⟨w.heap.size, 0, none⟩ 1 1 [.pointer x] rfl (World.news_of_block (cs := #[.pointer x]) (t := 28) (fr := (0, 0)) (heap_alloc_new w _)) (by simp [Value.oneCell']) (by omega) (by unfold maxLen; omega) (by omega) (by simp; omega) (w.heap.size + 1) (by simp)
  have hs3 : w.heap.size + 1 ≤ W3.heap.size := by have := hgr.size; simpa using this
  refine ⟨g, cap, W3, hrun, ?_, ⟨⟨hgr.os, hgr.tape, hgr.output⟩, by omega, fun k hk hn => ?_⟩, hat.imp id (fun e => by omega)⟩
  · unfold Po
    rw [List.map_append, List.length_append]
    exact hown
  · rw [hgr.block k (by simp; omega) (fun e => hn e.symm), Below.heap_alloc _ _ _ hk]
/-- a row of pointers, copied into a new one -/
theorem copyR {B : Nat} {w : World} {v : Value} {P : List (Option Addr)} (h : Po 28 B w v P) (hl : P.length ≤ 7000000000000) :
    ∃ ao cap w', (Builtin.append_ #[42, 42] 42 #[.slice (some ⟨w.heap.size, 0, none⟩) 0 0, v]).run Tryz.prog (w.alloc (.cells #[] 28)) = .ok (.slice ao P.length cap) w' ∧
      Po 28 w.heap.size w' (.slice ao P.length cap) P ∧ Below w.heap.size w w' := by
  obtain ⟨i0, hi0, hz0, hz1, hzb⟩ := info_parts info_fp
  have h0 : (w.alloc (.cells #[] 28)).ownsRow w.heap.size 28 1 (.slice (some ⟨w.heap.size, 0, none⟩) 0 0) 0 [] := ⟨rfl, .inr ⟨w.heap.size, 0, _, rfl, Nat.le_refl _, heap_alloc_new _ _, Nat.le_refl _, by unfold maxLen; omega, rfl, rfl⟩⟩
  have hb0 : Below w.heap.size w (w.alloc (.cells #[] 28)) := (Below.refl _ w).alloc (Nat.le_refl _) _
  have h5 := h
  unfold Po at h5
  rcases h5.2 with ⟨rfl, e0⟩ | ⟨g, cap, cur, rfl, _⟩
  · have e : P = [] := List.length_eq_zero_iff.1 e0
    subst e
    exact ⟨_, _, _, run_append_owned_none (P := Tryz.prog) (w := w.alloc (.cells #[] 28)) w.heap.size 42 42 28 i0 1 Tryz.underlying42 hi0 _ 0 _ h0, h0, hb0⟩
  · obtain ⟨v', W3, hrun, hown, hgr, _, hat⟩ := run_append_own_at (P := Tryz.prog) (w.alloc (.cells #[] 28)) w.heap.size 42 42 28 i0 _ 1 8 Tryz.underlying42 hi0 hz0 hz1 hzb rfl (by omega) (.slice (some ⟨w.heap.size, 0, none⟩) 0 0) 0 _ h0 ⟨g, 0, none⟩ P.length cap (P.map Value.pointer) (by simp) (fun j u hu => by
      have hc := h5.cells (g := g) rfl j u hu
      exact (hb0.cell (World.block_lt_of_cell? _ _ hc)).trans hc) (fun u hu => by
        obtain ⟨y, _, rfl⟩ := List.mem_map.1 hu
        rfl) (by unfold maxLen; omega) (by omega) (by simp)
    rw [Nat.zero_add, List.nil_append] at hown
    have hp : Po 28 w.heap.size W3 v' P := hown
    obtain ⟨ao, cp, rfl⟩ := po_form hp
    refine ⟨ao, cp, W3, hrun, hp, hb0.grown hgr (by simp) (fun k hk => by cases hk; exact Nat.le_refl _)⟩

/-- a flock and the document's own one -/
structure Itm where
  R : Nat
  R2 : Nat
  seed : Nat
  N : Nat
  O : Nat → Prop
  l : List ByteArray
  s : Sf
def Itm.Lies (f : Itm) (w : World) : Prop := Pf (hs f.seed) f.N w f.O f.R f.R2 f.seed f.l f.s
theorem Pf.kept {h : ByteArray → Nat} {N : Nat} {w w' : World} {O : Nat → Prop} {R R2 seed : Nat} {l : List ByteArray} {s : Sf} (hp : Pf h N w O R R2 seed l s) (hs : w.heap.size ≤ w'.heap.size) (hk : ∀ k, k < w.heap.size → O k → w'.heap[k]? = w.heap[k]?) : Pf h N w' O R R2 seed l s := by
  obtain ⟨r, b, q, b2, v, KV, hr, hf, ha, rfl⟩ := hp.ex
  exact ⟨r, b, q, b2, v, KV, hr.kept hs (fun k h1 h2 => hk k h1 (.inl h2)), hf.kept hs (fun k h1 h2 => hk k h1 (.inr h2)), ha, rfl⟩
theorem Pf.lt {h : ByteArray → Nat} {N : Nat} {w : World} {O : Nat → Prop} {R R2 seed : Nat} {l : List ByteArray} {s : Sf} (hp : Pf h N w O R R2 seed l s) {k : Nat} (hk : O k) : k < w.heap.size := by
  obtain ⟨r, b, q, b2, v, KV, hr, hf, ha, rfl⟩ := hp.ex
  exact hk.elim (fun e => hr.role_lt e) (fun e => hf.role_lt e)
theorem Pf.below {h : ByteArray → Nat} {N : Nat} {w w' : World} {O : Nat → Prop} {R R2 seed : Nat} {l : List ByteArray} {s : Sf} (hp : Pf h N w O R R2 seed l s) (hb : Below w.heap.size w w') : Pf h N w' O R R2 seed l s := hp.kept hb.size (fun k hk _ => hb.block k hk)
/-- such pairs, no two of them in one block -/
def Fms (W w : World) (v5 v6 : Value) (L : List Itm) : Prop :=
  (∀ f ∈ L, f.Lies w ∧ ∀ k, f.O k → W.heap.size ≤ k ∧ v5.ownBlock ≠ some k ∧ v6.ownBlock ≠ some k) ∧ L.Pairwise (fun f g => ∀ k, f.O k → ¬ g.O k)
/-- pairs, and two rows of pointers, all in blocks that W does not have -/
def Sts (W w : World) (v5 v6 : Value) (P5 P6 : List (Option Addr)) (L : List Itm) : Prop :=
  Below W.heap.size W w ∧ Po 25 W.heap.size w v5 P5 ∧ Po 28 W.heap.size w v6 P6 ∧ (∀ g, v5.ownBlock = some g → v6.ownBlock ≠ some g) ∧ Fms W w v5 v6 L
theorem Sts.below {W w w' : World} {v5 v6 : Value} {P5 P6 : List (Option Addr)} {L : List Itm} (h : Sts W w v5 v6 P5 P6 L) (hb : Below w.heap.size w w') : Sts W w' v5 v6 P5 P6 L :=
  ⟨h.1.trans (hb.mono h.1.size), po_kept h.2.1 (fun k hk => hb.block k (po_lt h.2.1 hk).2), po_kept h.2.2.1 (fun k hk => hb.block k (po_lt h.2.2.1 hk).2), h.2.2.2.1, fun f hf => ⟨(h.2.2.2.2.1 f hf).1.below hb, (h.2.2.2.2.1 f hf).2⟩, h.2.2.2.2.2⟩
theorem Sts.start {W w : World} (h : Below W.heap.size W w) : Sts W w (.slice none 0 0) (.slice none 0 0) [] [] [] :=
  ⟨h, ⟨rfl, .inl ⟨rfl, rfl⟩⟩, ⟨rfl, .inl ⟨rfl, rfl⟩⟩, (fun g hg => by cases hg), (fun f hf => by cases hf), List.Pairwise.nil⟩
/-- a pair more, all its blocks being new -/
theorem Sts.new {W w w' : World} {v5 v6 : Value} {P5 P6 : List (Option Addr)} {L : List Itm} (h : Sts W w v5 v6 P5 P6 L) (hb : Below w.heap.size w w') {f : Itm} (hf : f.Lies w') (hn : ∀ k, f.O k → w.heap.size ≤ k) : Sts W w' v5 v6 P5 P6 (L ++ [f]) := by
  obtain ⟨p1, p2, p3, p4, p5, p6⟩ := h.below hb
  refine ⟨p1, p2, p3, p4, fun g hg => ?_, ?_⟩
  · rcases List.mem_append.1 hg with e | e
    · exact p5 g e
    · rw [List.mem_singleton.1 e]
      refine ⟨hf, fun k hk => ⟨Nat.le_trans h.1.size (hn k hk), fun e => ?_, fun e => ?_⟩⟩
      · have := (po_lt h.2.1 e).2; have := hn k hk; omega
      · have := (po_lt h.2.2.1 e).2; have := hn k hk; omega
  · rw [List.pairwise_append]
    refine ⟨p6, List.pairwise_singleton _ _, fun g hg g' hg' k h1 h2 => ?_⟩
    rw [List.mem_singleton.1 hg'] at h2
    have := hn k h2
    have := ((h.2.2.2.2.1 g hg).1).lt h1
    omega
/-- the last pair does something -/
theorem Sts.step {W w w' : World} {v5 v6 : Value} {P5 P6 : List (Option Addr)} {L : List Itm} {f f' : Itm} (h : Sts W w v5 v6 P5 P6 (L ++ [f])) (hf : f'.Lies w') (hF : Fp w f.O w' f'.O) : Sts W w' v5 v6 P5 P6 (L ++ [f']) := by
  obtain ⟨p1, p2, p3, p4, p5, p6⟩ := h
  have hin : f ∈ L ++ [f] := by simp
  obtain ⟨q1, q2⟩ := p5 f hin
  rw [List.pairwise_append] at p6
  obtain ⟨r1, _, r3⟩ := p6
  have oth : ∀ g ∈ L, ∀ k, g.O k → ¬ f.O k := fun g hg k hk => r3 g hg f (by simp) k hk
  refine ⟨p1.trans ⟨hF.1.1, hF.1.2.1, hF.1.2.2, Nat.le_trans p1.size hF.2.1 |> fun _ => by have := p1.size; have := hF.2.1; omega, fun k hk => (hF.2.2 k (Nat.lt_of_lt_of_le hk p1.size) (fun e => by have := (q2 k e).1; omega)).1⟩, po_kept p2 (fun k hk => (hF.2.2 k (po_lt p2 hk).2 (fun e => (q2 k e).2.1 hk)).1), po_kept p3 (fun k hk => (hF.2.2 k (po_lt p3 hk).2 (fun e => (q2 k e).2.2 hk)).1), p4, fun g hg => ?_, ?_⟩
  · rcases List.mem_append.1 hg with e | e
    · obtain ⟨s1, s2⟩ := p5 g (by simp [e])
      exact ⟨s1.kept hF.2.1 (fun k hk ho => (hF.2.2 k hk (oth g e k ho)).1), s2⟩
    · rw [List.mem_singleton.1 e]
      refine ⟨hf, fun k hk => ?_⟩
      by_cases hlt : k < w.heap.size
      · by_cases ho : f.O k
        · exact q2 k ho
        · exact absurd hk (hF.2.2 k hlt ho).2
      · exact ⟨by have := p1.size; omega, fun e => by have := (po_lt p2 e).2; omega, fun e => by have := (po_lt p3 e).2; omega⟩
  · rw [List.pairwise_append]
    refine ⟨r1, List.pairwise_singleton _ _, fun g hg g' hg' k h1 h2 => ?_⟩
    rw [List.mem_singleton.1 hg'] at h2
    have hlt := ((p5 g (by simp [hg])).1).lt h1
    exact (hF.2.2 k hlt (oth g hg k h1)).2 h2
/-- the first row has grown -/
theorem Sts.row5 {W w w' : World} {v5 v5' v6 : Value} {P5 P5' P6 : List (Option Addr)} {L : List Itm} (h : Sts W w v5 v6 P5 P6 L) (hk : Po 25 W.heap.size w' v5' P5') (hG : Grw v5 w w') (hat : ∀ g, v5'.ownBlock = some g → v5.ownBlock = some g ∨ w.heap.size ≤ g) : Sts W w' v5' v6 P5' P6 L := by
  obtain ⟨p1, p2, p3, p4, p5, p6⟩ := h
  refine ⟨p1.trans ⟨hG.1.1, hG.1.2.1, hG.1.2.2, by have := p1.size; have := hG.2.1; omega, fun k hk => hG.2.2 k (Nat.lt_of_lt_of_le hk p1.size) (fun e => by have := (po_lt p2 e).1; omega)⟩, hk, po_kept p3 (fun k hk => hG.2.2 k (po_lt p3 hk).2 (fun e => p4 k e hk)), fun g hg hg' => ?_, fun f hf => ?_, p6⟩
  · rcases hat g hg with e | e
    · exact p4 g e hg'
    · have := (po_lt p3 hg').2; omega
  · obtain ⟨s1, s2⟩ := p5 f hf
    refine ⟨s1.kept hG.2.1 (fun k hk ho => hG.2.2 k hk (s2 k ho).2.1), fun k ho => ⟨(s2 k ho).1, fun e => ?_, (s2 k ho).2.2⟩⟩
    rcases hat k e with e | e
    · exact (s2 k ho).2.1 e
    · have := s1.lt ho; omega
theorem Sts.row6 {W w w' : World} {v5 v6 v6' : Value} {P5 P6 P6' : List (Option Addr)} {L : List Itm} (h : Sts W w v5 v6 P5 P6 L) (hk : Po 28 W.heap.size w' v6' P6') (hG : Grw v6 w w') (hat : ∀ g, v6'.ownBlock = some g → v6.ownBlock = some g ∨ w.heap.size ≤ g) : Sts W w' v5 v6' P5 P6' L := by
  obtain ⟨p1, p2, p3, p4, p5, p6⟩ := h
  refine ⟨p1.trans ⟨hG.1.1, hG.1.2.1, hG.1.2.2, by have := p1.size; have := hG.2.1; omega, fun k hk => hG.2.2 k (Nat.lt_of_lt_of_le hk p1.size) (fun e => by have := (po_lt p3 e).1; omega)⟩, po_kept p2 (fun k hk => hG.2.2 k (po_lt p2 hk).2 (fun e => p4 k hk e)), hk, fun g hg hg' => ?_, fun f hf => ?_, p6⟩
  · rcases hat g hg' with e | e
    · exact p4 g hg e
    · have := (po_lt p2 hg).2; omega
  · obtain ⟨s1, s2⟩ := p5 f hf
    refine ⟨s1.kept hG.2.1 (fun k hk ho => hG.2.2 k hk (s2 k ho).2.2), fun k ho => ⟨(s2 k ho).1, (s2 k ho).2.1, fun e => ?_⟩⟩
    rcases hat k e with e | e
    · exact (s2 k ho).2.2 e
    · have := s1.lt ho; omega
end Rd
end Go.Proofs.YtlfpkbjiofelkaaGreat

/-
  Flocks beside the document's own ones: both are made, and a text is added to both.
-/
namespace Go.Proofs.YtlfpkbjiofelkaaGreat
open Go.RowKit Go.Shelf
set_option linter.unusedVariables false
set_option linter.unusedSimpArgs false
set_option maxRecDepth 100000
namespace Rd
/-- what an added text makes of a table, a long one nothing -/
def addT (h : ByteArray → Nat) (s : Sf) (x : ByteArray) : Sf := if x.size ≤ 1048576 then addS h s x else s
/-- the program's flock has done something, the document's not yet -/
structure Mid (h : ByteArray → Nat) (N : Nat) (w : World) (O : Nat → Prop) (R R2 seed : Nat) (l : List ByteArray) (s1 s : Sf) : Prop where
  ex : ∃ r b q b2 v KV, Rec h (N + 1) w r R b seed s1 ∧ RF h N w q R2 b2 seed v l s KV ∧ (∀ k, rr r R k = (0, 0) ∨ rf q R2 v k = (0, 0)) ∧ O = Own r R q R2 v
section
variable {N : Nat} {w : World} {O : Nat → Prop} {R R2 seed : Nat} {l : List ByteArray} {s s1 : Sf}
theorem add_f (hp : Pf (hs seed) N w O R R2 seed l s) (hsd : seed < Dw.M) (hN : N + 1 ≤ 2600000000000) (x : ByteArray) :
    Calls Tryz.prog 12 #[.pointer (some ⟨R, 0, none⟩), .string x] w fun e w' => ∃ v O', e = .returned v ∧ Mid (hs seed) N w' O' R R2 seed l (addT (hs seed) s x) s ∧ Fp w O w' O' := by
  obtain ⟨r, b, q, b2, v, KV, hr, hf, ha, rfl⟩ := hp.ex
  unfold addT
  by_cases hx : x.size ≤ 1048576
  · rw [if_pos hx]
    refine (fadd_all (hs_is seed hsd) hr hN x hx).mono ?_
    rintro _ w' ⟨rfl, r', h1, h2⟩
    obtain ⟨f1, f2⟩ := hf.aside h2 ha
    exact ⟨_, _, rfl, ⟨r', b, q, b2, v, KV, h1, f1, f2, rfl⟩, Fp.left h2⟩
  · rw [if_neg hx]
    refine (fadd_long x (decide_eq_true (by omega))).mono ?_
    rintro _ w' ⟨rfl, rfl⟩
    exact ⟨_, _, rfl, ⟨r, b, q, b2, v, KV, hr.more (by omega), hf, ha, rfl⟩, ⟨⟨rfl, rfl, rfl⟩, Nat.le_refl _, fun k _ hn => ⟨rfl, hn⟩⟩⟩
theorem add_m {x : ByteArray} (hp : Mid (hs seed) N w O R R2 seed l (addT (hs seed) s x) s) (hsd : seed < Dw.M) (hN : N + 1 ≤ 2600000000000) :
    Calls Tryz.prog 13 #[.pointer (some ⟨R2, 0, none⟩), .string x] w fun e w' => ∃ v O' l', e = .returned v ∧ Pf (hs seed) (N + 1) w' O' R R2 seed l' (addT (hs seed) s x) ∧ Fp w O w' O' := by
  obtain ⟨r, b, q, b2, v, KV, hr, hf, ha, rfl⟩ := hp.ex
  unfold addT at hr ⊢
  by_cases hx : x.size ≤ 1048576
  · rw [if_pos hx] at hr ⊢
    refine (rfadd_all (rhs_is seed hsd) hf hN x hx).mono ?_
    rintro _ w' ⟨rfl, q', v', l', KV', h1, h2⟩
    obtain ⟨f1, f2⟩ := hr.aside h2 ha
    exact ⟨_, _, l', rfl, ⟨r, b, q', b2, v', KV', f1, h1, f2, rfl⟩, Fp.right h2⟩
  · rw [if_neg hx] at hr ⊢
    refine (rfadd_long w R2 x (by omega)).mono ?_
    rintro _ w' ⟨rfl, rfl⟩
    exact ⟨_, _, l, rfl, ⟨r, b, q, b2, v, KV, hr, hf.more (by omega), ha, rfl⟩, ⟨⟨rfl, rfl, rfl⟩, Nat.le_refl _, fun k _ hn => ⟨rfl, hn⟩⟩⟩
end
/-- both are new -/
theorem new_pair {h : ByteArray → Nat} {w w1 w2 : World} {r q : Roles} {R R2 b b2 seed : Nat} (b1 : Below w.heap.size w w1) (hr : Rec h 0 w1 r R b seed Dc.none0) (hn : ∀ k, rr r R k ≠ (0, 0) → w.heap.size ≤ k) (b2' : Below w1.heap.size w1 w2) (hf : RF h 0 w2 q R2 b2 seed (.slice none 0 0) [] Dc.none0 []) (hm : ∀ k, rf q R2 (.slice none 0 0) k ≠ (0, 0) → w1.heap.size ≤ k) :
    ∃ O, Pf h 0 w2 O R R2 seed [] Dc.none0 ∧ ∀ k, O k → w.heap.size ≤ k := by
  refine ⟨_, ⟨r, b, q, b2, _, [], hr.below b2', hf, fun k => ?_, rfl⟩, fun k hk => hk.elim (fun e => hn k e) (fun e => Nat.le_trans b1.size (hm k e))⟩
  by_cases e : rr r R k = (0, 0)
  · exact .inl e
  · refine .inr (Classical.byContradiction fun e' => ?_)
    have h1 := hr.role_lt e
    have h2 := hm k e'
    omega
end Rd
end Go.Proofs.YtlfpkbjiofelkaaGreat

namespace Go.Proofs.YtlfpkbjiofelkaaGreat
open Go.RowKit Go.Shelf
set_option linter.unusedVariables false
set_option linter.unusedSimpArgs false
set_option maxRecDepth 100000
namespace Rd
/-- one call, then another one a while later: both answer r -/
def Pair2 (f1 f2 : Nat) (a1 a2 : Array Value) (r : Value) (w : World) (O : Nat → Prop) (Q : World → Prop) : Prop :=
  Calls Tryz.prog f1 a1 w fun e w1 => e = .returned r ∧ (w.heap.size ≤ w1.heap.size ∧ ∀ k, k < w.heap.size → ¬ O k → w1.heap[k]? = w.heap[k]?) ∧ ∀ w1', Below w1.heap.size w1 w1' → Calls Tryz.prog f2 a2 w1' fun e w2 => e = .returned r ∧ Q w2
/-- what a step leaves -/
def FinP (w : World) (O : Nat → Prop) (R R2 seed N : Nat) (w2 : World) : Prop := ∃ O' l' s', Pf (hs seed) N w2 O' R R2 seed l' s' ∧ Fp w O w2 O'
theorem Fp.bel {w w' : World} {O : Nat → Prop} (hb : Below w.heap.size w w') : Fp w O w' O := ⟨⟨hb.os, hb.tape, hb.output⟩, hb.size, fun k hk hn => ⟨hb.block k hk, hn⟩⟩
section
variable {N N1 : Nat} {w : World} {r q : Roles} {R R2 b b2 seed : Nat} {v rv : Value} {l : List ByteArray} {s : Sf} {KV : List (ByteArray × Int)} {f1 f2 : Nat} {a1 a2 : Array Value}
theorem pair_of (hr : Rec (hs seed) N w r R b seed s) (hf : RF (hs seed) N w q R2 b2 seed v l s KV) (ha : ∀ k, rr r R k = (0, 0) ∨ rf q R2 v k = (0, 0)) (s1 : Sf)
    (m1 : Calls Tryz.prog f1 a1 w fun e w' => e = .returned rv ∧ ∃ q' v' l' KV', RF (hs seed) N1 w' q' R2 b2 seed v' l' s1 KV' ∧ Fr w (rf q R2 v) w' (rf q' R2 v'))
    (m2 : ∀ w1, Rec (hs seed) N w1 r R b seed s → Calls Tryz.prog f2 a2 w1 fun e w' => e = .returned rv ∧ ∃ r', Rec (hs seed) N1 w' r' R b seed s1 ∧ Fr w1 (rr r R) w' (rr r' R)) :
    Pair2 f1 f2 a1 a2 rv w (Own r R q R2 v) (FinP w (Own r R q R2 v) R R2 seed N1) := by
  unfold Pair2
  refine m1.mono ?_
  rintro _ w1 ⟨rfl, q', v', l', KV', h1, h2⟩
  obtain ⟨e1, e2⟩ := hr.aside h2 ha
  refine ⟨rfl, ⟨h2.2.1, fun k hk hn => (h2.2.2 k hk (Classical.byContradiction fun e => hn (.inr e))).1⟩, fun w1' hb => ?_⟩
  refine (m2 w1' (e1.below hb)).mono ?_
  rintro _ w2 ⟨rfl, r', g1, g2⟩
  obtain ⟨d1, d2⟩ := (h1.below hb).aside g2 e2
  exact ⟨rfl, _, l', s1, ⟨r', b, q', b2, v', KV', g1, d1, d2, rfl⟩, (Fp.right h2).trans ((Fp.bel hb).trans (Fp.left g2))⟩
end
section
variable {N : Nat} {w : World} {O : Nat → Prop} {R R2 seed : Nat} {l : List ByteArray} {s : Sf}
theorem pair_add (hp : Pf (hs seed) N w O R R2 seed l s) (hsd : seed < Dw.M) (hN : N + 1 ≤ 2600000000000) (x : ByteArray) :
    ∃ (i : Bool) (c : Int), Pair2 13 12 #[.pointer (some ⟨R2, 0, none⟩), .string x] #[.pointer (some ⟨R, 0, none⟩), .string x] (.tuple #[.bool i, .int .i64 c]) w O (FinP w O R R2 seed (N + 1)) := by
  obtain ⟨r, b, q, b2, v, KV, hr, hf, ha, rfl⟩ := hp.ex
  by_cases hx : x.size ≤ 1048576
  · obtain ⟨i, c, hv⟩ : ∃ i c, addV s x = .tuple #[.bool i, .int .i64 c] := by
      unfold addV
      split
      · exact ⟨_, _, rfl⟩
      · split <;> exact ⟨_, _, rfl⟩
    refine ⟨i, c, ?_⟩
    rw [← hv]
    exact pair_of hr hf ha _ (rfadd_all (rhs_is seed hsd) hf hN x hx) (fun w1 h1 => fadd_all (hs_is seed hsd) h1 hN x hx)
  · refine ⟨false, 2, pair_of hr hf ha s ?_ (fun w1 h1 => ?_)⟩
    · refine (rfadd_long w R2 x (by omega)).mono ?_
      rintro _ w' ⟨rfl, rfl⟩
      exact ⟨rfl, q, v, l, KV, hf.more (by omega), ⟨⟨rfl, rfl, rfl⟩, Nat.le_refl _, fun _ _ h => ⟨rfl, h⟩⟩⟩
    · refine (fadd_long x (decide_eq_true (by omega))).mono ?_
      rintro _ w' ⟨rfl, rfl⟩
      exact ⟨rfl, r, h1.more (by omega), ⟨⟨rfl, rfl, rfl⟩, Nat.le_refl _, fun _ _ h => ⟨rfl, h⟩⟩⟩
theorem pair_del (hp : Pf (hs seed) N w O R R2 seed l s) (hsd : seed < Dw.M) (hN : N + 1 ≤ 2600000000000) (x : ByteArray) (hx : x.size ≤ maxLen) :
    ∃ i : Bool, Pair2 26 27 #[.pointer (some ⟨R2, 0, none⟩), .string x] #[.pointer (some ⟨R, 0, none⟩), .string x] (.bool i) w O (FinP w O R R2 seed N) := by
  obtain ⟨r, b, q, b2, v, KV, hr, hf, ha, rfl⟩ := hp.ex
  exact ⟨_, pair_of hr hf ha _ (rfdel_all (rhs_is seed hsd) hf (by omega) x hx) (fun w1 h1 => fdel_all (hs_is seed hsd) h1 hN x hx)⟩
theorem pair_has (hp : Pf (hs seed) N w O R R2 seed l s) (hsd : seed < Dw.M) (hN : N ≤ 2600000000000) (x : ByteArray) (hx : x.size ≤ maxLen) :
    ∃ i : Bool, Pair2 28 29 #[.pointer (some ⟨R2, 0, none⟩), .string x] #[.pointer (some ⟨R, 0, none⟩), .string x] (.bool i) w O (FinP w O R R2 seed N) := by
  obtain ⟨r, b, q, b2, v, KV, hr, hf, ha, rfl⟩ := hp.ex
  refine ⟨_, pair_of hr hf ha (Dc.step (hs seed) s) ?_ (fun w1 h1 => fhas_all (hs_is seed hsd) h1 hN x hx)⟩
  refine (rfhas_all (rhs_is seed hsd) hf hN x).mono ?_
  rintro _ w' ⟨rfl, r', h1, h2⟩
  exact ⟨rfl, r', v, l, KV, h1, h2⟩
theorem pair_sample (hp : Pf (hs seed) N w O R R2 seed l s) (hN : N ≤ 2600000000000) (n : Nat) (hn : n < Dw.M) :
    ∃ (x : ByteArray) (i : Bool), Pair2 30 31 #[.pointer (some ⟨R2, 0, none⟩), .int .u64 n] #[.pointer (some ⟨R, 0, none⟩), .int .u64 n] (.tuple #[.string x, .bool i]) w O (FinP w O R R2 seed N) := by
  obtain ⟨r, b, q, b2, v, KV, hr, hf, ha, rfl⟩ := hp.ex
  have hfew := row_few hr hf
  have hper := row_perm hr hf
  have fin : ∀ w1 w2, Below w.heap.size w w1 → Below w1.heap.size w1 w2 → FinP w (Own r R q R2 v) R R2 seed N w2 := fun w1 w2 h1 h2 => ⟨_, l, s, hp.below (bup h1 h2), Fp.bel (bup h1 h2)⟩
  cases hl : l with
  | nil =>
    have hk : kys s = [] := by rw [hl] at hper; exact List.perm_nil.1 hper.symm
    refine ⟨.empty, false, ?_⟩
    unfold Pair2
    refine (rfsample_none hf.1 n hl).mono ?_
    rintro _ w1 ⟨rfl, rfl⟩
    refine ⟨rfl, ⟨Nat.le_refl _, fun _ _ _ => rfl⟩, fun w1' hb => ?_⟩
    refine (fsample_none w1' r R b s (hr.below hb) hN n hk).mono ?_
    rintro _ w2 ⟨rfl, h2⟩
    exact ⟨rfl, fin _ _ hb h2⟩
  | cons y l0 =>
    have hlp : 0 < l.length := by rw [hl]; simp
    obtain ⟨x, hx⟩ : ∃ x, l[n % l.length]? = some x := ⟨_, List.getElem?_eq_getElem (Nat.mod_lt _ hlp)⟩
    refine ⟨x, true, ?_⟩
    unfold Pair2
    refine (rfsample_at hf.1 n (by omega) x hx).mono ?_
    rintro _ w1 ⟨rfl, h1⟩
    refine ⟨rfl, ⟨h1.size, fun k hk _ => h1.block k hk⟩, fun w1' hb => ?_⟩
    refine (fsample_at w1' r R b s ((hr.below h1).below hb) hN n hn l ⟨hper, hf.2.1⟩ x hx).mono ?_
    rintro _ w2 ⟨rfl, h2⟩
    exact ⟨rfl, fin _ _ (bup h1 hb) h2⟩
end
end Rd
end Go.Proofs.YtlfpkbjiofelkaaGreat
