/-
  A dict, its list and boxes beside them, while a script goes on; and so within a range over the dict.
-/
import Derived.Test.YtcdcdodhpnmhpaaDictOnce
namespace Go.Proofs.Ytcdcdodhpnmhpaa
open Go.RowKit Go.Shelf
/-- all ways out but that of no room -/
def noOut (Q : Exit → Act → World → Prop) : Exit → Act → World → Prop
  | .outgrown, _, _ => False
  | e, a, w => Q e a w
/-- a region that draws its order, within a round, whatever is behind it -/
theorem region_round2 {P : Program} {id : Nat} {ops : Array Oper} {l n : Nat} {Q : Exit → Act → World → Prop} {a : Act} {w : World} {S : World → Prop} (hm : P.follows .mixedOrders = true) (hd : noDefer ops = true) (hS : S w.drew)
    (h : S w.drew → wpAnyH P .any ops (noOut Q) S ops.size (Array.replicate ops.size false) a w.drew) : (Code.region id ops true).wpIn (Fence.wide.inRound l) n P Q a w :=
  wpIn_mono (region_round hm hd (by rintro ⟨a, w, h⟩; exact h) hS h) (fun e a w h => by cases e <;> first | exact h | exact h.elim)
/-- what a step within a range reads -/
def heldR (Db Lb Wb Sb b : Nat) (lv wv sv : Value) (a : Addr) (o : Stp) (w : World) : Prop :=
  w.cell? ⟨Db, 0, none⟩ = some (.pointer (some ⟨b, 0, none⟩)) ∧ w.cell? ⟨Lb, 0, none⟩ = some lv ∧ w.cell? ⟨Wb, 0, none⟩ = some wv ∧ w.cell? ⟨Sb, 0, none⟩ = some sv ∧ StpAt w a o
/-- a dict and its list; Lb: the list's box, bx: other blocks that stay as they are -/
def RgL (h : ByteArray → Nat) (N : Nat) (W : World) (b seed Lb : Nat) (bx : List (Nat × Obj)) (r : Roles) (s : Dc.St ByteArray Int) (lv : Value) (l : List Ent) (w : World) : Prop :=
  Both h N W w r b seed s lv l ∧ (w.heap[Lb]? = some (.cells #[lv] 40 (0, 0)) ∧ role r lv (7, 0) Lb = (0, 0) ∧ W.heap.size ≤ Lb) ∧ (∀ x ∈ bx, w.heap[x.1]? = some x.2 ∧ role r lv (7, 0) x.1 = (0, 0)) ∧ ∀ x ∈ bx, x.1 ≠ Lb
/-- whose blocks they are -/
def OwL (Lb : Nat) (bx : List (Nat × Obj)) (r : Roles) (lv : Value) (k : Nat) : Prop := role r lv (7, 0) k ≠ (0, 0) ∨ k = Lb ∨ ∃ x ∈ bx, x.1 = k
theorem role_lt {h : ByteArray → Nat} {N : Nat} {W w : World} {r : Roles} {b seed : Nat} {s : Dc.St ByteArray Int} {lv : Value} {l : List Ent} (hB : Both h N W w r b seed s lv l) {k : Nat} (hk : role r lv (7, 0) k ≠ (0, 0)) : k < w.heap.size := by
  by_cases e : lv.ownBlock = some k
  · exact own_lt hB.2.2.1 e
  · exact hB.1.1.1 k (fun e' => hk (role_zero.2 ⟨e, e'⟩))
theorem RgL.lt {h : ByteArray → Nat} {N : Nat} {W : World} {b seed Lb : Nat} {bx : List (Nat × Obj)} {r : Roles} {s : Dc.St ByteArray Int} {lv : Value} {l : List Ent} {w : World} (hR : RgL h N W b seed Lb bx r s lv l w) {k : Nat} (hk : OwL Lb bx r lv k) : k < w.heap.size := by
  rcases hk with hk | rfl | ⟨x, hx, rfl⟩
  · exact role_lt hR.1 hk
  · exact (Array.getElem?_eq_some_iff.1 hR.2.1.1).1
  · exact (Array.getElem?_eq_some_iff.1 (hR.2.2.1 x hx).1).1
theorem both_kept {h : ByteArray → Nat} {N : Nat} {W w w' : World} {r : Roles} {b seed : Nat} {s : Dc.St ByteArray Int} {lv : Value} {l : List Ent} (hB : Both h N W w r b seed s lv l) (hs : w.heap.size ≤ w'.heap.size) (hk : ∀ k, role r lv (7, 0) k ≠ (0, 0) → w'.heap[k]? = w.heap[k]?) (hW : Below W.heap.size W w') : Both h N W w' r b seed s lv l := by
  have hz : ∀ k, r k ≠ (0, 0) → role r lv (7, 0) k ≠ (0, 0) := fun k h1 h2 => h1 (role_zero.1 h2).2
  refine ⟨hB.1.kept hs (fun k _ hr => hk k (hz k hr)), hB.2.1, hB.2.2.1.kept (fun k e => hk k (fun e' => (role_zero.1 e').1 e)), hB.2.2.2.1, hW, hB.2.2.2.2.2⟩
theorem RgL.kept {h : ByteArray → Nat} {N : Nat} {W : World} {b seed Lb : Nat} {bx : List (Nat × Obj)} {r : Roles} {s : Dc.St ByteArray Int} {lv : Value} {l : List Ent} {w w' : World} (hR : RgL h N W b seed Lb bx r s lv l w) (hs : w.heap.size ≤ w'.heap.size) (hk : ∀ k, OwL Lb bx r lv k → w'.heap[k]? = w.heap[k]?) (hW : Below W.heap.size W w') : RgL h N W b seed Lb bx r s lv l w' := by
  obtain ⟨h1, ⟨h2, h2', h2''⟩, h3, h4⟩ := hR
  exact ⟨both_kept h1 hs (fun k e => hk k (.inl e)) hW, ⟨(hk _ (.inr (.inl rfl))).trans h2, h2', h2''⟩, fun x hx => ⟨(hk _ (.inr (.inr ⟨x, hx, rfl⟩))).trans (h3 x hx).1, (h3 x hx).2⟩, h4⟩
theorem RgL.below {h : ByteArray → Nat} {N : Nat} {W : World} {b seed Lb : Nat} {bx : List (Nat × Obj)} {r : Roles} {s : Dc.St ByteArray Int} {lv : Value} {l : List Ent} {w w' : World} (hR : RgL h N W b seed Lb bx r s lv l w) (hb : Below w.heap.size w w') : RgL h N W b seed Lb bx r s lv l w' :=
  hR.kept hb.size (fun _ hk => hb.block _ (hR.lt hk)) (hR.1.2.2.2.2.1.trans (hb.mono hR.1.2.2.2.2.1.size))
/-- behind a step, and the list stored -/
theorem RgL.done {h : ByteArray → Nat} {N : Nat} {W : World} {b seed Lb : Nat} {bx : List (Nat × Obj)} {r : Roles} {s : Dc.St ByteArray Int} {lv : Value} {l : List Ent} {w w' : World} {o : Stp} {e : Ending} (hR : RgL h N W b seed Lb bx r s lv l w) (hD : Done h N w r b seed s o lv e w') :
    ∃ lv' l' r', e = .returned (.tuple #[lv', .bool true]) ∧ (w'.heap[Lb]? = some (.cells #[lv] 40 (0, 0)) ∧ (∃ ao cap, lv' = .slice ao l'.length cap)) ∧ (∀ k, k < w.heap.size → role r lv (7, 0) k = (0, 0) → w'.heap[k]? = w.heap[k]? ∧ role r' lv' (7, 0) k = (0, 0)) ∧ w.heap.size ≤ w'.heap.size ∧ Below W.heap.size W w' ∧
      RgL h (N + 1) W b seed Lb bx r' (doS h s o) lv' l' (w'.setCell ⟨Lb, 0, none⟩ lv') := by
  obtain ⟨lv', l', r', h1, h2, h3, h4, h5, h6⟩ := hD
  obtain ⟨hB, ⟨g1, g2, g3⟩, g4, g5⟩ := hR
  have hs := hB.2.2.2.2.1.size
  have hB3 : Both h (N + 1) W w' r' b seed (doS h s o) lv' l' := ⟨h2, h3, h4, h5, hB.2.2.2.2.1.trans (h6.below hs hB.2.2.2.2.2), fun k hk => (h6.2.2 k (by omega) (hB.2.2.2.2.2 k hk)).2⟩
  have hz : ∀ k, k < w.heap.size → role r lv (7, 0) k = (0, 0) → w'.heap[k]? = w.heap[k]? ∧ role r' lv' (7, 0) k = (0, 0) := fun k hk hr => h6.2.2 k hk hr
  obtain ⟨q1, q2⟩ := hz Lb (Array.getElem?_eq_some_iff.1 g1).1 g2
  obtain ⟨ao, cap, hlv, _⟩ := h4.form
  have so : ∀ k, k ≠ Lb → (w'.setCell ⟨Lb, 0, none⟩ lv').heap[k]? = w'.heap[k]? := fun k hk => Below.heap_setCell _ _ _ _ hk
  refine ⟨lv', l', r', h1, ⟨q1.trans g1, ao, cap, hlv⟩, hz, h6.2.1, hB3.2.2.2.2.1, both_kept hB3 (by simp [World.setCell]) (fun k hk => so k (fun e => hk (by rw [e]; exact q2))) (hB3.2.2.2.2.1.setCell (p := ⟨Lb, 0, none⟩) g3 _), ⟨cells_setCell (q1.trans g1), q2, g3⟩, fun x hx => ?_, g5⟩
  obtain ⟨p1, p2⟩ := hz x.1 (Array.getElem?_eq_some_iff.1 (g4 x hx).1).1 (g4 x hx).2
  exact ⟨(so _ (g5 x hx)).trans (p1.trans (g4 x hx).1), p2⟩
/-- and those entries that came, in a slice of their own; Sb: its box -/
def RgS (h : ByteArray → Nat) (N : Nat) (W : World) (b seed Lb Sb : Nat) (bx : List (Nat × Obj)) (es : List Ent) (r : Roles) (s : Dc.St ByteArray Int) (lv : Value) (l : List Ent) (v : Value) (m : Nat) (w : World) : Prop :=
  RgL h N W b seed Lb bx r s lv l w ∧ (w.heap[Sb]? = some (.cells #[v] 40 (0, 0)) ∧ role r lv (7, 0) Sb = (0, 0) ∧ W.heap.size ≤ Sb) ∧ w.ownsRow W.heap.size 51 2 v m (enL (es.take m)) ∧
    (∀ k, v.ownBlock = some k → role r lv (7, 0) k = (0, 0) ∧ k ≠ Lb ∧ k ≠ Sb ∧ ∀ x ∈ bx, x.1 ≠ k) ∧ Lb ≠ Sb ∧ ∀ x ∈ bx, x.1 ≠ Sb
def OwS (Lb Sb : Nat) (bx : List (Nat × Obj)) (r : Roles) (lv v : Value) (k : Nat) : Prop := OwL Lb bx r lv k ∨ k = Sb ∨ v.ownBlock = some k
theorem RgS.lt {h : ByteArray → Nat} {N : Nat} {W : World} {b seed Lb Sb : Nat} {bx : List (Nat × Obj)} {es : List Ent} {r : Roles} {s : Dc.St ByteArray Int} {lv : Value} {l : List Ent} {v : Value} {m : Nat} {w : World} (hR : RgS h N W b seed Lb Sb bx es r s lv l v m w) {k : Nat} (hk : OwS Lb Sb bx r lv v k) : k < w.heap.size := by
  rcases hk with hk | rfl | hk
  · exact hR.1.lt hk
  · exact (Array.getElem?_eq_some_iff.1 hR.2.1.1).1
  · exact own_lt hR.2.2.1 hk
theorem RgS.kept {h : ByteArray → Nat} {N : Nat} {W : World} {b seed Lb Sb : Nat} {bx : List (Nat × Obj)} {es : List Ent} {r : Roles} {s : Dc.St ByteArray Int} {lv : Value} {l : List Ent} {v : Value} {m : Nat} {w w' : World} (hR : RgS h N W b seed Lb Sb bx es r s lv l v m w) (hs : w.heap.size ≤ w'.heap.size) (hk : ∀ k, OwS Lb Sb bx r lv v k → w'.heap[k]? = w.heap[k]?) (hW : Below W.heap.size W w') : RgS h N W b seed Lb Sb bx es r s lv l v m w' := by
  obtain ⟨h1, ⟨h2, h2', h2''⟩, h3, h4⟩ := hR
  exact ⟨h1.kept hs (fun k e => hk k (.inl e)) hW, ⟨(hk _ (.inr (.inl rfl))).trans h2, h2', h2''⟩, own_kept h3 (fun k e => hk k (.inr (.inr e))), h4⟩
/-- so within a range: M's blocks are none of these -/
def RgI (h : ByteArray → Nat) (N : Nat) (W : World) (b seed Lb Sb : Nat) (bx : List (Nat × Obj)) (es : List Ent) (M : Nat → Prop) (m : Nat) (w : World) : Prop :=
  ∃ r s lv l v, RgS h (N + m) W b seed Lb Sb bx es r s lv l v m w ∧ ∀ k, M k → ¬ OwS Lb Sb bx r lv v k ∧ W.heap.size ≤ k
theorem RgI.abd {h : ByteArray → Nat} {N : Nat} {W : World} {b seed Lb Sb : Nat} {bx : List (Nat × Obj)} {es : List Ent} : Abd (RgI h N W b seed Lb Sb bx es) := by
  rintro M M' m A B ⟨r, s, lv, l, v, hR, hM⟩ hs hx
  have hbW := hR.1.1.2.2.2.2.1
  refine ⟨r, s, lv, l, v, hR.kept hs.2.1 (fun k hk => hs.2.2 k (hR.lt hk) (fun e => (hM k e).1 hk)) (hbW.trans (hs.below hbW.size (fun k hk => (hM k hk).2))), fun k hk => ?_⟩
  rcases hx k hk with h' | h'
  · exact hM k h'
  · exact ⟨fun e => by have := hR.lt e; omega, by have := hbW.size; omega⟩
theorem RgS.more {h : ByteArray → Nat} {N N' : Nat} {W : World} {b seed Lb Sb : Nat} {bx : List (Nat × Obj)} {es : List Ent} {r : Roles} {s : Dc.St ByteArray Int} {lv : Value} {l : List Ent} {v : Value} {m : Nat} {w : World} (hR : RgS h N W b seed Lb Sb bx es r s lv l v m w) (hN : N ≤ N') : RgS h N' W b seed Lb Sb bx es r s lv l v m w :=
  ⟨⟨⟨hR.1.1.1.more hN, hR.1.1.2⟩, hR.1.2⟩, hR.2⟩
/-- behind a step within a range -/
theorem RgS.step {h : ByteArray → Nat} {N : Nat} {W : World} {b seed Lb Sb : Nat} {bx : List (Nat × Obj)} {es : List Ent} {r r3 : Roles} {s s3 : Dc.St ByteArray Int} {lv lv3 : Value} {l l3 : List Ent} {v : Value} {m : Nat} {w w3 : World} {M : Nat → Prop} (hR : RgS h N W b seed Lb Sb bx es r s lv l v m w)
    (hz : ∀ k, k < w.heap.size → role r lv (7, 0) k = (0, 0) → w3.heap[k]? = w.heap[k]? ∧ role r3 lv3 (7, 0) k = (0, 0)) (hs : w.heap.size ≤ w3.heap.size) (hR3 : RgL h (N + 1) W b seed Lb bx r3 s3 lv3 l3 (w3.setCell ⟨Lb, 0, none⟩ lv3))
    (hM : ∀ k, M k → ¬ OwS Lb Sb bx r lv v k ∧ W.heap.size ≤ k) (hMl : ∀ k, M k → k < w.heap.size) :
    RgS h (N + 1) W b seed Lb Sb bx es r3 s3 lv3 l3 v m (w3.setCell ⟨Lb, 0, none⟩ lv3) ∧ Mk M w (w3.setCell ⟨Lb, 0, none⟩ lv3) ∧ ∀ k, M k → ¬ OwS Lb Sb bx r3 lv3 v k ∧ W.heap.size ≤ k := by
  obtain ⟨hL, ⟨hS1, hS2, hS3⟩, hO, hV, hLS, hbS⟩ := hR
  have so : ∀ k, k ≠ Lb → (w3.setCell ⟨Lb, 0, none⟩ lv3).heap[k]? = w3.heap[k]? := fun k hk => Below.heap_setCell _ _ _ _ hk
  have hss : (w3.setCell ⟨Lb, 0, none⟩ lv3).heap.size = w3.heap.size := by simp [World.setCell]
  obtain ⟨p1, p2⟩ := hz Sb (Array.getElem?_eq_some_iff.1 hS1).1 hS2
  have hMz : ∀ k, M k → role r lv (7, 0) k = (0, 0) := fun k hk => Classical.byContradiction fun e => (hM k hk).1 (.inl (.inl e))
  refine ⟨⟨hR3, ⟨(so _ (Ne.symm hLS)).trans (p1.trans hS1), p2, hS3⟩, own_kept hO (fun k hk => (so k (hV k hk).2.1).trans (hz k (own_lt hO hk) (hV k hk).1).1), fun k hk => ⟨(hz k (own_lt hO hk) (hV k hk).1).2, (hV k hk).2⟩, hLS, hbS⟩, ⟨by rw [hss]; exact hs, fun k hk => ?_⟩, fun k hk => ⟨fun e => ?_, (hM k hk).2⟩⟩
  · exact (so k (fun e => (hM k hk).1 (.inl (.inr (.inl e))))).trans (hz k (hMl k hk) (hMz k hk)).1
  · have hn := (hM k hk).1
    rcases e with (e | e | e) | e
    · exact e (hz k (hMl k hk) (hMz k hk)).2
    · exact hn (.inl (.inr (.inl e)))
    · exact hn (.inl (.inr (.inr e)))
    · exact hn (.inr e)
/-- one more entry came -/
theorem RgS.push {h : ByteArray → Nat} {N : Nat} {W : World} {b seed Lb Sb : Nat} {bx : List (Nat × Obj)} {es : List Ent} {r : Roles} {s : Dc.St ByteArray Int} {lv : Value} {l : List Ent} {bo : Option Addr} {bc m : Nat} {w : World} {e1 : ByteArray} {e2 : Int} {M : Nat → Prop} (hR : RgS h N W b seed Lb Sb bx es r s lv l (.slice bo m bc) m w) (hx : es[m]? = some (e1, e2)) (hm : m ≤ 1048576)
    (hM : ∀ k, M k → ¬ OwS Lb Sb bx r lv (.slice bo m bc) k ∧ W.heap.size ≤ k) (hMl : ∀ k, M k → k < w.heap.size) :
    ∃ g cap w3, (Builtin.append_ #[40, 40] 40 #[.slice bo m bc, .slice (some ⟨w.heap.size, 0, none⟩) 1 1]).run Try.prog (w.alloc (.cells #[.string e1, .int .i64 e2] 51)) = .ok (.slice (some ⟨g, 0, none⟩) (m + 1) cap) w3 ∧
      w3.cell? ⟨Sb, 0, none⟩ = some (.slice bo m bc) ∧ w3.frozen? ⟨Sb, 0, none⟩ = false ∧ Mk M w (w3.setCell ⟨Sb, 0, none⟩ (.slice (some ⟨g, 0, none⟩) (m + 1) cap)) ∧
      RgS h N W b seed Lb Sb bx es r s lv l (.slice (some ⟨g, 0, none⟩) (m + 1) cap) (m + 1) (w3.setCell ⟨Sb, 0, none⟩ (.slice (some ⟨g, 0, none⟩) (m + 1) cap)) ∧ ∀ k, M k → ¬ OwS Lb Sb bx r lv (.slice (some ⟨g, 0, none⟩) (m + 1) cap) k ∧ W.heap.size ≤ k := by
  obtain ⟨i0, hi0, hz0, hz1, hzb⟩ := info_parts info_entry5
  have hWs := hR.1.1.2.2.2.2.1.size
  have hlt := fun k hk => hR.lt (k := k) hk
  obtain ⟨hL, ⟨hS1, hS2, hS3⟩, hO, hV, hLS, hbS⟩ := hR
  obtain ⟨g, cap, w3, hrun, hown, hgr, hat, hg3⟩ := run_append_lies (P := Try.prog) (w := w.alloc (.cells #[.string e1, .int .i64 e2] 51)) 40 40 W.heap.size 51 i0 _ 2 24 Try.underlying40 hi0 hz0 hz1 hzb rfl (by omega) (.slice bo m bc) m (enL (es.take m)) (hO.alloc _) ⟨w.heap.size, 0, none⟩ 1 1 [.string e1, .int .i64 e2] rfl (World.news_of_block (cs := #[.string e1, .int .i64 e2]) (t := 51) (fr := (0, 0)) (heap_alloc_new w _)) (by simp [Value.oneCell']) (by omega) (by unfold maxLen; omega) (by omega) (by simp; omega) (w.heap.size + 1) (by simp)
  have hs3 : w.heap.size + 1 ≤ w3.heap.size := by have := hgr.size; simpa using this
  have same : ∀ k, k < w.heap.size → (Value.slice bo m bc).ownBlock ≠ some k → w3.heap[k]? = w.heap[k]? := fun k hk hn => by
    rw [hgr.block k (by simp; omega) (fun e => hn e.symm), Below.heap_alloc _ _ _ hk]
  have h3S := (same Sb (Array.getElem?_eq_some_iff.1 hS1).1 (fun e => (hV _ e).2.2.1 rfl)).trans hS1
  have sameS : ∀ k, k ≠ Sb → (w3.setCell ⟨Sb, 0, none⟩ (.slice (some ⟨g, 0, none⟩) (m + 1) cap)).heap[k]? = w3.heap[k]? := fun k hk => Below.heap_setCell _ _ _ _ hk
  have hss : (w3.setCell ⟨Sb, 0, none⟩ (.slice (some ⟨g, 0, none⟩) (m + 1) cap)).heap.size = w3.heap.size := by simp [World.setCell]
  have hgo : ¬ OwL Lb bx r lv g ∧ g ≠ Sb := by
    rcases hat with h' | h'
    · obtain ⟨q1, q2, q3, q4⟩ := hV g h'
      refine ⟨fun e => ?_, q3⟩
      rcases e with e | e | ⟨x, hx', e⟩
      · exact e q1
      · exact q2 e
      · exact q4 x hx' e
    · refine ⟨fun e => ?_, fun e => ?_⟩
      · have := hlt g (.inl e); omega
      · have := hlt Sb (.inr (.inl rfl)); omega
  have hbelow : Below W.heap.size W (w3.setCell ⟨Sb, 0, none⟩ (.slice (some ⟨g, 0, none⟩) (m + 1) cap)) := by
    refine hL.1.2.2.2.2.1.trans ⟨hgr.os, hgr.tape, hgr.output, by rw [hss]; omega, fun k hk => ?_⟩
    rw [sameS k (by omega), same k (by omega) (fun e => ?_)]
    have := (hO.lt k e).1
    omega
  have hOwL : ∀ k, OwL Lb bx r lv k → (w3.setCell ⟨Sb, 0, none⟩ (.slice (some ⟨g, 0, none⟩) (m + 1) cap)).heap[k]? = w.heap[k]? := fun k hk => by
    rw [sameS k (fun e => ?_), same k (hlt k (.inl hk)) (fun e => ?_)]
    · obtain ⟨q1, q2, q3, q4⟩ := hV k e
      rcases hk with hk | hk | ⟨x, hx', hk⟩
      · exact hk q1
      · exact q2 hk
      · exact q4 x hx' hk
    · rcases hk with hk | hk | ⟨x, hx', hk⟩
      · exact hk (by rw [e]; exact hS2)
      · exact hLS (hk.symm.trans e)
      · exact hbS x hx' (hk.trans e)
  refine ⟨g, cap, w3, hrun, by rw [cell_of_row _ _ _ _ _ _ h3S]; rfl, by simp [World.frozen?, h3S], ⟨by rw [hss]; omega, fun k hk => ?_⟩, ⟨hL.kept (by rw [hss]; omega) hOwL hbelow, ⟨cells_setCell h3S, hS2, hS3⟩, ?_, fun k hk => ?_, hLS, hbS⟩, fun k hk => ⟨fun e => ?_, (hM k hk).2⟩⟩
  · have hn := (hM k hk).1
    rw [sameS k (fun e => hn (.inr (.inl e))), same k (hMl k hk) (fun e => hn (.inr (.inr e)))]
  · have e : enL (es.take (m + 1)) = enL (es.take m) ++ [.string e1, .int .i64 e2] := by
      obtain ⟨hml', this⟩ := List.getElem?_eq_some_iff.1 hx
      rw [List.take_succ_eq_append_getElem hml', this]
      unfold enL
      rw [List.flatMap_append]
      rfl
    rw [e]
    exact own_kept hown (fun k hk => by cases hk; exact sameS g hgo.2)
  · cases hk
    refine ⟨Classical.byContradiction fun e => hgo.1 (.inl e), fun e => hgo.1 (.inr (.inl e)), hgo.2, fun x hx' e => hgo.1 (.inr (.inr ⟨x, hx', e⟩))⟩
  · have hn := (hM k hk).1
    rcases e with e | e | e
    · exact hn (.inl e)
    · exact hn (.inr (.inl e))
    · cases e
      rcases hat with h' | h'
      · exact hn (.inr (.inr h'))
      · have := hMl g hk; omega
/-- while they are counted; Nb: the count's box, D: what is taken at the return -/
def RgN (h : ByteArray → Nat) (N : Nat) (W : World) (b seed Lb Sb Nb D : Nat) (bx : List (Nat × Obj)) (es : List Ent) (r : Roles) (s : Dc.St ByteArray Int) (lv : Value) (l : List Ent) (v : Value) (n : Nat) (M : Nat → Prop) (m : Nat) (w : World) : Prop :=
  RgS h N W b seed Lb Sb bx es r s lv l v n w ∧ (w.heap[Nb]? = some (.cells #[.int .i64 m] 3 (0, 0)) ∧ ¬ M Nb ∧ ¬ OwS Lb Sb bx r lv v Nb ∧ W.heap.size ≤ Nb) ∧ (w.heap[D]? = some (.deferred (some [])) ∧ ¬ M D) ∧ ∀ k, M k → ¬ OwS Lb Sb bx r lv v k ∧ W.heap.size ≤ k
theorem RgN.abd {h : ByteArray → Nat} {N : Nat} {W : World} {b seed Lb Sb Nb D : Nat} {bx : List (Nat × Obj)} {es : List Ent} {r : Roles} {s : Dc.St ByteArray Int} {lv : Value} {l : List Ent} {v : Value} {n : Nat} : Abd (RgN h N W b seed Lb Sb Nb D bx es r s lv l v n) := by
  rintro M M' m A B ⟨hR, ⟨h1, h2, h3, h4⟩, ⟨h5, h6⟩, hM⟩ hs hx
  have hbW := hR.1.1.2.2.2.2.1
  have hNl := (Array.getElem?_eq_some_iff.1 h1).1
  have hDl := (Array.getElem?_eq_some_iff.1 h5).1
  refine ⟨hR.kept hs.2.1 (fun k hk => hs.2.2 k (hR.lt hk) (fun e => (hM k e).1 hk)) (hbW.trans (hs.below hbW.size (fun k hk => (hM k hk).2))), ⟨(hs.2.2 _ hNl h2).trans h1, hx.lt hNl h2, h3, h4⟩, ⟨(hs.2.2 _ hDl h6).trans h5, hx.lt hDl h6⟩, fun k hk => ?_⟩
  rcases hx k hk with h' | h'
  · exact hM k h'
  · exact ⟨fun e => by have := hR.lt e; omega, by have := hbW.size; omega⟩
theorem RgS.below {h : ByteArray → Nat} {N : Nat} {W : World} {b seed Lb Sb : Nat} {bx : List (Nat × Obj)} {es : List Ent} {r : Roles} {s : Dc.St ByteArray Int} {lv : Value} {l : List Ent} {v : Value} {m : Nat} {w w' : World} (hR : RgS h N W b seed Lb Sb bx es r s lv l v m w) (hb : Below w.heap.size w w') : RgS h N W b seed Lb Sb bx es r s lv l v m w' :=
  hR.kept hb.size (fun _ hk => hb.block _ (hR.lt hk)) (hR.1.1.2.2.2.2.1.trans (hb.mono hR.1.1.2.2.2.2.1.size))
end Go.Proofs.Ytcdcdodhpnmhpaa
