/-
  What the program's memory holds of a table: its struct, its two rows of buckets, its chains; each block has one role.
-/
import Derived.Test.YtapehjlpiobeaaaDictMath
import Derived.Test.YtapehjlpiobeaaaDraws
import Derived.Below
import Derived.OwnWalk
import Derived.Laws.AppendOwn
import Derived.Deep.AppendLies
import Derived.Deep.RegionHeld3
import Derived.Deep.Heap
namespace Go.Proofs.Ytapehjlpiobeaaa
open Go.RowKit
abbrev Ent : Type := ByteArray × Nat
abbrev Roles : Type := Nat → Nat × Nat
/-- the cells of an entry, of a chain (its head lies last) -/
def enE (e : Ent) : List Value := [.string e.1, .float .f64 e.2]
def enC (c : List Ent) : List Value := c.reverse.flatMap enE
theorem enC_len (c : List Ent) : (enC c).length = c.length * 2 := by
  unfold enC
  induction c with
  | nil => rfl
  | cons e c ih => rw [List.reverse_cons, List.flatMap_append, List.length_append, ih]; simp [enE]; omega
theorem enC_cons (e : Ent) (c : List Ent) : enC (e :: c) = enC c ++ enE e := by
  unfold enC; rw [List.reverse_cons, List.flatMap_append]; simp
/-- a chain lies in a slice -/
def Chn (w : World) (v : Value) (c : List Ent) : Prop := w.ownsRow 0 91 2 v c.length (enC c)
/-- a row of buckets lies in a slice; t: 0 old, 1 young -/
def Tb (w : World) (r : Roles) (t : Nat) (tv : Value) (T : Dc.Tab ByteArray Nat) : Prop :=
  ∃ vs : List Value, w.ownsRow 0 93 1 tv T.length vs ∧ (∀ k, tv.ownBlock = some k → r k = (1 + t, 0)) ∧
    ∀ i c, T[i]? = some c → ∃ v, vs[i]? = some v ∧ Chn w v c ∧ ∀ k, v.ownBlock = some k → r k = (3 + t, i)
/-- a dict lies in block b; n: what it counts as its keys -/
def Dct (w : World) (r : Roles) (b seed n : Nat) (s : Dc.St ByteArray Nat) : Prop :=
  (∀ k, r k ≠ (0, 0) → k < w.heap.size) ∧ r b = (5, 0) ∧ ∃ ov yv, w.heap[b]? = some (.cells #[.int .u64 seed, .int .i64 n, ov, yv, .int .i64 s.pos] 87 (0, 0)) ∧ Tb w r 0 ov s.old ∧ Tb w r 1 yv s.young
/-- nothing has turned but the dict's own blocks, and new ones -/
def Fr (w : World) (r : Roles) (w' : World) (r' : Roles) : Prop :=
  (w'.os = w.os ∧ w'.tape = w.tape ∧ w'.output = w.output) ∧ w.heap.size ≤ w'.heap.size ∧ ∀ k, k < w.heap.size → r k = (0, 0) → w'.heap[k]? = w.heap[k]? ∧ r' k = (0, 0)
theorem Fr.refl (w : World) (r : Roles) : Fr w r w r := ⟨⟨rfl, rfl, rfl⟩, Nat.le_refl _, fun _ _ h => ⟨rfl, h⟩⟩
theorem Fr.trans {w w1 w2 : World} {r r1 r2 : Roles} (h : Fr w r w1 r1) (g : Fr w1 r1 w2 r2) : Fr w r w2 r2 := by
  obtain ⟨⟨a1, a2, a3⟩, a4, a5⟩ := h
  obtain ⟨⟨b1, b2, b3⟩, b4, b5⟩ := g
  refine ⟨⟨b1.trans a1, b2.trans a2, b3.trans a3⟩, Nat.le_trans a4 b4, fun k hk hr => ?_⟩
  obtain ⟨c1, c2⟩ := a5 k hk hr
  obtain ⟨d1, d2⟩ := b5 k (Nat.lt_of_lt_of_le hk a4) c2
  exact ⟨d1.trans c1, d2⟩
theorem Fr.below {w w' : World} {r r' : Roles} {B : Nat} (h : Fr w r w' r') (hB : B ≤ w.heap.size) (hr : ∀ k, k < B → r k = (0, 0)) : Below B w w' :=
  ⟨h.1.1, h.1.2.1, h.1.2.2, h.2.1, fun k hk => (h.2.2 k (by omega) (hr k hk)).1⟩
theorem Fr.of_below {w w' : World} {r : Roles} (h : Below w.heap.size w w') : Fr w r w' r := ⟨⟨h.os, h.tape, h.output⟩, h.size, fun k hk hr => ⟨h.block k hk, hr⟩⟩
theorem own_kept {w w' : World} {B e s : Nat} {v : Value} {n : Nat} {xs : List Value} (h : w.ownsRow B e s v n xs) (hk : ∀ k, v.ownBlock = some k → w'.heap[k]? = w.heap[k]?) : w'.ownsRow B e s v n xs := by
  refine ⟨h.1, ?_⟩
  rcases h.2 with hn | ⟨g, cap, cur, rfl, hb, hgg, rest⟩
  · exact .inl hn
  · exact .inr ⟨g, cap, cur, rfl, hb, by rw [hk g rfl]; exact hgg, rest⟩
theorem own_lt {w : World} {B e s : Nat} {v : Value} {n : Nat} {xs : List Value} (h : w.ownsRow B e s v n xs) {k : Nat} (hk : v.ownBlock = some k) : k < w.heap.size := (h.lt k hk).2
theorem Tb.kept {w w' : World} {r r' : Roles} {t : Nat} {tv : Value} {T : Dc.Tab ByteArray Nat} (h : Tb w r t tv T) (hk : ∀ k, k < w.heap.size → ((r k).1 = 1 + t ∨ (r k).1 = 3 + t) → w'.heap[k]? = w.heap[k]? ∧ r' k = r k) : Tb w' r' t tv T := by
  obtain ⟨vs, h1, h2, h3⟩ := h
  refine ⟨vs, own_kept h1 (fun k e => (hk k (own_lt h1 e) (.inl (by rw [h2 k e]))).1), fun k e => by rw [(hk k (own_lt h1 e) (.inl (by rw [h2 k e]))).2]; exact h2 k e, fun i c hc => ?_⟩
  obtain ⟨v, e1, e2, e3⟩ := h3 i c hc
  exact ⟨v, e1, own_kept e2 (fun k e => (hk k (own_lt e2 e) (.inr (by rw [e3 k e]))).1), fun k e => by rw [(hk k (own_lt e2 e) (.inr (by rw [e3 k e]))).2]; exact e3 k e⟩
/-- a dict whose blocks have not turned is as it was -/
theorem Dct.kept {w w' : World} {r : Roles} {b seed n : Nat} {s : Dc.St ByteArray Nat} (h : Dct w r b seed n s) (hs : w.heap.size ≤ w'.heap.size) (hk : ∀ k, k < w.heap.size → r k ≠ (0, 0) → w'.heap[k]? = w.heap[k]?) : Dct w' r b seed n s := by
  obtain ⟨h1, h2, ov, yv, h3, h4, h5⟩ := h
  refine ⟨fun k hr => Nat.lt_of_lt_of_le (h1 k hr) hs, h2, ov, yv, ?_, h4.kept (fun k hl hr => ⟨hk k hl (fun e => ?_), rfl⟩), h5.kept (fun k hl hr => ⟨hk k hl (fun e => ?_), rfl⟩)⟩
  · rw [hk b (h1 b (by rw [h2]; simp)) (by rw [h2]; simp)]; exact h3
  · rw [e] at hr; simp at hr
  · rw [e] at hr; simp at hr
theorem Dct.below {w w' : World} {r : Roles} {b seed n : Nat} {s : Dc.St ByteArray Nat} (h : Dct w r b seed n s) (hb : Below w.heap.size w w') : Dct w' r b seed n s := h.kept hb.size (fun k hk _ => hb.block k hk)
/-- the struct's block turns into another one of its kind -/
theorem cells_setCell {w : World} {b i : Nat} {cur : Array Value} {t : TypeId} {fr : Nat × Nat} {u : Value} (h : w.heap[b]? = some (.cells cur t fr)) : (w.setCell ⟨b, i, none⟩ u).heap[b]? = some (.cells (cur.setIfInBounds i u) t fr) := by
  have hlt := (Array.getElem?_eq_some_iff.1 h).1
  simp [World.setCell, Array.getElem?_modify, h]
theorem take_set {cur : Array Value} {n i : Nat} {u : Value} {vs : List Value} (h : cur.toList.take n = vs) : (cur.setIfInBounds i u).toList.take n = vs.set i u := by
  rw [Array.toList_setIfInBounds, List.take_set, h]
theorem Tb.form {w : World} {r : Roles} {t : Nat} {tv : Value} {T : Dc.Tab ByteArray Nat} (h : Tb w r t tv T) (hn : 0 < T.length) :
    ∃ g cap, tv = .slice (some ⟨g, 0, none⟩) T.length cap ∧ r g = (1 + t, 0) ∧ g < w.heap.size := by
  obtain ⟨vs, h1, h2, h3⟩ := h
  obtain ⟨g, cap, rfl, _, hg⟩ := h1.form hn
  exact ⟨g, cap, rfl, h2 g rfl, hg⟩
theorem Tb.empty {w : World} {r : Roles} {t : Nat} {tv : Value} (h : Tb w r t tv []) : ∃ ao cap, tv = .slice ao 0 cap := by
  obtain ⟨vs, h1, h2, h3⟩ := h
  rcases h1.2 with ⟨rfl, _⟩ | ⟨g, cap, cur, rfl, _⟩
  · exact ⟨_, _, rfl⟩
  · exact ⟨_, _, rfl⟩
/-- a bucket's chain, where it lies -/
theorem Tb.at {w : World} {r : Roles} {t : Nat} {g cap n : Nat} {T : Dc.Tab ByteArray Nat} {i : Nat} {c : List Ent} (h : Tb w r t (.slice (some ⟨g, 0, none⟩) n cap) T) (hi : T[i]? = some c) :
    ∃ v, w.cell? ⟨g, i, none⟩ = some v ∧ Chn w v c ∧ ∀ k, v.ownBlock = some k → r k = (3 + t, i) := by
  obtain ⟨vs, h1, h2, h3⟩ := h
  obtain ⟨v, e1, e2, e3⟩ := h3 i c hi
  refine ⟨v, ?_, e2, e3⟩
  have := h1.cells (g := g) rfl i v e1
  rwa [show (⟨g, 0, none⟩ : Addr).add i = ⟨g, i, none⟩ by unfold Addr.add; split <;> simp_all] at this
theorem Tb.free {w : World} {r : Roles} {t : Nat} {g cap n : Nat} {T : Dc.Tab ByteArray Nat} (h : Tb w r t (.slice (some ⟨g, 0, none⟩) n cap) T) (i : Nat) : w.frozen? ⟨g, i, none⟩ = false := by
  obtain ⟨vs, h1, h2, h3⟩ := h
  rcases h1.2 with ⟨h, _⟩ | ⟨g', cap', cur, e, _, hg, _⟩
  · cases h
  · cases e
    simp [World.frozen?, hg]
/-- the roles with one more block -/
def role (r : Roles) (v : Value) (x : Nat × Nat) : Roles := fun k => if v.ownBlock = some k then x else r k
/-- a bucket's chain turns into another one: w1 holds the new chain, the bucket is written then -/
theorem Tb.put {w w1 : World} {r : Roles} {t g cap n i : Nat} {T : Dc.Tab ByteArray Nat} {c c' : List Ent} {v' : Value} (h : Tb w r t (.slice (some ⟨g, 0, none⟩) n cap) T) (hi : T[i]? = some c) (hg : w1.heap[g]? = w.heap[g]?)
    (hk : ∀ k j, k < w.heap.size → r k = (3 + t, j) → j ≠ i → w1.heap[k]? = w.heap[k]?) (hv : Chn w1 v' c') (hb : ∀ k, v'.ownBlock = some k → r k = (3 + t, i) ∨ w.heap.size ≤ k) :
    Tb (w1.setCell ⟨g, i, none⟩ v') (role r v' (3 + t, i)) t (.slice (some ⟨g, 0, none⟩) n cap) (T.set i c') := by
  obtain ⟨vs, h1, h2, h3⟩ := h
  have hrg := h2 g rfl
  have hgl := own_lt h1 (k := g) rfl
  have hne : v'.ownBlock ≠ some g := by
    intro e
    rcases hb g e with h | h
    · rw [hrg] at h; simp at h
    · omega
  have hil : i < T.length := (List.getElem?_eq_some_iff.1 hi).1
  refine ⟨vs.set i v', ?_, ?_, ?_⟩
  · obtain ⟨l1, l2⟩ := h1
    refine ⟨by rw [List.length_set, l1, List.length_set], .inr ?_⟩
    rcases l2 with ⟨e, _⟩ | ⟨g', cap', cur, e, _, hh, hc, hm, hs, ht⟩
    · cases e
    · cases e
      rw [List.length_set]
      exact ⟨g, cap, _, rfl, Nat.zero_le _, cells_setCell (hg.trans hh), hc, hm, by simpa using hs, take_set ht⟩
  · intro k e
    cases e
    unfold role
    rw [if_neg hne]
    exact hrg
  · intro j d hd
    rw [List.getElem?_set] at hd
    by_cases hij : i = j
    · subst hij
      rw [if_pos rfl, if_pos hil] at hd
      cases hd
      have hvl : i < vs.length := by
        obtain ⟨v, e1, _⟩ := h3 i c hi
        exact (List.getElem?_eq_some_iff.1 e1).1
      refine ⟨v', by simp [hvl], own_kept hv (fun k e => Below.heap_setCell _ _ _ _ (fun e' => hne (by rw [e]; simp at e'; rw [e']))), fun k e => ?_⟩
      unfold role
      rw [if_pos e]
    · rw [if_neg hij] at hd
      obtain ⟨v, e1, e2, e3⟩ := h3 j d hd
      have hkl : ∀ k, v.ownBlock = some k → k ≠ g ∧ v'.ownBlock ≠ some k := by
        intro k e
        have hl := own_lt e2 e
        refine ⟨fun e' => ?_, fun e' => ?_⟩
        · have := e3 k e
          rw [e', hrg] at this
          simp at this
        · rcases hb k e' with h | h
          · rw [e3 k e] at h; simp at h; omega
          · omega
      refine ⟨v, by rw [List.getElem?_set_ne hij]; exact e1, own_kept e2 (fun k e => ?_), fun k e => ?_⟩
      · rw [Below.heap_setCell _ _ _ _ (hkl k e).1]
        exact hk k j (own_lt e2 e) (e3 k e) (fun h => hij h.symm)
      · unfold role
        rw [if_neg (hkl k e).2]
        exact e3 k e
end Go.Proofs.Ytapehjlpiobeaaa
