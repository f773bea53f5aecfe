/-
  Contracts over this program: a chain is gone through from its head on (slices.Backward).
-/
import Derived.Test.YthmmblohfjmbcaaGreatDraws
import Derived.Below
import Derived.OwnWalk
import Derived.Laws.AppendOwn
import Derived.Deep.AppendLies
import Derived.Deep.RegionHeld3
import Derived.Deep.Heap
import Derived.Deep.LoopGhost
import Derived.Shelf.Abstract
import Derived.RangeFuncNested
import Derived.StillTactics
import Derived.RangeFuncBound
import Derived.RangeFuncCalls
import Derived.RangeFuncLeaves
import Derived.Shelf.RegionOpen
import Derived.WalkKit
import Derived.OwnWalkIn
import Derived.TacticsInMore
import Derived.LoopNIn
import Derived.LoopIn
/-
  What the program's memory holds of a table: its struct, its two rows of buckets, its chains; each block has one role.
-/
namespace Go.Proofs.YthmmblohfjmbcaaGreat.DP
open Go.RowKit
abbrev Ent : Type := ByteArray × Option Addr
abbrev Roles : Type := Nat → Nat × Nat
/-- the cells of an entry, of a chain (its head lies last) -/
def enE (e : Ent) : List Value := [.string e.1, .pointer e.2]
def enC (c : List Ent) : List Value := c.reverse.flatMap enE
theorem enC_len (c : List Ent) : (enC c).length = c.length * 2 := by
  unfold enC
  induction c with
  | nil => rfl
  | cons e c ih => rw [List.reverse_cons, List.flatMap_append, List.length_append, ih]; simp [enE]; omega
theorem enC_cons (e : Ent) (c : List Ent) : enC (e :: c) = enC c ++ enE e := by
  unfold enC; rw [List.reverse_cons, List.flatMap_append]; simp
/-- a chain lies in a slice -/
def Chn (w : World) (v : Value) (c : List Ent) : Prop := w.ownsRow 0 139 2 v c.length (enC c)
/-- a row of buckets lies in a slice; t: 0 old, 1 young -/
def Tb (w : World) (r : Roles) (t : Nat) (tv : Value) (T : Dc.Tab ByteArray (Option Addr)) : Prop :=
  ∃ vs : List Value, w.ownsRow 0 136 1 tv T.length vs ∧ (∀ k, tv.ownBlock = some k → r k = (1 + t, 0)) ∧
    ∀ i c, T[i]? = some c → ∃ v, vs[i]? = some v ∧ Chn w v c ∧ ∀ k, v.ownBlock = some k → r k = (3 + t, i)
/-- a dict lies in block b; n: what it counts as its keys -/
def Dct (w : World) (r : Roles) (b seed n : Nat) (s : Dc.St ByteArray (Option Addr)) : Prop :=
  (∀ k, r k ≠ (0, 0) → k < w.heap.size) ∧ r b = (5, 0) ∧ ∃ ov yv, w.heap[b]? = some (.cells #[.int .u64 seed, .int .i64 n, ov, yv, .int .i64 s.pos] 77 (0, 0)) ∧ Tb w r 0 ov s.old ∧ Tb w r 1 yv s.young
/-- nothing has turned but the dict's own blocks, and new ones -/
def Fr (w : World) (r : Roles) (w' : World) (r' : Roles) : Prop :=
  (w'.os = w.os ∧ w'.tape = w.tape ∧ w'.output = w.output) ∧ w.heap.size ≤ w'.heap.size ∧ ∀ k, k < w.heap.size → r k = (0, 0) → w'.heap[k]? = w.heap[k]? ∧ r' k = (0, 0)
theorem Fr.refl (w : World) (r : Roles) : Fr w r w r := ⟨⟨rfl, rfl, rfl⟩, Nat.le_refl _, fun _ _ h => ⟨rfl, h⟩⟩
theorem Fr.trans {w w1 w2 : World} {r r1 r2 : Roles} (h : Fr w r w1 r1) (g : Fr w1 r1 w2 r2) : Fr w r w2 r2 := by
  obtain ⟨⟨a1, a2, a3⟩, a4, a5⟩ := h
  obtain ⟨⟨b1, b2, b3⟩, b4, b5⟩ := g
  refine ⟨⟨b1.trans a1, b2.trans a2, b3.trans a3⟩, Nat.le_trans a4 b4, fun k hk hr => ?_⟩
  obtain ⟨c1, c2⟩ := a5 k hk hr
  obtain ⟨d1, d2⟩ := b5 k (Nat.lt_of_lt_of_le hk a4) c2
  exact ⟨d1.trans c1, d2⟩
theorem Fr.below {w w' : World} {r r' : Roles} {B : Nat} (h : Fr w r w' r') (hB : B ≤ w.heap.size) (hr : ∀ k, k < B → r k = (0, 0)) : Below B w w' :=
  ⟨h.1.1, h.1.2.1, h.1.2.2, h.2.1, fun k hk => (h.2.2 k (by omega) (hr k hk)).1⟩
theorem Fr.of_below {w w' : World} {r : Roles} (h : Below w.heap.size w w') : Fr w r w' r := ⟨⟨h.os, h.tape, h.output⟩, h.size, fun k hk hr => ⟨h.block k hk, hr⟩⟩
theorem own_kept {w w' : World} {B e s : Nat} {v : Value} {n : Nat} {xs : List Value} (h : w.ownsRow B e s v n xs) (hk : ∀ k, v.ownBlock = some k → w'.heap[k]? = w.heap[k]?) : w'.ownsRow B e s v n xs := by
  refine ⟨h.1, ?_⟩
  rcases h.2 with hn | ⟨g, cap, cur, rfl, hb, hgg, rest⟩
  · exact .inl hn
  · exact .inr ⟨g, cap, cur, rfl, hb, by rw [hk g rfl]; exact hgg, rest⟩
theorem own_lt {w : World} {B e s : Nat} {v : Value} {n : Nat} {xs : List Value} (h : w.ownsRow B e s v n xs) {k : Nat} (hk : v.ownBlock = some k) : k < w.heap.size := (h.lt k hk).2
theorem Tb.kept {w w' : World} {r r' : Roles} {t : Nat} {tv : Value} {T : Dc.Tab ByteArray (Option Addr)} (h : Tb w r t tv T) (hk : ∀ k, k < w.heap.size → ((r k).1 = 1 + t ∨ (r k).1 = 3 + t) → w'.heap[k]? = w.heap[k]? ∧ r' k = r k) : Tb w' r' t tv T := by
  obtain ⟨vs, h1, h2, h3⟩ := h
  refine ⟨vs, own_kept h1 (fun k e => (hk k (own_lt h1 e) (.inl (by rw [h2 k e]))).1), fun k e => by rw [(hk k (own_lt h1 e) (.inl (by rw [h2 k e]))).2]; exact h2 k e, fun i c hc => ?_⟩
  obtain ⟨v, e1, e2, e3⟩ := h3 i c hc
  exact ⟨v, e1, own_kept e2 (fun k e => (hk k (own_lt e2 e) (.inr (by rw [e3 k e]))).1), fun k e => by rw [(hk k (own_lt e2 e) (.inr (by rw [e3 k e]))).2]; exact e3 k e⟩
/-- a dict whose blocks have not turned is as it was -/
theorem Dct.kept {w w' : World} {r : Roles} {b seed n : Nat} {s : Dc.St ByteArray (Option Addr)} (h : Dct w r b seed n s) (hs : w.heap.size ≤ w'.heap.size) (hk : ∀ k, k < w.heap.size → r k ≠ (0, 0) → w'.heap[k]? = w.heap[k]?) : Dct w' r b seed n s := by
  obtain ⟨h1, h2, ov, yv, h3, h4, h5⟩ := h
  refine ⟨fun k hr => Nat.lt_of_lt_of_le (h1 k hr) hs, h2, ov, yv, ?_, h4.kept (fun k hl hr => ⟨hk k hl (fun e => ?_), rfl⟩), h5.kept (fun k hl hr => ⟨hk k hl (fun e => ?_), rfl⟩)⟩
  · rw [hk b (h1 b (by rw [h2]; simp)) (by rw [h2]; simp)]; exact h3
  · rw [e] at hr; simp at hr
  · rw [e] at hr; simp at hr
theorem Dct.below {w w' : World} {r : Roles} {b seed n : Nat} {s : Dc.St ByteArray (Option Addr)} (h : Dct w r b seed n s) (hb : Below w.heap.size w w') : Dct w' r b seed n s := h.kept hb.size (fun k hk _ => hb.block k hk)
/-- the struct's block turns into another one of its kind -/
theorem cells_setCell {w : World} {b i : Nat} {cur : Array Value} {t : TypeId} {fr : Nat × Nat} {u : Value} (h : w.heap[b]? = some (.cells cur t fr)) : (w.setCell ⟨b, i, none⟩ u).heap[b]? = some (.cells (cur.setIfInBounds i u) t fr) := by
  have hlt := (Array.getElem?_eq_some_iff.1 h).1
  simp [World.setCell, Array.getElem?_modify, h]
theorem take_set {cur : Array Value} {n i : Nat} {u : Value} {vs : List Value} (h : cur.toList.take n = vs) : (cur.setIfInBounds i u).toList.take n = vs.set i u := by
  rw [Array.toList_setIfInBounds, List.take_set, h]
theorem Tb.form {w : World} {r : Roles} {t : Nat} {tv : Value} {T : Dc.Tab ByteArray (Option Addr)} (h : Tb w r t tv T) (hn : 0 < T.length) :
    ∃ g cap, tv = .slice (some ⟨g, 0, none⟩) T.length cap ∧ r g = (1 + t, 0) ∧ g < w.heap.size := by
  obtain ⟨vs, h1, h2, h3⟩ := h
  obtain ⟨g, cap, rfl, _, hg⟩ := h1.form hn
  exact ⟨g, cap, rfl, h2 g rfl, hg⟩
theorem Tb.empty {w : World} {r : Roles} {t : Nat} {tv : Value} (h : Tb w r t tv []) : ∃ ao cap, tv = .slice ao 0 cap := by
  obtain ⟨vs, h1, h2, h3⟩ := h
  rcases h1.2 with ⟨rfl, _⟩ | ⟨g, cap, cur, rfl, _⟩
  · exact ⟨_, _, rfl⟩
  · exact ⟨_, _, rfl⟩
/-- a bucket's chain, where it lies -/
theorem Tb.at {w : World} {r : Roles} {t : Nat} {g cap n : Nat} {T : Dc.Tab ByteArray (Option Addr)} {i : Nat} {c : List Ent} (h : Tb w r t (.slice (some ⟨g, 0, none⟩) n cap) T) (hi : T[i]? = some c) :
    ∃ v, w.cell? ⟨g, i, none⟩ = some v ∧ Chn w v c ∧ ∀ k, v.ownBlock = some k → r k = (3 + t, i) := by
  obtain ⟨vs, h1, h2, h3⟩ := h
  obtain ⟨v, e1, e2, e3⟩ := h3 i c hi
  refine ⟨v, ?_, e2, e3⟩
  have := h1.cells (g := g) rfl i v e1
  rwa [show (⟨g, 0, none⟩ : Addr).add i = ⟨g, i, none⟩ by unfold Addr.add; split <;> simp_all] at this
theorem Tb.free {w : World} {r : Roles} {t : Nat} {g cap n : Nat} {T : Dc.Tab ByteArray (Option Addr)} (h : Tb w r t (.slice (some ⟨g, 0, none⟩) n cap) T) (i : Nat) : w.frozen? ⟨g, i, none⟩ = false := by
  obtain ⟨vs, h1, h2, h3⟩ := h
  rcases h1.2 with ⟨h, _⟩ | ⟨g', cap', cur, e, _, hg, _⟩
  · cases h
  · cases e
    simp [World.frozen?, hg]
/-- the roles with one more block -/
def role (r : Roles) (v : Value) (x : Nat × Nat) : Roles := fun k => if v.ownBlock = some k then x else r k
/-- a bucket's chain turns into another one: w1 holds the new chain, the bucket is written then -/
theorem Tb.put {w w1 : World} {r : Roles} {t g cap n i : Nat} {T : Dc.Tab ByteArray (Option Addr)} {c c' : List Ent} {v' : Value} (h : Tb w r t (.slice (some ⟨g, 0, none⟩) n cap) T) (hi : T[i]? = some c) (hg : w1.heap[g]? = w.heap[g]?)
    (hk : ∀ k j, k < w.heap.size → r k = (3 + t, j) → j ≠ i → w1.heap[k]? = w.heap[k]?) (hv : Chn w1 v' c') (hb : ∀ k, v'.ownBlock = some k → r k = (3 + t, i) ∨ w.heap.size ≤ k) :
    Tb (w1.setCell ⟨g, i, none⟩ v') (role r v' (3 + t, i)) t (.slice (some ⟨g, 0, none⟩) n cap) (T.set i c') := by
  obtain ⟨vs, h1, h2, h3⟩ := h
  have hrg := h2 g rfl
  have hgl := own_lt h1 (k := g) rfl
  have hne : v'.ownBlock ≠ some g := by
    intro e
    rcases hb g e with h | h
    · rw [hrg] at h; simp at h
    · omega
  have hil : i < T.length := (List.getElem?_eq_some_iff.1 hi).1
  refine ⟨vs.set i v', ?_, ?_, ?_⟩
  · obtain ⟨l1, l2⟩ := h1
    refine ⟨by rw [List.length_set, l1, List.length_set], .inr ?_⟩
    rcases l2 with ⟨e, _⟩ | ⟨g', cap', cur, e, _, hh, hc, hm, hs, ht⟩
    · cases e
    · cases e
      rw [List.length_set]
      exact ⟨g, cap, _, rfl, Nat.zero_le _, cells_setCell (hg.trans hh), hc, hm, by simpa using hs, take_set ht⟩
  · intro k e
    cases e
    unfold role
    rw [if_neg hne]
    exact hrg
  · intro j d hd
    rw [List.getElem?_set] at hd
    by_cases hij : i = j
    · subst hij
      rw [if_pos rfl, if_pos hil] at hd
      cases hd
      have hvl : i < vs.length := by
        obtain ⟨v, e1, _⟩ := h3 i c hi
        exact (List.getElem?_eq_some_iff.1 e1).1
      refine ⟨v', by simp [hvl], own_kept hv (fun k e => Below.heap_setCell _ _ _ _ (fun e' => hne (by rw [e]; simp at e'; rw [e']))), fun k e => ?_⟩
      unfold role
      rw [if_pos e]
    · rw [if_neg hij] at hd
      obtain ⟨v, e1, e2, e3⟩ := h3 j d hd
      have hkl : ∀ k, v.ownBlock = some k → k ≠ g ∧ v'.ownBlock ≠ some k := by
        intro k e
        have hl := own_lt e2 e
        refine ⟨fun e' => ?_, fun e' => ?_⟩
        · have := e3 k e
          rw [e', hrg] at this
          simp at this
        · rcases hb k e' with h | h
          · rw [e3 k e] at h; simp at h; omega
          · omega
      refine ⟨v, by rw [List.getElem?_set_ne hij]; exact e1, own_kept e2 (fun k e => ?_), fun k e => ?_⟩
      · rw [Below.heap_setCell _ _ _ _ (hkl k e).1]
        exact hk k j (own_lt e2 e) (e3 k e) (fun h => hij h.symm)
      · unfold role
        rw [if_neg (hkl k e).2]
        exact e3 k e
end Go.Proofs.YthmmblohfjmbcaaGreat.DP

/-
  Contracts over this program: where a key stands in a chain; which bucket a hash has.
-/
namespace Go.Proofs.YthmmblohfjmbcaaGreat.DP
open Go.RowKit Go.Shelf
/-- r is the place of a key in a chain's slice, or -1 -/
def Found (c : List Ent) (key : ByteArray) (r : Int) : Prop :=
  (r = -1 ∧ ∀ e ∈ c, e.1 ≠ key) ∨ ∃ (p : Nat) (x : Option Addr), r = p ∧ p < c.length ∧ c.reverse[p]? = some (key, x)
theorem enC_at {c : List Ent} {p : Nat} {e : Ent} (h : c.reverse[p]? = some e) : (enC c)[p * 2]? = some (.string e.1) ∧ (enC c)[p * 2 + 1]? = some (.pointer e.2) := by
  unfold enC
  generalize c.reverse = l at h
  induction l generalizing p with
  | nil => simp at h
  | cons a l ih =>
    rw [List.flatMap_cons]
    cases p with
    | zero => simp at h; subst h; simp [enE]
    | succ p =>
      have := ih (p := p) (by simpa using h)
      rw [List.getElem?_append_right (by simp [enE]; omega), List.getElem?_append_right (by simp [enE]; omega)]
      have e1 : (p + 1) * 2 - (enE a).length = p * 2 := by simp [enE]; omega
      have e2 : (p + 1) * 2 + 1 - (enE a).length = p * 2 + 1 := by simp [enE]; omega
      rw [e1, e2]
      exact this
theorem Chn.at {w : World} {g n cap p : Nat} {c : List Ent} {e : Ent} (h : Chn w (.slice (some ⟨g, 0, none⟩) n cap) c) (hp : c.reverse[p]? = some e) :
    w.cell? ⟨g, p * 2, none⟩ = some (.string e.1) ∧ w.cell? ⟨g, p * 2 + 1, none⟩ = some (.pointer e.2) := by
  have add : ∀ i, (⟨g, 0, none⟩ : Addr).add i = ⟨g, i, none⟩ := by intro i; unfold Addr.add; split <;> simp_all
  have h1 := h.cells (g := g) rfl _ _ (enC_at hp).1
  have h2 := h.cells (g := g) rfl _ _ (enC_at hp).2
  rw [add] at h1 h2
  exact ⟨h1, h2⟩
set_option maxHeartbeats 400000 in
/-- the test on an entry: is its key the one that is sought? -/
theorem test_any (w : World) (B : Nat) (key : ByteArray) (e : Ent) (hc : w.cell? ⟨B, 0, none⟩ = some (.string key)) :
    Calls Tryz.prog 118 #[.agg #[.string e.1, .pointer e.2], .pointer (some ⟨B, 0, none⟩)] w fun r w' => r = .returned (.bool (e.1.toList == key.toList)) ∧ w' = w.alloc (.cells #[.string e.1, .pointer e.2] 139) := by
  have hlt := World.block_lt_of_cell? w _ hc
  have hne : ¬ B = w.heap.size := by simp at hlt; omega
  go_enter Tryz.func118, Tryz.ntmps118
  go_wp2
  go_ret
  exact ⟨rfl, rfl⟩
theorem Chn.form {w : World} {v : Value} {c : List Ent} (h : Chn w v c) : (v = .slice none 0 0 ∧ c = []) ∨ ∃ g cap, v = .slice (some ⟨g, 0, none⟩) c.length cap ∧ g < w.heap.size ∧ c.length ≤ cap ∧ cap ≤ maxLen := by
  rcases h.2 with ⟨rfl, h0⟩ | ⟨g, cap, cur, rfl, _, hg, h1, h2, _⟩
  · exact .inl ⟨rfl, List.length_eq_zero_iff.1 h0⟩
  · exact .inr ⟨g, cap, rfl, (Array.getElem?_eq_some_iff.1 hg).1, h1, h2⟩
theorem rev_some {c : List Ent} {k : Nat} (h : k < c.length) : ∃ e, c.reverse[k]? = some e := ⟨c.reverse[k]'(by simpa using h), List.getElem?_eq_getElem (by simpa using h)⟩
theorem bytes_eq {a b : ByteArray} (h : a.toList = b.toList) : a = b := by
  have h' : a.data.toList = b.data.toList := by rwa [ByteArray.toList_eq, ByteArray.toList_eq] at h
  cases a; cases b; congr 1
  exact Array.toList_inj.1 h'
theorem key_no {c : List Ent} {key : ByteArray} (h : ∀ j e, j < c.length → c.reverse[j]? = some e → (e.1.toList == key.toList) = false) : ∀ e ∈ c, e.1 ≠ key := by
  intro e he hk
  obtain ⟨j, hj⟩ := List.getElem?_of_mem (List.mem_reverse.2 he)
  have hl : j < c.length := by have := (List.getElem?_eq_some_iff.1 hj).1; simpa using this
  have := h j e hl hj
  rw [hk] at this
  simp at this
set_option maxHeartbeats 1000000 in
theorem index_any (w : World) (v : Value) (c : List Ent) (key : ByteArray) (B : Nat) (hc : w.cell? ⟨B, 0, none⟩ = some (.string key)) (h : Chn w v c) :
    Calls Tryz.prog 117 #[v, .func (.func 118) #[] #[.pointer (some ⟨B, 0, none⟩)]] w fun e w' => (∃ r : Int, e = .returned (.int .i64 r) ∧ Found c key r) ∧ Below w.heap.size w w' := by
  have eg : ∀ args w, (callFunc 118 args).run Tryz.prog w = .ok (.enter 118 args) w := enters_of Tryz.func118 (by kernel_rfl) rfl
  have hB := World.block_lt_of_cell? w _ hc
  rcases h.form with ⟨rfl, rfl⟩ | ⟨g, cap, rfl, hg, hcap, hm⟩
  · go_enter Tryz.func117, Tryz.ntmps117
    go_wp2
    go_loopg [5, 8] 0 (fun gg _ s8 wr => s8 = .int .i64 0 ∧ wr = w)
    case atStart => exact ⟨rfl, rfl⟩
    case round =>
      obtain ⟨rfl, rfl⟩ := hrel
      go_wp2
      go_ret
      exact ⟨⟨-1, rfl, .inl ⟨rfl, by simp⟩⟩, Below.refl _ _⟩
  · have hrow : Kept (∀ (W : World), Below w.heap.size w W → ∀ j e, c.reverse[j]? = some e → W.cell? ⟨g, j * 2, none⟩ = some (.string e.1) ∧ W.cell? ⟨g, j * 2 + 1, none⟩ = some (.pointer e.2)) := fun W hW j e he => by
      obtain ⟨a, b⟩ := h.at he
      exact ⟨(hW.cell (p := ⟨g, j * 2, none⟩) hg).trans a, (hW.cell (p := ⟨g, j * 2 + 1, none⟩) hg).trans b⟩
    have HC := keep hc
    clear h hc
    obtain ⟨n, hn⟩ : ∃ n, c.length = n := ⟨_, rfl⟩
    rw [hn] at hcap ⊢
    have HN := keep hn
    clear hn
    unfold maxLen at hm
    go_enter Tryz.func117, Tryz.ntmps117
    go_wp2
    go_loopg [5, 8] n (fun gg _ s8 wr => ∃ kk : Nat, kk ≤ n ∧ n - kk ≤ gg ∧ s8 = .int .i64 kk ∧ Kept (Below w.heap.size w wr) ∧ Kept (∀ j e, j < kk → c.reverse[j]? = some e → (e.1.toList == key.toList) = false))
    case atStart => exact ⟨0, Nat.zero_le _, by omega, rfl, Below.refl _ w, fun j e hj => absurd hj (Nat.not_lt_zero _)⟩
    case round =>
      obtain ⟨kk, hkk, hg2, rfl, BW, A⟩ := hrel
      by_cases hlt : kk < n
      · have hltz : (kk : Int) < (n : Int) := by omega
        obtain ⟨e, he⟩ := rev_some (c := c) (k := kk) (by rw [HN.out]; exact hlt)
        obtain ⟨l1, l2⟩ := hrow.out wr BW.out kk e he
        have HE := keep he
        have hcall := test_any wr B key e ((BW.out.cell (p := ⟨B, 0, none⟩) hB).trans HC.out)
        clear he
        obtain ⟨e1, e2⟩ := e
        have l1 : wr.cell? ⟨g, kk * 2, none⟩ = some (.string e1) := l1
        have l2 : wr.cell? ⟨g, kk * 2 + 1, none⟩ = some (.pointer e2) := l2
        dsimp only at hcall
        cases hq : (e1.toList == key.toList) with
        | true =>
          rw [hq] at hcall
          have HQ := keep hq
          clear hq
          go_wp2_with fail
          refine hcall.mono ?_
          rintro r w' ⟨rfl, rfl⟩
          go_wp2
          go_ret
          refine ⟨⟨kk, rfl, .inr ⟨kk, e2, rfl, by rw [HN.out]; exact hlt, ?_⟩⟩, BW.out.alloc BW.out.size _⟩
          have hk := bytes_eq (a := e1) (b := key) (by simpa using HQ.out)
          rw [HE.out, hk]
        | false =>
          rw [hq] at hcall
          have HQ := keep hq
          clear hq
          go_wp2_with fail
          refine hcall.mono ?_
          rintro r w' ⟨rfl, rfl⟩
          go_wp2
          go_roundg (n - (kk + 1))
          case measure => omega
          case rel =>
            refine ⟨kk + 1, by omega, by omega, by go_num, BW.out.alloc BW.out.size _, (show Kept _ from fun j e' hj he' => ?_)⟩
            by_cases e : j = kk
            · subst e
              rw [HE.out] at he'
              cases he'
              exact HQ.out
            · exact A.out j e' (by omega) he'
      · have hltz : ¬ (kk : Int) < (n : Int) := by omega
        have : kk = n := by omega
        subst this
        go_wp2
        go_ret
        exact ⟨⟨-1, rfl, .inl ⟨rfl, key_no (fun j e hj he => A.out j e (by rw [← HN.out]; exact hj) he)⟩⟩, BW.out⟩
set_option maxHeartbeats 400000 in
theorem cfind_any (w : World) (v : Value) (c : List Ent) (key : ByteArray) (h : Chn w v c) :
    Calls Tryz.prog 107 #[v, .string key] w fun e w' => (∃ r : Int, e = .returned (.int .i64 r) ∧ Found c key r) ∧ Below w.heap.size w w' := by
  have mI := index_any (w.alloc (.cells #[.string key] 9)) v c key w.heap.size (by simp) (h.alloc _)
  have hmf : ∀ (fn : Fn) (first cap : Array Value) (w : World), (Instr.makeFunc fn first cap).run Tryz.prog w = .ok (.func fn first cap) w := fun _ _ _ _ => rfl
  clear h
  go_enter Tryz.func107, Tryz.ntmps107
  go_wp2_with fail
  refine mI.mono ?_
  rintro e w' ⟨⟨r, rfl, hf⟩, hb⟩
  go_wp2
  go_ret
  exact ⟨⟨r, rfl, hf⟩, ((Below.refl _ w).alloc (Nat.le_refl _) _).trans (hb.mono (by simp))⟩
set_option maxHeartbeats 400000 in
theorem of_any (w : World) (ao : Option Addr) (n cap x : Nat) (hn : 0 < n) (hm : n ≤ maxLen) (hx : x < Dw.M) :
    Calls Tryz.prog 106 #[.slice ao n cap, .int .u64 x] w fun e w' => e = .returned (.int .i64 (x % n : Nat)) ∧ w' = w := by
  unfold maxLen at hm
  have hx' := Dw.le_of hx
  have h1 : IntKind.u64.wrap (n : Int) = (n : Int) := by rw [IntKind.wrap_u64]; omega
  have h2 : ((n : Int) == 0) = false := beq_eq_false_iff_ne.2 (by omega)
  have h2' : 1 ≤ (n : Int) := by omega
  have h3 : x % n < n := Nat.mod_lt _ hn
  clear hx
  go_enter Tryz.func106, Tryz.ntmps106
  go_wp2
  go_ret
  exact ⟨ret_u (by simp), rfl⟩
end Go.Proofs.YthmmblohfjmbcaaGreat.DP

/-
  Contracts over this program: an entry goes to the head of its bucket's chain.
-/
namespace Go.Proofs.YthmmblohfjmbcaaGreat.DP
open Go.RowKit Go.Shelf
theorem info_ent : (Tryz.prog.info? 139).map (fun i => (i.zero, i.size, i.bytes)) = some (some (.agg #[.string .empty, .pointer none]), 2, 24) := by kernel_rfl
/-- the blocks of one table alone have turned, and new ones have come -/
def Tr (t : Nat) (w : World) (r : Roles) (w' : World) (r' : Roles) : Prop :=
  (w'.os = w.os ∧ w'.tape = w.tape ∧ w'.output = w.output) ∧ w.heap.size ≤ w'.heap.size ∧ (∀ k, k < w.heap.size → (r k).1 ≠ 1 + t → (r k).1 ≠ 3 + t → w'.heap[k]? = w.heap[k]? ∧ r' k = r k) ∧ (∀ k, r' k ≠ (0, 0) → r k ≠ (0, 0) ∨ (w.heap.size ≤ k ∧ k < w'.heap.size)) ∧ ∀ (k : Nat) (o : Obj), w.heap[k]? = some o → o.isCells = false → w'.heap[k]? = some o
def hs (seed : Nat) (k : ByteArray) : Nat := Dw.hsh seed k.data.toList
/-- h is what draw.Hash tells at a seed -/
def HashIs (seed : Nat) (h : ByteArray → Nat) : Prop := ∀ k : ByteArray, k.size ≤ maxLen → h k < Dw.M ∧ ∀ w, Calls Tryz.prog 105 #[.int .u64 seed, .string k] w fun e w' => e = .returned (.int .u64 (h k : Nat)) ∧ w' = w
theorem hs_is (seed : Nat) (hsd : seed < Dw.M) : HashIs seed (hs seed) := by
  intro k hk
  unfold hs
  exact ⟨Dw.hsh_lt _ _, fun w => hash_any seed k w hk hsd⟩
/-- the new chain is written -/
theorem push_put {w w3 : World} {r : Roles} {t g cap gg cap' : Nat} {T : Dc.Tab ByteArray (Option Addr)} {i : Nat} {c : List Ent} {v : Value} {e : Ent} (hT : Tb w r t (.slice (some ⟨g, 0, none⟩) T.length cap) T) (hi : T[i]? = some c) (hcv : Chn w v c) (hv : ∀ k, v.ownBlock = some k → r k = (3 + t, i)) (hs : w.heap.size + 2 ≤ w3.heap.size) (ho : w3.os = w.os ∧ w3.tape = w.tape ∧ w3.output = w.output) (hk : ∀ k, k < w.heap.size → some k ≠ v.ownBlock → w3.heap[k]? = w.heap[k]?)
    (hown : w3.ownsRow 0 139 2 (.slice (some ⟨gg, 0, none⟩) (c.length + 1) cap') (c.length + 1) (enC c ++ enE e)) (hat : v.ownBlock = some gg ∨ gg = w.heap.size + 2) (hlt : gg < w3.heap.size) :
    Tb (w3.setCell ⟨g, i, none⟩ (.slice (some ⟨gg, 0, none⟩) (c.length + 1) cap')) (role r (.slice (some ⟨gg, 0, none⟩) (c.length + 1) cap') (3 + t, i)) t (.slice (some ⟨g, 0, none⟩) T.length cap) (T.set i (e :: c)) ∧
      Tr t w r (w3.setCell ⟨g, i, none⟩ (.slice (some ⟨gg, 0, none⟩) (c.length + 1) cap')) (role r (.slice (some ⟨gg, 0, none⟩) (c.length + 1) cap') (3 + t, i)) := by
  obtain ⟨vs, q1, q2, q3⟩ := id hT
  have hrg := q2 g rfl
  have hgl := own_lt q1 (k := g) rfl
  have hgv : some g ≠ v.ownBlock := fun h => by have := hv g h.symm; rw [hrg] at this; simp at this
  refine ⟨hT.put hi (hk g hgl hgv) (fun k j hl hrk hj => hk k hl (fun h => ?_)) (by unfold Chn; rw [enC_cons]; exact hown) (fun k h => ?_), ⟨ho, by simp [World.setCell]; omega, fun k hl h1 h3 => ?_, fun k h => ?_, fun k o h1 h2 => ?_⟩⟩
  · have := hv k h.symm
    rw [hrk] at this
    simp at this
    exact hj this
  · obtain rfl : gg = k := by cases h; rfl
    rcases hat with h | h
    · exact .inl (hv gg h)
    · exact .inr (by omega)
  · have hkg : k ≠ g := fun h => h1 (by rw [h, hrg])
    have hkv : some k ≠ v.ownBlock := fun h => h3 (by rw [hv k h.symm])
    refine ⟨by rw [Below.heap_setCell _ _ _ _ hkg]; exact hk k hl hkv, ?_⟩
    unfold role
    rw [if_neg]
    intro h
    obtain rfl : gg = k := by cases h; rfl
    rcases hat with h | h
    · exact hkv h.symm
    · omega
  · unfold role at h
    split at h
    · rename_i hh
      obtain rfl : gg = k := by cases hh; rfl
      rcases hat with h' | h'
      · exact .inl (by rw [hv gg h']; simp)
      · exact .inr ⟨by omega, by simpa [World.setCell] using hlt⟩
    · exact .inl h
  · have hkl : k < w.heap.size := (Array.getElem?_eq_some_iff.1 h1).1
    have hkg : k ≠ g := fun e => by
      rcases q1.2 with ⟨e', _⟩ | ⟨g', cap', cur, e', _, hh, _⟩
      · cases e'
      · cases e'
        rw [e, hh] at h1
        cases h1
        cases h2
    have hkv : some k ≠ v.ownBlock := fun e => by
      rcases hcv.2 with ⟨rfl, _⟩ | ⟨g', cap', cur, rfl, _, hh, _⟩
      · cases e
      · cases e
        rw [hh] at h1
        cases h1
        cases h2
    rw [Below.heap_setCell _ _ _ _ hkg, hk k hkl hkv]
    exact h1
theorem push_is {h : ByteArray → Nat} {T : Dc.Tab ByteArray (Option Addr)} {e : Ent} {c : List Ent} (hc : T[h e.1 % T.length]? = some c) : Dc.push h T e = T.set (h e.1 % T.length) (e :: c) := by
  unfold Dc.push
  rw [List.modify_eq_set, hc]
  rfl
theorem two_new (w : World) (o1 o2 : Obj) : ((w.alloc o1).alloc o2).drew.heap[w.heap.size + 1]? = some o2 := by
  have := heap_alloc_new (w.alloc o1) o2
  rw [World.size_alloc] at this
  exact this
theorem two_cell {w : World} {a : Addr} {v : Value} (h : w.cell? a = some v) (o1 o2 : Obj) : ((w.alloc o1).alloc o2).drew.cell? a = some v := by
  have hl := World.block_lt_of_cell? w _ h
  rw [← h]
  refine World.cell?_of_block ?_
  show ((w.alloc o1).alloc o2).heap[a.block]? = w.heap[a.block]?
  rw [Below.heap_alloc _ _ _ (by simp; omega), Below.heap_alloc _ _ _ hl]
theorem two_frozen {w : World} {a : Addr} {v : Value} (h : w.cell? a = some v) (hf : w.frozen? a = false) (o1 o2 : Obj) : ((w.alloc o1).alloc o2).drew.frozen? a = false := by
  have hl := World.block_lt_of_cell? w _ h
  rw [← hf]
  refine World.frozen?_of_block ?_
  show ((w.alloc o1).alloc o2).heap[a.block]? = w.heap[a.block]?
  rw [Below.heap_alloc _ _ _ (by simp; omega), Below.heap_alloc _ _ _ hl]
theorem two_size {w w3 : World} {o1 o2 : Obj} {row : Option Nat} (h : ((w.alloc o1).alloc o2).drew.grownBy w3 row) : w.heap.size + 2 ≤ w3.heap.size := by
  have := h.size
  have e : ((w.alloc o1).alloc o2).drew.heap.size = w.heap.size + 2 := by show ((w.alloc o1).alloc o2).heap.size = _; simp
  omega
theorem two_block {w w3 : World} {o1 o2 : Obj} {row : Option Nat} (h : ((w.alloc o1).alloc o2).drew.grownBy w3 row) (k : Nat) (hk : k < w.heap.size) (hne : some k ≠ row) : w3.heap[k]? = w.heap[k]? := by
  have e : ((w.alloc o1).alloc o2).drew.heap.size = w.heap.size + 2 := by show ((w.alloc o1).alloc o2).heap.size = _; simp
  rw [h.block k (by omega) hne]
  show ((w.alloc o1).alloc o2).heap[k]? = _
  rw [Below.heap_alloc _ _ _ (by simp; omega), Below.heap_alloc _ _ _ hk]
theorem one_cell {w : World} {a : Addr} {v : Value} (h : w.cell? a = some v) (o1 : Obj) : (w.alloc o1).drew.cell? a = some v := by
  have hl := World.block_lt_of_cell? w _ h
  rw [← h]
  refine World.cell?_of_block ?_
  show (w.alloc o1).heap[a.block]? = w.heap[a.block]?
  rw [Below.heap_alloc _ _ _ hl]
/-- the entry's own box -/
def heldB (B : Nat) (e1 : ByteArray) (e2 : Option Addr) (w : World) : Prop := w.cell? ⟨B, 0, none⟩ = some (.string e1) ∧ w.cell? ⟨B, 1, none⟩ = some (.pointer e2)
theorem heldB_new (w : World) (e1 : ByteArray) (e2 : Option Addr) : heldB w.heap.size e1 e2 (w.alloc (.cells #[.string e1, .pointer e2] 139)).drew := by
  have h : (w.alloc (.cells #[.string e1, .pointer e2] 139)).drew.heap[w.heap.size]? = _ := heap_alloc_new w (.cells #[.string e1, .pointer e2] 139)
  exact ⟨by rw [cell_of_row _ _ _ _ _ _ h]; rfl, by rw [cell_of_row _ _ _ _ _ _ h]; rfl⟩
theorem heldB_kept {B : Nat} {e1 : ByteArray} {e2 : Option Addr} {w w' : World} (h : heldB B e1 e2 w) (hk : w'.heap[B]? = w.heap[B]?) : heldB B e1 e2 w' :=
  ⟨(World.cell?_of_block (w := w) (a := ⟨B, 0, none⟩) hk).trans h.1, (World.cell?_of_block (w := w) (a := ⟨B, 1, none⟩) hk).trans h.2⟩
theorem heldB_alloc {B : Nat} {e1 : ByteArray} {e2 : Option Addr} {w : World} (h : heldB B e1 e2 w) (o : Obj) : heldB B e1 e2 (w.alloc o) :=
  heldB_kept h (Below.heap_alloc _ _ _ (World.block_lt_of_cell? w _ h.1))
theorem heldB_set {B g i : Nat} {e1 : ByteArray} {e2 : Option Addr} {w : World} (h : heldB B e1 e2 w) (hne : ¬ g = B) (u : Value) : heldB B e1 e2 (w.setCell ⟨g, i, none⟩ u) :=
  heldB_kept h (Below.heap_setCell _ _ _ _ (fun e => hne e.symm))
theorem heldB_far {B : Nat} {e1 : ByteArray} {e2 : Option Addr} {w w' : World} {row : Option Nat} (h : heldB B e1 e2 w) (hg : w.grownBy w' row) (_ : True) (hne : row ≠ some B) : heldB B e1 e2 w' :=
  heldB_kept h (hg.block B (World.block_lt_of_cell? w _ h.1) (Ne.symm hne))
set_option maxRecDepth 100000 in
set_option maxHeartbeats 2000000 in
theorem push_any {h : ByteArray → Nat} {seed : Nat} (hH : HashIs seed h) (w : World) (r : Roles) (t g cap : Nat) (T : Dc.Tab ByteArray (Option Addr)) (e : Ent) (hT : Tb w r t (.slice (some ⟨g, 0, none⟩) T.length cap) T) (hn : 0 < T.length) (hm : T.length ≤ maxLen) (hk : e.1.size ≤ maxLen)
    (hr : ∀ k, r k ≠ (0, 0) → k < w.heap.size) (hlen : ∀ c ∈ T, c.length ≤ 2600000000000) :
    Calls Tryz.prog 84 #[.slice (some ⟨g, 0, none⟩) T.length cap, .int .u64 seed, .agg #[.string e.1, .pointer e.2]] w fun x w' => x = .returned (.tuple #[]) ∧ ∃ r', Tb w' r' t (.slice (some ⟨g, 0, none⟩) T.length cap) (Dc.push h T e) ∧ Tr t w r w' r' := by
  have hlt : h e.1 % T.length < T.length := Nat.mod_lt _ hn
  obtain ⟨c, hc⟩ : ∃ c, T[h e.1 % T.length]? = some c := ⟨_, List.getElem?_eq_getElem hlt⟩
  rw [push_is hc]
  obtain ⟨v, hv1, hv2, hv3⟩ := hT.at hc
  obtain ⟨vs, q1, q2, q3⟩ := id hT
  have hrg := q2 g rfl
  have hgl := own_lt q1 (k := g) rfl
  clear q1 q2 q3
  have hgv : v.ownBlock ≠ some g := fun h => by have := hv3 g h; rw [hrg] at this; simp at this
  have hcl := hlen c (List.mem_of_getElem? hc)
  have mH := (hH e.1 hk).2 (w.alloc (.cells #[.string e.1, .pointer e.2] 139))
  have mO := of_any (w.alloc (.cells #[.string e.1, .pointer e.2] 139)) (some ⟨g, 0, none⟩) T.length cap (h e.1) hn hm (hH e.1 hk).1
  have hfr := hT.free (h e.1 % T.length)
  have HPUT := keep (fun (w3 : World) (gg cap' : Nat) => push_put (w3 := w3) (gg := gg) (cap' := cap') (v := v) (e := e) hT hc hv2 hv3)
  obtain ⟨i0, hi0, hz0, hz1, hz2⟩ := info_parts info_ent
  have hvh : v.ownBlock ≠ some w.heap.size := fun h => by have := hr w.heap.size (by rw [hv3 _ h]; simp); omega
  have HV2 := keep hv2
  clear hT hlen hr hv3 hrg hc hk hm hv2 hH
  generalize h e.1 = x at *
  generalize hx : x % T.length = i at *
  clear hx
  have hi0' : (0 : Int) ≤ (i : Int) := Int.natCast_nonneg _
  have hi1 : (i : Int) < (T.length : Int) := by omega
  generalize T.length = n at *
  obtain ⟨e1, e2⟩ := e
  dsimp only at *
  have hne : ¬ g = w.heap.size := by omega
  go_enter Tryz.func84, Tryz.ntmps84
  go_wp2_with fail
  refine mH.mono ?_
  rintro _ w' ⟨rfl, hw'⟩
  subst hw'
  go_wp2_with fail
  refine mO.mono ?_
  rintro _ w' ⟨rfl, hw'⟩
  subst hw'
  clear mH mO hn hlt
  go_wp2_with fail
  refine wp_region_held_drew (S := heldB w.heap.size e1 e2) (by kernel_rfl) (heldB_new w e1 e2) (fun hHeld => ?_)
  refine wpAnyH_take (i := 0) (oi := { dst := some 13, op := _, type := _, pos := _, after := _, guard := _ }) (v := ?v1) rfl (by kernel_rfl) (by kernel_rfl) (by kernel_rfl) (fun _ _ _ h => h) (Or.inl ⟨by rfl, ?hy1⟩) (by assumption) ?rest1
  case hy1 => (intro w hSw; go_simp; try with_reducible rfl)
  try simp only [Act.put, List.setIfInBounds_toArray, List.set_cons_zero, List.set_cons_succ]
  refine wpAnyH_take (i := 1) (oi := { dst := some 14, op := _, type := _, pos := _, after := _, guard := _ }) (v := ?v2) rfl (by kernel_rfl) (by kernel_rfl) (by kernel_rfl) (fun _ _ _ h => h) (Or.inl ⟨by rfl, ?hy2⟩) (by assumption) ?rest2
  case hy2 => (intro w hSw; go_simp; try with_reducible rfl)
  try simp only [Act.put, List.setIfInBounds_toArray, List.set_cons_zero, List.set_cons_succ]
  refine wpAnyH_take (i := 2) (oi := { dst := some 15, op := _, type := _, pos := _, after := _, guard := _ }) (v := ?v3) rfl (by kernel_rfl) (by kernel_rfl) (by kernel_rfl) (fun _ _ _ h => h) (Or.inl ⟨by rfl, ?hy3⟩) (by assumption) ?rest3
  case hy3 => (intro w hSw; go_simp; try with_reducible rfl)
  try simp only [Act.put, List.setIfInBounds_toArray, List.set_cons_zero, List.set_cons_succ]
  refine wpAnyH_take (i := 3) (oi := { dst := some 16, op := _, type := _, pos := _, after := _, guard := _ }) (v := ?v4) rfl (by kernel_rfl) (by kernel_rfl) (by kernel_rfl) (fun _ _ _ h => h) (Or.inl ⟨by rfl, ?hy4⟩) (by assumption) ?rest4
  case hy4 => (intro w hSw; go_simp; try with_reducible rfl)
  try simp only [Act.put, List.setIfInBounds_toArray, List.set_cons_zero, List.set_cons_succ]
  refine wpAnyH_take (i := 4) (oi := { dst := some 17, op := _, type := _, pos := _, after := _, guard := _ }) (v := ?v5) rfl (by kernel_rfl) (by kernel_rfl) (by kernel_rfl) (fun _ _ _ h => h) (Or.inl ⟨by rfl, ?hy5⟩) (by assumption) ?rest5
  case hy5 => (intro w hSw; go_simp; try with_reducible rfl)
  try simp only [Act.put, List.setIfInBounds_toArray, List.set_cons_zero, List.set_cons_succ]
  refine wpAnyH_take (i := 6) (oi := { dst := some 19, op := _, type := _, pos := _, after := _, guard := _ }) (v := ?v6) rfl (by kernel_rfl) (by kernel_rfl) (by kernel_rfl) (fun _ _ _ h => h) (Or.inl ⟨by rfl, ?hy6⟩) (by assumption) ?rest6
  case hy6 => (intro w hSw; obtain ⟨q0, q1⟩ := hSw; go_simp; try with_reducible rfl)
  try simp only [Act.put, List.setIfInBounds_toArray, List.set_cons_zero, List.set_cons_succ]
  refine wpAnyH_ready (rs := [5, 7]) (by kernel_rfl) (by simp) ?_
  refine AllReadyH.cons (o := { dst := some 18, op := _, type := _, pos := _, after := _, guard := _ }) rfl (fun K hK => ?_) (AllReadyH.cons (o := { dst := some 20, op := _, type := _, pos := _, after := _, guard := _ }) rfl (fun K hK => ?_) AllReadyH.nil)
  · have hg1 := one_cell hv1 (.cells #[.string e1, .pointer e2] 139)
    go_simp
    refine hK.out _ _ hHeld (fun hHeld => ?_)
    try simp only [Act.put, List.setIfInBounds_toArray, List.set_cons_zero, List.set_cons_succ]
    refine wpAnyH_ready (rs := [7]) (by kernel_rfl) (by simp) ?_
    refine AllReadyH.cons (o := { dst := some 20, op := _, type := _, pos := _, after := _, guard := _ }) rfl (fun K hK => ?_) AllReadyH.nil
    go_simp
    refine hK.out _ _ (heldB_alloc hHeld _) (fun hHeld => ?_)
    try simp only [Act.put, List.setIfInBounds_toArray, List.set_cons_zero, List.set_cons_succ]
    refine wpAnyH_ready (rs := [8]) (by kernel_rfl) (by simp) ?_
    refine AllReadyH.cons (o := { dst := some 21, op := _, type := _, pos := _, after := _, guard := _ }) rfl (fun K hK => ?_) AllReadyH.nil
    refine step_append_lies _ (by rfl) _ _ _ (by rfl) 0 139 i0 _ 2 24 Tryz.underlying136 hi0 hz0 hz1 hz2 rfl (by omega) v c.length (enC c) (by rfl) (((HV2.out).alloc _).alloc _).drew
        ⟨w.heap.size + 1, 0, none⟩ 1 1 [.string e1, .pointer e2] (by rfl) (by rfl) (World.news_of_block (cs := #[.string e1, .pointer e2]) (t := 139) (fr := (0, 0)) (two_new w _ _)) (by simp [Value.oneCell'])
        (by omega) (by unfold maxLen; omega) (by omega) (by simp) (w.heap.size + 2) (by simp) ?_
    intro gg cap' w3 hown hgrow hat hlt3
    have hc3 : w3.cell? ⟨g, i, none⟩ = some v := (by rw [hgrow.cell_far _ (by simp; omega) (Ne.symm hgv)]; exact two_cell hv1 _ _)
    have hf3 : w3.frozen? ⟨g, i, none⟩ = false := (by rw [hgrow.frozen_far _ (by simp; omega) (Ne.symm hgv)]; exact two_frozen hv1 hfr _ _)
    refine hK.out _ _ (heldB_far hHeld hgrow (by simp) hvh) (fun hHeld => ?_)
    try simp only [Act.put, List.setIfInBounds_toArray, List.set_cons_zero, List.set_cons_succ]
    refine wpAnyH_take (i := 9) (oi := { dst := some 22, op := _, type := _, pos := _, after := _, guard := _ }) (v := ?v7) rfl (by kernel_rfl) (by kernel_rfl) (by kernel_rfl) (fun _ _ _ h => h) (Or.inl ⟨by rfl, ?hy7⟩) (by assumption) ?rest7
    case hy7 => (intro w hSw; go_simp; try with_reducible rfl)
    try simp only [Act.put, List.setIfInBounds_toArray, List.set_cons_zero, List.set_cons_succ]
    refine wpAnyH_ready (rs := [10]) (by kernel_rfl) (by simp) ?_
    refine AllReadyH.cons (o := { dst := none, op := _, type := _, pos := _, after := _, guard := _ }) rfl (fun K hK => ?_) AllReadyH.nil
    go_simp
    refine hK.out _ _ (heldB_set hHeld hne _) (fun hHeld => ?_)
    refine wpAnyH_done (by kernel_rfl) ?_ _
    go_wp2
    go_end0
    exact ⟨rfl, _, HPUT.out w3 gg cap' (two_size hgrow) ⟨hgrow.os, hgrow.tape, hgrow.output⟩ (two_block hgrow) hown hat hlt3⟩
  · go_simp
    refine hK.out _ _ (heldB_alloc hHeld _) (fun hHeld => ?_)
    try simp only [Act.put, List.setIfInBounds_toArray, List.set_cons_zero, List.set_cons_succ]
    refine wpAnyH_ready (rs := [5]) (by kernel_rfl) (by simp) ?_
    refine AllReadyH.cons (o := { dst := some 18, op := _, type := _, pos := _, after := _, guard := _ }) rfl (fun K hK => ?_) AllReadyH.nil
    have hg1 := two_cell hv1 (.cells #[.string e1, .pointer e2] 139) (.cells #[.string e1, .pointer e2] 139)
    go_simp
    refine hK.out _ _ hHeld (fun hHeld => ?_)
    try simp only [Act.put, List.setIfInBounds_toArray, List.set_cons_zero, List.set_cons_succ]
    refine wpAnyH_ready (rs := [8]) (by kernel_rfl) (by simp) ?_
    refine AllReadyH.cons (o := { dst := some 21, op := _, type := _, pos := _, after := _, guard := _ }) rfl (fun K hK => ?_) AllReadyH.nil
    refine step_append_lies _ (by rfl) _ _ _ (by rfl) 0 139 i0 _ 2 24 Tryz.underlying136 hi0 hz0 hz1 hz2 rfl (by omega) v c.length (enC c) (by rfl) (((HV2.out).alloc _).alloc _).drew
        ⟨w.heap.size + 1, 0, none⟩ 1 1 [.string e1, .pointer e2] (by rfl) (by rfl) (World.news_of_block (cs := #[.string e1, .pointer e2]) (t := 139) (fr := (0, 0)) (two_new w _ _)) (by simp [Value.oneCell'])
        (by omega) (by unfold maxLen; omega) (by omega) (by simp) (w.heap.size + 2) (by simp) ?_
    intro gg cap' w3 hown hgrow hat hlt3
    have hc3 : w3.cell? ⟨g, i, none⟩ = some v := (by rw [hgrow.cell_far _ (by simp; omega) (Ne.symm hgv)]; exact two_cell hv1 _ _)
    have hf3 : w3.frozen? ⟨g, i, none⟩ = false := (by rw [hgrow.frozen_far _ (by simp; omega) (Ne.symm hgv)]; exact two_frozen hv1 hfr _ _)
    refine hK.out _ _ (heldB_far hHeld hgrow (by simp) hvh) (fun hHeld => ?_)
    try simp only [Act.put, List.setIfInBounds_toArray, List.set_cons_zero, List.set_cons_succ]
    refine wpAnyH_take (i := 9) (oi := { dst := some 22, op := _, type := _, pos := _, after := _, guard := _ }) (v := ?v8) rfl (by kernel_rfl) (by kernel_rfl) (by kernel_rfl) (fun _ _ _ h => h) (Or.inl ⟨by rfl, ?hy8⟩) (by assumption) ?rest8
    case hy8 => (intro w hSw; go_simp; try with_reducible rfl)
    try simp only [Act.put, List.setIfInBounds_toArray, List.set_cons_zero, List.set_cons_succ]
    refine wpAnyH_ready (rs := [10]) (by kernel_rfl) (by simp) ?_
    refine AllReadyH.cons (o := { dst := none, op := _, type := _, pos := _, after := _, guard := _ }) rfl (fun K hK => ?_) AllReadyH.nil
    go_simp
    refine hK.out _ _ (heldB_set hHeld hne _) (fun hHeld => ?_)
    refine wpAnyH_done (by kernel_rfl) ?_ _
    go_wp2
    go_end0
    exact ⟨rfl, _, HPUT.out w3 gg cap' (two_size hgrow) ⟨hgrow.os, hgrow.tape, hgrow.output⟩ (two_block hgrow) hown hat hlt3⟩
end Go.Proofs.YthmmblohfjmbcaaGreat.DP

/-
  Contracts over this program: is it moving? how many empty buckets are passed.
-/
namespace Go.Proofs.YthmmblohfjmbcaaGreat.DP
open Go.RowKit Go.Shelf
theorem tab_len {w : World} {r : Roles} {t : Nat} {tv : Value} {T : Dc.Tab ByteArray (Option Addr)} (h : Tb w r t tv T) : ∃ ao cap, tv = .slice ao T.length cap ∧ (T = [] ∨ ∃ g, ao = some ⟨g, 0, none⟩ ∧ r g = (1 + t, 0)) := by
  cases T with
  | nil => obtain ⟨ao, cap, rfl⟩ := h.empty; exact ⟨ao, cap, rfl, .inl rfl⟩
  | cons c T => obtain ⟨g, cap, rfl, hr, _⟩ := h.form (by simp); exact ⟨_, cap, rfl, .inr ⟨g, rfl, hr⟩⟩
theorem Dct.cells {w : World} {r : Roles} {b seed n : Nat} {s : Dc.St ByteArray (Option Addr)} (h : Dct w r b seed n s) : ∃ ao ca bo cb, Tb w r 0 (.slice ao s.old.length ca) s.old ∧ Tb w r 1 (.slice bo s.young.length cb) s.young ∧ w.heap[b]? = some (.cells #[.int .u64 seed, .int .i64 n, .slice ao s.old.length ca, .slice bo s.young.length cb, .int .i64 s.pos] 77 (0, 0)) := by
  obtain ⟨h1, h2, ov, yv, h3, h4, h5⟩ := h
  obtain ⟨ao, ca, rfl, _⟩ := tab_len h4
  obtain ⟨bo, cb, rfl, _⟩ := tab_len h5
  exact ⟨ao, ca, bo, cb, h4, h5, h3⟩
/-- the five cells of the struct -/
theorem five {w : World} {b : Nat} {v0 v1 v2 v3 v4 : Value} {t : TypeId} (h : w.heap[b]? = some (.cells #[v0, v1, v2, v3, v4] t (0, 0))) :
    w.cell? ⟨b, 0, none⟩ = some v0 ∧ w.cell? ⟨b, 1, none⟩ = some v1 ∧ w.cell? ⟨b, 2, none⟩ = some v2 ∧ w.cell? ⟨b, 3, none⟩ = some v3 ∧ w.cell? ⟨b, 4, none⟩ = some v4 ∧ ∀ i, w.frozen? ⟨b, i, none⟩ = false := by
  refine ⟨?_, ?_, ?_, ?_, ?_, fun i => ?_⟩ <;> simp [World.cell?, World.frozen?, h]
set_option maxHeartbeats 400000 in
theorem moving_any (w : World) (b : Nat) (bo : Option Addr) (n cb : Nat) (h : w.cell? ⟨b, 3, none⟩ = some (.slice bo n cb)) :
    Calls Tryz.prog 83 #[.pointer (some ⟨b, 0, none⟩)] w fun e w' => e = .returned (.bool (decide (0 < n))) ∧ w' = w := by
  go_enter Tryz.func83, Tryz.ntmps83
  go_wp2
  go_ret
  exact ⟨by simp, rfl⟩
/-- block b alone has turned -/
def Only (b : Nat) (w w' : World) : Prop := (w'.os = w.os ∧ w'.tape = w.tape ∧ w'.output = w.output) ∧ w'.heap.size = w.heap.size ∧ ∀ k, k ≠ b → w'.heap[k]? = w.heap[k]?
theorem Only.refl (b : Nat) (w : World) : Only b w w := ⟨⟨rfl, rfl, rfl⟩, rfl, fun _ _ => rfl⟩
theorem Only.trans {b : Nat} {w w1 w2 : World} (h : Only b w w1) (g : Only b w1 w2) : Only b w w2 :=
  ⟨⟨g.1.1.trans h.1.1, g.1.2.1.trans h.1.2.1, g.1.2.2.trans h.1.2.2⟩, g.2.1.trans h.2.1, fun k hk => (g.2.2 k hk).trans (h.2.2 k hk)⟩
theorem Only.setCell {b : Nat} {w w' : World} (h : Only b w w') (i : Nat) (u : Value) : Only b w (w'.setCell ⟨b, i, none⟩ u) :=
  h.trans ⟨⟨rfl, rfl, rfl⟩, by simp [World.setCell], fun k hk => Below.heap_setCell _ _ _ _ hk⟩
theorem Only.drew {b : Nat} {w w' : World} (h : Only b w w') : Only b w w'.drew := ⟨h.1, h.2⟩
theorem Only.tab {b : Nat} {w w' : World} {r : Roles} {t : Nat} {tv : Value} {T : Dc.Tab ByteArray (Option Addr)} (h : Only b w w') (hb : r b = (5, 0)) (ht : t ≤ 1) (hT : Tb w r t tv T) : Tb w' r t tv T :=
  hT.kept fun k _ hr => ⟨h.2.2 k (fun e => by rw [e, hb] at hr; simp at hr; omega), rfl⟩
theorem Only.fr {b : Nat} {w w' : World} {r : Roles} (h : Only b w w') (hb : r b = (5, 0)) : Fr w r w' r :=
  ⟨h.1, by rw [h.2.1]; exact Nat.le_refl _, fun k _ hr => ⟨h.2.2 k (fun e => by rw [e, hb] at hr; simp at hr), hr⟩⟩
theorem Only.dct {b seed n n' : Nat} {w w' : World} {r : Roles} {s s' : Dc.St ByteArray (Option Addr)} {ov yv : Value} (h : Only b w w') (hd : Dct w r b seed n s) (hc : w'.heap[b]? = some (.cells #[.int .u64 seed, .int .i64 n', ov, yv, .int .i64 s'.pos] 77 (0, 0))) (ho : Tb w r 0 ov s'.old) (hy : Tb w r 1 yv s'.young) : Dct w' r b seed n' s' :=
  ⟨fun k hk => by rw [h.2.1]; exact hd.1 k hk, hd.2.1, ov, yv, hc, h.tab hd.2.1 (by omega) ho, h.tab hd.2.1 (by omega) hy⟩
theorem chn_len {w : World} {v : Value} {c : List Ent} (h : Chn w v c) : ∃ ao cap, v = .slice ao c.length cap := by
  rcases h.form with ⟨rfl, rfl⟩ | ⟨g, cap, rfl, _⟩
  · exact ⟨none, 0, rfl⟩
  · exact ⟨_, cap, rfl⟩
theorem skip_full {n p : Nat} {T : Dc.Tab ByteArray (Option Addr)} {e : Ent} {c : List Ent} (h : T[p]? = some (e :: c)) : Dc.skip n T p = p := by
  cases n with
  | zero => rfl
  | succ n => simp only [Dc.skip]; rw [h]; rfl
theorem skip_end {n p : Nat} {T : Dc.Tab ByteArray (Option Addr)} (h : T.length ≤ p) : Dc.skip n T p = p := by
  cases n with
  | zero => rfl
  | succ n => simp only [Dc.skip]; rw [List.getElem?_eq_none h]; rfl
theorem skip_on {n p : Nat} {T : Dc.Tab ByteArray (Option Addr)} (h : T[p]? = some []) : Dc.skip (n + 1) T p = Dc.skip n T (p + 1) := by
  simp only [Dc.skip]; rw [h]; rfl
theorem set_at {a0 a1 a2 a3 a4 u : Value} : (#[a0, a1, a2, a3, a4] : Array Value).setIfInBounds 4 u = #[a0, a1, a2, a3, u] := rfl
set_option maxHeartbeats 2000000 in
theorem pass_any (w : World) (r : Roles) (b seed n : Nat) (s : Dc.St ByteArray (Option Addr)) (h : Dct w r b seed n s) (hp : s.pos ≤ s.old.length) (hm : s.old.length ≤ maxLen) :
    Calls Tryz.prog 103 #[.pointer (some ⟨b, 0, none⟩)] w fun e w' => e = .returned (.tuple #[]) ∧ Dct w' r b seed n { s with pos := Dc.skip 10 s.old s.pos } ∧ Only b w w' := by
  obtain ⟨ao, ca, bo, cb, h4, h5, h3⟩ := h.cells
  have HD := keep h
  have H4 := keep h4
  have H5 := keep h5
  have hrb := keep h.2.1
  unfold maxLen at hm
  have H3 := keep h3
  clear h h4 h5 h3
  generalize hL : s.old.length = L at *
  have HL := keep hL
  clear hL
  go_enter Tryz.func103, Tryz.ntmps103
  go_wp2
  go_loopw [2] (fun i wr => ∃ (k p : Nat), k ≤ 10 ∧ i = .int .i64 k ∧ p ≤ L ∧ Kept (wr.heap[b]? = some (.cells #[.int .u64 seed, .int .i64 n, .slice ao L ca, .slice bo s.young.length cb, .int .i64 p] 77 (0, 0))) ∧ Kept (Only b w wr) ∧ Kept (Dc.skip (10 - k) s.old p = Dc.skip 10 s.old s.pos)) (fun i _ => 10 - (intOf i).toNat)
  case atStart => exact ⟨0, s.pos, by omega, rfl, hp, H3, Only.refl _ _, rfl⟩
  case round =>
    obtain ⟨k, p, hk, rfl, hpL, K3, KO, KS⟩ := hrel
    obtain ⟨c0, c1, c2, c3, c4, cf⟩ := five K3.out
    by_cases hk10 : k < 10
    · have hk1 : (k : Int) < 10 := by omega
      by_cases hpe : p = L
      · have he : ((p : Int) == (L : Int)) = true := by rw [hpe]; simp
        have hS := keep (skip_end (n := 10 - k) (p := p) (T := s.old) (by rw [HL.out]; omega))
        clear cf c0 c1 c3
        go_wp2_with fail
        go_region
        all_goals go_wp2
        refine bodyPost_ret (results_none rfl _ _ _) rfl ?_
        refine ⟨rfl, KO.out.drew.dct HD.out (s' := { s with pos := Dc.skip 10 s.old s.pos }) ?_ H4.out H5.out, KO.out.drew⟩
        have e : Dc.skip 10 s.old s.pos = p := by rw [← KS.out, hS.out]
        rw [e]
        exact K3.out
      · have hpl : p < L := by omega
        have he : ((p : Int) == (L : Int)) = false := beq_eq_false_iff_ne.2 (by omega)
        obtain ⟨g, ca', e4, hrg, hgl⟩ := H4.out.form (by rw [HL.out]; omega)
        have e5 : ao = some ⟨g, 0, none⟩ := by injection e4
        clear e4
        subst e5
        have hbg : g ≠ b := fun e => by have := hrb.out; rw [← e, hrg] at this; simp at this
        obtain ⟨c, hc⟩ : ∃ c, s.old[p]? = some c := ⟨_, List.getElem?_eq_getElem (by rw [HL.out]; exact hpl)⟩
        obtain ⟨v, hv1, hv2, _⟩ := H4.out.at hc
        obtain ⟨co, cc, rfl⟩ := chn_len hv2
        have hcell : wr.cell? ⟨g, p, none⟩ = some (.slice co c.length cc) := by rw [World.cell?_of_block (w := w) (a := ⟨g, p, none⟩) (KO.out.2.2 g hbg)]; exact hv1
        have hp0 : (0 : Int) ≤ (p : Int) := by omega
        have hp1 : (p : Int) < (L : Int) := by omega
        clear hv1 hv2
        cases c with
        | cons e c =>
          have hS := keep (skip_full (n := 10 - k) hc)
          clear hc cf c0 c1 c3
          have hz : decide (0 < (e :: c).length) = true := by simp
          generalize (e :: c).length = m at *
          go_wp2_with fail
          go_region
          all_goals go_wp2
          refine bodyPost_ret (results_none rfl _ _ _) rfl ?_
          refine ⟨rfl, KO.out.drew.dct HD.out (s' := { s with pos := Dc.skip 10 s.old s.pos }) ?_ H4.out H5.out, KO.out.drew⟩
          have e : Dc.skip 10 s.old s.pos = p := by rw [← KS.out, hS.out]
          rw [e]
          exact K3.out
        | nil =>
          have hS := keep (skip_on (n := 10 - k - 1) hc)
          clear hc c0 c1 c3
          have hw : IntKind.i64.wrap ((p : Int) + 1) = ((p + 1 : Nat) : Int) := by rw [IntKind.wrap_i64]; omega
          have hcell : wr.cell? ⟨g, p, none⟩ = some (.slice co 0 cc) := hcell
          have f4 := cf 4
          clear cf
          go_wp2_with fail
          go_region
          all_goals go_wp2
          go_roundw
          case measure => simp [intOf]; omega
          case rel =>
            refine ⟨k + 1, p + 1, by omega, by go_num, by omega, ?_, KO.out.drew.setCell 4 _, ?_⟩
            · have := cells_setCell (i := 4) (u := .int .i64 ((p + 1 : Nat) : Int)) K3.out
              rw [set_at] at this
              exact this
            · show Dc.skip (10 - (k + 1)) s.old (p + 1) = Dc.skip 10 s.old s.pos
              rw [← KS.out, show 10 - k = (10 - k - 1) + 1 by omega, hS.out]
              congr 1
    · have hk1 : ¬ (k : Int) < 10 := by omega
      clear cf c0 c1 c2 c3 c4
      go_wp2
      go_end0
      refine ⟨rfl, KO.out.dct HD.out (s' := { s with pos := Dc.skip 10 s.old s.pos }) ?_ H4.out H5.out, KO.out⟩
      have e : Dc.skip 10 s.old s.pos = p := by rw [← KS.out, show 10 - k = 0 by omega]; rfl
      rw [e]
      exact K3.out
end Go.Proofs.YthmmblohfjmbcaaGreat.DP

namespace Go.Proofs.YthmmblohfjmbcaaGreat.DP
open Go.RowKit Go.Shelf
attribute [local go_sem] Oper.semAt_some
/-- what is handed over: a place and the entry that stands there -/
abbrev Bk (c : List Ent) : Type := { x : Nat × Ent // x.2 ∈ c }
def bkE {c : List Ent} (x : Bk c) : Array Value := #[.int .i64 (x.1.1 : Int), .agg #[.string x.1.2.1, .pointer x.1.2.2]]
def bks {c : List Ent} (l : List (Bk c)) : List Ent := l.map (fun x => x.1.2)
theorem bks_snoc {c : List Ent} {l : List (Bk c)} {x : Bk c} {m : Nat} {e : Ent} (h : x.1 = (m, e)) : bks (l ++ [x]) = bks l ++ [e] := by
  unfold bks
  rw [List.map_append, List.map_singleton, h]
/-- the blocks that it reads are kept -/
def KpB (Bs : Nat) (v : Value) (A B : World) : Prop := B.heap[Bs]? = A.heap[Bs]? ∧ ∀ k, v.ownBlock = some k → B.heap[k]? = A.heap[k]?
theorem KpB.refl (Bs : Nat) (v : Value) (A : World) : KpB Bs v A A := ⟨rfl, fun _ _ => rfl⟩
theorem KpB.trans {Bs : Nat} {v : Value} {A B C : World} (h : KpB Bs v A B) (g : KpB Bs v B C) : KpB Bs v A C := ⟨g.1.trans h.1, fun k e => (g.2 k e).trans (h.2 k e)⟩
theorem rev_take {c : List Ent} {m : Nat} {e : Ent} (h : c.reverse[m]? = some e) : c.take (c.length - 1 - m + 1) = c.take (c.length - 1 - m) ++ [e] := by
  have hl : m < c.length := by have := (List.getElem?_eq_some_iff.1 h).1; simpa using this
  rw [List.getElem?_reverse hl] at h
  rw [List.take_succ_eq_append_getElem (by omega)]
  rw [List.getElem?_eq_getElem (by omega)] at h
  rw [Option.some.inj h]
set_option maxRecDepth 100000 in
set_option maxHeartbeats 2000000 in
theorem back1_in (n : Nat) (l Bs : Nat) (v : Value) (c : List Ent) (J Jx : List (Bk c) → World → Prop)
    (hY : ∀ pre x W1, J pre W1 → pre.length < c.length → YieldAt Fence.wide (n - 1) Tryz.prog l (bkE x) W1 fun e W' => (e = .returned (.bool true) ∧ J (pre ++ [x]) W' ∧ KpB Bs v W1 W') ∨ (e = .returned (.bool false) ∧ Jx (pre ++ [x]) W'))
    (W : World) (hBs : W.cell? ⟨Bs, 0, none⟩ = some v) (hC : Chn W v c) (h0 : J [] W) :
    CallsIn Fence.wide n Tryz.prog 111 #[.func (.yield l) #[] #[], .pointer (some ⟨Bs, 0, none⟩)] W fun e W' => (∃ v, e = .returned v) ∧ ((∃ xs, bks xs = c ∧ J xs W') ∨ (∃ pre, bks pre <+: c ∧ Jx pre W')) := by
  obtain ⟨co, cc, rfl⟩ := chn_len hC
  have hlen : c.length ≤ 9223372036854775807 := by
    rcases hC.form with ⟨_, rfl⟩ | ⟨g, cap, _, _, h1, h2⟩
    · simp
    · unfold maxLen at h2; omega
  have HC := keep hC
  have HY := keep hY
  have HB := keep hBs
  clear hC hY
  obtain ⟨L, hL⟩ : ∃ L, c.length = L := ⟨_, rfl⟩
  rw [hL] at hBs hlen
  have HL := keep hL
  have hw0 : IntKind.i64.wrap ((L : Int) - 1) = (L : Int) - 1 := by rw [IntKind.wrap_i64]; omega
  refine callsIn_of_wp Tryz.func111 rfl trivial ?_ rfl
  simp only [Tryz.ntmps111, List.size_toArray, List.length_cons, List.length_nil, Nat.reduceAdd, Nat.reduceSub, Array.replicate_succ, Array.replicate_zero, List.push_toArray, List.append_toArray, List.nil_append, List.cons_append]
  gi_wp2
  clear hw0 hBs
  gi_loopw [3] (fun i wr => ∃ (m : Nat) (pre : List (Bk c)), m ≤ L ∧ i = .int .i64 ((m : Int) - 1) ∧ Kept (bks pre = c.take (L - m)) ∧ Kept (J pre wr) ∧ Kept (KpB Bs (.slice co c.length cc) W wr)) (fun i _ => (intOf i + 1).toNat)
  case atStart => exact ⟨L, [], Nat.le_refl _, rfl, by show _ = _; rw [Nat.sub_self]; rfl, h0, KpB.refl _ _ _⟩
  case round =>
    obtain ⟨m, pre, hm, rfl, KT, KJ, KK⟩ := hrel
    have hBs : wr.cell? ⟨Bs, 0, none⟩ = some (.slice co L cc) := by rw [World.cell?_of_block (w := W) (a := ⟨Bs, 0, none⟩) KK.out.1, HB.out, HL.out]
    cases m with
    | zero =>
      clear hBs
      gi_wp2
      go_end0
      refine ⟨⟨_, rfl⟩, .inl ⟨pre, ?_, KJ.out⟩⟩
      rw [KT.out, Nat.sub_zero, ← HL.out, List.take_length]
    | succ m =>
      have em : ((m + 1 : Nat) : Int) - 1 = (m : Int) := by omega
      rw [em]
      obtain ⟨e, he⟩ := rev_some (c := c) (k := m) (by rw [HL.out]; omega)
      have HE := keep he
      have hmem : e ∈ c := List.mem_reverse.1 (List.mem_of_getElem? he)
      have hCw : Chn wr (.slice co c.length cc) c := own_kept HC.out (fun k hk => KK.out.2 k hk)
      rcases hCw.form with ⟨hh, hcn⟩ | ⟨g, cap, hh, hg, _, _⟩
      · rw [hcn] at hmem; cases hmem
      · cases hh
        obtain ⟨l1, l2⟩ := hCw.at he
        clear hCw he
        have hpl : pre.length = L - (m + 1) := by
          have := congrArg List.length KT.out
          simp only [bks, List.length_map, List.length_take] at this
          rw [this, HL.out]; omega
        obtain ⟨x, hx⟩ : ∃ x : Bk c, x.1 = (m, e) := ⟨⟨(m, e), hmem⟩, rfl⟩
        obtain ⟨fn, tmps, assign, body, hy, hR⟩ := HY.out pre x wr KJ.out (by rw [hpl, HL.out]; omega)
        obtain ⟨e1, e2⟩ := e
        unfold bkE at hy
        rw [hx] at hy
        dsimp only at hy l1 l2
        have HX := keep hx
        have hm0 : (0 : Int) ≤ (m : Int) := by omega
        have hm1 : (m : Int) < (L : Int) := by omega
        have hmw : IntKind.i64.wrap ((m : Int) - 1) = (m : Int) - 1 := by rw [IntKind.wrap_i64]; omega
        clear hmem hpl em hx
        gi_wp2
        refine ⟨(fun h => by cases h), hR.mono ?_⟩
        rintro e W3 (⟨rfl, hJ3, hk3⟩ | ⟨rfl, hJx3⟩)
        · have K3 := keep hJ3
          have K4 := keep hk3
          clear hJ3 hk3
          gi_wp2
          go_roundw
          case rel =>
            refine ⟨m, pre ++ [x], by omega, rfl, ?_, K3, KK.out.trans K4.out⟩
            show bks _ = _
            rw [bks_snoc HX.out, KT.out]
            have := rev_take HE.out
            rw [HL.out] at this
            rw [show L - m = L - 1 - m + 1 by omega, this, show L - (m + 1) = L - 1 - m by omega]
          case measure => simp [intOf]
        · gi_wp2
          refine bodyPost_ret (results_none rfl _ _ _) rfl ?_
          refine ⟨⟨_, rfl⟩, .inr ⟨_, ?_, hJx3⟩⟩
          rw [bks_snoc HX.out, KT.out]
          have := rev_take HE.out
          rw [HL.out] at this
          rw [show L - (m + 1) = L - 1 - m by omega, ← this]
          exact List.take_prefix _ _
set_option maxHeartbeats 400000 in
theorem back_any (w : World) (ao : Option Addr) (n cap : Nat) :
    Calls Tryz.prog 92 #[.slice ao n cap] w fun e w' => e = .returned (.func (.func 111) #[] #[.pointer (some ⟨w.heap.size, 0, none⟩)]) ∧ w' = w.alloc (.cells #[.slice ao n cap] 136) := by
  have hmf : ∀ (fn : Fn) (first cap : Array Value) (w : World), (Instr.makeFunc fn first cap).run Tryz.prog w = .ok (.func fn first cap) w := fun _ _ _ _ => rfl
  go_enter Tryz.func92, Tryz.ntmps92
  go_wp2
  go_ret
  exact ⟨rfl, rfl⟩
/-- what slices.Backward hands back tells the chain's entries from its head on, whatever the loop's body does with other blocks -/
theorem back_stops (n : Nat) (Bs : Nat) (v : Value) (c : List Ent) (w : World) (hB : Bs < w.heap.size) (hc : w.cell? ⟨Bs, 0, none⟩ = some v) (hC : Chn w v c) :
    SeqStopsK Fence.wide n Tryz.prog 111 #[.pointer (some ⟨Bs, 0, none⟩)] (bkE (c := c)) (KpB Bs v) (fun xs => bks xs = c) (fun pre => bks pre <+: c) c.length w := fun l J Jx W hW _ _ hY h0 =>
  back1_in n l Bs v c J Jx hY W ((hW.cell (p := ⟨Bs, 0, none⟩) hB).trans hc) (own_kept hC (fun k hk => hW.block k (own_lt hC hk))) h0
theorem kpB_b {Bs : Nat} {v : Value} {w : World} (hB : Bs < w.heap.size) (hv : ∀ k, v.ownBlock = some k → k < w.heap.size) (W : World) (l : Nat) (o o' : Obj) (hl : w.heap.size ≤ l) (_ : W.heap[l]? = some o) (_ : o.isCells = false) (_ : o.isWalk = false) : KpB Bs v W (W.putObj l o') :=
  ⟨World.putObj_heap_other (by omega), fun k hk => World.putObj_heap_other (by have := hv k hk; omega)⟩
/- a region that draws its order, within a round -/
theorem upon_round {P : Program} {o : Oper} {a : Act} {l n : Nat} {next : Act → World → Prop} {Q : Exit → Act → World → Prop} {x : Result Next} (h : o.upon P a next Q x) : o.uponIn (Fence.wide.inRound l) n P a next Q x := by
  cases x with
  | ok y w' =>
    cases y <;> simp only [Oper.upon, Oper.uponIn] at h ⊢
    case value => exact h
    case skip => exact h
    case defer => exact h
    case enter f args => exact ⟨(fun h => by cases h), CallsIn.inRound l (callsIn_wide.2 h)⟩
    case row row args => exact ⟨(fun h => by cases h), fun c cs _ => let ⟨v, w', r, s⟩ := h c cs; ⟨v, w', r, stepsIn_wide.2 s⟩⟩
  | halt y w' => cases y <;> simp only [Oper.upon, Oper.uponIn] at h ⊢ <;> exact h
def noDefer (ops : Array Oper) : Bool := ops.toList.all fun o => match o.op with | .defer _ => false | _ => true
theorem noDefer_spec {ops : Array Oper} (h : noDefer ops = true) {i : Nat} {o : Oper} (ho : ops[i]? = some o) : ∀ c, o.op ≠ .defer c := by
  intro c hc
  have := List.all_eq_true.1 h o (by have := Array.mem_of_getElem? ho; simpa using this)
  rw [hc] at this
  cases this
theorem any_round {P : Program} {md : Region.Mode} {ops : Array Oper} {l n : Nat} {Q : Exit → Act → World → Prop} (hd : noDefer ops = true) (hL : ¬ LetsOut Q) : ∀ (fuel : Nat) (listed : Array Bool) (a : Act) (w : World), wpAny P md ops Q fuel listed a w → wpAnyIn (Fence.wide.inRound l) n P md ops Q fuel listed a w := by
  intro fuel
  induction fuel with
  | zero => intro listed a w h; exact h
  | succ fuel ih =>
    intro listed a w h
    refine ⟨h.1, fun i hi => ?_⟩
    have h1 := h.2 i hi
    unfold wpOp at h1
    unfold wpOpIn
    cases ho : ops[i]? with
    | none => simp only [ho] at h1 ⊢; exact ih _ _ _ h1
    | some o =>
      simp only [ho] at h1 ⊢
      split
      · rename_i hw
        simp only [hw, if_true] at h1
        rcases h1 with h1 | ⟨_, h2⟩
        · refine ⟨fun _ _ => trivial, ?_⟩
          have e : o.semAt (Fence.wide.inRound l).round a.eval = execOp a.eval o := Oper.semAt_eq _ _ _ (noDefer_spec hd ho)
          rw [e]
          exact upon_round (Oper.wp_mono (fun a w => ih _ a w) h1)
        · exact absurd h2 hL
      · rename_i hw
        simp only [hw] at h1
        exact ⟨fun _ _ => trivial, ih _ _ _ h1⟩
/-- such a region within a round goes as everywhere -/
theorem region_round {P : Program} {id : Nat} {ops : Array Oper} {l n : Nat} {Q : Exit → Act → World → Prop} {a : Act} {w : World} {S : World → Prop} (hm : P.follows .mixedOrders = true) (hd : noDefer ops = true) (hL : ¬ LetsOut Q) (hS : S w.drew)
    (h : S w.drew → wpAnyH P .any ops Q S ops.size (Array.replicate ops.size false) a w.drew) : (Code.region id ops true).wpIn (Fence.wide.inRound l) n P Q a w :=
  wpIn_region_any hm (any_round hd hL _ _ _ _ (wpAny_of_held _ _ _ _ (h hS)))
end Go.Proofs.YthmmblohfjmbcaaGreat.DP
