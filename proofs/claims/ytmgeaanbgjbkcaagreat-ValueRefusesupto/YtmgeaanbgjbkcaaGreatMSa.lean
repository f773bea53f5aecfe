/-
  Contracts over this program, put together.
-/
import Derived.Test.YtmgeaanbgjbkcaaGreatMA
import Derived.Below
import Derived.OwnWalk
import Derived.Laws.AppendOwn
import Derived.Deep.AppendLies
import Derived.Deep.RegionHeld3
import Derived.Deep.Heap
import Derived.Deep.LoopGhost
import Derived.Shelf.Abstract
import Derived.RangeFuncNested
import Derived.StillTactics
import Derived.RangeFuncBound
import Derived.RangeFuncCalls
import Derived.RangeFuncLeaves
import Derived.Shelf.RegionOpen
import Derived.WalkKit
import Derived.OwnWalkIn
import Derived.TacticsInMore
import Derived.LoopNIn
import Derived.LoopIn
set_option maxHeartbeats 8000000
namespace Go.Proofs.YtmgeaanbgjbkcaaGreat.DS
open Go.RowKit
abbrev Ent : Type := ByteArray × ByteArray
abbrev Roles : Type := Nat → Nat × Nat
def enE (e : Ent) : List Value := [.string e.1, .string e.2]
def enC (c : List Ent) : List Value := c.reverse.flatMap enE
theorem enC_len (c : List Ent) : (enC c).length = c.length * 2 := by
  unfold enC
  induction c with
  | nil => rfl
  | cons e c ih => rw [List.reverse_cons, List.flatMap_append, List.length_append, ih]; simp [enE]; omega
theorem enC_cons (e : Ent) (c : List Ent) : enC (e :: c) = enC c ++ enE e := by
  unfold enC; rw [List.reverse_cons, List.flatMap_append]; simp
def Chn (w : World) (v : Value) (c : List Ent) : Prop := w.ownsRow 0 264 2 v c.length (enC c)
def Tb (w : World) (r : Roles) (t : Nat) (tv : Value) (T : Dc.Tab ByteArray ByteArray) : Prop :=
  ∃ vs : List Value, w.ownsRow 0 260 1 tv T.length vs ∧ (∀ k, tv.ownBlock = some k → r k = (1 + t, 0)) ∧
    ∀ i c, T[i]? = some c → ∃ v, vs[i]? = some v ∧ Chn w v c ∧ ∀ k, v.ownBlock = some k → r k = (3 + t, i)
def Dct (w : World) (r : Roles) (b seed n : Nat) (s : Dc.St ByteArray ByteArray) : Prop :=
  (∀ k, r k ≠ (0, 0) → k < w.heap.size) ∧ r b = (5, 0) ∧ ∃ ov yv, w.heap[b]? = some (.cells #[.int .u64 seed, .int .i64 n, ov, yv, .int .i64 s.pos] 242 (0, 0)) ∧ Tb w r 0 ov s.old ∧ Tb w r 1 yv s.young
def Fr (w : World) (r : Roles) (w' : World) (r' : Roles) : Prop :=
  (w'.os = w.os ∧ w'.tape = w.tape ∧ w'.output = w.output) ∧ w.heap.size ≤ w'.heap.size ∧ ∀ k, k < w.heap.size → r k = (0, 0) → w'.heap[k]? = w.heap[k]? ∧ r' k = (0, 0)
theorem Fr.refl (w : World) (r : Roles) : Fr w r w r := ⟨⟨rfl, rfl, rfl⟩, Nat.le_refl _, fun _ _ h => ⟨rfl, h⟩⟩
theorem Fr.trans {w w1 w2 : World} {r r1 r2 : Roles} (h : Fr w r w1 r1) (g : Fr w1 r1 w2 r2) : Fr w r w2 r2 := by
  obtain ⟨⟨a1, a2, a3⟩, a4, a5⟩ := h
  obtain ⟨⟨b1, b2, b3⟩, b4, b5⟩ := g
  refine ⟨⟨b1.trans a1, b2.trans a2, b3.trans a3⟩, Nat.le_trans a4 b4, fun k hk hr => ?_⟩
  obtain ⟨c1, c2⟩ := a5 k hk hr
  obtain ⟨d1, d2⟩ := b5 k (Nat.lt_of_lt_of_le hk a4) c2
  exact ⟨d1.trans c1, d2⟩
theorem Fr.below {w w' : World} {r r' : Roles} {B : Nat} (h : Fr w r w' r') (hB : B ≤ w.heap.size) (hr : ∀ k, k < B → r k = (0, 0)) : Below B w w' :=
  ⟨h.1.1, h.1.2.1, h.1.2.2, h.2.1, fun k hk => (h.2.2 k (by omega) (hr k hk)).1⟩
theorem Fr.of_below {w w' : World} {r : Roles} (h : Below w.heap.size w w') : Fr w r w' r := ⟨⟨h.os, h.tape, h.output⟩, h.size, fun k hk hr => ⟨h.block k hk, hr⟩⟩
theorem own_kept {w w' : World} {B e s : Nat} {v : Value} {n : Nat} {xs : List Value} (h : w.ownsRow B e s v n xs) (hk : ∀ k, v.ownBlock = some k → w'.heap[k]? = w.heap[k]?) : w'.ownsRow B e s v n xs := by
  refine ⟨h.1, ?_⟩
  rcases h.2 with hn | ⟨g, cap, cur, rfl, hb, hgg, rest⟩
  · exact .inl hn
  · exact .inr ⟨g, cap, cur, rfl, hb, by rw [hk g rfl]; exact hgg, rest⟩
theorem own_lt {w : World} {B e s : Nat} {v : Value} {n : Nat} {xs : List Value} (h : w.ownsRow B e s v n xs) {k : Nat} (hk : v.ownBlock = some k) : k < w.heap.size := (h.lt k hk).2
theorem Tb.kept {w w' : World} {r r' : Roles} {t : Nat} {tv : Value} {T : Dc.Tab ByteArray ByteArray} (h : Tb w r t tv T) (hk : ∀ k, k < w.heap.size → ((r k).1 = 1 + t ∨ (r k).1 = 3 + t) → w'.heap[k]? = w.heap[k]? ∧ r' k = r k) : Tb w' r' t tv T := by
  obtain ⟨vs, h1, h2, h3⟩ := h
  refine ⟨vs, own_kept h1 (fun k e => (hk k (own_lt h1 e) (.inl (by rw [h2 k e]))).1), fun k e => by rw [(hk k (own_lt h1 e) (.inl (by rw [h2 k e]))).2]; exact h2 k e, fun i c hc => ?_⟩
  obtain ⟨v, e1, e2, e3⟩ := h3 i c hc
  exact ⟨v, e1, own_kept e2 (fun k e => (hk k (own_lt e2 e) (.inr (by rw [e3 k e]))).1), fun k e => by rw [(hk k (own_lt e2 e) (.inr (by rw [e3 k e]))).2]; exact e3 k e⟩
theorem Dct.kept {w w' : World} {r : Roles} {b seed n : Nat} {s : Dc.St ByteArray ByteArray} (h : Dct w r b seed n s) (hs : w.heap.size ≤ w'.heap.size) (hk : ∀ k, k < w.heap.size → r k ≠ (0, 0) → w'.heap[k]? = w.heap[k]?) : Dct w' r b seed n s := by
  obtain ⟨h1, h2, ov, yv, h3, h4, h5⟩ := h
  refine ⟨fun k hr => Nat.lt_of_lt_of_le (h1 k hr) hs, h2, ov, yv, ?_, h4.kept (fun k hl hr => ⟨hk k hl (fun e => ?_), rfl⟩), h5.kept (fun k hl hr => ⟨hk k hl (fun e => ?_), rfl⟩)⟩
  · rw [hk b (h1 b (by rw [h2]; simp)) (by rw [h2]; simp)]; exact h3
  · rw [e] at hr; simp at hr
  · rw [e] at hr; simp at hr
theorem Dct.below {w w' : World} {r : Roles} {b seed n : Nat} {s : Dc.St ByteArray ByteArray} (h : Dct w r b seed n s) (hb : Below w.heap.size w w') : Dct w' r b seed n s := h.kept hb.size (fun k hk _ => hb.block k hk)
theorem cells_setCell {w : World} {b i : Nat} {cur : Array Value} {t : TypeId} {fr : Nat × Nat} {u : Value} (h : w.heap[b]? = some (.cells cur t fr)) : (w.setCell ⟨b, i, none⟩ u).heap[b]? = some (.cells (cur.setIfInBounds i u) t fr) := by
  have hlt := (Array.getElem?_eq_some_iff.1 h).1
  simp [World.setCell, Array.getElem?_modify, h]
theorem take_set {cur : Array Value} {n i : Nat} {u : Value} {vs : List Value} (h : cur.toList.take n = vs) : (cur.setIfInBounds i u).toList.take n = vs.set i u := by
  rw [Array.toList_setIfInBounds, List.take_set, h]
theorem Tb.form {w : World} {r : Roles} {t : Nat} {tv : Value} {T : Dc.Tab ByteArray ByteArray} (h : Tb w r t tv T) (hn : 0 < T.length) :
    ∃ g cap, tv = .slice (some ⟨g, 0, none⟩) T.length cap ∧ r g = (1 + t, 0) ∧ g < w.heap.size := by
  obtain ⟨vs, h1, h2, h3⟩ := h
  obtain ⟨g, cap, rfl, _, hg⟩ := h1.form hn
  exact ⟨g, cap, rfl, h2 g rfl, hg⟩
theorem Tb.empty {w : World} {r : Roles} {t : Nat} {tv : Value} (h : Tb w r t tv []) : ∃ ao cap, tv = .slice ao 0 cap := by
  obtain ⟨vs, h1, h2, h3⟩ := h
  rcases h1.2 with ⟨rfl, _⟩ | ⟨g, cap, cur, rfl, _⟩
  · exact ⟨_, _, rfl⟩
  · exact ⟨_, _, rfl⟩
theorem Tb.at {w : World} {r : Roles} {t : Nat} {g cap n : Nat} {T : Dc.Tab ByteArray ByteArray} {i : Nat} {c : List Ent} (h : Tb w r t (.slice (some ⟨g, 0, none⟩) n cap) T) (hi : T[i]? = some c) :
    ∃ v, w.cell? ⟨g, i, none⟩ = some v ∧ Chn w v c ∧ ∀ k, v.ownBlock = some k → r k = (3 + t, i) := by
  obtain ⟨vs, h1, h2, h3⟩ := h
  obtain ⟨v, e1, e2, e3⟩ := h3 i c hi
  refine ⟨v, ?_, e2, e3⟩
  have := h1.cells (g := g) rfl i v e1
  rwa [show (⟨g, 0, none⟩ : Addr).add i = ⟨g, i, none⟩ by unfold Addr.add; split <;> simp_all] at this
theorem Tb.free {w : World} {r : Roles} {t : Nat} {g cap n : Nat} {T : Dc.Tab ByteArray ByteArray} (h : Tb w r t (.slice (some ⟨g, 0, none⟩) n cap) T) (i : Nat) : w.frozen? ⟨g, i, none⟩ = false := by
  obtain ⟨vs, h1, h2, h3⟩ := h
  rcases h1.2 with ⟨h, _⟩ | ⟨g', cap', cur, e, _, hg, _⟩
  · cases h
  · cases e
    simp [World.frozen?, hg]
def role (r : Roles) (v : Value) (x : Nat × Nat) : Roles := fun k => if v.ownBlock = some k then x else r k
theorem Tb.put {w w1 : World} {r : Roles} {t g cap n i : Nat} {T : Dc.Tab ByteArray ByteArray} {c c' : List Ent} {v' : Value} (h : Tb w r t (.slice (some ⟨g, 0, none⟩) n cap) T) (hi : T[i]? = some c) (hg : w1.heap[g]? = w.heap[g]?)
    (hk : ∀ k j, k < w.heap.size → r k = (3 + t, j) → j ≠ i → w1.heap[k]? = w.heap[k]?) (hv : Chn w1 v' c') (hb : ∀ k, v'.ownBlock = some k → r k = (3 + t, i) ∨ w.heap.size ≤ k) :
    Tb (w1.setCell ⟨g, i, none⟩ v') (role r v' (3 + t, i)) t (.slice (some ⟨g, 0, none⟩) n cap) (T.set i c') := by
  obtain ⟨vs, h1, h2, h3⟩ := h
  have hrg := h2 g rfl
  have hgl := own_lt h1 (k := g) rfl
  have hne : v'.ownBlock ≠ some g := by
    intro e
    rcases hb g e with h | h
    · rw [hrg] at h; simp at h
    · omega
  have hil : i < T.length := (List.getElem?_eq_some_iff.1 hi).1
  refine ⟨vs.set i v', ?_, ?_, ?_⟩
  · obtain ⟨l1, l2⟩ := h1
    refine ⟨by rw [List.length_set, l1, List.length_set], .inr ?_⟩
    rcases l2 with ⟨e, _⟩ | ⟨g', cap', cur, e, _, hh, hc, hm, hs, ht⟩
    · cases e
    · cases e
      rw [List.length_set]
      exact ⟨g, cap, _, rfl, Nat.zero_le _, cells_setCell (hg.trans hh), hc, hm, by simpa using hs, take_set ht⟩
  · intro k e
    cases e
    unfold role
    rw [if_neg hne]
    exact hrg
  · intro j d hd
    rw [List.getElem?_set] at hd
    by_cases hij : i = j
    · subst hij
      rw [if_pos rfl, if_pos hil] at hd
      cases hd
      have hvl : i < vs.length := by
        obtain ⟨v, e1, _⟩ := h3 i c hi
        exact (List.getElem?_eq_some_iff.1 e1).1
      refine ⟨v', by simp [hvl], own_kept hv (fun k e => Below.heap_setCell _ _ _ _ (fun e' => hne (by rw [e]; simp at e'; rw [e']))), fun k e => ?_⟩
      unfold role
      rw [if_pos e]
    · rw [if_neg hij] at hd
      obtain ⟨v, e1, e2, e3⟩ := h3 j d hd
      have hkl : ∀ k, v.ownBlock = some k → k ≠ g ∧ v'.ownBlock ≠ some k := by
        intro k e
        have hl := own_lt e2 e
        refine ⟨fun e' => ?_, fun e' => ?_⟩
        · have := e3 k e
          rw [e', hrg] at this
          simp at this
        · rcases hb k e' with h | h
          · rw [e3 k e] at h; simp at h; omega
          · omega
      refine ⟨v, by rw [List.getElem?_set_ne hij]; exact e1, own_kept e2 (fun k e => ?_), fun k e => ?_⟩
      · rw [Below.heap_setCell _ _ _ _ (hkl k e).1]
        exact hk k j (own_lt e2 e) (e3 k e) (fun h => hij h.symm)
      · unfold role
        rw [if_neg (hkl k e).2]
        exact e3 k e
end Go.Proofs.YtmgeaanbgjbkcaaGreat.DS

namespace Go.Proofs.YtmgeaanbgjbkcaaGreat.DS
open Go.RowKit Go.Shelf
def Found (c : List Ent) (key : ByteArray) (r : Int) : Prop :=
  (r = -1 ∧ ∀ e ∈ c, e.1 ≠ key) ∨ ∃ (p : Nat) (x : ByteArray), r = p ∧ p < c.length ∧ c.reverse[p]? = some (key, x)
theorem enC_at {c : List Ent} {p : Nat} {e : Ent} (h : c.reverse[p]? = some e) : (enC c)[p * 2]? = some (.string e.1) ∧ (enC c)[p * 2 + 1]? = some (.string e.2) := by
  unfold enC
  generalize c.reverse = l at h
  induction l generalizing p with
  | nil => simp at h
  | cons a l ih =>
    rw [List.flatMap_cons]
    cases p with
    | zero => simp at h; subst h; simp [enE]
    | succ p =>
      have := ih (p := p) (by simpa using h)
      rw [List.getElem?_append_right (by simp [enE]; omega), List.getElem?_append_right (by simp [enE]; omega)]
      have e1 : (p + 1) * 2 - (enE a).length = p * 2 := by simp [enE]; omega
      have e2 : (p + 1) * 2 + 1 - (enE a).length = p * 2 + 1 := by simp [enE]; omega
      rw [e1, e2]
      exact this
theorem Chn.at {w : World} {g n cap p : Nat} {c : List Ent} {e : Ent} (h : Chn w (.slice (some ⟨g, 0, none⟩) n cap) c) (hp : c.reverse[p]? = some e) :
    w.cell? ⟨g, p * 2, none⟩ = some (.string e.1) ∧ w.cell? ⟨g, p * 2 + 1, none⟩ = some (.string e.2) := by
  have add : ∀ i, (⟨g, 0, none⟩ : Addr).add i = ⟨g, i, none⟩ := by intro i; unfold Addr.add; split <;> simp_all
  have h1 := h.cells (g := g) rfl _ _ (enC_at hp).1
  have h2 := h.cells (g := g) rfl _ _ (enC_at hp).2
  rw [add] at h1 h2
  exact ⟨h1, h2⟩
theorem test_any (w : World) (B : Nat) (key : ByteArray) (e : Ent) (hc : w.cell? ⟨B, 0, none⟩ = some (.string key)) :
    Calls Tryz.prog 265 #[.agg #[.string e.1, .string e.2], .pointer (some ⟨B, 0, none⟩)] w fun r w' => r = .returned (.bool (e.1.toList == key.toList)) ∧ w' = w.alloc (.cells #[.string e.1, .string e.2] 264) := by
  have hlt := World.block_lt_of_cell? w _ hc
  have hne : ¬ B = w.heap.size := by simp at hlt; omega
  go_enter Tryz.func265, Tryz.ntmps265
  go_wp2
  go_ret
  exact ⟨rfl, rfl⟩
theorem Chn.form {w : World} {v : Value} {c : List Ent} (h : Chn w v c) : (v = .slice none 0 0 ∧ c = []) ∨ ∃ g cap, v = .slice (some ⟨g, 0, none⟩) c.length cap ∧ g < w.heap.size ∧ c.length ≤ cap ∧ cap ≤ maxLen := by
  rcases h.2 with ⟨rfl, h0⟩ | ⟨g, cap, cur, rfl, _, hg, h1, h2, _⟩
  · exact .inl ⟨rfl, List.length_eq_zero_iff.1 h0⟩
  · exact .inr ⟨g, cap, rfl, (Array.getElem?_eq_some_iff.1 hg).1, h1, h2⟩
theorem rev_some {c : List Ent} {k : Nat} (h : k < c.length) : ∃ e, c.reverse[k]? = some e := ⟨c.reverse[k]'(by simpa using h), List.getElem?_eq_getElem (by simpa using h)⟩
theorem bytes_eq {a b : ByteArray} (h : a.toList = b.toList) : a = b := by
  have h' : a.data.toList = b.data.toList := by rwa [ByteArray.toList_eq, ByteArray.toList_eq] at h
  cases a; cases b; congr 1
  exact Array.toList_inj.1 h'
theorem key_no {c : List Ent} {key : ByteArray} (h : ∀ j e, j < c.length → c.reverse[j]? = some e → (e.1.toList == key.toList) = false) : ∀ e ∈ c, e.1 ≠ key := by
  intro e he hk
  obtain ⟨j, hj⟩ := List.getElem?_of_mem (List.mem_reverse.2 he)
  have hl : j < c.length := by have := (List.getElem?_eq_some_iff.1 hj).1; simpa using this
  have := h j e hl hj
  rw [hk] at this
  simp at this
theorem index_any (w : World) (v : Value) (c : List Ent) (key : ByteArray) (B : Nat) (hc : w.cell? ⟨B, 0, none⟩ = some (.string key)) (h : Chn w v c) :
    Calls Tryz.prog 264 #[v, .func (.func 265) #[] #[.pointer (some ⟨B, 0, none⟩)]] w fun e w' => (∃ r : Int, e = .returned (.int .i64 r) ∧ Found c key r) ∧ Below w.heap.size w w' := by
  have eg : ∀ args w, (callFunc 265 args).run Tryz.prog w = .ok (.enter 265 args) w := enters_of Tryz.func265 (by kernel_rfl) rfl
  have hB := World.block_lt_of_cell? w _ hc
  rcases h.form with ⟨rfl, rfl⟩ | ⟨g, cap, rfl, hg, hcap, hm⟩
  · go_enter Tryz.func264, Tryz.ntmps264
    go_wp2
    go_loopg [5, 8] 0 (fun gg _ s8 wr => s8 = .int .i64 0 ∧ wr = w)
    case atStart => exact ⟨rfl, rfl⟩
    case round =>
      obtain ⟨rfl, rfl⟩ := hrel
      go_wp2
      go_ret
      exact ⟨⟨-1, rfl, .inl ⟨rfl, by simp⟩⟩, Below.refl _ _⟩
  · have hrow : Kept (∀ (W : World), Below w.heap.size w W → ∀ j e, c.reverse[j]? = some e → W.cell? ⟨g, j * 2, none⟩ = some (.string e.1) ∧ W.cell? ⟨g, j * 2 + 1, none⟩ = some (.string e.2)) := fun W hW j e he => by
      obtain ⟨a, b⟩ := h.at he
      exact ⟨(hW.cell (p := ⟨g, j * 2, none⟩) hg).trans a, (hW.cell (p := ⟨g, j * 2 + 1, none⟩) hg).trans b⟩
    have HC := keep hc
    clear h hc
    obtain ⟨n, hn⟩ : ∃ n, c.length = n := ⟨_, rfl⟩
    rw [hn] at hcap ⊢
    have HN := keep hn
    clear hn
    unfold maxLen at hm
    go_enter Tryz.func264, Tryz.ntmps264
    go_wp2
    go_loopg [5, 8] n (fun gg _ s8 wr => ∃ kk : Nat, kk ≤ n ∧ n - kk ≤ gg ∧ s8 = .int .i64 kk ∧ Kept (Below w.heap.size w wr) ∧ Kept (∀ j e, j < kk → c.reverse[j]? = some e → (e.1.toList == key.toList) = false))
    case atStart => exact ⟨0, Nat.zero_le _, by omega, rfl, Below.refl _ w, fun j e hj => absurd hj (Nat.not_lt_zero _)⟩
    case round =>
      obtain ⟨kk, hkk, hg2, rfl, BW, A⟩ := hrel
      by_cases hlt : kk < n
      · have hltz : (kk : Int) < (n : Int) := by omega
        obtain ⟨e, he⟩ := rev_some (c := c) (k := kk) (by rw [HN.out]; exact hlt)
        obtain ⟨l1, l2⟩ := hrow.out wr BW.out kk e he
        have HE := keep he
        have hcall := test_any wr B key e ((BW.out.cell (p := ⟨B, 0, none⟩) hB).trans HC.out)
        clear he
        obtain ⟨e1, e2⟩ := e
        have l1 : wr.cell? ⟨g, kk * 2, none⟩ = some (.string e1) := l1
        have l2 : wr.cell? ⟨g, kk * 2 + 1, none⟩ = some (.string e2) := l2
        dsimp only at hcall
        cases hq : (e1.toList == key.toList) with
        | true =>
          rw [hq] at hcall
          have HQ := keep hq
          clear hq
          go_wp2_with fail
          refine hcall.mono ?_
          rintro r w' ⟨rfl, rfl⟩
          go_wp2
          go_ret
          refine ⟨⟨kk, rfl, .inr ⟨kk, e2, rfl, by rw [HN.out]; exact hlt, ?_⟩⟩, BW.out.alloc BW.out.size _⟩
          have hk := bytes_eq (a := e1) (b := key) (by simpa using HQ.out)
          rw [HE.out, hk]
        | false =>
          rw [hq] at hcall
          have HQ := keep hq
          clear hq
          go_wp2_with fail
          refine hcall.mono ?_
          rintro r w' ⟨rfl, rfl⟩
          go_wp2
          go_roundg (n - (kk + 1))
          case measure => omega
          case rel =>
            refine ⟨kk + 1, by omega, by omega, by go_num, BW.out.alloc BW.out.size _, (show Kept _ from fun j e' hj he' => ?_)⟩
            by_cases e : j = kk
            · subst e
              rw [HE.out] at he'
              cases he'
              exact HQ.out
            · exact A.out j e' (by omega) he'
      · have hltz : ¬ (kk : Int) < (n : Int) := by omega
        have : kk = n := by omega
        subst this
        go_wp2
        go_ret
        exact ⟨⟨-1, rfl, .inl ⟨rfl, key_no (fun j e hj he => A.out j e (by rw [← HN.out]; exact hj) he)⟩⟩, BW.out⟩
theorem cfind_any (w : World) (v : Value) (c : List Ent) (key : ByteArray) (h : Chn w v c) :
    Calls Tryz.prog 237 #[v, .string key] w fun e w' => (∃ r : Int, e = .returned (.int .i64 r) ∧ Found c key r) ∧ Below w.heap.size w w' := by
  have mI := index_any (w.alloc (.cells #[.string key] 9)) v c key w.heap.size (by simp) (h.alloc _)
  have hmf : ∀ (fn : Fn) (first cap : Array Value) (w : World), (Instr.makeFunc fn first cap).run Tryz.prog w = .ok (.func fn first cap) w := fun _ _ _ _ => rfl
  clear h
  go_enter Tryz.func237, Tryz.ntmps237
  go_wp2_with fail
  refine mI.mono ?_
  rintro e w' ⟨⟨r, rfl, hf⟩, hb⟩
  go_wp2
  go_ret
  exact ⟨⟨r, rfl, hf⟩, ((Below.refl _ w).alloc (Nat.le_refl _) _).trans (hb.mono (by simp))⟩
theorem of_any (w : World) (ao : Option Addr) (n cap x : Nat) (hn : 0 < n) (hm : n ≤ maxLen) (hx : x < Dw.M) :
    Calls Tryz.prog 236 #[.slice ao n cap, .int .u64 x] w fun e w' => e = .returned (.int .i64 (x % n : Nat)) ∧ w' = w := by
  unfold maxLen at hm
  have hx' := Dw.le_of hx
  have h1 : IntKind.u64.wrap (n : Int) = (n : Int) := by rw [IntKind.wrap_u64]; omega
  have h2 : ((n : Int) == 0) = false := beq_eq_false_iff_ne.2 (by omega)
  have h2' : 1 ≤ (n : Int) := by omega
  have h3 : x % n < n := Nat.mod_lt _ hn
  clear hx
  go_enter Tryz.func236, Tryz.ntmps236
  go_wp2
  go_ret
  exact ⟨ret_u (by simp), rfl⟩
end Go.Proofs.YtmgeaanbgjbkcaaGreat.DS

namespace Go.Proofs.YtmgeaanbgjbkcaaGreat.DS
open Go.RowKit Go.Shelf
theorem info_ent : (Tryz.prog.info? 264).map (fun i => (i.zero, i.size, i.bytes)) = some (some (.agg #[.string .empty, .string .empty]), 2, 32) := by kernel_rfl
def Tr (t : Nat) (w : World) (r : Roles) (w' : World) (r' : Roles) : Prop :=
  (w'.os = w.os ∧ w'.tape = w.tape ∧ w'.output = w.output) ∧ w.heap.size ≤ w'.heap.size ∧ (∀ k, k < w.heap.size → (r k).1 ≠ 1 + t → (r k).1 ≠ 3 + t → w'.heap[k]? = w.heap[k]? ∧ r' k = r k) ∧ (∀ k, r' k ≠ (0, 0) → r k ≠ (0, 0) ∨ (w.heap.size ≤ k ∧ k < w'.heap.size)) ∧ ∀ (k : Nat) (o : Obj), w.heap[k]? = some o → o.isCells = false → w'.heap[k]? = some o
def hs (seed : Nat) (k : ByteArray) : Nat := Dw.hsh seed k.data.toList
def HashIs (seed : Nat) (h : ByteArray → Nat) : Prop := ∀ k : ByteArray, k.size ≤ maxLen → h k < Dw.M ∧ ∀ w, Calls Tryz.prog 235 #[.int .u64 seed, .string k] w fun e w' => e = .returned (.int .u64 (h k : Nat)) ∧ w' = w
theorem hs_is (seed : Nat) (hsd : seed < Dw.M) : HashIs seed (hs seed) := by
  intro k hk
  unfold hs
  exact ⟨Dw.hsh_lt _ _, fun w => hash_any seed k w hk hsd⟩
theorem push_put {w w3 : World} {r : Roles} {t g cap gg cap' : Nat} {T : Dc.Tab ByteArray ByteArray} {i : Nat} {c : List Ent} {v : Value} {e : Ent} (hT : Tb w r t (.slice (some ⟨g, 0, none⟩) T.length cap) T) (hi : T[i]? = some c) (hcv : Chn w v c) (hv : ∀ k, v.ownBlock = some k → r k = (3 + t, i)) (hs : w.heap.size + 2 ≤ w3.heap.size) (ho : w3.os = w.os ∧ w3.tape = w.tape ∧ w3.output = w.output) (hk : ∀ k, k < w.heap.size → some k ≠ v.ownBlock → w3.heap[k]? = w.heap[k]?)
    (hown : w3.ownsRow 0 264 2 (.slice (some ⟨gg, 0, none⟩) (c.length + 1) cap') (c.length + 1) (enC c ++ enE e)) (hat : v.ownBlock = some gg ∨ gg = w.heap.size + 2) (hlt : gg < w3.heap.size) :
    Tb (w3.setCell ⟨g, i, none⟩ (.slice (some ⟨gg, 0, none⟩) (c.length + 1) cap')) (role r (.slice (some ⟨gg, 0, none⟩) (c.length + 1) cap') (3 + t, i)) t (.slice (some ⟨g, 0, none⟩) T.length cap) (T.set i (e :: c)) ∧
      Tr t w r (w3.setCell ⟨g, i, none⟩ (.slice (some ⟨gg, 0, none⟩) (c.length + 1) cap')) (role r (.slice (some ⟨gg, 0, none⟩) (c.length + 1) cap') (3 + t, i)) := by
  obtain ⟨vs, q1, q2, q3⟩ := id hT
  have hrg := q2 g rfl
  have hgl := own_lt q1 (k := g) rfl
  have hgv : some g ≠ v.ownBlock := fun h => by have := hv g h.symm; rw [hrg] at this; simp at this
  refine ⟨hT.put hi (hk g hgl hgv) (fun k j hl hrk hj => hk k hl (fun h => ?_)) (by unfold Chn; rw [enC_cons]; exact hown) (fun k h => ?_), ⟨ho, by simp [World.setCell]; omega, fun k hl h1 h3 => ?_, fun k h => ?_, fun k o h1 h2 => ?_⟩⟩
  · have := hv k h.symm
    rw [hrk] at this
    simp at this
    exact hj this
  · obtain rfl : gg = k := by cases h; rfl
    rcases hat with h | h
    · exact .inl (hv gg h)
    · exact .inr (by omega)
  · have hkg : k ≠ g := fun h => h1 (by rw [h, hrg])
    have hkv : some k ≠ v.ownBlock := fun h => h3 (by rw [hv k h.symm])
    refine ⟨by rw [Below.heap_setCell _ _ _ _ hkg]; exact hk k hl hkv, ?_⟩
    unfold role
    rw [if_neg]
    intro h
    obtain rfl : gg = k := by cases h; rfl
    rcases hat with h | h
    · exact hkv h.symm
    · omega
  · unfold role at h
    split at h
    · rename_i hh
      obtain rfl : gg = k := by cases hh; rfl
      rcases hat with h' | h'
      · exact .inl (by rw [hv gg h']; simp)
      · exact .inr ⟨by omega, by simpa [World.setCell] using hlt⟩
    · exact .inl h
  · have hkl : k < w.heap.size := (Array.getElem?_eq_some_iff.1 h1).1
    have hkg : k ≠ g := fun e => by
      rcases q1.2 with ⟨e', _⟩ | ⟨g', cap', cur, e', _, hh, _⟩
      · cases e'
      · cases e'
        rw [e, hh] at h1
        cases h1
        cases h2
    have hkv : some k ≠ v.ownBlock := fun e => by
      rcases hcv.2 with ⟨rfl, _⟩ | ⟨g', cap', cur, rfl, _, hh, _⟩
      · cases e
      · cases e
        rw [hh] at h1
        cases h1
        cases h2
    rw [Below.heap_setCell _ _ _ _ hkg, hk k hkl hkv]
    exact h1
theorem push_is {h : ByteArray → Nat} {T : Dc.Tab ByteArray ByteArray} {e : Ent} {c : List Ent} (hc : T[h e.1 % T.length]? = some c) : Dc.push h T e = T.set (h e.1 % T.length) (e :: c) := by
  unfold Dc.push
  rw [List.modify_eq_set, hc]
  rfl
theorem two_new (w : World) (o1 o2 : Obj) : ((w.alloc o1).alloc o2).drew.heap[w.heap.size + 1]? = some o2 := by
  have := heap_alloc_new (w.alloc o1) o2
  rw [World.size_alloc] at this
  exact this
theorem two_cell {w : World} {a : Addr} {v : Value} (h : w.cell? a = some v) (o1 o2 : Obj) : ((w.alloc o1).alloc o2).drew.cell? a = some v := by
  have hl := World.block_lt_of_cell? w _ h
  rw [← h]
  refine World.cell?_of_block ?_
  show ((w.alloc o1).alloc o2).heap[a.block]? = w.heap[a.block]?
  rw [Below.heap_alloc _ _ _ (by simp; omega), Below.heap_alloc _ _ _ hl]
theorem two_frozen {w : World} {a : Addr} {v : Value} (h : w.cell? a = some v) (hf : w.frozen? a = false) (o1 o2 : Obj) : ((w.alloc o1).alloc o2).drew.frozen? a = false := by
  have hl := World.block_lt_of_cell? w _ h
  rw [← hf]
  refine World.frozen?_of_block ?_
  show ((w.alloc o1).alloc o2).heap[a.block]? = w.heap[a.block]?
  rw [Below.heap_alloc _ _ _ (by simp; omega), Below.heap_alloc _ _ _ hl]
theorem two_size {w w3 : World} {o1 o2 : Obj} {row : Option Nat} (h : ((w.alloc o1).alloc o2).drew.grownBy w3 row) : w.heap.size + 2 ≤ w3.heap.size := by
  have := h.size
  have e : ((w.alloc o1).alloc o2).drew.heap.size = w.heap.size + 2 := by show ((w.alloc o1).alloc o2).heap.size = _; simp
  omega
theorem two_block {w w3 : World} {o1 o2 : Obj} {row : Option Nat} (h : ((w.alloc o1).alloc o2).drew.grownBy w3 row) (k : Nat) (hk : k < w.heap.size) (hne : some k ≠ row) : w3.heap[k]? = w.heap[k]? := by
  have e : ((w.alloc o1).alloc o2).drew.heap.size = w.heap.size + 2 := by show ((w.alloc o1).alloc o2).heap.size = _; simp
  rw [h.block k (by omega) hne]
  show ((w.alloc o1).alloc o2).heap[k]? = _
  rw [Below.heap_alloc _ _ _ (by simp; omega), Below.heap_alloc _ _ _ hk]
theorem one_cell {w : World} {a : Addr} {v : Value} (h : w.cell? a = some v) (o1 : Obj) : (w.alloc o1).drew.cell? a = some v := by
  have hl := World.block_lt_of_cell? w _ h
  rw [← h]
  refine World.cell?_of_block ?_
  show (w.alloc o1).heap[a.block]? = w.heap[a.block]?
  rw [Below.heap_alloc _ _ _ hl]
def heldB (B : Nat) (e1 : ByteArray) (e2 : ByteArray) (w : World) : Prop := w.cell? ⟨B, 0, none⟩ = some (.string e1) ∧ w.cell? ⟨B, 1, none⟩ = some (.string e2)
theorem heldB_new (w : World) (e1 : ByteArray) (e2 : ByteArray) : heldB w.heap.size e1 e2 (w.alloc (.cells #[.string e1, .string e2] 264)).drew := by
  have h : (w.alloc (.cells #[.string e1, .string e2] 264)).drew.heap[w.heap.size]? = _ := heap_alloc_new w (.cells #[.string e1, .string e2] 264)
  exact ⟨by rw [cell_of_row _ _ _ _ _ _ h]; rfl, by rw [cell_of_row _ _ _ _ _ _ h]; rfl⟩
theorem heldB_kept {B : Nat} {e1 : ByteArray} {e2 : ByteArray} {w w' : World} (h : heldB B e1 e2 w) (hk : w'.heap[B]? = w.heap[B]?) : heldB B e1 e2 w' :=
  ⟨(World.cell?_of_block (w := w) (a := ⟨B, 0, none⟩) hk).trans h.1, (World.cell?_of_block (w := w) (a := ⟨B, 1, none⟩) hk).trans h.2⟩
theorem heldB_alloc {B : Nat} {e1 : ByteArray} {e2 : ByteArray} {w : World} (h : heldB B e1 e2 w) (o : Obj) : heldB B e1 e2 (w.alloc o) :=
  heldB_kept h (Below.heap_alloc _ _ _ (World.block_lt_of_cell? w _ h.1))
theorem heldB_set {B g i : Nat} {e1 : ByteArray} {e2 : ByteArray} {w : World} (h : heldB B e1 e2 w) (hne : ¬ g = B) (u : Value) : heldB B e1 e2 (w.setCell ⟨g, i, none⟩ u) :=
  heldB_kept h (Below.heap_setCell _ _ _ _ (fun e => hne e.symm))
theorem heldB_far {B : Nat} {e1 : ByteArray} {e2 : ByteArray} {w w' : World} {row : Option Nat} (h : heldB B e1 e2 w) (hg : w.grownBy w' row) (_ : True) (hne : row ≠ some B) : heldB B e1 e2 w' :=
  heldB_kept h (hg.block B (World.block_lt_of_cell? w _ h.1) (Ne.symm hne))
set_option maxRecDepth 100000 in
theorem push_any {h : ByteArray → Nat} {seed : Nat} (hH : HashIs seed h) (w : World) (r : Roles) (t g cap : Nat) (T : Dc.Tab ByteArray ByteArray) (e : Ent) (hT : Tb w r t (.slice (some ⟨g, 0, none⟩) T.length cap) T) (hn : 0 < T.length) (hm : T.length ≤ maxLen) (hk : e.1.size ≤ maxLen)
    (hr : ∀ k, r k ≠ (0, 0) → k < w.heap.size) (hlen : ∀ c ∈ T, c.length ≤ 2600000000000) :
    Calls Tryz.prog 198 #[.slice (some ⟨g, 0, none⟩) T.length cap, .int .u64 seed, .agg #[.string e.1, .string e.2]] w fun x w' => x = .returned (.tuple #[]) ∧ ∃ r', Tb w' r' t (.slice (some ⟨g, 0, none⟩) T.length cap) (Dc.push h T e) ∧ Tr t w r w' r' := by
  have hlt : h e.1 % T.length < T.length := Nat.mod_lt _ hn
  obtain ⟨c, hc⟩ : ∃ c, T[h e.1 % T.length]? = some c := ⟨_, List.getElem?_eq_getElem hlt⟩
  rw [push_is hc]
  obtain ⟨v, hv1, hv2, hv3⟩ := hT.at hc
  obtain ⟨vs, q1, q2, q3⟩ := id hT
  have hrg := q2 g rfl
  have hgl := own_lt q1 (k := g) rfl
  clear q1 q2 q3
  have hgv : v.ownBlock ≠ some g := fun h => by have := hv3 g h; rw [hrg] at this; simp at this
  have hcl := hlen c (List.mem_of_getElem? hc)
  have mH := (hH e.1 hk).2 (w.alloc (.cells #[.string e.1, .string e.2] 264))
  have mO := of_any (w.alloc (.cells #[.string e.1, .string e.2] 264)) (some ⟨g, 0, none⟩) T.length cap (h e.1) hn hm (hH e.1 hk).1
  have hfr := hT.free (h e.1 % T.length)
  have HPUT := keep (fun (w3 : World) (gg cap' : Nat) => push_put (w3 := w3) (gg := gg) (cap' := cap') (v := v) (e := e) hT hc hv2 hv3)
  obtain ⟨i0, hi0, hz0, hz1, hz2⟩ := info_parts info_ent
  have hvh : v.ownBlock ≠ some w.heap.size := fun h => by have := hr w.heap.size (by rw [hv3 _ h]; simp); omega
  have HV2 := keep hv2
  clear hT hlen hr hv3 hrg hc hk hm hv2 hH
  generalize h e.1 = x at *
  generalize hx : x % T.length = i at *
  clear hx
  have hi0' : (0 : Int) ≤ (i : Int) := Int.natCast_nonneg _
  have hi1 : (i : Int) < (T.length : Int) := by omega
  generalize T.length = n at *
  obtain ⟨e1, e2⟩ := e
  dsimp only at *
  have hne : ¬ g = w.heap.size := by omega
  go_enter Tryz.func198, Tryz.ntmps198
  go_wp2_with fail
  refine mH.mono ?_
  rintro _ w' ⟨rfl, hw'⟩
  subst hw'
  go_wp2_with fail
  refine mO.mono ?_
  rintro _ w' ⟨rfl, hw'⟩
  subst hw'
  clear mH mO hn hlt
  go_wp2_with fail
  refine wp_region_held_drew (S := heldB w.heap.size e1 e2) (by kernel_rfl) (heldB_new w e1 e2) (fun hHeld => ?_)
  refine wpAnyH_take (i := 0) (oi := ⟨some 13, _, _, _, _, _⟩) (v := ?v1) rfl (by kernel_rfl) (by kernel_rfl) (by kernel_rfl) (fun _ _ _ h => h) (Or.inl ⟨by rfl, ?hy1⟩) (by assumption) ?rest1
  case hy1 => (intro w hSw; go_simp; try with_reducible rfl)
  try simp only [Act.put, List.setIfInBounds_toArray, List.set_cons_zero, List.set_cons_succ]
  refine wpAnyH_take (i := 1) (oi := ⟨some 14, _, _, _, _, _⟩) (v := ?v2) rfl (by kernel_rfl) (by kernel_rfl) (by kernel_rfl) (fun _ _ _ h => h) (Or.inl ⟨by rfl, ?hy2⟩) (by assumption) ?rest2
  case hy2 => (intro w hSw; go_simp; try with_reducible rfl)
  try simp only [Act.put, List.setIfInBounds_toArray, List.set_cons_zero, List.set_cons_succ]
  refine wpAnyH_take (i := 2) (oi := ⟨some 15, _, _, _, _, _⟩) (v := ?v3) rfl (by kernel_rfl) (by kernel_rfl) (by kernel_rfl) (fun _ _ _ h => h) (Or.inl ⟨by rfl, ?hy3⟩) (by assumption) ?rest3
  case hy3 => (intro w hSw; go_simp; try with_reducible rfl)
  try simp only [Act.put, List.setIfInBounds_toArray, List.set_cons_zero, List.set_cons_succ]
  refine wpAnyH_take (i := 3) (oi := ⟨some 16, _, _, _, _, _⟩) (v := ?v4) rfl (by kernel_rfl) (by kernel_rfl) (by kernel_rfl) (fun _ _ _ h => h) (Or.inl ⟨by rfl, ?hy4⟩) (by assumption) ?rest4
  case hy4 => (intro w hSw; go_simp; try with_reducible rfl)
  try simp only [Act.put, List.setIfInBounds_toArray, List.set_cons_zero, List.set_cons_succ]
  refine wpAnyH_take (i := 4) (oi := ⟨some 17, _, _, _, _, _⟩) (v := ?v5) rfl (by kernel_rfl) (by kernel_rfl) (by kernel_rfl) (fun _ _ _ h => h) (Or.inl ⟨by rfl, ?hy5⟩) (by assumption) ?rest5
  case hy5 => (intro w hSw; go_simp; try with_reducible rfl)
  try simp only [Act.put, List.setIfInBounds_toArray, List.set_cons_zero, List.set_cons_succ]
  refine wpAnyH_take (i := 6) (oi := ⟨some 19, _, _, _, _, _⟩) (v := ?v6) rfl (by kernel_rfl) (by kernel_rfl) (by kernel_rfl) (fun _ _ _ h => h) (Or.inl ⟨by rfl, ?hy6⟩) (by assumption) ?rest6
  case hy6 => (intro w hSw; obtain ⟨q0, q1⟩ := hSw; go_simp; try with_reducible rfl)
  try simp only [Act.put, List.setIfInBounds_toArray, List.set_cons_zero, List.set_cons_succ]
  refine wpAnyH_ready (rs := [5, 7]) (by kernel_rfl) (by simp) ?_
  refine AllReadyH.cons (o := ⟨some 18, _, _, _, _, _⟩) rfl (fun K hK => ?_) (AllReadyH.cons (o := ⟨some 20, _, _, _, _, _⟩) rfl (fun K hK => ?_) AllReadyH.nil)
  · have hg1 := one_cell hv1 (.cells #[.string e1, .string e2] 264)
    go_simp
    refine hK.out _ _ hHeld (fun hHeld => ?_)
    try simp only [Act.put, List.setIfInBounds_toArray, List.set_cons_zero, List.set_cons_succ]
    refine wpAnyH_ready (rs := [7]) (by kernel_rfl) (by simp) ?_
    refine AllReadyH.cons (o := ⟨some 20, _, _, _, _, _⟩) rfl (fun K hK => ?_) AllReadyH.nil
    go_simp
    refine hK.out _ _ (heldB_alloc hHeld _) (fun hHeld => ?_)
    try simp only [Act.put, List.setIfInBounds_toArray, List.set_cons_zero, List.set_cons_succ]
    refine wpAnyH_ready (rs := [8]) (by kernel_rfl) (by simp) ?_
    refine AllReadyH.cons (o := ⟨some 21, _, _, _, _, _⟩) rfl (fun K hK => ?_) AllReadyH.nil
    refine step_append_lies _ (by rfl) _ _ _ (by rfl) 0 264 i0 _ 2 32 Tryz.underlying260 hi0 hz0 hz1 hz2 rfl (by omega) v c.length (enC c) (by rfl) (((HV2.out).alloc _).alloc _).drew
        ⟨w.heap.size + 1, 0, none⟩ 1 1 [.string e1, .string e2] (by rfl) (by rfl) (World.news_of_block (cs := #[.string e1, .string e2]) (t := 264) (fr := (0, 0)) (two_new w _ _)) (by simp [Value.oneCell'])
        (by omega) (by unfold maxLen; omega) (by omega) (by simp) (w.heap.size + 2) (by simp) ?_
    intro gg cap' w3 hown hgrow hat hlt3
    have hc3 : w3.cell? ⟨g, i, none⟩ = some v := (by rw [hgrow.cell_far _ (by simp; omega) (Ne.symm hgv)]; exact two_cell hv1 _ _)
    have hf3 : w3.frozen? ⟨g, i, none⟩ = false := (by rw [hgrow.frozen_far _ (by simp; omega) (Ne.symm hgv)]; exact two_frozen hv1 hfr _ _)
    refine hK.out _ _ (heldB_far hHeld hgrow (by simp) hvh) (fun hHeld => ?_)
    try simp only [Act.put, List.setIfInBounds_toArray, List.set_cons_zero, List.set_cons_succ]
    refine wpAnyH_take (i := 9) (oi := ⟨some 22, _, _, _, _, _⟩) (v := ?v7) rfl (by kernel_rfl) (by kernel_rfl) (by kernel_rfl) (fun _ _ _ h => h) (Or.inl ⟨by rfl, ?hy7⟩) (by assumption) ?rest7
    case hy7 => (intro w hSw; go_simp; try with_reducible rfl)
    try simp only [Act.put, List.setIfInBounds_toArray, List.set_cons_zero, List.set_cons_succ]
    refine wpAnyH_ready (rs := [10]) (by kernel_rfl) (by simp) ?_
    refine AllReadyH.cons (o := ⟨none, _, _, _, _, _⟩) rfl (fun K hK => ?_) AllReadyH.nil
    go_simp
    refine hK.out _ _ (heldB_set hHeld hne _) (fun hHeld => ?_)
    refine wpAnyH_done (by kernel_rfl) ?_ _
    go_wp2
    go_end0
    exact ⟨rfl, _, HPUT.out w3 gg cap' (two_size hgrow) ⟨hgrow.os, hgrow.tape, hgrow.output⟩ (two_block hgrow) hown hat hlt3⟩
  · go_simp
    refine hK.out _ _ (heldB_alloc hHeld _) (fun hHeld => ?_)
    try simp only [Act.put, List.setIfInBounds_toArray, List.set_cons_zero, List.set_cons_succ]
    refine wpAnyH_ready (rs := [5]) (by kernel_rfl) (by simp) ?_
    refine AllReadyH.cons (o := ⟨some 18, _, _, _, _, _⟩) rfl (fun K hK => ?_) AllReadyH.nil
    have hg1 := two_cell hv1 (.cells #[.string e1, .string e2] 264) (.cells #[.string e1, .string e2] 264)
    go_simp
    refine hK.out _ _ hHeld (fun hHeld => ?_)
    try simp only [Act.put, List.setIfInBounds_toArray, List.set_cons_zero, List.set_cons_succ]
    refine wpAnyH_ready (rs := [8]) (by kernel_rfl) (by simp) ?_
    refine AllReadyH.cons (o := ⟨some 21, _, _, _, _, _⟩) rfl (fun K hK => ?_) AllReadyH.nil
    refine step_append_lies _ (by rfl) _ _ _ (by rfl) 0 264 i0 _ 2 32 Tryz.underlying260 hi0 hz0 hz1 hz2 rfl (by omega) v c.length (enC c) (by rfl) (((HV2.out).alloc _).alloc _).drew
        ⟨w.heap.size + 1, 0, none⟩ 1 1 [.string e1, .string e2] (by rfl) (by rfl) (World.news_of_block (cs := #[.string e1, .string e2]) (t := 264) (fr := (0, 0)) (two_new w _ _)) (by simp [Value.oneCell'])
        (by omega) (by unfold maxLen; omega) (by omega) (by simp) (w.heap.size + 2) (by simp) ?_
    intro gg cap' w3 hown hgrow hat hlt3
    have hc3 : w3.cell? ⟨g, i, none⟩ = some v := (by rw [hgrow.cell_far _ (by simp; omega) (Ne.symm hgv)]; exact two_cell hv1 _ _)
    have hf3 : w3.frozen? ⟨g, i, none⟩ = false := (by rw [hgrow.frozen_far _ (by simp; omega) (Ne.symm hgv)]; exact two_frozen hv1 hfr _ _)
    refine hK.out _ _ (heldB_far hHeld hgrow (by simp) hvh) (fun hHeld => ?_)
    try simp only [Act.put, List.setIfInBounds_toArray, List.set_cons_zero, List.set_cons_succ]
    refine wpAnyH_take (i := 9) (oi := ⟨some 22, _, _, _, _, _⟩) (v := ?v8) rfl (by kernel_rfl) (by kernel_rfl) (by kernel_rfl) (fun _ _ _ h => h) (Or.inl ⟨by rfl, ?hy8⟩) (by assumption) ?rest8
    case hy8 => (intro w hSw; go_simp; try with_reducible rfl)
    try simp only [Act.put, List.setIfInBounds_toArray, List.set_cons_zero, List.set_cons_succ]
    refine wpAnyH_ready (rs := [10]) (by kernel_rfl) (by simp) ?_
    refine AllReadyH.cons (o := ⟨none, _, _, _, _, _⟩) rfl (fun K hK => ?_) AllReadyH.nil
    go_simp
    refine hK.out _ _ (heldB_set hHeld hne _) (fun hHeld => ?_)
    refine wpAnyH_done (by kernel_rfl) ?_ _
    go_wp2
    go_end0
    exact ⟨rfl, _, HPUT.out w3 gg cap' (two_size hgrow) ⟨hgrow.os, hgrow.tape, hgrow.output⟩ (two_block hgrow) hown hat hlt3⟩
end Go.Proofs.YtmgeaanbgjbkcaaGreat.DS

namespace Go.Proofs.YtmgeaanbgjbkcaaGreat.DS
open Go.RowKit Go.Shelf
theorem tab_len {w : World} {r : Roles} {t : Nat} {tv : Value} {T : Dc.Tab ByteArray ByteArray} (h : Tb w r t tv T) : ∃ ao cap, tv = .slice ao T.length cap ∧ (T = [] ∨ ∃ g, ao = some ⟨g, 0, none⟩ ∧ r g = (1 + t, 0)) := by
  cases T with
  | nil => obtain ⟨ao, cap, rfl⟩ := h.empty; exact ⟨ao, cap, rfl, .inl rfl⟩
  | cons c T => obtain ⟨g, cap, rfl, hr, _⟩ := h.form (by simp); exact ⟨_, cap, rfl, .inr ⟨g, rfl, hr⟩⟩
theorem Dct.cells {w : World} {r : Roles} {b seed n : Nat} {s : Dc.St ByteArray ByteArray} (h : Dct w r b seed n s) : ∃ ao ca bo cb, Tb w r 0 (.slice ao s.old.length ca) s.old ∧ Tb w r 1 (.slice bo s.young.length cb) s.young ∧ w.heap[b]? = some (.cells #[.int .u64 seed, .int .i64 n, .slice ao s.old.length ca, .slice bo s.young.length cb, .int .i64 s.pos] 242 (0, 0)) := by
  obtain ⟨h1, h2, ov, yv, h3, h4, h5⟩ := h
  obtain ⟨ao, ca, rfl, _⟩ := tab_len h4
  obtain ⟨bo, cb, rfl, _⟩ := tab_len h5
  exact ⟨ao, ca, bo, cb, h4, h5, h3⟩
theorem five {w : World} {b : Nat} {v0 v1 v2 v3 v4 : Value} {t : TypeId} (h : w.heap[b]? = some (.cells #[v0, v1, v2, v3, v4] t (0, 0))) :
    w.cell? ⟨b, 0, none⟩ = some v0 ∧ w.cell? ⟨b, 1, none⟩ = some v1 ∧ w.cell? ⟨b, 2, none⟩ = some v2 ∧ w.cell? ⟨b, 3, none⟩ = some v3 ∧ w.cell? ⟨b, 4, none⟩ = some v4 ∧ ∀ i, w.frozen? ⟨b, i, none⟩ = false := by
  refine ⟨?_, ?_, ?_, ?_, ?_, fun i => ?_⟩ <;> simp [World.cell?, World.frozen?, h]
theorem moving_any (w : World) (b : Nat) (bo : Option Addr) (n cb : Nat) (h : w.cell? ⟨b, 3, none⟩ = some (.slice bo n cb)) :
    Calls Tryz.prog 197 #[.pointer (some ⟨b, 0, none⟩)] w fun e w' => e = .returned (.bool (decide (0 < n))) ∧ w' = w := by
  go_enter Tryz.func197, Tryz.ntmps197
  go_wp2
  go_ret
  exact ⟨by simp, rfl⟩
def Only (b : Nat) (w w' : World) : Prop := (w'.os = w.os ∧ w'.tape = w.tape ∧ w'.output = w.output) ∧ w'.heap.size = w.heap.size ∧ ∀ k, k ≠ b → w'.heap[k]? = w.heap[k]?
theorem Only.refl (b : Nat) (w : World) : Only b w w := ⟨⟨rfl, rfl, rfl⟩, rfl, fun _ _ => rfl⟩
theorem Only.trans {b : Nat} {w w1 w2 : World} (h : Only b w w1) (g : Only b w1 w2) : Only b w w2 :=
  ⟨⟨g.1.1.trans h.1.1, g.1.2.1.trans h.1.2.1, g.1.2.2.trans h.1.2.2⟩, g.2.1.trans h.2.1, fun k hk => (g.2.2 k hk).trans (h.2.2 k hk)⟩
theorem Only.setCell {b : Nat} {w w' : World} (h : Only b w w') (i : Nat) (u : Value) : Only b w (w'.setCell ⟨b, i, none⟩ u) :=
  h.trans ⟨⟨rfl, rfl, rfl⟩, by simp [World.setCell], fun k hk => Below.heap_setCell _ _ _ _ hk⟩
theorem Only.drew {b : Nat} {w w' : World} (h : Only b w w') : Only b w w'.drew := ⟨h.1, h.2⟩
theorem Only.tab {b : Nat} {w w' : World} {r : Roles} {t : Nat} {tv : Value} {T : Dc.Tab ByteArray ByteArray} (h : Only b w w') (hb : r b = (5, 0)) (ht : t ≤ 1) (hT : Tb w r t tv T) : Tb w' r t tv T :=
  hT.kept fun k _ hr => ⟨h.2.2 k (fun e => by rw [e, hb] at hr; simp at hr; omega), rfl⟩
theorem Only.fr {b : Nat} {w w' : World} {r : Roles} (h : Only b w w') (hb : r b = (5, 0)) : Fr w r w' r :=
  ⟨h.1, by rw [h.2.1]; exact Nat.le_refl _, fun k _ hr => ⟨h.2.2 k (fun e => by rw [e, hb] at hr; simp at hr), hr⟩⟩
theorem Only.dct {b seed n n' : Nat} {w w' : World} {r : Roles} {s s' : Dc.St ByteArray ByteArray} {ov yv : Value} (h : Only b w w') (hd : Dct w r b seed n s) (hc : w'.heap[b]? = some (.cells #[.int .u64 seed, .int .i64 n', ov, yv, .int .i64 s'.pos] 242 (0, 0))) (ho : Tb w r 0 ov s'.old) (hy : Tb w r 1 yv s'.young) : Dct w' r b seed n' s' :=
  ⟨fun k hk => by rw [h.2.1]; exact hd.1 k hk, hd.2.1, ov, yv, hc, h.tab hd.2.1 (by omega) ho, h.tab hd.2.1 (by omega) hy⟩
theorem chn_len {w : World} {v : Value} {c : List Ent} (h : Chn w v c) : ∃ ao cap, v = .slice ao c.length cap := by
  rcases h.form with ⟨rfl, rfl⟩ | ⟨g, cap, rfl, _⟩
  · exact ⟨none, 0, rfl⟩
  · exact ⟨_, cap, rfl⟩
theorem skip_full {n p : Nat} {T : Dc.Tab ByteArray ByteArray} {e : Ent} {c : List Ent} (h : T[p]? = some (e :: c)) : Dc.skip n T p = p := by
  cases n with
  | zero => rfl
  | succ n => simp only [Dc.skip]; rw [h]; rfl
theorem skip_end {n p : Nat} {T : Dc.Tab ByteArray ByteArray} (h : T.length ≤ p) : Dc.skip n T p = p := by
  cases n with
  | zero => rfl
  | succ n => simp only [Dc.skip]; rw [List.getElem?_eq_none h]; rfl
theorem skip_on {n p : Nat} {T : Dc.Tab ByteArray ByteArray} (h : T[p]? = some []) : Dc.skip (n + 1) T p = Dc.skip n T (p + 1) := by
  simp only [Dc.skip]; rw [h]; rfl
theorem set_at {a0 a1 a2 a3 a4 u : Value} : (#[a0, a1, a2, a3, a4] : Array Value).setIfInBounds 4 u = #[a0, a1, a2, a3, u] := rfl
theorem pass_any (w : World) (r : Roles) (b seed n : Nat) (s : Dc.St ByteArray ByteArray) (h : Dct w r b seed n s) (hp : s.pos ≤ s.old.length) (hm : s.old.length ≤ maxLen) :
    Calls Tryz.prog 233 #[.pointer (some ⟨b, 0, none⟩)] w fun e w' => e = .returned (.tuple #[]) ∧ Dct w' r b seed n { s with pos := Dc.skip 10 s.old s.pos } ∧ Only b w w' := by
  obtain ⟨ao, ca, bo, cb, h4, h5, h3⟩ := h.cells
  have HD := keep h
  have H4 := keep h4
  have H5 := keep h5
  have hrb := keep h.2.1
  unfold maxLen at hm
  have H3 := keep h3
  clear h h4 h5 h3
  generalize hL : s.old.length = L at *
  have HL := keep hL
  clear hL
  go_enter Tryz.func233, Tryz.ntmps233
  go_wp2
  go_loopw [2] (fun i wr => ∃ (k p : Nat), k ≤ 10 ∧ i = .int .i64 k ∧ p ≤ L ∧ Kept (wr.heap[b]? = some (.cells #[.int .u64 seed, .int .i64 n, .slice ao L ca, .slice bo s.young.length cb, .int .i64 p] 242 (0, 0))) ∧ Kept (Only b w wr) ∧ Kept (Dc.skip (10 - k) s.old p = Dc.skip 10 s.old s.pos)) (fun i _ => 10 - (intOf i).toNat)
  case atStart => exact ⟨0, s.pos, by omega, rfl, hp, H3, Only.refl _ _, rfl⟩
  case round =>
    obtain ⟨k, p, hk, rfl, hpL, K3, KO, KS⟩ := hrel
    obtain ⟨c0, c1, c2, c3, c4, cf⟩ := five K3.out
    by_cases hk10 : k < 10
    · have hk1 : (k : Int) < 10 := by omega
      by_cases hpe : p = L
      · have he : ((p : Int) == (L : Int)) = true := by rw [hpe]; simp
        have hS := keep (skip_end (n := 10 - k) (p := p) (T := s.old) (by rw [HL.out]; omega))
        clear cf c0 c1 c3
        go_wp2_with fail
        go_region
        all_goals go_wp2
        refine bodyPost_ret (results_none rfl _ _ _) rfl ?_
        refine ⟨rfl, KO.out.drew.dct HD.out (s' := { s with pos := Dc.skip 10 s.old s.pos }) ?_ H4.out H5.out, KO.out.drew⟩
        have e : Dc.skip 10 s.old s.pos = p := by rw [← KS.out, hS.out]
        rw [e]
        exact K3.out
      · have hpl : p < L := by omega
        have he : ((p : Int) == (L : Int)) = false := beq_eq_false_iff_ne.2 (by omega)
        obtain ⟨g, ca', e4, hrg, hgl⟩ := H4.out.form (by rw [HL.out]; omega)
        have e5 : ao = some ⟨g, 0, none⟩ := by injection e4
        clear e4
        subst e5
        have hbg : g ≠ b := fun e => by have := hrb.out; rw [← e, hrg] at this; simp at this
        obtain ⟨c, hc⟩ : ∃ c, s.old[p]? = some c := ⟨_, List.getElem?_eq_getElem (by rw [HL.out]; exact hpl)⟩
        obtain ⟨v, hv1, hv2, _⟩ := H4.out.at hc
        obtain ⟨co, cc, rfl⟩ := chn_len hv2
        have hcell : wr.cell? ⟨g, p, none⟩ = some (.slice co c.length cc) := by rw [World.cell?_of_block (w := w) (a := ⟨g, p, none⟩) (KO.out.2.2 g hbg)]; exact hv1
        have hp0 : (0 : Int) ≤ (p : Int) := by omega
        have hp1 : (p : Int) < (L : Int) := by omega
        clear hv1 hv2
        cases c with
        | cons e c =>
          have hS := keep (skip_full (n := 10 - k) hc)
          clear hc cf c0 c1 c3
          have hz : decide (0 < (e :: c).length) = true := by simp
          generalize (e :: c).length = m at *
          go_wp2_with fail
          go_region
          all_goals go_wp2
          refine bodyPost_ret (results_none rfl _ _ _) rfl ?_
          refine ⟨rfl, KO.out.drew.dct HD.out (s' := { s with pos := Dc.skip 10 s.old s.pos }) ?_ H4.out H5.out, KO.out.drew⟩
          have e : Dc.skip 10 s.old s.pos = p := by rw [← KS.out, hS.out]
          rw [e]
          exact K3.out
        | nil =>
          have hS := keep (skip_on (n := 10 - k - 1) hc)
          clear hc c0 c1 c3
          have hw : IntKind.i64.wrap ((p : Int) + 1) = ((p + 1 : Nat) : Int) := by rw [IntKind.wrap_i64]; omega
          have hcell : wr.cell? ⟨g, p, none⟩ = some (.slice co 0 cc) := hcell
          have f4 := cf 4
          clear cf
          go_wp2_with fail
          go_region
          all_goals go_wp2
          go_roundw
          case measure => simp [intOf]; omega
          case rel =>
            refine ⟨k + 1, p + 1, by omega, by go_num, by omega, ?_, KO.out.drew.setCell 4 _, ?_⟩
            · have := cells_setCell (i := 4) (u := .int .i64 ((p + 1 : Nat) : Int)) K3.out
              rw [set_at] at this
              exact this
            · show Dc.skip (10 - (k + 1)) s.old (p + 1) = Dc.skip 10 s.old s.pos
              rw [← KS.out, show 10 - k = (10 - k - 1) + 1 by omega, hS.out]
              congr 1
    · have hk1 : ¬ (k : Int) < 10 := by omega
      clear cf c0 c1 c2 c3 c4
      go_wp2
      go_end0
      refine ⟨rfl, KO.out.dct HD.out (s' := { s with pos := Dc.skip 10 s.old s.pos }) ?_ H4.out H5.out, KO.out⟩
      have e : Dc.skip 10 s.old s.pos = p := by rw [← KS.out, show 10 - k = 0 by omega]; rfl
      rw [e]
      exact K3.out
end Go.Proofs.YtmgeaanbgjbkcaaGreat.DS

namespace Go.Proofs.YtmgeaanbgjbkcaaGreat.DS
open Go.RowKit Go.Shelf
attribute [local go_sem] Oper.semAt_some
abbrev Bk (c : List Ent) : Type := { x : Nat × Ent // x.2 ∈ c }
def bkE {c : List Ent} (x : Bk c) : Array Value := #[.int .i64 (x.1.1 : Int), .agg #[.string x.1.2.1, .string x.1.2.2]]
def bks {c : List Ent} (l : List (Bk c)) : List Ent := l.map (fun x => x.1.2)
theorem bks_snoc {c : List Ent} {l : List (Bk c)} {x : Bk c} {m : Nat} {e : Ent} (h : x.1 = (m, e)) : bks (l ++ [x]) = bks l ++ [e] := by
  unfold bks
  rw [List.map_append, List.map_singleton, h]
def KpB (Bs : Nat) (v : Value) (A B : World) : Prop := B.heap[Bs]? = A.heap[Bs]? ∧ ∀ k, v.ownBlock = some k → B.heap[k]? = A.heap[k]?
theorem KpB.refl (Bs : Nat) (v : Value) (A : World) : KpB Bs v A A := ⟨rfl, fun _ _ => rfl⟩
theorem KpB.trans {Bs : Nat} {v : Value} {A B C : World} (h : KpB Bs v A B) (g : KpB Bs v B C) : KpB Bs v A C := ⟨g.1.trans h.1, fun k e => (g.2 k e).trans (h.2 k e)⟩
theorem rev_take {c : List Ent} {m : Nat} {e : Ent} (h : c.reverse[m]? = some e) : c.take (c.length - 1 - m + 1) = c.take (c.length - 1 - m) ++ [e] := by
  have hl : m < c.length := by have := (List.getElem?_eq_some_iff.1 h).1; simpa using this
  rw [List.getElem?_reverse hl] at h
  rw [List.take_succ_eq_append_getElem (by omega)]
  rw [List.getElem?_eq_getElem (by omega)] at h
  rw [Option.some.inj h]
set_option maxRecDepth 100000 in
theorem back1_in (n : Nat) (l Bs : Nat) (v : Value) (c : List Ent) (J Jx : List (Bk c) → World → Prop)
    (hY : ∀ pre x W1, J pre W1 → pre.length < c.length → YieldAt Fence.wide (n - 1) Tryz.prog l (bkE x) W1 fun e W' => (e = .returned (.bool true) ∧ J (pre ++ [x]) W' ∧ KpB Bs v W1 W') ∨ (e = .returned (.bool false) ∧ Jx (pre ++ [x]) W'))
    (W : World) (hBs : W.cell? ⟨Bs, 0, none⟩ = some v) (hC : Chn W v c) (h0 : J [] W) :
    CallsIn Fence.wide n Tryz.prog 280 #[.func (.yield l) #[] #[], .pointer (some ⟨Bs, 0, none⟩)] W fun e W' => (∃ v, e = .returned v) ∧ ((∃ xs, bks xs = c ∧ J xs W') ∨ (∃ pre, bks pre <+: c ∧ Jx pre W')) := by
  obtain ⟨co, cc, rfl⟩ := chn_len hC
  have hlen : c.length ≤ 9223372036854775807 := by
    rcases hC.form with ⟨_, rfl⟩ | ⟨g, cap, _, _, h1, h2⟩
    · simp
    · unfold maxLen at h2; omega
  have HC := keep hC
  have HY := keep hY
  have HB := keep hBs
  clear hC hY
  obtain ⟨L, hL⟩ : ∃ L, c.length = L := ⟨_, rfl⟩
  rw [hL] at hBs hlen
  have HL := keep hL
  have hw0 : IntKind.i64.wrap ((L : Int) - 1) = (L : Int) - 1 := by rw [IntKind.wrap_i64]; omega
  refine callsIn_of_wp Tryz.func280 rfl trivial ?_ rfl
  simp only [Tryz.ntmps280, List.size_toArray, List.length_cons, List.length_nil, Nat.reduceAdd, Nat.reduceSub, Array.replicate_succ, Array.replicate_zero, List.push_toArray, List.append_toArray, List.nil_append, List.cons_append]
  gi_wp2
  clear hw0 hBs
  gi_loopw [3] (fun i wr => ∃ (m : Nat) (pre : List (Bk c)), m ≤ L ∧ i = .int .i64 ((m : Int) - 1) ∧ Kept (bks pre = c.take (L - m)) ∧ Kept (J pre wr) ∧ Kept (KpB Bs (.slice co c.length cc) W wr)) (fun i _ => (intOf i + 1).toNat)
  case atStart => exact ⟨L, [], Nat.le_refl _, rfl, by show _ = _; rw [Nat.sub_self]; rfl, h0, KpB.refl _ _ _⟩
  case round =>
    obtain ⟨m, pre, hm, rfl, KT, KJ, KK⟩ := hrel
    have hBs : wr.cell? ⟨Bs, 0, none⟩ = some (.slice co L cc) := by rw [World.cell?_of_block (w := W) (a := ⟨Bs, 0, none⟩) KK.out.1, HB.out, HL.out]
    cases m with
    | zero =>
      clear hBs
      gi_wp2
      go_end0
      refine ⟨⟨_, rfl⟩, .inl ⟨pre, ?_, KJ.out⟩⟩
      rw [KT.out, Nat.sub_zero, ← HL.out, List.take_length]
    | succ m =>
      have em : ((m + 1 : Nat) : Int) - 1 = (m : Int) := by omega
      rw [em]
      obtain ⟨e, he⟩ := rev_some (c := c) (k := m) (by rw [HL.out]; omega)
      have HE := keep he
      have hmem : e ∈ c := List.mem_reverse.1 (List.mem_of_getElem? he)
      have hCw : Chn wr (.slice co c.length cc) c := own_kept HC.out (fun k hk => KK.out.2 k hk)
      rcases hCw.form with ⟨hh, hcn⟩ | ⟨g, cap, hh, hg, _, _⟩
      · rw [hcn] at hmem; cases hmem
      · cases hh
        obtain ⟨l1, l2⟩ := hCw.at he
        clear hCw he
        have hpl : pre.length = L - (m + 1) := by
          have := congrArg List.length KT.out
          simp only [bks, List.length_map, List.length_take] at this
          rw [this, HL.out]; omega
        obtain ⟨x, hx⟩ : ∃ x : Bk c, x.1 = (m, e) := ⟨⟨(m, e), hmem⟩, rfl⟩
        obtain ⟨fn, tmps, assign, body, hy, hR⟩ := HY.out pre x wr KJ.out (by rw [hpl, HL.out]; omega)
        obtain ⟨e1, e2⟩ := e
        unfold bkE at hy
        rw [hx] at hy
        dsimp only at hy l1 l2
        have HX := keep hx
        have hm0 : (0 : Int) ≤ (m : Int) := by omega
        have hm1 : (m : Int) < (L : Int) := by omega
        have hmw : IntKind.i64.wrap ((m : Int) - 1) = (m : Int) - 1 := by rw [IntKind.wrap_i64]; omega
        clear hmem hpl em hx
        gi_wp2
        refine ⟨(fun h => by cases h), hR.mono ?_⟩
        rintro e W3 (⟨rfl, hJ3, hk3⟩ | ⟨rfl, hJx3⟩)
        · have K3 := keep hJ3
          have K4 := keep hk3
          clear hJ3 hk3
          gi_wp2
          go_roundw
          case rel =>
            refine ⟨m, pre ++ [x], by omega, rfl, ?_, K3, KK.out.trans K4.out⟩
            show bks _ = _
            rw [bks_snoc HX.out, KT.out]
            have := rev_take HE.out
            rw [HL.out] at this
            rw [show L - m = L - 1 - m + 1 by omega, this, show L - (m + 1) = L - 1 - m by omega]
          case measure => simp [intOf]
        · gi_wp2
          refine bodyPost_ret (results_none rfl _ _ _) rfl ?_
          refine ⟨⟨_, rfl⟩, .inr ⟨_, ?_, hJx3⟩⟩
          rw [bks_snoc HX.out, KT.out]
          have := rev_take HE.out
          rw [HL.out] at this
          rw [show L - (m + 1) = L - 1 - m by omega, ← this]
          exact List.take_prefix _ _
theorem back_any (w : World) (ao : Option Addr) (n cap : Nat) :
    Calls Tryz.prog 263 #[.slice ao n cap] w fun e w' => e = .returned (.func (.func 280) #[] #[.pointer (some ⟨w.heap.size, 0, none⟩)]) ∧ w' = w.alloc (.cells #[.slice ao n cap] 260) := by
  have hmf : ∀ (fn : Fn) (first cap : Array Value) (w : World), (Instr.makeFunc fn first cap).run Tryz.prog w = .ok (.func fn first cap) w := fun _ _ _ _ => rfl
  go_enter Tryz.func263, Tryz.ntmps263
  go_wp2
  go_ret
  exact ⟨rfl, rfl⟩
theorem back_stops (n : Nat) (Bs : Nat) (v : Value) (c : List Ent) (w : World) (hB : Bs < w.heap.size) (hc : w.cell? ⟨Bs, 0, none⟩ = some v) (hC : Chn w v c) :
    SeqStopsK Fence.wide n Tryz.prog 280 #[.pointer (some ⟨Bs, 0, none⟩)] (bkE (c := c)) (KpB Bs v) (fun xs => bks xs = c) (fun pre => bks pre <+: c) c.length w := fun l J Jx W hW _ _ hY h0 =>
  back1_in n l Bs v c J Jx hY W ((hW.cell (p := ⟨Bs, 0, none⟩) hB).trans hc) (own_kept hC (fun k hk => hW.block k (own_lt hC hk))) h0
theorem kpB_b {Bs : Nat} {v : Value} {w : World} (hB : Bs < w.heap.size) (hv : ∀ k, v.ownBlock = some k → k < w.heap.size) (W : World) (l : Nat) (o o' : Obj) (hl : w.heap.size ≤ l) (_ : W.heap[l]? = some o) (_ : o.isCells = false) (_ : o.isWalk = false) : KpB Bs v W (W.putObj l o') :=
  ⟨World.putObj_heap_other (by omega), fun k hk => World.putObj_heap_other (by have := hv k hk; omega)⟩
/- a region that draws its order, within a round -/
theorem upon_round {P : Program} {o : Oper} {a : Act} {l n : Nat} {next : Act → World → Prop} {Q : Exit → Act → World → Prop} {x : Result Next} (h : o.upon P a next Q x) : o.uponIn (Fence.wide.inRound l) n P a next Q x := by
  cases x with
  | ok y w' =>
    cases y <;> simp only [Oper.upon, Oper.uponIn] at h ⊢
    case value => exact h
    case skip => exact h
    case defer => exact h
    case enter f args => exact ⟨(fun h => by cases h), CallsIn.inRound l (callsIn_wide.2 h)⟩
    case row row args => exact ⟨(fun h => by cases h), fun c cs _ => let ⟨v, w', r, s⟩ := h c cs; ⟨v, w', r, stepsIn_wide.2 s⟩⟩
  | halt y w' => cases y <;> simp only [Oper.upon, Oper.uponIn] at h ⊢ <;> exact h
def noDefer (ops : Array Oper) : Bool := ops.toList.all fun o => match o.op with | .defer _ => false | _ => true
theorem noDefer_spec {ops : Array Oper} (h : noDefer ops = true) {i : Nat} {o : Oper} (ho : ops[i]? = some o) : ∀ c, o.op ≠ .defer c := by
  intro c hc
  have := List.all_eq_true.1 h o (by have := Array.mem_of_getElem? ho; simpa using this)
  rw [hc] at this
  cases this
theorem any_round {P : Program} {md : Region.Mode} {ops : Array Oper} {l n : Nat} {Q : Exit → Act → World → Prop} (hd : noDefer ops = true) (hL : ¬ LetsOut Q) : ∀ (fuel : Nat) (listed : Array Bool) (a : Act) (w : World), wpAny P md ops Q fuel listed a w → wpAnyIn (Fence.wide.inRound l) n P md ops Q fuel listed a w := by
  intro fuel
  induction fuel with
  | zero => intro listed a w h; exact h
  | succ fuel ih =>
    intro listed a w h
    refine ⟨h.1, fun i hi => ?_⟩
    have h1 := h.2 i hi
    unfold wpOp at h1
    unfold wpOpIn
    cases ho : ops[i]? with
    | none => simp only [ho] at h1 ⊢; exact ih _ _ _ h1
    | some o =>
      simp only [ho] at h1 ⊢
      split
      · rename_i hw
        simp only [hw, if_true] at h1
        rcases h1 with h1 | ⟨_, h2⟩
        · refine ⟨fun _ _ => trivial, ?_⟩
          have e : o.semAt (Fence.wide.inRound l).round a.eval = execOp a.eval o := Oper.semAt_eq _ _ _ (noDefer_spec hd ho)
          rw [e]
          exact upon_round (Oper.wp_mono (fun a w => ih _ a w) h1)
        · exact absurd h2 hL
      · rename_i hw
        simp only [hw] at h1
        exact ⟨fun _ _ => trivial, ih _ _ _ h1⟩
theorem region_round {P : Program} {id : Nat} {ops : Array Oper} {l n : Nat} {Q : Exit → Act → World → Prop} {a : Act} {w : World} {S : World → Prop} (hm : P.follows .mixedOrders = true) (hd : noDefer ops = true) (hL : ¬ LetsOut Q) (hS : S w.drew)
    (h : S w.drew → wpAnyH P .any ops Q S ops.size (Array.replicate ops.size false) a w.drew) : (Code.region id ops true).wpIn (Fence.wide.inRound l) n P Q a w :=
  wpIn_region_any hm (any_round hd hL _ _ _ _ (wpAny_of_held _ _ _ _ (h hS)))
end Go.Proofs.YtmgeaanbgjbkcaaGreat.DS

namespace Go.Proofs.YtmgeaanbgjbkcaaGreat.DS
open Go.RowKit Go.Shelf
attribute [local go_sem] Oper.semAt_some
theorem clear_run {P : Program} (w : World) (t e ty et : TypeId) (z : Value) (ht : P.underlying t = some (.slice e)) (hv : ∀ w, (zeroValue e).run P w = .ok z w) (h1 : ∀ u ∈ z.cells.toList, u.oneCell' = true) (b o n c : Nat) (cur : Array Value)
    (hg : w.heap[b]? = some (.cells cur et (0, 0))) (hfit : o + n * z.cells.size ≤ cur.size) :
    ∃ cur', (Builtin.clear_ #[t] ty #[.slice (some ⟨b, o, none⟩) n c]).run P w = .ok (.tuple #[]) (w.setRow b cur') ∧ cur'.size = cur.size ∧ cur'.toList.take o = cur.toList.take o := by
  cases n with
  | zero =>
    refine ⟨cur, ?_, rfl, rfl⟩
    rw [setRow_self w b cur et (0, 0) hg]
    simp [Builtin.clear_, run_underlying ht]
  | succ n =>
    have hsz : (Builtin.zeroCells z.cells (n + 1)).toList.length = (n + 1) * z.cells.size := by rw [Array.length_toList, size_zeroCells]
    have hone : ∀ u ∈ (Builtin.zeroCells z.cells (n + 1)).toList, u.oneCell' = true := by
      intro u hu
      unfold Builtin.zeroCells at hu
      rw [Array.toList_map, List.mem_map] at hu
      obtain ⟨i, hi, rfl⟩ := hu
      have hp : 0 < z.cells.size := by
        rcases Nat.eq_zero_or_pos z.cells.size with h | h
        · rw [h, Nat.mul_zero] at hi; simp at hi
        · exact h
      have hlt := Nat.mod_lt i hp
      rw [getElem!_pos z.cells _ hlt]
      exact h1 _ (by simp)
    have hst := run_storeCells_at P b o et _ 0 cur w hg (by rw [hsz]; simpa using hfit) hone
    simp only [Nat.add_zero] at hst
    refine ⟨(cur.toList.take o ++ (Builtin.zeroCells z.cells (n + 1)).toList ++ cur.toList.drop (o + (Builtin.zeroCells z.cells (n + 1)).toList.length)).toArray, by simp [Builtin.clear_, run_underlying ht, hv, hst], ?_, ?_⟩
    · rw [List.size_toArray, List.length_append, List.length_append, List.length_take, List.length_drop, hsz, Array.length_toList]
      omega
    · show List.take o (List.take o cur.toList ++ _ ++ _) = _
      rw [List.append_assoc, List.take_append_of_le_length (by simp; omega), List.take_take, Nat.min_self]
theorem own_turn {w w' : World} {B e s : Nat} {v : Value} {n : Nat} {xs : List Value} {row : Option Nat} (h : w.ownsRow B e s v n xs) (hg : w.grownBy w' row) (hr : ∀ k, row = some k → ∃ o : Obj, w.heap[k]? = some o ∧ o.isCells = false) : w'.ownsRow B e s v n xs := by
  refine own_kept h (fun k hk => hg.block k (own_lt h hk) (fun e => ?_))
  obtain ⟨o, h1, h2⟩ := hr k e.symm
  rcases h.2 with ⟨rfl, _⟩ | ⟨g, cap, cur, rfl, _, hh, _⟩
  · cases hk
  · cases hk
    rw [hh] at h1
    cases h1
    cases h2
theorem Tb.turn {w w' : World} {r : Roles} {t : Nat} {tv : Value} {T : Dc.Tab ByteArray ByteArray} {row : Option Nat} (h : Tb w r t tv T) (hg : w.grownBy w' row) (hr : ∀ k, row = some k → ∃ o : Obj, w.heap[k]? = some o ∧ o.isCells = false) : Tb w' r t tv T := by
  obtain ⟨vs, h1, h2, h3⟩ := h
  refine ⟨vs, own_turn h1 hg hr, h2, fun i c hc => ?_⟩
  obtain ⟨v, e1, e2, e3⟩ := h3 i c hc
  exact ⟨v, e1, own_turn e2 hg hr, e3⟩
theorem Tr.turn {t : Nat} {w w1 w2 : World} {r r1 : Roles} {row : Option Nat} (h : Tr t w r w1 r1) (hg : w1.grownBy w2 row) (hr : ∀ k, row = some k → w.heap.size ≤ k) : Tr t w r w2 r1 := by
  obtain ⟨⟨a1, a2, a3⟩, a4, a5, a6, a7⟩ := h
  have same : ∀ k, k < w.heap.size → w2.heap[k]? = w1.heap[k]? := fun k hk => hg.block k (by omega) (fun e => by have := hr k e.symm; omega)
  refine ⟨⟨hg.os.trans a1, hg.tape.trans a2, hg.output.trans a3⟩, Nat.le_trans a4 hg.size, fun k hk h1 h2 => ?_, fun k hk => ?_, fun k o hk ho => ?_⟩
  · rw [same k hk]; exact a5 k hk h1 h2
  · rcases a6 k hk with h | ⟨h1, h2⟩
    · exact .inl h
    · exact .inr ⟨h1, by have := hg.size; omega⟩
  · rw [same k (Array.getElem?_eq_some_iff.1 hk).1]; exact a7 k o hk ho
theorem Tr.trans {t : Nat} {w w1 w2 : World} {r r1 r2 : Roles} (h : Tr t w r w1 r1) (g : Tr t w1 r1 w2 r2) : Tr t w r w2 r2 := by
  obtain ⟨⟨a1, a2, a3⟩, a4, a5, a6, a7⟩ := h
  obtain ⟨⟨b1, b2, b3⟩, b4, b5, b6, b7⟩ := g
  refine ⟨⟨b1.trans a1, b2.trans a2, b3.trans a3⟩, Nat.le_trans a4 b4, fun k hk h1 h2 => ?_, fun k hk => ?_, fun k o hk ho => b7 k o (a7 k o hk ho) ho⟩
  · obtain ⟨c1, c2⟩ := a5 k hk h1 h2
    obtain ⟨d1, d2⟩ := b5 k (by omega) (by rw [c2]; exact h1) (by rw [c2]; exact h2)
    exact ⟨d1.trans c1, d2.trans c2⟩
  · rcases b6 k hk with h | ⟨h1, h2⟩
    · rcases a6 k h with h | ⟨h1, h2⟩
      · exact .inl h
      · exact .inr ⟨h1, by omega⟩
    · exact .inr ⟨by omega, h2⟩
theorem Tr.refl (t : Nat) (w : World) (r : Roles) : Tr t w r w r := ⟨⟨rfl, rfl, rfl⟩, Nat.le_refl _, fun _ _ _ _ => ⟨rfl, rfl⟩, fun _ h => .inl h, fun _ _ h _ => h⟩
def MvI (h : ByteArray → Nat) (W0 : World) (r : Roles) (yv : Value) (young : Dc.Tab ByteArray ByteArray) (c : List Ent) (pre : List (Bk c)) (W : World) : Prop := ∃ r1, Tb W r1 1 yv (Dc.pour h young (bks pre)) ∧ Tr 1 W0 r W r1
theorem MvI_own {h : ByteArray → Nat} {W0 : World} {r : Roles} {yv : Value} {young : Dc.Tab ByteArray ByteArray} {c : List Ent} : OwnFrom W0.heap.size (MvI h W0 r yv young c) := by
  rintro pre W W' row ⟨r1, hT, hTr⟩ hg hr
  exact ⟨r1, hT.turn hg (fun k e => (hr k e).2), hTr.turn hg (fun k e => (hr k e).1)⟩
def MvX (b H n1 n2 : Nat) (v v8 v11 v12 v13 : Value) {c : List Ent} (x : Bk c) (a : Act) (W : World) : Prop :=
  ∃ Bx, W.heap[Bx]? = some (.cells #[.string x.1.2.1, .string x.1.2.2] 264 (0, 0)) ∧ a = { tmps := #[.pointer (some ⟨b, 0, none⟩), .pointer (some ⟨H, 0, none⟩), v, undef, .pointer (some ⟨Bx, 0, none⟩), .pointer (some ⟨b, 0, none⟩), .pointer (some ⟨b, 0, none⟩), .pointer (some ⟨b, 2, none⟩), v8, .pointer (some ⟨b, 0, none⟩), .pointer (some ⟨b, 0, none⟩), v11, v12, v13, v, v, .func (.func n1) #[] #[.pointer (some ⟨n2, 0, none⟩)], .int .i64 (x.1.1 : Int), .agg #[.string x.1.2.1, .string x.1.2.2], undef, undef, undef, undef, undef, undef, undef, undef, undef, undef, undef, undef, undef, undef, undef, undef, undef, undef, undef, undef, undef, undef, undef, undef, undef, undef, undef], defers := [] }
theorem MvX_own {B b H n1 n2 : Nat} {v v8 v11 v12 v13 : Value} {c : List Ent} (x : Bk c) (a : Act) : OwnFrom B (fun (_ : Unit) W => MvX b H n1 n2 v v8 v11 v12 v13 x a W) := by
  rintro _ W W' row ⟨Bx, h1, h2⟩ hg hr
  refine ⟨Bx, ?_, h2⟩
  rw [hg.block Bx (Array.getElem?_eq_some_iff.1 h1).1 (fun e => ?_)]
  · exact h1
  · obtain ⟨_, o, h3, h4⟩ := hr Bx e.symm
    rw [h1] at h3
    cases h3
    cases h4
theorem pour_le {h : ByteArray → Nat} {young : Dc.Tab ByteArray ByteArray} {l c : List Ent} {m : Nat} (hc : c ∈ Dc.pour h young l) (hy : 0 < young.length) (hm : young.flatten.length + l.length ≤ m) : c.length ≤ m := by
  have h1 := (List.sublist_flatten_of_mem hc).length_le
  have h2 := (Dc.pour_perm h l young hy).length_eq
  rw [List.length_append] at h2
  omega
def heldM (H b seed : Nat) (yv : Value) (w : World) : Prop := w.cell? ⟨H, 0, none⟩ = some (.pointer (some ⟨b, 0, none⟩)) ∧ w.cell? ⟨b, 3, none⟩ = some yv ∧ w.cell? ⟨b, 0, none⟩ = some (.int .u64 seed)
theorem heldM_kept {H b seed : Nat} {yv : Value} {w w' : World} (h : heldM H b seed yv w) (h1 : w'.heap[H]? = w.heap[H]?) (h2 : w'.heap[b]? = w.heap[b]?) : heldM H b seed yv w' :=
  ⟨(World.cell?_of_block (w := w) (a := ⟨H, 0, none⟩) h1).trans h.1, (World.cell?_of_block (w := w) (a := ⟨b, 3, none⟩) h2).trans h.2.1, (World.cell?_of_block (w := w) (a := ⟨b, 0, none⟩) h2).trans h.2.2⟩
set_option maxRecDepth 100000 in
theorem move_any {h : ByteArray → Nat} {seed : Nat} (hH : HashIs seed h) (w : World) (r : Roles) (b n : Nat) (s : Dc.St ByteArray ByteArray) (e : Ent) (c : List Ent) (hD : Dct w r b seed n s) (hc : s.old[s.pos]? = some (e :: c)) (hy : 0 < s.young.length)
    (hm0 : s.old.length ≤ maxLen) (hm1 : s.young.length ≤ maxLen) (hk : ∀ x ∈ e :: c, x.1.size ≤ maxLen) (hl : s.young.flatten.length + (e :: c).length ≤ 2600000000000) :
    Calls Tryz.prog 234 #[.pointer (some ⟨b, 0, none⟩)] w fun x w' => x = .returned (.tuple #[]) ∧ ∃ r', Dct w' r' b seed n (Dc.carry h s) ∧ Fr w r w' r' := by
  obtain ⟨ao, ca, bo, cb, h4, h5, h3⟩ := hD.cells
  have hpl : s.pos < s.old.length := (List.getElem?_eq_some_iff.1 hc).1
  obtain ⟨g, ca', e4, hrg, hgl⟩ := h4.form (by omega)
  have e5 : ao = some ⟨g, 0, none⟩ := by injection e4
  subst e5
  clear e4
  obtain ⟨v, hv1, hv2, hv3⟩ := h4.at hc
  obtain ⟨co, cc, rfl⟩ := chn_len hv2
  obtain ⟨c0, c1, c2, c3, c4, cf⟩ := five h3
  have hrb := hD.2.1
  have hbl : b < w.heap.size := hD.1 b (by rw [hrb]; simp)
  have hrH : r w.heap.size = (0, 0) := Classical.byContradiction fun hh => by have := hD.1 _ hh; omega
  have hp0 : (0 : Int) ≤ (s.pos : Int) := by omega
  have hp1 : (s.pos : Int) < (s.old.length : Int) := by omega
  have hneb : ¬ b = w.heap.size := by omega
  have hneg : ¬ g = w.heap.size := by omega
  refine callsIn_wide (n := 5) |>.1 (callsIn_of_wp_marks Tryz.func234 rfl trivial (wpIn_wide.2 ?_) rfl)
  simp only [Tryz.ntmps234, List.size_toArray, List.length_cons, List.length_nil, Nat.reduceAdd, Nat.reduceSub, Array.replicate_succ, Array.replicate_zero, List.push_toArray, List.append_toArray, List.nil_append, List.cons_append]
  go_wp2_with fail
  go_region
  go_wp2_with fail
  refine (back_any _ _ _ _).mono ?_
  rintro _ w' ⟨rfl, rfl⟩
  go_wp2
  have hsz : (((w.alloc (.cells #[.pointer (some ⟨b, 0, none⟩)] 174)).alloc (.cells #[.slice co (c.length + 1) cc] 260)).drew).heap.size = w.heap.size + 2 := by show ((w.alloc _).alloc _).heap.size = _; simp
  have hB0 : Below w.heap.size w (((w.alloc (.cells #[.pointer (some ⟨b, 0, none⟩)] 174)).alloc (.cells #[.slice co (c.length + 1) cc] 260)).drew) := (((Below.refl _ w).alloc (Nat.le_refl _) _).alloc (by simp) _).drew
  have hn0 : (((w.alloc (.cells #[.pointer (some ⟨b, 0, none⟩)] 174)).alloc (.cells #[.slice co (c.length + 1) cc] 260)).drew).cell? ⟨w.heap.size, 0, none⟩ = some (.pointer (some ⟨b, 0, none⟩)) := by simp
  have hn1 : (((w.alloc (.cells #[.pointer (some ⟨b, 0, none⟩)] 174)).alloc (.cells #[.slice co (c.length + 1) cc] 260)).drew).cell? ⟨w.heap.size + 1, 0, none⟩ = some (.slice co (c.length + 1) cc) := by simp
  generalize (((w.alloc (.cells #[.pointer (some ⟨b, 0, none⟩)] 174)).alloc (.cells #[.slice co (c.length + 1) cc] 260)).drew) = W0 at hsz hB0 hn0 hn1 ⊢
  have hv2' : Chn W0 (.slice co (c.length + 1) cc) (e :: c) := own_kept hv2 (fun k hk => hB0.block k (own_lt hv2 hk))
  have h5' : Tb W0 r 1 (.slice bo s.young.length cb) s.young := h5.kept (fun k hk _ => ⟨hB0.block k hk, rfl⟩)
  have hvk : ∀ k, (Value.slice co (c.length + 1) cc).ownBlock = some k → k < w.heap.size := fun k hk => own_lt hv2 hk
  have hrz : ∀ k, w.heap.size ≤ k → r k = (0, 0) := fun k hk => Classical.byContradiction fun hh => by have := hD.1 _ hh; omega
  have hHB : heldM w.heap.size b seed (.slice bo s.young.length cb) W0 := ⟨hn0, (hB0.cell (p := ⟨b, 3, none⟩) hbl).trans c3, (hB0.cell (p := ⟨b, 0, none⟩) hbl).trans c0⟩
  obtain ⟨yg, ycb, ye, hryg, hygl⟩ := h5.form hy
  have ye5 : bo = some ⟨yg, 0, none⟩ := by injection ye
  clear ye
  subst ye5
  refine wpIn_wide (n := 5).1 (wpIn_rangeFunc_ownH (α := Bk (e :: c)) rfl (by decide) (gf := 280) (lb := #[.pointer (some ⟨w.heap.size + 1, 0, none⟩)]) rfl trivial (enters_of Tryz.func280 (by kernel_rfl) rfl)
    (back_stops 4 (w.heap.size + 1) (.slice co (c.length + 1) cc) (e :: c) W0 (by omega) hn1 hv2') (fun h k => h.trans k) (kpB_b (by omega) (fun k hk => by have := hvk k hk; omega)) (Below.refl _ _) (fun _ => rfl)
    (MvI h W0 r (.slice (some ⟨yg, 0, none⟩) s.young.length cb) s.young (e :: c)) (fun _ _ _ => False) MvI_own (fun _ _ _ _ _ hs _ _ => hs) ⟨r, h5', Tr.refl _ _ _⟩
    (MvX b w.heap.size 280 (w.heap.size + 1) (.slice co (c.length + 1) cc) (.slice (some ⟨g, 0, none⟩) s.old.length ca) (.pointer (some ⟨b, 4, none⟩)) (.int .i64 s.pos) (.pointer (some ⟨g, s.pos, none⟩))) (fun x a => MvX_own x a) ?assign ?body ?done ?stop)
  case assign =>
    rintro l pre ⟨⟨m, e1, e2⟩, hx⟩ W K ⟨r1, hT, hTr⟩ hK
    have HK := keep hK
    clear hK
    unfold bkE
    gi_wp2
    have hW := hTr.2.1
    exact HK.out _ _ ((KeepsOthers.alloc _ _).from _) ⟨Below.heap_alloc _ _ _ (by omega), fun k hk => Below.heap_alloc _ _ _ (by have := hvk k hk; omega)⟩
      ⟨r1, hT.turn (World.grownBy_alloc _ _ none) (fun k h => by cases h), hTr.turn (World.grownBy_alloc _ _ none) (fun k h => by cases h)⟩ ⟨W.heap.size, heap_alloc_new _ _, rfl⟩
  case body =>
    rintro l pre ⟨⟨m, e1, e2⟩, hx⟩ a' W hl' ⟨rc, hrc⟩ ⟨r1, hT, hTr⟩ ⟨Bx, hBx, rfl⟩ hlt
    have eL : (Dc.pour h s.young (bks pre)).length = s.young.length := Dc.pour_len _ _ _
    have hW := hTr.2.1
    have hone : ∀ k, k < W0.heap.size → (r k).1 ≠ 2 → (r k).1 ≠ 4 → W.heap[k]? = W0.heap[k]? ∧ r1 k = r k := fun k hk h1 h2 => hTr.2.2.1 k hk (by omega) (by omega)
    have mP := push_any hH W.drew r1 1 yg cb (Dc.pour h s.young (bks pre)) (e1, e2) (by rw [eL]; exact hT) (by omega) (by omega) (hk _ hx)
      (fun k hk => by
        rcases hTr.2.2.2.1 k hk with h' | ⟨_, h'⟩
        · have := hD.1 k h'; show k < W.heap.size; omega
        · exact h')
      (fun c' hc' => pour_le hc' (by omega) (by have : pre.length < (e :: c).length := hlt; simp only [bks, List.length_map]; omega))
    rw [eL] at mP
    have hS := heldM_kept hHB (hone _ (by omega) (by rw [hrH]; simp) (by rw [hrH]; simp)).1 (hone _ (by omega) (by rw [hrb]; simp) (by rw [hrb]; simp)).1
    have b0 : W.cell? ⟨Bx, 0, none⟩ = some (.string e1) := by rw [cell_of_row _ _ _ _ _ _ hBx]; rfl
    have b1 : W.cell? ⟨Bx, 1, none⟩ = some (.string e2) := by rw [cell_of_row _ _ _ _ _ _ hBx]; rfl
    dsimp only
    have HP := keep mP
    have HONE := keep hone
    have HTR := keep hTr
    clear mP hone hTr hT hD h4 h5 h3 c0 c1 c2 c3 c4 cf hv1 hv2' h5' hk hl hlt hn0 hn1 hHB hBx
    gi_wp2
    refine region_round (S := heldM w.heap.size b seed (.slice (some ⟨yg, 0, none⟩) s.young.length cb)) (by kernel_rfl) (by kernel_rfl) (by rintro ⟨a, w, h⟩; exact h) hS (fun hHeld => ?_)
    refine wpAnyH_take (i := 0) (oi := ⟨some 19, _, _, _, _, _⟩) (v := ?v9) rfl (by kernel_rfl) (by kernel_rfl) (by kernel_rfl) (fun _ _ _ h => h) (Or.inl ⟨by rfl, ?hy9⟩) (by assumption) ?rest9
    case hy9 => (intro w hSw; obtain ⟨q0, q1, q2⟩ := hSw; go_simp; try with_reducible rfl)
    try simp only [Act.put, List.setIfInBounds_toArray, List.set_cons_zero, List.set_cons_succ]
    refine wpAnyH_take (i := 1) (oi := ⟨some 20, _, _, _, _, _⟩) (v := ?v10) rfl (by kernel_rfl) (by kernel_rfl) (by kernel_rfl) (fun _ _ _ h => h) (Or.inl ⟨by rfl, ?hy10⟩) (by assumption) ?rest10
    case hy10 => (intro w hSw; obtain ⟨q0, q1, q2⟩ := hSw; go_simp; try with_reducible rfl)
    try simp only [Act.put, List.setIfInBounds_toArray, List.set_cons_zero, List.set_cons_succ]
    refine wpAnyH_take (i := 2) (oi := ⟨some 21, _, _, _, _, _⟩) (v := ?v11) rfl (by kernel_rfl) (by kernel_rfl) (by kernel_rfl) (fun _ _ _ h => h) (Or.inl ⟨by rfl, ?hy11⟩) (by assumption) ?rest11
    case hy11 => (intro w hSw; obtain ⟨q0, q1, q2⟩ := hSw; go_simp; try with_reducible rfl)
    try simp only [Act.put, List.setIfInBounds_toArray, List.set_cons_zero, List.set_cons_succ]
    refine wpAnyH_take (i := 3) (oi := ⟨some 22, _, _, _, _, _⟩) (v := ?v12) rfl (by kernel_rfl) (by kernel_rfl) (by kernel_rfl) (fun _ _ _ h => h) (Or.inl ⟨by rfl, ?hy12⟩) (by assumption) ?rest12
    case hy12 => (intro w hSw; obtain ⟨q0, q1, q2⟩ := hSw; go_simp; try with_reducible rfl)
    try simp only [Act.put, List.setIfInBounds_toArray, List.set_cons_zero, List.set_cons_succ]
    refine wpAnyH_take (i := 4) (oi := ⟨some 23, _, _, _, _, _⟩) (v := ?v13) rfl (by kernel_rfl) (by kernel_rfl) (by kernel_rfl) (fun _ _ _ h => h) (Or.inl ⟨by rfl, ?hy13⟩) (by assumption) ?rest13
    case hy13 => (intro w hSw; obtain ⟨q0, q1, q2⟩ := hSw; go_simp; try with_reducible rfl)
    try simp only [Act.put, List.setIfInBounds_toArray, List.set_cons_zero, List.set_cons_succ]
    refine wpAnyH_take (i := 5) (oi := ⟨some 24, _, _, _, _, _⟩) (v := ?v14) rfl (by kernel_rfl) (by kernel_rfl) (by kernel_rfl) (fun _ _ _ h => h) (Or.inl ⟨by rfl, ?hy14⟩) (by assumption) ?rest14
    case hy14 => (intro w hSw; obtain ⟨q0, q1, q2⟩ := hSw; go_simp; try with_reducible rfl)
    try simp only [Act.put, List.setIfInBounds_toArray, List.set_cons_zero, List.set_cons_succ]
    refine wpAnyH_take (i := 6) (oi := ⟨some 25, _, _, _, _, _⟩) (v := ?v15) rfl (by kernel_rfl) (by kernel_rfl) (by kernel_rfl) (fun _ _ _ h => h) (Or.inl ⟨by rfl, ?hy15⟩) (by assumption) ?rest15
    case hy15 => (intro w hSw; obtain ⟨q0, q1, q2⟩ := hSw; go_simp; try with_reducible rfl)
    try simp only [Act.put, List.setIfInBounds_toArray, List.set_cons_zero, List.set_cons_succ]
    refine wpAnyH_take (i := 7) (oi := ⟨some 26, _, _, _, _, _⟩) (v := ?v16) rfl (by kernel_rfl) (by kernel_rfl) (by kernel_rfl) (fun _ _ _ h => h) (Or.inl ⟨by rfl, ?hy16⟩) (by assumption) ?rest16
    case hy16 => (intro w hSw; obtain ⟨q0, q1, q2⟩ := hSw; go_simp; try with_reducible rfl)
    try simp only [Act.put, List.setIfInBounds_toArray, List.set_cons_zero, List.set_cons_succ]
    refine wpAnyH_ready (rs := [8]) (by kernel_rfl) (by simp) ?_
    refine AllReadyH.cons (o := ⟨some 27, _, _, _, _, _⟩) rfl (fun K hK => ?_) AllReadyH.nil
    have b0' : W.drew.cell? ⟨Bx, 0, none⟩ = some (.string e1) := b0
    have b1' : W.drew.cell? ⟨Bx, 1, none⟩ = some (.string e2) := b1
    go_simp
    refine hK.out _ _ hHeld (fun hHeld => ?_)
    try simp only [Act.put, List.setIfInBounds_toArray, List.set_cons_zero, List.set_cons_succ]
    refine wpAnyH_ready (rs := [9]) (by kernel_rfl) (by simp) ?_
    refine AllReadyH.cons (o := ⟨some 28, _, _, _, _, _⟩) rfl (fun K hK => ?_) AllReadyH.nil
    go_simp
    refine HP.out.mono ?_
    rintro _ W' ⟨rfl, r2, hT2, hTr2⟩
    have same : ∀ k, k < W0.heap.size → (r k).1 ≠ 2 → (r k).1 ≠ 4 → W'.heap[k]? = W.heap[k]? := fun k hk h1 h2 => by
      obtain ⟨_, e'⟩ := HONE.out k hk h1 h2
      exact (hTr2.2.2.1 k (by show k < W.heap.size; omega) (by rw [e']; omega) (by rw [e']; omega)).1
    refine hK.out _ _ (heldM_kept hHeld (same _ (by omega) (by rw [hrH]; simp) (by rw [hrH]; simp)) (same _ (by omega) (by rw [hrb]; simp) (by rw [hrb]; simp))) (fun _ => ?_)
    refine wpAnyH_done (by kernel_rfl) ?_ _
    refine ⟨⟨hTr2.2.1, fun k o _ h1 h2 => hTr2.2.2.2.2 k o h1 h2⟩, ⟨same _ (by omega) (by rw [hrz _ (by omega)]; simp) (by rw [hrz _ (by omega)]; simp), fun k hk' => same k (by have := hvk k hk'; omega) (by rw [hv3 k hk']; simp) (by rw [hv3 k hk']; simp)⟩, r2, ?_, HTR.out.trans hTr2⟩
    rw [bks_snoc rfl, Dc.pour, List.foldl_append]
    exact hT2
  case done =>
    rintro D xs W hD' hS ⟨r1, hT, hTr⟩ hK
    rw [hS] at hT
    have hW := hTr.2.1
    have hone : ∀ k, k < W0.heap.size → (r k).1 ≠ 2 → (r k).1 ≠ 4 → W.heap[k]? = W0.heap[k]? ∧ r1 k = r k := fun k hk h1 h2 => hTr.2.2.1 k hk (by omega) (by omega)
    have hold : ∀ k, k < w.heap.size → (r k).1 ≠ 2 → (r k).1 ≠ 4 → W.heap[k]? = w.heap[k]? ∧ r1 k = r k := fun k hk h1 h2 => ⟨(hone k (by omega) h1 h2).1.trans (hB0.block k hk), (hone k (by omega) h1 h2).2⟩
    have hT0 : Tb W r1 0 (.slice (some ⟨g, 0, none⟩) s.old.length ca) s.old := h4.kept (fun k hk hr => hold k hk (by omega) (by omega))
    rcases hv2.form with ⟨_, hh⟩ | ⟨gv, cap, hh, hgv, hcap, hm⟩
    · cases hh
    have hco : co = some ⟨gv, 0, none⟩ := by injection hh
    clear hh
    subst hco
    have hrgv := hv3 gv rfl
    have hbW : W.heap[b]? = _ := (hold b hbl (by rw [hrb]; simp) (by rw [hrb]; simp)).1.trans h3
    have hHW : W.cell? ⟨w.heap.size, 0, none⟩ = some (.pointer (some ⟨b, 0, none⟩)) := (World.cell?_of_block (w := W0) (a := ⟨w.heap.size, 0, none⟩) (hone w.heap.size (by omega) (by rw [hrH]; simp) (by rw [hrH]; simp)).1).trans hn0
    have hC : Chn W (.slice (some ⟨gv, 0, none⟩) (e :: c).length cc) (e :: c) := own_kept hv2 (fun k hk => (hold k (own_lt hv2 hk) (by rw [hv3 k hk]; simp) (by rw [hv3 k hk]; simp)).1)
    obtain ⟨cur, hcur, hfit⟩ : ∃ cur, W.heap[gv]? = some (.cells cur 264 (0, 0)) ∧ (c.length + 1) * 2 ≤ cur.size := by
      rcases hC.2 with ⟨h', _⟩ | ⟨g', cap', cur, h', _, hh, q1, _, q2, _⟩
      · cases h'
      · cases h'
        exact ⟨cur, hh, by rw [q2]; exact Nat.mul_le_mul_right _ q1⟩
    obtain ⟨cur', hcl, hcs, _⟩ := clear_run (P := Tryz.prog) W 260 264 0 264 _ Tryz.underlying260 Tryz.zeroValue264 (by simp [Value.cells, Value.oneCell']) gv 0 (c.length + 1) cc cur hcur (by simpa [Value.cells] using hfit)
    have hneg2 : gv ≠ g := fun e' => by rw [e', hrg] at hrgv; simp at hrgv
    have hneb2 : gv ≠ b := fun e' => by rw [e', hrb] at hrgv; simp at hrgv
    have hgb : g ≠ b := fun e' => by rw [e', hrb] at hrg; simp at hrg
    obtain ⟨W2, hW2⟩ : ∃ W2, W2 = W.setRow gv cur' := ⟨_, rfl⟩
    rw [← hW2] at hcl
    have h2o : ∀ k, k ≠ gv → W2.heap[k]? = W.heap[k]? := fun k hk => by rw [hW2]; exact setRow_other W gv k _ hk
    have h2s : W2.heap.size = W.heap.size := by rw [hW2]; simp
    have h2w : W2.os = W.os ∧ W2.tape = W.tape ∧ W2.output = W.output := by rw [hW2]; exact ⟨rfl, rfl, rfl⟩
    clear hW2
    have hb2 : W2.heap[b]? = _ := (h2o b (Ne.symm hneb2)).trans hbW
    obtain ⟨d0, d1, d2, d3, d4, df⟩ := five hb2
    have hH2 : W2.cell? ⟨w.heap.size, 0, none⟩ = some (.pointer (some ⟨b, 0, none⟩)) := (World.cell?_of_block (w := W) (a := ⟨w.heap.size, 0, none⟩) (h2o w.heap.size (by omega))).trans hHW
    have hg2 : W2.cell? ⟨g, s.pos, none⟩ = some (.slice (some ⟨gv, 0, none⟩) (c.length + 1) cc) := by
      rw [World.cell?_of_block (w := W) (a := ⟨g, s.pos, none⟩) (h2o g (Ne.symm hneg2)), World.cell?_of_block (w := w) (a := ⟨g, s.pos, none⟩) (hold g hgl (by rw [hrg]; simp) (by rw [hrg]; simp)).1]
      exact hv1
    have hf2 : W2.frozen? ⟨g, s.pos, none⟩ = false := by
      rw [World.frozen?_of_block (w := W) (a := ⟨g, s.pos, none⟩) (h2o g (Ne.symm hneg2))]
      exact hT0.free _
    have f4 := df 4
    clear c0 c1 c2 c3 c4 cf d0 d1 d3 df
    have hw1 : IntKind.i64.wrap ((s.pos : Int) + 1) = ((s.pos + 1 : Nat) : Int) := by unfold maxLen at hm0; rw [IntKind.wrap_i64]; omega
    go_wp2_with fail
    go_region_held3 (fun w' => w'.cell? ⟨w.heap.size, 0, none⟩ = some (.pointer (some ⟨b, 0, none⟩)) ∧ w'.cell? ⟨b, 2, none⟩ = some (.slice (some ⟨g, 0, none⟩) s.old.length ca) ∧ w'.cell? ⟨b, 4, none⟩ = some (.int .i64 s.pos)) (first | go_keep) (fail)
    go_wp2
    have hDg : D ≠ g := by omega
    have hDb : D ≠ b := by omega
    have hDv : D ≠ gv := by omega
    have hKD : ((W2.drew.setCell ⟨g, s.pos, none⟩ (.slice none 0 0)).setCell ⟨b, 4, none⟩ (.int .i64 ((s.pos + 1 : Nat) : Int))).heap[D]? = some (.deferred (some [])) := by
      rw [Below.heap_setCell _ _ _ _ hDb, Below.heap_setCell _ _ _ _ hDg]
      exact (h2o D hDv).trans hK
    refine ⟨by simp, .inl ⟨_, _, rfl, run_takeDeferred hKD, ?_⟩⟩
    refine ⟨_, results_none rfl _ _ _, rfl, ?_⟩
    show ∃ r', Dct (((W2.drew.setCell ⟨g, s.pos, none⟩ (.slice none 0 0)).setCell ⟨b, 4, none⟩ (.int .i64 ((s.pos + 1 : Nat) : Int))).putObj D (.deferred none)) r' b seed n (Dc.carry h s) ∧ Fr w r (((W2.drew.setCell ⟨g, s.pos, none⟩ (.slice none 0 0)).setCell ⟨b, 4, none⟩ (.int .i64 ((s.pos + 1 : Nat) : Int))).putObj D (.deferred none)) r'
    refine ⟨r1, ?_⟩
    have hTold : Tb (W2.drew.setCell ⟨g, s.pos, none⟩ (.slice none 0 0)) r1 0 (.slice (some ⟨g, 0, none⟩) s.old.length ca) (s.old.set s.pos []) := by
      have := hT0.put (w1 := W2.drew) (c' := []) (v' := .slice none 0 0) hc (h2o g (Ne.symm hneg2)) (fun k j hk hr hj => h2o k (fun e' => ?_)) ⟨rfl, .inl ⟨rfl, rfl⟩⟩ (fun k hk => by cases hk)
      · have e2 : role r1 (.slice none 0 0) (3 + 0, s.pos) = r1 := by funext k; simp [role, Value.ownBlock]
        rw [e2] at this
        exact this
      · rw [e', (hold gv hgv (by rw [hrgv]; simp) (by rw [hrgv]; simp)).2, hrgv] at hr
        simp at hr
        exact hj hr.symm
    have hr1b : r1 b = (5, 0) := (hold b hbl (by rw [hrb]; simp) (by rw [hrb]; simp)).2.trans hrb
    have hr1g : r1 g = (1 + 0, 0) := (hold g hgl (by rw [hrg]; simp) (by rw [hrg]; simp)).2.trans hrg
    have hr1v : r1 gv = (3 + 0, s.pos) := (hold gv hgv (by rw [hrgv]; simp) (by rw [hrgv]; simp)).2.trans hrgv
    have hDW : D < W.heap.size := (Array.getElem?_eq_some_iff.1 hK).1
    have f5 : ∀ k, k ≠ g → k ≠ b → k ≠ D → k ≠ gv → (((W2.drew.setCell ⟨g, s.pos, none⟩ (.slice none 0 0)).setCell ⟨b, 4, none⟩ (.int .i64 ((s.pos + 1 : Nat) : Int))).putObj D (.deferred none)).heap[k]? = W.heap[k]? := fun k q1 q2 q3 q4 => by
      rw [World.putObj_heap_other q3, Below.heap_setCell _ _ _ _ q2, Below.heap_setCell _ _ _ _ q1]
      exact h2o k q4
    have s5 : (((W2.drew.setCell ⟨g, s.pos, none⟩ (.slice none 0 0)).setCell ⟨b, 4, none⟩ (.int .i64 ((s.pos + 1 : Nat) : Int))).putObj D (.deferred none)).heap.size = W.heap.size := by
      rw [← h2s]; simp [World.setCell, World.putObj]
    have hcar : Dc.carry h s = { old := s.old.set s.pos [], young := Dc.pour h s.young (e :: c), pos := s.pos + 1 } := by unfold Dc.carry; rw [hc]
    have f4' : ∀ k, k ≠ g → k ≠ b → k ≠ gv → ((W2.drew.setCell ⟨g, s.pos, none⟩ (.slice none 0 0)).setCell ⟨b, 4, none⟩ (.int .i64 ((s.pos + 1 : Nat) : Int))).heap[k]? = W.heap[k]? := fun k q1 q2 q4 => by
      rw [Below.heap_setCell _ _ _ _ q2, Below.heap_setCell _ _ _ _ q1]
      exact h2o k q4
    have hrow : ∀ k, some D = some k → ∃ o : Obj, ((W2.drew.setCell ⟨g, s.pos, none⟩ (.slice none 0 0)).setCell ⟨b, 4, none⟩ (.int .i64 ((s.pos + 1 : Nat) : Int))).heap[k]? = some o ∧ o.isCells = false := fun k e' => by cases e'; exact ⟨_, hKD, rfl⟩
    refine ⟨?_, ⟨?_, ?_⟩, by rw [s5]; omega, fun k hk' hr => ?_⟩
    · rw [hcar]
      refine ⟨fun k hk => ?_, hr1b, .slice (some ⟨g, 0, none⟩) s.old.length ca, .slice (some ⟨yg, 0, none⟩) s.young.length cb, ?_, ?_, ?_⟩
      · rw [s5]
        rcases hTr.2.2.2.1 k hk with h' | ⟨_, h'⟩
        · have := hD.1 k h'; omega
        · exact h'
      · rw [World.putObj_heap_other (Ne.symm hDb)]
        have hb3 : (W2.drew.setCell ⟨g, s.pos, none⟩ (.slice none 0 0)).heap[b]? = _ := (Below.heap_setCell _ _ _ _ (Ne.symm hgb)).trans hb2
        exact cells_setCell hb3
      · exact (hTold.kept (w' := (W2.drew.setCell ⟨g, s.pos, none⟩ (.slice none 0 0)).setCell ⟨b, 4, none⟩ (.int .i64 ((s.pos + 1 : Nat) : Int))) (r' := r1) (fun k _ hr => ⟨Below.heap_setCell _ _ _ _ (fun e' => by rw [e', hr1b] at hr; simp at hr), rfl⟩)).turn (grownBy_putObj' _ D _) hrow
      · exact (hT.kept (w' := (W2.drew.setCell ⟨g, s.pos, none⟩ (.slice none 0 0)).setCell ⟨b, 4, none⟩ (.int .i64 ((s.pos + 1 : Nat) : Int))) (r' := r1) (fun k _ hr => ⟨f4' k (fun e' => by rw [e', hr1g] at hr; simp at hr) (fun e' => by rw [e', hr1b] at hr; simp at hr) (fun e' => by rw [e', hr1v] at hr; simp at hr), rfl⟩)).turn (grownBy_putObj' _ D _) hrow
    · exact h2w.1.trans (hTr.1.1.trans hB0.os)
    · exact ⟨h2w.2.1.trans (hTr.1.2.1.trans hB0.tape), h2w.2.2.trans (hTr.1.2.2.trans hB0.output)⟩
    · have q := hold k hk' (by rw [hr]; simp) (by rw [hr]; simp)
      exact ⟨(f5 k (fun e' => by rw [e', hrg] at hr; simp at hr) (fun e' => by rw [e', hrb] at hr; simp at hr) (by omega) (fun e' => by rw [e', hrgv] at hr; simp at hr)).trans q.1, q.2.trans hr⟩
  case stop =>
    rintro D c pre W _ _ h _
    exact h.elim
end Go.Proofs.YtmgeaanbgjbkcaaGreat.DS
