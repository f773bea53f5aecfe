/-
  A record beside a plain row of pairs, in the memory and as tables.
-/
import Derived.Test.YtkcmhfcfmbhboaaRecTab0
namespace Go.Proofs.Ytkcmhfcfmbhboaa
open Go.RowKit Go.Shelf
theorem find_no {B : Nat} {w : World} {v : Value} {l : List Ent} (h : Rw B w v l) {f : ByteArray} (hl : l.length ≤ 2600000000000) (hf : ∀ e ∈ l, e.1 ≠ f) :
    Calls Try.prog 7 #[v, .string f] w fun e w' => e = .returned (.int .i64 (-1)) ∧ w' = w := by
  refine (find_any B w v l h f hl).mono ?_
  rintro _ w' ⟨⟨a, rfl, ⟨rfl, _⟩ | ⟨p, x, rfl, hp⟩⟩, rfl⟩
  · exact ⟨rfl, rfl⟩
  · exact absurd rfl (hf _ (List.mem_of_getElem? hp))
theorem at_one {l : List Ent} {f x y : ByteArray} {p q : Nat} (hn : (Dc.keys l).Nodup) (hp : l[p]? = some (f, x)) (hq : l[q]? = some (f, y)) : q = p := by
  unfold Dc.keys at hn
  rw [List.nodup_iff_pairwise_ne, List.pairwise_iff_getElem] at hn
  obtain ⟨h1, e1⟩ := List.getElem?_eq_some_iff.1 hp
  obtain ⟨h2, e2⟩ := List.getElem?_eq_some_iff.1 hq
  rcases Nat.lt_trichotomy q p with h | h | h
  · have := hn q p (by simpa using h2) (by simpa using h1) h
    simp [e1, e2] at this
  · exact h
  · have := hn p q (by simpa using h1) (by simpa using h2) h
    simp [e1, e2] at this
theorem find_yes {B : Nat} {w : World} {v : Value} {l : List Ent} (h : Rw B w v l) {f x : ByteArray} {p : Nat} (hl : l.length ≤ 2600000000000) (hn : (Dc.keys l).Nodup) (hp : l[p]? = some (f, x)) :
    Calls Try.prog 7 #[v, .string f] w fun e w' => e = .returned (.int .i64 (p : Int)) ∧ w' = w := by
  refine (find_any B w v l h f hl).mono ?_
  rintro _ w' ⟨⟨a, rfl, ⟨rfl, hno⟩ | ⟨q, y, rfl, hq⟩⟩, rfl⟩
  · exact absurd rfl (hno _ (List.mem_of_getElem? hp))
  · rw [at_one hn hp hq]; exact ⟨rfl, rfl⟩
theorem erase_is {l : List Ent} {p : Nat} {key x : ByteArray} (hn : (Dc.keys l).Nodup) (hp : l[p]? = some (key, x)) : l.eraseIdx p = Dc.without key l := by
  have := without_at (c := l.reverse) (keys_rev hn) (by rw [List.reverse_reverse]; exact hp)
  rw [List.reverse_reverse] at this
  have e2 := congrArg List.reverse this
  rw [List.reverse_reverse] at e2
  rw [e2]
  unfold Dc.without
  rw [List.filter_reverse, List.reverse_reverse]
theorem lst_erase {s s' : Sx} {l : List Ent} {key x : ByteArray} {p : Nat} (h : Lst s l) (hs : Deld s s' key) (hp : l[p]? = some (key, x)) : Lst s' (l.eraseIdx p) := by
  have hf := lst_found h hp
  have hlt := (List.getElem?_eq_some_iff.1 hp).1
  refine ⟨((List.eraseIdx_sublist l p).map Prod.fst).nodup h.1, fun k => ?_, by rw [List.length_eraseIdx, if_pos hlt, hs.2, hf, h.2.2]; rfl⟩
  rw [erase_is h.1 hp, Dc.look_without, hs.1, h.2.1]
/-- a record in new blocks, and a plain row of pairs in others -/
def Rb (h : ByteArray → Nat) (N : Nat) (W w : World) (r : Roles) (x : Nat) (s : Sx) (v : Value) (l : List Ent) : Prop :=
  Rn h N W w r (W.heap.size + 1) W.heap.size x s ∧ Rw W.heap.size w v l ∧ ∀ g, v.ownBlock = some g → rr r (W.heap.size + 1) g = (0, 0)
theorem Rn.fresh {h : ByteArray → Nat} {N : Nat} {W w : World} {r : Roles} {R b seed : Nat} {s : Sx} (hr : Rn h N W w r R b seed s) {g : Nat} (hg : w.heap.size ≤ g) : rr r R g = (0, 0) := by
  refine rr_zero.2 ⟨by have := hr.1.lt; omega, ?_⟩
  rcases Classical.em (r g = (0, 0)) with e | e
  · exact e
  · exact absurd (hr.1.1.1.1 g e) (by omega)
theorem Rb.op {h : ByteArray → Nat} {N N' : Nat} {W w w' : World} {r r' : Roles} {x : Nat} {s s' : Sx} {v : Value} {l : List Ent} (hb : Rb h N W w r x s v l) (h1 : Rec h N' w' r' (W.heap.size + 1) W.heap.size x s') (hf : Fr w (rr r (W.heap.size + 1)) w' (rr r' (W.heap.size + 1))) : Rb h N' W w' r' x s' v l :=
  ⟨hb.1.step h1 hf, hb.2.1.kept (fun k hk => (hf.2.2 k (hb.2.1.lt hk) (hb.2.2 k hk)).1), fun g hg => (hf.2.2 g (hb.2.1.lt hg) (hb.2.2 g hg)).2⟩
theorem Rb.below {h : ByteArray → Nat} {N : Nat} {W w w' : World} {r : Roles} {x : Nat} {s : Sx} {v : Value} {l : List Ent} (hb : Rb h N W w r x s v l) (hw : Below w.heap.size w w') : Rb h N W w' r x s v l :=
  ⟨hb.1.below hw, hb.2.1.kept (fun k hk => hw.block k (hb.2.1.lt hk)), hb.2.2⟩
theorem Rb.more {h : ByteArray → Nat} {N N' : Nat} {W w : World} {r : Roles} {x : Nat} {s : Sx} {v : Value} {l : List Ent} (hb : Rb h N W w r x s v l) (hN : N ≤ N') : Rb h N' W w r x s v l := ⟨hb.1.more hN, hb.2⟩
theorem Rb.row {h : ByteArray → Nat} {N : Nat} {W w w' : World} {r : Roles} {x : Nat} {s : Sx} {v v' : Value} {l l' : List Ent} (hb : Rb h N W w r x s v l) (hs : w.heap.size ≤ w'.heap.size) (ho : w'.os = w.os ∧ w'.tape = w.tape ∧ w'.output = w.output)
    (hk : ∀ k, k < w.heap.size → v.ownBlock ≠ some k → w'.heap[k]? = w.heap[k]?) (hR : Rw W.heap.size w' v' l') (hat : ∀ g, v'.ownBlock = some g → v.ownBlock = some g ∨ w.heap.size ≤ g) : Rb h N W w' r x s v' l' := by
  obtain ⟨h1, h2, h3⟩ := hb
  refine ⟨⟨h1.1.kept hs (fun k hk1 hk2 => hk k hk1 (fun e => hk2 (h3 k e))), h1.2.1, h1.2.2.1, h1.2.2.2.trans ⟨ho.1, ho.2.1, ho.2.2, hs, fun k hk1 => hk k (Nat.lt_of_lt_of_le hk1 h1.2.2.2.size) (fun e => ?_)⟩⟩, hR, fun g hg => ?_⟩
  · have := (World.ownsRow.lt h2 k e).1
    omega
  · rcases hat g hg with e | e
    · exact h3 g e
    · exact h1.fresh e
theorem tol_le {a : ByteArray} (h : tol a = false) : a.size ≤ 1048576 := by
  unfold tol at h
  have := of_decide_eq_false h
  omega
/-- behind k steps -/
def TbI (h : ByteArray → Nat) (W : World) (x k : Nat) (v : Value) (w : World) : Prop := ∃ r s l, Rb h k W w r x s v l ∧ Lst s l ∧ ln s ≤ k
theorem Lst.perm {s : Sx} {h : ByteArray → Nat} {l : List Ent} (hI : Dc.Inv h s) (hL : Lst s l) : l.Perm (Dc.all s) :=
  perm_of_mem (ent_nodup hL.1) (ent_nodup (all_nodup hI)) (fun a => by
    have := hL.2.1 a.1
    unfold lk at this
    rw [← Dc.look_mem hL.1, ← Dc.look_mem (all_nodup hI), this])
/-- the box of a step -/
def bxC (o : Stp) : Obj := .cells o.cells 28
theorem box_at {w : World} {X : Nat} {o : Stp} (h : w.heap[X]? = some (.cells o.cells 28 (0, 0))) :
    w.cell? ⟨X, 0, none⟩ = some (.int .i64 o.op) ∧ w.cell? ⟨X, 2, none⟩ = some (.string o.f) ∧ w.cell? ⟨X, 3, none⟩ = some (.string o.s) ∧ w.cell? ⟨X, 5, none⟩ = some (.int .i64 o.cnt) := by
  unfold Stp.cells at h
  refine ⟨?_, ?_, ?_, ?_⟩ <;> simp [World.cell?, h]
end Go.Proofs.Ytkcmhfcfmbhboaa
