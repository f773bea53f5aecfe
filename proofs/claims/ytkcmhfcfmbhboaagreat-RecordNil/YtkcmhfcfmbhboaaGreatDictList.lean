/-
  A plain list of entries beside a dict: plain mathematics, and the memory.
-/
import Derived.Test.YtkcmhfcfmbhboaaGreatDictTale
namespace Go.Proofs.YtkcmhfcfmbhboaaGreat
open Go.RowKit Go.Shelf
/-- a list tells what a table tells -/
def Lst (s : Dc.St ByteArray ByteArray) (l : List Ent) : Prop := (Dc.keys l).Nodup ∧ (∀ k, Dc.look k l = lk s k) ∧ l.length = ln s
/-- where a key stands in a list -/
def AtIs (l : List Ent) (key : ByteArray) (a : Int) : Prop := (a = -1 ∧ ∀ e ∈ l, e.1 ≠ key) ∨ ∃ (p : Nat) (x : ByteArray), a = p ∧ l[p]? = some (key, x)
theorem alter_set {l : List Ent} {p : Nat} {key : ByteArray} {x v : ByteArray} (hn : (Dc.keys l).Nodup) (h : l[p]? = some (key, x)) : l.set p (key, v) = Dc.alter key v l := by
  have := alter_at (c := l.reverse) (v := v) (keys_rev hn) (by rw [List.reverse_reverse]; exact h)
  rw [List.reverse_reverse] at this
  have e2 := congrArg List.reverse this
  rw [List.reverse_reverse] at e2
  rw [e2]
  unfold Dc.alter
  rw [List.map_reverse, List.reverse_reverse]
theorem look_snoc (l : List Ent) (e : Ent) (k : ByteArray) : Dc.look k (l ++ [e]) = (Dc.look k l).or (if e.1 = k then some e.2 else none) := by
  induction l with
  | nil => simp [Dc.look]
  | cons a l ih =>
    show (if a.1 = k then some a.2 else Dc.look k (l ++ [e])) = (if a.1 = k then some a.2 else Dc.look k l).or _
    rw [ih]
    split <;> rfl
theorem lst_none : Lst Dc.none0 [] := ⟨by simp [Dc.keys], fun _ => rfl, rfl⟩
theorem lst_same {s s' : Dc.St ByteArray ByteArray} {l : List Ent} (h : Lst s l) (hs : Samd s s') : Lst s' l := ⟨h.1, fun k => by rw [hs.1]; exact h.2.1 k, by rw [hs.2]; exact h.2.2⟩
theorem lst_found {s : Dc.St ByteArray ByteArray} {l : List Ent} {key : ByteArray} {p : Nat} {x : ByteArray} (h : Lst s l) (hp : l[p]? = some (key, x)) : lk s key = some x := by
  rw [← h.2.1]
  exact (Dc.look_mem h.1 key x).2 (List.mem_of_getElem? hp)
theorem lst_missed {s : Dc.St ByteArray ByteArray} {l : List Ent} {key : ByteArray} (h : Lst s l) (hp : ∀ e ∈ l, e.1 ≠ key) : lk s key = none := by
  rw [← h.2.1]
  exact (Dc.look_none key).2 (fun hm => by obtain ⟨e, he, hk⟩ := List.mem_map.1 hm; exact hp e he hk)
theorem lst_set {s s' : Dc.St ByteArray ByteArray} {l : List Ent} {key : ByteArray} {p : Nat} {x v : ByteArray} (h : Lst s l) (hs : Setd s s' key v) (hp : l[p]? = some (key, x)) : Lst s' (l.set p (key, v)) := by
  have hf := lst_found h hp
  refine ⟨by rw [alter_set h.1 hp, Dc.alter_keys]; exact h.1, fun k => ?_, by rw [List.length_set, hs.2, hf]; exact h.2.2⟩
  rw [alter_set h.1 hp, Dc.look_alter, hs.1, h.2.1]
  by_cases hk : k = key
  · rw [if_pos hk, if_pos hk, hk, hf]; rfl
  · rw [if_neg hk, if_neg hk]
theorem lst_add {s s' : Dc.St ByteArray ByteArray} {l : List Ent} {key : ByteArray} {v : ByteArray} (h : Lst s l) (hs : Setd s s' key v) (hp : ∀ e ∈ l, e.1 ≠ key) : Lst s' (l ++ [(key, v)]) := by
  have hf := lst_missed h hp
  refine ⟨?_, fun k => ?_, by rw [List.length_append, hs.2, hf, h.2.2]; rfl⟩
  · simp only [Dc.keys, List.map_append]
    refine List.nodup_append.2 ⟨h.1, by simp, fun a ha b hb hab => ?_⟩
    obtain ⟨e, he, rfl⟩ := List.mem_map.1 ha
    simp at hb
    exact hp e he (hab.trans hb)
  · rw [look_snoc, hs.1, h.2.1]
    by_cases hk : k = key
    · rw [if_pos hk, hk, hf, if_pos rfl]; rfl
    · rw [if_neg hk, if_neg (fun e => hk e.symm), Option.or_none]
theorem cut_perm {l : List Ent} {p : Nat} {key : ByteArray} {x : ByteArray} {z : Ent} (hn : (Dc.keys l).Nodup) (hp : l[p]? = some (key, x)) (hz : l[l.length - 1]? = some z) : ((l.set p z).take (l.length - 1)).Perm (Dc.without key l) := by
  obtain ⟨h1, h2⟩ := rest_ne hn hp
  have hs := split_at hp
  have hl := (List.getElem?_eq_some_iff.1 hp).1
  have hw : Dc.without key l = l.take p ++ l.drop (p + 1) := by
    unfold Dc.without
    conv => lhs; rw [hs]
    rw [List.filter_append, List.filter_cons, if_neg (by simp), List.filter_eq_self.2 (fun e he => decide_eq_true (h1 e he)), List.filter_eq_self.2 (fun e he => decide_eq_true (h2 e he))]
  rw [hw, List.set_eq_take_append_cons_drop, if_pos hl]
  rcases Nat.lt_or_ge (p + 1) l.length with hlt | hge
  · have hd : l.drop (p + 1) = (l.drop (p + 1)).take (l.length - (p + 1) - 1) ++ [z] := by
      have hlen : (l.drop (p + 1)).length = l.length - (p + 1) := List.length_drop
      have hz2 : (l.drop (p + 1))[l.length - (p + 1) - 1]? = some z := by rw [List.getElem?_drop, show p + 1 + (l.length - (p + 1) - 1) = l.length - 1 by omega]; exact hz
      have hlt2 : l.length - (p + 1) - 1 < (l.drop (p + 1)).length := by omega
      rw [List.getElem?_eq_getElem hlt2] at hz2
      rw [← Option.some.inj hz2, ← List.take_succ_eq_append_getElem hlt2, show l.length - (p + 1) - 1 + 1 = (l.drop (p + 1)).length by omega, List.take_length]
    rw [List.take_append, List.length_take, Nat.min_eq_left (by omega), List.take_of_length_le (by rw [List.length_take]; omega), show l.length - 1 - p = (l.length - (p + 1) - 1) + 1 by omega, List.take_succ_cons]
    conv => rhs; rw [hd]
    refine List.Perm.append_left _ ?_
    exact (List.perm_append_comm (l₁ := [z])).trans (List.Perm.refl _)
  · rw [List.drop_of_length_le (by omega), List.append_nil, List.take_append_of_le_length (by rw [List.length_take]; omega), List.take_take, Nat.min_eq_left (by omega), show l.length - 1 = p by omega]
theorem lst_del {s s' : Dc.St ByteArray ByteArray} {l : List Ent} {key : ByteArray} {p : Nat} {x : ByteArray} {z : Ent} (h : Lst s l) (hs : Deld s s' key) (hp : l[p]? = some (key, x)) (hz : l[l.length - 1]? = some z) : Lst s' ((l.set p z).take (l.length - 1)) := by
  have hf := lst_found h hp
  have hpm := cut_perm h.1 hp hz
  have hn : (Dc.keys ((l.set p z).take (l.length - 1))).Nodup := (Dc.keys_perm hpm).nodup_iff.2 (((List.filter_sublist (l := l)).map _).nodup h.1)
  refine ⟨hn, fun k => ?_, by rw [List.length_take, List.length_set, hs.2, hf, ← h.2.2, Nat.min_eq_left (by omega)]; rfl⟩
  rw [Dc.look_perm hn hpm, Dc.look_without, hs.1, h.2.1]
theorem lst_del_none {s s' : Dc.St ByteArray ByteArray} {l : List Ent} {key : ByteArray} (h : Lst s l) (hs : Deld s s' key) (hp : ∀ e ∈ l, e.1 ≠ key) : Lst s' l := by
  have hf := lst_missed h hp
  refine ⟨h.1, fun k => ?_, by rw [hs.2, hf, h.2.2]; rfl⟩
  rw [hs.1, h.2.1]
  by_cases hk : k = key
  · rw [if_pos hk, hk, hf]
  · rw [if_neg hk]
/- the memory -/
def enL (l : List Ent) : List Value := l.flatMap enE
theorem enL_len (l : List Ent) : (enL l).length = l.length * 2 := by
  unfold enL
  induction l with
  | nil => rfl
  | cons e l ih => rw [List.flatMap_cons, List.length_append, ih]; simp [enE]; omega
/-- a list lies in a slice -/
def Lie (w : World) (v : Value) (l : List Ent) : Prop := w.ownsRow 0 54 2 v l.length (enL l)
theorem enL_rev (l : List Ent) : enL l = enC l.reverse := by unfold enL enC; rw [List.reverse_reverse]
theorem Lie.form {w : World} {v : Value} {l : List Ent} (h : Lie w v l) : ∃ ao cap, v = .slice ao l.length cap ∧ l.length ≤ cap ∧ cap ≤ maxLen ∧ (l = [] ∨ ∃ g, ao = some ⟨g, 0, none⟩ ∧ g < w.heap.size) := by
  rcases h.2 with ⟨rfl, h0⟩ | ⟨g, cap, cur, rfl, _, hg, h1, h2, _⟩
  · exact ⟨none, 0, by rw [h0], by omega, by simp, .inl (List.length_eq_zero_iff.1 h0)⟩
  · exact ⟨_, cap, rfl, h1, h2, .inr ⟨g, rfl, (Array.getElem?_eq_some_iff.1 hg).1⟩⟩
theorem Lie.at {w : World} {g n cap p : Nat} {l : List Ent} {e : Ent} (h : Lie w (.slice (some ⟨g, 0, none⟩) n cap) l) (hp : l[p]? = some e) :
    w.cell? ⟨g, p * 2, none⟩ = some (.string e.1) ∧ w.cell? ⟨g, p * 2 + 1, none⟩ = some (.string e.2) := by
  have add : ∀ i, (⟨g, 0, none⟩ : Addr).add i = ⟨g, i, none⟩ := by intro i; unfold Addr.add; split <;> simp_all
  have hr := enC_at (c := l.reverse) (p := p) (e := e) (by rw [List.reverse_reverse]; exact hp)
  rw [← enL_rev] at hr
  have h1 := h.cells (g := g) rfl _ _ hr.1
  have h2 := h.cells (g := g) rfl _ _ hr.2
  rw [add] at h1 h2
  exact ⟨h1, h2⟩
theorem Lie.free {w : World} {g n cap : Nat} {l : List Ent} (h : Lie w (.slice (some ⟨g, 0, none⟩) n cap) l) (i : Nat) : w.frozen? ⟨g, i, none⟩ = false := by
  rcases h.2 with ⟨e, _⟩ | ⟨g', cap', cur, e, _, hg, _⟩
  · cases e
  · cases e; simp [World.frozen?, hg]
theorem Lie.kept {w w' : World} {v : Value} {l : List Ent} (h : Lie w v l) (hk : ∀ k, v.ownBlock = some k → w'.heap[k]? = w.heap[k]?) : Lie w' v l := own_kept h hk
theorem set_pair {l : List Ent} {p : Nat} {e z : Ent} (h : l[p]? = some e) : ((enL l).set (p * 2) (.string z.1)).set (p * 2 + 1) (.string z.2) = enL (l.set p z) := by
  unfold enL
  induction l generalizing p with
  | nil => simp at h
  | cons a l ih =>
    cases p with
    | zero => simp [enE]
    | succ p =>
      have := ih (p := p) (by simpa using h)
      rw [List.set_cons_succ, List.flatMap_cons, List.flatMap_cons, ← this, List.set_append_right _ _ (by simp [enE]; omega), List.set_append_right _ _ (by simp [enE]; omega)]
      have a1 : (p + 1) * 2 - (enE a).length = p * 2 := by simp [enE]; omega
      have a2 : (p + 1) * 2 + 1 - (enE a).length = p * 2 + 1 := by simp [enE]; omega
      rw [a1, a2]
theorem Lie.setv {w : World} {g n cap p : Nat} {l : List Ent} {key : ByteArray} {x v : ByteArray} (h : Lie w (.slice (some ⟨g, 0, none⟩) n cap) l) (hp : l[p]? = some (key, x)) : Lie (w.setCell ⟨g, p * 2 + 1, none⟩ (.string v)) (.slice (some ⟨g, 0, none⟩) n cap) (l.set p (key, v)) := by
  unfold Lie
  rw [List.length_set]
  refine ⟨by rw [enL_len, List.length_set], ?_⟩
  rcases h.2 with ⟨e, _⟩ | ⟨g', cap', cur, e, _, hh, q1, q2, q3, q4⟩
  · cases e
  · cases e
    refine .inr ⟨g, cap, _, rfl, Nat.zero_le _, cells_setCell hh, q1, q2, by simpa using q3, ?_⟩
    rw [take_set q4]
    exact set_odd hp
theorem Lie.cut {w : World} {g n cap p : Nat} {l : List Ent} {e z : Ent} (h : Lie w (.slice (some ⟨g, 0, none⟩) n cap) l) (hp : l[p]? = some e) :
    Lie ((w.setCell ⟨g, p * 2, none⟩ (.string z.1)).setCell ⟨g, p * 2 + 1, none⟩ (.string z.2)) (.slice (some ⟨g, 0, none⟩) (l.length - 1) cap) ((l.set p z).take (l.length - 1)) := by
  have hlt := (List.getElem?_eq_some_iff.1 hp).1
  unfold Lie
  have hl : ((l.set p z).take (l.length - 1)).length = l.length - 1 := by rw [List.length_take, List.length_set, Nat.min_eq_left (by omega)]
  rw [hl]
  refine ⟨by rw [enL_len, hl], ?_⟩
  rcases h.2 with ⟨e', _⟩ | ⟨g', cap', cur, e', _, hh, q1, q2, q3, q4⟩
  · cases e'
  · cases e'
    refine .inr ⟨g, cap, _, rfl, Nat.zero_le _, cells_setCell (cells_setCell hh), by omega, q2, by simpa using q3, ?_⟩
    have e1 : enL ((l.set p z).take (l.length - 1)) = (enL (l.set p z)).take ((l.length - 1) * 2) := flat_take _ _
    rw [e1, ← set_pair hp]
    have e2 := take_set (i := p * 2 + 1) (u := .string z.2) (take_set (i := p * 2) (u := .string z.1) q4)
    rw [← e2, List.take_take, Nat.min_eq_left (by omega)]
end Go.Proofs.YtkcmhfcfmbhboaaGreat
