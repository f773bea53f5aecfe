/-
  What a change of one entry makes of a table: plain mathematics, and the memory.
-/
import Derived.Test.YthmmblohfjmbcaaGreatPDictMove
namespace Go.Proofs.YthmmblohfjmbcaaGreat.DP
open Go.RowKit Go.Shelf
theorem split_at {α : Type} {l : List α} {p : Nat} {a : α} (h : l[p]? = some a) : l = l.take p ++ a :: l.drop (p + 1) := by
  have hl := (List.getElem?_eq_some_iff.1 h).1
  rw [List.getElem?_eq_getElem hl] at h
  rw [← Option.some.inj h, ← List.drop_eq_getElem_cons hl, List.take_append_drop]
theorem rest_ne {l : List Ent} {p : Nat} {key : ByteArray} {x : Option Addr} (hn : (Dc.keys l).Nodup) (h : l[p]? = some (key, x)) : (∀ e ∈ l.take p, e.1 ≠ key) ∧ ∀ e ∈ l.drop (p + 1), e.1 ≠ key := by
  have hs := split_at h
  rw [hs] at hn
  simp only [Dc.keys, List.map_append, List.map_cons] at hn
  obtain ⟨_, h2, h3⟩ := List.nodup_append.1 hn
  obtain ⟨h4, _⟩ := List.nodup_cons.1 h2
  refine ⟨fun e he hk => h3 e.1 (List.mem_map.2 ⟨e, he, rfl⟩) key (by simp) hk, fun e he hk => h4 (List.mem_map.2 ⟨e, he, hk⟩)⟩
theorem map_same {α : Type} {f : α → α} {l : List α} (h : ∀ e ∈ l, f e = e) : l.map f = l := by
  conv => rhs; rw [← List.map_id l]
  exact List.map_congr_left h
theorem keys_rev {c : List Ent} (hn : (Dc.keys c).Nodup) : (Dc.keys c.reverse).Nodup := by
  unfold Dc.keys at *
  rw [List.map_reverse]
  exact (List.reverse_perm _).nodup_iff.2 hn
theorem alter_at {c : List Ent} {p : Nat} {key : ByteArray} {x v : Option Addr} (hn : (Dc.keys c).Nodup) (h : c.reverse[p]? = some (key, x)) : (c.reverse.set p (key, v)).reverse = Dc.alter key v c := by
  obtain ⟨h1, h2⟩ := rest_ne (keys_rev hn) h
  have hs := split_at h
  have e1 : c.reverse.set p (key, v) = Dc.alter key v c.reverse := by
    have hl := (List.getElem?_eq_some_iff.1 h).1
    rw [List.set_eq_take_append_cons_drop, if_pos hl]
    unfold Dc.alter
    conv => rhs; rw [hs]
    rw [List.map_append, List.map_cons, if_pos rfl]
    congr 1
    · exact (map_same (fun e he => if_neg (h1 e he))).symm
    · congr 1
      exact (map_same (fun e he => if_neg (h2 e he))).symm
  rw [e1]
  unfold Dc.alter
  rw [List.map_reverse, List.reverse_reverse]
theorem without_at {c : List Ent} {p : Nat} {key : ByteArray} {x : Option Addr} (hn : (Dc.keys c).Nodup) (h : c.reverse[p]? = some (key, x)) : (c.reverse.eraseIdx p).reverse = Dc.without key c := by
  obtain ⟨h1, h2⟩ := rest_ne (keys_rev hn) h
  have hs := split_at h
  have e1 : c.reverse.eraseIdx p = Dc.without key c.reverse := by
    rw [List.eraseIdx_eq_take_drop_succ]
    unfold Dc.without
    conv => rhs; rw [hs]
    rw [List.filter_append, List.filter_cons, if_neg (by simp), List.filter_eq_self.2 (fun e he => decide_eq_true (h1 e he)), List.filter_eq_self.2 (fun e he => decide_eq_true (h2 e he))]
  rw [e1]
  unfold Dc.without
  rw [List.filter_reverse, List.reverse_reverse]
theorem chain_nodup {h : ByteArray → Nat} {s : Dc.St ByteArray (Option Addr)} (hI : Dc.Inv h s) {T : Dc.Tab ByteArray (Option Addr)} (hT : T = s.old ∨ T = s.young) {c : List Ent} (hc : c ∈ T) : (Dc.keys c).Nodup := by
  have hn := hI.nodup
  simp only [Dc.keys, List.map_append] at hn
  obtain ⟨h0, h1, _⟩ := List.nodup_append.1 hn
  have hsl : (Dc.keys c).Sublist (Dc.keys T.flatten) := (List.sublist_flatten_of_mem hc).map _
  rcases hT with rfl | rfl
  · exact hsl.nodup h0
  · exact hsl.nodup h1
theorem mod_set {T : Dc.Tab ByteArray (Option Addr)} {i : Nat} {c : List Ent} (f : List Ent → List Ent) (hc : T[i]? = some c) : T.modify i f = T.set i (f c) := by
  rw [List.modify_eq_set, hc]; rfl
theorem every_old {h : ByteArray → Nat} {s : Dc.St ByteArray (Option Addr)} (hI : Dc.Inv h s) {key : ByteArray} {x : Option Addr} {c : List Ent} (f : List Ent → List Ent) (hf : ∀ c : List Ent, (∀ e ∈ c, e.1 ≠ key) → f c = c) (hc : s.old[h key % s.old.length]? = some c) (hx : (key, x) ∈ c) :
    Dc.every f s = { s with old := s.old.set (h key % s.old.length) (f c) } := by
  unfold Dc.every
  rw [← Dc.modify_map hI.put0 key f hf, mod_set f hc]
  congr 1
  refine map_same (fun d hd => hf d (fun e he hk => ?_))
  have hn := hI.nodup
  simp only [Dc.keys, List.map_append] at hn
  exact (List.nodup_append.1 hn).2.2 key (List.mem_map.2 ⟨(key, x), List.mem_flatten.2 ⟨c, List.mem_of_getElem? hc, hx⟩, rfl⟩) e.1 (List.mem_map.2 ⟨e, List.mem_flatten.2 ⟨d, hd, he⟩, rfl⟩) hk.symm
theorem every_young {h : ByteArray → Nat} {s : Dc.St ByteArray (Option Addr)} (hI : Dc.Inv h s) {key : ByteArray} {x : Option Addr} {c : List Ent} (f : List Ent → List Ent) (hf : ∀ c : List Ent, (∀ e ∈ c, e.1 ≠ key) → f c = c) (hc : s.young[h key % s.young.length]? = some c) (hx : (key, x) ∈ c) :
    Dc.every f s = { s with young := s.young.set (h key % s.young.length) (f c) } := by
  unfold Dc.every
  rw [← Dc.modify_map hI.put1 key f hf, mod_set f hc]
  congr 1
  refine map_same (fun d hd => hf d (fun e he hk => ?_))
  have hn := hI.nodup
  simp only [Dc.keys, List.map_append] at hn
  exact (List.nodup_append.1 hn).2.2 e.1 (List.mem_map.2 ⟨e, List.mem_flatten.2 ⟨d, hd, he⟩, rfl⟩) key (List.mem_map.2 ⟨(key, x), List.mem_flatten.2 ⟨c, List.mem_of_getElem? hc, hx⟩, rfl⟩) hk
theorem look_found {h : ByteArray → Nat} {s : Dc.St ByteArray (Option Addr)} (hI : Dc.Inv h s) {T : Dc.Tab ByteArray (Option Addr)} (hT : T = s.old ∨ T = s.young) {key : ByteArray} {x : Option Addr} {c : List Ent} (hc : c ∈ T) (hx : (key, x) ∈ c) : Dc.look key (Dc.all s) = some x := by
  rw [Dc.all_eq hI]
  refine (Dc.look_mem hI.nodup key x).2 (List.mem_append.2 ?_)
  rcases hT with rfl | rfl
  · exact .inl (List.mem_flatten.2 ⟨c, hc, hx⟩)
  · exact .inr (List.mem_flatten.2 ⟨c, hc, hx⟩)
theorem look_missed {h : ByteArray → Nat} {s : Dc.St ByteArray (Option Addr)} (hI : Dc.Inv h s) {key : ByteArray} (h0 : ∀ x ∈ Dc.chain h s.old key, x.1 ≠ key) (h1 : ∀ x ∈ Dc.chain h s.young key, x.1 ≠ key) : Dc.look key (Dc.all s) = none := by
  rw [← Dc.seek hI key]
  have n0 : Dc.look key (Dc.chain h s.old key) = none := (Dc.look_none key).2 (fun hm => by obtain ⟨e, he, hk⟩ := List.mem_map.1 hm; exact h0 e he hk)
  have n1 : Dc.look key (Dc.chain h s.young key) = none := (Dc.look_none key).2 (fun hm => by obtain ⟨e, he, hk⟩ := List.mem_map.1 hm; exact h1 e he hk)
  rw [n0, n1]; rfl
/- the memory -/
theorem set_odd {l : List Ent} {p : Nat} {key : ByteArray} {x v : Option Addr} (h : l[p]? = some (key, x)) : (l.flatMap enE).set (p * 2 + 1) (.pointer v) = (l.set p (key, v)).flatMap enE := by
  induction l generalizing p with
  | nil => simp at h
  | cons a l ih =>
    cases p with
    | zero => simp at h; subst h; simp [enE]
    | succ p =>
      rw [List.set_cons_succ, List.flatMap_cons, List.flatMap_cons, ← ih (by simpa using h), List.set_append_right _ _ (by simp [enE]; omega)]
      congr 2
      simp [enE]; omega
theorem chn_set {w : World} {g n cap p : Nat} {c : List Ent} {key : ByteArray} {x v : Option Addr} (hC : Chn w (.slice (some ⟨g, 0, none⟩) n cap) c) (hp : c.reverse[p]? = some (key, x)) : Chn (w.setCell ⟨g, p * 2 + 1, none⟩ (.pointer v)) (.slice (some ⟨g, 0, none⟩) n cap) (c.reverse.set p (key, v)).reverse := by
  obtain ⟨h1, h2⟩ := hC
  have hl : ((c.reverse.set p (key, v)).reverse).length = c.length := by simp
  unfold Chn
  rw [hl]
  refine ⟨by rw [enC_len, hl], ?_⟩
  rcases h2 with ⟨e, _⟩ | ⟨g', cap', cur, e, _, hh, q1, q2, q3, q4⟩
  · cases e
  · cases e
    refine .inr ⟨g, cap, _, rfl, Nat.zero_le _, cells_setCell hh, q1, q2, by simpa using q3, ?_⟩
    rw [take_set q4]
    unfold enC
    rw [List.reverse_reverse]
    exact set_odd hp
/-- a chain turns within its own block -/
theorem Tb.swap {w w' : World} {r : Roles} {t g cap n i : Nat} {T : Dc.Tab ByteArray (Option Addr)} {c c' : List Ent} {v : Value} (h : Tb w r t (.slice (some ⟨g, 0, none⟩) n cap) T) (hi : T[i]? = some c) (hv : w.cell? ⟨g, i, none⟩ = some v) (hC : Chn w' v c') (hr : ∀ k, v.ownBlock = some k → r k = (3 + t, i))
    (hk : ∀ k, k < w.heap.size → v.ownBlock ≠ some k → w'.heap[k]? = w.heap[k]?) : Tb w' r t (.slice (some ⟨g, 0, none⟩) n cap) (T.set i c') := by
  obtain ⟨vs, h1, h2, h3⟩ := h
  have hil : i < T.length := (List.getElem?_eq_some_iff.1 hi).1
  have hvg : v.ownBlock ≠ some g := fun e => by have := hr g e; rw [h2 g rfl] at this; simp at this
  refine ⟨vs, by rw [List.length_set]; exact own_kept h1 (fun k e => hk k (own_lt h1 e) (by cases e; exact hvg)), h2, fun j d hd => ?_⟩
  rw [List.getElem?_set] at hd
  by_cases hij : i = j
  · subst hij
    rw [if_pos rfl, if_pos hil] at hd
    cases hd
    obtain ⟨v', e1, e2, e3⟩ := h3 i c hi
    have := h1.cells (g := g) rfl i v' e1
    rw [show (⟨g, 0, none⟩ : Addr).add i = ⟨g, i, none⟩ by unfold Addr.add; split <;> simp_all, hv] at this
    cases this
    exact ⟨v, e1, hC, e3⟩
  · rw [if_neg hij] at hd
    obtain ⟨v', e1, e2, e3⟩ := h3 j d hd
    refine ⟨v', e1, own_kept e2 (fun k e => hk k (own_lt e2 e) (fun e' => ?_)), e3⟩
    have a := e3 k e
    rw [hr k e'] at a
    simp at a
    exact hij a
end Go.Proofs.YthmmblohfjmbcaaGreat.DP
