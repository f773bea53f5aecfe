/-
  Plain mathematics: what Offer leaves: never too many, rising, each key once; kept just if it is told so; what goes is the last alone.
-/
import Derived.Test.YtgniiojeeobffaaPlOpen
namespace Go.Proofs.Ytgniiojeeobffaa
open Go.RowKit Go.Shelf
set_option linter.unusedVariables false
set_option linter.unusedSimpArgs false
set_option maxRecDepth 100000
theorem put_good {c : Ent} {l : List Ent} (h : Good l) : Good (put c (del c.1 l)) := good_put (good_del h) del_keys
theorem good_take {l : List Ent} (h : Good l) (m : Nat) : Good (l.take m) := ⟨h.1.sublist (List.take_sublist m l), h.2.sublist (List.take_sublist m l)⟩
theorem good_tail {l : List Ent} (h : Good l) : Good l.tail := ⟨h.1.sublist (List.tail_sublist l), h.2.sublist (List.tail_sublist l)⟩
/-- a place is told by what stands there -/
theorem good_place {l : List Ent} (h : l.Pairwise (fun a b => a.1 ≠ b.1)) {i j : Nat} {x y : Ent} (hi : l[i]? = some x) (hj : l[j]? = some y) (e : x.1 = y.1) : i = j := by
  obtain ⟨ha, rfl⟩ := List.getElem?_eq_some_iff.1 hi
  obtain ⟨hb, rfl⟩ := List.getElem?_eq_some_iff.1 hj
  rcases Nat.lt_trichotomy i j with h' | h' | h'
  · exact absurd e (List.pairwise_iff_getElem.1 h i j ha hb h')
  · exact h'
  · exact absurd e.symm (List.pairwise_iff_getElem.1 h j i hb ha h')
theorem del_most {key : ByteArray} : ∀ {l : List Ent}, l.Pairwise (fun a b => a.1 ≠ b.1) → l.length ≤ (del key l).length + 1 := by
  intro l
  induction l with
  | nil => intro _; simp
  | cons d l ih =>
    intro h
    rw [List.pairwise_cons] at h
    by_cases e : d.1 = key
    · have h1 : del key (d :: l) = del key l := List.filter_cons_of_neg (by rw [isK_iff.2 e]; simp)
      have h2 : del key l = l := del_none (fun a ha e' => h.1 a ha (e.trans e'.symm))
      rw [h1, h2]; simp
    · have h1 : del key (d :: l) = d :: del key l := List.filter_cons_of_pos (by rw [isK_false e]; rfl)
      rw [h1]
      have := ih h.2
      simp; omega
theorem put_len' (c : Ent) (l : List Ent) : (put c (del c.1 l)).length ≤ l.length + 1 := by
  rw [put_length]; have := del_len c.1 l; omega
/-- all that is said of Offer -/
theorem off_all {m : Nat} {c : Ent} {l : List Ent} (h : Good l) (hl : l.length ≤ m) :
    Good (offL m c l) ∧ (offL m c l).length ≤ m ∧ (offB m c l = true ↔ c ∈ offL m c l) ∧ l.length ≤ (offL m c l).length ∧ (offB m c l = false → offL m c l = l) := by
  have hq := put_good (c := c) h
  have hlen := put_len' c l
  have hdl := del_most (key := c.1) h.2
  have hpl := put_length c (del c.1 l)
  have hmem : c ∈ put c (del c.1 l) := mem_put.2 (.inl rfl)
  unfold offL offB
  generalize hqq : put c (del c.1 l) = q at *
  refine ⟨good_take hq m, by rw [List.length_take]; exact Nat.min_le_left _ _, ?_, by rw [List.length_take]; omega, ?_⟩
  · cases hx : q[m]? with
    | none =>
      have : q.length ≤ m := List.getElem?_eq_none_iff.1 hx
      rw [List.take_of_length_le this]
      simp [hmem]
    | some x =>
      have hm := (List.getElem?_eq_some_iff.1 hx).1
      obtain ⟨t, ht⟩ := List.mem_iff_getElem?.1 hmem
      by_cases e : x = c
      · subst e
        simp only [eqE_self, Bool.not_true, Bool.false_eq_true, false_iff]
        intro hc
        obtain ⟨s, hs⟩ := List.mem_iff_getElem?.1 hc
        rw [List.getElem?_take] at hs
        split at hs
        · have := good_place hq.2 hs hx rfl
          omega
        · cases hs
      · simp only [eqE_not e, Bool.not_false, true_iff]
        have hlt := (List.getElem?_eq_some_iff.1 ht).1
        have htm : t ≠ m := fun e' => e (by rw [e', hx] at ht; exact Option.some.inj ht)
        exact List.mem_iff_getElem?.2 ⟨t, by rw [List.getElem?_take, if_pos (by omega)]; exact ht⟩
  · cases hx : q[m]? with
    | none => intro h'; simp at h'
    | some x =>
      intro h'
      simp only [Bool.not_eq_false'] at h'
      have e := eqE_iff.1 h'
      subst e
      have hm := (List.getElem?_eq_some_iff.1 hx).1
      have hdel : del x.1 l = l := by
        unfold del
        refine List.filter_eq_self.2 ?_
        have hll : (l.filter (fun e => !isK x.1 e)).length = l.length := by
          have : (del x.1 l).length = (l.filter (fun e => !isK x.1 e)).length := rfl
          have := del_len x.1 l
          omega
        exact List.length_filter_eq_length_iff.1 hll
      rw [hdel] at hqq hpl
      have hA : q[(l.filter (fun y => snr y x)).length]? = some x := by
        rw [← hqq]; unfold put
        rw [List.getElem?_append_right (Nat.le_refl _), Nat.sub_self]; rfl
      have hAm := good_place hq.2 hA hx rfl
      have hlm : l.length = m := by omega
      have hfl : l.filter (fun y => snr y x) = l := List.filter_eq_self.2 (List.length_filter_eq_length_iff.1 (by rw [hAm, hlm]))
      rw [← hqq]
      unfold put
      rw [← hAm, List.take_left', hfl]
      rfl
/-- which of the first j are c? -/
def fnd (c : Ent) (l : List Ent) (j : Nat) : Bool := (l.take j).any (fun x => eqE x c)
theorem fnd_zero (c : Ent) (l : List Ent) : fnd c l 0 = false := rfl
theorem fnd_succ {c x : Ent} {l : List Ent} {j : Nat} (h : l[j]? = some x) : fnd c l (j + 1) = (fnd c l j || eqE x c) := by
  unfold fnd
  rw [List.take_add_one, h]
  simp
theorem fnd_all {c : Ent} {l : List Ent} : fnd c l l.length = true ↔ c ∈ l := by
  unfold fnd
  rw [List.take_length, List.any_eq_true]
  exact ⟨fun ⟨x, h, e⟩ => by rw [← eqE_iff.1 e]; exact h, fun h => ⟨c, h, eqE_self c⟩⟩
/-- what a step leaves, and what it answers -/
structure Stpd (m : Nat) (act : Int) (c : Ent) (l : List Ent) (kp : Bool) (l' : List Ent) : Prop where
  good : Good l'
  few : l'.length ≤ m
  off : act = 0 → (kp = true ↔ c ∈ l') ∧ l.length ≤ l'.length ∧ (kp = false → l' = l)
  drp : act = 1 → c ∉ l'
theorem stp_off {m : Nat} {c : Ent} {l : List Ent} (h : Good l) (hl : l.length ≤ m) : Stpd m 0 c l (offB m c l) (offL m c l) := by
  obtain ⟨h1, h2, h3, h4, h5⟩ := off_all (c := c) h hl
  exact ⟨h1, h2, fun _ => ⟨h3, h4, h5⟩, fun e => by omega⟩
theorem stp_drop {m : Nat} {c : Ent} {l : List Ent} (h : Good l) (hl : l.length ≤ m) : Stpd m 1 c l false (del c.1 l) :=
  ⟨good_del h, Nat.le_trans (del_len _ _) hl, fun e => by omega, fun _ hc => del_keys c hc rfl⟩
theorem stp_take {m : Nat} {c : Ent} {l : List Ent} (h : Good l) (hl : l.length ≤ m) : Stpd m 2 c l false l.tail :=
  ⟨good_tail h, by simp; omega, fun e => by omega, fun e => by omega⟩
theorem stp_clear {m : Nat} {c : Ent} {l : List Ent} : Stpd m 4 c l false [] :=
  ⟨good0, by simp, fun e => by omega, fun e => by omega⟩
theorem stp_none {m : Nat} {act : Int} {c : Ent} {l : List Ent} (h : Good l) (hl : l.length ≤ m) (h0 : act ≠ 0) (h1 : act ≠ 1) : Stpd m act c l false l :=
  ⟨h, hl, fun e => absurd e h0, fun e => absurd e h1⟩
/-- a row that is told by blocks alone -/
def Rides (X : List (Nat × Obj)) (u : Value) (l : List Ent) : Prop := ∀ w : World, (∀ p ∈ X, w.heap[p.1]? = some p.2) → Row w u l
theorem PX.rides {W w : World} {X : List (Nat × Obj)} {b m : Nat} {v u : Value} {l l2 : List Ent} (h : PX W X w b v m l) (hr : Rides X u l2) : Row w u l2 := hr w (fun p hp => (h.side p hp).1)
/-- a copy rides along -/
theorem PX.copy {W w w' : World} {X : List (Nat × Obj)} {b m : Nat} {v : Value} {l l2 : List Ent} {e : Ending} (h : PX W X w b v m l) (hc : Cpy w l2 e w') :
    ∃ u Y, e = .returned u ∧ PX W (Y ++ X) w' b v m l ∧ Rides (Y ++ X) u l2 := by
  obtain ⟨u, rfl, hr, hk, hb⟩ := hc
  have h' := h.below hb
  have hr' := hr
  rcases hr.2 with ⟨h1, h2⟩ | ⟨g, cap, cur, h1, h2, h3, rest⟩
  · exact ⟨u, [], rfl, h', fun w'' _ => ⟨hr.1, .inl ⟨h1, h2⟩⟩⟩
  · have hg := hk g (by rw [h1]; rfl)
    refine ⟨u, [(g, .cells cur 32 (0, 0))], rfl, ⟨h'.pl, h'.bel, h'.new, fun p hp => ?_⟩, fun w'' hX => ⟨hr.1, .inr ⟨g, cap, cur, h1, h2, hX (g, _) (by simp), rest⟩⟩⟩
    rcases List.mem_cons.1 hp with rfl | hp
    · exact ⟨h3, fun hb' => by have := h.pl.lt _ hb'; omega⟩
    · exact h'.side p hp
theorem PX.from {W W1 w : World} {X : List (Nat × Obj)} {b m : Nat} {v : Value} {l : List Ent} (h : PX W1 X w b v m l) (hb : Below W.heap.size W W1) : PX W X w b v m l :=
  ⟨h.pl, Below.up hb h.bel, fun k hk => Nat.le_trans hb.size (h.new k hk), h.side⟩
end Go.Proofs.Ytgniiojeeobffaa
