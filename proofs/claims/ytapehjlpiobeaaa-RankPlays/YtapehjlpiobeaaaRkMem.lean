/-
  What the program's memory holds of ranks: the struct, the row of rows, the rows; each in a block of its own.
-/
import Derived.Test.YtapehjlpiobeaaaRkRep
namespace Go.Proofs.Ytapehjlpiobeaaa
open Go.RowKit Go.Shelf
set_option linter.unusedVariables false
/-- a row: its block, its room, its members -/
abbrev Rw : Type := Nat × Nat × List Ent
def rwV (x : Rw) : Value := .slice (some ⟨x.1, 0, none⟩) x.2.2.length x.2.1
def enR (l : List Ent) : List Value := l.flatMap enE
theorem enR_len (l : List Ent) : (enR l).length = l.length * 2 := by
  unfold enR
  induction l with
  | nil => rfl
  | cons e l ih => rw [List.flatMap_cons, List.length_append, ih]; simp [enE]; omega
theorem enR_one {l : List Ent} : ∀ u ∈ enR l, u.oneCell' = true := by
  intro u h
  unfold enR at h
  obtain ⟨e, _, he⟩ := List.mem_flatMap.1 h
  simp only [enE, List.mem_cons, List.not_mem_nil, or_false] at he
  rcases he with rfl | rfl <;> rfl
theorem enR_take (l : List Ent) (p : Nat) : enR (l.take p) = (enR l).take (p * 2) := flat_take l p
theorem enR_drop (l : List Ent) (p : Nat) : enR (l.drop p) = (enR l).drop (p * 2) := flat_drop l p
theorem enR_app (l m : List Ent) : enR (l ++ m) = enR l ++ enR m := by unfold enR; rw [List.flatMap_append]
theorem enR_put (l : List Ent) (p : Nat) (e : Ent) : enR (l.take p ++ e :: l.drop p) = (enR l).take (p * 2) ++ mc e.1 e.2 ++ (enR l).drop (p * 2) := by
  rw [enR_app, enR_take, List.append_assoc, ← enR_drop]; rfl
theorem enR_cut (l : List Ent) (p : Nat) : enR (l.take p ++ l.drop (p + 1)) = (enR l).take (p * 2) ++ (enR l).drop ((p + 1) * 2) := by
  rw [enR_app, enR_take, enR_drop]
/-- the two cells of a member -/
theorem enR_at {l : List Ent} : ∀ {j : Nat} {e : Ent}, l[j]? = some e → (enR l)[j * 2]? = some (.string e.1) ∧ (enR l)[j * 2 + 1]? = some (.float .f64 e.2) := by
  induction l with
  | nil => intro j e h; simp at h
  | cons d l ih =>
    intro j e h
    cases j with
    | zero => simp at h; subst h; exact ⟨rfl, rfl⟩
    | succ j =>
      rw [List.getElem?_cons_succ] at h
      obtain ⟨h1, h2⟩ := ih h
      have e1 : enR (d :: l) = .string d.1 :: .float .f64 d.2 :: enR l := rfl
      rw [e1, show (j + 1) * 2 = j * 2 + 1 + 1 by omega]
      exact ⟨by simpa using h1, by simpa using h2⟩
theorem rwV_one (x : Rw) : (rwV x).oneCell' = true := rfl
theorem rwVs_one {T : List Rw} : ∀ u ∈ T.map rwV, u.oneCell' = true := by
  intro u hu
  obtain ⟨x, _, rfl⟩ := List.mem_map.1 hu
  rfl
/-- a row lies in its block -/
def Row (w : World) (x : Rw) : Prop := w.ownsRow 0 46 2 (rwV x) x.2.2.length (enR x.2.2)
/-- the blocks -/
def bl (rv : Value) (T : List Rw) : List Nat := rv.ownBlock.toList ++ T.map Prod.fst
def Rws (w : World) (rv : Value) (T : List Rw) : Prop := w.ownsRow 0 41 1 rv T.length (T.map rwV) ∧ (∀ x ∈ T, Row w x) ∧ (bl rv T).Nodup
def Lay (w : World) (R : Nat) (u0 u1 u3 : Value) (rv : Value) (T : List Rw) : Prop :=
  w.heap[R]? = some (.cells #[u0, u1, rv, u3] 63 (0, 0)) ∧ Rws w rv T ∧ R ∉ bl rv T
/-- nothing has turned but the blocks M, and new ones; M': those that it is now -/
def Fm (M : List Nat) (w : World) (M' : List Nat) (w' : World) : Prop :=
  (w'.os = w.os ∧ w'.tape = w.tape ∧ w'.output = w.output) ∧ w.heap.size ≤ w'.heap.size ∧ ∀ k, k < w.heap.size → k ∉ M → w'.heap[k]? = w.heap[k]? ∧ k ∉ M'
theorem Fm.refl (M : List Nat) (w : World) : Fm M w M w := ⟨⟨rfl, rfl, rfl⟩, Nat.le_refl _, fun _ _ h => ⟨rfl, h⟩⟩
theorem Fm.trans {M M1 M2 : List Nat} {w w1 w2 : World} (h : Fm M w M1 w1) (g : Fm M1 w1 M2 w2) : Fm M w M2 w2 := by
  obtain ⟨⟨a1, a2, a3⟩, a4, a5⟩ := h
  obtain ⟨⟨b1, b2, b3⟩, b4, b5⟩ := g
  refine ⟨⟨b1.trans a1, b2.trans a2, b3.trans a3⟩, Nat.le_trans a4 b4, fun k hk hr => ?_⟩
  obtain ⟨c1, c2⟩ := a5 k hk hr
  obtain ⟨d1, d2⟩ := b5 k (Nat.lt_of_lt_of_le hk a4) c2
  exact ⟨d1.trans c1, d2⟩
theorem Fm.below {w w' : World} {M : List Nat} (h : Below w.heap.size w w') : Fm M w M w' := ⟨⟨h.os, h.tape, h.output⟩, h.size, fun k hk hr => ⟨h.block k hk, hr⟩⟩
theorem Row.kept {w w' : World} {x : Rw} (h : Row w x) (hk : w'.heap[x.1]? = w.heap[x.1]?) : Row w' x := own_kept h (fun k e => by cases e; exact hk)
theorem Row.lt {w : World} {x : Rw} (h : Row w x) : x.1 < w.heap.size := own_lt h (k := x.1) rfl
theorem Rws.lt {w : World} {rv : Value} {T : List Rw} (h : Rws w rv T) : ∀ k ∈ bl rv T, k < w.heap.size := by
  intro k hk
  unfold bl at hk
  rcases List.mem_append.1 hk with hk | hk
  · exact own_lt h.1 (by simpa using hk)
  · obtain ⟨x, hx, rfl⟩ := List.mem_map.1 hk
    exact (h.2.1 x hx).lt
theorem Rws.kept {w w' : World} {rv : Value} {T : List Rw} (h : Rws w rv T) (hk : ∀ k ∈ bl rv T, w'.heap[k]? = w.heap[k]?) : Rws w' rv T :=
  ⟨own_kept h.1 (fun k e => hk k (by unfold bl; simp [e])), fun x hx => (h.2.1 x hx).kept (hk _ (by unfold bl; exact List.mem_append.2 (.inr (List.mem_map.2 ⟨x, hx, rfl⟩)))), h.2.2⟩
theorem Lay.kept {w w' : World} {R : Nat} {u0 u1 u3 rv : Value} {T : List Rw} (h : Lay w R u0 u1 u3 rv T) (hk : ∀ k ∈ R :: bl rv T, w'.heap[k]? = w.heap[k]?) : Lay w' R u0 u1 u3 rv T :=
  ⟨(hk R (by simp)).trans h.1, h.2.1.kept (fun k hk' => hk k (by simp [hk'])), h.2.2⟩
theorem Lay.lt {w : World} {R : Nat} {u0 u1 u3 rv : Value} {T : List Rw} (h : Lay w R u0 u1 u3 rv T) : ∀ k ∈ R :: bl rv T, k < w.heap.size := by
  intro k hk
  rcases List.mem_cons.1 hk with rfl | hk
  · exact (Array.getElem?_eq_some_iff.1 h.1).1
  · exact h.2.1.lt k hk
theorem Lay.below {w w' : World} {R : Nat} {u0 u1 u3 rv : Value} {T : List Rw} (h : Lay w R u0 u1 u3 rv T) (hb : Below w.heap.size w w') : Lay w' R u0 u1 u3 rv T :=
  h.kept (fun k hk => hb.block k (h.lt k hk))
theorem Lay.drew {w : World} {R : Nat} {u0 u1 u3 rv : Value} {T : List Rw} (h : Lay w R u0 u1 u3 rv T) : Lay w.drew R u0 u1 u3 rv T := h
theorem four {w : World} {b : Nat} {v0 v1 v2 v3 : Value} {t : TypeId} (h : w.heap[b]? = some (.cells #[v0, v1, v2, v3] t (0, 0))) :
    w.cell? ⟨b, 0, none⟩ = some v0 ∧ w.cell? ⟨b, 1, none⟩ = some v1 ∧ w.cell? ⟨b, 2, none⟩ = some v2 ∧ w.cell? ⟨b, 3, none⟩ = some v3 ∧ ∀ i, w.frozen? ⟨b, i, none⟩ = false := by
  refine ⟨?_, ?_, ?_, ?_, fun i => ?_⟩ <;> simp [World.cell?, World.frozen?, h]
/-- the row of rows, where there is one -/
theorem Rws.form {w : World} {rv : Value} {T : List Rw} (h : Rws w rv T) (hn : 0 < T.length) : ∃ g c, rv = .slice (some ⟨g, 0, none⟩) T.length c ∧ T.length ≤ c ∧ c ≤ maxLen := by
  rcases h.1.2 with ⟨_, h'⟩ | ⟨g, c, cur, h', _, _, q1, q2, _⟩
  · omega
  · exact ⟨g, c, h', q1, q2⟩
theorem Rws.len {w : World} {rv : Value} {T : List Rw} (h : Rws w rv T) : ∃ o c, rv = .slice o T.length c := by
  rcases h.1.2 with ⟨rfl, h'⟩ | ⟨g, c, cur, h', _⟩
  · exact ⟨_, _, by rw [h']⟩
  · exact ⟨_, _, h'⟩
/-- a row's place in the row of rows -/
theorem Rws.at {w : World} {g n c i : Nat} {T : List Rw} {x : Rw} (h : Rws w (.slice (some ⟨g, 0, none⟩) n c) T) (hi : T[i]? = some x) : w.cell? ⟨g, i, none⟩ = some (rwV x) := by
  have := h.1.cells (g := g) rfl i (rwV x) (by rw [List.getElem?_map, hi]; rfl)
  rwa [add_at, Nat.zero_add] at this
theorem Rws.free {w : World} {g n c : Nat} {T : List Rw} (h : Rws w (.slice (some ⟨g, 0, none⟩) n c) T) (i : Nat) : w.frozen? ⟨g, i, none⟩ = false := by
  rcases h.1.2 with ⟨h', _⟩ | ⟨g', cap', cur, e, _, hg, _⟩
  · cases h'
  · cases e
    simp [World.frozen?, hg]
/-- a member's place in its row -/
theorem Row.at {w : World} {x : Rw} {j : Nat} {e : Ent} (h : Row w x) (hj : x.2.2[j]? = some e) : w.cell? ⟨x.1, j * 2, none⟩ = some (.string e.1) ∧ w.cell? ⟨x.1, j * 2 + 1, none⟩ = some (.float .f64 e.2) := by
  obtain ⟨h1, h2⟩ := enR_at hj
  have c1 := World.ownsRow.cells h (g := x.1) rfl _ _ h1
  have c2 := World.ownsRow.cells h (g := x.1) rfl _ _ h2
  rw [add_at, Nat.zero_add] at c1 c2
  exact ⟨c1, c2⟩
theorem bl_some (g n c : Nat) (T : List Rw) : bl (.slice (some ⟨g, 0, none⟩) n c) T = g :: T.map Prod.fst := rfl
/-- the blocks of the rows are apart from that of the row of rows, and from one another -/
theorem Rws.apart {w : World} {g n c i : Nat} {T : List Rw} {x : Rw} (h : Rws w (.slice (some ⟨g, 0, none⟩) n c) T) (hi : T[i]? = some x) : x.1 ≠ g := by
  have := h.2.2
  rw [bl_some, List.nodup_cons] at this
  exact fun e => this.1 (List.mem_map.2 ⟨x, List.mem_of_getElem? hi, e⟩)
theorem set_apart : ∀ {T : List Rw} {i : Nat} {x : Rw}, (T.map Prod.fst).Nodup → T[i]? = some x → ∀ y ∈ T.set i x, ∀ j, j ≠ i → T[j]? = some y → y.1 ≠ x.1 := by
  intro T i x hn hi y _ j hj hy e
  have h1 : (T.map Prod.fst)[i]? = some x.1 := by rw [List.getElem?_map, hi]; rfl
  have h2 : (T.map Prod.fst)[j]? = some x.1 := by rw [List.getElem?_map, hy]; simp [e]
  have hl1 := (List.getElem?_eq_some_iff.1 h1).1
  have hl2 := (List.getElem?_eq_some_iff.1 h2).1
  exact hj ((List.getElem?_inj hl2 hn).1 (h2.trans h1.symm))
/-- a row turns into another one, in its block or in a new one, and is written into the row of rows -/
theorem Lay.row {w w1 : World} {R g n c i : Nat} {u0 u1 u3 : Value} {T : List Rw} {x y : Rw} (h : Lay w R u0 u1 u3 (.slice (some ⟨g, 0, none⟩) n c) T) (hi : T[i]? = some x) (hy : Row w1 y) (hb : y.1 = x.1 ∨ w.heap.size ≤ y.1) (hg : w.grownBy w1 (some x.1)) :
    Lay (w1.setCell ⟨g, i, none⟩ (rwV y)) R u0 u1 u3 (.slice (some ⟨g, 0, none⟩) n c) (T.set i y) ∧ Fm (R :: bl (.slice (some ⟨g, 0, none⟩) n c) T) w (R :: bl (.slice (some ⟨g, 0, none⟩) n c) (T.set i y)) (w1.setCell ⟨g, i, none⟩ (rwV y)) := by
  obtain ⟨h1, h2, h3⟩ := h
  have hlt : ∀ k ∈ bl (.slice (some ⟨g, 0, none⟩) n c) T, k < w.heap.size := h2.lt
  have hxg := h2.apart hi
  have hil : i < T.length := (List.getElem?_eq_some_iff.1 hi).1
  have hxm : x.1 ∈ T.map Prod.fst := List.mem_map.2 ⟨x, List.mem_of_getElem? hi, rfl⟩
  rw [bl_some] at h3 hlt
  have hgl : g < w.heap.size := hlt g (by simp)
  have hRl : R < w.heap.size := (Array.getElem?_eq_some_iff.1 h1).1
  have hRx : R ≠ x.1 := fun e => h3 (by rw [e]; simp [hxm])
  have hRg : R ≠ g := fun e => h3 (by rw [e]; simp)
  have hyg : y.1 ≠ g := by rcases hb with e | e; rw [e]; exact hxg; omega
  have hyR : y.1 ≠ R := by rcases hb with e | e; rw [e]; exact fun e => hRx e.symm; omega
  have hnd := h2.2.2
  rw [bl_some, List.nodup_cons] at hnd
  have hyo : ∀ j z, j ≠ i → T[j]? = some z → z.1 ≠ y.1 := by
    intro j z hj hz
    rcases hb with e | e
    · rw [e]
      intro e'
      have q1 : (T.map Prod.fst)[i]? = some x.1 := by rw [List.getElem?_map, hi]; rfl
      have q2 : (T.map Prod.fst)[j]? = some x.1 := by rw [List.getElem?_map, hz]; simp [e']
      exact hj ((List.getElem?_inj (List.getElem?_eq_some_iff.1 q2).1 hnd.2).1 (q2.trans q1.symm))
    · have := hlt z.1 (by simp; exact .inr ⟨z.2.1, z.2.2, List.mem_of_getElem? hz⟩)
      omega
  have hkg : w1.heap[g]? = w.heap[g]? := hg.block g hgl (fun e => hxg (Option.some.inj e).symm)
  have hnd' : (y.1 :: []).Nodup := by simp
  have hset : (T.set i y).map Prod.fst = (T.map Prod.fst).set i y.1 := by rw [List.map_set]
  have hmem : ∀ k, k ∈ (T.map Prod.fst).set i y.1 → k = y.1 ∨ ∃ j z, j ≠ i ∧ T[j]? = some z ∧ z.1 = k := by
    intro k hk
    obtain ⟨j, hj⟩ := List.getElem?_of_mem hk
    rw [List.getElem?_set] at hj
    by_cases e : i = j
    · subst e; rw [if_pos rfl] at hj; split at hj
      · left; exact (Option.some.inj hj).symm
      · cases hj
    · rw [if_neg e, List.getElem?_map] at hj
      cases ht : T[j]? with
      | none => rw [ht] at hj; cases hj
      | some z => rw [ht] at hj; exact .inr ⟨j, z, fun e' => e e'.symm, ht, Option.some.inj hj⟩
  have hgn : g ∉ (T.map Prod.fst).set i y.1 := fun hm => by
    rcases hmem g hm with e | ⟨j, z, _, hz, e⟩
    · exact hyg e.symm
    · exact hnd.1 (List.mem_map.2 ⟨z, List.mem_of_getElem? hz, e⟩)
  have hRn : R ∉ (T.map Prod.fst).set i y.1 := fun hm => by
    rcases hmem R hm with e | ⟨j, z, _, hz, e⟩
    · exact hyR e.symm
    · exact h3 (List.mem_cons.2 (.inr (List.mem_map.2 ⟨z, List.mem_of_getElem? hz, e⟩)))
  have hns : ((T.map Prod.fst).set i y.1).Nodup := by
    unfold List.Nodup
    rw [List.pairwise_iff_getElem]
    intro a b ha' hb' hab he0
    have he : ((T.map Prod.fst).set i y.1)[a]? = ((T.map Prod.fst).set i y.1)[b]? := by rw [List.getElem?_eq_getElem ha', List.getElem?_eq_getElem hb', he0]
    rw [List.length_set] at hb'
    rw [List.getElem?_set, List.getElem?_set] at he
    have hbl : b < T.length := by simpa using hb'
    by_cases ea : i = a
    · subst ea
      rw [if_pos rfl, if_pos (by simpa using hil), if_neg (by omega), List.getElem?_map, List.getElem?_eq_getElem hbl] at he
      exact hyo b T[b] (by omega) (List.getElem?_eq_getElem hbl) (Option.some.inj he).symm
    · rw [if_neg ea] at he
      by_cases eb : i = b
      · subst eb
        rw [if_pos rfl, if_pos (by simpa using hil), List.getElem?_map, List.getElem?_eq_getElem (by omega)] at he
        exact hyo a T[a] (by omega) (List.getElem?_eq_getElem (by omega)) (Option.some.inj he)
      · rw [if_neg eb] at he
        exact absurd ((List.getElem?_inj (by simp; omega) hnd.2).1 he) (by omega)
  refine ⟨⟨?_, ⟨?_, ?_, ?_⟩, ?_⟩, ?_⟩
  · rw [Below.heap_setCell _ _ _ _ hRg, hg.block R hRl (fun e => hRx (Option.some.inj e))]; exact h1
  · obtain ⟨l1, l2⟩ := h2.1
    refine ⟨by rw [List.length_map, Nat.mul_one], .inr ?_⟩
    · rcases l2 with ⟨e, _⟩ | ⟨g', cap', cur, e, _, hh, hc, hm, hs, ht⟩
      · cases e
      · cases e
        rw [List.length_set]
        exact ⟨g, c, _, rfl, Nat.zero_le _, cells_setCell (hkg.trans hh), hc, hm, by simpa using hs, by rw [List.map_set]; exact take_set ht⟩
  · intro z hz
    obtain ⟨j, hj⟩ := List.getElem?_of_mem hz
    rw [List.getElem?_set] at hj
    by_cases e : i = j
    · subst e
      rw [if_pos rfl, if_pos hil] at hj
      cases hj
      exact hy.kept (Below.heap_setCell _ _ _ _ hyg)
    · rw [if_neg e] at hj
      have hz' := h2.2.1 z (List.mem_of_getElem? hj)
      have hzg := h2.apart hj
      refine hz'.kept ?_
      rw [Below.heap_setCell _ _ _ _ hzg]
      refine hg.block _ hz'.lt (fun e' => ?_)
      have q1 : (T.map Prod.fst)[i]? = some x.1 := by rw [List.getElem?_map, hi]; rfl
      have q2 : (T.map Prod.fst)[j]? = some x.1 := by rw [List.getElem?_map, hj]; exact e'
      exact e ((List.getElem?_inj (List.getElem?_eq_some_iff.1 q1).1 hnd.2).1 (q1.trans q2.symm))
  · rw [bl_some, hset, List.nodup_cons]; exact ⟨hgn, hns⟩
  · rw [bl_some, hset, List.mem_cons, not_or]; exact ⟨hRg, hRn⟩
  · refine ⟨⟨hg.os, hg.tape, hg.output⟩, by simpa [World.setCell] using hg.size, fun k hk hm => ?_⟩
    rw [bl_some] at hm ⊢
    simp only [List.mem_cons, not_or] at hm
    refine ⟨?_, ?_⟩
    · rw [Below.heap_setCell _ _ _ _ hm.2.1]
      exact hg.block k hk (fun e => hm.2.2 (by rw [Option.some.inj e]; exact hxm))
    · rw [hset]
      simp only [List.mem_cons, not_or]
      refine ⟨hm.1, hm.2.1, fun hk' => ?_⟩
      rcases hmem k hk' with e | ⟨j, z, _, hz, e⟩
      · rcases hb with e' | e'
        · exact hm.2.2 (by rw [e, e']; exact hxm)
        · omega
      · exact hm.2.2 (List.mem_map.2 ⟨z, List.mem_of_getElem? hz, e⟩)
/-- another row of rows comes into the struct -/
theorem Lay.put {w w1 : World} {R : Nat} {u0 u1 u3 rv rv' : Value} {T T' : List Rw} (h : Lay w R u0 u1 u3 rv T) (hR : w1.heap[R]? = w.heap[R]?) (hr : Rws w1 rv' T') (hn : R ∉ bl rv' T') (ho : w1.os = w.os ∧ w1.tape = w.tape ∧ w1.output = w.output) (hs : w.heap.size ≤ w1.heap.size)
    (hk : ∀ k, k < w.heap.size → k ∉ R :: bl rv T → w1.heap[k]? = w.heap[k]? ∧ k ∉ bl rv' T') :
    Lay (w1.setCell ⟨R, 2, none⟩ rv') R u0 u1 u3 rv' T' ∧ Fm (R :: bl rv T) w (R :: bl rv' T') (w1.setCell ⟨R, 2, none⟩ rv') := by
  refine ⟨⟨cells_setCell (hR.trans h.1), hr.kept (fun k hk' => Below.heap_setCell _ _ _ _ (fun e => hn (by have e : k = R := e; rw [← e]; exact hk'))), hn⟩, ho, by simpa [World.setCell] using hs, fun k hl hm => ?_⟩
  obtain ⟨q1, q2⟩ := hk k hl hm
  have hkR : k ≠ R := fun e => hm (by simp [e])
  refine ⟨by rw [Below.heap_setCell _ _ _ _ hkR]; exact q1, fun hm' => ?_⟩
  rcases List.mem_cons.1 hm' with e | e
  · exact hkR e
  · exact q2 e
/-- a row goes out of the row of rows -/
theorem Rws.cut {w w1 : World} {g n m c i : Nat} {T : List Rw} (h : Rws w (.slice (some ⟨g, 0, none⟩) n c) T) (hi : i < T.length) (hm : T.length = m + 1) (ho : w1.ownsRow 0 41 1 (.slice (some ⟨g, 0, none⟩) m c) m ((T.map rwV).take (i * 1) ++ (T.map rwV).drop ((i + 1) * 1))) (hO : Only g w w1) :
    Rws w1 (.slice (some ⟨g, 0, none⟩) m c) (T.eraseIdx i) ∧ ∀ k, k ∈ bl (.slice (some ⟨g, 0, none⟩) m c) (T.eraseIdx i) → k ∈ bl (.slice (some ⟨g, 0, none⟩) n c) T := by
  have hsub : (T.eraseIdx i).Sublist T := List.eraseIdx_sublist T i
  have hnd := h.2.2
  rw [bl_some, List.nodup_cons] at hnd
  have hl : (T.eraseIdx i).length = m := by rw [List.length_eraseIdx_of_lt hi]; omega
  refine ⟨⟨?_, fun x hx => ?_, ?_⟩, fun k hk => ?_⟩
  · rw [hl]
    have e : (T.eraseIdx i).map rwV = (T.map rwV).take (i * 1) ++ (T.map rwV).drop ((i + 1) * 1) := by
      rw [List.eraseIdx_eq_take_drop_succ, List.map_append, List.map_take, List.map_drop, Nat.mul_one, Nat.mul_one]
    rw [e]
    exact ho
  · have hx' := hsub.subset hx
    refine (h.2.1 x hx').kept (hO.2.2 _ (fun e => hnd.1 (List.mem_map.2 ⟨x, hx', e⟩)))
  · rw [bl_some, List.nodup_cons]
    exact ⟨fun hm => hnd.1 ((hsub.map _).subset hm), (hsub.map _).nodup hnd.2⟩
  · rw [bl_some] at hk ⊢
    rcases List.mem_cons.1 hk with rfl | hk
    · simp
    · exact List.mem_cons.2 (.inr ((hsub.map _).subset hk))
end Go.Proofs.Ytapehjlpiobeaaa
