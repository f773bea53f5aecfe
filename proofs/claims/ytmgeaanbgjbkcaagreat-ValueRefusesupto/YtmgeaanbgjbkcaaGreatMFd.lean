/-
  Contracts over this program, put together.
-/
import Derived.Test.YtmgeaanbgjbkcaaGreatMFc
import Derived.Deep.LoopGhost
import Derived.Lib.SliceRun
set_option maxHeartbeats 8000000
namespace Go.Proofs.YtmgeaanbgjbkcaaGreat.DF
open Go.RowKit Go.Shelf
set_option linter.unusedVariables false
abbrev Rw : Type := Nat × Nat × List Ent
def rwV (x : Rw) : Value := .slice (some ⟨x.1, 0, none⟩) x.2.2.length x.2.1
def enR (l : List Ent) : List Value := l.flatMap enE
theorem enR_len (l : List Ent) : (enR l).length = l.length * 2 := by
  unfold enR
  induction l with
  | nil => rfl
  | cons e l ih => rw [List.flatMap_cons, List.length_append, ih]; simp [enE]; omega
theorem enR_one {l : List Ent} : ∀ u ∈ enR l, u.oneCell' = true := by
  intro u h
  unfold enR at h
  obtain ⟨e, _, he⟩ := List.mem_flatMap.1 h
  simp only [enE, List.mem_cons, List.not_mem_nil, or_false] at he
  rcases he with rfl | rfl <;> rfl
theorem enR_take (l : List Ent) (p : Nat) : enR (l.take p) = (enR l).take (p * 2) := flat_take l p
theorem enR_drop (l : List Ent) (p : Nat) : enR (l.drop p) = (enR l).drop (p * 2) := flat_drop l p
theorem enR_app (l m : List Ent) : enR (l ++ m) = enR l ++ enR m := by unfold enR; rw [List.flatMap_append]
theorem enR_put (l : List Ent) (p : Nat) (e : Ent) : enR (l.take p ++ e :: l.drop p) = (enR l).take (p * 2) ++ mc e.1 e.2 ++ (enR l).drop (p * 2) := by
  rw [enR_app, enR_take, List.append_assoc, ← enR_drop]; rfl
theorem enR_at {l : List Ent} : ∀ {j : Nat} {e : Ent}, l[j]? = some e → (enR l)[j * 2]? = some (.string e.1) ∧ (enR l)[j * 2 + 1]? = some (.float .f64 e.2) := by
  induction l with
  | nil => intro j e h; simp at h
  | cons d l ih =>
    intro j e h
    cases j with
    | zero => simp at h; subst h; exact ⟨rfl, rfl⟩
    | succ j =>
      rw [List.getElem?_cons_succ] at h
      obtain ⟨h1, h2⟩ := ih h
      have e1 : enR (d :: l) = .string d.1 :: .float .f64 d.2 :: enR l := rfl
      rw [e1, show (j + 1) * 2 = j * 2 + 1 + 1 by omega]
      exact ⟨by simpa using h1, by simpa using h2⟩
theorem rwVs_one {T : List Rw} : ∀ u ∈ T.map rwV, u.oneCell' = true := by
  intro u hu
  obtain ⟨x, _, rfl⟩ := List.mem_map.1 hu
  rfl
def Row (w : World) (x : Rw) : Prop := w.ownsRow 0 73 2 (rwV x) x.2.2.length (enR x.2.2)
def bl (rv : Value) (T : List Rw) : List Nat := rv.ownBlock.toList ++ T.map Prod.fst
def Rws (w : World) (rv : Value) (T : List Rw) : Prop := w.ownsRow 0 28 1 rv T.length (T.map rwV) ∧ (∀ x ∈ T, Row w x) ∧ (bl rv T).Nodup
def Lay (w : World) (R : Nat) (u0 u1 u3 : Value) (rv : Value) (T : List Rw) : Prop :=
  w.heap[R]? = some (.cells #[u0, u1, rv, u3] 201 (0, 0)) ∧ Rws w rv T ∧ R ∉ bl rv T
def Fm (M : List Nat) (w : World) (M' : List Nat) (w' : World) : Prop :=
  (w'.os = w.os ∧ w'.tape = w.tape ∧ w'.output = w.output) ∧ w.heap.size ≤ w'.heap.size ∧ ∀ k, k < w.heap.size → k ∉ M → w'.heap[k]? = w.heap[k]? ∧ k ∉ M'
theorem Fm.trans {M M1 M2 : List Nat} {w w1 w2 : World} (h : Fm M w M1 w1) (g : Fm M1 w1 M2 w2) : Fm M w M2 w2 := by
  obtain ⟨⟨a1, a2, a3⟩, a4, a5⟩ := h
  obtain ⟨⟨b1, b2, b3⟩, b4, b5⟩ := g
  refine ⟨⟨b1.trans a1, b2.trans a2, b3.trans a3⟩, Nat.le_trans a4 b4, fun k hk hr => ?_⟩
  obtain ⟨c1, c2⟩ := a5 k hk hr
  obtain ⟨d1, d2⟩ := b5 k (Nat.lt_of_lt_of_le hk a4) c2
  exact ⟨d1.trans c1, d2⟩
theorem Fm.below {w w' : World} {M : List Nat} (h : Below w.heap.size w w') : Fm M w M w' := ⟨⟨h.os, h.tape, h.output⟩, h.size, fun k hk hr => ⟨h.block k hk, hr⟩⟩
theorem Row.kept {w w' : World} {x : Rw} (h : Row w x) (hk : w'.heap[x.1]? = w.heap[x.1]?) : Row w' x := own_kept h (fun k e => by cases e; exact hk)
theorem Row.lt {w : World} {x : Rw} (h : Row w x) : x.1 < w.heap.size := own_lt h (k := x.1) rfl
theorem Rws.lt {w : World} {rv : Value} {T : List Rw} (h : Rws w rv T) : ∀ k ∈ bl rv T, k < w.heap.size := by
  intro k hk
  unfold bl at hk
  rcases List.mem_append.1 hk with hk | hk
  · exact own_lt h.1 (by simpa using hk)
  · obtain ⟨x, hx, rfl⟩ := List.mem_map.1 hk
    exact (h.2.1 x hx).lt
theorem Rws.kept {w w' : World} {rv : Value} {T : List Rw} (h : Rws w rv T) (hk : ∀ k ∈ bl rv T, w'.heap[k]? = w.heap[k]?) : Rws w' rv T :=
  ⟨own_kept h.1 (fun k e => hk k (by unfold bl; simp [e])), fun x hx => (h.2.1 x hx).kept (hk _ (by unfold bl; exact List.mem_append.2 (.inr (List.mem_map.2 ⟨x, hx, rfl⟩)))), h.2.2⟩
theorem Lay.kept {w w' : World} {R : Nat} {u0 u1 u3 rv : Value} {T : List Rw} (h : Lay w R u0 u1 u3 rv T) (hk : ∀ k ∈ R :: bl rv T, w'.heap[k]? = w.heap[k]?) : Lay w' R u0 u1 u3 rv T :=
  ⟨(hk R (by simp)).trans h.1, h.2.1.kept (fun k hk' => hk k (by simp [hk'])), h.2.2⟩
theorem Lay.lt {w : World} {R : Nat} {u0 u1 u3 rv : Value} {T : List Rw} (h : Lay w R u0 u1 u3 rv T) : ∀ k ∈ R :: bl rv T, k < w.heap.size := by
  intro k hk
  rcases List.mem_cons.1 hk with rfl | hk
  · exact (Array.getElem?_eq_some_iff.1 h.1).1
  · exact h.2.1.lt k hk
theorem Lay.below {w w' : World} {R : Nat} {u0 u1 u3 rv : Value} {T : List Rw} (h : Lay w R u0 u1 u3 rv T) (hb : Below w.heap.size w w') : Lay w' R u0 u1 u3 rv T :=
  h.kept (fun k hk => hb.block k (h.lt k hk))
theorem Lay.drew {w : World} {R : Nat} {u0 u1 u3 rv : Value} {T : List Rw} (h : Lay w R u0 u1 u3 rv T) : Lay w.drew R u0 u1 u3 rv T := h
theorem four {w : World} {b : Nat} {v0 v1 v2 v3 : Value} {t : TypeId} (h : w.heap[b]? = some (.cells #[v0, v1, v2, v3] t (0, 0))) :
    w.cell? ⟨b, 0, none⟩ = some v0 ∧ w.cell? ⟨b, 1, none⟩ = some v1 ∧ w.cell? ⟨b, 2, none⟩ = some v2 ∧ w.cell? ⟨b, 3, none⟩ = some v3 ∧ ∀ i, w.frozen? ⟨b, i, none⟩ = false := by
  refine ⟨?_, ?_, ?_, ?_, fun i => ?_⟩ <;> simp [World.cell?, World.frozen?, h]
theorem Rws.form {w : World} {rv : Value} {T : List Rw} (h : Rws w rv T) (hn : 0 < T.length) : ∃ g c, rv = .slice (some ⟨g, 0, none⟩) T.length c ∧ T.length ≤ c ∧ c ≤ maxLen := by
  rcases h.1.2 with ⟨_, h'⟩ | ⟨g, c, cur, h', _, _, q1, q2, _⟩
  · omega
  · exact ⟨g, c, h', q1, q2⟩
theorem Rws.len {w : World} {rv : Value} {T : List Rw} (h : Rws w rv T) : ∃ o c, rv = .slice o T.length c := by
  rcases h.1.2 with ⟨rfl, h'⟩ | ⟨g, c, cur, h', _⟩
  · exact ⟨_, _, by rw [h']⟩
  · exact ⟨_, _, h'⟩
theorem Rws.at {w : World} {g n c i : Nat} {T : List Rw} {x : Rw} (h : Rws w (.slice (some ⟨g, 0, none⟩) n c) T) (hi : T[i]? = some x) : w.cell? ⟨g, i, none⟩ = some (rwV x) := by
  have := h.1.cells (g := g) rfl i (rwV x) (by rw [List.getElem?_map, hi]; rfl)
  rwa [add_at, Nat.zero_add] at this
theorem Rws.free {w : World} {g n c : Nat} {T : List Rw} (h : Rws w (.slice (some ⟨g, 0, none⟩) n c) T) (i : Nat) : w.frozen? ⟨g, i, none⟩ = false := by
  rcases h.1.2 with ⟨h', _⟩ | ⟨g', cap', cur, e, _, hg, _⟩
  · cases h'
  · cases e
    simp [World.frozen?, hg]
theorem Row.at {w : World} {x : Rw} {j : Nat} {e : Ent} (h : Row w x) (hj : x.2.2[j]? = some e) : w.cell? ⟨x.1, j * 2, none⟩ = some (.string e.1) ∧ w.cell? ⟨x.1, j * 2 + 1, none⟩ = some (.float .f64 e.2) := by
  obtain ⟨h1, h2⟩ := enR_at hj
  have c1 := World.ownsRow.cells h (g := x.1) rfl _ _ h1
  have c2 := World.ownsRow.cells h (g := x.1) rfl _ _ h2
  rw [add_at, Nat.zero_add] at c1 c2
  exact ⟨c1, c2⟩
theorem bl_some (g n c : Nat) (T : List Rw) : bl (.slice (some ⟨g, 0, none⟩) n c) T = g :: T.map Prod.fst := rfl
theorem Rws.apart {w : World} {g n c i : Nat} {T : List Rw} {x : Rw} (h : Rws w (.slice (some ⟨g, 0, none⟩) n c) T) (hi : T[i]? = some x) : x.1 ≠ g := by
  have := h.2.2
  rw [bl_some, List.nodup_cons] at this
  exact fun e => this.1 (List.mem_map.2 ⟨x, List.mem_of_getElem? hi, e⟩)
theorem Lay.row {w w1 : World} {R g n c i : Nat} {u0 u1 u3 : Value} {T : List Rw} {x y : Rw} (h : Lay w R u0 u1 u3 (.slice (some ⟨g, 0, none⟩) n c) T) (hi : T[i]? = some x) (hy : Row w1 y) (hb : y.1 = x.1 ∨ w.heap.size ≤ y.1) (hg : w.grownBy w1 (some x.1)) :
    Lay (w1.setCell ⟨g, i, none⟩ (rwV y)) R u0 u1 u3 (.slice (some ⟨g, 0, none⟩) n c) (T.set i y) ∧ Fm (R :: bl (.slice (some ⟨g, 0, none⟩) n c) T) w (R :: bl (.slice (some ⟨g, 0, none⟩) n c) (T.set i y)) (w1.setCell ⟨g, i, none⟩ (rwV y)) := by
  obtain ⟨h1, h2, h3⟩ := h
  have hlt : ∀ k ∈ bl (.slice (some ⟨g, 0, none⟩) n c) T, k < w.heap.size := h2.lt
  have hxg := h2.apart hi
  have hil : i < T.length := (List.getElem?_eq_some_iff.1 hi).1
  have hxm : x.1 ∈ T.map Prod.fst := List.mem_map.2 ⟨x, List.mem_of_getElem? hi, rfl⟩
  rw [bl_some] at h3 hlt
  have hgl : g < w.heap.size := hlt g (by simp)
  have hRl : R < w.heap.size := (Array.getElem?_eq_some_iff.1 h1).1
  have hRx : R ≠ x.1 := fun e => h3 (by rw [e]; simp [hxm])
  have hRg : R ≠ g := fun e => h3 (by rw [e]; simp)
  have hyg : y.1 ≠ g := by rcases hb with e | e; rw [e]; exact hxg; omega
  have hyR : y.1 ≠ R := by rcases hb with e | e; rw [e]; exact fun e => hRx e.symm; omega
  have hnd := h2.2.2
  rw [bl_some, List.nodup_cons] at hnd
  have hyo : ∀ j z, j ≠ i → T[j]? = some z → z.1 ≠ y.1 := by
    intro j z hj hz
    rcases hb with e | e
    · rw [e]
      intro e'
      have q1 : (T.map Prod.fst)[i]? = some x.1 := by rw [List.getElem?_map, hi]; rfl
      have q2 : (T.map Prod.fst)[j]? = some x.1 := by rw [List.getElem?_map, hz]; simp [e']
      exact hj ((List.getElem?_inj (List.getElem?_eq_some_iff.1 q2).1 hnd.2).1 (q2.trans q1.symm))
    · have := hlt z.1 (by simp; exact .inr ⟨z.2.1, z.2.2, List.mem_of_getElem? hz⟩)
      omega
  have hkg : w1.heap[g]? = w.heap[g]? := hg.block g hgl (fun e => hxg (Option.some.inj e).symm)
  have hnd' : (y.1 :: []).Nodup := by simp
  have hset : (T.set i y).map Prod.fst = (T.map Prod.fst).set i y.1 := by rw [List.map_set]
  have hmem : ∀ k, k ∈ (T.map Prod.fst).set i y.1 → k = y.1 ∨ ∃ j z, j ≠ i ∧ T[j]? = some z ∧ z.1 = k := by
    intro k hk
    obtain ⟨j, hj⟩ := List.getElem?_of_mem hk
    rw [List.getElem?_set] at hj
    by_cases e : i = j
    · subst e; rw [if_pos rfl] at hj; split at hj
      · left; exact (Option.some.inj hj).symm
      · cases hj
    · rw [if_neg e, List.getElem?_map] at hj
      cases ht : T[j]? with
      | none => rw [ht] at hj; cases hj
      | some z => rw [ht] at hj; exact .inr ⟨j, z, fun e' => e e'.symm, ht, Option.some.inj hj⟩
  have hgn : g ∉ (T.map Prod.fst).set i y.1 := fun hm => by
    rcases hmem g hm with e | ⟨j, z, _, hz, e⟩
    · exact hyg e.symm
    · exact hnd.1 (List.mem_map.2 ⟨z, List.mem_of_getElem? hz, e⟩)
  have hRn : R ∉ (T.map Prod.fst).set i y.1 := fun hm => by
    rcases hmem R hm with e | ⟨j, z, _, hz, e⟩
    · exact hyR e.symm
    · exact h3 (List.mem_cons.2 (.inr (List.mem_map.2 ⟨z, List.mem_of_getElem? hz, e⟩)))
  have hns : ((T.map Prod.fst).set i y.1).Nodup := by
    unfold List.Nodup
    rw [List.pairwise_iff_getElem]
    intro a b ha' hb' hab he0
    have he : ((T.map Prod.fst).set i y.1)[a]? = ((T.map Prod.fst).set i y.1)[b]? := by rw [List.getElem?_eq_getElem ha', List.getElem?_eq_getElem hb', he0]
    rw [List.length_set] at hb'
    rw [List.getElem?_set, List.getElem?_set] at he
    have hbl : b < T.length := by simpa using hb'
    by_cases ea : i = a
    · subst ea
      rw [if_pos rfl, if_pos (by simpa using hil), if_neg (by omega), List.getElem?_map, List.getElem?_eq_getElem hbl] at he
      exact hyo b T[b] (by omega) (List.getElem?_eq_getElem hbl) (Option.some.inj he).symm
    · rw [if_neg ea] at he
      by_cases eb : i = b
      · subst eb
        rw [if_pos rfl, if_pos (by simpa using hil), List.getElem?_map, List.getElem?_eq_getElem (by omega)] at he
        exact hyo a T[a] (by omega) (List.getElem?_eq_getElem (by omega)) (Option.some.inj he)
      · rw [if_neg eb] at he
        exact absurd ((List.getElem?_inj (by simp; omega) hnd.2).1 he) (by omega)
  refine ⟨⟨?_, ⟨?_, ?_, ?_⟩, ?_⟩, ?_⟩
  · rw [Below.heap_setCell _ _ _ _ hRg, hg.block R hRl (fun e => hRx (Option.some.inj e))]; exact h1
  · obtain ⟨l1, l2⟩ := h2.1
    refine ⟨by rw [List.length_map, Nat.mul_one], .inr ?_⟩
    · rcases l2 with ⟨e, _⟩ | ⟨g', cap', cur, e, _, hh, hc, hm, hs, ht⟩
      · cases e
      · cases e
        rw [List.length_set]
        exact ⟨g, c, _, rfl, Nat.zero_le _, cells_setCell (hkg.trans hh), hc, hm, by simpa using hs, by rw [List.map_set]; exact take_set ht⟩
  · intro z hz
    obtain ⟨j, hj⟩ := List.getElem?_of_mem hz
    rw [List.getElem?_set] at hj
    by_cases e : i = j
    · subst e
      rw [if_pos rfl, if_pos hil] at hj
      cases hj
      exact hy.kept (Below.heap_setCell _ _ _ _ hyg)
    · rw [if_neg e] at hj
      have hz' := h2.2.1 z (List.mem_of_getElem? hj)
      have hzg := h2.apart hj
      refine hz'.kept ?_
      rw [Below.heap_setCell _ _ _ _ hzg]
      refine hg.block _ hz'.lt (fun e' => ?_)
      have q1 : (T.map Prod.fst)[i]? = some x.1 := by rw [List.getElem?_map, hi]; rfl
      have q2 : (T.map Prod.fst)[j]? = some x.1 := by rw [List.getElem?_map, hj]; exact e'
      exact e ((List.getElem?_inj (List.getElem?_eq_some_iff.1 q1).1 hnd.2).1 (q1.trans q2.symm))
  · rw [bl_some, hset, List.nodup_cons]; exact ⟨hgn, hns⟩
  · rw [bl_some, hset, List.mem_cons, not_or]; exact ⟨hRg, hRn⟩
  · refine ⟨⟨hg.os, hg.tape, hg.output⟩, by simpa [World.setCell] using hg.size, fun k hk hm => ?_⟩
    rw [bl_some] at hm ⊢
    simp only [List.mem_cons, not_or] at hm
    refine ⟨?_, ?_⟩
    · rw [Below.heap_setCell _ _ _ _ hm.2.1]
      exact hg.block k hk (fun e => hm.2.2 (by rw [Option.some.inj e]; exact hxm))
    · rw [hset]
      simp only [List.mem_cons, not_or]
      refine ⟨hm.1, hm.2.1, fun hk' => ?_⟩
      rcases hmem k hk' with e | ⟨j, z, _, hz, e⟩
      · rcases hb with e' | e'
        · exact hm.2.2 (by rw [e, e']; exact hxm)
        · omega
      · exact hm.2.2 (List.mem_map.2 ⟨z, List.mem_of_getElem? hz, e⟩)
theorem Lay.put {w w1 : World} {R : Nat} {u0 u1 u3 rv rv' : Value} {T T' : List Rw} (h : Lay w R u0 u1 u3 rv T) (hR : w1.heap[R]? = w.heap[R]?) (hr : Rws w1 rv' T') (hn : R ∉ bl rv' T') (ho : w1.os = w.os ∧ w1.tape = w.tape ∧ w1.output = w.output) (hs : w.heap.size ≤ w1.heap.size)
    (hk : ∀ k, k < w.heap.size → k ∉ R :: bl rv T → w1.heap[k]? = w.heap[k]? ∧ k ∉ bl rv' T') :
    Lay (w1.setCell ⟨R, 2, none⟩ rv') R u0 u1 u3 rv' T' ∧ Fm (R :: bl rv T) w (R :: bl rv' T') (w1.setCell ⟨R, 2, none⟩ rv') := by
  refine ⟨⟨cells_setCell (hR.trans h.1), hr.kept (fun k hk' => Below.heap_setCell _ _ _ _ (fun e => hn (by have e : k = R := e; rw [← e]; exact hk'))), hn⟩, ho, by simpa [World.setCell] using hs, fun k hl hm => ?_⟩
  obtain ⟨q1, q2⟩ := hk k hl hm
  have hkR : k ≠ R := fun e => hm (by simp [e])
  refine ⟨by rw [Below.heap_setCell _ _ _ _ hkR]; exact q1, fun hm' => ?_⟩
  rcases List.mem_cons.1 hm' with e | e
  · exact hkR e
  · exact q2 e
end Go.Proofs.YtmgeaanbgjbkcaaGreat.DF

namespace Go.Proofs.YtmgeaanbgjbkcaaGreat.DF
open Go.RowKit Go.Shelf
set_option linter.unusedVariables false
def agE (e : Ent) : Value := .agg #[.string e.1, .float .f64 e.2]
theorem ahead_any (a b : Ent) (w : World) : Calls Tryz.prog 246 #[agE a, agE b] w fun e w' => e = .returned (.bool (ahd a b)) ∧ Below w.heap.size w w' := by
  have sf : ∀ (x : Nat) (w : World) (a : Addr), (store a (.float .f64 x)).run Tryz.prog w = stored Tryz.prog w a (.float .f64 x) .plain := fun x w a => run_store _ w a _ _ rfl
  obtain ⟨a1, a2⟩ := a
  obtain ⟨b1, b2⟩ := b
  have hb : ∀ (w : World) (o p : Obj), Below w.heap.size w ((w.alloc o).alloc p) := fun w o p => ((Below.refl _ w).alloc (Nat.le_refl _) _).alloc (by simp) _
  have HB := keep hb
  clear hb
  unfold agE ahd tls flt feq
  dsimp only
  obtain ⟨o, ho⟩ : ∃ o, Ieee.double.order a2 b2 = o := ⟨_, rfl⟩
  rw [ho]
  have ho' : FloatKind.f64.format.order a2 b2 = o := ho
  clear ho
  rcases o with _ | (_ | _ | _)
  all_goals
    go_enter Tryz.func246, Tryz.ntmps246
    go_wp2
    all_goals
      go_ret
      exact ⟨by simp, HB.out _ _ _⟩
def Rch (g : Nat) (cb : Array Value) (q : Ent → Bool) (w : World) : Prop :=
  (∀ args w, (callFunc g args).run Tryz.prog w = .ok (.enter g args) w) ∧ ∀ e W, Below w.heap.size w W → Calls Tryz.prog g (#[agE e] ++ cb) W fun en w' => en = .returned (.bool (!q e)) ∧ Below W.heap.size W w'
theorem not1_any (a x : Ent) (B : Nat) (W : World) (h0 : W.cell? ⟨B, 0, none⟩ = some (.string x.1)) (h1 : W.cell? ⟨B, 1, none⟩ = some (.float .f64 x.2)) :
    Calls Tryz.prog 245 (#[agE a] ++ #[.pointer (some ⟨B, 0, none⟩)]) W fun en w' => en = .returned (.bool (!ahd a x)) ∧ Below W.heap.size W w' := by
  have sf : ∀ (x : Nat) (w : World) (a : Addr), (store a (.float .f64 x)).run Tryz.prog w = stored Tryz.prog w a (.float .f64 x) .plain := fun x w a => run_store _ w a _ _ rfl
  obtain ⟨a1, a2⟩ := a
  obtain ⟨x1, x2⟩ := x
  dsimp only at h0 h1
  have hbw : B < W.heap.size := World.block_lt_of_cell? _ _ h0
  obtain ⟨W1, hW1⟩ : ∃ W1, W.alloc (.cells #[.string a1, .float .f64 a2] 73) = W1 := ⟨_, rfl⟩
  have hb1 : Below W.heap.size W W1 := by rw [← hW1]; exact (Below.refl _ W).alloc (Nat.le_refl _) _
  have k0 : W1.cell? ⟨B, 0, none⟩ = some (.string x1) := (hb1.cell (p := ⟨B, 0, none⟩) hbw).trans h0
  have k1 : W1.cell? ⟨B, 1, none⟩ = some (.float .f64 x2) := (hb1.cell (p := ⟨B, 1, none⟩) hbw).trans h1
  have hn : W1.heap[W.heap.size]? = some (.cells #[.string a1, .float .f64 a2] 73 (0, 0)) := by rw [← hW1]; exact heap_alloc_new _ _
  have n0 : W1.cell? ⟨W.heap.size, 0, none⟩ = some (.string a1) := by simp [World.cell?, hn]
  have n1 : W1.cell? ⟨W.heap.size, 1, none⟩ = some (.float .f64 a2) := by simp [World.cell?, hn]
  have mA := ahead_any (a1, a2) (x1, x2) W1
  have HB := keep hb1
  clear h0 h1 hb1 hbw hn
  unfold agE at *
  dsimp only at *
  go_enter Tryz.func245, Tryz.ntmps245
  go_wp2_with (first | (rw [hW1]; done) | (go_at_call 246; refine mA.mono ?_; rintro _ w' ⟨rfl, hb2⟩))
  go_ret
  exact ⟨rfl, HB.out.trans ⟨hb2.os, hb2.tape, hb2.output, hb2.size, fun k hk => hb2.block k (Nat.lt_of_lt_of_le hk HB.out.size)⟩⟩
end Go.Proofs.YtmgeaanbgjbkcaaGreat.DF

namespace Go.Proofs.YtmgeaanbgjbkcaaGreat.DF
open Go.RowKit Go.Shelf
set_option linter.unusedVariables false
theorem Below.up {w W w' : World} (h : Below w.heap.size w W) (g : Below W.heap.size W w') : Below w.heap.size w w' :=
  h.trans ⟨g.os, g.tape, g.output, g.size, fun k hk => g.block k (Nat.lt_of_lt_of_le hk h.size)⟩
theorem notAhead_any (x : Ent) (w : World) : Calls Tryz.prog 209 #[agE x] w fun e w' => e = .returned (.func (.func 245) #[] #[.pointer (some ⟨w.heap.size, 0, none⟩)]) ∧ Below w.heap.size w w' ∧ Rch 245 #[.pointer (some ⟨w.heap.size, 0, none⟩)] (fun e => ahd e x) w' := by
  have sf : ∀ (x : Nat) (w : World) (a : Addr), (store a (.float .f64 x)).run Tryz.prog w = stored Tryz.prog w a (.float .f64 x) .plain := fun x w a => run_store _ w a _ _ rfl
  have hb : Below w.heap.size w (w.alloc (.cells #[.string x.1, .float .f64 x.2] 73)) := (Below.refl _ w).alloc (Nat.le_refl _) _
  have hr : Rch 245 #[.pointer (some ⟨w.heap.size, 0, none⟩)] (fun e => ahd e x) (w.alloc (.cells #[.string x.1, .float .f64 x.2] 73)) := by
    refine ⟨enters_of Tryz.func245 (by kernel_rfl) rfl, fun e W hW => ?_⟩
    have hn : W.heap[w.heap.size]? = some (.cells #[.string x.1, .float .f64 x.2] 73 (0, 0)) := by rw [hW.block _ (by simp)]; exact heap_alloc_new _ _
    exact not1_any e x w.heap.size W (by simp [World.cell?, hn]) (by simp [World.cell?, hn])
  have HB := keep hb
  have HR := keep hr
  clear hb hr
  obtain ⟨x1, x2⟩ := x
  unfold agE
  dsimp only at *
  go_enter Tryz.func209, Tryz.ntmps209
  go_wp2
  go_ret
  exact ⟨rfl, HB.out, HR.out⟩
set_option maxRecDepth 1000000 in
theorem search_any (g : Nat) (cb : Array Value) (n : Nat) (p : Nat → Bool) (w : World) (eg : ∀ args w, (callFunc g args).run Tryz.prog w = .ok (.enter g args) w) (hsz : n ≤ 2000000)
    (hf : ∀ W i, Below w.heap.size w W → i < n → Calls Tryz.prog g (#[.int .i64 (i : Int)] ++ cb) W fun e w' => e = .returned (.bool (p i)) ∧ Below W.heap.size W w')
    (hmono : ∀ a b, a ≤ b → b < n → p a = true → p b = true) :
    Calls Tryz.prog 242 #[.int .i64 n, .func (.func g) #[] cb] w fun e w' => (∃ k : Nat, e = .returned (.int .i64 k) ∧ k ≤ n ∧ (∀ t, t < k → p t = false) ∧ ∀ t, k ≤ t → t < n → p t = true) ∧ Below w.heap.size w w' := by
  have HF := keep hf
  have M := keep hmono
  have HS := keep hsz
  have B0 := keep (Below.refl w.heap.size w)
  clear hf hmono hsz
  go_enter Tryz.func242, Tryz.ntmps242
  go_wp2
  go_loopg [5, 6] n (fun kx s5 s6 wr => ∃ (lo hi : Nat), s5 = .int .i64 lo ∧ s6 = .int .i64 hi ∧ lo ≤ hi ∧ hi ≤ n ∧ hi - lo ≤ kx ∧ Kept (Below w.heap.size w wr) ∧ Kept ((∀ t, t < lo → p t = false) ∧ (∀ t, hi ≤ t → t < n → p t = true)))
  case atStart => exact ⟨0, n, rfl, rfl, Nat.zero_le _, Nat.le_refl _, by omega, B0.out, ⟨fun t ht => absurd ht (Nat.not_lt_zero _), fun t h1 h2 => by omega⟩⟩
  case round =>
    obtain ⟨lo, hi, rfl, rfl, hlh, hin, hg, BW, I⟩ := hrel
    have hs := HS.out
    by_cases hlt : lo < hi
    · have hc := HF.out wr ((lo + hi) / 2) BW.out (by omega)
      rw [show (((lo + hi) / 2 : Nat) : Int) = ((lo : Int) + (hi : Int)) / 2 by omega] at hc
      cases hp : p ((lo + hi) / 2) <;> rw [hp] at hc
      · have HP := keep hp
        clear hp
        go_wp2_with (go_at_fn g; refine hc.mono ?_; rintro e w' ⟨rfl, hb'⟩)
        go_roundg (hi - ((lo + hi) / 2 + 1))
        case measure => omega
        case rel =>
          exact ⟨(lo + hi) / 2 + 1, hi, by rw [show ((lo : Int) + (hi : Int)) / 2 + 1 = (((lo + hi) / 2 + 1 : Nat) : Int) by omega], rfl, by omega, hin, Nat.le_refl _, Below.up BW.out hb', ⟨fun t ht => (by
            cases h : p t with
            | false => rfl
            | true => have := M.out t ((lo + hi) / 2) (by omega) (by omega) h; rw [HP.out] at this; cases this), I.out.2⟩⟩
      · have HP := keep hp
        clear hp
        go_wp2_with (go_at_fn g; refine hc.mono ?_; rintro e w' ⟨rfl, hb'⟩)
        go_roundg ((lo + hi) / 2 - lo)
        case measure => omega
        case rel =>
          exact ⟨lo, (lo + hi) / 2, rfl, by rw [show ((lo : Int) + (hi : Int)) / 2 = (((lo + hi) / 2 : Nat) : Int) by omega], by omega, by omega, Nat.le_refl _, Below.up BW.out hb', ⟨I.out.1, fun t ht htn => M.out ((lo + hi) / 2) t ht htn HP.out⟩⟩
    · obtain rfl : hi = lo := by omega
      go_wp2
      go_ret
      exact ⟨⟨hi, rfl, hin, I.out.1, I.out.2⟩, BW.out⟩
theorem clone_any (w : World) (b off n c : Nat) (news : List Value) (hl : news.length = n * 2) (hn : n ≤ 2000000) (hc : ∀ j u, news[j]? = some u → w.cell? ((⟨b, off, none⟩ : Addr).add j) = some u) (h1 : ∀ u ∈ news, u.oneCell' = true) (hp : 0 < n) :
    Calls Tryz.prog 254 #[.slice (some ⟨b, off, none⟩) n c] w fun e w' => ∃ g cap, e = .returned (.slice (some ⟨g, 0, none⟩) n cap) ∧ w'.ownsRow 0 73 2 (.slice (some ⟨g, 0, none⟩) n cap) n news ∧ w.heap.size ≤ g ∧ Below w.heap.size w w' := by
  obtain ⟨i0, hi0, hz0, hz1, hz2⟩ := info_parts info_rk
  have uT := Tryz.underlying28
  have q22 : ∀ (w : World) (a : Option Addr) (n c n' c' : Nat), (binOp .eql 28 (.slice a n c) (.slice none n' c')).run Tryz.prog w = .ok (.bool a.isNone) w := fun w a n c n' c' => Lib.run_eql_slice_nil w _ _ a n c n' c' uT
  obtain ⟨W1, hW1⟩ : ∃ W1, w.alloc (.cells #[] 73) = W1 := ⟨_, rfl⟩
  have hb1 : Below w.heap.size w W1 := by rw [← hW1]; exact (Below.refl _ w).alloc (Nat.le_refl _) _
  have hown : W1.ownsRow w.heap.size 73 2 (.slice (some ⟨w.heap.size, 0, none⟩) 0 0) 0 [] := by rw [← hW1]; exact World.ownsRow_made w #[] 0 (Nat.le_refl _) (Nat.zero_le _) (by simp)
  obtain ⟨g, cap, W2, r1, r2, r3, r4, r5⟩ := run_append_lies (P := Tryz.prog) W1 28 28 w.heap.size 73 i0 _ 2 24 uT hi0 hz0 hz1 hz2 (by simp [Value.cells]) (by decide) _ 0 [] hown ⟨b, off, none⟩ n c news hl (fun j u hj => by
    have := hc j u hj
    rw [add_at] at this ⊢
    exact (hb1.cell (p := ⟨b, off + j, none⟩) (World.block_lt_of_cell? _ _ this)).trans this) h1 hp (by unfold maxLen; omega) (by omega) hb1.size W1.heap.size rfl
  rw [Nat.zero_add] at r1 r2
  have R1 := keep r1
  have HP : Kept (∃ g' cap', (Ending.returned (.slice (some ⟨g, 0, none⟩) n cap)) = .returned (.slice (some ⟨g', 0, none⟩) n cap') ∧ W2.ownsRow 0 73 2 (.slice (some ⟨g', 0, none⟩) n cap') n news ∧ w.heap.size ≤ g' ∧ Below w.heap.size w W2) := by
    refine ⟨g, cap, rfl, ?_, (r2.lt g rfl).1, hb1.grown r3 hb1.size (fun k hk => by cases hk; exact Nat.le_refl _)⟩
    obtain ⟨l1, l2⟩ := r2
    refine ⟨by simpa using l1, ?_⟩
    rcases l2 with ⟨h, _⟩ | ⟨g', cap', cur, e, _, rest⟩
    · cases h
    · exact .inr ⟨g', cap', cur, e, Nat.zero_le _, by simpa using rest⟩
  clear hl hn hc h1 hp hown hb1 r1 r2 r3 r4 r5
  subst hW1
  go_enter Tryz.func254, Tryz.ntmps254
  go_wp2_with (at_builtin; refine wpList_app_run rfl _ _ _ _ rfl _ _ _ rfl rfl R1.out ?_)
  go_ret
  exact HP.out
end Go.Proofs.YtmgeaanbgjbkcaaGreat.DF

namespace Go.Proofs.YtmgeaanbgjbkcaaGreat.DF
open Go.RowKit Go.Shelf
set_option linter.unusedVariables false
set_option linter.unusedSimpArgs false
set_option maxRecDepth 100000 in
theorem seek1_any (W : World) (Bf Br R gt n c i gx lx cx lm oL g : Nat) (cb : Array Value) (e1 : ByteArray) (e2 : Nat) (v : Bool)
    (hf : W.cell? ⟨Bf, 0, none⟩ = some (.func (.func g) #[] cb)) (hr : W.cell? ⟨Br, 0, none⟩ = some (.pointer (some ⟨R, 0, none⟩))) (hR : W.cell? ⟨R, 2, none⟩ = some (.slice (some ⟨gt, 0, none⟩) n c)) (hT : W.cell? ⟨gt, i, none⟩ = some (.slice (some ⟨gx, 0, none⟩) lx cx))
    (hx0 : W.cell? ⟨gx, oL, none⟩ = some (.string e1)) (hx1 : W.cell? ⟨gx, oL + 1, none⟩ = some (.float .f64 e2)) (hi : i < n) (hl : lx = lm + 1) (ho : oL = lm * 2) (hln : lx ≤ 100000)
    (eg : ∀ args w, (callFunc g args).run Tryz.prog w = .ok (.enter g args) w) (hq : ∀ W', Below W.heap.size W W' → Calls Tryz.prog g (#[agE (e1, e2)] ++ cb) W' fun en w' => en = .returned (.bool v) ∧ Below W'.heap.size W' w') :
    Calls Tryz.prog 243 (#[.int .i64 (i : Int)] ++ #[.pointer (some ⟨Bf, 0, none⟩), .pointer (some ⟨Br, 0, none⟩)]) W fun en w' => en = .returned (.bool v) ∧ Below W.heap.size W w' := by
  have i0 : (0 : Int) ≤ (i : Int) := by omega
  have i1 : (i : Int) < (n : Int) := by omega
  have m0 : (0 : Int) ≤ (lm : Int) := by omega
  have m1 : (lm : Int) < (lx : Int) := by omega
  have hw : IntKind.i64.wrap ((lx : Int) - 1) = (lm : Int) := by rw [IntKind.wrap_i64]; omega
  have mQ := hq W.drew (Below.refl _ W).drew
  unfold agE at mQ
  dsimp only at mQ
  have MQ := keep mQ
  have ho' : lm * 2 = oL := ho.symm
  have HS : Kept (W.drew.cell? ⟨Bf, 0, none⟩ = some (.func (.func g) #[] cb) ∧ W.drew.cell? ⟨Br, 0, none⟩ = some (.pointer (some ⟨R, 0, none⟩)) ∧ W.drew.cell? ⟨R, 2, none⟩ = some (.slice (some ⟨gt, 0, none⟩) n c) ∧ W.drew.cell? ⟨gt, i, none⟩ = some (.slice (some ⟨gx, 0, none⟩) lx cx) ∧ W.drew.cell? ⟨gx, oL, none⟩ = some (.string e1) ∧ W.drew.cell? ⟨gx, oL + 1, none⟩ = some (.float .f64 e2)) := ⟨hf, hr, hR, hT, hx0, hx1⟩
  clear hq mQ hf hr hR hT hx0 hx1 hi hl ho hln
  go_enter Tryz.func243, Tryz.ntmps243
  go_wp2_with fail
  refine wp_region_held_drew (S := fun W => W.cell? ⟨Bf, 0, none⟩ = some (.func (.func g) #[] cb) ∧ W.cell? ⟨Br, 0, none⟩ = some (.pointer (some ⟨R, 0, none⟩)) ∧ W.cell? ⟨R, 2, none⟩ = some (.slice (some ⟨gt, 0, none⟩) n c) ∧ W.cell? ⟨gt, i, none⟩ = some (.slice (some ⟨gx, 0, none⟩) lx cx) ∧ W.cell? ⟨gx, oL, none⟩ = some (.string e1) ∧ W.cell? ⟨gx, oL + 1, none⟩ = some (.float .f64 e2)) (by kernel_rfl) HS.out (fun hHeld => ?_)
  refine wpAnyH_take (i := 0) (oi := ⟨some 5, _, _, _, _, _⟩) (v := ?v75) rfl (by kernel_rfl) (by kernel_rfl) (by kernel_rfl) (fun _ _ _ h => h) (Or.inl ⟨by rfl, ?hy75⟩) (by assumption) ?rest75
  case hy75 => (intro w hSw; obtain ⟨p0,p1,p2,p3,p4,p5⟩ := hSw; go_simp; try with_reducible rfl)
  try simp only [Act.put, List.setIfInBounds_toArray, List.set_cons_zero, List.set_cons_succ]
  refine wpAnyH_take (i := 1) (oi := ⟨some 6, _, _, _, _, _⟩) (v := ?v76) rfl (by kernel_rfl) (by kernel_rfl) (by kernel_rfl) (fun _ _ _ h => h) (Or.inl ⟨by rfl, ?hy76⟩) (by assumption) ?rest76
  case hy76 => (intro w hSw; obtain ⟨p0,p1,p2,p3,p4,p5⟩ := hSw; go_simp; try with_reducible rfl)
  try simp only [Act.put, List.setIfInBounds_toArray, List.set_cons_zero, List.set_cons_succ]
  refine wpAnyH_take (i := 2) (oi := ⟨some 7, _, _, _, _, _⟩) (v := ?v77) rfl (by kernel_rfl) (by kernel_rfl) (by kernel_rfl) (fun _ _ _ h => h) (Or.inl ⟨by rfl, ?hy77⟩) (by assumption) ?rest77
  case hy77 => (intro w hSw; obtain ⟨p0,p1,p2,p3,p4,p5⟩ := hSw; go_simp; try with_reducible rfl)
  try simp only [Act.put, List.setIfInBounds_toArray, List.set_cons_zero, List.set_cons_succ]
  refine wpAnyH_take (i := 3) (oi := ⟨some 8, _, _, _, _, _⟩) (v := ?v78) rfl (by kernel_rfl) (by kernel_rfl) (by kernel_rfl) (fun _ _ _ h => h) (Or.inl ⟨by rfl, ?hy78⟩) (by assumption) ?rest78
  case hy78 => (intro w hSw; obtain ⟨p0,p1,p2,p3,p4,p5⟩ := hSw; go_simp; try with_reducible rfl)
  try simp only [Act.put, List.setIfInBounds_toArray, List.set_cons_zero, List.set_cons_succ]
  refine wpAnyH_take (i := 4) (oi := ⟨some 9, _, _, _, _, _⟩) (v := ?v79) rfl (by kernel_rfl) (by kernel_rfl) (by kernel_rfl) (fun _ _ _ h => h) (Or.inl ⟨by rfl, ?hy79⟩) (by assumption) ?rest79
  case hy79 => (intro w hSw; obtain ⟨p0,p1,p2,p3,p4,p5⟩ := hSw; go_simp; try with_reducible rfl)
  try simp only [Act.put, List.setIfInBounds_toArray, List.set_cons_zero, List.set_cons_succ]
  refine wpAnyH_take (i := 5) (oi := ⟨some 10, _, _, _, _, _⟩) (v := ?v80) rfl (by kernel_rfl) (by kernel_rfl) (by kernel_rfl) (fun _ _ _ h => h) (Or.inl ⟨by rfl, ?hy80⟩) (by assumption) ?rest80
  case hy80 => (intro w hSw; obtain ⟨p0,p1,p2,p3,p4,p5⟩ := hSw; go_simp; try with_reducible rfl)
  try simp only [Act.put, List.setIfInBounds_toArray, List.set_cons_zero, List.set_cons_succ]
  refine wpAnyH_take (i := 6) (oi := ⟨some 11, _, _, _, _, _⟩) (v := (.pointer (some ⟨gt, i, none⟩))) rfl (by kernel_rfl) (by kernel_rfl) (by kernel_rfl) (fun _ _ _ h => h) (Or.inl ⟨by rfl, ?hy81⟩) (by assumption) ?rest81
  case hy81 => (intro w hSw; obtain ⟨p0,p1,p2,p3,p4,p5⟩ := hSw; first | (go_simp; done) | (go_simp; simp [*]; done) | (simp [*]; go_simp; done))
  try simp only [Act.put, List.setIfInBounds_toArray, List.set_cons_zero, List.set_cons_succ]
  refine wpAnyH_take (i := 7) (oi := ⟨some 12, _, _, _, _, _⟩) (v := ?v82) rfl (by kernel_rfl) (by kernel_rfl) (by kernel_rfl) (fun _ _ _ h => h) (Or.inl ⟨by rfl, ?hy82⟩) (by assumption) ?rest82
  case hy82 => (intro w hSw; obtain ⟨p0,p1,p2,p3,p4,p5⟩ := hSw; go_simp; try with_reducible rfl)
  try simp only [Act.put, List.setIfInBounds_toArray, List.set_cons_zero, List.set_cons_succ]
  refine wpAnyH_take (i := 8) (oi := ⟨some 13, _, _, _, _, _⟩) (v := ?v83) rfl (by kernel_rfl) (by kernel_rfl) (by kernel_rfl) (fun _ _ _ h => h) (Or.inl ⟨by rfl, ?hy83⟩) (by assumption) ?rest83
  case hy83 => (intro w hSw; obtain ⟨p0,p1,p2,p3,p4,p5⟩ := hSw; go_simp; try with_reducible rfl)
  try simp only [Act.put, List.setIfInBounds_toArray, List.set_cons_zero, List.set_cons_succ]
  refine wpAnyH_take (i := 9) (oi := ⟨some 14, _, _, _, _, _⟩) (v := ?v84) rfl (by kernel_rfl) (by kernel_rfl) (by kernel_rfl) (fun _ _ _ h => h) (Or.inl ⟨by rfl, ?hy84⟩) (by assumption) ?rest84
  case hy84 => (intro w hSw; obtain ⟨p0,p1,p2,p3,p4,p5⟩ := hSw; go_simp; try with_reducible rfl)
  try simp only [Act.put, List.setIfInBounds_toArray, List.set_cons_zero, List.set_cons_succ]
  refine wpAnyH_take (i := 10) (oi := ⟨some 15, _, _, _, _, _⟩) (v := ?v85) rfl (by kernel_rfl) (by kernel_rfl) (by kernel_rfl) (fun _ _ _ h => h) (Or.inl ⟨by rfl, ?hy85⟩) (by assumption) ?rest85
  case hy85 => (intro w hSw; obtain ⟨p0,p1,p2,p3,p4,p5⟩ := hSw; go_simp; try with_reducible rfl)
  try simp only [Act.put, List.setIfInBounds_toArray, List.set_cons_zero, List.set_cons_succ]
  refine wpAnyH_take (i := 11) (oi := ⟨some 16, _, _, _, _, _⟩) (v := ?v86) rfl (by kernel_rfl) (by kernel_rfl) (by kernel_rfl) (fun _ _ _ h => h) (Or.inl ⟨by rfl, ?hy86⟩) (by assumption) ?rest86
  case hy86 => (intro w hSw; obtain ⟨p0,p1,p2,p3,p4,p5⟩ := hSw; go_simp; try with_reducible rfl)
  try simp only [Act.put, List.setIfInBounds_toArray, List.set_cons_zero, List.set_cons_succ]
  refine wpAnyH_take (i := 12) (oi := ⟨some 17, _, _, _, _, _⟩) (v := ?v87) rfl (by kernel_rfl) (by kernel_rfl) (by kernel_rfl) (fun _ _ _ h => h) (Or.inl ⟨by rfl, ?hy87⟩) (by assumption) ?rest87
  case hy87 => (intro w hSw; obtain ⟨p0,p1,p2,p3,p4,p5⟩ := hSw; go_simp; try with_reducible rfl)
  try simp only [Act.put, List.setIfInBounds_toArray, List.set_cons_zero, List.set_cons_succ]
  refine wpAnyH_take (i := 13) (oi := ⟨some 18, _, _, _, _, _⟩) (v := (.pointer (some ⟨gt, i, none⟩))) rfl (by kernel_rfl) (by kernel_rfl) (by kernel_rfl) (fun _ _ _ h => h) (Or.inl ⟨by rfl, ?hy88⟩) (by assumption) ?rest88
  case hy88 => (intro w hSw; obtain ⟨p0,p1,p2,p3,p4,p5⟩ := hSw; first | (go_simp; done) | (go_simp; simp [*]; done) | (simp [*]; go_simp; done))
  try simp only [Act.put, List.setIfInBounds_toArray, List.set_cons_zero, List.set_cons_succ]
  refine wpAnyH_take (i := 14) (oi := ⟨some 19, _, _, _, _, _⟩) (v := ?v89) rfl (by kernel_rfl) (by kernel_rfl) (by kernel_rfl) (fun _ _ _ h => h) (Or.inl ⟨by rfl, ?hy89⟩) (by assumption) ?rest89
  case hy89 => (intro w hSw; obtain ⟨p0,p1,p2,p3,p4,p5⟩ := hSw; go_simp; try with_reducible rfl)
  try simp only [Act.put, List.setIfInBounds_toArray, List.set_cons_zero, List.set_cons_succ]
  refine wpAnyH_take (i := 15) (oi := ⟨some 20, _, _, _, _, _⟩) (v := (.int .i64 (lx : Int))) rfl (by kernel_rfl) (by kernel_rfl) (by kernel_rfl) (fun _ _ _ h => h) (Or.inl ⟨by rfl, ?hy90⟩) (by assumption) ?rest90
  case hy90 => (intro w hSw; obtain ⟨p0,p1,p2,p3,p4,p5⟩ := hSw; first | (go_simp; done) | (go_simp; simp [*]; done) | (simp [*]; go_simp; done))
  try simp only [Act.put, List.setIfInBounds_toArray, List.set_cons_zero, List.set_cons_succ]
  refine wpAnyH_take (i := 16) (oi := ⟨some 21, _, _, _, _, _⟩) (v := (.int .i64 (lm : Int))) rfl (by kernel_rfl) (by kernel_rfl) (by kernel_rfl) (fun _ _ _ h => h) (Or.inl ⟨by rfl, ?hy91⟩) (by assumption) ?rest91
  case hy91 => (intro w hSw; obtain ⟨p0,p1,p2,p3,p4,p5⟩ := hSw; first | (go_simp; done) | (go_simp; simp [*]; done) | (simp [*]; go_simp; done))
  try simp only [Act.put, List.setIfInBounds_toArray, List.set_cons_zero, List.set_cons_succ]
  refine wpAnyH_take (i := 17) (oi := ⟨some 22, _, _, _, _, _⟩) (v := (.pointer (some ⟨gx, oL, none⟩))) rfl (by kernel_rfl) (by kernel_rfl) (by kernel_rfl) (fun _ _ _ h => h) (Or.inl ⟨by rfl, ?hy92⟩) (by assumption) ?rest92
  case hy92 => (intro w hSw; obtain ⟨p0,p1,p2,p3,p4,p5⟩ := hSw; first | (go_simp; done) | (go_simp; simp [*]; done) | (simp [*]; go_simp; done))
  try simp only [Act.put, List.setIfInBounds_toArray, List.set_cons_zero, List.set_cons_succ]
  refine wpAnyH_take (i := 18) (oi := ⟨some 23, _, _, _, _, _⟩) (v := (.agg #[.string e1, .float .f64 e2])) rfl (by kernel_rfl) (by kernel_rfl) (by kernel_rfl) (fun _ _ _ h => h) (Or.inl ⟨by rfl, ?hy93⟩) (by assumption) ?rest93
  case hy93 => (intro w hSw; obtain ⟨p0,p1,p2,p3,p4,p5⟩ := hSw; first | (go_simp; done) | (go_simp; simp [*]; done) | (simp [*]; go_simp; done))
  try simp only [Act.put, List.setIfInBounds_toArray, List.set_cons_zero, List.set_cons_succ]
  refine wpAnyH_ready (rs := [19]) (by kernel_rfl) (by simp) ?_
  refine AllReadyH.cons (o := ⟨some 24, _, _, _, _, _⟩) rfl (fun K hK => ?_) AllReadyH.nil
  go_simp
  refine MQ.out.mono ?_
  rintro _ w1 ⟨rfl, hb1⟩
  have HB := keep hb1
  have hlt : ∀ {a : Addr} {u : Value}, W.drew.cell? a = some u → w1.cell? a = some u := fun {a u} h => (hb1.cell (p := a) (World.block_lt_of_cell? _ _ h)).trans h
  refine hK.out _ _ ⟨hlt HS.out.1, hlt HS.out.2.1, hlt HS.out.2.2.1, hlt HS.out.2.2.2.1, hlt HS.out.2.2.2.2.1, hlt HS.out.2.2.2.2.2⟩ (fun hHeld => ?_)
  try simp only [Act.put, List.setIfInBounds_toArray, List.set_cons_zero, List.set_cons_succ]
  clear hK hlt hb1
  refine wpAnyH_take (i := 20) (oi := ⟨some 4, _, _, _, _, _⟩) (v := ?v94) rfl (by kernel_rfl) (by kernel_rfl) (by kernel_rfl) (fun _ _ _ h => h) (Or.inl ⟨by rfl, ?hy94⟩) (by assumption) ?rest94
  case hy94 => (intro w hSw; go_simp; try with_reducible rfl)
  try simp only [Act.put, List.setIfInBounds_toArray, List.set_cons_zero, List.set_cons_succ]
  refine wpAnyH_done (by kernel_rfl) ?_ _
  clear hHeld HS MQ
  go_wp2
  go_ret
  exact ⟨rfl, (Below.refl _ W).drew.trans HB.out⟩
set_option maxRecDepth 100000 in
theorem seek2_any (W : World) (Bf Br Bi R gt n c i gx lx cx p oL g : Nat) (cb : Array Value) (e1 : ByteArray) (e2 : Nat) (v : Bool)
    (hf : W.cell? ⟨Bf, 0, none⟩ = some (.func (.func g) #[] cb)) (hr : W.cell? ⟨Br, 0, none⟩ = some (.pointer (some ⟨R, 0, none⟩))) (hbi : W.cell? ⟨Bi, 0, none⟩ = some (.int .i64 (i : Int))) (hR : W.cell? ⟨R, 2, none⟩ = some (.slice (some ⟨gt, 0, none⟩) n c)) (hT : W.cell? ⟨gt, i, none⟩ = some (.slice (some ⟨gx, 0, none⟩) lx cx))
    (hx0 : W.cell? ⟨gx, oL, none⟩ = some (.string e1)) (hx1 : W.cell? ⟨gx, oL + 1, none⟩ = some (.float .f64 e2)) (hi : i < n) (hl : p < lx) (ho : oL = p * 2)
    (eg : ∀ args w, (callFunc g args).run Tryz.prog w = .ok (.enter g args) w) (hq : ∀ W', Below W.heap.size W W' → Calls Tryz.prog g (#[agE (e1, e2)] ++ cb) W' fun en w' => en = .returned (.bool v) ∧ Below W'.heap.size W' w') :
    Calls Tryz.prog 244 (#[.int .i64 (p : Int)] ++ #[.pointer (some ⟨Bf, 0, none⟩), .pointer (some ⟨Br, 0, none⟩), .pointer (some ⟨Bi, 0, none⟩)]) W fun en w' => en = .returned (.bool v) ∧ Below W.heap.size W w' := by
  have i0 : (0 : Int) ≤ (i : Int) := by omega
  have i1 : (i : Int) < (n : Int) := by omega
  have m0 : (0 : Int) ≤ (p : Int) := by omega
  have m1 : (p : Int) < (lx : Int) := by omega
  have mQ := hq W.drew (Below.refl _ W).drew
  unfold agE at mQ
  dsimp only at mQ
  have MQ := keep mQ
  have ho' : p * 2 = oL := ho.symm
  have HS : Kept (W.drew.cell? ⟨Bf, 0, none⟩ = some (.func (.func g) #[] cb) ∧ W.drew.cell? ⟨Br, 0, none⟩ = some (.pointer (some ⟨R, 0, none⟩)) ∧ W.drew.cell? ⟨R, 2, none⟩ = some (.slice (some ⟨gt, 0, none⟩) n c) ∧ W.drew.cell? ⟨gt, i, none⟩ = some (.slice (some ⟨gx, 0, none⟩) lx cx) ∧ W.drew.cell? ⟨gx, oL, none⟩ = some (.string e1) ∧ W.drew.cell? ⟨gx, oL + 1, none⟩ = some (.float .f64 e2) ∧ W.drew.cell? ⟨Bi, 0, none⟩ = some (.int .i64 (i : Int))) := ⟨hf, hr, hR, hT, hx0, hx1, hbi⟩
  clear hq mQ hf hr hR hT hx0 hx1 hi hl ho hbi
  go_enter Tryz.func244, Tryz.ntmps244
  go_wp2_with fail
  refine wp_region_held_drew (S := fun W => W.cell? ⟨Bf, 0, none⟩ = some (.func (.func g) #[] cb) ∧ W.cell? ⟨Br, 0, none⟩ = some (.pointer (some ⟨R, 0, none⟩)) ∧ W.cell? ⟨R, 2, none⟩ = some (.slice (some ⟨gt, 0, none⟩) n c) ∧ W.cell? ⟨gt, i, none⟩ = some (.slice (some ⟨gx, 0, none⟩) lx cx) ∧ W.cell? ⟨gx, oL, none⟩ = some (.string e1) ∧ W.cell? ⟨gx, oL + 1, none⟩ = some (.float .f64 e2) ∧ W.cell? ⟨Bi, 0, none⟩ = some (.int .i64 (i : Int))) (by kernel_rfl) HS.out (fun hHeld => ?_)
  refine wpAnyH_take (i := 0) (oi := ⟨some 6, _, _, _, _, _⟩) (v := ?v95) rfl (by kernel_rfl) (by kernel_rfl) (by kernel_rfl) (fun _ _ _ h => h) (Or.inl ⟨by rfl, ?hy95⟩) (by assumption) ?rest95
  case hy95 => (intro w hSw; obtain ⟨p0,p1,p2,p3,p4,p5,p6⟩ := hSw; go_simp; try with_reducible rfl)
  try simp only [Act.put, List.setIfInBounds_toArray, List.set_cons_zero, List.set_cons_succ]
  refine wpAnyH_take (i := 1) (oi := ⟨some 7, _, _, _, _, _⟩) (v := ?v96) rfl (by kernel_rfl) (by kernel_rfl) (by kernel_rfl) (fun _ _ _ h => h) (Or.inl ⟨by rfl, ?hy96⟩) (by assumption) ?rest96
  case hy96 => (intro w hSw; obtain ⟨p0,p1,p2,p3,p4,p5,p6⟩ := hSw; go_simp; try with_reducible rfl)
  try simp only [Act.put, List.setIfInBounds_toArray, List.set_cons_zero, List.set_cons_succ]
  refine wpAnyH_take (i := 2) (oi := ⟨some 8, _, _, _, _, _⟩) (v := ?v97) rfl (by kernel_rfl) (by kernel_rfl) (by kernel_rfl) (fun _ _ _ h => h) (Or.inl ⟨by rfl, ?hy97⟩) (by assumption) ?rest97
  case hy97 => (intro w hSw; obtain ⟨p0,p1,p2,p3,p4,p5,p6⟩ := hSw; go_simp; try with_reducible rfl)
  try simp only [Act.put, List.setIfInBounds_toArray, List.set_cons_zero, List.set_cons_succ]
  refine wpAnyH_take (i := 3) (oi := ⟨some 9, _, _, _, _, _⟩) (v := ?v98) rfl (by kernel_rfl) (by kernel_rfl) (by kernel_rfl) (fun _ _ _ h => h) (Or.inl ⟨by rfl, ?hy98⟩) (by assumption) ?rest98
  case hy98 => (intro w hSw; obtain ⟨p0,p1,p2,p3,p4,p5,p6⟩ := hSw; go_simp; try with_reducible rfl)
  try simp only [Act.put, List.setIfInBounds_toArray, List.set_cons_zero, List.set_cons_succ]
  refine wpAnyH_take (i := 4) (oi := ⟨some 10, _, _, _, _, _⟩) (v := ?v99) rfl (by kernel_rfl) (by kernel_rfl) (by kernel_rfl) (fun _ _ _ h => h) (Or.inl ⟨by rfl, ?hy99⟩) (by assumption) ?rest99
  case hy99 => (intro w hSw; obtain ⟨p0,p1,p2,p3,p4,p5,p6⟩ := hSw; go_simp; try with_reducible rfl)
  try simp only [Act.put, List.setIfInBounds_toArray, List.set_cons_zero, List.set_cons_succ]
  refine wpAnyH_take (i := 5) (oi := ⟨some 11, _, _, _, _, _⟩) (v := ?v100) rfl (by kernel_rfl) (by kernel_rfl) (by kernel_rfl) (fun _ _ _ h => h) (Or.inl ⟨by rfl, ?hy100⟩) (by assumption) ?rest100
  case hy100 => (intro w hSw; obtain ⟨p0,p1,p2,p3,p4,p5,p6⟩ := hSw; go_simp; try with_reducible rfl)
  try simp only [Act.put, List.setIfInBounds_toArray, List.set_cons_zero, List.set_cons_succ]
  refine wpAnyH_take (i := 6) (oi := ⟨some 12, _, _, _, _, _⟩) (v := (.pointer (some ⟨gt, i, none⟩))) rfl (by kernel_rfl) (by kernel_rfl) (by kernel_rfl) (fun _ _ _ h => h) (Or.inl ⟨by rfl, ?hy101⟩) (by assumption) ?rest101
  case hy101 => (intro w hSw; obtain ⟨p0,p1,p2,p3,p4,p5,p6⟩ := hSw; first | (go_simp; done) | (go_simp; simp [*]; done) | (simp [*]; go_simp; done))
  try simp only [Act.put, List.setIfInBounds_toArray, List.set_cons_zero, List.set_cons_succ]
  refine wpAnyH_take (i := 7) (oi := ⟨some 13, _, _, _, _, _⟩) (v := ?v102) rfl (by kernel_rfl) (by kernel_rfl) (by kernel_rfl) (fun _ _ _ h => h) (Or.inl ⟨by rfl, ?hy102⟩) (by assumption) ?rest102
  case hy102 => (intro w hSw; obtain ⟨p0,p1,p2,p3,p4,p5,p6⟩ := hSw; go_simp; try with_reducible rfl)
  try simp only [Act.put, List.setIfInBounds_toArray, List.set_cons_zero, List.set_cons_succ]
  refine wpAnyH_take (i := 8) (oi := ⟨some 14, _, _, _, _, _⟩) (v := ?v103) rfl (by kernel_rfl) (by kernel_rfl) (by kernel_rfl) (fun _ _ _ h => h) (Or.inl ⟨by rfl, ?hy103⟩) (by assumption) ?rest103
  case hy103 => (intro w hSw; obtain ⟨p0,p1,p2,p3,p4,p5,p6⟩ := hSw; go_simp; try with_reducible rfl)
  try simp only [Act.put, List.setIfInBounds_toArray, List.set_cons_zero, List.set_cons_succ]
  refine wpAnyH_take (i := 9) (oi := ⟨some 15, _, _, _, _, _⟩) (v := (.pointer (some ⟨gx, oL, none⟩))) rfl (by kernel_rfl) (by kernel_rfl) (by kernel_rfl) (fun _ _ _ h => h) (Or.inl ⟨by rfl, ?hy104⟩) (by assumption) ?rest104
  case hy104 => (intro w hSw; obtain ⟨p0,p1,p2,p3,p4,p5,p6⟩ := hSw; first | (go_simp; done) | (go_simp; simp [*]; done) | (simp [*]; go_simp; done))
  try simp only [Act.put, List.setIfInBounds_toArray, List.set_cons_zero, List.set_cons_succ]
  refine wpAnyH_take (i := 10) (oi := ⟨some 16, _, _, _, _, _⟩) (v := (.agg #[.string e1, .float .f64 e2])) rfl (by kernel_rfl) (by kernel_rfl) (by kernel_rfl) (fun _ _ _ h => h) (Or.inl ⟨by rfl, ?hy105⟩) (by assumption) ?rest105
  case hy105 => (intro w hSw; obtain ⟨p0,p1,p2,p3,p4,p5,p6⟩ := hSw; first | (go_simp; done) | (go_simp; simp [*]; done) | (simp [*]; go_simp; done))
  try simp only [Act.put, List.setIfInBounds_toArray, List.set_cons_zero, List.set_cons_succ]
  refine wpAnyH_ready (rs := [11]) (by kernel_rfl) (by simp) ?_
  refine AllReadyH.cons (o := ⟨some 17, _, _, _, _, _⟩) rfl (fun K hK => ?_) AllReadyH.nil
  go_simp
  refine MQ.out.mono ?_
  rintro _ w1 ⟨rfl, hb1⟩
  have HB := keep hb1
  have hlt : ∀ {a : Addr} {u : Value}, W.drew.cell? a = some u → w1.cell? a = some u := fun {a u} h => (hb1.cell (p := a) (World.block_lt_of_cell? _ _ h)).trans h
  refine hK.out _ _ ⟨hlt HS.out.1, hlt HS.out.2.1, hlt HS.out.2.2.1, hlt HS.out.2.2.2.1, hlt HS.out.2.2.2.2.1, hlt HS.out.2.2.2.2.2.1, hlt HS.out.2.2.2.2.2.2⟩ (fun hHeld => ?_)
  try simp only [Act.put, List.setIfInBounds_toArray, List.set_cons_zero, List.set_cons_succ]
  clear hK hlt hb1
  refine wpAnyH_take (i := 12) (oi := ⟨some 5, _, _, _, _, _⟩) (v := ?v106) rfl (by kernel_rfl) (by kernel_rfl) (by kernel_rfl) (fun _ _ _ h => h) (Or.inl ⟨by rfl, ?hy106⟩) (by assumption) ?rest106
  case hy106 => (intro w hSw; go_simp; try with_reducible rfl)
  try simp only [Act.put, List.setIfInBounds_toArray, List.set_cons_zero, List.set_cons_succ]
  refine wpAnyH_done (by kernel_rfl) ?_ _
  clear hHeld HS MQ
  go_wp2
  go_ret
  exact ⟨rfl, (Below.refl _ W).drew.trans HB.out⟩
end Go.Proofs.YtmgeaanbgjbkcaaGreat.DF

namespace Go.Proofs.YtmgeaanbgjbkcaaGreat.DF
open Go.RowKit Go.Shelf
set_option linter.unusedVariables false
set_option linter.unusedSimpArgs false
def flat (T : List Rw) : List Ent := (T.map fun x => x.2.2).flatten
theorem flat_nil : flat [] = [] := rfl
theorem flat_cons (x : Rw) (T : List Rw) : flat (x :: T) = x.2.2 ++ flat T := rfl
theorem flat_app (T U : List Rw) : flat (T ++ U) = flat T ++ flat U := by unfold flat; rw [List.map_append, List.flatten_append]
theorem flat_of {T : List Rw} {e : Ent} (h : e ∈ flat T) : ∃ x ∈ T, e ∈ x.2.2 := by
  obtain ⟨l, hl, he⟩ := List.mem_flatten.1 h
  obtain ⟨x, hx, rfl⟩ := List.mem_map.1 hl
  exact ⟨x, hx, he⟩
theorem flat_at {T : List Rw} {i : Nat} {x : Rw} (h : T[i]? = some x) : flat T = flat (T.take i) ++ x.2.2 ++ flat (T.drop (i + 1)) := by
  have hl := (List.getElem?_eq_some_iff.1 h).1
  have e : T = T.take i ++ x :: T.drop (i + 1) := by
    rw [← (List.getElem?_eq_some_iff.1 h).2, ← List.drop_eq_getElem_cons hl, List.take_append_drop]
  conv => lhs; rw [e]
  rw [flat_app, flat_cons, List.append_assoc]
def Sk (T : List Rw) (q : Ent → Bool) (i p : Nat) : Prop :=
  (i = T.length ∧ p = 0 ∧ ∀ e ∈ flat T, q e = true) ∨ ∃ x, T[i]? = some x ∧ p < x.2.2.length ∧ (∀ e ∈ flat (T.take i), q e = true) ∧ (∀ e ∈ x.2.2.take p, q e = true) ∧ (∀ e ∈ x.2.2.drop p, q e = false) ∧ ∀ e ∈ flat (T.drop (i + 1)), q e = false
def Mo (q : Ent → Bool) (l : List Ent) : Prop := l.Pairwise (fun a b => q b = true → q a = true)
def la (x : Rw) : Ent := (x.2.2[x.2.2.length - 1]?).getD (ByteArray.empty, 0)
def p1 (T : List Rw) (q : Ent → Bool) (t : Nat) : Bool := !q (la ((T[t]?).getD (0, 0, [])))
def p2 (x : Rw) (q : Ent → Bool) (t : Nat) : Bool := !q ((x.2.2[t]?).getD (ByteArray.empty, 0))
theorem la_at {x : Rw} (h : x.2.2 ≠ []) : x.2.2[x.2.2.length - 1]? = some (la x) := by
  have hl : 0 < x.2.2.length := List.length_pos_iff.2 h
  unfold la
  rw [List.getElem?_eq_getElem (by omega)]
  rfl
theorem mo_row {T : List Rw} {q : Ent → Bool} (h : Mo q (flat T)) {i : Nat} {x : Rw} (hi : T[i]? = some x) : x.2.2.Pairwise (fun a b => q b = true → q a = true) := by
  unfold Mo flat at h
  rw [List.pairwise_flatten] at h
  exact h.1 _ (List.mem_map.2 ⟨x, List.mem_of_getElem? hi, rfl⟩)
theorem mo_rows {T : List Rw} {q : Ent → Bool} (h : Mo q (flat T)) {i j : Nat} {x y : Rw} (hij : i < j) (hi : T[i]? = some x) (hj : T[j]? = some y) : ∀ a ∈ x.2.2, ∀ b ∈ y.2.2, q b = true → q a = true := by
  unfold Mo flat at h
  rw [List.pairwise_flatten] at h
  have h2 := h.2
  rw [List.pairwise_map, List.pairwise_iff_getElem] at h2
  obtain ⟨li, ei⟩ := List.getElem?_eq_some_iff.1 hi
  obtain ⟨lj, ej⟩ := List.getElem?_eq_some_iff.1 hj
  have := h2 i j li lj hij
  rw [ei, ej] at this
  exact this
theorem mo_in {l : List Ent} {q : Ent → Bool} (h : l.Pairwise (fun a b => q b = true → q a = true)) {i j : Nat} {a b : Ent} (hij : i ≤ j) (hi : l[i]? = some a) (hj : l[j]? = some b) (hb : q b = true) : q a = true := by
  rcases Nat.lt_or_eq_of_le hij with hlt | rfl
  · rw [List.pairwise_iff_getElem] at h
    obtain ⟨li, ei⟩ := List.getElem?_eq_some_iff.1 hi
    obtain ⟨lj, ej⟩ := List.getElem?_eq_some_iff.1 hj
    have := h i j li lj hlt
    rw [ei, ej] at this
    exact this hb
  · rw [hi] at hj; cases hj; exact hb
theorem la_mem {x : Rw} (h : x.2.2 ≠ []) : la x ∈ x.2.2 := List.mem_of_getElem? (la_at h)
theorem p1_at {T : List Rw} {q : Ent → Bool} {t : Nat} {x : Rw} (h : T[t]? = some x) : p1 T q t = !q (la x) := by unfold p1; rw [h]; rfl
theorem p1_mono {T : List Rw} {q : Ent → Bool} (h : Mo q (flat T)) (hn : ∀ x ∈ T, x.2.2 ≠ []) : ∀ a b, a ≤ b → b < T.length → p1 T q a = true → p1 T q b = true := by
  intro a b hab hb ha
  have xa := List.getElem?_eq_getElem (l := T) (i := a) (by omega)
  have xb := List.getElem?_eq_getElem (l := T) (i := b) hb
  rw [p1_at xa] at ha
  rw [p1_at xb]
  rcases Nat.lt_or_eq_of_le hab with hlt | rfl
  · cases hq : q (la T[b]) with
    | false => rfl
    | true =>
      have := mo_rows h hlt xa xb _ (la_mem (hn _ (List.mem_of_getElem? xa))) _ (la_mem (hn _ (List.mem_of_getElem? xb))) hq
      rw [this] at ha; cases ha
  · exact ha
theorem p2_mono {T : List Rw} {q : Ent → Bool} (h : Mo q (flat T)) {i : Nat} {x : Rw} (hi : T[i]? = some x) : ∀ a b, a ≤ b → b < x.2.2.length → p2 x q a = true → p2 x q b = true := by
  intro a b hab hb ha
  unfold p2 at *
  rw [List.getElem?_eq_getElem (l := x.2.2) (i := a) (by omega)] at ha
  rw [List.getElem?_eq_getElem (l := x.2.2) (i := b) hb]
  cases hq : q ((some x.2.2[b]).getD (ByteArray.empty, 0)) with
  | false => rfl
  | true =>
    have := mo_in (mo_row h hi) hab (List.getElem?_eq_getElem (by omega)) (List.getElem?_eq_getElem hb) hq
    have ha' : (!q x.2.2[a]) = true := ha
    rw [this] at ha'; cases ha'
theorem sk_none {T : List Rw} {q : Ent → Bool} (h : Mo q (flat T)) (hn : ∀ x ∈ T, x.2.2 ≠ []) (hk : ∀ t, t < T.length → p1 T q t = false) : Sk T q T.length 0 := by
  refine .inl ⟨rfl, rfl, fun e he => ?_⟩
  obtain ⟨x, hx, he⟩ := flat_of he
  obtain ⟨i, hi⟩ := List.getElem?_of_mem hx
  have h1 := hk i (List.getElem?_eq_some_iff.1 hi).1
  rw [p1_at hi] at h1
  obtain ⟨j, hj⟩ := List.getElem?_of_mem he
  have hjl := (List.getElem?_eq_some_iff.1 hj).1
  exact mo_in (mo_row h hi) (by omega) hj (la_at (hn x hx)) (by simpa using h1)
theorem sk_some {T : List Rw} {q : Ent → Bool} (h : Mo q (flat T)) (hn : ∀ x ∈ T, x.2.2 ≠ []) {i p : Nat} {x : Rw} (hi : T[i]? = some x) (h1 : ∀ t, t < i → p1 T q t = false) (h2 : p1 T q i = true) (hp : p ≤ x.2.2.length) (h3 : ∀ t, t < p → p2 x q t = false) (h4 : ∀ t, p ≤ t → t < x.2.2.length → p2 x q t = true) : Sk T q i p := by
  have hx := List.mem_of_getElem? hi
  have hla := la_at (hn x hx)
  have hpos : 0 < x.2.2.length := List.length_pos_iff.2 (hn x hx)
  rw [p1_at hi] at h2
  have hpl : p < x.2.2.length := by
    rcases Nat.lt_or_ge p x.2.2.length with hh | hh
    · exact hh
    · have := h3 (x.2.2.length - 1) (by omega)
      unfold p2 at this
      rw [hla] at this
      have h2' : (!q (la x)) = false := this
      rw [h2'] at h2; cases h2
  refine .inr ⟨x, hi, hpl, fun e he => ?_, fun e he => ?_, fun e he => ?_, fun e he => ?_⟩
  · obtain ⟨y, hy, he⟩ := flat_of he
    obtain ⟨j, hj⟩ := List.getElem?_of_mem hy
    rw [List.getElem?_take] at hj
    split at hj
    · rename_i hji
      have q1 := h1 j hji
      rw [p1_at hj] at q1
      obtain ⟨k, hk⟩ := List.getElem?_of_mem he
      have hkl := (List.getElem?_eq_some_iff.1 hk).1
      exact mo_in (mo_row h hj) (by omega) hk (la_at (hn y (List.mem_of_getElem? hj))) (by simpa using q1)
    · cases hj
  · obtain ⟨k, hk⟩ := List.getElem?_of_mem he
    rw [List.getElem?_take] at hk
    split at hk
    · rename_i hkp
      have := h3 k hkp
      unfold p2 at this
      rw [hk] at this
      simpa using this
    · cases hk
  · obtain ⟨k, hk⟩ := List.getElem?_of_mem he
    rw [List.getElem?_drop] at hk
    have := h4 (p + k) (by omega) (List.getElem?_eq_some_iff.1 hk).1
    unfold p2 at this
    rw [hk] at this
    simpa using this
  · obtain ⟨y, hy, he⟩ := flat_of he
    obtain ⟨j, hj⟩ := List.getElem?_of_mem hy
    rw [List.getElem?_drop] at hj
    cases hq : q e with
    | false => rfl
    | true =>
      have := mo_rows h (show i < i + 1 + j by omega) hi hj _ (la_mem (hn x hx)) e he hq
      rw [this] at h2; cases h2
set_option maxRecDepth 100000 in
theorem rseek_any (w : World) (R : Nat) (u0 u1 u3 rv : Value) (T : List Rw) (g : Nat) (cb : Array Value) (q : Ent → Bool) (hL : Lay w R u0 u1 u3 rv T) (hn : ∀ x ∈ T, x.2.2 ≠ []) (hm : ∀ x ∈ T, x.2.2.length ≤ 100000) (ht : T.length ≤ 2000000) (hq : Rch g cb q w) (hM : Mo q (flat T)) :
    Calls Tryz.prog 208 #[.pointer (some ⟨R, 0, none⟩), .func (.func g) #[] cb] w fun e w' => (∃ i p : Nat, e = .returned (.tuple #[.int .i64 i, .int .i64 p]) ∧ Sk T q i p) ∧ Below w.heap.size w w' := by
  obtain ⟨W2, hW2⟩ : ∃ W2, (w.alloc (.cells #[.pointer (some ⟨R, 0, none⟩)] 87)).alloc (.cells #[.func (.func g) #[] cb] 149) = W2 := ⟨_, rfl⟩
  have hb2 : Below w.heap.size w W2 := by rw [← hW2]; exact ((Below.refl _ w).alloc (Nat.le_refl _) _).alloc (by simp) _
  have hs2 : W2.heap.size = w.heap.size + 2 := by rw [← hW2]; simp
  have hr2 : W2.cell? ⟨w.heap.size, 0, none⟩ = some (.pointer (some ⟨R, 0, none⟩)) := by rw [← hW2]; simp
  have hf2 : W2.cell? ⟨w.heap.size + 1, 0, none⟩ = some (.func (.func g) #[] cb) := by rw [← hW2]; simp
  have hL2 := hL.below hb2
  obtain ⟨c0, c1, c2, c3, cf⟩ := four hL2.1
  obtain ⟨o, c, hrv⟩ := hL.2.1.len
  -- the first search
  have hgo : ∀ W : World, Below W2.heap.size W2 W → Lay W R u0 u1 u3 rv T ∧ W.cell? ⟨w.heap.size, 0, none⟩ = some (.pointer (some ⟨R, 0, none⟩)) ∧ W.cell? ⟨w.heap.size + 1, 0, none⟩ = some (.func (.func g) #[] cb) ∧ Below w.heap.size w W := fun W hW =>
    ⟨hL2.below hW, (hW.cell (p := ⟨w.heap.size, 0, none⟩) (by rw [hs2]; show w.heap.size < _; omega)).trans hr2, (hW.cell (p := ⟨w.heap.size + 1, 0, none⟩) (by rw [hs2]; show w.heap.size + 1 < _; omega)).trans hf2, Below.up hb2 hW⟩
  have mS := search_any 243 #[.pointer (some ⟨w.heap.size + 1, 0, none⟩), .pointer (some ⟨w.heap.size, 0, none⟩)] T.length (p1 T q) W2 (enters_of Tryz.func243 (by kernel_rfl) rfl) ht (fun W i hW hi => by
      obtain ⟨hLW, hrW, hfW, hBW⟩ := hgo W hW
      have hx := List.getElem?_eq_getElem (l := T) (i := i) hi
      obtain ⟨gt, ct, rfl, _, _⟩ := hLW.2.1.form (by omega)
      have hxm := List.mem_of_getElem? hx
      have hlen : 0 < (T[i]).2.2.length := List.length_pos_iff.2 (hn _ hxm)
      have hat := (hLW.2.1.2.1 _ hxm).at (la_at (hn _ hxm))
      rw [p1_at hx]
      have := seek1_any W (w.heap.size + 1) w.heap.size R gt T.length ct i (T[i]).1 (T[i]).2.2.length (T[i]).2.1 ((T[i]).2.2.length - 1) (((T[i]).2.2.length - 1) * 2) g cb (la T[i]).1 (la T[i]).2 (!q (la T[i])) hfW hrW (four hLW.1).2.2.1 (hLW.2.1.at hx) hat.1 hat.2 hi (by omega) rfl (hm _ hxm) hq.1 (fun W' hW' => hq.2 (la T[i]) W' (Below.up hBW hW'))
      exact this) (p1_mono hM hn)
  have HL := keep hL
  have HN := keep hn
  have HM := keep hm
  have HQ := keep hq
  have HMo := keep hM
  have HGO := keep hgo
  have HS2 := keep hs2
  clear hb2 hs2 hf2 hr2 hL2 c0 c1 c3 cf hL hn hm hq hM hgo ht
  obtain ⟨n, hn'⟩ : ∃ n, T.length = n := ⟨_, rfl⟩
  rw [hn'] at mS hrv
  have HNN := keep hn'
  subst hrv
  clear hn'
  have cr : W2.cell? ⟨w.heap.size, 0, none⟩ = some (.pointer (some ⟨R, 0, none⟩)) := (HGO.out W2 (Below.refl _ _)).2.1
  have MS := keep mS
  clear mS
  go_enter Tryz.func208, Tryz.ntmps208
  go_wp2_with fail
  try rw [hW2]
  refine MS.out.mono ?_
  rintro _ w1 ⟨⟨k, rfl, hk1, hk2, hk3⟩, hb1⟩
  obtain ⟨W3, hW3⟩ : ∃ W3, w1.alloc (.cells #[.int .i64 (k : Int)] 3) = W3 := ⟨_, rfl⟩
  have hb3 : Below w1.heap.size w1 W3 := by rw [← hW3]; exact (Below.refl _ w1).alloc (Nat.le_refl _) _
  have hb23 : Below W2.heap.size W2 W3 := Below.up hb1 hb3
  obtain ⟨hL3, hr3, hf3, hB3⟩ := HGO.out W3 hb23
  have hi3 : W3.cell? ⟨w1.heap.size, 0, none⟩ = some (.int .i64 (k : Int)) := by rw [← hW3]; simp
  obtain ⟨d0, d1, d2, d3, df⟩ := four hL3.1
  have HS : Kept (W3.drew.cell? ⟨w1.heap.size, 0, none⟩ = some (.int .i64 (k : Int)) ∧ W3.drew.cell? ⟨w.heap.size, 0, none⟩ = some (.pointer (some ⟨R, 0, none⟩)) ∧ W3.drew.cell? ⟨R, 2, none⟩ = some (.slice o n c)) := ⟨hi3, hr3, d2⟩
  have HB1 := keep hb1
  have HL3 := keep hL3
  have HF3 := keep hf3
  have HB3 := keep hB3
  have HB23 := keep hb23
  have HK2 := keep hk2
  have HK3 := keep hk3
  have HK1 := keep hk1
  clear hb1 hb3 hb23 hL3 hr3 hf3 hB3 hi3 d0 d1 d2 d3 df hk1 hk2 hk3 MS
  go_wp2_with fail
  try rw [hW3]
  by_cases hkn : k = n
  · have hke : ((k : Int) == (n : Int)) = true := beq_iff_eq.2 (by omega)
    refine wp_region_held_drew (S := fun W => W.cell? ⟨w1.heap.size, 0, none⟩ = some (.int .i64 (k : Int)) ∧ W.cell? ⟨w.heap.size, 0, none⟩ = some (.pointer (some ⟨R, 0, none⟩)) ∧ W.cell? ⟨R, 2, none⟩ = some (.slice o n c)) (by kernel_rfl) HS.out (fun hHeld => ?_)
    refine wpAnyH_take (i := 0) (oi := ⟨some 14, _, _, _, _, _⟩) (v := ?v107) rfl (by kernel_rfl) (by kernel_rfl) (by kernel_rfl) (fun _ _ _ h => h) (Or.inl ⟨by rfl, ?hy107⟩) (by assumption) ?rest107
    case hy107 => (intro w hSw; obtain ⟨p0,p1,p2⟩ := hSw; go_simp; try with_reducible rfl)
    try simp only [Act.put, List.setIfInBounds_toArray, List.set_cons_zero, List.set_cons_succ]
    refine wpAnyH_take (i := 1) (oi := ⟨some 15, _, _, _, _, _⟩) (v := ?v108) rfl (by kernel_rfl) (by kernel_rfl) (by kernel_rfl) (fun _ _ _ h => h) (Or.inl ⟨by rfl, ?hy108⟩) (by assumption) ?rest108
    case hy108 => (intro w hSw; obtain ⟨p0,p1,p2⟩ := hSw; go_simp; try with_reducible rfl)
    try simp only [Act.put, List.setIfInBounds_toArray, List.set_cons_zero, List.set_cons_succ]
    refine wpAnyH_take (i := 2) (oi := ⟨some 16, _, _, _, _, _⟩) (v := ?v109) rfl (by kernel_rfl) (by kernel_rfl) (by kernel_rfl) (fun _ _ _ h => h) (Or.inl ⟨by rfl, ?hy109⟩) (by assumption) ?rest109
    case hy109 => (intro w hSw; obtain ⟨p0,p1,p2⟩ := hSw; go_simp; try with_reducible rfl)
    try simp only [Act.put, List.setIfInBounds_toArray, List.set_cons_zero, List.set_cons_succ]
    refine wpAnyH_take (i := 3) (oi := ⟨some 17, _, _, _, _, _⟩) (v := ?v110) rfl (by kernel_rfl) (by kernel_rfl) (by kernel_rfl) (fun _ _ _ h => h) (Or.inl ⟨by rfl, ?hy110⟩) (by assumption) ?rest110
    case hy110 => (intro w hSw; obtain ⟨p0,p1,p2⟩ := hSw; go_simp; try with_reducible rfl)
    try simp only [Act.put, List.setIfInBounds_toArray, List.set_cons_zero, List.set_cons_succ]
    refine wpAnyH_take (i := 4) (oi := ⟨some 18, _, _, _, _, _⟩) (v := ?v111) rfl (by kernel_rfl) (by kernel_rfl) (by kernel_rfl) (fun _ _ _ h => h) (Or.inl ⟨by rfl, ?hy111⟩) (by assumption) ?rest111
    case hy111 => (intro w hSw; obtain ⟨p0,p1,p2⟩ := hSw; go_simp; try with_reducible rfl)
    try simp only [Act.put, List.setIfInBounds_toArray, List.set_cons_zero, List.set_cons_succ]
    refine wpAnyH_take (i := 5) (oi := ⟨some 19, _, _, _, _, _⟩) (v := (.int .i64 (n : Int))) rfl (by kernel_rfl) (by kernel_rfl) (by kernel_rfl) (fun _ _ _ h => h) (Or.inl ⟨by rfl, ?hy112⟩) (by assumption) ?rest112
    case hy112 => (intro w hSw; obtain ⟨p0,p1,p2⟩ := hSw; first | (go_simp; done) | (go_simp; simp [*]; done) | (simp [*]; go_simp; done))
    try simp only [Act.put, List.setIfInBounds_toArray, List.set_cons_zero, List.set_cons_succ]
    refine wpAnyH_take (i := 6) (oi := ⟨some 20, _, _, _, _, _⟩) (v := (.bool true)) rfl (by kernel_rfl) (by kernel_rfl) (by kernel_rfl) (fun _ _ _ h => h) (Or.inl ⟨by rfl, ?hy113⟩) (by assumption) ?rest113
    case hy113 => (intro w hSw; obtain ⟨p0,p1,p2⟩ := hSw; first | (go_simp; done) | (go_simp; simp [*]; done) | (simp [*]; go_simp; done))
    try simp only [Act.put, List.setIfInBounds_toArray, List.set_cons_zero, List.set_cons_succ]
    refine wpAnyH_done (by kernel_rfl) ?_ _
    have hi4 := HS.out.1
    clear hHeld
    go_wp2
    refine bodyPost_ret (results_tmp2 rfl _ _ _) rfl ?_
    refine ⟨⟨n, 0, rfl, ?_⟩, HB3.out.drew⟩
    rw [← HNN.out]
    exact sk_none HMo.out HN.out (fun t ht => HK2.out t (by rw [hkn, ← HNN.out]; exact ht))
  · have hke : ((k : Int) == (n : Int)) = false := beq_eq_false_iff_ne.2 (by omega)
    refine wp_region_held_drew (S := fun W => W.cell? ⟨w1.heap.size, 0, none⟩ = some (.int .i64 (k : Int)) ∧ W.cell? ⟨w.heap.size, 0, none⟩ = some (.pointer (some ⟨R, 0, none⟩)) ∧ W.cell? ⟨R, 2, none⟩ = some (.slice o n c)) (by kernel_rfl) HS.out (fun hHeld => ?_)
    refine wpAnyH_take (i := 0) (oi := ⟨some 14, _, _, _, _, _⟩) (v := ?v114) rfl (by kernel_rfl) (by kernel_rfl) (by kernel_rfl) (fun _ _ _ h => h) (Or.inl ⟨by rfl, ?hy114⟩) (by assumption) ?rest114
    case hy114 => (intro w hSw; obtain ⟨p0,p1,p2⟩ := hSw; go_simp; try with_reducible rfl)
    try simp only [Act.put, List.setIfInBounds_toArray, List.set_cons_zero, List.set_cons_succ]
    refine wpAnyH_take (i := 1) (oi := ⟨some 15, _, _, _, _, _⟩) (v := ?v115) rfl (by kernel_rfl) (by kernel_rfl) (by kernel_rfl) (fun _ _ _ h => h) (Or.inl ⟨by rfl, ?hy115⟩) (by assumption) ?rest115
    case hy115 => (intro w hSw; obtain ⟨p0,p1,p2⟩ := hSw; go_simp; try with_reducible rfl)
    try simp only [Act.put, List.setIfInBounds_toArray, List.set_cons_zero, List.set_cons_succ]
    refine wpAnyH_take (i := 2) (oi := ⟨some 16, _, _, _, _, _⟩) (v := ?v116) rfl (by kernel_rfl) (by kernel_rfl) (by kernel_rfl) (fun _ _ _ h => h) (Or.inl ⟨by rfl, ?hy116⟩) (by assumption) ?rest116
    case hy116 => (intro w hSw; obtain ⟨p0,p1,p2⟩ := hSw; go_simp; try with_reducible rfl)
    try simp only [Act.put, List.setIfInBounds_toArray, List.set_cons_zero, List.set_cons_succ]
    refine wpAnyH_take (i := 3) (oi := ⟨some 17, _, _, _, _, _⟩) (v := ?v117) rfl (by kernel_rfl) (by kernel_rfl) (by kernel_rfl) (fun _ _ _ h => h) (Or.inl ⟨by rfl, ?hy117⟩) (by assumption) ?rest117
    case hy117 => (intro w hSw; obtain ⟨p0,p1,p2⟩ := hSw; go_simp; try with_reducible rfl)
    try simp only [Act.put, List.setIfInBounds_toArray, List.set_cons_zero, List.set_cons_succ]
    refine wpAnyH_take (i := 4) (oi := ⟨some 18, _, _, _, _, _⟩) (v := ?v118) rfl (by kernel_rfl) (by kernel_rfl) (by kernel_rfl) (fun _ _ _ h => h) (Or.inl ⟨by rfl, ?hy118⟩) (by assumption) ?rest118
    case hy118 => (intro w hSw; obtain ⟨p0,p1,p2⟩ := hSw; go_simp; try with_reducible rfl)
    try simp only [Act.put, List.setIfInBounds_toArray, List.set_cons_zero, List.set_cons_succ]
    refine wpAnyH_take (i := 5) (oi := ⟨some 19, _, _, _, _, _⟩) (v := (.int .i64 (n : Int))) rfl (by kernel_rfl) (by kernel_rfl) (by kernel_rfl) (fun _ _ _ h => h) (Or.inl ⟨by rfl, ?hy119⟩) (by assumption) ?rest119
    case hy119 => (intro w hSw; obtain ⟨p0,p1,p2⟩ := hSw; first | (go_simp; done) | (go_simp; simp [*]; done) | (simp [*]; go_simp; done))
    try simp only [Act.put, List.setIfInBounds_toArray, List.set_cons_zero, List.set_cons_succ]
    refine wpAnyH_take (i := 6) (oi := ⟨some 20, _, _, _, _, _⟩) (v := (.bool false)) rfl (by kernel_rfl) (by kernel_rfl) (by kernel_rfl) (fun _ _ _ h => h) (Or.inl ⟨by rfl, ?hy120⟩) (by assumption) ?rest120
    case hy120 => (intro w hSw; obtain ⟨p0,p1,p2⟩ := hSw; first | (go_simp; done) | (go_simp; simp [*]; done) | (simp [*]; go_simp; done))
    try simp only [Act.put, List.setIfInBounds_toArray, List.set_cons_zero, List.set_cons_succ]
    refine wpAnyH_done (by kernel_rfl) ?_ _
    clear hHeld
    have hkl : k < n := by have := HK1.out; omega
    obtain ⟨x, hx⟩ : ∃ x, T[k]? = some x := ⟨_, List.getElem?_eq_getElem (by rw [HNN.out]; exact hkl)⟩
    obtain ⟨gt, ct, hrv, _, _⟩ := HL3.out.2.1.form (by rw [HNN.out]; omega)
    rw [HNN.out] at hrv
    cases hrv
    have hxm := List.mem_of_getElem? hx
    obtain ⟨gx, cx, lx⟩ := x
    obtain ⟨nx, hnx⟩ : ∃ nx, lx.length = nx := ⟨_, rfl⟩
    have mS2 := search_any 244 #[.pointer (some ⟨w.heap.size + 1, 0, none⟩), .pointer (some ⟨w.heap.size, 0, none⟩), .pointer (some ⟨w1.heap.size, 0, none⟩)] nx (Go.Proofs.YtmgeaanbgjbkcaaGreat.DF.p2 (gx, cx, lx) q) W3.drew.drew (enters_of Tryz.func244 (by kernel_rfl) rfl) (by have := HM.out _ hxm; dsimp only at this; omega) (fun W i hW hi => by
        have hW' : Below W3.heap.size W3 W := ((Below.refl _ W3).drew.drew).trans hW
        obtain ⟨hLW, hrW, hfW, hBW⟩ := HGO.out W (Below.up HB23.out hW')
        rw [← hnx] at hi
        have hl0 := List.getElem?_eq_getElem hi
        have hat := (hLW.2.1.2.1 _ hxm).at (j := i) (e := lx[i]) hl0
        have hiW : W.cell? ⟨w1.heap.size, 0, none⟩ = some (.int .i64 (k : Int)) := (hW'.cell (p := ⟨w1.heap.size, 0, none⟩) (World.block_lt_of_cell? _ _ HS.out.1)).trans HS.out.1
        have e2 : Go.Proofs.YtmgeaanbgjbkcaaGreat.DF.p2 (gx, cx, lx) q i = !q lx[i] := by unfold Go.Proofs.YtmgeaanbgjbkcaaGreat.DF.p2; rw [hl0]; rfl
        rw [e2]
        exact seek2_any W (w.heap.size + 1) w.heap.size w1.heap.size R gt n c k gx lx.length cx i (i * 2) g cb lx[i].1 lx[i].2 (!q lx[i]) hfW hrW hiW (four hLW.1).2.2.1 (hLW.2.1.at hx) hat.1 hat.2 hkl hi rfl HQ.out.1 (fun W' hW' => HQ.out.2 lx[i] W' (Below.up hBW hW'))) (by have := p2_mono HMo.out hx; rw [← hnx]; exact this)
    have hT3 : W3.drew.drew.cell? ⟨gt, k, none⟩ = some (.slice (some ⟨gx, 0, none⟩) nx cx) := by have := HL3.out.2.1.at hx; unfold rwV at this; dsimp only at this; rw [hnx] at this; exact this
    have HS3 : Kept (W3.drew.drew.cell? ⟨w1.heap.size, 0, none⟩ = some (.int .i64 (k : Int)) ∧ W3.drew.drew.cell? ⟨w.heap.size, 0, none⟩ = some (.pointer (some ⟨R, 0, none⟩)) ∧ W3.drew.drew.cell? ⟨R, 2, none⟩ = some (.slice (some ⟨gt, 0, none⟩) n c) ∧ W3.drew.drew.cell? ⟨gt, k, none⟩ = some (.slice (some ⟨gx, 0, none⟩) nx cx)) := ⟨HS.out.1, HS.out.2.1, HS.out.2.2, hT3⟩
    have HX := keep hx
    have HNX := keep hnx
    have MS2 := keep mS2
    have k0 : (0 : Int) ≤ (k : Int) := by omega
    have k1 : (k : Int) < (n : Int) := by omega
    have HKL := keep hkl
    clear hx hnx mS2 hxm hT3 hkl hkn
    go_wp2_with fail
    refine wp_region_held_drew (S := fun W => W.cell? ⟨w1.heap.size, 0, none⟩ = some (.int .i64 (k : Int)) ∧ W.cell? ⟨w.heap.size, 0, none⟩ = some (.pointer (some ⟨R, 0, none⟩)) ∧ W.cell? ⟨R, 2, none⟩ = some (.slice (some ⟨gt, 0, none⟩) n c) ∧ W.cell? ⟨gt, k, none⟩ = some (.slice (some ⟨gx, 0, none⟩) nx cx)) (by kernel_rfl) HS3.out (fun hHeld => ?_)
    refine wpAnyH_take (i := 0) (oi := ⟨some 22, _, _, _, _, _⟩) (v := ?v121) rfl (by kernel_rfl) (by kernel_rfl) (by kernel_rfl) (fun _ _ _ h => h) (Or.inl ⟨by rfl, ?hy121⟩) (by assumption) ?rest121
    case hy121 => (intro w hSw; obtain ⟨p0,p1,p2,p3⟩ := hSw; go_simp; try with_reducible rfl)
    try simp only [Act.put, List.setIfInBounds_toArray, List.set_cons_zero, List.set_cons_succ]
    refine wpAnyH_take (i := 1) (oi := ⟨some 23, _, _, _, _, _⟩) (v := ?v122) rfl (by kernel_rfl) (by kernel_rfl) (by kernel_rfl) (fun _ _ _ h => h) (Or.inl ⟨by rfl, ?hy122⟩) (by assumption) ?rest122
    case hy122 => (intro w hSw; obtain ⟨p0,p1,p2,p3⟩ := hSw; go_simp; try with_reducible rfl)
    try simp only [Act.put, List.setIfInBounds_toArray, List.set_cons_zero, List.set_cons_succ]
    refine wpAnyH_take (i := 2) (oi := ⟨some 24, _, _, _, _, _⟩) (v := ?v123) rfl (by kernel_rfl) (by kernel_rfl) (by kernel_rfl) (fun _ _ _ h => h) (Or.inl ⟨by rfl, ?hy123⟩) (by assumption) ?rest123
    case hy123 => (intro w hSw; obtain ⟨p0,p1,p2,p3⟩ := hSw; go_simp; try with_reducible rfl)
    try simp only [Act.put, List.setIfInBounds_toArray, List.set_cons_zero, List.set_cons_succ]
    refine wpAnyH_take (i := 3) (oi := ⟨some 25, _, _, _, _, _⟩) (v := ?v124) rfl (by kernel_rfl) (by kernel_rfl) (by kernel_rfl) (fun _ _ _ h => h) (Or.inl ⟨by rfl, ?hy124⟩) (by assumption) ?rest124
    case hy124 => (intro w hSw; obtain ⟨p0,p1,p2,p3⟩ := hSw; go_simp; try with_reducible rfl)
    try simp only [Act.put, List.setIfInBounds_toArray, List.set_cons_zero, List.set_cons_succ]
    refine wpAnyH_take (i := 4) (oi := ⟨some 26, _, _, _, _, _⟩) (v := ?v125) rfl (by kernel_rfl) (by kernel_rfl) (by kernel_rfl) (fun _ _ _ h => h) (Or.inl ⟨by rfl, ?hy125⟩) (by assumption) ?rest125
    case hy125 => (intro w hSw; obtain ⟨p0,p1,p2,p3⟩ := hSw; go_simp; try with_reducible rfl)
    try simp only [Act.put, List.setIfInBounds_toArray, List.set_cons_zero, List.set_cons_succ]
    refine wpAnyH_take (i := 5) (oi := ⟨some 27, _, _, _, _, _⟩) (v := ?v126) rfl (by kernel_rfl) (by kernel_rfl) (by kernel_rfl) (fun _ _ _ h => h) (Or.inl ⟨by rfl, ?hy126⟩) (by assumption) ?rest126
    case hy126 => (intro w hSw; obtain ⟨p0,p1,p2,p3⟩ := hSw; go_simp; try with_reducible rfl)
    try simp only [Act.put, List.setIfInBounds_toArray, List.set_cons_zero, List.set_cons_succ]
    refine wpAnyH_take (i := 6) (oi := ⟨some 28, _, _, _, _, _⟩) (v := (.pointer (some ⟨gt, k, none⟩))) rfl (by kernel_rfl) (by kernel_rfl) (by kernel_rfl) (fun _ _ _ h => h) (Or.inl ⟨by rfl, ?hy127⟩) (by assumption) ?rest127
    case hy127 => (intro w hSw; obtain ⟨p0,p1,p2,p3⟩ := hSw; first | (go_simp; done) | (go_simp; simp [*]; done) | (simp [*]; go_simp; done))
    try simp only [Act.put, List.setIfInBounds_toArray, List.set_cons_zero, List.set_cons_succ]
    refine wpAnyH_take (i := 7) (oi := ⟨some 29, _, _, _, _, _⟩) (v := ?v128) rfl (by kernel_rfl) (by kernel_rfl) (by kernel_rfl) (fun _ _ _ h => h) (Or.inl ⟨by rfl, ?hy128⟩) (by assumption) ?rest128
    case hy128 => (intro w hSw; obtain ⟨p0,p1,p2,p3⟩ := hSw; go_simp; try with_reducible rfl)
    try simp only [Act.put, List.setIfInBounds_toArray, List.set_cons_zero, List.set_cons_succ]
    refine wpAnyH_take (i := 8) (oi := ⟨some 30, _, _, _, _, _⟩) (v := (.int .i64 (nx : Int))) rfl (by kernel_rfl) (by kernel_rfl) (by kernel_rfl) (fun _ _ _ h => h) (Or.inl ⟨by rfl, ?hy129⟩) (by assumption) ?rest129
    case hy129 => (intro w hSw; obtain ⟨p0,p1,p2,p3⟩ := hSw; first | (go_simp; done) | (go_simp; simp [*]; done) | (simp [*]; go_simp; done))
    try simp only [Act.put, List.setIfInBounds_toArray, List.set_cons_zero, List.set_cons_succ]
    refine wpAnyH_take (i := 9) (oi := ⟨some 31, _, _, _, _, _⟩) (v := ?v130) rfl (by kernel_rfl) (by kernel_rfl) (by kernel_rfl) (fun _ _ _ h => h) (Or.inl ⟨by rfl, ?hy130⟩) (by assumption) ?rest130
    case hy130 => (intro w hSw; obtain ⟨p0,p1,p2,p3⟩ := hSw; go_simp; try with_reducible rfl)
    try simp only [Act.put, List.setIfInBounds_toArray, List.set_cons_zero, List.set_cons_succ]
    refine wpAnyH_ready (rs := [10]) (by kernel_rfl) (by simp) ?_
    refine AllReadyH.cons (o := ⟨some 32, _, _, _, _, _⟩) rfl (fun K hK => ?_) AllReadyH.nil
    go_simp
    refine MS2.out.mono ?_
    rintro _ w4 ⟨⟨p, rfl, hp1, hp2, hp3⟩, hb4⟩
    have hlt : ∀ {a : Addr} {u : Value}, W3.drew.drew.cell? a = some u → w4.cell? a = some u := fun {a u} h => (hb4.cell (p := a) (World.block_lt_of_cell? _ _ h)).trans h
    have HP1 := keep hp1
    have HP2 := keep hp2
    have HP3 := keep hp3
    have HB4 := keep hb4
    refine hK.out _ _ ⟨hlt HS3.out.1, hlt HS3.out.2.1, hlt HS3.out.2.2.1, hlt HS3.out.2.2.2⟩ (fun hHeld => ?_)
    try simp only [Act.put, List.setIfInBounds_toArray, List.set_cons_zero, List.set_cons_succ]
    clear hK hlt hp1 hp2 hp3 hb4
    refine wpAnyH_take (i := 11) (oi := ⟨some 4, _, _, _, _, _⟩) (v := ?v131) rfl (by kernel_rfl) (by kernel_rfl) (by kernel_rfl) (fun _ _ _ h => h) (Or.inl ⟨by rfl, ?hy131⟩) (by assumption) ?rest131
    case hy131 => (intro w hSw; go_simp; try with_reducible rfl)
    try simp only [Act.put, List.setIfInBounds_toArray, List.set_cons_zero, List.set_cons_succ]
    refine wpAnyH_take (i := 12) (oi := ⟨some 5, _, _, _, _, _⟩) (v := ?v132) rfl (by kernel_rfl) (by kernel_rfl) (by kernel_rfl) (fun _ _ _ h => h) (Or.inl ⟨by rfl, ?hy132⟩) (by assumption) ?rest132
    case hy132 => (intro w hSw; go_simp; try with_reducible rfl)
    try simp only [Act.put, List.setIfInBounds_toArray, List.set_cons_zero, List.set_cons_succ]
    refine wpAnyH_done (by kernel_rfl) ?_ _
    clear hHeld HS HS3 MS2
    go_wp2
    refine bodyPost_ret (results_tmp2 rfl _ _ _) rfl ?_
    refine ⟨⟨k, p, rfl, ?_⟩, HB3.out.trans ?_⟩
    · exact sk_some HMo.out HN.out HX.out HK2.out (HK3.out k (Nat.le_refl _) HKL.out) (by rw [← HNX.out] at HP1; exact HP1.out) HP2.out (by rw [← HNX.out] at HP3; exact HP3.out)
    · have hb := HB4.out
      exact ⟨hb.os, hb.tape, hb.output, hb.size, fun j hj => hb.block j (Nat.lt_of_lt_of_le hj HB3.out.size)⟩
def cntA (T : List Rw) (i : Nat) : Nat := (flat (T.take i)).length
theorem cntA_succ {T : List Rw} {i : Nat} {x : Rw} (h : T[i]? = some x) : cntA T (i + 1) = cntA T i + x.2.2.length := by
  unfold cntA
  have hl := (List.getElem?_eq_some_iff.1 h).1
  rw [List.take_add_one, h, flat_app, List.length_append]
  show _ + (flat [x]).length = _
  rw [flat_cons, flat_nil, List.append_nil]
theorem flat_take_le (T : List Rw) (i : Nat) : cntA T i ≤ (flat T).length := by
  have : flat T = flat (T.take i) ++ flat (T.drop i) := by rw [← flat_app, List.take_append_drop]
  unfold cntA
  rw [this, List.length_append]; omega
end Go.Proofs.YtmgeaanbgjbkcaaGreat.DF
