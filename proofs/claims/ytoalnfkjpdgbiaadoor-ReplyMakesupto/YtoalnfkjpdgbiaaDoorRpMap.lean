/-
  A map whose keys are places of lists: what it holds, asked and noted.
-/
import Derived.Test.YtoalnfkjpdgbiaaDoorRpHead
import Derived.LaidEql
import Derived.Carry
namespace Go.Proofs.YtoalnfkjpdgbiaaDoor
open Go.RowKit
set_option linter.unusedVariables false
abbrev Spot : Type := Nat × Nat
def keyV (s : Spot) : Value := .agg #[.pointer (some ⟨s.1, 0, none⟩), .int .i64 (s.2 : Int)]
theorem stood : Tryd.prog.stoodInHeld 91 = false := by kernel_rfl
theorem addr_run {w : World} {a b : Nat} (ha : Lv w a) (hb : Lv w b) : (sameAddr ⟨a, 0, none⟩ ⟨b, 0, none⟩).run Tryd.prog w = .ok (decide (a = b)) w := by
  by_cases e : a = b
  · subst e; rw [run_sameAddr_same]; simp
  · obtain ⟨c1, t1, h1⟩ := ha
    obtain ⟨c2, t2, h2⟩ := hb
    rw [run_sameAddr_other w (fun x => e (by cases x; rfl)) h1 h2, decide_eq_false e]
theorem equal_key {w : World} (s s' : Spot) (h : Lv w s.1) (h' : Lv w s'.1) : (Op.equal 91 (keyV s) (keyV s')).run Tryd.prog w = .ok (decide (s = s')) w := by
  have hp := addr_run h h'
  have hs := stood
  have h0 : ∀ w, (Go.sizeOf 25).run Tryd.prog w = .ok 4 w := fun w => by kernel_rfl
  show (Op.equalIn (9998 + 1 + 1) 91 (keyV s) (keyV s')).run Tryd.prog w = _
  unfold keyV
  unfold Op.equalIn
  have p0 : ∀ (x y : Value) w, (part 89 #[x, y] 0).run Tryd.prog w = .ok x w := fun x y w => by kernel_rfl
  have p1 : ∀ (x y : Value) w, (part 3 #[x, y] 1).run Tryd.prog w = .ok y w := fun x y w => by kernel_rfl
  have e0 : (Op.equalIn 9999 89 (.pointer (some ⟨s.1, 0, none⟩)) (.pointer (some ⟨s'.1, 0, none⟩))).run Tryd.prog w = .ok (decide (s.1 = s'.1)) w := by
    show (Op.equalIn (9998 + 1) _ _ _).run _ _ = _
    unfold Op.equalIn
    simp [run_underlying Tryd.underlying89, h0, hp]
  have e1 : ∀ w, (Op.equalIn 9999 3 (.int .i64 (s.2 : Int)) (.int .i64 (s'.2 : Int))).run Tryd.prog w = .ok (decide (s.2 = s'.2)) w := fun w => by
    show (Op.equalIn (9998 + 1) _ _ _).run _ _ = _
    unfold Op.equalIn
    simp [run_underlying Tryd.underlying3]
    rw [Bool.eq_iff_iff]; simp; omega
  simp only [Sem.run_bind, run_underlying Tryd.underlying91, Result.andThen_ok]
  simp [hs, p0, p1, e0, e1]
  by_cases q1 : s.1 = s'.1
  · by_cases q2 : s.2 = s'.2
    · have : s = s' := Prod.ext q1 q2
      simp [this]
    · have : s ≠ s' := fun e => q2 (by rw [e])
      simp [q1, q2, this]
  · have : s ≠ s' := fun e => q1 (by rw [e])
    simp [q1, this]
theorem check_key (em : Bool) (w : World) (s : Spot) : (Instr.checkKey em 10000 91 (keyV s)).run Tryd.prog w = .ok () w := by
  unfold keyV
  have p0 : ∀ (x y : Value) w, (part 89 #[x, y] 0).run Tryd.prog w = .ok x w := fun x y w => by kernel_rfl
  have p1 : ∀ (x y : Value) w, (part 3 #[x, y] 1).run Tryd.prog w = .ok y w := fun x y w => by kernel_rfl
  have e0 : ∀ w, (Instr.checkKey em 9999 89 (.pointer (some ⟨s.1, 0, none⟩))).run Tryd.prog w = .ok () w := fun w => by
    show (Instr.checkKey em (9998 + 1) _ _).run _ _ = _
    unfold Instr.checkKey
    simp [run_underlying Tryd.underlying89]
  have e1 : ∀ w, (Instr.checkKey em 9999 3 (.int .i64 (s.2 : Int))).run Tryd.prog w = .ok () w := fun w => by
    show (Instr.checkKey em (9998 + 1) _ _).run _ _ = _
    unfold Instr.checkKey
    simp [run_underlying Tryd.underlying3]
  show (Instr.checkKey em (9998 + 1 + 1) _ _).run _ _ = _
  unfold Instr.checkKey
  simp only [Sem.run_bind, run_underlying Tryd.underlying91, Result.andThen_ok]
  simp [p0, p1, e0, e1]
/-- what is noted of a place, first of all -/
def noted : List (Spot × Int) → Spot → Int
  | [], _ => 0
  | (k, d) :: l, s => if s = k then d else noted l s
def findL : List (Spot × Int) → Spot → Nat → Option (Nat × Value)
  | [], _, _ => none
  | (k, d) :: l, s, i => if s = k then some (i, .int .i64 d) else findL l s (i + 1)
/-- what a map holds, entry by entry -/
def Ents (w : World) : List MapEntry → List (Spot × Int) → Prop
  | [], L => L = []
  | e :: es, L => ∃ k d L', L = (k, d) :: L' ∧ e.key = keyV k ∧ e.val = .int .i64 d ∧ Lv w k.1 ∧ Ents w es L'
def Mp (w : World) (r : Nat) (L : List (Spot × Int)) : Prop := ∃ es c, w.heap[r]? = some (.map es c) ∧ Ents w es.toList L
theorem Ents.mono {w w' : World} (h : ∀ b, Lv w b → Lv w' b) : ∀ {es : List MapEntry} {L : List (Spot × Int)}, Ents w es L → Ents w' es L
  | [], _, g => g
  | _ :: _, _, ⟨k, d, L', h1, h2, h3, h4, h5⟩ => ⟨k, d, L', h1, h2, h3, h _ h4, Ents.mono h h5⟩
theorem ask_run {w : World} (s : Spot) (hs : Lv w s.1) : ∀ (es : List MapEntry) (L : List (Spot × Int)) (i : Nat), Ents w es L → (Instr.findAsking 91 (keyV s) es i).run Tryd.prog w = .ok (findL L s i) w
  | [], L, i, h => by
    have h' : L = [] := h
    subst h'; rfl
  | e :: es, L, i, h => by
    obtain ⟨k, d, L', rfl, h2, h3, h4, h5⟩ := h
    have ih := ask_run s hs es L' (i + 1) h5
    have he := equal_key s k hs h4
    unfold Instr.findAsking
    rw [Sem.run_bind, h2, he, Result.andThen_ok, h3]
    unfold findL
    by_cases q : s = k
    · rw [if_pos q, decide_eq_true q]; rfl
    · rw [if_neg q, decide_eq_false q]; simpa using ih
theorem find_run {w : World} (s : Spot) (hs : Lv w s.1) (es : List MapEntry) (L : List (Spot × Int)) (h : Ents w es L) : (Instr.findKey 91 (keyV s) es).run Tryd.prog w = .ok (findL L s 0) w := by
  unfold Instr.findKey
  rw [Sem.run_bind, run_underlying Tryd.underlying91, Result.andThen_ok]
  cases es with
  | nil =>
    have h' : L = [] := h
    subst h'; rfl
  | cons e es =>
    have := ask_run s hs (e :: es) L 0 h
    simpa [Instr.findNow, Instr.sameNow, keyV] using this
theorem findL_noted : ∀ (L : List (Spot × Int)) (s : Spot) (i : Nat), (findL L s i = none ∧ noted L s = 0) ∨ ∃ j, findL L s i = some (i + j, .int .i64 (noted L s)) ∧ j < L.length ∧ ∀ d, noted (L.set j (s, d)) s = d ∧ ∀ s', s' ≠ s → noted (L.set j (s, d)) s' = noted L s'
  | [], s, i => .inl ⟨rfl, rfl⟩
  | (k, d) :: L, s, i => by
    unfold findL noted
    by_cases q : s = k
    · subst q
      rw [if_pos rfl, if_pos rfl]
      refine .inr ⟨0, rfl, by simp, fun d' => ⟨by simp, fun s' hs' => ?_⟩⟩
      simp [hs']
    · rw [if_neg q, if_neg q]
      rcases findL_noted L s (i + 1) with h | ⟨j, h1, h2, h3⟩
      · exact .inl h
      · refine .inr ⟨j + 1, by rw [h1]; congr 2; omega, by simpa using h2, fun d' => ⟨?_, fun s' hs' => ?_⟩⟩
        · simp only [List.set_cons_succ, if_neg q]; exact (h3 d').1
        · simp only [List.set_cons_succ]
          by_cases q' : s' = k
          · rw [if_pos q', if_pos q']
          · rw [if_neg q', if_neg q']; exact (h3 d').2 s' hs'
theorem noted_snoc (L : List (Spot × Int)) (s : Spot) (d : Int) (h : ∀ i, findL L s i = none) : noted (L ++ [(s, d)]) s = d ∧ ∀ s', s' ≠ s → noted (L ++ [(s, d)]) s' = noted L s' := by
  induction L with
  | nil => exact ⟨by simp [noted], fun s' hs' => by simp [noted, hs']⟩
  | cons a L ih =>
    obtain ⟨k, d0⟩ := a
    have hk : s ≠ k := fun e => by have := h 0; unfold findL at this; rw [if_pos e] at this; cases this
    have ht : ∀ i, findL L s i = none := fun i => by
      cases i with
      | zero =>
        have h1 := h 0
        unfold findL at h1; rw [if_neg hk] at h1
        rcases findL_noted L s 0 with g | ⟨j, g, _⟩
        · exact g.1
        · rcases findL_noted L s 1 with g' | ⟨j', g', _⟩
          · exfalso
            have : ∀ (L : List (Spot × Int)) a b, findL L s a = none → findL L s b = none := by
              intro L
              induction L with
              | nil => intro _ _ _; rfl
              | cons x L ih2 =>
                intro a b hx
                obtain ⟨x1, x2⟩ := x
                unfold findL at hx ⊢
                by_cases e : s = x1
                · rw [if_pos e] at hx; cases hx
                · rw [if_neg e] at hx ⊢; exact ih2 _ _ hx
            rw [this L 1 0 g'.1] at g; cases g
          · rw [g'] at h1; cases h1
      | succ i => have h1 := h i; unfold findL at h1; rw [if_neg hk] at h1; exact h1
    obtain ⟨i1, i2⟩ := ih ht
    refine ⟨by simp only [List.cons_append, noted, if_neg hk]; exact i1, fun s' hs' => ?_⟩
    simp only [List.cons_append, noted]
    rw [i2 s' hs']
/-- what is noted of a place, asked of the map -/
theorem lookup_run {w : World} {r : Nat} {L : List (Spot × Int)} (h : Mp w r L) (s : Spot) (hs : Lv w s.1) : (Instr.lookup 71 (.map (some r)) (keyV s) false).run Tryd.prog w = .ok (.int .i64 (noted L s)) w := by
  obtain ⟨es, c, h1, h2⟩ := h
  have hf := find_run s hs es.toList L h2
  have hz : ∀ w, (zeroValue 3).run Tryd.prog w = .ok (.int .i64 0) w := fun w => by kernel_rfl
  unfold Instr.lookup
  simp only [Sem.run_bind, run_underlying Tryd.underlying71, Result.andThen_ok]
  simp [MapKept.run_getObj_map h1, check_key, hf]
  rcases findL_noted L s 0 with ⟨g1, g2⟩ | ⟨j, g1, _⟩
  · rw [g1, g2]; simp [hz]
  · rw [g1]; simp
theorem Ents.len {w : World} : ∀ {es : List MapEntry} {L : List (Spot × Int)}, Ents w es L → es.length = L.length
  | [], L, h => by have h' : L = [] := h; subst h'; rfl
  | _ :: es, L, ⟨k, d, L', h1, _, _, _, h5⟩ => by subst h1; simp [Ents.len h5]
theorem Ents.snoc {w : World} (s : Spot) (d : Int) (n : Nat) (hs : Lv w s.1) : ∀ {es : List MapEntry} {L : List (Spot × Int)}, Ents w es L → Ents w (es ++ [{ key := keyV s, val := .int .i64 d, born := n }]) (L ++ [(s, d)])
  | [], L, h => by have h' : L = [] := h; subst h'; exact ⟨s, d, [], rfl, rfl, rfl, hs, rfl⟩
  | e :: es, L, ⟨k, d', L', h1, h2, h3, h4, h5⟩ => by subst h1; exact ⟨k, d', L' ++ [(s, d)], rfl, h2, h3, h4, Ents.snoc s d n hs h5⟩
theorem Ents.set {w : World} (s : Spot) (d : Int) (hs : Lv w s.1) : ∀ {es : List MapEntry} {L : List (Spot × Int)} (j : Nat), Ents w es L → Ents w (es.modify j fun e => { e with key := keyV s, val := .int .i64 d }) (L.set j (s, d))
  | [], L, j, h => by have h' : L = [] := h; subst h'; simp; rfl
  | e :: es, L, 0, ⟨k, d', L', h1, h2, h3, h4, h5⟩ => by subst h1; exact ⟨s, d, L', rfl, rfl, rfl, hs, h5⟩
  | e :: es, L, j + 1, ⟨k, d', L', h1, h2, h3, h4, h5⟩ => by subst h1; exact ⟨k, d', L'.set j (s, d), rfl, h2, h3, h4, Ents.set s d hs j h5⟩
theorem Ents.key {w : World} : ∀ {es : List MapEntry} {L : List (Spot × Int)} {s : Spot} {i j : Nat} {v : Value}, Ents w es L → findL L s i = some (i + j, v) → (es[j]?).map (·.key) = some (keyV s)
  | [], L, s, i, j, v, h, hf => by have h' : L = [] := h; subst h'; cases hf
  | e :: es, L, s, i, j, v, ⟨k, d', L', h1, h2, h3, h4, h5⟩, hf => by
    subst h1
    unfold findL at hf
    by_cases q : s = k
    · rw [if_pos q] at hf
      have : j = 0 := by injection hf with hf; injection hf with hf _; omega
      subst this; subst q
      simp [h2]
    · rw [if_neg q] at hf
      cases j with
      | zero =>
        exfalso
        rcases findL_noted L' s (i + 1) with ⟨g, _⟩ | ⟨j', g, _⟩
        · rw [g] at hf; cases hf
        · rw [g] at hf; injection hf with hf; injection hf with hf _; omega
      | succ j =>
        have := Ents.key (i := i + 1) (j := j) (v := v) h5 (by rw [hf, show i + (j + 1) = i + 1 + j by omega])
        simpa using this
theorem stays (w : World) (s : Spot) : (Instr.keyThatStays (keyV s) (keyV s)).run Tryd.prog w = .ok (keyV s) w := by
  have h : Instr.sameBits 10000 (keyV s) (keyV s) = true := by
    show Instr.sameBits (9998 + 1 + 1) (keyV s) (keyV s) = true
    simp [keyV, Instr.sameBits]
  unfold Instr.keyThatStays
  rw [if_pos h]; rfl
/-- block r alone has turned -/
theorem update_run {w : World} {r : Nat} {L : List (Spot × Int)} (h : Mp w r L) (s : Spot) (hs : Lv w s.1) (hr : ∀ c t f, w.heap[r]? ≠ some (.cells c t f)) (d : Int) :
    ∃ w' L', (Instr.mapUpdate 71 (.map (some r)) (keyV s) (.int .i64 d)).run Tryd.prog w = .ok () w' ∧ Mp w' r L' ∧ noted L' s = d ∧ (∀ s', s' ≠ s → noted L' s' = noted L s') ∧ Below r w w' ∧ (∀ k, k ≠ r → w'.heap[k]? = w.heap[k]?) := by
  obtain ⟨es, c, h1, h2⟩ := h
  have hf := find_run s hs es.toList L h2
  have hlt : r < w.heap.size := (Array.getElem?_eq_some_iff.1 h1).1
  have hlv : ∀ (o : Obj) b, Lv w b → Lv { w with heap := w.heap.setIfInBounds r o } b := fun o b ⟨cc, t, hb⟩ => ⟨cc, t, by
    have : r ≠ b := fun e => hr cc t (0, 0) (e ▸ hb)
    show (w.heap.setIfInBounds r o)[b]? = _
    rw [Array.getElem?_setIfInBounds_ne this]; exact hb⟩
  have hoth : ∀ (o : Obj) k, k ≠ r → ({ w with heap := w.heap.setIfInBounds r o } : World).heap[k]? = w.heap[k]? := fun o k hk => by
    show (w.heap.setIfInBounds r o)[k]? = _
    rw [Array.getElem?_setIfInBounds_ne (fun e => hk e.symm)]
  have hbel : ∀ (o : Obj), Below r w { w with heap := w.heap.setIfInBounds r o } := fun o => ⟨rfl, rfl, rfl, by simp, fun k hk => hoth o k (by omega)⟩
  have hnew : ∀ (o : Obj), ({ w with heap := w.heap.setIfInBounds r o } : World).heap[r]? = some o := fun o => by
    show (w.heap.setIfInBounds r o)[r]? = _
    simp [hlt]
  rcases findL_noted L s 0 with ⟨g1, g2⟩ | ⟨j, g1, g2, g3⟩
  · have hn : ∀ i, findL L s i = none := fun i => by
      have key : ∀ (L : List (Spot × Int)) a b, findL L s a = none → findL L s b = none := by
        intro L
        induction L with
        | nil => intro _ _ _; rfl
        | cons x L ih2 =>
          intro a b hx
          obtain ⟨x1, x2⟩ := x
          unfold findL at hx ⊢
          by_cases e : s = x1
          · rw [if_pos e] at hx; cases hx
          · rw [if_neg e] at hx ⊢; exact ih2 _ _ hx
      exact key L 0 i g1
    obtain ⟨m1, m2⟩ := noted_snoc L s d hn
    refine ⟨{ w with heap := w.heap.setIfInBounds r (.map (es.push { key := keyV s, val := .int .i64 d, born := c }) (c + 1)) }, L ++ [(s, d)], ?_, ⟨_, _, hnew _, ?_⟩, m1, m2, hbel _, hoth _⟩
    · unfold Instr.mapUpdate
      simp only [Sem.run_bind, run_underlying Tryd.underlying71, Result.andThen_ok]
      simp [MapKept.run_getObj_map h1, check_key, hf, g1, MapKept.run_setObj_map _ h1]
    · rw [Array.toList_push]
      exact (h2.mono (hlv _)).snoc s d c (hlv _ _ hs)
  · have hk := h2.key (i := 0) g1
    obtain ⟨m1, m2⟩ := g3 d
    rw [Nat.zero_add] at g1
    rw [Array.getElem?_toList] at hk
    refine ⟨{ w with heap := w.heap.setIfInBounds r (.map (es.modify j fun e => { e with key := keyV s, val := .int .i64 d }) c) }, L.set j (s, d), ?_, ⟨_, _, hnew _, ?_⟩, m1, m2, hbel _, hoth _⟩
    · unfold Instr.mapUpdate
      simp only [Sem.run_bind, run_underlying Tryd.underlying71, Result.andThen_ok]
      simp [MapKept.run_getObj_map h1, check_key, hf, g1, hk, stays, MapKept.run_setObj_map _ h1]
    · rw [Array.toList_modify]
      exact (h2.mono (hlv _)).set s d (hlv _ _ hs) j
end Go.Proofs.YtoalnfkjpdgbiaaDoor
