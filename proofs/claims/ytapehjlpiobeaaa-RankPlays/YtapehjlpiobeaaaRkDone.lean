/-
  Contracts over this program: the statements' own step with ranks and with a plain list.
-/
import Derived.Test.YtapehjlpiobeaaaRkAsk
namespace Go.Proofs.Ytapehjlpiobeaaa
open Go.RowKit Go.Shelf
set_option linter.unusedVariables false
set_option linter.unusedSimpArgs false
theorem info_en : (Try.prog.info? 53).map (fun i => (i.zero, i.size, i.bytes)) = some (some (.agg #[.string .empty, .float .f64 0]), 2, 24) := by kernel_rfl
/-- a plain list of entries -/
def En (w : World) (v : Value) (M : List Ent) : Prop := w.ownsRow 0 53 2 v M.length (enR M)
def OB (O : Nat → Prop) (v : Value) (k : Nat) : Prop := O k ∨ v.ownBlock = some k
/-- the same members -/
def Sm (L M : List Ent) : Prop := (∀ e, e ∈ L ↔ e ∈ M) ∧ (Dc.keys M).Nodup
def Bt (w : World) (O : Nat → Prop) (R seed : Nat) (L : List Ent) (lv : Value) (M : List Ent) : Prop := RK w O R seed L ∧ En w lv M ∧ (∀ k, lv.ownBlock = some k → ¬ O k) ∧ Sm L M
theorem Sm.perm {L M : List Ent} (h : Sm L M) (hn : (Dc.keys L).Nodup) : L.Perm M := perm_mem hn h.2 h.1
theorem Sm.len {L M : List Ent} (h : Sm L M) (hn : (Dc.keys L).Nodup) : L.length = M.length := (h.perm hn).length_eq
theorem Sm.sco {L M : List Ent} (h : Sm L M) (hn : (Dc.keys L).Nodup) (k : ByteArray) : sco L k = Dc.look k M := Dc.look_perm hn (h.perm hn) k
theorem En.kept {w w' : World} {v : Value} {M : List Ent} (h : En w v M) (hk : ∀ k, v.ownBlock = some k → w'.heap[k]? = w.heap[k]?) : En w' v M := own_kept h hk
theorem Bt.below {w w' : World} {O : Nat → Prop} {R seed : Nat} {L M : List Ent} {lv : Value} (h : Bt w O R seed L lv M) (hb : Below w.heap.size w w') : Bt w' O R seed L lv M :=
  ⟨h.1.below hb, h.2.1.kept (fun k hk => hb.block k (own_lt h.2.1 hk)), h.2.2⟩
/-- the ranks have turned, the list not -/
theorem Bt.turn {w w' : World} {O O' : Nat → Prop} {R seed : Nat} {L L' M : List Ent} {lv : Value} (h : Bt w O R seed L lv M) (hR : RK w' O' R seed L') (hf : FO O w O' w') : RK w' O' R seed L' ∧ En w' lv M ∧ (∀ k, lv.ownBlock = some k → ¬ O' k) ∧ FO (OB O lv) w (OB O' lv) w' := by
  have h1 : ∀ k, lv.ownBlock = some k → w'.heap[k]? = w.heap[k]? ∧ ¬ O' k := fun k hk => hf.2.2 k (own_lt h.2.1 hk) (h.2.2.1 k hk)
  refine ⟨hR, h.2.1.kept (fun k hk => (h1 k hk).1), fun k hk => (h1 k hk).2, hf.1, hf.2.1, fun k hk hn => ?_⟩
  obtain ⟨q1, q2⟩ := hf.2.2 k hk (fun hh => hn (.inl hh))
  exact ⟨q1, fun hh => hh.elim q2 (fun hh => hn (.inr hh))⟩
theorem En.form {w : World} {v : Value} {M : List Ent} (h : En w v M) : ∃ o c, v = .slice o M.length c := by
  rcases h.2 with ⟨e, h0⟩ | ⟨g', c', cur', e, _⟩
  · exact ⟨none, 0, by rw [e, h0]⟩
  · exact ⟨_, _, e⟩
theorem En.at {w : World} {g n c : Nat} {M : List Ent} {j : Nat} {e : Ent} (h : En w (.slice (some ⟨g, 0, none⟩) n c) M) (hj : M[j]? = some e) : w.cell? ⟨g, j * 2, none⟩ = some (.string e.1) ∧ w.cell? ⟨g, j * 2 + 1, none⟩ = some (.float .f64 e.2) := by
  obtain ⟨h1, h2⟩ := enR_at hj
  have c1 := World.ownsRow.cells h (g := g) rfl _ _ h1
  have c2 := World.ownsRow.cells h (g := g) rfl _ _ h2
  rw [add_at, Nat.zero_add] at c1 c2
  exact ⟨c1, c2⟩
theorem En.some {w : World} {v : Value} {M : List Ent} (h : En w v M) (hn : 0 < M.length) : ∃ g c, v = .slice (some ⟨g, 0, none⟩) M.length c := by
  rcases h.2 with ⟨_, h'⟩ | ⟨g, c, cur, h', _⟩
  · omega
  · exact ⟨g, c, h'⟩
/-- where a member lies in a list: its place, or -1 -/
def AtM (M : List Ent) (key : ByteArray) (a : Int) : Prop := (a = -1 ∧ ∀ e ∈ M, e.1 ≠ key) ∨ ∃ (j : Nat) (x : Nat), a = j ∧ M[j]? = some (key, x)
theorem AtM.succ_no {M : List Ent} {k : Nat} {key : ByteArray} {a : Int} {e : Ent} (h : AtM (M.take k) key a) (he : M[k]? = some e) (hne : e.1 ≠ key) : AtM (M.take (k + 1)) key a := by
  have hlt := (List.getElem?_eq_some_iff.1 he).1
  rw [List.take_add_one, he]
  rcases h with ⟨rfl, h⟩ | ⟨j, x, rfl, h⟩
  · refine .inl ⟨rfl, fun d hd => ?_⟩
    rcases List.mem_append.1 hd with hd | hd
    · exact h d hd
    · simp at hd; subst hd; exact hne
  · refine .inr ⟨j, x, rfl, ?_⟩
    rw [List.getElem?_append_left (List.getElem?_eq_some_iff.1 h).1]; exact h
theorem AtM.succ_yes {M : List Ent} {k : Nat} {key : ByteArray} {x : Nat} (he : M[k]? = some (key, x)) : AtM (M.take (k + 1)) key (k : Int) := by
  refine .inr ⟨k, x, rfl, ?_⟩
  rw [List.getElem?_take, if_pos (by omega)]; exact he
theorem step_cells {w : World} {b : Nat} {v0 v1 v2 v3 v4 v5 v6 v7 v8 : Value} {t : TypeId} (h : w.heap[b]? = some (.cells #[v0, v1, v2, v3, v4, v5, v6, v7, v8] t (0, 0))) :
    w.cell? ⟨b, 1, none⟩ = some v1 ∧ w.cell? ⟨b, 4, none⟩ = some v4 ∧ w.cell? ⟨b, 5, none⟩ = some v5 := by
  refine ⟨?_, ?_, ?_⟩ <;> simp [World.cell?, h]
/- the list's own changes -/
theorem sets_list {L L' M : List Ent} {k : ByteArray} {x : Nat} (h : Sm L M) (hs : Sets L k x L') (hno : ∀ e ∈ M, e.1 ≠ k) : Sm L' (M ++ [(k, x)]) := by
  refine ⟨fun e => ?_, ?_⟩
  · rw [hs e, h.1 e]
    simp only [List.mem_append, List.mem_singleton]
    constructor
    · rintro (h | ⟨h, _⟩)
      · exact .inr h
      · exact .inl h
    · rintro (h | h)
      · exact .inr ⟨h, hno e h⟩
      · exact .inl h
  · unfold Dc.keys
    rw [List.map_append, List.nodup_append]
    refine ⟨h.2, by simp, fun a ha b hb => ?_⟩
    simp at hb
    subst hb
    obtain ⟨e, he, rfl⟩ := List.mem_map.1 ha
    exact hno e he
theorem keys_set {M : List Ent} {j : Nat} {k : ByteArray} {x y : Nat} (hj : M[j]? = some (k, x)) : Dc.keys (M.set j (k, y)) = Dc.keys M := by
  unfold Dc.keys
  rw [List.map_set]
  have : (M.map Prod.fst)[j]? = some k := by rw [List.getElem?_map, hj]; rfl
  obtain ⟨hl, he⟩ := List.getElem?_eq_some_iff.1 this
  show (M.map Prod.fst).set j k = _
  conv => lhs; rw [← he]
  exact List.set_getElem_self hl
theorem uniq_at {M : List Ent} (hn : (Dc.keys M).Nodup) {i j : Nat} {a b : Ent} (hi : M[i]? = some a) (hj : M[j]? = some b) (h : a.1 = b.1) : i = j := by
  have q1 : (M.map Prod.fst)[i]? = some a.1 := by rw [List.getElem?_map, hi]; rfl
  have q2 : (M.map Prod.fst)[j]? = some a.1 := by rw [List.getElem?_map, hj, h]; rfl
  exact (List.getElem?_inj (List.getElem?_eq_some_iff.1 q1).1 hn).1 (q1.trans q2.symm)
theorem alter_list {L L' M : List Ent} {k : ByteArray} {x y j : Nat} (h : Sm L M) (hs : Sets L k y L') (hj : M[j]? = some (k, x)) : Sm L' (M.set j (k, y)) := by
  have hl := (List.getElem?_eq_some_iff.1 hj).1
  refine ⟨fun e => ?_, by rw [keys_set hj]; exact h.2⟩
  rw [hs e, h.1 e]
  constructor
  · rintro (rfl | ⟨he, hne⟩)
    · exact List.mem_of_getElem? (i := j) (by rw [List.getElem?_set, if_pos rfl, if_pos hl])
    · obtain ⟨i, hi⟩ := List.getElem?_of_mem he
      refine List.mem_of_getElem? (i := i) ?_
      rw [List.getElem?_set, if_neg (fun e' => hne (by rw [← e', hj] at hi; cases hi; rfl))]
      exact hi
  · intro he
    obtain ⟨i, hi⟩ := List.getElem?_of_mem he
    rw [List.getElem?_set] at hi
    by_cases e' : j = i
    · rw [if_pos e', if_pos hl] at hi; left; exact (Option.some.inj hi).symm
    · rw [if_neg e'] at hi
      exact .inr ⟨List.mem_of_getElem? hi, fun e'' => e' (uniq_at h.2 hj hi e''.symm)⟩
theorem del_list {L L' M : List Ent} {k : ByteArray} {x j m : Nat} {z : Ent} (h : Sm L M) (hs : Dels L k L') (hj : M[j]? = some (k, x)) (hm : M.length = m + 1) (hz : M[m]? = some z) : Sm L' ((M.set j z).take m) := by
  have hl := (List.getElem?_eq_some_iff.1 hj).1
  have hat : ∀ i, i < m → ((M.set j z).take m)[i]? = if j = i then some z else M[i]? := fun i hi => by
    rw [List.getElem?_take, if_pos hi, List.getElem?_set]
    by_cases e : j = i
    · rw [if_pos e, if_pos e, if_pos hl]
    · rw [if_neg e, if_neg e]
  have hlen : ((M.set j z).take m).length = m := by rw [List.length_take, List.length_set]; omega
  refine ⟨fun e => ?_, ?_⟩
  · rw [hs e, h.1 e]
    constructor
    · rintro ⟨he, hne⟩
      obtain ⟨i, hi⟩ := List.getElem?_of_mem he
      have hil := (List.getElem?_eq_some_iff.1 hi).1
      have hji : j ≠ i := fun e' => hne (by rw [← e', hj] at hi; cases hi; rfl)
      by_cases him : i = m
      · subst him
        rw [hz] at hi
        refine List.mem_of_getElem? (i := j) ?_
        rw [hat j (by omega), if_pos rfl]; exact hi
      · refine List.mem_of_getElem? (i := i) ?_
        rw [hat i (by omega), if_neg hji]; exact hi
    · intro he
      obtain ⟨i, hi⟩ := List.getElem?_of_mem he
      have hil := (List.getElem?_eq_some_iff.1 hi).1
      rw [hlen] at hil
      rw [hat i hil] at hi
      by_cases e' : j = i
      · rw [if_pos e'] at hi
        cases hi
        refine ⟨List.mem_of_getElem? hz, fun e'' => ?_⟩
        have := uniq_at h.2 hj hz e''.symm
        omega
      · rw [if_neg e'] at hi
        exact ⟨List.mem_of_getElem? hi, fun e'' => e' (uniq_at h.2 hj hi e''.symm)⟩
  · unfold Dc.keys List.Nodup
    rw [List.pairwise_map, List.pairwise_iff_getElem]
    intro a b ha hb hab he
    rw [hlen] at ha hb
    have ea : ((M.set j z).take m)[a]? = some ((M.set j z).take m)[a] := List.getElem?_eq_getElem (by rw [hlen]; exact ha)
    have eb : ((M.set j z).take m)[b]? = some ((M.set j z).take m)[b] := List.getElem?_eq_getElem (by rw [hlen]; exact hb)
    generalize ((M.set j z).take m)[a] = xa at ea he
    generalize ((M.set j z).take m)[b] = xb at eb he
    rw [hat a ha] at ea
    rw [hat b hb] at eb
    by_cases e1 : j = a
    · rw [if_pos e1] at ea
      cases ea
      rw [if_neg (by omega)] at eb
      have := uniq_at h.2 hz eb he
      omega
    · rw [if_neg e1] at ea
      by_cases e2 : j = b
      · rw [if_pos e2] at eb
        cases eb
        have := uniq_at h.2 ea hz he
        omega
      · rw [if_neg e2] at eb
        have := uniq_at h.2 ea eb he
        omega
theorem set_two {M : List Ent} {j : Nat} {key : ByteArray} {x z2 : Nat} {z1 : ByteArray} (h : M[j]? = some (key, x)) : ((enR M).set (j * 2) (.string z1)).set (j * 2 + 1) (.float .f64 z2) = enR (M.set j (z1, z2)) := by
  induction M generalizing j with
  | nil => simp at h
  | cons d M ih =>
    cases j with
    | zero => rfl
    | succ j =>
      have h' : M[j]? = some (key, x) := by simpa using h
      have e1 : enR (d :: M) = .string d.1 :: .float .f64 d.2 :: enR M := rfl
      rw [e1, show (j + 1) * 2 = j * 2 + 1 + 1 by omega, show j * 2 + 1 + 1 + 1 = (j * 2 + 1) + 1 + 1 by omega]
      simp only [List.set_cons_succ]
      rw [ih h']
      rfl
/-- the step as a value -/
def stV (who dO sa sb : Int) (key : ByteArray) (x y : Nat) (ox oy : Bool) : Value := .agg #[.int .i64 who, .int .i64 dO, .int .i64 sa, .int .i64 sb, .string key, .int .u64 (x : Int), .int .u64 (y : Int), .bool ox, .bool oy]
def Dn (w : World) (O : Nat → Prop) (R seed : Nat) (lv : Value) (e : Ending) (w' : World) : Prop := ∃ lv', e = .returned (.tuple #[lv', .bool true]) ∧ ∃ O' L' M', Bt w' O' R seed L' lv' M' ∧ FO (OB O lv) w (OB O' lv') w'
theorem app_ent {w : World} {lv : Value} {M : List Ent} (key : ByteArray) (x : Nat) (h : En w lv M) (hl : M.length ≤ 2000000) :
    ∃ g c w', (Builtin.append_ #[38, 38] 38 #[lv, .slice (some ⟨w.heap.size, 0, none⟩) 1 1]).run Try.prog (w.alloc (.cells #[.string key, .float .f64 x] 53)) = .ok (.slice (some ⟨g, 0, none⟩) (M.length + 1) c) w' ∧ En w' (.slice (some ⟨g, 0, none⟩) (M.length + 1) c) (M ++ [(key, x)]) ∧ w.grownBy w' lv.ownBlock ∧ (lv.ownBlock = some g ∨ w.heap.size < g) ∧ g < w'.heap.size := by
  obtain ⟨i0, hi0, hz0, hz1, hz2⟩ := info_parts info_en
  obtain ⟨W, hW⟩ : ∃ W, w.alloc (.cells #[.string key, .float .f64 x] 53) = W := ⟨_, rfl⟩
  have hb : Below w.heap.size w W := by rw [← hW]; exact (Below.refl _ w).alloc (Nat.le_refl _) _
  have hs : W.heap.size = w.heap.size + 1 := by rw [← hW]; simp
  have hh : W.heap[w.heap.size]? = some (.cells #[.string key, .float .f64 x] 53 (0, 0)) := by rw [← hW]; exact heap_alloc_new _ _
  have hW1 : En W lv M := h.kept (fun k hk => hb.block k (own_lt h hk))
  obtain ⟨g, c, w', r1, r2, r3, r4, r5⟩ := run_append_lies (P := Try.prog) W 38 38 0 53 i0 _ 2 24 Try.underlying38 hi0 hz0 hz1 hz2 (by simp [Value.cells]) (by decide) lv M.length _ hW1 ⟨w.heap.size, 0, none⟩ 1 1 (mc key x) rfl (mc_cell hh) mc_one (by decide) (by unfold maxLen; omega) (by omega) (Nat.zero_le _) W.heap.size rfl
  rw [hW]
  refine ⟨g, c, w', r1, ?_, ⟨r3.os.trans hb.os, r3.tape.trans hb.tape, r3.output.trans hb.output, Nat.le_trans hb.size r3.size, fun k hk hne => (r3.block k (by omega) hne).trans (hb.block k hk)⟩, r4.imp id (fun e => by omega), r5⟩
  unfold En
  rw [List.length_append, enR_app]
  exact r2
set_option maxRecDepth 100000 in
set_option maxHeartbeats 8000000 in
theorem done_any (w : World) (O : Nat → Prop) (R seed : Nat) (L M : List Ent) (lv : Value) (who dO sa sb : Int) (key : ByteArray) (x y : Nat) (ox oy : Bool) (hB : Bt w O R seed L lv M) (hk : key.size ≤ maxLen) :
    Calls Try.prog 21 #[.pointer (some ⟨R, 0, none⟩), lv, stV who dO sa sb key x y ox oy] w fun e w' => Dn w O R seed lv e w' := by
  have sf : ∀ (x : Nat) (w : World) (a : Addr), (store a (.float .f64 x)).run Try.prog w = stored Try.prog w a (.float .f64 x) .plain := fun x w a => run_store _ w a _ _ rfl
  have fb : ∀ w, (callFunc 26 #[.int .u64 (x : Int)]).run Try.prog w = .ok (.value (.float .f64 x)) w := fun w => by have := run_frombits (x : Int) w; simpa using this
  have hmath := hB.1.math
  have hlen := hB.2.2.2.len hmath.2.2.2
  have hsco := fun k => hB.2.2.2.sco hmath.2.2.2 k
  obtain ⟨W0, hW0⟩ : ∃ W0, w.alloc (.cells #[.int .i64 who, .int .i64 dO, .int .i64 sa, .int .i64 sb, .string key, .int .u64 (x : Int), .int .u64 (y : Int), .bool ox, .bool oy] 31) = W0 := ⟨_, rfl⟩
  have hb0 : Below w.heap.size w W0 := by rw [← hW0]; exact (Below.refl _ w).alloc (Nat.le_refl _) _
  have hs0 : W0.heap.size = w.heap.size + 1 := by rw [← hW0]; simp
  have hh0 : W0.heap[w.heap.size]? = some (.cells #[.int .i64 who, .int .i64 dO, .int .i64 sa, .int .i64 sb, .string key, .int .u64 (x : Int), .int .u64 (y : Int), .bool ox, .bool oy] 31 (0, 0)) := by rw [← hW0]; exact heap_alloc_new _ _
  obtain ⟨o, c, hlv⟩ := hB.2.1.form
  subst hlv
  obtain ⟨n, hn⟩ : ∃ n, M.length = n := ⟨_, rfl⟩
  have hn2 : n ≤ 1048576 := by rw [← hn, ← hlen]; exact hmath.2.2.1
  have HB := keep hB
  have HM := keep hmath
  have HS := keep hsco
  have HB0 := keep hb0
  have HH0 := keep hh0
  have HS0 := keep hs0
  have HN := keep hn
  have HN2 := keep hn2
  have HLN := keep hlen
  -- what holds in every world that has come of the first
  have HG : Kept (∀ W : World, Below W0.heap.size W0 W → Bt W O R seed L (.slice o M.length c) M ∧ Below w.heap.size w W ∧ W.cell? ⟨w.heap.size, 1, none⟩ = some (.int .i64 dO) ∧ W.cell? ⟨w.heap.size, 4, none⟩ = some (.string key) ∧ W.cell? ⟨w.heap.size, 5, none⟩ = some (.int .u64 (x : Int))) := fun W hW => by
    have h1 := Below.up hb0 hW
    have h2 : W.heap[w.heap.size]? = some (.cells #[.int .i64 who, .int .i64 dO, .int .i64 sa, .int .i64 sb, .string key, .int .u64 (x : Int), .int .u64 (y : Int), .bool ox, .bool oy] 31 (0, 0)) := (hW.block _ (by omega)).trans hh0
    obtain ⟨q1, q2, q3⟩ := step_cells h2
    exact ⟨hB.below h1, h1, q1, q2, q3⟩
  have ce4 := (HG.out W0 (Below.refl _ _)).2.2.2.1
  clear hB hmath hsco hb0 hh0 hs0 hn2 hlen
  unfold stV
  rw [hn]
  clear hn
  go_enter Try.func21, Try.ntmps21
  go_wp2_with fail
  try rw [hW0]
  go_loopg [8, 9, 10, 17] n (fun kx s8 s9 s10 s17 wr => ∃ (k : Nat) (a : Int), s8 = .int .i64 a ∧ s17 = .int .i64 k ∧ k ≤ n ∧ n - k ≤ kx ∧ Kept (AtM (M.take k) key a) ∧ Kept (Below W0.heap.size W0 wr))
  case atStart => exact ⟨0, -1, rfl, rfl, Nat.zero_le _, by omega, .inl ⟨rfl, fun e he => absurd he (by simp)⟩, Below.refl _ _⟩
  case round =>
    obtain ⟨k, a, rfl, rfl, hk1, hg1, HA, BW⟩ := hrel
    by_cases hkn : k < n
    · obtain ⟨hBt, hbw, q1, q2, q3⟩ := HG.out wr BW.out
      have hN := HN.out
      obtain ⟨e, he⟩ : ∃ e, M[k]? = some e := ⟨_, List.getElem?_eq_getElem (by omega)⟩
      obtain ⟨g, c', hlv⟩ := hBt.2.1.some (by omega)
      have hat : ∃ g, o = some ⟨g, 0, none⟩ := by injection hlv with h1 h2 h3; exact ⟨g, h1⟩
      obtain ⟨g, rfl⟩ := hat
      obtain ⟨l1, l2⟩ := hBt.2.1.at he
      have k0 : (0 : Int) ≤ (k : Int) := by omega
      have k1 : (k : Int) < (n : Int) := by omega
      have kw : IntKind.i64.wrap ((k : Int) + 1) = ((k + 1 : Nat) : Int) := by have := HN2.out; rw [IntKind.wrap_i64]; omega
      have HE := keep he
      have HKN := keep hkn
      obtain ⟨e1, e2⟩ := e
      dsimp only at l1 l2
      obtain ⟨W5, hW5⟩ : ∃ W5, wr.alloc (.cells #[.string e1, .float .f64 e2] 53) = W5 := ⟨_, rfl⟩
      have hb5 : Below wr.heap.size wr W5 := by rw [← hW5]; exact (Below.refl _ wr).alloc (Nat.le_refl _) _
      have z0 : W5.cell? ⟨wr.heap.size, 0, none⟩ = some (.string e1) := by rw [← hW5]; simp
      have z4 : W5.cell? ⟨w.heap.size, 4, none⟩ = some (.string key) := (HG.out W5 (Below.up BW.out hb5)).2.2.2.1
      have HB5 := keep (Below.up BW.out hb5)
      clear hBt hbw q1 q3 hN he hlv hb5
      by_cases hq : e1 = key
      · subst hq
        have hqq : (e1.toList == e1.toList) = true := beq_self_eq_true _
        go_wp2_with fail
        try rw [hW5]
        go_wp2
        go_roundg (n - (k + 1))
        case measure => have := HKN.out; omega
        case rel => exact ⟨k + 1, k, rfl, by first | rfl | simp, HKN.out, by have := HKN.out; omega, AtM.succ_yes HE.out, HB5.out⟩
      · have hqq : (e1.toList == key.toList) = false := beq_eq_false_iff_ne.2 (fun e => hq (tl_inj e))
        go_wp2_with fail
        try rw [hW5]
        go_wp2
        go_roundg (n - (k + 1))
        case measure => have := HKN.out; omega
        case rel => exact ⟨k + 1, a, rfl, by first | rfl | simp, HKN.out, by have := HKN.out; omega, HA.out.succ_no HE.out hq, HB5.out⟩
    · obtain rfl : k = n := by omega
      obtain ⟨hBt, hbw, q1, q2, q3⟩ := HG.out wr BW.out
      have hA := HA.out
      rw [List.take_of_length_le (by rw [HN.out]; exact Nat.le_refl _)] at hA
      have HBt := keep hBt
      have HBw := keep hbw
      have HAt := keep hA
      clear hBt hbw hA HA HG hk1 hg1
      have TT : Kept (∀ (O' : Nat → Prop) (w2 : World), FO (OB O (.slice o M.length c)) wr (OB O' (.slice o M.length c)) w2 → w2.heap[w.heap.size]? = wr.heap[w.heap.size]?) := fun O' w2 hf => by
        have h1 : w.heap.size < wr.heap.size := by have := BW.out.size; have := HS0.out; omega
        refine (hf.2.2 _ h1 (fun hh => ?_)).1
        rcases hh with hh | hh
        · have := HB.out.1.lt _ hh; omega
        · have := own_lt HB.out.2.1 hh; omega
      by_cases hd0 : dO = 0
      · subst hd0
        rcases Nat.lt_or_ge 1048576 key.size with hlong | hshort
        · have h1 : decide ((1048576 : Int) < (key.size : Int)) = true := decide_eq_true (by omega)
          have mS := kset_long (w := wr) (R := R) key x hlong
          clear hlong
          go_wp2_with fail
          refine mS.mono ?_
          rintro _ _ ⟨rfl, hw⟩
          obtain rfl := hw.symm
          clear mS
          go_wp2
          refine bodyPost_ret (results_tmp2 rfl _ _ _) rfl ?_
          exact ⟨_, rfl, O, L, M, by rw [← HN.out]; exact HBt.out, by rw [← HN.out]; exact FO.below HBw.out⟩
        · cases hnan : isNan x with
          | true =>
            have h1 : decide ((1048576 : Int) < (key.size : Int)) = false := decide_eq_false (by omega)
            have ox : FloatKind.f64.format.order x x = none := order_of_nan (Or.inl hnan)
            have mS := kset_nan (w := wr) (R := R) key x hshort hnan
            clear hshort
            go_wp2_with fail
            refine mS.mono ?_
            rintro _ _ ⟨rfl, hw⟩
            obtain rfl := hw.symm
            clear mS
            go_wp2
            refine bodyPost_ret (results_tmp2 rfl _ _ _) rfl ?_
            exact ⟨_, rfl, O, L, M, by rw [← HN.out]; exact HBt.out, by rw [← HN.out]; exact FO.below HBw.out⟩
          | false =>
            rcases HAt.out with ⟨ha, hno⟩ | ⟨j, was, ha, hj⟩
            · subst ha
              by_cases hfull : 1048576 ≤ k
              · have h1 : decide ((1048576 : Int) < (key.size : Int)) = false := decide_eq_false (by omega)
                have ox : FloatKind.f64.format.order x x = some .eq := order_self hnan
                have hs : sco L key = none := by rw [HS.out]; exact (Dc.look_none key).2 (fun hm => by obtain ⟨e, he, hek⟩ := List.mem_map.1 hm; exact hno e he hek)
                have h2 : decide ((1048576 : Int) ≤ (k : Int)) = true := decide_eq_true (by omega)
                have mS := kset_full HBt.out.1 key x hshort hnan hs (by rw [HLN.out, HN.out]; exact hfull)
                clear hshort
                go_wp2_with fail
                refine mS.mono ?_
                rintro _ w2 ⟨rfl, hz⟩
                obtain ⟨O', q4, q5⟩ := hz
                have T := keep (HBt.out.turn q4 q5)
                clear q4 q5 mS hs hno hfull
                have b4 : w2.cell? ⟨w.heap.size, 4, none⟩ = some (.string key) := (World.cell?_of_block (w := wr) (a := ⟨w.heap.size, 4, none⟩) (TT.out O' w2 T.out.2.2.2)).trans q2
                go_wp2
                refine bodyPost_ret (results_tmp2 rfl _ _ _) rfl ?_
                exact ⟨_, rfl, O', L, M, by rw [← HN.out]; exact ⟨T.out.1, T.out.2.1, T.out.2.2.1, HBt.out.2.2.2⟩, by rw [← HN.out]; exact (FO.below HBw.out).trans T.out.2.2.2⟩
              · have h1 : decide ((1048576 : Int) < (key.size : Int)) = false := decide_eq_false (by omega)
                have ox : FloatKind.f64.format.order x x = some .eq := order_self hnan
                have hs : sco L key = none := by rw [HS.out]; exact (Dc.look_none key).2 (fun hm => by obtain ⟨e, he, hek⟩ := List.mem_map.1 hm; exact hno e he hek)
                have h2 : decide ((1048576 : Int) ≤ (k : Int)) = false := decide_eq_false (by omega)
                have h2' : ¬ 1048576 ≤ k := hfull
                have mS := kset_new HBt.out.1 key x hshort hnan hs (by rw [HLN.out, HN.out]; omega)
                clear hshort
                go_wp2_with fail
                refine mS.mono ?_
                rintro _ w2 ⟨rfl, hz⟩
                obtain ⟨O', L', sS, q4, q5⟩ := hz
                have T := keep (HBt.out.turn q4 q5)
                have b4 : w2.cell? ⟨w.heap.size, 4, none⟩ = some (.string key) := (World.cell?_of_block (w := wr) (a := ⟨w.heap.size, 4, none⟩) (TT.out O' w2 T.out.2.2.2)).trans q2
                have SM := keep (sets_list HBt.out.2.2.2 sS hno)
                obtain ⟨g3, c3, w3, r1, r2, r3, r4, r5⟩ := app_ent key x T.out.2.1 (by rw [HN.out]; omega)
                have ZZ : Kept (Dn w O R seed (.slice o M.length c) (.returned (.tuple #[.slice (some ⟨g3, 0, none⟩) (M.length + 1) c3, .bool true])) w3) := by
                  have hlt := T.out.1.lt
                  have hno2 : ∀ j, O' j → w3.heap[j]? = w2.heap[j]? := fun j hj => r3.block j (hlt j hj) (fun e => T.out.2.2.1 j e.symm hj)
                  refine ⟨_, rfl, O', L', M ++ [(key, x)], ⟨T.out.1.kept r3.size hno2, r2, fun j hj => ?_, SM.out⟩, (FO.below HBw.out).trans (T.out.2.2.2.trans ⟨⟨r3.os, r3.tape, r3.output⟩, r3.size, fun j hj hn => ⟨r3.block j hj (fun e => hn (.inr e.symm)), fun hh => ?_⟩⟩)⟩
                  · obtain rfl : g3 = j := Option.some.inj hj
                    rcases r4 with h | h
                    · exact T.out.2.2.1 _ h
                    · intro hO; have := hlt _ hO; omega
                  · rcases hh with hh | hh
                    · exact hn (.inl hh)
                    · obtain rfl : g3 = j := Option.some.inj hh
                      rcases r4 with h | h
                      · exact hn (.inr h)
                      · omega
                rw [HN.out] at r1 ZZ
                have R1 := keep r1
                clear q4 q5 mS hs hno hfull sS r1 r2 r3 r4 r5
                go_wp2_with (at_builtin; refine wpList_app_run rfl _ _ _ _ rfl _ _ _ rfl rfl R1.out ?_)
                refine bodyPost_ret (results_tmp2 rfl _ _ _) rfl ?_
                exact ZZ.out
            · subst ha
              cases hq : feq was x with
              | true =>
                have h1 : decide ((1048576 : Int) < (key.size : Int)) = false := decide_eq_false (by omega)
                have ox : FloatKind.f64.format.order x x = some .eq := order_self hnan
                have hs : sco L key = some was := by rw [HS.out]; exact (Dc.look_mem HBt.out.2.2.2.2 key was).2 (List.mem_of_getElem? hj)
                have oq : FloatKind.f64.format.order was x = some .eq := by unfold feq at hq; exact of_decide_eq_true hq
                have j0 : (0 : Int) ≤ (j : Int) := by omega
                have j00 : ¬ (j : Int) < 0 := by omega
                have hjl : j < k := by have := (List.getElem?_eq_some_iff.1 hj).1; rw [HN.out] at this; exact this
                have j1 : (j : Int) < (k : Int) := by omega
                have hos : ∃ g, o = some ⟨g, 0, none⟩ := by obtain ⟨g, c', hlv⟩ := HBt.out.2.1.some (by rw [HN.out]; omega); injection hlv with h1 h2 h3; exact ⟨g, h1⟩
                obtain ⟨g, rfl⟩ := hos
                have mS := kset_same HBt.out.1 key x was hshort hnan hs hq
                clear hshort
                go_wp2_with fail
                refine mS.mono ?_
                rintro _ w2 ⟨rfl, hz⟩
                obtain ⟨O', q4, q5⟩ := hz
                have T := keep (HBt.out.turn q4 q5)
                clear q4 q5 mS hs
                have b4 : w2.cell? ⟨w.heap.size, 4, none⟩ = some (.string key) := (World.cell?_of_block (w := wr) (a := ⟨w.heap.size, 4, none⟩) (TT.out O' w2 T.out.2.2.2)).trans q2
                have l2 := (T.out.2.1.at hj).2
                dsimp only at l2
                clear hj hjl
                go_wp2
                refine bodyPost_ret (results_tmp2 rfl _ _ _) rfl ?_
                exact ⟨_, rfl, O', L, M, by rw [← HN.out]; exact ⟨T.out.1, T.out.2.1, T.out.2.2.1, HBt.out.2.2.2⟩, by rw [← HN.out]; exact (FO.below HBw.out).trans T.out.2.2.2⟩
              | false =>
                have h1 : decide ((1048576 : Int) < (key.size : Int)) = false := decide_eq_false (by omega)
                have ox : FloatKind.f64.format.order x x = some .eq := order_self hnan
                have hs : sco L key = some was := by rw [HS.out]; exact (Dc.look_mem HBt.out.2.2.2.2 key was).2 (List.mem_of_getElem? hj)
                have hwas : isNan was = false := HM.out.1.2 _ (sco_mem HM.out.2.2.2 hs)
                have oqq := feq_not hwas hnan hq
                have j0 : (0 : Int) ≤ (j : Int) := by omega
                have j00 : ¬ (j : Int) < 0 := by omega
                have hjl : j < k := by have := (List.getElem?_eq_some_iff.1 hj).1; rw [HN.out] at this; exact this
                have j1 : (j : Int) < (k : Int) := by omega
                have hos : ∃ g, o = some ⟨g, 0, none⟩ := by obtain ⟨g, c', hlv⟩ := HBt.out.2.1.some (by rw [HN.out]; omega); injection hlv with h1 h2 h3; exact ⟨g, h1⟩
                obtain ⟨g, rfl⟩ := hos
                have mS := kset_alter HBt.out.1 key x was hshort hnan hs hq
                clear hshort
                go_wp2_with fail
                refine mS.mono ?_
                rintro _ w2 ⟨rfl, hz⟩
                obtain ⟨O', L', sS, q4, q5⟩ := hz
                have T := keep (HBt.out.turn q4 q5)
                have b4 : w2.cell? ⟨w.heap.size, 4, none⟩ = some (.string key) := (World.cell?_of_block (w := wr) (a := ⟨w.heap.size, 4, none⟩) (TT.out O' w2 T.out.2.2.2)).trans q2
                have SM := keep (alter_list HBt.out.2.2.2 sS hj)
                have l2 := (T.out.2.1.at hj).2
                dsimp only at l2
                have hfz : w2.frozen? ⟨g, j * 2 + 1, none⟩ = false := by
                  obtain ⟨cur, hcur, _⟩ := own_cur T.out.2.1
                  simp [World.frozen?, hcur]
                have ZZ : Kept (Dn w O R seed (.slice (some ⟨g, 0, none⟩) M.length c) (.returned (.tuple #[.slice (some ⟨g, 0, none⟩) M.length c, .bool true])) (w2.setCell ⟨g, j * 2 + 1, none⟩ (.float .f64 x))) := by
                  have hgO : ¬ O' g := T.out.2.2.1 g rfl
                  have hk' : ∀ i, i ≠ g → (w2.setCell ⟨g, j * 2 + 1, none⟩ (.float .f64 x)).heap[i]? = w2.heap[i]? := fun i hi => Below.heap_setCell _ _ _ _ hi
                  refine ⟨_, rfl, O', L', M.set j (key, x), ⟨T.out.1.kept (by simp [World.setCell]) (fun i hi => hk' i (fun e => hgO (e ▸ hi))), ?_, T.out.2.2.1, SM.out⟩, (FO.below HBw.out).trans (T.out.2.2.2.trans ⟨⟨rfl, rfl, rfl⟩, by simp [World.setCell], fun i hi hn => ⟨hk' i (fun e => hn (.inr (by rw [e]; rfl))), hn⟩⟩)⟩
                  obtain ⟨cur, hcur, p1, p2, p3, p4, p5⟩ := own_cur T.out.2.1
                  unfold En
                  rw [List.length_set]
                  refine own_of (cells_setCell hcur) p1 p2 (by simpa using p3) ?_ (by rw [enR_len, List.length_set])
                  rw [take_set p4]
                  unfold enR
                  exact set_odd hj
                rw [HN.out] at ZZ
                clear q4 q5 mS hs hwas sS hj hjl
                rcases oqq with oq | oq
                all_goals
                  go_wp2
                  refine bodyPost_ret (results_tmp2 rfl _ _ _) rfl ?_
                  exact ZZ.out
      · by_cases hd1 : dO = 1
        · subst hd1
          rcases HAt.out with ⟨ha, hno⟩ | ⟨j, was, ha, hj⟩
          · subst ha
            have hs : sco L key = none := by rw [HS.out]; exact (Dc.look_none key).2 (fun hm => by obtain ⟨e, he, hek⟩ := List.mem_map.1 hm; exact hno e he hek)
            have mS := kdel_none HBt.out.1 key hk hs
            go_wp2_with fail
            refine mS.mono ?_
            rintro _ w2 ⟨rfl, O', q4, q5⟩
            have T := keep (HBt.out.turn q4 q5)
            clear q4 q5 mS hs hno
            go_wp2
            refine bodyPost_ret (results_tmp2 rfl _ _ _) rfl ?_
            exact ⟨_, rfl, O', L, M, by rw [← HN.out]; exact ⟨T.out.1, T.out.2.1, T.out.2.2.1, HBt.out.2.2.2⟩, by rw [← HN.out]; exact (FO.below HBw.out).trans T.out.2.2.2⟩
          · subst ha
            have hs : sco L key = some was := by rw [HS.out]; exact (Dc.look_mem HBt.out.2.2.2.2 key was).2 (List.mem_of_getElem? hj)
            have j0 : (0 : Int) ≤ (j : Int) := by omega
            have j00 : ¬ (j : Int) < 0 := by omega
            have hjl : j < k := by have := (List.getElem?_eq_some_iff.1 hj).1; rw [HN.out] at this; exact this
            have j1 : (j : Int) < (k : Int) := by omega
            have hos : ∃ g, o = some ⟨g, 0, none⟩ := by obtain ⟨g, c', hlv⟩ := HBt.out.2.1.some (by rw [HN.out]; omega); injection hlv with h1 h2 h3; exact ⟨g, h1⟩
            obtain ⟨g, rfl⟩ := hos
            obtain ⟨m, hm⟩ : ∃ m, k = m + 1 := ⟨k - 1, by omega⟩
            have hn2 := HN2.out
            have hwm : IntKind.i64.wrap ((k : Int) - 1) = (m : Int) := by rw [IntKind.wrap_i64]; omega
            have m0 : (0 : Int) ≤ (m : Int) := by omega
            have m1 : (m : Int) < (k : Int) := by omega
            obtain ⟨z, hz⟩ : ∃ z, M[m]? = some z := ⟨_, List.getElem?_eq_getElem (by rw [HN.out]; omega)⟩
            have mS := kdel_some HBt.out.1 key was hs
            have HMK := keep hm
            clear hm hn2 hjl
            go_wp2_with fail
            refine mS.mono ?_
            rintro _ w2 ⟨rfl, O', L', sS, q4, q5⟩
            have hm := HMK.out
            have T := keep (HBt.out.turn q4 q5)
            have SM := keep (del_list HBt.out.2.2.2 sS hj (by rw [HN.out]; exact hm) hz)
            obtain ⟨cur, hcur, p1, p2, p3, p4, p5⟩ := own_cur T.out.2.1
            obtain ⟨i0, hi0, hz0, hz1, hz2⟩ := info_parts info_en
            rw [HN.out] at p1
            have p2' := p2
            unfold maxLen at p2'
            have hsl : ∀ w, (Instr.slice 38 (.slice (some ⟨g, 0, none⟩) k c) none (some (.int .i64 (m : Int))) none).run Try.prog w = .ok (.slice (some ⟨g, 0, none⟩) m c) w := fun w => by
              rw [slice_run w _ _ Try.underlying38 i0 hi0 ⟨g, 0, none⟩ k c 0 m c _ _ _ (.inl ⟨rfl, rfl⟩) (.inr ⟨rfl, by omega⟩) (.inl ⟨rfl, rfl⟩)]
              rw [Nat.zero_mul, add_at, Nat.zero_add, ite_self]; rfl
            obtain ⟨z1, z2⟩ := z
            obtain ⟨l1, l2⟩ := T.out.2.1.at hz
            obtain ⟨y1, y2⟩ := T.out.2.1.at hj
            dsimp only at l1 l2 y1 y2
            have hfz : ∀ i, w2.frozen? ⟨g, i, none⟩ = false := fun i => by simp [World.frozen?, hcur]
            have hfa := hfz (j * 2)
            have hfb := hfz (j * 2 + 1)
            have ZZ : Kept (Dn w O R seed (.slice (some ⟨g, 0, none⟩) M.length c) (.returned (.tuple #[.slice (some ⟨g, 0, none⟩) m c, .bool true])) ((w2.setCell ⟨g, j * 2, none⟩ (.string z1)).setCell ⟨g, j * 2 + 1, none⟩ (.float .f64 z2))) := by
              have hgO : ¬ O' g := T.out.2.2.1 g rfl
              have hk' : ∀ i, i ≠ g → ((w2.setCell ⟨g, j * 2, none⟩ (.string z1)).setCell ⟨g, j * 2 + 1, none⟩ (.float .f64 z2)).heap[i]? = w2.heap[i]? := fun i hi => (Below.heap_setCell _ _ _ _ hi).trans (Below.heap_setCell _ _ _ _ hi)
              refine ⟨_, rfl, O', L', (M.set j (z1, z2)).take m, ⟨T.out.1.kept (by simp [World.setCell]) (fun i hi => hk' i (fun e => hgO (e ▸ hi))), ?_, T.out.2.2.1, SM.out⟩, (FO.below HBw.out).trans (T.out.2.2.2.trans ⟨⟨rfl, rfl, rfl⟩, by simp [World.setCell], fun i hi hn => ⟨hk' i (fun e => hn (.inr (by rw [e]; rfl))), fun hh => hh.elim (fun h => hn (.inl h)) (fun h => hn (.inr (by cases h; rfl)))⟩⟩)⟩
              have hll : ((M.set j (z1, z2)).take m).length = m := by rw [List.length_take, List.length_set, HN.out]; omega
              unfold En
              rw [hll]
              refine own_of (cells_setCell (cells_setCell hcur)) (by omega) p2 (by simpa using p3) ?_ (by rw [enR_len, hll])
              have e1 : ((cur.setIfInBounds (j * 2) (.string z1)).setIfInBounds (j * 2 + 1) (.float .f64 z2)).toList.take (M.length * 2) = ((enR M).set (j * 2) (.string z1)).set (j * 2 + 1) (.float .f64 z2) := take_set (take_set p4)
              rw [enR_take, ← set_two hj, ← e1, List.take_take, Nat.min_eq_left (by rw [HN.out]; omega)]
            rw [HN.out] at ZZ
            clear q4 q5 mS hs sS hj hz p1 p2 p2' p3 p4 p5 hcur hm hi0 hz0 hz1 hz2 hfz
            go_wp2
            refine bodyPost_ret (results_tmp2 rfl _ _ _) rfl ?_
            exact ZZ.out
        · have e0 : (dO == 0) = false := beq_eq_false_iff_ne.2 hd0
          have e1 : (dO == 1) = false := beq_eq_false_iff_ne.2 hd1
          go_wp2
          refine bodyPost_ret (results_tmp2 rfl _ _ _) rfl ?_
          exact ⟨_, rfl, O, L, M, by rw [← HN.out]; exact HBt.out, by rw [← HN.out]; exact FO.below HBw.out⟩
end Go.Proofs.Ytapehjlpiobeaaa
