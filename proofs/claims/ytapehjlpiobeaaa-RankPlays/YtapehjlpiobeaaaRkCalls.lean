/-
  Contracts over this program: ranks as one thing: New, Len, Score, Cost; what a frame of its blocks says.
-/
import Derived.Test.YtapehjlpiobeaaaRkPut
import Derived.Test.YtapehjlpiobeaaaRkFloat
namespace Go.Proofs.Ytapehjlpiobeaaa
open Go.RowKit Go.Shelf
set_option linter.unusedVariables false
set_option linter.unusedSimpArgs false
abbrev Sf : Type := Dc.St ByteArray Nat
/-- what a row of members costs -/
def rcst (l : List Ent) : Nat := (l.map fun e => 40 + e.1.size).sum
theorem rcst_perm {l m : List Ent} (h : l.Perm m) : rcst l = rcst m := (h.map _).sum_nat
theorem rcst_cons (e : Ent) (l : List Ent) : rcst (e :: l) = 40 + e.1.size + rcst l := by simp [rcst]
theorem rcst_le {l : List Ent} (h : ∀ e ∈ l, e.1.size ≤ 1048576) : rcst l ≤ l.length * 1048616 := by
  induction l with
  | nil => simp [rcst]
  | cons e l ih =>
    rw [rcst_cons, List.length_cons, Nat.add_mul]
    have h1 := h e (by simp)
    have h2 := ih (fun a ha => h a (by simp [ha]))
    omega
/-- the dict and the rows hold the same members -/
def Mi (s : Sf) (L : List Ent) : Prop := (Dc.all s).Perm L ∧ Ris L ∧ (∀ e ∈ L, e.1.size ≤ 1048576) ∧ L.length ≤ 1048576
theorem Mi.cost {s : Sf} {L : List Ent} (h : Mi s L) : rcst L ≤ 1200000000000 := by
  have h1 := rcst_le h.2.2.1
  have h2 := h.2.2.2
  have h3 : L.length * 1048616 ≤ 1048576 * 1048616 := Nat.mul_le_mul_right _ h2
  omega
theorem all_nodup {h : ByteArray → Nat} {s : Sf} (hI : Dc.Inv h s) : (Dc.keys (Dc.all s)).Nodup := by rw [Dc.all_eq hI]; exact hI.nodup
theorem Mi.keys {h : ByteArray → Nat} {s : Sf} {L : List Ent} (hm : Mi s L) (hI : Dc.Inv h s) : (Dc.keys L).Nodup := ((Dc.keys_perm hm.1).nodup_iff).1 (all_nodup hI)
theorem Mi.look {h : ByteArray → Nat} {s : Sf} {L : List Ent} (hm : Mi s L) (hI : Dc.Inv h s) (k : ByteArray) : Dc.look k (Dc.all s) = Dc.look k L := Dc.look_perm (all_nodup hI) hm.1 k
theorem Mi.step {h : ByteArray → Nat} {s : Sf} {L : List Ent} (hm : Mi s L) (hI : Dc.Inv h s) : Mi (Dc.step h s) L := ⟨(Dc.step_inv hI).2.trans hm.1, hm.2⟩
/-- two rows without doubles that hold the same are the same but for the order -/
theorem perm_mem {l m : List Ent} (hl : (Dc.keys l).Nodup) (hm : (Dc.keys m).Nodup) (h : ∀ e, e ∈ l ↔ e ∈ m) : l.Perm m := by
  have n1 : l.Nodup := List.Pairwise.of_map Prod.fst (fun a b hab e => hab (by rw [e])) hl
  have n2 : m.Nodup := List.Pairwise.of_map Prod.fst (fun a b hab e => hab (by rw [e])) hm
  exact (List.perm_ext_iff_of_nodup n1 n2).2 h
def Rk (h : ByteArray → Nat) (w : World) (r : Roles) (R b : Nat) (rv : Value) (T : List Rw) (seed : Nat) (s : Sf) : Prop :=
  Dd h 1048576 w r b seed s ∧ (∀ k ∈ R :: bl rv T, r k = (0, 0)) ∧ Lay w R (.int .u64 seed) (.pointer (some ⟨b, 0, none⟩)) (.int .i64 ((rcst (flat T) : Nat) : Int)) rv T ∧ Gd T ∧ Mi s (flat T)
/-- the blocks of both -/
def rq (r : Roles) (M : List Nat) (k : Nat) : Prop := k ∈ M ∨ r k ≠ (0, 0)
/-- nothing has turned but the blocks O, and new ones -/
def FO (O : Nat → Prop) (w : World) (O' : Nat → Prop) (w' : World) : Prop :=
  (w'.os = w.os ∧ w'.tape = w.tape ∧ w'.output = w.output) ∧ w.heap.size ≤ w'.heap.size ∧ ∀ k, k < w.heap.size → ¬ O k → w'.heap[k]? = w.heap[k]? ∧ ¬ O' k
theorem FO.trans {O O1 O2 : Nat → Prop} {w w1 w2 : World} (h : FO O w O1 w1) (g : FO O1 w1 O2 w2) : FO O w O2 w2 := by
  obtain ⟨⟨a1, a2, a3⟩, a4, a5⟩ := h
  obtain ⟨⟨b1, b2, b3⟩, b4, b5⟩ := g
  refine ⟨⟨b1.trans a1, b2.trans a2, b3.trans a3⟩, Nat.le_trans a4 b4, fun k hk hr => ?_⟩
  obtain ⟨c1, c2⟩ := a5 k hk hr
  obtain ⟨d1, d2⟩ := b5 k (Nat.lt_of_lt_of_le hk a4) c2
  exact ⟨d1.trans c1, d2⟩
theorem FO.below {w w' : World} {O : Nat → Prop} (h : Below w.heap.size w w') : FO O w O w' := ⟨⟨h.os, h.tape, h.output⟩, h.size, fun k hk hr => ⟨h.block k hk, hr⟩⟩
/-- the dict has turned -/
theorem rk_dict {w w' : World} {r r' : Roles} {M : List Nat} (hf : Fr w r w' r') (hM : ∀ k ∈ M, r k = (0, 0)) (hl : ∀ k ∈ M, k < w.heap.size) : FO (rq r M) w (rq r' M) w' ∧ (∀ k ∈ M, r' k = (0, 0)) ∧ ∀ k ∈ M, w'.heap[k]? = w.heap[k]? := by
  refine ⟨⟨hf.1, hf.2.1, fun k hk hn => ?_⟩, fun k hk => (hf.2.2 k (hl k hk) (hM k hk)).2, fun k hk => (hf.2.2 k (hl k hk) (hM k hk)).1⟩
  have h1 : k ∉ M := fun h => hn (.inl h)
  have h2 : r k = (0, 0) := Classical.byContradiction fun h => hn (.inr h)
  obtain ⟨q1, q2⟩ := hf.2.2 k hk h2
  exact ⟨q1, fun h => h.elim h1 (fun h => h q2)⟩
/-- the rows have turned -/
theorem rk_rows {h : ByteArray → Nat} {N : Nat} {w w' : World} {r : Roles} {M M' : List Nat} {b seed : Nat} {s : Sf} (hd : Dd h N w r b seed s) (hf : Fm M w M' w') (hM : ∀ k ∈ M, r k = (0, 0)) : FO (rq r M) w (rq r M') w' ∧ (∀ k ∈ M', r k = (0, 0)) ∧ Dd h N w' r b seed s := by
  have hlt : ∀ k, r k ≠ (0, 0) → k < w.heap.size := hd.1.1
  have hM' : ∀ k ∈ M', r k = (0, 0) := fun k hk => Classical.byContradiction fun hr => by
    have hl := hlt k hr
    have hm : k ∉ M := fun hm => hr (hM k hm)
    exact (hf.2.2 k hl hm).2 hk
  refine ⟨⟨hf.1, hf.2.1, fun k hk hn => ?_⟩, hM', hd.kept hf.2.1 (fun k hk hr => (hf.2.2 k hk (fun hm => hr (hM k hm))).1)⟩
  have h1 : k ∉ M := fun h => hn (.inl h)
  obtain ⟨q1, q2⟩ := hf.2.2 k hk h1
  exact ⟨q1, fun h => h.elim q2 (fun h => hn (.inr h))⟩
/-- the cost has turned -/
theorem Lay.cost {w : World} {R : Nat} {u0 u1 u3 rv : Value} {T : List Rw} (h : Lay w R u0 u1 u3 rv T) (v : Value) : Lay (w.setCell ⟨R, 3, none⟩ v) R u0 u1 v rv T ∧ Fm (R :: bl rv T) w (R :: bl rv T) (w.setCell ⟨R, 3, none⟩ v) := by
  refine ⟨⟨cells_setCell h.1, h.2.1.kept (fun k hk => Below.heap_setCell _ _ _ _ (fun e => h.2.2 (by have e : k = R := e; rw [← e]; exact hk))), h.2.2⟩, ⟨rfl, rfl, rfl⟩, by simp [World.setCell], fun k hk hm => ⟨Below.heap_setCell _ _ _ _ (fun e => hm (by have e : k = R := e; rw [e]; simp)), hm⟩⟩
/-- ranks in the memory: the block of their struct, all their blocks, their members in order -/
def RK (w : World) (O : Nat → Prop) (R seed : Nat) (L : List Ent) : Prop :=
  ∃ h r b rv T s, HashIs seed h ∧ Rk h w r R b rv T seed s ∧ flat T = L ∧ ∀ k, O k ↔ rq r (R :: bl rv T) k
theorem Rk.lt {h : ByteArray → Nat} {w : World} {r : Roles} {R b : Nat} {rv : Value} {T : List Rw} {seed : Nat} {s : Sf} (hk : Rk h w r R b rv T seed s) : ∀ k, rq r (R :: bl rv T) k → k < w.heap.size := fun k hh => hh.elim (hk.2.2.1.lt k) (hk.1.1.1 k)
theorem RK.lt {w : World} {O : Nat → Prop} {R seed : Nat} {L : List Ent} (h : RK w O R seed L) : ∀ k, O k → k < w.heap.size := by
  obtain ⟨h', r, b, rv, T, s, _, hk, _, hO⟩ := h
  exact fun k hh => hk.lt k ((hO k).1 hh)
theorem RK.own {w : World} {O : Nat → Prop} {R seed : Nat} {L : List Ent} (h : RK w O R seed L) : O R := by
  obtain ⟨h', r, b, rv, T, s, _, hk, _, hO⟩ := h
  exact (hO R).2 (.inl (by simp))
theorem RK.kept {w w' : World} {O : Nat → Prop} {R seed : Nat} {L : List Ent} (h : RK w O R seed L) (hs : w.heap.size ≤ w'.heap.size) (hk : ∀ k, O k → w'.heap[k]? = w.heap[k]?) : RK w' O R seed L := by
  obtain ⟨h', r, b, rv, T, s, hH, ⟨d1, d2, d3, d4⟩, hf, hO⟩ := h
  exact ⟨h', r, b, rv, T, s, hH, ⟨d1.kept hs (fun k _ hr => hk k ((hO k).2 (.inr hr))), d2, d3.kept (fun k hm => hk k ((hO k).2 (.inl hm))), d4⟩, hf, hO⟩
theorem RK.below {w w' : World} {O : Nat → Prop} {R seed : Nat} {L : List Ent} (h : RK w O R seed L) (hb : Below w.heap.size w w') : RK w' O R seed L := h.kept hb.size (fun k hk => hb.block k (h.lt k hk))
theorem RK.math {w : World} {O : Nat → Prop} {R seed : Nat} {L : List Ent} (h : RK w O R seed L) : Ris L ∧ (∀ e ∈ L, e.1.size ≤ 1048576) ∧ L.length ≤ 1048576 ∧ (Dc.keys L).Nodup := by
  obtain ⟨h', r, b, rv, T, s, _, hk, rfl, hO⟩ := h
  exact ⟨hk.2.2.2.2.2.1, hk.2.2.2.2.2.2.1, hk.2.2.2.2.2.2.2, hk.2.2.2.2.keys hk.1.2.1⟩
set_option maxHeartbeats 400000 in
theorem knew_any (w : World) (seed : Nat) (hseed : seed < Dw.M) :
    Calls Try.prog 6 #[.int .u64 seed] w fun e w' => (∃ R O, e = .returned (.pointer (some ⟨R, 0, none⟩)) ∧ RK w' O R seed [] ∧ ∀ k, O k → w.heap.size ≤ k) ∧ Below w.heap.size w w' := by
  obtain ⟨h, hH⟩ : ∃ h, HashIs seed h := ⟨_, hs_is seed hseed⟩
  have mN := new_any h w seed 1048576
  go_enter Try.func6, Try.ntmps6
  go_wp2_with fail
  refine mN.mono ?_
  rintro _ w1 ⟨rfl, hb, hz, hd⟩
  go_wp2
  go_ret
  have hnew : (w1.alloc (.cells #[.int .u64 (seed : Int), .pointer (some ⟨w.heap.size, 0, none⟩), .slice none 0 0, .int .i64 0] 63)).heap[w1.heap.size]? = _ := heap_alloc_new w1 _
  refine ⟨⟨w1.heap.size, rq (fun k => if k = w.heap.size then (5, 0) else (0, 0)) [w1.heap.size], by rw [hz]; rfl, ⟨h, _, w.heap.size, .slice none 0 0, [], Dc.none0, hH, ⟨hd.below ((Below.refl _ w1).alloc (Nat.le_refl _) _), ?_, ⟨hnew, ⟨World.ownsRow_nil _ _ _ _, fun x hx => absurd hx (by simp), by simp [bl, Value.ownBlock]⟩, by simp [bl, Value.ownBlock]⟩, fun x hx => absurd hx (by simp), ?_⟩, rfl, fun k => Iff.rfl⟩, fun k hk => ?_⟩, hb.alloc hb.size _⟩
  · intro k hk
    simp [bl, Value.ownBlock] at hk
    subst hk
    rw [if_neg (by omega)]
  · exact ⟨List.Perm.refl _, ⟨List.Pairwise.nil, fun e he => absurd he (by simp [flat_nil])⟩, fun e he => absurd he (by simp [flat_nil]), by simp [flat_nil]⟩
  · rcases hk with hk | hk
    · simp at hk; rw [hk]; exact hb.size
    · by_cases e : k = w.heap.size
      · omega
      · simp [e] at hk
/-- a score, or none -/
def sco (L : List Ent) (k : ByteArray) : Option Nat := Dc.look k L
set_option maxHeartbeats 400000 in
theorem kdict_any {w : World} {R : Nat} {u0 u3 rv : Value} {b : Nat} {T : List Rw} (hL : Lay w R u0 (.pointer (some ⟨b, 0, none⟩)) u3 rv T) :
    Calls Try.prog 38 #[.pointer (some ⟨R, 0, none⟩)] w fun e w' => e = .returned (.pointer (some ⟨b, 0, none⟩)) ∧ w' = w := by
  obtain ⟨c0, c1, c2, c3, cf⟩ := four hL.1
  clear hL c0 c2 c3 cf
  go_enter Try.func38, Try.ntmps38
  go_wp2
  go_ret
  exact ⟨rfl, rfl⟩
set_option maxHeartbeats 400000 in
theorem klen0_any {h : ByteArray → Nat} {w : World} {r : Roles} {R b : Nat} {rv u0 u3 : Value} {T : List Rw} {seed : Nat} {s : Sf} {L : List Ent} (hd : Dd h 1048576 w r b seed s) (hL : Lay w R u0 (.pointer (some ⟨b, 0, none⟩)) u3 rv T) (hp : (Dc.all s).Perm L) :
    Calls Try.prog 15 #[.pointer (some ⟨R, 0, none⟩)] w fun e w' => e = .returned (.int .i64 (L.length : Int)) ∧ w' = w := by
  have mD := kdict_any hL
  have mL := len_t w r b s hd
  rw [show ln s = L.length from hp.length_eq] at mL
  clear hd hL hp
  go_enter Try.func15, Try.ntmps15
  go_wp2_with fail
  refine mD.mono ?_
  rintro _ w1 ⟨rfl, rfl⟩
  go_wp2_with fail
  refine mL.mono ?_
  rintro _ w1 ⟨rfl, rfl⟩
  go_wp2
  go_ret
  exact ⟨rfl, rfl⟩
theorem klen_any {w : World} {O : Nat → Prop} {R seed : Nat} {L : List Ent} (h : RK w O R seed L) :
    Calls Try.prog 15 #[.pointer (some ⟨R, 0, none⟩)] w fun e w' => e = .returned (.int .i64 (L.length : Int)) ∧ w' = w := by
  obtain ⟨h', r, b, rv, T, s, _, hk, rfl, hO⟩ := h
  exact klen0_any hk.1 hk.2.2.1 hk.2.2.2.2.1
set_option maxHeartbeats 400000 in
theorem kcost_any {w : World} {O : Nat → Prop} {R seed : Nat} {L : List Ent} (h : RK w O R seed L) :
    Calls Try.prog 19 #[.pointer (some ⟨R, 0, none⟩)] w fun e w' => e = .returned (.int .i64 ((rcst L : Nat) : Int)) ∧ w' = w := by
  obtain ⟨h', r, b, rv, T, s, _, hk, rfl, hO⟩ := h
  obtain ⟨c0, c1, c2, c3, cf⟩ := four hk.2.2.1.1
  clear hk hO c0 c1 c2 cf
  go_enter Try.func19, Try.ntmps19
  go_wp2
  go_ret
  exact ⟨rfl, rfl⟩
set_option maxHeartbeats 400000 in
theorem kscore0_any {h : ByteArray → Nat} {seed : Nat} (hH : HashIs seed h) {w : World} {r : Roles} {R b : Nat} {rv u0 u3 : Value} {T : List Rw} {s : Sf} {L : List Ent} (hd : Dd h 1048576 w r b seed s) (hL : Lay w R u0 (.pointer (some ⟨b, 0, none⟩)) u3 rv T) (hm : Mi s L) (hM : ∀ k ∈ R :: bl rv T, r k = (0, 0)) (key : ByteArray) (hk : key.size ≤ maxLen) :
    Calls Try.prog 17 #[.pointer (some ⟨R, 0, none⟩), .string key] w fun e w' => e = .returned (got (sco L key)) ∧ ∃ r', Dd h 1048576 w' r' b seed (Dc.step h s) ∧ Lay w' R u0 (.pointer (some ⟨b, 0, none⟩)) u3 rv T ∧ (∀ k ∈ R :: bl rv T, r' k = (0, 0)) ∧ FO (rq r (R :: bl rv T)) w (rq r' (R :: bl rv T)) w' := by
  have mD := kdict_any hL
  have mG := get_any hH w r b s key hd (by omega) hk
  rw [show Dc.look key (Dc.all s) = sco L key from hm.look hd.2.1 key] at mG
  have HL := keep hL
  have HM := keep hM
  clear hd hL hm hM
  unfold got at mG ⊢
  go_enter Try.func17, Try.ntmps17
  go_wp2_with fail
  refine mD.mono ?_
  rintro _ w1 ⟨rfl, rfl⟩
  go_wp2_with fail
  refine mG.mono ?_
  rintro _ w2 ⟨rfl, r', q1, q3⟩
  go_wp2
  refine bodyPost_ret (results_tmp2 rfl _ _ _) rfl ?_
  obtain ⟨t1, t2, t3⟩ := rk_dict q3 HM.out HL.out.lt
  exact ⟨rfl, r', q1, HL.out.kept t3, t2, t1⟩
theorem kscore_any {w : World} {O : Nat → Prop} {R seed : Nat} {L : List Ent} (h : RK w O R seed L) (key : ByteArray) (hk : key.size ≤ maxLen) :
    Calls Try.prog 17 #[.pointer (some ⟨R, 0, none⟩), .string key] w fun e w' => e = .returned (got (sco L key)) ∧ ∃ O', RK w' O' R seed L ∧ FO O w O' w' := by
  obtain ⟨h', r, b, rv, T, s, hH, hR, rfl, hO⟩ := h
  refine (kscore0_any hH hR.1 hR.2.2.1 hR.2.2.2.2 hR.2.1 key hk).mono ?_
  rintro _ w' ⟨rfl, r', q1, q2, q3, q4⟩
  refine ⟨rfl, _, ⟨h', r', b, rv, T, _, hH, ⟨q1, q3, q2, hR.2.2.2.1, hR.2.2.2.2.step hR.1.2.1⟩, rfl, fun k => Iff.rfl⟩, q4.1, q4.2.1, fun k hk hn => q4.2.2 k hk (fun hh => hn ((hO k).2 hh))⟩
end Go.Proofs.Ytapehjlpiobeaaa
