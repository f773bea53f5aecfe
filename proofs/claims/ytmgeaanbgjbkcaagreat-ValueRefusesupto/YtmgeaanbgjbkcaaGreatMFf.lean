/-
  Contracts over this program, put together.
-/
import Derived.Test.YtmgeaanbgjbkcaaGreatMFe
import Derived.Test.YtmgeaanbgjbkcaaGreatMA
import Derived.BigRegion
set_option maxHeartbeats 8000000
namespace Go.Proofs.YtmgeaanbgjbkcaaGreat.DF
open Go.RowKit Go.Shelf
set_option linter.unusedVariables false
set_option linter.unusedSimpArgs false
abbrev Sf : Type := Dc.St ByteArray Nat
def rcst (l : List Ent) : Nat := (l.map fun e => 40 + e.1.size).sum
theorem rcst_perm {l m : List Ent} (h : l.Perm m) : rcst l = rcst m := (h.map _).sum_nat
theorem rcst_cons (e : Ent) (l : List Ent) : rcst (e :: l) = 40 + e.1.size + rcst l := by simp [rcst]
theorem rcst_le {l : List Ent} (h : ∀ e ∈ l, e.1.size ≤ 1048576) : rcst l ≤ l.length * 1048616 := by
  induction l with
  | nil => simp [rcst]
  | cons e l ih =>
    rw [rcst_cons, List.length_cons, Nat.add_mul]
    have h1 := h e (by simp)
    have h2 := ih (fun a ha => h a (by simp [ha]))
    omega
def Mi (s : Sf) (L : List Ent) : Prop := (Dc.all s).Perm L ∧ Ris L ∧ (∀ e ∈ L, e.1.size ≤ 1048576) ∧ L.length ≤ 1048576
theorem Mi.cost {s : Sf} {L : List Ent} (h : Mi s L) : rcst L ≤ 1200000000000 := by
  have h1 := rcst_le h.2.2.1
  have h2 := h.2.2.2
  have h3 : L.length * 1048616 ≤ 1048576 * 1048616 := Nat.mul_le_mul_right _ h2
  omega
theorem all_nodup {h : ByteArray → Nat} {s : Sf} (hI : Dc.Inv h s) : (Dc.keys (Dc.all s)).Nodup := by rw [Dc.all_eq hI]; exact hI.nodup
theorem Mi.keys {h : ByteArray → Nat} {s : Sf} {L : List Ent} (hm : Mi s L) (hI : Dc.Inv h s) : (Dc.keys L).Nodup := ((Dc.keys_perm hm.1).nodup_iff).1 (all_nodup hI)
theorem Mi.look {h : ByteArray → Nat} {s : Sf} {L : List Ent} (hm : Mi s L) (hI : Dc.Inv h s) (k : ByteArray) : Dc.look k (Dc.all s) = Dc.look k L := Dc.look_perm (all_nodup hI) hm.1 k
theorem Mi.step {h : ByteArray → Nat} {s : Sf} {L : List Ent} (hm : Mi s L) (hI : Dc.Inv h s) : Mi (Dc.step h s) L := ⟨(Dc.step_inv hI).2.trans hm.1, hm.2⟩
theorem perm_mem {l m : List Ent} (hl : (Dc.keys l).Nodup) (hm : (Dc.keys m).Nodup) (h : ∀ e, e ∈ l ↔ e ∈ m) : l.Perm m := by
  have n1 : l.Nodup := List.Pairwise.of_map Prod.fst (fun a b hab e => hab (by rw [e])) hl
  have n2 : m.Nodup := List.Pairwise.of_map Prod.fst (fun a b hab e => hab (by rw [e])) hm
  exact (List.perm_ext_iff_of_nodup n1 n2).2 h
def Rk (h : ByteArray → Nat) (w : World) (r : Roles) (R b : Nat) (rv : Value) (T : List Rw) (seed : Nat) (s : Sf) : Prop :=
  Dd h 1048576 w r b seed s ∧ (∀ k ∈ R :: bl rv T, r k = (0, 0)) ∧ Lay w R (.int .u64 seed) (.pointer (some ⟨b, 0, none⟩)) (.int .i64 ((rcst (flat T) : Nat) : Int)) rv T ∧ Gd T ∧ Mi s (flat T)
def rq (r : Roles) (M : List Nat) (k : Nat) : Prop := k ∈ M ∨ r k ≠ (0, 0)
def FO (O : Nat → Prop) (w : World) (O' : Nat → Prop) (w' : World) : Prop :=
  (w'.os = w.os ∧ w'.tape = w.tape ∧ w'.output = w.output) ∧ w.heap.size ≤ w'.heap.size ∧ ∀ k, k < w.heap.size → ¬ O k → w'.heap[k]? = w.heap[k]? ∧ ¬ O' k
theorem FO.trans {O O1 O2 : Nat → Prop} {w w1 w2 : World} (h : FO O w O1 w1) (g : FO O1 w1 O2 w2) : FO O w O2 w2 := by
  obtain ⟨⟨a1, a2, a3⟩, a4, a5⟩ := h
  obtain ⟨⟨b1, b2, b3⟩, b4, b5⟩ := g
  refine ⟨⟨b1.trans a1, b2.trans a2, b3.trans a3⟩, Nat.le_trans a4 b4, fun k hk hr => ?_⟩
  obtain ⟨c1, c2⟩ := a5 k hk hr
  obtain ⟨d1, d2⟩ := b5 k (Nat.lt_of_lt_of_le hk a4) c2
  exact ⟨d1.trans c1, d2⟩
theorem rk_dict {w w' : World} {r r' : Roles} {M : List Nat} (hf : Fr w r w' r') (hM : ∀ k ∈ M, r k = (0, 0)) (hl : ∀ k ∈ M, k < w.heap.size) : FO (rq r M) w (rq r' M) w' ∧ (∀ k ∈ M, r' k = (0, 0)) ∧ ∀ k ∈ M, w'.heap[k]? = w.heap[k]? := by
  refine ⟨⟨hf.1, hf.2.1, fun k hk hn => ?_⟩, fun k hk => (hf.2.2 k (hl k hk) (hM k hk)).2, fun k hk => (hf.2.2 k (hl k hk) (hM k hk)).1⟩
  have h1 : k ∉ M := fun h => hn (.inl h)
  have h2 : r k = (0, 0) := Classical.byContradiction fun h => hn (.inr h)
  obtain ⟨q1, q2⟩ := hf.2.2 k hk h2
  exact ⟨q1, fun h => h.elim h1 (fun h => h q2)⟩
theorem rk_rows {h : ByteArray → Nat} {N : Nat} {w w' : World} {r : Roles} {M M' : List Nat} {b seed : Nat} {s : Sf} (hd : Dd h N w r b seed s) (hf : Fm M w M' w') (hM : ∀ k ∈ M, r k = (0, 0)) : FO (rq r M) w (rq r M') w' ∧ (∀ k ∈ M', r k = (0, 0)) ∧ Dd h N w' r b seed s := by
  have hlt : ∀ k, r k ≠ (0, 0) → k < w.heap.size := hd.1.1
  have hM' : ∀ k ∈ M', r k = (0, 0) := fun k hk => Classical.byContradiction fun hr => by
    have hl := hlt k hr
    have hm : k ∉ M := fun hm => hr (hM k hm)
    exact (hf.2.2 k hl hm).2 hk
  refine ⟨⟨hf.1, hf.2.1, fun k hk hn => ?_⟩, hM', hd.kept hf.2.1 (fun k hk hr => (hf.2.2 k hk (fun hm => hr (hM k hm))).1)⟩
  have h1 : k ∉ M := fun h => hn (.inl h)
  obtain ⟨q1, q2⟩ := hf.2.2 k hk h1
  exact ⟨q1, fun h => h.elim q2 (fun h => hn (.inr h))⟩
theorem Lay.cost {w : World} {R : Nat} {u0 u1 u3 rv : Value} {T : List Rw} (h : Lay w R u0 u1 u3 rv T) (v : Value) : Lay (w.setCell ⟨R, 3, none⟩ v) R u0 u1 v rv T ∧ Fm (R :: bl rv T) w (R :: bl rv T) (w.setCell ⟨R, 3, none⟩ v) := by
  refine ⟨⟨cells_setCell h.1, h.2.1.kept (fun k hk => Below.heap_setCell _ _ _ _ (fun e => h.2.2 (by have e : k = R := e; rw [← e]; exact hk))), h.2.2⟩, ⟨rfl, rfl, rfl⟩, by simp [World.setCell], fun k hk hm => ⟨Below.heap_setCell _ _ _ _ (fun e => hm (by have e : k = R := e; rw [e]; simp)), hm⟩⟩
def RK (w : World) (O : Nat → Prop) (R seed : Nat) (L : List Ent) : Prop :=
  ∃ h r b rv T s, HashIs seed h ∧ Rk h w r R b rv T seed s ∧ flat T = L ∧ ∀ k, O k ↔ rq r (R :: bl rv T) k
theorem Rk.lt {h : ByteArray → Nat} {w : World} {r : Roles} {R b : Nat} {rv : Value} {T : List Rw} {seed : Nat} {s : Sf} (hk : Rk h w r R b rv T seed s) : ∀ k, rq r (R :: bl rv T) k → k < w.heap.size := fun k hh => hh.elim (hk.2.2.1.lt k) (hk.1.1.1 k)
theorem RK.lt {w : World} {O : Nat → Prop} {R seed : Nat} {L : List Ent} (h : RK w O R seed L) : ∀ k, O k → k < w.heap.size := by
  obtain ⟨h', r, b, rv, T, s, _, hk, _, hO⟩ := h
  exact fun k hh => hk.lt k ((hO k).1 hh)
theorem RK.kept {w w' : World} {O : Nat → Prop} {R seed : Nat} {L : List Ent} (h : RK w O R seed L) (hs : w.heap.size ≤ w'.heap.size) (hk : ∀ k, O k → w'.heap[k]? = w.heap[k]?) : RK w' O R seed L := by
  obtain ⟨h', r, b, rv, T, s, hH, ⟨d1, d2, d3, d4⟩, hf, hO⟩ := h
  exact ⟨h', r, b, rv, T, s, hH, ⟨d1.kept hs (fun k _ hr => hk k ((hO k).2 (.inr hr))), d2, d3.kept (fun k hm => hk k ((hO k).2 (.inl hm))), d4⟩, hf, hO⟩
theorem RK.below {w w' : World} {O : Nat → Prop} {R seed : Nat} {L : List Ent} (h : RK w O R seed L) (hb : Below w.heap.size w w') : RK w' O R seed L := h.kept hb.size (fun k hk => hb.block k (h.lt k hk))
theorem RK.math {w : World} {O : Nat → Prop} {R seed : Nat} {L : List Ent} (h : RK w O R seed L) : Ris L ∧ (∀ e ∈ L, e.1.size ≤ 1048576) ∧ L.length ≤ 1048576 ∧ (Dc.keys L).Nodup := by
  obtain ⟨h', r, b, rv, T, s, _, hk, rfl, hO⟩ := h
  exact ⟨hk.2.2.2.2.2.1, hk.2.2.2.2.2.2.1, hk.2.2.2.2.2.2.2, hk.2.2.2.2.keys hk.1.2.1⟩
theorem knew_any (w : World) (seed : Nat) (hseed : seed < Dw.M) :
    Calls Tryz.prog 75 #[.int .u64 seed] w fun e w' => (∃ R O, e = .returned (.pointer (some ⟨R, 0, none⟩)) ∧ RK w' O R seed [] ∧ ∀ k, O k → w.heap.size ≤ k) ∧ Below w.heap.size w w' := by
  obtain ⟨h, hH⟩ : ∃ h, HashIs seed h := ⟨_, hs_is seed hseed⟩
  have mN := new_any h w seed 1048576
  go_enter Tryz.func75, Tryz.ntmps75
  go_wp2_with fail
  refine mN.mono ?_
  rintro _ w1 ⟨rfl, hb, hz, hd⟩
  go_wp2
  go_ret
  have hnew : (w1.alloc (.cells #[.int .u64 (seed : Int), .pointer (some ⟨w.heap.size, 0, none⟩), .slice none 0 0, .int .i64 0] 201)).heap[w1.heap.size]? = _ := heap_alloc_new w1 _
  refine ⟨⟨w1.heap.size, rq (fun k => if k = w.heap.size then (5, 0) else (0, 0)) [w1.heap.size], by rw [hz]; rfl, ⟨h, _, w.heap.size, .slice none 0 0, [], Dc.none0, hH, ⟨hd.below ((Below.refl _ w1).alloc (Nat.le_refl _) _), ?_, ⟨hnew, ⟨World.ownsRow_nil _ _ _ _, fun x hx => absurd hx (by simp), by simp [bl, Value.ownBlock]⟩, by simp [bl, Value.ownBlock]⟩, fun x hx => absurd hx (by simp), ?_⟩, rfl, fun k => Iff.rfl⟩, fun k hk => ?_⟩, hb.alloc hb.size _⟩
  · intro k hk
    simp [bl, Value.ownBlock] at hk
    subst hk
    rw [if_neg (by omega)]
  · exact ⟨List.Perm.refl _, ⟨List.Pairwise.nil, fun e he => absurd he (by simp [flat_nil])⟩, fun e he => absurd he (by simp [flat_nil]), by simp [flat_nil]⟩
  · rcases hk with hk | hk
    · simp at hk; rw [hk]; exact hb.size
    · by_cases e : k = w.heap.size
      · omega
      · simp [e] at hk
def sco (L : List Ent) (k : ByteArray) : Option Nat := Dc.look k L
theorem kdict_any {w : World} {R : Nat} {u0 u3 rv : Value} {b : Nat} {T : List Rw} (hL : Lay w R u0 (.pointer (some ⟨b, 0, none⟩)) u3 rv T) :
    Calls Tryz.prog 176 #[.pointer (some ⟨R, 0, none⟩)] w fun e w' => e = .returned (.pointer (some ⟨b, 0, none⟩)) ∧ w' = w := by
  obtain ⟨c0, c1, c2, c3, cf⟩ := four hL.1
  clear hL c0 c2 c3 cf
  go_enter Tryz.func176, Tryz.ntmps176
  go_wp2
  go_ret
  exact ⟨rfl, rfl⟩
theorem klen0_any {h : ByteArray → Nat} {w : World} {r : Roles} {R b : Nat} {rv u0 u3 : Value} {T : List Rw} {seed : Nat} {s : Sf} {L : List Ent} (hd : Dd h 1048576 w r b seed s) (hL : Lay w R u0 (.pointer (some ⟨b, 0, none⟩)) u3 rv T) (hp : (Dc.all s).Perm L) :
    Calls Tryz.prog 117 #[.pointer (some ⟨R, 0, none⟩)] w fun e w' => e = .returned (.int .i64 (L.length : Int)) ∧ w' = w := by
  have mD := kdict_any hL
  have mL := len_t w r b s hd
  rw [show ln s = L.length from hp.length_eq] at mL
  clear hd hL hp
  go_enter Tryz.func117, Tryz.ntmps117
  go_wp2_with fail
  refine mD.mono ?_
  rintro _ w1 ⟨rfl, rfl⟩
  go_wp2_with fail
  refine mL.mono ?_
  rintro _ w1 ⟨rfl, rfl⟩
  go_wp2
  go_ret
  exact ⟨rfl, rfl⟩
theorem klen_any {w : World} {O : Nat → Prop} {R seed : Nat} {L : List Ent} (h : RK w O R seed L) :
    Calls Tryz.prog 117 #[.pointer (some ⟨R, 0, none⟩)] w fun e w' => e = .returned (.int .i64 (L.length : Int)) ∧ w' = w := by
  obtain ⟨h', r, b, rv, T, s, _, hk, rfl, hO⟩ := h
  exact klen0_any hk.1 hk.2.2.1 hk.2.2.2.2.1
theorem kcost_any {w : World} {O : Nat → Prop} {R seed : Nat} {L : List Ent} (h : RK w O R seed L) :
    Calls Tryz.prog 306 #[.pointer (some ⟨R, 0, none⟩)] w fun e w' => e = .returned (.int .i64 ((rcst L : Nat) : Int)) ∧ w' = w := by
  obtain ⟨h', r, b, rv, T, s, _, hk, rfl, hO⟩ := h
  obtain ⟨c0, c1, c2, c3, cf⟩ := four hk.2.2.1.1
  clear hk hO c0 c1 c2 cf
  go_enter Tryz.func306, Tryz.ntmps306
  go_wp2
  go_ret
  exact ⟨rfl, rfl⟩
theorem kscore0_any {h : ByteArray → Nat} {seed : Nat} (hH : HashIs seed h) {w : World} {r : Roles} {R b : Nat} {rv u0 u3 : Value} {T : List Rw} {s : Sf} {L : List Ent} (hd : Dd h 1048576 w r b seed s) (hL : Lay w R u0 (.pointer (some ⟨b, 0, none⟩)) u3 rv T) (hm : Mi s L) (hM : ∀ k ∈ R :: bl rv T, r k = (0, 0)) (key : ByteArray) (hk : key.size ≤ maxLen) :
    Calls Tryz.prog 150 #[.pointer (some ⟨R, 0, none⟩), .string key] w fun e w' => e = .returned (got (sco L key)) ∧ ∃ r', Dd h 1048576 w' r' b seed (Dc.step h s) ∧ Lay w' R u0 (.pointer (some ⟨b, 0, none⟩)) u3 rv T ∧ (∀ k ∈ R :: bl rv T, r' k = (0, 0)) ∧ FO (rq r (R :: bl rv T)) w (rq r' (R :: bl rv T)) w' := by
  have mD := kdict_any hL
  have mG := get_any hH w r b s key hd (by omega) hk
  rw [show Dc.look key (Dc.all s) = sco L key from hm.look hd.2.1 key] at mG
  have HL := keep hL
  have HM := keep hM
  clear hd hL hm hM
  unfold got at mG ⊢
  go_enter Tryz.func150, Tryz.ntmps150
  go_wp2_with fail
  refine mD.mono ?_
  rintro _ w1 ⟨rfl, rfl⟩
  go_wp2_with fail
  refine mG.mono ?_
  rintro _ w2 ⟨rfl, r', q1, q3⟩
  go_wp2
  refine bodyPost_ret (results_tmp2 rfl _ _ _) rfl ?_
  obtain ⟨t1, t2, t3⟩ := rk_dict q3 HM.out HL.out.lt
  exact ⟨rfl, r', q1, HL.out.kept t3, t2, t1⟩
end Go.Proofs.YtmgeaanbgjbkcaaGreat.DF

namespace Go.Proofs.YtmgeaanbgjbkcaaGreat.DF
open Go.RowKit Go.Shelf
set_option linter.unusedVariables false
set_option linter.unusedSimpArgs false
theorem putIn_any (w : World) (R : Nat) (u0 u1 u3 rv : Value) (T : List Rw) (e : Ent) (hL : Lay w R u0 u1 u3 rv T) (hG : Gd T) (hRis : Ris (flat T)) (hnum : Num e) (hb : (flat T).length ≤ 1500000) :
    Calls Tryz.prog 155 #[.pointer (some ⟨R, 0, none⟩), agE e] w fun en w' => en = .returned (.tuple #[]) ∧ Putd R u0 u1 u3 rv T e w w' := by
  cases T with
  | nil => exact putIn_nil w R u0 u1 u3 rv e hL
  | cons x T => exact putIn_some w R u0 u1 u3 rv (x :: T) e hL hG hRis hnum hb (by simp)
theorem okd_set_le {h : ByteArray → Nat} {N : Nat} {s : Sf} (hO : Okd h N s) {key : ByteArray} (hk : key.size ≤ maxLen) (v : Nat) (hn : Dc.look key (Dc.all s) = none → (Dc.all s).length < N) : Okd h N (Dc.set h s key v).1 := by
  have hO1 := okd_set hO hk v
  obtain ⟨h1, h2, h3, h4, h5⟩ := hO
  obtain ⟨q1, q2, q3, q4⟩ := Dc.set_inv h1 key v
  have hS := (okd_step ⟨h1, h2, h3, h4, h5⟩).1
  have hS2 := (okd_step ⟨h1, h2, h3, h4, h5⟩).2
  refine ⟨hO1.1, hO1.2.1, ?_, ?_⟩
  · rw [q4]
    cases hl : Dc.look key (Dc.all s) with
    | none => have := hn hl; simp; omega
    | some x => simp; exact h3
  · obtain ⟨_, _, s3, s4, s5⟩ := hS
    unfold Dc.set
    split
    · unfold Dc.every
      simp only [List.length_map]
      omega
    · have := grow_len (n := (Dc.all (Dc.step h s)).length) (N := N) (s := Dc.step h s) (by omega) (by omega) (by omega)
      exact lay_len this
def Sets (L : List Ent) (k : ByteArray) (x : Nat) (L' : List Ent) : Prop := ∀ e, e ∈ L' ↔ e = (k, x) ∨ (e ∈ L ∧ e.1 ≠ k)
theorem keys_of {L : List Ent} (hR : Ris L) (hu : ∀ a ∈ L, ∀ b ∈ L, a.1 = b.1 → a = b) : (Dc.keys L).Nodup := by
  unfold Dc.keys List.Nodup
  rw [List.pairwise_map]
  refine List.Pairwise.imp_of_mem ?_ hR.1
  intro a b ha hb hab e
  have := hu a ha b hb e
  rw [this, ahd_irr (hR.2 b hb)] at hab
  cases hab
theorem keys_uniq {L : List Ent} (hn : (Dc.keys L).Nodup) : ∀ a ∈ L, ∀ b ∈ L, a.1 = b.1 → a = b := by
  intro a ha b hb e
  have h1 := (Dc.look_mem hn a.1 a.2).2 ha
  have h2 := (Dc.look_mem hn b.1 b.2).2 hb
  rw [e, h2] at h1
  exact Prod.ext e (Option.some.inj h1).symm
theorem sets_keys {L L' : List Ent} {k : ByteArray} {x : Nat} (hn : (Dc.keys L).Nodup) (hs : Sets L k x L') (hR : Ris L') : (Dc.keys L').Nodup := by
  refine keys_of hR (fun a ha b hb e => ?_)
  rcases (hs a).1 ha with rfl | ⟨h1, h2⟩ <;> rcases (hs b).1 hb with rfl | ⟨g1, g2⟩
  · rfl
  · exact absurd e.symm g2
  · exact absurd e h2
  · exact keys_uniq hn a h1 b g1 e
theorem mi_set {h : ByteArray → Nat} {s : Sf} {L L' : List Ent} {k : ByteArray} {x : Nat} (hm : Mi s L) (hI : Dc.Inv h s) (hR : Ris L') (hs : Sets L k x L') (hk : k.size ≤ 1048576) (hf : sco L k = none → L.length < 1048576) : Mi (Dc.set h s k x).1 L' := by
  obtain ⟨q1, q2, q3, q4⟩ := Dc.set_inv hI k x
  have hkL := hm.keys hI
  have hkL' := sets_keys hkL hs hR
  have hp : (Dc.all (Dc.set h s k x).1).Perm L' := by
    refine perm_mem (all_nodup q1) hkL' (fun e => ?_)
    rw [← Dc.look_mem (all_nodup q1) e.1 e.2, q3, hs e]
    by_cases he : e.1 = k
    · rw [if_pos he]
      constructor
      · intro hx; left; exact Prod.ext he (Option.some.inj hx).symm
      · rintro (rfl | ⟨_, hne⟩)
        · rfl
        · exact absurd he hne
    · rw [if_neg he, hm.look hI, Dc.look_mem hkL]
      constructor
      · intro hh; exact .inr ⟨hh, he⟩
      · rintro (rfl | ⟨hh, _⟩)
        · exact absurd rfl he
        · exact hh
  refine ⟨hp, hR, fun e he => ?_, ?_⟩
  · rcases (hs e).1 he with rfl | ⟨h1, _⟩
    · exact hk
    · exact hm.2.2.1 e h1
  · rw [← hp.length_eq, q4, hm.look hI]
    have h1 := hm.1.length_eq
    have h2 := hm.2.2.2
    cases hl : Dc.look k L with
    | none => have := hf hl; simp; omega
    | some y => simp; omega
theorem pl_sets {L L' : List Ent} {k : ByteArray} {x : Nat} (h : Pl L (k, x) L') (hR : Ris L) (hx : isNan x = false) (hn : ∀ e ∈ L, e.1 ≠ k) : Sets L k x L' ∧ Ris L' ∧ L'.Perm ((k, x) :: L) := by
  obtain ⟨l1, l2, rfl, rfl, h1, h2⟩ := h
  refine ⟨fun e => ?_, ris_put hR hx h1 h2 hn, List.perm_middle⟩
  simp only [List.mem_append, List.mem_cons]
  constructor
  · rintro (h | h | h)
    · exact .inr ⟨.inl h, hn e (by simp [h])⟩
    · exact .inl h
    · exact .inr ⟨.inr h, hn e (by simp [h])⟩
  · rintro (h | ⟨h | h, _⟩)
    · exact .inr (.inl h)
    · exact .inl h
    · exact .inr (.inr h)
theorem sco_none {L : List Ent} {k : ByteArray} (h : sco L k = none) : ∀ e ∈ L, e.1 ≠ k := fun e he hk => (Dc.look_none k).1 h (List.mem_map.2 ⟨e, he, hk⟩)
theorem costOf_any (a : ByteArray) (w : World) (ha : a.size ≤ 1048576) :
    Calls Tryz.prog 152 #[.string a] w fun e w' => e = .returned (.int .i64 ((40 + a.size : Nat) : Int)) ∧ w' = w := by
  have w1 : IntKind.i64.wrap (40 + (a.size : Int)) = 40 + (a.size : Int) := by rw [IntKind.wrap_i64]; omega
  clear ha
  go_enter Tryz.func152, Tryz.ntmps152
  go_wp2
  go_ret
  exact ⟨by simp [Int.natCast_add], rfl⟩
theorem kset_end {h : ByteArray → Nat} {seed : Nat} {w w1 w3 w4 : World} {r r1 r4 : Roles} {O : Nat → Prop} {R b : Nat} {rv rv3 : Value} {T T3 : List Rw} {s1 : Sf} {L L' : List Ent} {key : ByteArray} {x : Nat} {U : Int} (hH : HashIs seed h) (hO : ∀ k, O k ↔ rq r (R :: bl rv T) k) (f1 : FO (rq r (R :: bl rv T)) w (rq r1 (R :: bl rv T)) w1) (d1 : Dd h 1048576 w1 r1 b seed s1) (m1 : ∀ k ∈ R :: bl rv T, r1 k = (0, 0))
    (hm : Mi s1 L) (hF : Fm (R :: bl rv T) w1 (R :: bl rv3 T3) w3) (hL3 : Lay w3 R (.int .u64 seed) (.pointer (some ⟨b, 0, none⟩)) (.int .i64 U) rv3 T3) (hG3 : Gd T3) (hfl : flat T3 = L') (hR' : Ris L') (hS : Sets L key x L') (hU : U = ((rcst L' : Nat) : Int)) (hk : key.size ≤ 1048576) (hroom : sco L key = none → L.length < 1048576)
    (dS : Dd h (1048576 + 1) w4 r4 b seed (Dc.set h s1 key x).1) (fS : Fr w3 r1 w4 r4) : ∃ O', RK w4 O' R seed L' ∧ FO O w O' w4 := by
  obtain ⟨a1, a2, a3⟩ := rk_rows d1 hF m1
  obtain ⟨t1, t2, t3⟩ := rk_dict fS a2 hL3.lt
  have hkm : key.size ≤ maxLen := by unfold maxLen; omega
  have ok := okd_set_le d1.2 hkm x (fun hn => by
    have h1 := hm.1.length_eq
    have h2 := hm.look d1.2.1 key
    rw [hn] at h2
    have := hroom h2.symm
    omega)
  refine ⟨rq r4 (R :: bl rv3 T3), ⟨h, r4, b, rv3, T3, _, hH, ⟨⟨dS.1, ok⟩, t2, ?_, hG3, ?_⟩, hfl, fun k => Iff.rfl⟩, ?_⟩
  · have := hL3.kept t3
    rw [hU, ← hfl] at this
    exact this
  · rw [hfl]; exact mi_set hm d1.2.1 hR' hS hk hroom
  · have := (f1.trans a1).trans t1
    exact ⟨this.1, this.2.1, fun k hk hn => this.2.2 k hk (fun hh => hn ((hO k).2 hh))⟩
set_option maxRecDepth 100000 in
theorem kset_new {w : World} {O : Nat → Prop} {R seed : Nat} {L : List Ent} (hK : RK w O R seed L) (key : ByteArray) (x : Nat) (hk : key.size ≤ 1048576) (hx : isNan x = false) (hs : sco L key = none) (hl : L.length < 1048576) :
    Calls Tryz.prog 92 #[.pointer (some ⟨R, 0, none⟩), .string key, .float .f64 x] w fun e w' => e = .returned (.tuple #[.bool true, .int .i64 0]) ∧ ∃ O' L', Sets L key x L' ∧ RK w' O' R seed L' ∧ FO O w O' w' := by
  have sf : ∀ (x : Nat) (w : World) (a : Addr), (store a (.float .f64 x)).run Tryz.prog w = stored Tryz.prog w a (.float .f64 x) .plain := fun x w a => run_store _ w a _ _ rfl
  obtain ⟨h, r, b, rv, T, s, hH, hR, rfl, hO⟩ := hK
  have hkm : key.size ≤ maxLen := by unfold maxLen; omega
  have h1 : decide ((1048576 : Int) < (key.size : Int)) = false := decide_eq_false (by omega)
  have mI := isnan_any x w
  rw [hx] at mI
  have mS := kscore0_any hH hR.1 hR.2.2.1 hR.2.2.2.2 hR.2.1 key hkm
  rw [hs] at mS
  unfold got at mS
  have h2 : decide ((1048576 : Int) ≤ ((flat T).length : Int)) = false := decide_eq_false (by omega)
  have h2' : ¬ 1048576 ≤ (flat T).length := by omega
  have hcost := hR.2.2.2.2.cost
  obtain ⟨C1, hC1⟩ : ∃ C1 : Int, ((rcst (flat T) : Nat) : Int) = C1 := ⟨_, rfl⟩
  obtain ⟨C2, hC2⟩ : ∃ C2 : Int, ((40 + key.size : Nat) : Int) = C2 := ⟨_, rfl⟩
  obtain ⟨C3, hC3⟩ : ∃ C3 : Int, ((40 + key.size + rcst (flat T) : Nat) : Int) = C3 := ⟨_, rfl⟩
  have hw : IntKind.i64.wrap (C1 + C2) = C3 := by rw [IntKind.wrap_i64]; omega
  have MC := keep (fun W => costOf_any key W hk)
  rw [hC2] at MC
  rw [hC1] at mS
  have hm1 := hR.2.2.2.2.step hR.1.2.1
  have TAIL : ∀ (w1 w2 : World) (r1 : Roles), Dd h 1048576 w1 r1 b seed (Dc.step h s) → (∀ k ∈ R :: bl rv T, r1 k = (0, 0)) → FO (rq r (R :: bl rv T)) w (rq r1 (R :: bl rv T)) w1 → Lay w1 R (.int .u64 seed) (.pointer (some ⟨b, 0, none⟩)) (.int .i64 C1) rv T → w2 = w1.drew.setCell ⟨R, 3, none⟩ (.int .i64 C3) →
      Calls Tryz.prog 155 #[.pointer (some ⟨R, 0, none⟩), agE (key, x)] w2 fun en w3 => en = .returned (.tuple #[]) ∧ w3.cell? ⟨R, 1, none⟩ = some (.pointer (some ⟨b, 0, none⟩)) ∧ Kept (Calls Tryz.prog 156 #[.pointer (some ⟨b, 0, none⟩), .string key, .float .f64 x] w3 fun en w4 => en = .returned (.bool true) ∧ ∃ O' L', Sets (flat T) key x L' ∧ RK w4 O' R seed L' ∧ FO O w O' w4) := by
    intro w1 w2 r1 d1 m1 f1 l1 hw2
    obtain ⟨l2, f2⟩ := (Lay.drew l1).cost (.int .i64 C3)
    rw [← hw2] at l2 f2
    refine (putIn_any w2 R _ _ _ rv T (key, x) l2 hR.2.2.2.1 hR.2.2.2.2.2.1 hx (by have := hR.2.2.2.2.2.2.2; omega)).mono ?_
    rintro _ w3 ⟨rfl, L', hPl, rv3, T3, l3, e3, g3, f3⟩
    obtain ⟨s1, s2, s3⟩ := pl_sets hPl hR.2.2.2.2.2.1 hx (sco_none hs)
    have f23 : Fm (R :: bl rv T) w1 (R :: bl rv3 T3) w3 := ((Fm.below (Below.refl _ w1).drew).trans f2).trans f3
    obtain ⟨a1, a2, a3⟩ := rk_rows d1 f23 m1
    refine ⟨rfl, (four l3.1).2.1, ?_⟩
    refine (set_any hH w3 r1 b _ key x a3 (by omega) hkm).mono ?_
    rintro _ w4 ⟨rfl, r4, q1, q2⟩
    refine ⟨by rw [hm1.look d1.2.1, show Dc.look key (flat T) = none from hs]; rfl, ?_⟩
    obtain ⟨O', z1, z2⟩ := kset_end hH hO f1 d1 m1 hm1 f23 l3 g3 e3 s2 s1 (by rw [← hC3, rcst_perm s3, rcst_cons]) hk (fun _ => hl) q1 q2
    exact ⟨O', L', s1, z1, z2⟩
  have TL := keep TAIL
  have HM1 := keep hm1
  clear hR hO hkm hx hs hl hk hcost hC1 hC2 hC3 TAIL hm1
  go_enter Tryz.func92, Tryz.ntmps92
  go_wp2_with fail
  refine mI.mono ?_
  rintro _ _ ⟨rfl, hw0⟩
  obtain rfl := hw0.symm
  go_wp2_with fail
  refine mS.mono ?_
  rintro _ w1 ⟨rfl, r1, q1, q2, q3, q4⟩
  have mL := klen0_any q1 q2 HM1.out.1
  obtain ⟨c0, c1, c2, c3, cf⟩ := four q2.1
  have cf3 := cf 3
  have TL1 := keep (TL.out w1 _ r1 q1 q3 q4 q2 rfl)
  clear mS mI q1 q2 q3 q4 TL c0 c1 c2 cf
  go_wp2_with fail
  refine mL.mono ?_
  rintro _ _ ⟨rfl, hw0⟩
  obtain rfl := hw0.symm
  clear mL
  go_wp2
  go_region_with (first | (go_at_call 152; refine (MC.out _).mono ?_; rintro _ _ ⟨rfl, rfl⟩))
  all_goals
    have tl := TL1.out
    unfold agE at tl
    dsimp only at tl
    go_wp2_with fail
    refine tl.mono ?_
    rintro _ w3 ⟨rfl, cb, mD⟩
    clear tl TL1
    go_wp2_with fail
    refine mD.out.mono ?_
    rintro _ w4 ⟨rfl, hz⟩
    have Z := keep hz
    clear hz mD
    go_wp2
    refine bodyPost_ret (results_tmp2 rfl _ _ _) rfl ?_
    exact ⟨rfl, Z.out⟩
end Go.Proofs.YtmgeaanbgjbkcaaGreat.DF

namespace Go.Proofs.YtmgeaanbgjbkcaaGreat.DF
open Go.RowKit Go.Shelf
set_option linter.unusedVariables false
set_option linter.unusedSimpArgs false
def seg (L : List Ent) (a b : Nat) : List Ent := (L.take b).drop a
theorem seg_len (L : List Ent) (a b : Nat) : (seg L a b).length = min b L.length - a := by unfold seg; rw [List.length_drop, List.length_take]
theorem seg_app (L M : List Ent) (a b : Nat) : seg (L ++ M) a b = seg L a b ++ seg M (a - L.length) (b - L.length) := by
  unfold seg
  rw [List.take_append, List.drop_append, List.length_take]
  rcases Nat.le_total b L.length with h | h
  · rw [show b - L.length = 0 by omega]; simp
  · rw [Nat.min_eq_right h]
def Mr (B : Nat) (w : World) (v : Value) (M : List Ent) : Prop := w.ownsRow B 73 2 v M.length (enR M)
theorem krange_out {w : World} {O : Nat → Prop} {R seed : Nat} {L : List Ent} (hK : RK w O R seed L) (a b : Int) (h : min b (L.length : Int) ≤ max a 0) :
    Calls Tryz.prog 379 #[.pointer (some ⟨R, 0, none⟩), .int .i64 a, .int .i64 b] w fun e w' => e = .returned (.slice none 0 0) ∧ w' = w := by
  have mL := klen_any hK
  obtain ⟨n, hn⟩ : ∃ n, L.length = n := ⟨_, rfl⟩
  rw [hn] at mL h
  clear hK hn
  by_cases ha : 0 ≤ a <;> by_cases hb : b ≤ (n : Int)
  · have h1 : b ≤ a := by omega
    clear h
    go_enter Tryz.func379, Tryz.ntmps379
    go_wp2_with fail
    refine mL.mono ?_
    rintro _ _ ⟨rfl, hw⟩
    obtain rfl := hw.symm
    clear mL
    go_wp2
    go_ret
    exact ⟨rfl, rfl⟩
  · have h1 : (n : Int) ≤ a := by omega
    clear h
    go_enter Tryz.func379, Tryz.ntmps379
    go_wp2_with fail
    refine mL.mono ?_
    rintro _ _ ⟨rfl, hw⟩
    obtain rfl := hw.symm
    clear mL
    go_wp2
    go_ret
    exact ⟨rfl, rfl⟩
  · have h1 : b ≤ 0 := by omega
    clear h
    go_enter Tryz.func379, Tryz.ntmps379
    go_wp2_with fail
    refine mL.mono ?_
    rintro _ _ ⟨rfl, hw⟩
    obtain rfl := hw.symm
    clear mL
    go_wp2
    go_ret
    exact ⟨rfl, rfl⟩
  · have h1 : (n : Int) ≤ 0 := by omega
    have h2 : n = 0 := by omega
    subst h2
    clear h
    go_enter Tryz.func379, Tryz.ntmps379
    go_wp2_with fail
    refine mL.mono ?_
    rintro _ _ ⟨rfl, hw⟩
    obtain rfl := hw.symm
    clear mL
    go_wp2
    go_ret
    exact ⟨rfl, rfl⟩
theorem range_round {wr : World} {B g n c lx cx m1 m2 : Nat} {tv : Value} {M mx : List Ent} {gx : Nat} (hb : B ≤ wr.heap.size) (ht : Mr B wr tv M) (hx : Row wr (gx, cx, mx)) (hl : mx.length = lx) (h12 : m1 ≤ m2) (h2 : m2 ≤ lx) (hM : M.length + lx ≤ 5000000) (hgx : gx < B) :
    ∃ so cc v' w' o' c', (∀ w, (Instr.slice 28 (.slice (some ⟨gx, 0, none⟩) lx cx) (some (.int .i64 (m1 : Int))) (some (.int .i64 (m2 : Int))) none).run Tryz.prog w = .ok (.slice (some so) (m2 - m1) cc) w) ∧
      (Builtin.append_ #[28, 28] 28 #[tv, .slice (some so) (m2 - m1) cc]).run Tryz.prog wr = .ok v' w' ∧ v' = .slice o' (M ++ seg mx m1 m2).length c' ∧ Mr B w' v' (M ++ seg mx m1 m2) ∧ Below B wr w' := by
  obtain ⟨i0, hi0, hz0, hz1, hz2⟩ := info_parts info_rk
  have uT := Tryz.underlying28
  obtain ⟨cur, hcur, hcc, hcm, hsz, htk, hxl⟩ := own_cur hx
  dsimp only at hcur hcc hcm hsz htk hxl
  rw [hl] at hcc htk hxl
  have hsl : ∀ w, (Instr.slice 28 (.slice (some ⟨gx, 0, none⟩) lx cx) (some (.int .i64 (m1 : Int))) (some (.int .i64 (m2 : Int))) none).run Tryz.prog w = .ok (.slice (some (if cx = m1 then ⟨gx, 0, none⟩ else ⟨gx, m1 * 2, none⟩)) (m2 - m1) (cx - m1)) w := fun w => by
    rw [slice_run w _ _ uT i0 hi0 ⟨gx, 0, none⟩ lx cx m1 m2 cx _ _ _ (.inl ⟨rfl, rfl⟩) (.inr ⟨rfl, by omega⟩) (.inr ⟨rfl, by omega⟩), hz1, add_at, Nat.zero_add]
  have hsegl : (enR (seg mx m1 m2)).length = (m2 - m1) * 2 := by rw [enR_len, seg_len, hl, Nat.min_eq_left h2]
  obtain ⟨v', w', r1, r2, r3, _⟩ := run_append_own (P := Tryz.prog) wr B 28 28 73 i0 _ 2 24 uT hi0 hz0 hz1 hz2 (by simp [Value.cells]) (by decide) tv M.length _ ht (if cx = m1 then ⟨gx, 0, none⟩ else ⟨gx, m1 * 2, none⟩) (m2 - m1) (cx - m1) (enR (seg mx m1 m2)) hsegl (fun j u hj => by
    have hjl := (List.getElem?_eq_some_iff.1 hj).1
    rw [hsegl] at hjl
    rw [if_neg (by omega)]
    unfold seg at hj
    rw [enR_drop, enR_take] at hj
    refine row_cells (a := m1 * 2) hcur htk j u ?_
    rw [List.getElem?_drop, List.getElem?_take] at hj
    split at hj
    · rw [List.getElem?_drop]; exact hj
    · cases hj) enR_one (by unfold maxLen; omega) (by omega) hb
  have r2' : Mr B w' v' (M ++ seg mx m1 m2) := by
    unfold Mr
    rw [enR_app, List.length_append, seg_len, hl, Nat.min_eq_left h2]
    exact r2
  have hform : ∃ o' c', v' = .slice o' (M ++ seg mx m1 m2).length c' := by
    rcases r2'.2 with ⟨e, h0⟩ | ⟨g', c', cur', e, _⟩
    · exact ⟨none, 0, by rw [e, h0]⟩
    · exact ⟨_, _, e⟩
  obtain ⟨o', c', hv⟩ := hform
  exact ⟨_, _, v', w', o', c', hsl, r1, hv, r2', (Below.refl B wr).grown r3 hb (fun k hk => (ht.lt k hk).1)⟩
set_option maxRecDepth 100000 in
theorem krange_at {w : World} {O : Nat → Prop} {R seed : Nat} {L : List Ent} (hK : RK w O R seed L) (lo hi : Nat) (hhi : hi ≤ L.length) (hlh : lo < hi) :
    Calls Tryz.prog 379 #[.pointer (some ⟨R, 0, none⟩), .int .i64 (lo : Int), .int .i64 (hi : Int)] w fun e w' => (∃ v, e = .returned v ∧ Mr w.heap.size w' v (seg L lo hi)) ∧ Below w.heap.size w w' := by
  have mL := klen_any hK
  have hmath := hK.math
  obtain ⟨h, r, bb, rv, T, s, hH, hR, rfl, hO⟩ := hK
  have hL := hR.2.2.1
  have hG := hR.2.2.2.1
  have hne : ∀ x ∈ T, x.2.2 ≠ [] := fun x hx => (hG x hx).1
  have hlen := hmath.2.2.1
  have hhl : hi ≤ (flat T).length := hhi
  have hT0 : 0 < T.length := by
    cases T with
    | nil => simp [flat_nil] at hhl; omega
    | cons y T => simp
  obtain ⟨gt, c, hrv, hc1, hc2⟩ := hL.2.1.form hT0
  subst hrv
  obtain ⟨n, hn'⟩ : ∃ n, T.length = n := ⟨_, rfl⟩
  have hnl : n ≤ 1048576 := by have := gd_len hne; omega
  obtain ⟨m, hm⟩ : ∃ m, m = hi - lo := ⟨_, rfl⟩
  obtain ⟨i0, hi0, hz0, hz1, hz2⟩ := info_parts info_rk
  obtain ⟨w1, k1, k2, k3⟩ := run_make_own (P := Tryz.prog) w w.heap.size 28 73 i0 _ 2 Tryz.underlying28 hi0 hz0 hz1 .i64 .i64 m (by rw [hz2]; omega) (by unfold maxLen; omega) (Nat.le_refl _)
  have hb1 : Below w.heap.size w w1 := (Below.refl _ w).grown k3 (Nat.le_refl _) (fun k hk => by cases hk)
  have d2 := (four (hL.below hb1).1).2.2.1
  rw [hn'] at d2
  have hwm : IntKind.i64.wrap ((hi : Int) - (lo : Int)) = (m : Int) := by rw [IntKind.wrap_i64]; omega
  have HL := keep hL
  have HG := keep hG
  have HK2 : Kept (Mr w.heap.size w1 (.slice (some ⟨w.heap.size, 0, none⟩) 0 m) []) := k2
  have HB1 := keep hb1
  have HN := keep hn'
  have HNL := keep hnl
  have HLEN := keep hlen
  have HHL := keep hhl
  have HLH := keep hlh
  have hlt : ¬ (hi : Int) ≤ (lo : Int) := by omega
  have hltd : decide ((hi : Int) ≤ (lo : Int)) = false := decide_eq_false hlt
  have hltn : ¬ hi ≤ lo := by omega
  have hltm : lo < hi := by omega
  have LOOP : Kept (∀ (k f t : Nat) (tv : Value) (M : List Ent) (wr : World), k < n → f = lo - cntA T k → t = hi - cntA T k → M = seg (flat (T.take k)) lo hi → Mr w.heap.size wr tv M → Below w.heap.size w wr → ∃ gx cx mx lx, wr.cell? ⟨gt, k, none⟩ = some (.slice (some ⟨gx, 0, none⟩) lx cx) ∧ lx ≤ 1024 ∧ f ≤ t ∧ t ≤ 1048576 ∧ Kept (∀ m1 m2, m1 = min f lx → m2 = min t lx → ∃ so cc v' w' o' c', (∀ w, (Instr.slice 28 (.slice (some ⟨gx, 0, none⟩) lx cx) (some (.int .i64 (m1 : Int))) (some (.int .i64 (m2 : Int))) none).run Tryz.prog w = .ok (.slice (some so) (m2 - m1) cc) w) ∧
      (Builtin.append_ #[28, 28] 28 #[tv, .slice (some so) (m2 - m1) cc]).run Tryz.prog wr = .ok v' w' ∧ v' = .slice o' (M ++ seg mx m1 m2).length c' ∧ Mr w.heap.size w' v' (seg (flat (T.take (k + 1))) lo hi) ∧ Below w.heap.size w w') ∧ f - lx = lo - cntA T (k + 1) ∧ t - lx = hi - cntA T (k + 1)) := by
    intro k f t tv M wr hk hf ht hM hMr hB
    have hLr := hL.below hB
    obtain ⟨x, hx⟩ : ∃ x, T[k]? = some x := ⟨_, List.getElem?_eq_getElem (by omega)⟩
    have hcell := hLr.2.1.at hx
    have hrow := hLr.2.1.2.1 x (List.mem_of_getElem? hx)
    have hxl := hL.lt x.1 (by rw [bl_some]; exact List.mem_cons.2 (.inr (List.mem_cons.2 (.inr (List.mem_map.2 ⟨x, List.mem_of_getElem? hx, rfl⟩)))))
    have hgd := hG x (List.mem_of_getElem? hx)
    have hcnt := cntA_succ hx
    have hcl := flat_take_le T (k + 1)
    obtain ⟨gx, cx, mx⟩ := x
    unfold rwV at hcell
    dsimp only at hcell hgd hcnt hxl
    refine ⟨gx, cx, mx, mx.length, hcell, hgd.2, by omega, by omega, ?_, by omega, by omega⟩
    intro m1 m2 e1 e2
    have hMl : M.length ≤ 1048576 := by
      rw [hM, seg_len]
      have := flat_take_le T k
      unfold cntA at this
      omega
    obtain ⟨so, cc, v', w', o', c', q1, q2, q3, q4, q5⟩ := range_round (m1 := m1) (m2 := m2) (n := 0) (g := 0) (c := 0) hB.size hMr hrow rfl (by omega) (by omega) (by have := hgd.2; omega) hxl
    refine ⟨so, cc, v', w', o', c', q1, q2, q3, ?_, hB.trans q5⟩
    have e3 : seg (flat (T.take (k + 1))) lo hi = M ++ seg mx m1 m2 := by
      have e4 : flat (T.take (k + 1)) = flat (T.take k) ++ mx := by
        rw [List.take_add_one, hx, flat_app]
        show _ ++ flat [(gx, cx, mx)] = _
        rw [flat_cons, flat_nil, List.append_nil]
      rw [e4, seg_app, hM]
      congr 1
      have hc' : (flat (T.take k)).length = cntA T k := rfl
      rw [hc', ← hf, ← ht]
      unfold seg
      rw [e1, e2]
      rcases Nat.le_total t mx.length with h1 | h1
      · rw [Nat.min_eq_left h1, Nat.min_eq_left (by omega)]
      · rw [Nat.min_eq_right h1, List.take_of_length_le h1, List.take_of_length_le (Nat.le_refl _)]
        rcases Nat.le_total f mx.length with h2 | h2
        · rw [Nat.min_eq_left h2]
        · rw [Nat.min_eq_right h2, List.drop_of_length_le h2, List.drop_of_length_le (Nat.le_refl _)]
    rw [e3]
    exact q4
  clear hR hO hL hG hne hlen hhl hT0 hc1 hc2 hmath hm k2 k3 hb1 hnl hlh hn'
  have ha0 : (0 : Int) ≤ (lo : Int) := by omega
  have hb0 : (hi : Int) ≤ ((flat T).length : Int) := by omega
  go_enter Tryz.func379, Tryz.ntmps379
  go_wp2_with fail
  refine mL.mono ?_
  rintro _ _ ⟨rfl, hw⟩
  obtain rfl := hw.symm
  clear mL
  go_wp2
  go_loopg [1, 2, 7, 9, 10, 29] n (fun kx s1 s2 s7 s9 s10 s29 wr => ∃ (k f t : Nat) (o : Option Addr) (l c7 : Nat), s1 = .int .i64 f ∧ s2 = .int .i64 t ∧ s7 = .slice o l c7 ∧ s29 = .int .i64 k ∧ k ≤ n ∧ n - k ≤ kx ∧ Kept (f = lo - cntA T k ∧ t = hi - cntA T k ∧ Mr w.heap.size wr (.slice o l c7) (seg (flat (T.take k)) lo hi) ∧ Below w.heap.size w wr))
  case atStart => exact ⟨0, lo, hi, some ⟨w.heap.size, 0, none⟩, 0, m, rfl, rfl, rfl, rfl, Nat.zero_le _, by omega, ⟨by simp [cntA, flat_nil], by simp [cntA, flat_nil], by simpa [seg, flat_nil] using HK2.out, HB1.out⟩⟩
  case round =>
    obtain ⟨k, f, t, o, l, c7, rfl, rfl, rfl, rfl, hk, hg, I⟩ := hrel
    obtain ⟨I1, I2, I3, I4⟩ := I.out
    by_cases hkn : k < n
    · obtain ⟨gx, cx, mx, lx, hcell, hlx, hft, htl, RN, e1, e2⟩ := LOOP.out k f t _ _ wr hkn I1 I2 rfl I3 I4
      have E1 := keep e1
      have E2 := keep e2
      have k0 : (0 : Int) ≤ (k : Int) := by omega
      have k1' : (k : Int) < (n : Int) := by omega
      have kw : IntKind.i64.wrap ((k : Int) + 1) = ((k + 1 : Nat) : Int) := by have := HNL.out; rw [IntKind.wrap_i64]; omega
      have HKN := keep hkn
      have HK := keep hk
      clear I1 I2 I3 I4 I e1 e2
      obtain ⟨d1, hd1⟩ : ∃ d1 : Int, (f : Int) - (lx : Int) = d1 := ⟨_, rfl⟩
      obtain ⟨d2', hd2⟩ : ∃ d2' : Int, (t : Int) - (lx : Int) = d2' := ⟨_, rfl⟩
      have w1' : IntKind.i64.wrap ((f : Int) - (lx : Int)) = d1 := by rw [IntKind.wrap_i64]; omega
      have w2' : IntKind.i64.wrap ((t : Int) - (lx : Int)) = d2' := by rw [IntKind.wrap_i64]; omega
      have HX := keep hlx
      have HT := keep htl
      clear hlx htl
      rcases Nat.lt_trichotomy f lx with hf1 | hf1 | hf1
      · rcases Nat.lt_trichotomy t lx with ht1 | ht1 | ht1
        · have a1 : (f : Int) ≤ (lx : Int) := by omega
          have a2 : ¬ (0 : Int) ≤ d1 := by omega
          have b1 : (t : Int) ≤ (lx : Int) := by omega
          have b2 : ¬ (0 : Int) ≤ d2' := by omega
          have hra := keep (RN.out f t (by omega) (by omega))
          obtain ⟨so, cc, v', w', o', c', q1, q2, q3, q4, q5⟩ := hra.out
          subst q3
          obtain ⟨l', hl'⟩ : ∃ l', l' = (seg (flat (T.take k)) lo hi ++ seg mx f t).length := ⟨_, rfl⟩
          rw [← hl'] at q2 q4
          have Q2 := keep q2
          have Q4 := keep q4
          have Q5 := keep q5
          have HD1 := keep hd1
          have HD2 := keep hd2
          have HFT := keep hft
          clear hra q2 q4 q5 RN hl' hd1 hd2 hft
          go_wp2_with (at_builtin; refine wpList_app_run rfl _ _ _ _ rfl _ _ _ rfl rfl Q2.out ?_)
          go_roundg (n - (k + 1))
          case measure => have := HKN.out; omega
          case rel => exact ⟨k + 1, 0, 0, o', l', c', by first | rfl | (have := HD1.out; congr 1; omega), by first | rfl | (have := HD2.out; congr 1; omega), rfl, by first | rfl | simp, HKN.out, by have := HKN.out; omega, ⟨by have := E1.out; have := HD1.out; omega, by have := E2.out; have := HD2.out; omega, Q4.out, Q5.out⟩⟩
        · subst ht1
          have a1 : (f : Int) ≤ (t : Int) := by omega
          have a2 : ¬ (0 : Int) ≤ d1 := by omega
          have b1 : (t : Int) ≤ (t : Int) := by omega
          have b2 : (0 : Int) ≤ d2' := by omega
          have hra := keep (RN.out f t (by omega) (by omega))
          obtain ⟨so, cc, v', w', o', c', q1, q2, q3, q4, q5⟩ := hra.out
          subst q3
          obtain ⟨l', hl'⟩ : ∃ l', l' = (seg (flat (T.take k)) lo hi ++ seg mx f t).length := ⟨_, rfl⟩
          rw [← hl'] at q2 q4
          have Q2 := keep q2
          have Q4 := keep q4
          have Q5 := keep q5
          have HD1 := keep hd1
          have HD2 := keep hd2
          have HFT := keep hft
          clear hra q2 q4 q5 RN hl' hd1 hd2 hft
          go_wp2_with (at_builtin; refine wpList_app_run rfl _ _ _ _ rfl _ _ _ rfl rfl Q2.out ?_)
          go_roundg (n - (k + 1))
          case measure => have := HKN.out; omega
          case rel => exact ⟨k + 1, 0, 0, o', l', c', by first | rfl | (have := HD1.out; congr 1; omega), by first | rfl | (have := HD2.out; congr 1; omega), rfl, by first | rfl | simp, HKN.out, by have := HKN.out; omega, ⟨by have := E1.out; have := HD1.out; omega, by have := E2.out; have := HD2.out; omega, Q4.out, Q5.out⟩⟩
        · have a1 : (f : Int) ≤ (lx : Int) := by omega
          have a2 : ¬ (0 : Int) ≤ d1 := by omega
          have b1 : ¬ (t : Int) ≤ (lx : Int) := by omega
          have b2 : (0 : Int) ≤ d2' := by omega
          have hra := keep (RN.out f lx (by omega) (by omega))
          obtain ⟨so, cc, v', w', o', c', q1, q2, q3, q4, q5⟩ := hra.out
          subst q3
          obtain ⟨l', hl'⟩ : ∃ l', l' = (seg (flat (T.take k)) lo hi ++ seg mx f lx).length := ⟨_, rfl⟩
          rw [← hl'] at q2 q4
          have Q2 := keep q2
          have Q4 := keep q4
          have Q5 := keep q5
          have HD1 := keep hd1
          have HD2 := keep hd2
          have HFT := keep hft
          clear hra q2 q4 q5 RN hl' hd1 hd2 hft
          go_wp2_with (at_builtin; refine wpList_app_run rfl _ _ _ _ rfl _ _ _ rfl rfl Q2.out ?_)
          go_roundg (n - (k + 1))
          case measure => have := HKN.out; omega
          case rel => exact ⟨k + 1, 0, (t - lx), o', l', c', by first | rfl | (have := HD1.out; congr 1; omega), by first | rfl | (have := HD2.out; congr 1; omega), rfl, by first | rfl | simp, HKN.out, by have := HKN.out; omega, ⟨by have := E1.out; have := HD1.out; omega, by have := E2.out; have := HD2.out; omega, Q4.out, Q5.out⟩⟩
      · subst hf1
        rcases Nat.lt_or_eq_of_le hft with ht1 | ht1
        · have a1 : (f : Int) ≤ (f : Int) := by omega
          have a2 : (0 : Int) ≤ d1 := by omega
          have b1 : ¬ (t : Int) ≤ (f : Int) := by omega
          have b2 : (0 : Int) ≤ d2' := by omega
          have hra := keep (RN.out f f (by omega) (by omega))
          obtain ⟨so, cc, v', w', o', c', q1, q2, q3, q4, q5⟩ := hra.out
          subst q3
          simp only [Nat.sub_self] at q1 q2
          obtain ⟨l', hl'⟩ : ∃ l', l' = (seg (flat (T.take k)) lo hi ++ seg mx f f).length := ⟨_, rfl⟩
          rw [← hl'] at q2 q4
          have Q2 := keep q2
          have Q4 := keep q4
          have Q5 := keep q5
          have HD1 := keep hd1
          have HD2 := keep hd2
          have HFT := keep hft
          clear hra q2 q4 q5 RN hl' hd1 hd2 hft
          go_wp2_with (at_builtin; refine wpList_app_run rfl _ _ _ _ rfl _ _ _ rfl rfl Q2.out ?_)
          go_roundg (n - (k + 1))
          case measure => have := HKN.out; omega
          case rel => exact ⟨k + 1, 0, (t - f), o', l', c', by first | rfl | (have := HD1.out; congr 1; omega), by first | rfl | (have := HD2.out; congr 1; omega), rfl, by first | rfl | simp, HKN.out, by have := HKN.out; omega, ⟨by have := E1.out; have := HD1.out; omega, by have := E2.out; have := HD2.out; omega, Q4.out, Q5.out⟩⟩
        · subst ht1
          have a1 : (f : Int) ≤ (f : Int) := by omega
          have a2 : (0 : Int) ≤ d1 := by omega
          have b2 : (0 : Int) ≤ d2' := by omega
          have hra := keep (RN.out f f (by omega) (by omega))
          obtain ⟨so, cc, v', w', o', c', q1, q2, q3, q4, q5⟩ := hra.out
          subst q3
          simp only [Nat.sub_self] at q1 q2
          obtain ⟨l', hl'⟩ : ∃ l', l' = (seg (flat (T.take k)) lo hi ++ seg mx f f).length := ⟨_, rfl⟩
          rw [← hl'] at q2 q4
          have Q2 := keep q2
          have Q4 := keep q4
          have Q5 := keep q5
          have HD1 := keep hd1
          have HD2 := keep hd2
          have HFT := keep hft
          clear hra q2 q4 q5 RN hl' hd1 hd2 hft
          go_wp2_with (at_builtin; refine wpList_app_run rfl _ _ _ _ rfl _ _ _ rfl rfl Q2.out ?_)
          go_roundg (n - (k + 1))
          case measure => have := HKN.out; omega
          case rel => exact ⟨k + 1, 0, 0, o', l', c', by first | rfl | (have := HD1.out; congr 1; omega), by first | rfl | (have := HD2.out; congr 1; omega), rfl, by first | rfl | simp, HKN.out, by have := HKN.out; omega, ⟨by have := E1.out; have := HD1.out; omega, by have := E2.out; have := HD2.out; omega, Q4.out, Q5.out⟩⟩
      · have a1 : ¬ (f : Int) ≤ (lx : Int) := by omega
        have a2 : (0 : Int) ≤ d1 := by omega
        have b1 : ¬ (t : Int) ≤ (lx : Int) := by omega
        have b2 : (0 : Int) ≤ d2' := by omega
        have hra := keep (RN.out lx lx (by omega) (by omega))
        obtain ⟨so, cc, v', w', o', c', q1, q2, q3, q4, q5⟩ := hra.out
        subst q3
        simp only [Nat.sub_self] at q1 q2
        obtain ⟨l', hl'⟩ : ∃ l', l' = (seg (flat (T.take k)) lo hi ++ seg mx lx lx).length := ⟨_, rfl⟩
        rw [← hl'] at q2 q4
        have Q2 := keep q2
        have Q4 := keep q4
        have Q5 := keep q5
        have HD1 := keep hd1
        have HD2 := keep hd2
        have HFT := keep hft
        clear hra q2 q4 q5 RN hl' hd1 hd2 hft
        go_wp2_with (at_builtin; refine wpList_app_run rfl _ _ _ _ rfl _ _ _ rfl rfl Q2.out ?_)
        go_roundg (n - (k + 1))
        case measure => have := HKN.out; omega
        case rel => exact ⟨k + 1, (f - lx), (t - lx), o', l', c', by first | rfl | (have := HD1.out; congr 1; omega), by first | rfl | (have := HD2.out; congr 1; omega), rfl, by first | rfl | simp, HKN.out, by have := HKN.out; omega, ⟨by have := E1.out; have := HD1.out; omega, by have := E2.out; have := HD2.out; omega, Q4.out, Q5.out⟩⟩
    · obtain rfl : k = n := by omega
      rw [← HN.out] at I3
      rw [List.take_length] at I3
      have Z := keep I3
      have Z4 := keep I4
      clear I1 I2 I3 I4 I LOOP
      go_wp2
      go_ret
      exact ⟨⟨_, rfl, Z.out⟩, Z4.out⟩

end Go.Proofs.YtmgeaanbgjbkcaaGreat.DF
