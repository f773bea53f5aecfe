/-
  Contracts over this program, put together.
-/
import Derived.Test.YtmgeaanbgjbkcaaGreatMUb
import Derived.BigRegion
import Derived.Deep.RegionHeld3
set_option maxHeartbeats 8000000
namespace Go.Proofs.YtmgeaanbgjbkcaaGreat.DU
open Go.RowKit Go.Shelf
def ky (x : ByteArray) : List UInt8 := x.data.toList
theorem ky_inj {x y : ByteArray} (h : ky x = ky y) : x = y := by
  obtain ⟨⟨a⟩⟩ := x
  obtain ⟨⟨b⟩⟩ := y
  simp only [ky] at h
  rw [h]
def Srt (l m : List Ent) : Prop := m.Perm l ∧ m.Pairwise (fun a b => ky a.1 < ky b.1)
def cst (l : List Ent) : Nat := (l.map fun e => 24 + e.1.size).sum
theorem cst_cons (e : Ent) (l : List Ent) : cst (e :: l) = 24 + e.1.size + cst l := by simp [cst]
theorem cst_perm {l m : List Ent} (h : l.Perm m) : cst l = cst m := (h.map _).sum_nat
theorem cst_le {l : List Ent} (h : ∀ e ∈ l, e.1.size ≤ 1048576) : cst l ≤ l.length * 1048600 := by
  induction l with
  | nil => simp [cst]
  | cons e l ih =>
    have h1 := ih (fun x hx => h x (List.mem_cons_of_mem _ hx))
    have h2 := h e (by simp)
    rw [cst_cons, List.length_cons, Nat.add_mul]
    omega
def cstO (k : ByteArray) : Option Unit → Nat
  | none => 0
  | some _ => 24 + k.size
theorem split_key (k : ByteArray) : ∀ {l : List Ent}, (Dc.keys l).Nodup → l.Perm ((match Dc.look k l with | some x => [(k, x)] | none => []) ++ l.filter (fun e => decide (e.1 ≠ k))) := by
  intro l
  induction l with
  | nil => intro _; exact List.Perm.refl _
  | cons e l ih =>
    intro hn
    simp only [Dc.keys, List.map_cons, List.nodup_cons] at hn
    have hi := ih hn.2
    by_cases h : e.1 = k
    · have hk : Dc.look k l = none := (Dc.look_none k).2 (h ▸ hn.1)
      rw [hk] at hi
      simp only [Dc.look, if_pos h]
      rw [List.filter_cons_of_neg (by simpa using h)]
      obtain ⟨a, b⟩ := e
      simp only at h
      subst h
      exact List.Perm.cons _ hi
    · simp only [Dc.look, if_neg h]
      rw [List.filter_cons_of_pos (by simpa using h)]
      exact (List.Perm.cons e hi).trans (List.perm_middle.symm)
theorem cst_split {k : ByteArray} {l : List Ent} (hn : (Dc.keys l).Nodup) : cst l = cstO k (Dc.look k l) + cst (l.filter (fun e => decide (e.1 ≠ k))) := by
  rw [cst_perm (split_key k hn)]
  cases Dc.look k l with
  | none => simp [cstO]
  | some x => simp [cstO, cst_cons]
theorem perm_of_mem {α : Type} [DecidableEq α] : ∀ {l m : List α}, l.Nodup → m.Nodup → (∀ a, a ∈ l ↔ a ∈ m) → l.Perm m := by
  intro l
  induction l with
  | nil =>
    intro m _ _ h
    cases m with
    | nil => exact List.Perm.refl _
    | cons b m => exact absurd ((h b).2 (by simp)) (by simp)
  | cons a l ih =>
    intro m hl hm h
    have ha : a ∈ m := (h a).1 (by simp)
    rw [List.nodup_cons] at hl
    refine (List.Perm.cons a (ih hl.2 (hm.erase a) (fun x => ?_))).trans (List.perm_cons_erase ha).symm
    rw [hm.mem_erase_iff]
    constructor
    · intro hx
      exact ⟨fun e => hl.1 (e ▸ hx), (h x).1 (by simp [hx])⟩
    · rintro ⟨h1, h2⟩
      rcases List.mem_cons.1 ((h x).2 h2) with e | e
      · exact absurd e h1
      · exact e
theorem ent_nodup {l : List Ent} (h : (Dc.keys l).Nodup) : l.Nodup := by
  unfold Dc.keys at h
  induction l with
  | nil => exact List.nodup_nil
  | cons x l ih =>
    rw [List.map_cons, List.nodup_cons] at h
    exact List.nodup_cons.2 ⟨fun hm => h.1 (List.mem_map_of_mem hm), ih h.2⟩
theorem rest_perm {k : ByteArray} {l m : List Ent} (hl : (Dc.keys l).Nodup) (hm : (Dc.keys m).Nodup) (h : ∀ k', k' ≠ k → Dc.look k' l = Dc.look k' m) : (l.filter (fun e => decide (e.1 ≠ k))).Perm (m.filter (fun e => decide (e.1 ≠ k))) := by
  refine perm_of_mem ((ent_nodup hl).filter _) ((ent_nodup hm).filter _) (fun a => ?_)
  rw [List.mem_filter, List.mem_filter]
  constructor
  · rintro ⟨h1, h2⟩
    have h2' : a.1 ≠ k := by simpa using h2
    exact ⟨(Dc.look_mem hm a.1 a.2).1 ((h a.1 h2') ▸ (Dc.look_mem hl a.1 a.2).2 h1), h2⟩
  · rintro ⟨h1, h2⟩
    have h2' : a.1 ≠ k := by simpa using h2
    exact ⟨(Dc.look_mem hl a.1 a.2).1 ((h a.1 h2').symm ▸ (Dc.look_mem hm a.1 a.2).2 h1), h2⟩
theorem all_nodup {h : ByteArray → Nat} {s : Dc.St ByteArray Unit} (hI : Dc.Inv h s) : (Dc.keys (Dc.all s)).Nodup := by rw [Dc.all_eq hI]; exact hI.nodup
theorem set_cst {h : ByteArray → Nat} {s s' : Dc.St ByteArray Unit} {k : ByteArray} {v : Unit} (hI : Dc.Inv h s) (hI' : Dc.Inv h s') (hs : Setd s s' k v) : cst (Dc.all s') + cstO k (lk s k) = cst (Dc.all s) + (24 + k.size) := by
  rw [cst_split (k := k) (all_nodup hI'), cst_split (k := k) (all_nodup hI), cst_perm (rest_perm (k := k) (all_nodup hI') (all_nodup hI) (fun k' hk => by have := hs.1 k'; unfold lk at this; rw [this, if_neg hk]))]
  have := hs.1 k
  unfold lk at this
  rw [this, if_pos rfl]
  unfold lk
  simp only [cstO]
  omega
theorem sam_cst {h : ByteArray → Nat} {s s' : Dc.St ByteArray Unit} (hI : Dc.Inv h s) (hI' : Dc.Inv h s') (hs : Samd s s') : (Dc.all s').Perm (Dc.all s) :=
  perm_of_mem (ent_nodup (all_nodup hI')) (ent_nodup (all_nodup hI)) (fun a => by
    have := hs.1 a.1
    unfold lk at this
    rw [← Dc.look_mem (all_nodup hI'), ← Dc.look_mem (all_nodup hI), this])
def Bnd (s : Dc.St ByteArray Unit) : Prop := (∀ k v, lk s k = some v → k.size ≤ 1048576) ∧ ln s ≤ 1048576
theorem Bnd.cst {h : ByteArray → Nat} {s : Dc.St ByteArray Unit} (hB : Bnd s) (hI : Dc.Inv h s) : cst (Dc.all s) ≤ 1099536793600 := by
  have h1 := cst_le (l := Dc.all s) (fun e he => hB.1 e.1 e.2 ((Dc.look_mem (all_nodup hI) e.1 e.2).2 he))
  have h2 : (Dc.all s).length ≤ 1048576 := hB.2
  omega
theorem Bnd.sam {s s' : Dc.St ByteArray Unit} (hB : Bnd s) (hs : Samd s s') : Bnd s' := ⟨fun k v h => hB.1 k v (by rw [← hs.1 k]; exact h), by rw [hs.2]; exact hB.2⟩
theorem Bnd.set {s s' : Dc.St ByteArray Unit} {k : ByteArray} {v : Unit} (hB : Bnd s) (hs : Setd s s' k v) (hk : k.size ≤ 1048576) (hn : lk s k = none → ln s < 1048576) : Bnd s' := by
  refine ⟨fun k' v' h => ?_, ?_⟩
  · rw [hs.1 k'] at h
    by_cases e : k' = k
    · rw [if_pos e] at h
      cases h
      rw [e]
      exact hk
    · rw [if_neg e] at h
      exact hB.1 k' v' h
  · rw [hs.2]
    cases e : lk s k with
    | none => have := hn e; simp; omega
    | some x => simpa using hB.2
end Go.Proofs.YtmgeaanbgjbkcaaGreat.DU

namespace Go.Proofs.YtmgeaanbgjbkcaaGreat.DU
open Go.RowKit Go.Shelf
abbrev Sx : Type := Dc.St ByteArray Unit
def rr (r : Roles) (R : Nat) : Roles := fun k => if k = R then (6, 0) else r k
theorem rr_zero {r : Roles} {R k : Nat} : rr r R k = (0, 0) ↔ k ≠ R ∧ r k = (0, 0) := by
  unfold rr
  by_cases h : k = R
  · rw [if_pos h]; simp [h]
  · rw [if_neg h]; simp [h]
def Rec (h : ByteArray → Nat) (N : Nat) (w : World) (r : Roles) (R b seed : Nat) (s : Sx) : Prop :=
  Dd h N w r b seed s ∧ Bnd s ∧ r R = (0, 0) ∧ w.heap[R]? = some (.cells #[.int .u64 seed, .pointer (some ⟨b, 0, none⟩), .int .i64 ((cst (Dc.all s) : Nat) : Int)] 196 (0, 0))
theorem three {w : World} {b : Nat} {v0 v1 v2 : Value} {t : TypeId} (h : w.heap[b]? = some (.cells #[v0, v1, v2] t (0, 0))) :
    w.cell? ⟨b, 0, none⟩ = some v0 ∧ w.cell? ⟨b, 1, none⟩ = some v1 ∧ w.cell? ⟨b, 2, none⟩ = some v2 ∧ ∀ i, w.frozen? ⟨b, i, none⟩ = false := by
  refine ⟨?_, ?_, ?_, fun i => ?_⟩ <;> simp [World.cell?, World.frozen?, h]
theorem Rec.kept {h : ByteArray → Nat} {N : Nat} {w w' : World} {r : Roles} {R b seed : Nat} {s : Sx} (hr : Rec h N w r R b seed s) (hs : w.heap.size ≤ w'.heap.size) (hk : ∀ k, k < w.heap.size → rr r R k ≠ (0, 0) → w'.heap[k]? = w.heap[k]?) : Rec h N w' r R b seed s := by
  obtain ⟨h1, h2, h3, h4⟩ := hr
  have hl := (Array.getElem?_eq_some_iff.1 h4).1
  refine ⟨h1.kept hs (fun k hk1 hk2 => hk k hk1 (fun e => hk2 (rr_zero.1 e).2)), h2, h3, ?_⟩
  rw [hk R hl (fun e => (rr_zero.1 e).1 rfl)]
  exact h4
theorem Rec.below {h : ByteArray → Nat} {N : Nat} {w w' : World} {r : Roles} {R b seed : Nat} {s : Sx} (hr : Rec h N w r R b seed s) (hb : Below w.heap.size w w') : Rec h N w' r R b seed s := hr.kept hb.size (fun k hk _ => hb.block k hk)
theorem Fr.rr {w w' : World} {r r' : Roles} (hf : Fr w r w' r') (R : Nat) : Fr w (rr r R) w' (rr r' R) :=
  ⟨hf.1, hf.2.1, fun k hk hz => by
    obtain ⟨h1, h2⟩ := rr_zero.1 hz
    obtain ⟨h3, h4⟩ := hf.2.2 k hk h2
    exact ⟨h3, rr_zero.2 ⟨h1, h4⟩⟩⟩
theorem rnew_any (h : ByteArray → Nat) (w : World) (seed N : Nat) :
    Calls Tryz.prog 74 #[.int .u64 seed] w fun e w' => e = .returned (.pointer (some ⟨w.heap.size + 1, 0, none⟩)) ∧ Below w.heap.size w w' ∧ Rec h N w' (fun k => if k = w.heap.size then (5, 0) else (0, 0)) (w.heap.size + 1) w.heap.size seed Dc.none0 := by
  have mN := new_any h w seed N
  go_enter Tryz.func74, Tryz.ntmps74
  go_wp2_with fail
  refine mN.mono ?_
  rintro _ w1 ⟨rfl, hb, hz, hd⟩
  go_wp2
  go_ret
  refine ⟨rfl, hb.alloc hb.size _, hd.below ((Below.refl _ w1).alloc (Nat.le_refl _) _), ⟨fun k v hk => by simp [lk_none] at hk, by simp [ln_none]⟩, by simp, ?_⟩
  have := heap_alloc_new w1 (.cells #[.int .u64 seed, .pointer (some ⟨w.heap.size, 0, none⟩), .int .i64 0] 196)
  rw [hz] at this
  exact this
theorem dictionary_any {h : ByteArray → Nat} {N : Nat} {w : World} {r : Roles} {R b seed : Nat} {s : Sx} (hr : Rec h N w r R b seed s) :
    Calls Tryz.prog 123 #[.pointer (some ⟨R, 0, none⟩)] w fun e w' => e = .returned (.pointer (some ⟨b, 0, none⟩)) ∧ w' = w := by
  obtain ⟨c0, c1, c2, cf⟩ := three hr.2.2.2
  clear hr c0 c2 cf
  go_enter Tryz.func123, Tryz.ntmps123
  go_wp2
  go_ret
  exact ⟨rfl, rfl⟩
theorem rlen_any {h : ByteArray → Nat} {N : Nat} {w : World} {r : Roles} {R b seed : Nat} {s : Sx} (hr : Rec h N w r R b seed s) :
    Calls Tryz.prog 116 #[.pointer (some ⟨R, 0, none⟩)] w fun e w' => e = .returned (.int .i64 (ln s)) ∧ w' = w := by
  have mD := dictionary_any hr
  have mL := len_t w r b s hr.1
  clear hr
  go_enter Tryz.func116, Tryz.ntmps116
  go_wp2_with fail
  refine mD.mono ?_
  rintro _ w1 ⟨rfl, rfl⟩
  go_wp2_with fail
  refine mL.mono ?_
  rintro _ w1 ⟨rfl, rfl⟩
  go_wp2
  go_ret
  exact ⟨rfl, rfl⟩
theorem rcost_any {h : ByteArray → Nat} {N : Nat} {w : World} {r : Roles} {R b seed : Nat} {s : Sx} (hr : Rec h N w r R b seed s) :
    Calls Tryz.prog 305 #[.pointer (some ⟨R, 0, none⟩)] w fun e w' => e = .returned (.int .i64 ((cst (Dc.all s) : Nat) : Int)) ∧ w' = w := by
  obtain ⟨c0, c1, c2, cf⟩ := three hr.2.2.2
  clear hr c0 c1 cf
  go_enter Tryz.func305, Tryz.ntmps305
  go_wp2
  go_ret
  exact ⟨rfl, rfl⟩
theorem fhas_any {h : ByteArray → Nat} {seed N : Nat} (hH : HashIs seed h) {w : World} {r : Roles} {R b : Nat} {s : Sx} (hr : Rec h N w r R b seed s) (hN : N ≤ 2600000000000) (key : ByteArray) (hk : key.size ≤ maxLen) :
    Calls Tryz.prog 146 #[.pointer (some ⟨R, 0, none⟩), .string key] w fun e w' => e = .returned (.bool (lk s key).isSome) ∧ ∃ r' s', Rec h N w' r' R b seed s' ∧ Samd s s' ∧ Fr w (rr r R) w' (rr r' R) := by
  have mD := dictionary_any hr
  have mG := get_t hH w r b s key hr.1 hN hk
  have HR := keep hr
  clear hr
  unfold got at mG
  go_enter Tryz.func146, Tryz.ntmps146
  go_wp2_with fail
  refine mD.mono ?_
  rintro _ w1 ⟨rfl, rfl⟩
  go_wp2_with fail
  refine mG.mono ?_
  rintro _ w2 ⟨rfl, r', s', q1, q2, q3⟩
  go_wp2
  go_ret
  obtain ⟨h1, h2, h3, h4⟩ := HR.out
  have hl := (Array.getElem?_eq_some_iff.1 h4).1
  obtain ⟨k1, k2⟩ := q3.2.2 R hl h3
  have hR2 : Rec h N w2 r' R b seed s' := ⟨q1, h2.sam q2, k2, by rw [k1, h4, cst_perm (sam_cst h1.2.1 q1.2.1 q2)]⟩
  have hb : Below w2.heap.size w2 (w2.alloc (.cells #[] 171)) := (Below.refl _ _).alloc (Nat.le_refl _) _
  exact ⟨rfl, r', s', hR2.below hb, q2, (q3.rr R).trans (Fr.of_below hb)⟩
theorem costOf_any (a : ByteArray) (w : World) (ha : a.size ≤ 1048576) :
    Calls Tryz.prog 147 #[.string a] w fun e w' => e = .returned (.int .i64 ((24 + a.size : Nat) : Int)) ∧ w' = w := by
  have w1 : IntKind.i64.wrap (24 + (a.size : Int)) = 24 + (a.size : Int) := by rw [IntKind.wrap_i64]; omega
  clear ha
  go_enter Tryz.func147, Tryz.ntmps147
  go_wp2
  go_ret
  exact ⟨by simp [Int.natCast_add], rfl⟩
end Go.Proofs.YtmgeaanbgjbkcaaGreat.DU

namespace Go.Proofs.YtmgeaanbgjbkcaaGreat.DU
open Go.RowKit Go.Shelf
def Cst (R seed b : Nat) (V : Int) (w W : World) : Prop :=
  (W.os = w.os ∧ W.tape = w.tape ∧ W.output = w.output) ∧ W.heap.size = w.heap.size ∧ W.heap[R]? = some (.cells #[.int .u64 seed, .pointer (some ⟨b, 0, none⟩), .int .i64 V] 196 (0, 0)) ∧ ∀ k, k ≠ R → W.heap[k]? = w.heap[k]?
theorem Cst.one {R seed b : Nat} {U V : Int} {w : World} (h : w.heap[R]? = some (.cells #[.int .u64 seed, .pointer (some ⟨b, 0, none⟩), .int .i64 U] 196 (0, 0))) : Cst R seed b V w (w.setCell ⟨R, 2, none⟩ (.int .i64 V)) :=
  ⟨⟨rfl, rfl, rfl⟩, by simp [World.setCell], cells_setCell h, fun k hk => Below.heap_setCell _ _ _ _ hk⟩
theorem Cst.drew {R seed b : Nat} {V : Int} {w W : World} (h : Cst R seed b V w W) : Cst R seed b V w W.drew := h
theorem Cst.dd {h : ByteArray → Nat} {N : Nat} {w W : World} {r : Roles} {R b seed : Nat} {V : Int} {s : Sx} (hc : Cst R seed b V w W) (hd : Dd h N w r b seed s) (hR : r R = (0, 0)) : Dd h N W r b seed s :=
  hd.kept (by rw [hc.2.1]; exact Nat.le_refl _) (fun k _ hk => hc.2.2.2 k (fun e => hk (e ▸ hR)))
theorem Cst.fr {R seed b : Nat} {V : Int} {w W : World} (hc : Cst R seed b V w W) (r : Roles) : Fr w (rr r R) W (rr r R) :=
  ⟨hc.1, by rw [hc.2.1]; exact Nat.le_refl _, fun k _ hz => ⟨hc.2.2.2 k (rr_zero.1 hz).1, hz⟩⟩
theorem sam_set {s s' s4 : Sx} {k : ByteArray} {v : Unit} (h1 : Samd s s') (h2 : Setd s' s4 k v) : Setd s s4 k v :=
  ⟨fun x => by rw [h2.1 x, h1.1 x], by rw [h2.2, h1.2, h1.1 k]⟩
theorem fadd_end {h : ByteArray → Nat} {N seed : Nat} {w w2 W3 w4 : World} {r r' r4 : Roles} {R b : Nat} {s s' s4 : Sx} {f : ByteArray} {V : Int} (hr : Rec h N w r R b seed s) (q1 : Rec h N w2 r' R b seed s') (q2 : Samd s s') (q3 : Fr w (rr r R) w2 (rr r' R)) (hc : Cst R seed b V w2 W3)
    (p1 : Dd h (N + 1) w4 r4 b seed s4) (p2 : Setd s' s4 f ()) (p3 : Fr W3 r' w4 r4) (hf : f.size ≤ 1048576) (hn : lk s f = none → ln s < 1048576) (hV : V + (cstO f (lk s f) : Nat) = (cst (Dc.all s) + (24 + f.size) : Nat)) :
    Rec h (N + 1) w4 r4 R b seed s4 ∧ Setd s s4 f () ∧ Fr w (rr r R) w4 (rr r4 R) := by
  obtain ⟨h1, h2, h3, h4⟩ := hr
  have hl3 : R < W3.heap.size := (Array.getElem?_eq_some_iff.1 hc.2.2.1).1
  obtain ⟨k3, k4⟩ := p3.2.2 R hl3 q1.2.2.1
  have e1 := set_cst q1.1.2.1 p1.2.1 p2
  rw [cst_perm (sam_cst h1.2.1 q1.1.2.1 q2), q2.1 f] at e1
  refine ⟨⟨p1, (h2.set (sam_set q2 p2) hf hn), k4, ?_⟩, sam_set q2 p2, q3.trans ((hc.fr r').trans (p3.rr R))⟩
  rw [k3, hc.2.2.1]
  have : V = ((cst (Dc.all s4) : Nat) : Int) := by omega
  rw [this]
set_option maxRecDepth 100000 in
theorem fadd_new {h : ByteArray → Nat} {seed N : Nat} (hH : HashIs seed h) {w : World} {r : Roles} {R b : Nat} {s : Sx} (hr : Rec h N w r R b seed s) (hN : N + 1 ≤ 2600000000000) (f : ByteArray) (hf : f.size ≤ 1048576) (hx : lk s f = none) (hn : ln s < 1048576) :
    Calls Tryz.prog 89 #[.pointer (some ⟨R, 0, none⟩), .string f] w fun e w' => e = .returned (.tuple #[.bool true, .int .i64 0]) ∧ ∃ r' s', Rec h (N + 1) w' r' R b seed s' ∧ Setd s s' f () ∧ Fr w (rr r R) w' (rr r' R) := by
  have hfm : f.size ≤ maxLen := by unfold maxLen; omega
  have mG := fhas_any hH hr (by omega) f hfm
  rw [hx] at mG
  have hs : decide ((1048576 : Int) < (f.size : Int)) = false := decide_eq_false (by omega)
  have hB := hr.2.1.cst hr.1.2.1
  have HR := keep hr
  have HN := keep hn
  have HNN := keep hN
  have HF := keep hf
  have HFM := keep hfm
  have HB := keep hB
  have HX := keep hx
  clear hr hn hf hfm hB hN hx
  go_enter Tryz.func89, Tryz.ntmps89
  go_wp2_with fail
  refine mG.mono ?_
  rintro _ w2 ⟨rfl, r', s', q1, q2, q3⟩
  have k1' := q1.2.2.2
  rw [cst_perm (sam_cst HR.out.1.2.1 q1.1.2.1 q2)] at k1'
  obtain ⟨d0, d1, d2, df⟩ := three k1'
  have mL := rlen_any q1
  have hlt : ln s' < 1048576 := by rw [q2.2]; exact HN.out
  have hge : decide ((1048576 : Int) ≤ (ln s' : Int)) = false := decide_eq_false (by omega)
  have MC := keep (fun W => costOf_any f W HF.out)
  have hwr : IntKind.i64.wrap ((cst (Dc.all s) : Nat) + ((24 + f.size : Nat) : Int)) = ((cst (Dc.all s) + (24 + f.size) : Nat) : Int) := by
    rw [IntKind.wrap_i64]; have := HB.out; have := HF.out; omega
  have CS := keep (Cst.one (V := ((cst (Dc.all s) + (24 + f.size) : Nat) : Int)) k1')
  have f2 := df 2
  have Q1 := keep q1
  have Q2 := keep q2
  have Q3 := keep q3
  obtain ⟨C1, hC1⟩ : ∃ C1 : Int, ((cst (Dc.all s) : Nat) : Int) = C1 := ⟨_, rfl⟩
  obtain ⟨C2, hC2⟩ : ∃ C2 : Int, ((24 + f.size : Nat) : Int) = C2 := ⟨_, rfl⟩
  obtain ⟨C3, hC3⟩ : ∃ C3 : Int, ((cst (Dc.all s) + (24 + f.size) : Nat) : Int) = C3 := ⟨_, rfl⟩
  rw [hC1, hC2, hC3] at hwr
  rw [hC3] at CS
  rw [hC2] at MC
  rw [hC1] at d2
  have HC3 := keep hC3
  clear q1 q2 q3 k1' d0 df hlt hC1 hC2 hC3
  go_wp2_with fail
  refine mL.mono ?_
  rintro _ w' ⟨rfl, hw'⟩
  obtain rfl := hw'.symm
  clear mL mG
  go_wp2
  go_region_with (first | (go_at_call 147; refine (MC.out _).mono ?_; rintro _ _ ⟨rfl, rfl⟩))
  all_goals
    go_wp2_with fail
    refine (set_t hH _ r' b s' f () (CS.out.drew.dd Q1.out.1 Q1.out.2.2.1) HNN.out HFM.out (by rw [Q2.out.1 f]; exact HX.out)).mono ?_
    rintro _ w4 ⟨rfl, r4, s4, p1, p2, p3⟩
    go_wp2
    refine bodyPost_ret (results_tmp2 rfl _ _ _) rfl ?_
    refine ⟨?_, r4, s4, fadd_end HR.out Q1.out Q2.out Q3.out CS.out.drew p1 p2 p3 HF.out (fun _ => HN.out) ?_⟩
    · rw [Q2.out.1 f, HX.out]; rfl
    · rw [HX.out, ← HC3.out]; simp [cstO]
end Go.Proofs.YtmgeaanbgjbkcaaGreat.DU
