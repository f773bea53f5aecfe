/-
  What the program's memory holds of a space: its struct, two dicts, entries and their values, what was touched, the steps; each block has one role.
-/
import Derived.Test.YthmmblohfjmbcaaGreatPDictTale
import Derived.Test.YthmmblohfjmbcaaGreatVlTwin
namespace Go.Proofs.YthmmblohfjmbcaaGreat
open Go.RowKit
set_option linter.unusedVariables false
namespace Ks
abbrev Ro : Type := Nat → Nat × ByteArray
def z0 : Nat × ByteArray := (0, .empty)
def ro (n : Nat) : Nat × ByteArray := (n, .empty)
/-- only blocks whose role is in A, and new ones, have turned -/
structure Ch (A : Nat × ByteArray → Prop) (w : World) (R : Ro) (w' : World) (R' : Ro) : Prop where
  os : w'.os = w.os
  tape : w'.tape = w.tape
  output : w'.output = w.output
  size : w.heap.size ≤ w'.heap.size
  same : ∀ k, k < w.heap.size → ¬ A (R k) → w'.heap[k]? = w.heap[k]? ∧ R' k = R k
  lt : ∀ k, R' k ≠ z0 → k < w'.heap.size
theorem Ch.mono {A B : Nat × ByteArray → Prop} {w w' : World} {R R' : Ro} (h : Ch A w R w' R') (hm : ∀ x, A x → B x) : Ch B w R w' R' :=
  ⟨h.os, h.tape, h.output, h.size, fun k hk hn => h.same k hk (fun e => hn (hm _ e)), h.lt⟩
theorem Ch.trans {A : Nat × ByteArray → Prop} {w w1 w2 : World} {R R1 R2 : Ro} (h : Ch A w R w1 R1) (g : Ch A w1 R1 w2 R2) : Ch A w R w2 R2 := by
  refine ⟨g.os.trans h.os, g.tape.trans h.tape, g.output.trans h.output, Nat.le_trans h.size g.size, fun k hk hn => ?_, g.lt⟩
  obtain ⟨a, b⟩ := h.same k hk hn
  obtain ⟨c, d⟩ := g.same k (Nat.lt_of_lt_of_le hk h.size) (by rw [b]; exact hn)
  exact ⟨c.trans a, d.trans b⟩
theorem Ch.bel {A : Nat × ByteArray → Prop} {w w' : World} {R : Ro} (hb : Below w.heap.size w w') (hz : ∀ k, R k ≠ z0 → k < w.heap.size) : Ch A w R w' R :=
  ⟨hb.os, hb.tape, hb.output, hb.size, fun k hk _ => ⟨hb.block k hk, rfl⟩, fun k hk => Nat.lt_of_lt_of_le (hz k hk) hb.size⟩
theorem Ch.refl (A : Nat × ByteArray → Prop) {w : World} {R : Ro} (hz : ∀ k, R k ≠ z0 → k < w.heap.size) : Ch A w R w R := Ch.bel (Below.refl _ _) hz
theorem size_set (w : World) (a : Addr) (v : Value) : (w.setCell a v).heap.size = w.heap.size := by simp [World.setCell]
theorem Ch.set {A : Nat × ByteArray → Prop} {w : World} {R : Ro} {g i : Nat} (v : Value) (hz : ∀ k, R k ≠ z0 → k < w.heap.size) (hA : A (R g)) : Ch A w R (w.setCell ⟨g, i, none⟩ v) R :=
  ⟨rfl, rfl, rfl, by rw [size_set]; exact Nat.le_refl _, fun k hk hn => ⟨Below.heap_setCell _ _ _ _ (fun e => hn (by rw [e]; exact hA)), rfl⟩, fun k hk => by rw [size_set]; exact hz k hk⟩
/-- what a call of a space may turn: neither blocks of no role nor a value's -/
def Own (x : Nat × ByteArray) : Prop := x.1 ≠ 0 ∧ x.1 ≠ 7
abbrev Fs (w : World) (R : Ro) (w' : World) (R' : Ro) : Prop := Ch Own w R w' R'
theorem own_ro {n : Nat} (h0 : n ≠ 0) (h7 : n ≠ 7) : ∀ x, x = ro n → Own x := by rintro x rfl; exact ⟨h0, h7⟩
/-- a dict and what lies under its keys; p: its role -/
def Pd (p N : Nat) (w : World) (R : Ro) (seed bm : Nat) (lm : ByteArray → Option (Option Addr)) (n : Nat) : Prop :=
  ∃ h r s, DP.HashIs seed h ∧ DP.Dd h N w r bm seed s ∧ (∀ k, r k ≠ (0, 0) → R k = ro p) ∧ (∀ k, DP.lk s k = lm k) ∧ DP.ln s = n
theorem Pd.kept {A : Nat × ByteArray → Prop} {p N : Nat} {w w' : World} {R R' : Ro} {seed bm : Nat} {lm : ByteArray → Option (Option Addr)} {n : Nat} (h : Pd p N w R seed bm lm n) (c : Ch A w R w' R') (ha : ¬ A (ro p)) : Pd p N w' R' seed bm lm n := by
  obtain ⟨h, r, s, h1, h2, h3, h4, h5⟩ := h
  refine ⟨h, r, s, h1, h2.kept c.size (fun k hk hr => (c.same k hk (by rw [h3 k hr]; exact ha)).1), fun k hr => ?_, h4, h5⟩
  rw [(c.same k (h2.1.1 k hr) (by rw [h3 k hr]; exact ha)).2]; exact h3 k hr
theorem Pd.more {p N N' : Nat} {w : World} {R : Ro} {seed bm : Nat} {lm : ByteArray → Option (Option Addr)} {n : Nat} (h : Pd p N w R seed bm lm n) (hN : N ≤ N') : Pd p N' w R seed bm lm n := by
  obtain ⟨h, r, s, h1, h2, h3⟩ := h
  exact ⟨h, r, s, h1, h2.more hN, h3⟩
theorem turn {p : Nat} {w w' : World} {R : Ro} {r r' : DP.Roles} (h3 : ∀ k, r k ≠ (0, 0) → R k = ro p) (hz : ∀ k, R k ≠ z0 → k < w.heap.size) (hf : DP.Fr w r w' r') (hlt : ∀ k, r' k ≠ (0, 0) → k < w'.heap.size) :
    ∃ R' : Ro, (∀ k, r' k ≠ (0, 0) → R' k = ro p) ∧ Ch (· = ro p) w R w' R' := by
  refine ⟨fun k => if r' k ≠ (0, 0) then ro p else R k, fun k hk => if_pos hk, hf.1.1, hf.1.2.1, hf.1.2.2, hf.2.1, fun k hk hn => ?_, fun k hk => ?_⟩
  · have hr : r k = (0, 0) := Decidable.byContradiction fun e => hn (h3 k e)
    obtain ⟨a, b⟩ := hf.2.2 k hk hr
    exact ⟨a, if_neg (fun e => e b)⟩
  · by_cases e : r' k ≠ (0, 0)
    · exact hlt k e
    · rw [if_neg e] at hk
      exact Nat.lt_of_lt_of_le (hz k hk) hf.2.1
def upl (lm : ByteArray → Option (Option Addr)) (key : ByteArray) (v : Option (Option Addr)) : ByteArray → Option (Option Addr) := fun k => if k = key then v else lm k
theorem pd_get {p N : Nat} {w : World} {R : Ro} {seed bm : Nat} {lm : ByteArray → Option (Option Addr)} {n : Nat} (h : Pd p N w R seed bm lm n) (hz : ∀ k, R k ≠ z0 → k < w.heap.size) (hN : N ≤ 2600000000000) (key : ByteArray) (hk : key.size ≤ maxLen) :
    Calls Tryz.prog 59 #[.pointer (some ⟨bm, 0, none⟩), .string key] w fun e w' => e = .returned (.tuple #[.pointer ((lm key).getD none), .bool (lm key).isSome]) ∧ ∃ R', Pd p N w' R' seed bm lm n ∧ Ch (· = ro p) w R w' R' := by
  obtain ⟨h, r, s, h1, h2, h3, h4, h5⟩ := h
  refine (DP.get_t h1 w r bm s key h2 hN hk).mono ?_
  rintro _ w' ⟨rfl, r', s', q1, q2, q3⟩
  obtain ⟨R', g1, g2⟩ := turn h3 hz q3 q1.1.1
  exact ⟨by rw [← h4 key]; rfl, R', ⟨h, r', s', h1, q1, g1, fun k => (q2.1 k).trans (h4 k), q2.2.trans h5⟩, g2⟩
theorem pd_set {p N : Nat} {w : World} {R : Ro} {seed bm : Nat} {lm : ByteArray → Option (Option Addr)} {n : Nat} (h : Pd p N w R seed bm lm n) (hz : ∀ k, R k ≠ z0 → k < w.heap.size) (hN : N + 1 ≤ 2600000000000) (key : ByteArray) (hk : key.size ≤ maxLen) (v : Option Addr) :
    Calls Tryz.prog 62 #[.pointer (some ⟨bm, 0, none⟩), .string key, .pointer v] w fun e w' => (∃ q, e = .returned (.bool q)) ∧ ∃ R', Pd p (N + 1) w' R' seed bm (upl lm key (some v)) (n + if (lm key).isNone then 1 else 0) ∧ Ch (· = ro p) w R w' R' := by
  obtain ⟨h, r, s, h1, h2, h3, h4, h5⟩ := h
  refine (DP.set_t h1 w r bm s key v h2 hN hk).mono ?_
  rintro _ w' ⟨rfl, r', s', q1, q2, q3⟩
  obtain ⟨R', g1, g2⟩ := turn h3 hz q3 q1.1.1
  refine ⟨⟨_, rfl⟩, R', ⟨h, r', s', h1, q1, g1, fun k => ?_, ?_⟩, g2⟩
  · rw [q2.1 k]; unfold upl; rw [h4 k]
  · rw [q2.2, h5, h4 key]
theorem pd_del {p N : Nat} {w : World} {R : Ro} {seed bm : Nat} {lm : ByteArray → Option (Option Addr)} {n : Nat} (h : Pd p N w R seed bm lm n) (hz : ∀ k, R k ≠ z0 → k < w.heap.size) (hN : N + 1 ≤ 2600000000000) (key : ByteArray) (hk : key.size ≤ maxLen) :
    Calls Tryz.prog 66 #[.pointer (some ⟨bm, 0, none⟩), .string key] w fun e w' => (∃ q, e = .returned (.bool q)) ∧ ∃ R', Pd p N w' R' seed bm (upl lm key none) (n - if (lm key).isSome then 1 else 0) ∧ Ch (· = ro p) w R w' R' := by
  obtain ⟨h, r, s, h1, h2, h3, h4, h5⟩ := h
  refine (DP.del_t h1 w r bm s key h2 hN hk).mono ?_
  rintro _ w' ⟨rfl, r', s', q1, q2, q3⟩
  obtain ⟨R', g1, g2⟩ := turn h3 hz q3 q1.1.1
  refine ⟨⟨_, rfl⟩, R', ⟨h, r', s', h1, q1, g1, fun k => ?_, ?_⟩, g2⟩
  · rw [q2.1 k]; unfold upl; rw [h4 k]
  · rw [q2.2, h5, h4 key]
theorem pd_len {p N : Nat} {w : World} {R : Ro} {seed bm : Nat} {lm : ByteArray → Option (Option Addr)} {n : Nat} (h : Pd p N w R seed bm lm n) :
    Calls Tryz.prog 71 #[.pointer (some ⟨bm, 0, none⟩)] w fun e w' => e = .returned (.int .i64 (n : Nat)) ∧ w' = w := by
  obtain ⟨h, r, s, h1, h2, h3, h4, h5⟩ := h
  rw [← h5]
  exact DP.len_t w r bm s h2
/-- a value as a space sees it: its block, all blocks that are its own, what it answers, what else is known of it -/
structure Vi where
  blk : Nat
  own : Nat → Prop
  txt : ByteArray
  emp : Bool
  cost : Int
  more : World → Prop
def Vs (w : World) (x : Vi) : Prop :=
  (∀ k, x.own k → k < w.heap.size) ∧ x.txt.size ≤ maxLen ∧ ∀ w' : World, w.heap.size ≤ w'.heap.size → (∀ k, x.own k → w'.heap[k]? = w.heap[k]?) →
    (Calls Tryz.prog 36 #[.pointer (some ⟨x.blk, 0, none⟩)] w' fun e w'' => (∃ q, e = .returned (.tuple #[.string x.txt, .bool q])) ∧ Below w'.heap.size w' w'') ∧
    (Calls Tryz.prog 38 #[.pointer (some ⟨x.blk, 0, none⟩)] w' fun e w'' => e = .returned (.bool x.emp) ∧ Below w'.heap.size w' w'') ∧
    (Calls Tryz.prog 85 #[.pointer (some ⟨x.blk, 0, none⟩)] w' fun e w'' => e = .returned (.int .i64 x.cost) ∧ Below w'.heap.size w' w'') ∧ x.more w'
theorem Vs.kept {w w' : World} {x : Vi} (h : Vs w x) (hs : w.heap.size ≤ w'.heap.size) (hk : ∀ k, x.own k → w'.heap[k]? = w.heap[k]?) : Vs w' x :=
  ⟨fun k hx => Nat.lt_of_lt_of_le (h.1 k hx) hs, h.2.1, fun w2 h2 hk2 => h.2.2 w2 (Nat.le_trans hs h2) (fun k hx => (hk2 k hx).trans (hk k hx))⟩
theorem Vs.bel {w w' : World} {x : Vi} (h : Vs w x) (hb : Below w.heap.size w w') : Vs w' x := h.kept hb.size (fun k hk => hb.block k (h.1 k hk))
/-- a value whose blocks all have one role that stands -/
theorem Vs.ch {A : Nat × ByteArray → Prop} {w w' : World} {R R' : Ro} {x : Vi} {q : Nat × ByteArray} (h : Vs w x) (hr : ∀ k, x.own k → R k = q) (c : Ch A w R w' R') (ha : ¬ A q) : Vs w' x ∧ ∀ k, x.own k → R' k = q := by
  have hh : ∀ k, x.own k → w'.heap[k]? = w.heap[k]? ∧ R' k = R k := fun k hk => c.same k (h.1 k hk) (by rw [hr k hk]; exact ha)
  exact ⟨h.kept c.size (fun k hk => (hh k hk).1), fun k hk => by rw [(hh k hk).2]; exact hr k hk⟩
structure En where
  e : Nat
  v : Vi
  stamp : Nat
  dl : Int
  cost : Int
def EnB (w : World) (x : En) : Prop := w.heap[x.e]? = some (.cells #[.pointer (some ⟨x.v.blk, 0, none⟩), .int .u64 x.stamp, .int .i64 x.dl, .int .i64 x.cost] 116 (0, 0))
/-- an entry, and the value that it holds, under a key -/
def Pe (w : World) (R : Ro) (key : ByteArray) (x : En) : Prop := (R x.e = (6, key) ∧ EnB w x) ∧ Vs w x.v ∧ ∀ k, x.v.own k → R k = (7, key)
theorem Pe.kept {A : Nat × ByteArray → Prop} {w w' : World} {R R' : Ro} {key : ByteArray} {x : En} (h : Pe w R key x) (c : Ch A w R w' R') (h6 : ¬ A (6, key)) (h7 : ¬ A (7, key)) : Pe w' R' key x := by
  obtain ⟨⟨a, b⟩, d, e⟩ := h
  obtain ⟨f, g⟩ := c.same x.e (Array.getElem?_eq_some_iff.1 b).1 (by rw [a]; exact h6)
  obtain ⟨d', e'⟩ := d.ch e c h7
  exact ⟨⟨g.trans a, f.trans b⟩, d', e'⟩
def enS (l : List (Int × ByteArray)) : List Value := l.flatMap fun x => [.int .i64 x.1, .string x.2]
/-- the steps -/
def Ps (w : World) (R : Ro) (sv : Value) (l : List (Int × ByteArray)) : Prop := w.ownsRow 0 121 2 sv l.length (enS l) ∧ ∀ k, sv.ownBlock = some k → R k = ro 5
theorem Ps.kept {A : Nat × ByteArray → Prop} {w w' : World} {R R' : Ro} {sv : Value} {l : List (Int × ByteArray)} (h : Ps w R sv l) (c : Ch A w R w' R') (ha : ¬ A (ro 5)) : Ps w' R' sv l := by
  have hh : ∀ k, sv.ownBlock = some k → w'.heap[k]? = w.heap[k]? ∧ R' k = R k := fun k hk => c.same k (h.1.lt k hk).2 (by rw [h.2 k hk]; exact ha)
  exact ⟨DP.own_kept h.1 (fun k hk => (hh k hk).1), fun k hk => by rw [(hh k hk).2]; exact h.2 k hk⟩
/-- what was touched -/
def Pt (w : World) (R : Ro) (tb n : Nat) (T : List ByteArray) : Prop := R tb = ro 4 ∧ Vl.Seen w tb n T
theorem Pt.kept {A : Nat × ByteArray → Prop} {w w' : World} {R R' : Ro} {tb n : Nat} {T : List ByteArray} (h : Pt w R tb n T) (c : Ch A w R w' R') (ha : ¬ A (ro 4)) : Pt w' R' tb n T := by
  obtain ⟨a, D, h1, h2⟩ := h
  obtain ⟨f, g⟩ := c.same tb h1.lt (by rw [a]; exact ha)
  obtain ⟨es, clock, hh, F, hs, hD⟩ := h1
  exact ⟨g.trans a, D, ⟨es, clock, f.trans hh, F, hs, hD⟩, h2⟩
/-- what a space holds -/
structure Sx where
  seed : Nat
  most : Int
  pol : Int
  smp : Int
  now : Int
  uses : Nat
  used : Int
  bm : Nat
  bd : Nat
  tb : Nat
  lm : ByteArray → Option (Option Addr)
  nm : Nat
  ld : ByteArray → Option (Option Addr)
  nd : Nat
  tn : Nat
  T : List ByteArray
  st : List (Int × ByteArray)
  E : ByteArray → Option En
def Pb (w : World) (R : Ro) (b : Nat) (s : Sx) (sv : Value) : Prop := R b = ro 1 ∧
  w.heap[b]? = some (.cells #[.int .u64 s.seed, .int .i64 s.most, .int .i64 s.pol, .int .i64 s.smp, .int .i64 s.now, .int .u64 s.uses, .int .i64 s.used, .pointer (some ⟨s.bm, 0, none⟩), .pointer (some ⟨s.bd, 0, none⟩), .map (some s.tb), sv] 47 (0, 0))
theorem Pb.kept {A : Nat × ByteArray → Prop} {w w' : World} {R R' : Ro} {b : Nat} {s : Sx} {sv : Value} (h : Pb w R b s sv) (c : Ch A w R w' R') (ha : ¬ A (ro 1)) : Pb w' R' b s sv := by
  obtain ⟨f, g⟩ := c.same b (Array.getElem?_eq_some_iff.1 h.2).1 (by rw [h.1]; exact ha)
  exact ⟨g.trans h.1, f.trans h.2⟩
theorem Pb.cells {w : World} {R : Ro} {b : Nat} {s : Sx} {sv : Value} (h : Pb w R b s sv) :
    w.cell? ⟨b, 0, none⟩ = some (.int .u64 s.seed) ∧ w.cell? ⟨b, 1, none⟩ = some (.int .i64 s.most) ∧ w.cell? ⟨b, 2, none⟩ = some (.int .i64 s.pol) ∧ w.cell? ⟨b, 3, none⟩ = some (.int .i64 s.smp) ∧ w.cell? ⟨b, 4, none⟩ = some (.int .i64 s.now) ∧ w.cell? ⟨b, 5, none⟩ = some (.int .u64 s.uses) ∧ w.cell? ⟨b, 6, none⟩ = some (.int .i64 s.used) ∧
    w.cell? ⟨b, 7, none⟩ = some (.pointer (some ⟨s.bm, 0, none⟩)) ∧ w.cell? ⟨b, 8, none⟩ = some (.pointer (some ⟨s.bd, 0, none⟩)) ∧ w.cell? ⟨b, 9, none⟩ = some (.map (some s.tb)) ∧ w.cell? ⟨b, 10, none⟩ = some sv ∧ ∀ i, w.frozen? ⟨b, i, none⟩ = false := by
  have h := h.2
  refine ⟨?_, ?_, ?_, ?_, ?_, ?_, ?_, ?_, ?_, ?_, ?_, fun i => ?_⟩ <;> simp [World.cell?, World.frozen?, h]
theorem EnB.cells {w : World} {x : En} (h : EnB w x) :
    w.cell? ⟨x.e, 0, none⟩ = some (.pointer (some ⟨x.v.blk, 0, none⟩)) ∧ w.cell? ⟨x.e, 1, none⟩ = some (.int .u64 x.stamp) ∧ w.cell? ⟨x.e, 2, none⟩ = some (.int .i64 x.dl) ∧ w.cell? ⟨x.e, 3, none⟩ = some (.int .i64 x.cost) ∧ ∀ i, w.frozen? ⟨x.e, i, none⟩ = false := by
  unfold EnB at h
  refine ⟨?_, ?_, ?_, ?_, fun i => ?_⟩ <;> simp [World.cell?, World.frozen?, h]
/-- a space in block b -/
structure Sp (N : Nat) (w : World) (R : Ro) (b : Nat) (s : Sx) : Prop where
  lt : ∀ k, R k ≠ z0 → k < w.heap.size
  blk : ∃ sv, Pb w R b s sv ∧ Ps w R sv s.st
  main : Pd 2 N w R s.seed s.bm s.lm s.nm
  dead : Pd 3 N w R ((s.seed + 1) % 18446744073709551616) s.bd s.ld s.nd
  tch : Pt w R s.tb s.tn s.T
  ent : ∀ key x, s.E key = some x → Pe w R key x
theorem ro_ne {a b : Nat} (h : a ≠ b) : ro a ≠ ro b := fun e => h (congrArg Prod.fst e)
theorem ro_key {a b : Nat} {k : ByteArray} (h : a ≠ b) : ro a ≠ (b, k) := fun e => h (congrArg Prod.fst e)
theorem key_ro {a b : Nat} {k : ByteArray} (h : a ≠ b) : (a, k) ≠ ro b := fun e => h (congrArg Prod.fst e)
theorem Sp.bel {N : Nat} {w w' : World} {R : Ro} {b : Nat} {s : Sx} (h : Sp N w R b s) (hb : Below w.heap.size w w') : Sp N w' R b s := by
  have c : Ch (fun _ => False) w R w' R := Ch.bel hb h.lt
  obtain ⟨sv, hb1, hb2⟩ := h.blk
  exact ⟨c.lt, ⟨sv, hb1.kept c id, hb2.kept c id⟩, h.main.kept c id, h.dead.kept c id, h.tch.kept c id, fun key x hx => (h.ent key x hx).kept c id id⟩
theorem Sp.more {N N' : Nat} {w : World} {R : Ro} {b : Nat} {s : Sx} (h : Sp N w R b s) (hN : N ≤ N') : Sp N' w R b s := { h with main := h.main.more hN, dead := h.dead.more hN }
/-- the struct has turned -/
theorem Sp.own {N : Nat} {w w' : World} {R R' : Ro} {b : Nat} {s : Sx} (h : Sp N w R b s) (c : Ch (· = ro 1) w R w' R') (now : Int) (uses : Nat) (used : Int) (hb : ∀ sv, Pb w R b s sv → Pb w' R' b { s with now := now, uses := uses, used := used } sv) :
    Sp N w' R' b { s with now := now, uses := uses, used := used } := by
  obtain ⟨sv, hb1, hb2⟩ := h.blk
  exact ⟨c.lt, ⟨sv, hb sv hb1, hb2.kept c (ro_ne (by decide))⟩, h.main.kept c (ro_ne (by decide)), h.dead.kept c (ro_ne (by decide)), h.tch.kept c (ro_ne (by decide)), fun key x hx => (h.ent key x hx).kept c (key_ro (by decide)) (key_ro (by decide))⟩
def upe (E : ByteArray → Option En) (key : ByteArray) (x : Option En) : ByteArray → Option En := fun k => if k = key then x else E k
theorem upe_same (E : ByteArray → Option En) (key : ByteArray) (x : Option En) : upe E key x key = x := if_pos rfl
/-- an entry has turned, the value that it holds has not -/
theorem Sp.entry {N : Nat} {w w' : World} {R R' : Ro} {b : Nat} {s : Sx} (h : Sp N w R b s) (key : ByteArray) (c : Ch (· = (6, key)) w R w' R') (x : En) (hx : Pe w' R' key x) : Sp N w' R' b { s with E := upe s.E key (some x) } := by
  obtain ⟨sv, hb1, hb2⟩ := h.blk
  refine ⟨c.lt, ⟨sv, hb1.kept c (ro_key (by decide)), hb2.kept c (ro_key (by decide))⟩, h.main.kept c (ro_key (by decide)), h.dead.kept c (ro_key (by decide)), h.tch.kept c (ro_key (by decide)), fun k y hy => ?_⟩
  dsimp only [upe] at hy
  by_cases e : k = key
  · rw [if_pos e] at hy; cases hy; rw [e]; exact hx
  · rw [if_neg e] at hy
    exact (h.ent k y hy).kept c (fun e' => e (congrArg Prod.snd e')) (fun e' => absurd (congrArg Prod.fst e') (show (7 : Nat) ≠ 6 by decide))
/-- the main dict has turned -/
theorem Sp.mains {N N' : Nat} {w w' : World} {R R' : Ro} {b : Nat} {s : Sx} (h : Sp N w R b s) (c : Ch (· = ro 2) w R w' R') (hN : N ≤ N') (lm : ByteArray → Option (Option Addr)) (nm : Nat) (hm : Pd 2 N' w' R' s.seed s.bm lm nm) : Sp N' w' R' b { s with lm := lm, nm := nm } := by
  obtain ⟨sv, hb1, hb2⟩ := h.blk
  exact ⟨c.lt, ⟨sv, hb1.kept c (ro_ne (by decide)), hb2.kept c (ro_ne (by decide))⟩, hm, (h.dead.kept c (ro_ne (by decide))).more hN, h.tch.kept c (ro_ne (by decide)), fun key x hx => (h.ent key x hx).kept c (key_ro (by decide)) (key_ro (by decide))⟩
/-- that of the deadlines has -/
theorem Sp.deads {N N' : Nat} {w w' : World} {R R' : Ro} {b : Nat} {s : Sx} (h : Sp N w R b s) (c : Ch (· = ro 3) w R w' R') (hN : N ≤ N') (ld : ByteArray → Option (Option Addr)) (nd : Nat) (hm : Pd 3 N' w' R' ((s.seed + 1) % 18446744073709551616) s.bd ld nd) : Sp N' w' R' b { s with ld := ld, nd := nd } := by
  obtain ⟨sv, hb1, hb2⟩ := h.blk
  exact ⟨c.lt, ⟨sv, hb1.kept c (ro_ne (by decide)), hb2.kept c (ro_ne (by decide))⟩, (h.main.kept c (ro_ne (by decide))).more hN, hm, h.tch.kept c (ro_ne (by decide)), fun key x hx => (h.ent key x hx).kept c (key_ro (by decide)) (key_ro (by decide))⟩
/-- what was touched has -/
theorem Sp.tchs {N : Nat} {w w' : World} {R R' : Ro} {b : Nat} {s : Sx} (h : Sp N w R b s) (c : Ch (· = ro 4) w R w' R') (tn : Nat) (T : List ByteArray) (hm : Pt w' R' s.tb tn T) : Sp N w' R' b { s with tn := tn, T := T } := by
  obtain ⟨sv, hb1, hb2⟩ := h.blk
  exact ⟨c.lt, ⟨sv, hb1.kept c (ro_ne (by decide)), hb2.kept c (ro_ne (by decide))⟩, h.main.kept c (ro_ne (by decide)), h.dead.kept c (ro_ne (by decide)), hm, fun key x hx => (h.ent key x hx).kept c (key_ro (by decide)) (key_ro (by decide))⟩
/-- the steps, and where they lie -/
theorem Sp.stps {N : Nat} {w w' : World} {R R' : Ro} {b : Nat} {s : Sx} (h : Sp N w R b s) (c : Ch (fun x => x = ro 1 ∨ x = ro 5) w R w' R') (sv : Value) (st : List (Int × ByteArray)) (hb : Pb w' R' b s sv) (hm : Ps w' R' sv st) : Sp N w' R' b { s with st := st } := by
  have n : ∀ a : Nat, a ≠ 1 → a ≠ 5 → ¬ (ro a = ro 1 ∨ ro a = ro 5) := fun a h1 h5 => not_or.2 ⟨ro_ne h1, ro_ne h5⟩
  have n' : ∀ (a : Nat) (k : ByteArray), a ≠ 1 → a ≠ 5 → ¬ ((a, k) = ro 1 ∨ (a, k) = ro 5) := fun a k h1 h5 => not_or.2 ⟨key_ro h1, key_ro h5⟩
  exact ⟨c.lt, ⟨sv, hb, hm⟩, h.main.kept c (n 2 (by decide) (by decide)), h.dead.kept c (n 3 (by decide) (by decide)), h.tch.kept c (n 4 (by decide) (by decide)), fun key x hx => (h.ent key x hx).kept c (n' 6 key (by decide) (by decide)) (n' 7 key (by decide) (by decide))⟩
/-- an entry is not looked at any more -/
theorem Sp.forget {N : Nat} {w : World} {R : Ro} {b : Nat} {s : Sx} (h : Sp N w R b s) (key : ByteArray) : Sp N w R b { s with E := upe s.E key none } :=
  ⟨h.lt, h.blk, h.main, h.dead, h.tch, fun k x hx => by
    dsimp only [upe] at hx
    by_cases e : k = key
    · rw [if_pos e] at hx; cases hx
    · rw [if_neg e] at hx; exact h.ent k x hx⟩
end Ks
end Go.Proofs.YthmmblohfjmbcaaGreat
