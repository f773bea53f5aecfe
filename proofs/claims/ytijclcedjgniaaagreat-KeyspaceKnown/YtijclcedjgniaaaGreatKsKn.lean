/-
  A space by the list of what it stores, while a statement asks it.
-/
import Derived.Test.YtijclcedjgniaaaGreatKsSame
namespace Go.Proofs.YtijclcedjgniaaaGreat
open Go.RowKit Go.Shelf
set_option linter.unusedVariables false
namespace Ks
def asc : List (ByteArray × En) → ByteArray → Option En
  | [], _ => none
  | p :: t, k => if k = p.1 then some p.2 else asc t k
def ptr (x : En) : Option Addr := some ⟨x.e, 0, none⟩
def dea (x : En) : Option (Option Addr) := if mor x then some (ptr x) else none
/-- what a space holds, told by a list -/
structure Vw (s : Sx) (l : List (ByteArray × En)) (now : Int) (uses : Nat) (used : Int) (T : List ByteArray) (st : List (Int × ByteArray)) (m : Nat) : Prop where
  e : ∀ k, s.E k = asc l k
  lm : ∀ k, s.lm k = (asc l k).map ptr
  ld : ∀ k, s.ld k = (asc l k).bind dea
  nm : s.nm = l.length
  now : s.now = now
  uses : s.uses = uses
  used : s.used = used
  T : s.T = T
  st : s.st = st
  tn : s.tn ≤ m
def KN (g : Nat) (w0 : World) (P : Nat → Prop) (wP : World) (N : Nat) (w : World) (b : Nat) (l : List (ByteArray × En)) (now : Int) (uses : Nat) (used : Int) (T : List ByteArray) (st : List (Int × ByteArray)) (m : Nat) : Prop :=
  ∃ R s, Sp N w R b s ∧ Vw s l now uses used T st m ∧ (∀ k, R k ≠ z0 → g ≤ k) ∧ Below g w0 w ∧ g ≤ w0.heap.size ∧ (∀ k, P k → R k = z0 ∧ k < wP.heap.size ∧ w.heap[k]? = wP.heap[k]?) ∧ wP.heap.size ≤ w.heap.size
theorem not_own_z : ¬ Own z0 := fun e => e.1 rfl
variable {g : Nat} {w0 : World} {P : Nat → Prop} {wP : World} {N : Nat} {w : World} {b : Nat} {l : List (ByteArray × En)} {now : Int} {uses : Nat} {used : Int} {T : List ByteArray} {st : List (Int × ByteArray)} {m : Nat}
/-- one more call -/
theorem next {N' : Nat} {w' : World} {R R' : Ro} {s s' : Sx} {l' : List (ByteArray × En)} {now' : Int} {uses' : Nat} {used' : Int} {T' : List ByteArray} {st' : List (Int × ByteArray)} {m' : Nat} (hs : Sp N w R b s) (hlo : ∀ k, R k ≠ z0 → g ≤ k) (hb : Below g w0 w) (hg : g ≤ w0.heap.size) (hP : ∀ k, P k → R k = z0 ∧ k < wP.heap.size ∧ w.heap[k]? = wP.heap[k]?) (hz : wP.heap.size ≤ w.heap.size)
    (f : Fs w R w' R') (hs' : Sp N' w' R' b s') (hv : Vw s' l' now' uses' used' T' st' m') : KN g w0 P wP N' w' b l' now' uses' used' T' st' m' := by
  have hzero : ∀ k, k < w.heap.size → R k = z0 → w'.heap[k]? = w.heap[k]? ∧ R' k = z0 := fun k hk hr => by
    obtain ⟨a, c⟩ := f.same k hk (by rw [hr]; exact not_own_z)
    exact ⟨a, c.trans hr⟩
  have hr0 : ∀ k, k < g → R k = z0 := fun k hk => Decidable.byContradiction fun e => by have := hlo k e; omega
  have hgw : g ≤ w.heap.size := Nat.le_trans hg hb.size
  refine ⟨R', s', hs', hv, fun k hk => ?_, hb.trans ⟨f.os, f.tape, f.output, f.size, fun k hk => (hzero k (by omega) (hr0 k hk)).1⟩, hg, fun k hk => ?_, Nat.le_trans hz f.size⟩
  · rcases Nat.lt_or_ge k g with h | h
    · exact absurd (hzero k (by omega) (hr0 k h)).2 hk
    · exact h
  · obtain ⟨p1, p2, p3⟩ := hP k hk
    obtain ⟨q1, q2⟩ := hzero k (by omega) p1
    exact ⟨q2, p2, q1.trans p3⟩
theorem KN.bel {w' : World} (h : KN g w0 P wP N w b l now uses used T st m) (hb : Below w.heap.size w w') : KN g w0 P wP N w' b l now uses used T st m := by
  obtain ⟨R, s, hs, hv, hlo, hb0, hg, hP, hz⟩ := h
  exact next hs hlo hb0 hg hP hz (Ch.bel hb hs.lt) (hs.bel hb) hv
theorem KN.swap {p q : ByteArray × En} (h : KN g w0 P wP N w b [p, q] now uses used T st m) (hne : p.1 ≠ q.1) : KN g w0 P wP N w b [q, p] now uses used T st m := by
  obtain ⟨R, s, hs, hv, hr⟩ := h
  have e : ∀ k, asc [p, q] k = asc [q, p] k := fun k => by
    unfold asc asc asc
    by_cases h1 : k = p.1
    · have h2 : ¬ k = q.1 := fun e => hne (h1.symm.trans e)
      rw [if_pos h1, if_neg h2, if_pos h1]
    · rw [if_neg h1, if_neg h1]
  exact ⟨R, s, hs, { hv with e := fun k => (hv.e k).trans (e k), lm := fun k => (hv.lm k).trans (by rw [e k]), ld := fun k => (hv.ld k).trans (by rw [e k]) }, hr⟩
/-- what is put by: a value that is new -/
theorem KN.keep {w1 w2 : World} (h : KN g w0 (fun _ => False) wP N w1 b l now uses used T st m) (hb : Below w1.heap.size w1 w2) (P' : Nat → Prop) (hP' : ∀ k, P' k → w1.heap.size ≤ k ∧ k < w2.heap.size) : KN g w0 P' w2 N w2 b l now uses used T st m := by
  obtain ⟨R, s, hs, hv, hlo, hb0, hg, hP, hz⟩ := h
  have h2 := hs.bel hb
  refine ⟨R, s, h2, hv, hlo, ?_, hg, fun k hk => ⟨?_, (hP' k hk).2, rfl⟩, Nat.le_refl _⟩
  · exact hb0.trans (hb.mono (Nat.le_trans hg hb0.size))
  · have := (hP' k hk).1
    exact Decidable.byContradiction fun e => by have := hs.lt k e; omega
theorem KN.drop (h : KN g w0 P wP N w b l now uses used T st m) : KN g w0 (fun _ => False) w N w b l now uses used T st m := by
  obtain ⟨R, s, hs, hv, hlo, hb0, hg, hP, hz⟩ := h
  exact ⟨R, s, hs, hv, hlo, hb0, hg, fun k hk => hk.elim, Nat.le_refl _⟩
theorem KN.below (h : KN g w0 P wP N w b l now uses used T st m) : Below g w0 w := by obtain ⟨_, _, _, _, _, h, _⟩ := h; exact h
theorem KN.has (h : KN g w0 P wP N w b l now uses used T st m) {key : ByteArray} {x : En} (hx : asc l key = some x) : Vs w x.v := by
  obtain ⟨R, s, hs, hv, _⟩ := h
  exact (hs.ent key x ((hv.e key).trans hx)).2.1
/-- a value of no role is taken in -/
theorem Sp.adopt {R : Ro} {s : Sx} (h : Sp N w R b s) (v : Vi) (hv : Vs w v) (hz : ∀ k, v.own k → R k = z0) (key : ByteArray) : ∃ R1, Sp N w R1 b s ∧ (∀ k, v.own k → R1 k = (7, key)) ∧ ∀ k, ¬ v.own k → R1 k = R k := by
  classical
  have c : Ch (· = z0) w R w (fun k => if v.own k then (7, key) else R k) := by
    refine ⟨rfl, rfl, rfl, Nat.le_refl _, fun k hk hn => ⟨rfl, if_neg (fun e => hn (hz k e))⟩, fun k hk => ?_⟩
    by_cases e : v.own k
    · exact hv.1 k e
    · rw [if_neg e] at hk; exact h.lt k hk
  have n : ∀ a : Nat, a ≠ 0 → ro a ≠ z0 := fun a h0 e => h0 (congrArg Prod.fst e)
  have n' : ∀ (a : Nat) (k : ByteArray), a ≠ 0 → ((a, k) : Nat × ByteArray) ≠ z0 := fun a k h0 e => h0 (congrArg Prod.fst e)
  obtain ⟨sv, hb1, hb2⟩ := h.blk
  exact ⟨_, ⟨c.lt, ⟨sv, hb1.kept c (n 1 (by decide)), hb2.kept c (n 5 (by decide))⟩, h.main.kept c (n 2 (by decide)), h.dead.kept c (n 3 (by decide)), h.tch.kept c (n 4 (by decide)), fun key' x hx => (h.ent key' x hx).kept c (n' 6 key' (by decide)) (n' 7 key' (by decide))⟩, fun k hk => if_pos hk, fun k hk => if_neg hk⟩
/-- as it is, with a value taken in -/
theorem KN.adopt (h : KN g w0 P wP N w b l now uses used T st m) (v : Vi) (hv : Vs wP v) (ho : ∀ k, v.own k → P k ∧ g ≤ k) (P' : Nat → Prop) (hP' : ∀ k, P' k → P k ∧ ¬ v.own k) (key : ByteArray) :
    ∃ R s, Sp N w R b s ∧ Vw s l now uses used T st m ∧ (∀ k, R k ≠ z0 → g ≤ k) ∧ Below g w0 w ∧ g ≤ w0.heap.size ∧ (∀ k, P' k → R k = z0 ∧ k < wP.heap.size ∧ w.heap[k]? = wP.heap[k]?) ∧ wP.heap.size ≤ w.heap.size ∧ Vs w v ∧ ∀ k, v.own k → R k = (7, key) := by
  obtain ⟨R, s, hs, hv', hlo, hb0, hg, hP, hz⟩ := h
  have hvw : Vs w v := hv.kept hz (fun k hk => (hP k (ho k hk).1).2.2)
  obtain ⟨R1, h1, h2, h3⟩ := hs.adopt v hvw (fun k hk => (hP k (ho k hk).1).1) key
  refine ⟨R1, s, h1, hv', fun k hk => ?_, hb0, hg, fun k hk => ?_, hz, hvw, h2⟩
  · by_cases e : v.own k
    · exact (ho k e).2
    · rw [h3 k e] at hk; exact hlo k hk
  · obtain ⟨a, c⟩ := hP' k hk
    rw [h3 k c]
    exact hP k a
theorem asc_put (l : List (ByteArray × En)) (key : ByteArray) (x : En) (k : ByteArray) : asc ((key, x) :: l) k = upe (asc l) key (some x) k := rfl
theorem asc_head (t : List (ByteArray × En)) (key : ByteArray) (x x' : En) (k : ByteArray) : asc ((key, x') :: t) k = upe (asc ((key, x) :: t)) key (some x') k := by
  show (if k = key then _ else _) = (if k = key then _ else if k = key then _ else _)
  by_cases e : k = key <;> simp [e]
theorem asc_tail {t : List (ByteArray × En)} {key : ByteArray} (h : asc t key = none) (x : En) (k : ByteArray) : asc t k = upe (asc ((key, x) :: t)) key none k := by
  show _ = (if k = key then none else if k = key then _ else _)
  by_cases e : k = key
  · rw [if_pos e, e, h]
  · rw [if_neg e, if_neg e]
theorem asc_at (t : List (ByteArray × En)) (key : ByteArray) (x : En) : asc ((key, x) :: t) key = some x := if_pos rfl
def rc (key : ByteArray) (c : Int) : Int := wrap64 (wrap64 (48 + (key.size : Int)) + c)
theorem rck_new (key : ByteArray) (e0 : Nat) (v : Vi) (a : Nat) (c : Int) : rck key (newE e0 v a c) = rc key v.cost := if_neg (by simp [mor, newE])
theorem kn_put {P' : Nat → Prop} (h : KN g w0 P wP N w b l now uses used T st m) (key : ByteArray) (hk : key.size ≤ 1048576) (v : Vi) (hv : Vs wP v) (ho : ∀ k, v.own k → P k ∧ g ≤ k) (hP' : ∀ k, P' k → P k ∧ ¬ v.own k) (hts : v.txt.size ≤ 1048576) (he : v.emp = false)
    (hx : asc l key = none) (hN : N + 1 ≤ 2600000000000) (used' : Int) (hu : wrap64 (used + wrap64 (rc key v.cost - 0)) = used') (hm : m ≤ 100000) :
    Calls Tryz.prog 26 #[pb b, .string key, pb v.blk] w fun e w' => e = .returned (.int .i64 0) ∧ ∃ e0, KN g w0 P' wP (N + 1) w' b ((key, newE e0 v ((uses + 1) % 18446744073709551616) (rc key v.cost)) :: l) now ((uses + 1) % 18446744073709551616) used' (insT T key) st (m + 1) := by
  obtain ⟨R, s, hs, hw, hlo, hb0, hg, hP, hz, hvw, hr⟩ := h.adopt v hv ho P' hP' key
  have hlm : s.lm key = none := by rw [hw.lm, hx]; rfl
  have htn := hw.tn
  refine (put_new hs key hk v hvw hr hts hlm hN (by unfold maxLen; omega) he).mono ?_
  rintro _ w' ⟨rfl, e0, R', s', f⟩
  refine ⟨rfl, e0, next hs hlo hb0 hg hP hz f s' ⟨fun k => ?_, fun k => ?_, fun k => ?_, ?_, hw.now, ?_, ?_, ?_, hw.st, Nat.add_le_add_right htn 1⟩⟩
  · show upe s.E key _ k = _
    rw [asc_put, rck_new, ← hw.uses, show s.E = asc l from funext hw.e]
  · show upl s.lm key _ k = _
    rw [asc_put]
    unfold upl upe
    by_cases e : k = key
    · rw [if_pos e, if_pos e]; rfl
    · rw [if_neg e, if_neg e, hw.lm]
  · show s.ld k = _
    rw [hw.ld, asc_put]
    unfold upe
    by_cases e : k = key
    · rw [if_pos e, e, hx]; rfl
    · rw [if_neg e]
  · show s.nm + _ = _
    rw [hw.nm, hlm]; rfl
  · show (s.uses + 1) % _ = _
    rw [hw.uses]
  · show wrap64 (s.used + wrap64 (rck key (newE e0 v 0 0) - 0)) = _
    rw [rck_new, hw.used, hu]
  · show insT s.T key = _
    rw [hw.T]
/-- what is asked -/

theorem kn_used (h : KN g w0 P wP N w b l now uses used T st m) : Calls Tryz.prog 12 #[pb b] w fun e w' => e = .returned (.int .i64 used) ∧ KN g w0 P wP N w' b l now uses used T st m := by
  have h0 := h
  obtain ⟨R, s, hs, hw, hlo, hb0, hg, hP, hz⟩ := h
  refine (used_any hs).mono ?_
  rintro _ w' ⟨rfl, rfl⟩
  exact ⟨by rw [hw.used], h0⟩

theorem kn_now (h : KN g w0 P wP N w b l now uses used T st m) : Calls Tryz.prog 16 #[pb b] w fun e w' => e = .returned (.int .i64 now) ∧ KN g w0 P wP N w' b l now uses used T st m := by
  have h0 := h
  obtain ⟨R, s, hs, hw, hlo, hb0, hg, hP, hz⟩ := h
  refine (now_any hs).mono ?_
  rintro _ w' ⟨rfl, rfl⟩
  exact ⟨by rw [hw.now], h0⟩

theorem kn_tick (h : KN g w0 P wP N w b l now uses used T st m) (t : Int) (h0 : 0 ≤ t) (h1 : t ≤ 9007199254740992) (n' : Int) (hn : (now < t ∧ n' = t) ∨ (t ≤ now ∧ n' = now)) : Calls Tryz.prog 30 #[pb b, .int .i64 t] w fun e w' => e = .returned (.int .i64 0) ∧ KN g w0 P wP N w' b l n' uses used T st m := by
  obtain ⟨R, s, hs, hw, hlo, hb0, hg, hP, hz⟩ := h
  refine (tick_to hs t h0 h1 n' (by rw [hw.now]; exact hn)).mono ?_
  rintro _ w' ⟨rfl, s', f⟩
  exact ⟨rfl, next hs hlo hb0 hg hP hz f s' ⟨hw.e, hw.lm, hw.ld, hw.nm, rfl, hw.uses, hw.used, hw.T, hw.st, hw.tn⟩⟩

theorem kn_look (h : KN g w0 P wP N w b l now uses used T st m) (key : ByteArray) (hk : key.size ≤ maxLen) (x : En) (hx : asc l key = some x) (hp : pas now x = false) (hN : N ≤ 2600000000000) : Calls Tryz.prog 29 #[pb b, .string key] w fun e w' => e = .returned (.tuple #[pb x.v.blk, .bool true]) ∧ KN g w0 P wP N w' b l now uses used T st m := by
  obtain ⟨R, s, hs, hw, hlo, hb0, hg, hP, hz⟩ := h
  have hE : s.E key = some x := (hw.e key).trans hx
  have hL : s.lm key = some (some ⟨x.e, 0, none⟩) := by rw [hw.lm, hx]; rfl
  have hp' : pas s.now x = false := by rw [hw.now]; exact hp
  refine (look_here hs key hk x hL hE hp' hN).mono ?_
  rintro _ w' ⟨rfl, R', s', f⟩
  exact ⟨rfl, next hs hlo hb0 hg hP hz f s' ⟨hw.e, hw.lm, hw.ld, hw.nm, hw.now, hw.uses, hw.used, hw.T, hw.st, hw.tn⟩⟩

theorem kn_stamp (h : KN g w0 P wP N w b l now uses used T st m) (key : ByteArray) (hk : key.size ≤ maxLen) (x : En) (hx : asc l key = some x) (hp : pas now x = false) (hN : N ≤ 2600000000000) : Calls Tryz.prog 21 #[pb b, .string key] w fun e w' => e = .returned (.tuple #[.int .u64 (x.stamp : Nat), .bool true]) ∧ KN g w0 P wP N w' b l now uses used T st m := by
  obtain ⟨R, s, hs, hw, hlo, hb0, hg, hP, hz⟩ := h
  have hE : s.E key = some x := (hw.e key).trans hx
  have hL : s.lm key = some (some ⟨x.e, 0, none⟩) := by rw [hw.lm, hx]; rfl
  have hp' : pas s.now x = false := by rw [hw.now]; exact hp
  refine (stamp_here hs key hk x hL hE hp' hN).mono ?_
  rintro _ w' ⟨rfl, R', s', f⟩
  exact ⟨rfl, next hs hlo hb0 hg hP hz f s' ⟨hw.e, hw.lm, hw.ld, hw.nm, hw.now, hw.uses, hw.used, hw.T, hw.st, hw.tn⟩⟩

theorem kn_changed_none (h : KN g w0 P wP N w b l now uses used T st m) (key : ByteArray) (hk : key.size ≤ maxLen) (hx : asc l key = none) (hN : N ≤ 2600000000000) : Calls Tryz.prog 35 #[pb b, .string key] w fun e w' => e = .returned (.bool false) ∧ KN g w0 P wP N w' b l now uses used T st m := by
  obtain ⟨R, s, hs, hw, hlo, hb0, hg, hP, hz⟩ := h
  have hL : s.lm key = none := by rw [hw.lm, hx]; rfl
  refine (changed_none hs key hk hL hN).mono ?_
  rintro _ w' ⟨rfl, R', s', f⟩
  exact ⟨rfl, next hs hlo hb0 hg hP hz f s' ⟨hw.e, hw.lm, hw.ld, hw.nm, hw.now, hw.uses, hw.used, hw.T, hw.st, hw.tn⟩⟩

theorem kn_setdl_none (h : KN g w0 P wP N w b l now uses used T st m) (key : ByteArray) (hk : key.size ≤ maxLen) (hx : asc l key = none) (hN : N ≤ 2600000000000) (t : Int) : Calls Tryz.prog 31 #[pb b, .string key, .int .i64 t] w fun e w' => e = .returned (.bool false) ∧ KN g w0 P wP N w' b l now uses used T st m := by
  obtain ⟨R, s, hs, hw, hlo, hb0, hg, hP, hz⟩ := h
  have hL : s.lm key = none := by rw [hw.lm, hx]; rfl
  refine (setdl_none hs key hk t hL hN).mono ?_
  rintro _ w' ⟨rfl, R', s', f⟩
  exact ⟨rfl, next hs hlo hb0 hg hP hz f s' ⟨hw.e, hw.lm, hw.ld, hw.nm, hw.now, hw.uses, hw.used, hw.T, hw.st, hw.tn⟩⟩

theorem kn_setdl_above (h : KN g w0 P wP N w b l now uses used T st m) (key : ByteArray) (hk : key.size ≤ maxLen) (x : En) (hx : asc l key = some x) (hp : pas now x = false) (hN : N ≤ 2600000000000) (t : Int) (ha : ¬ t ≤ 9007199254740992) : Calls Tryz.prog 31 #[pb b, .string key, .int .i64 t] w fun e w' => e = .returned (.bool false) ∧ KN g w0 P wP N w' b l now uses used T st m := by
  obtain ⟨R, s, hs, hw, hlo, hb0, hg, hP, hz⟩ := h
  have hE : s.E key = some x := (hw.e key).trans hx
  have hL : s.lm key = some (some ⟨x.e, 0, none⟩) := by rw [hw.lm, hx]; rfl
  have hp' : pas s.now x = false := by rw [hw.now]; exact hp
  refine (setdl_above hs key hk t x hL hE hp' hN ha).mono ?_
  rintro _ w' ⟨rfl, R', s', f⟩
  exact ⟨rfl, next hs hlo hb0 hg hP hz f s' ⟨hw.e, hw.lm, hw.ld, hw.nm, hw.now, hw.uses, hw.used, hw.T, hw.st, hw.tn⟩⟩

theorem kn_get (key : ByteArray) (hk : key.size ≤ maxLen) (x : En) (t : List (ByteArray × En)) (h : KN g w0 P wP N w b ((key, x) :: t) now uses used T st m) (hp : pas now x = false) (hN : N ≤ 2600000000000) : Calls Tryz.prog 28 #[pb b, .string key] w fun e w' => e = .returned (.tuple #[pb x.v.blk, .bool true]) ∧ KN g w0 P wP N w' b ((key, { x with stamp := (uses + 1) % 18446744073709551616 }) :: t) now ((uses + 1) % 18446744073709551616) used T st m := by
  obtain ⟨R, s, hs, hw, hlo, hb0, hg, hP, hz⟩ := h
  have hE : s.E key = some x := (hw.e key).trans (asc_at _ _ _)
  have hL : s.lm key = some (some ⟨x.e, 0, none⟩) := by rw [hw.lm, asc_at]; rfl
  have hp' : pas s.now x = false := by rw [hw.now]; exact hp
  have htn := hw.tn
  refine (get_here hs key hk x hL hE hp' hN).mono ?_
  rintro _ w' ⟨rfl, R', s', f⟩
  refine ⟨rfl, next hs hlo hb0 hg hP hz f s' ⟨fun k => ?_, fun k => ?_, fun k => ?_, hw.nm, hw.now, ?_, hw.used, hw.T, hw.st, hw.tn⟩⟩
  · show upe s.E key _ k = _
    rw [asc_head t key x, ← hw.uses, show s.E = asc ((key, x) :: t) from funext hw.e]
  · show s.lm k = _
    rw [hw.lm, asc_head t key x ({ x with stamp := (uses + 1) % 18446744073709551616 })]
    unfold upe
    by_cases e : k = key
    · rw [if_pos e, e, asc_at]; rfl
    · rw [if_neg e]
  · show s.ld k = _
    rw [hw.ld, asc_head t key x ({ x with stamp := (uses + 1) % 18446744073709551616 })]
    unfold upe
    by_cases e : k = key
    · rw [if_pos e, e, asc_at]; rfl
    · rw [if_neg e]
  · show (s.uses + 1) % _ = _
    rw [hw.uses]

theorem vw_drop {s : Sx} {key : ByteArray} {x : En} {t : List (ByteArray × En)} (hw : Vw s ((key, x) :: t) now uses used T st m) (hn : asc t key = none) (used' : Int) (hu : wrap64 (used + wrap64 (0 - x.cost)) = used') : Vw (dropS s key x) t now uses used' (insT T key) st (m + 1) := by
  have hL : s.lm key = some (some ⟨x.e, 0, none⟩) := by rw [hw.lm, asc_at]; rfl
  refine ⟨fun k => ?_, fun k => ?_, fun k => ?_, ?_, hw.now, hw.uses, ?_, ?_, hw.st, Nat.add_le_add_right hw.tn 1⟩
  · show upe s.E key none k = _
    rw [asc_tail hn x k, show s.E = asc ((key, x) :: t) from funext hw.e]
  · show upl s.lm key none k = _
    rw [asc_tail hn x k]
    unfold upl upe
    by_cases e : k = key
    · rw [if_pos e, if_pos e]; rfl
    · rw [if_neg e, if_neg e, hw.lm]
  · show (if mor x then upl s.ld key none else s.ld) k = _
    rw [asc_tail hn x k]
    have hd := hw.ld k
    cases hm : mor x
    · rw [if_neg (by simp), hd]
      unfold upe
      by_cases e : k = key
      · rw [if_pos e, e, asc_at]; simp [dea, hm]
      · rw [if_neg e]
    · rw [if_pos rfl]
      unfold upl upe
      by_cases e : k = key
      · rw [if_pos e, if_pos e]; rfl
      · rw [if_neg e, if_neg e, hd]
  · show s.nm - (if (s.lm key).isSome then 1 else 0) = _
    rw [hL, hw.nm]; rfl
  · show wrap64 (s.used + wrap64 (0 - x.cost)) = _
    rw [hw.used, hu]
  · show insT s.T key = _
    rw [hw.T]

theorem kn_setdl_drop (key : ByteArray) (hk : key.size ≤ maxLen) (x : En) (t : List (ByteArray × En)) (h : KN g w0 P wP N w b ((key, x) :: t) now uses used T st m) (hp : pas now x = false) (hN : N + 1 ≤ 2600000000000) (hm : m ≤ 100000) (hn : asc t key = none) (used' : Int) (hu : wrap64 (used + wrap64 (0 - x.cost)) = used') (at' : Int) (ha : at' ≤ 9007199254740992) (hd : at' ≤ now) : Calls Tryz.prog 31 #[pb b, .string key, .int .i64 at'] w fun e w' => e = .returned (.bool true) ∧ KN g w0 P wP N w' b t now uses used' (insT T key) st (m + 1) := by
  obtain ⟨R, s, hs, hw, hlo, hb0, hg, hP, hz⟩ := h
  have hE : s.E key = some x := (hw.e key).trans (asc_at _ _ _)
  have hL : s.lm key = some (some ⟨x.e, 0, none⟩) := by rw [hw.lm, asc_at]; rfl
  have hp' : pas s.now x = false := by rw [hw.now]; exact hp
  have htn := hw.tn
  refine (setdl_drop hs key hk at' x hL hE hp' hN (by unfold maxLen; omega) ha (by rw [hw.now]; exact hd)).mono ?_
  rintro _ w' ⟨rfl, R', s', f⟩
  exact ⟨rfl, next hs hlo hb0 hg hP hz f s' (vw_drop hw hn used' hu)⟩

theorem kn_changed_gone (key : ByteArray) (hk : key.size ≤ maxLen) (x : En) (t : List (ByteArray × En)) (h : KN g w0 P wP N w b ((key, x) :: t) now uses used T st m) (hp : pas now x = false) (hN : N + 1 ≤ 2600000000000) (hm : m ≤ 100000) (hn : asc t key = none) (used' : Int) (hu : wrap64 (used + wrap64 (0 - x.cost)) = used') (he : x.v.emp = true) : Calls Tryz.prog 35 #[pb b, .string key] w fun e w' => e = .returned (.bool true) ∧ KN g w0 P wP N w' b t now uses used' (insT T key) st (m + 1) := by
  obtain ⟨R, s, hs, hw, hlo, hb0, hg, hP, hz⟩ := h
  have hE : s.E key = some x := (hw.e key).trans (asc_at _ _ _)
  have hL : s.lm key = some (some ⟨x.e, 0, none⟩) := by rw [hw.lm, asc_at]; rfl
  have hp' : pas s.now x = false := by rw [hw.now]; exact hp
  have htn := hw.tn
  refine (changed_gone hs key hk x hL hE hp' hN (by unfold maxLen; omega) he).mono ?_
  rintro _ w' ⟨rfl, R', s', f⟩
  exact ⟨rfl, next hs hlo hb0 hg hP hz f s' (vw_drop hw hn used' hu)⟩

theorem kn_look_past (key : ByteArray) (hk : key.size ≤ maxLen) (x : En) (t : List (ByteArray × En)) (h : KN g w0 P wP N w b ((key, x) :: t) now uses used T st m) (hp : pas now x = true) (hl : st.length ≤ 5000000000000) (hN : N + 1 ≤ 2600000000000) (hm : m ≤ 100000) (hn : asc t key = none) (used' : Int) (hu : wrap64 (used + wrap64 (0 - x.cost)) = used') : Calls Tryz.prog 29 #[pb b, .string key] w fun e w' => e = .returned (.tuple #[.pointer none, .bool false]) ∧ KN g w0 P wP N w' b t now uses used' (insT T key) (st ++ [(1, key)]) (m + 1) := by
  obtain ⟨R, s, hs, hw, hlo, hb0, hg, hP, hz⟩ := h
  have hE : s.E key = some x := (hw.e key).trans (asc_at _ _ _)
  have hL : s.lm key = some (some ⟨x.e, 0, none⟩) := by rw [hw.lm, asc_at]; rfl
  have hp' : pas s.now x = true := by rw [hw.now]; exact hp
  have htn := hw.tn
  refine (look_past hs key hk x hL hE hp' hN (by unfold maxLen; omega) (by rw [hw.st]; exact hl)).mono ?_
  rintro _ w' ⟨rfl, R', s', f⟩
  have hv := vw_drop hw hn used' hu
  exact ⟨rfl, next hs hlo hb0 hg hP hz f s' ⟨hv.e, hv.lm, hv.ld, hv.nm, hv.now, hv.uses, hv.used, hv.T, by show s.st ++ _ = _; rw [hw.st], hv.tn⟩⟩

theorem kn_put_gone {P' : Nat → Prop} (key : ByteArray) (hk : key.size ≤ 1048576) (x : En) (t : List (ByteArray × En)) (h : KN g w0 P wP N w b ((key, x) :: t) now uses used T st m) (hp : pas now x = false) (hN : N + 1 ≤ 2600000000000) (hm : m ≤ 100000) (hn : asc t key = none) (used' : Int) (hu : wrap64 (used + wrap64 (0 - x.cost)) = used') (v : Vi) (hv : Vs wP v) (ho : ∀ k, v.own k → P k ∧ g ≤ k) (hP' : ∀ k, P' k → P k ∧ ¬ v.own k) (hts : v.txt.size ≤ 1048576) (he : v.emp = true) : Calls Tryz.prog 26 #[pb b, .string key, pb v.blk] w fun e w' => e = .returned (.int .i64 0) ∧ KN g w0 P' wP N w' b t now uses used' (insT T key) st (m + 1) := by
  obtain ⟨R, s, hs, hw, hlo, hb0, hg, hP, hz, hvw, hr⟩ := h.adopt v hv ho P' hP' key
  have hE : s.E key = some x := (hw.e key).trans (asc_at _ _ _)
  have hL : s.lm key = some (some ⟨x.e, 0, none⟩) := by rw [hw.lm, asc_at]; rfl
  have hp' : pas s.now x = false := by rw [hw.now]; exact hp
  have htn := hw.tn
  refine (put_gone hs key hk v hvw hr hts x hL hE hp' hN (by unfold maxLen; omega) he).mono ?_
  rintro _ w' ⟨rfl, R', s', f⟩
  exact ⟨rfl, next hs hlo hb0 hg hP hz f s' (vw_drop hw hn used' hu)⟩

theorem kn_setdl_set (key : ByteArray) (hk : key.size ≤ maxLen) (x : En) (t : List (ByteArray × En)) (h : KN g w0 P wP N w b ((key, x) :: t) now uses used T st m) (hm0 : x.dl = 0) (hp : pas now x = false) (hN : N + 1 ≤ 2600000000000) (hm : m ≤ 100000) (at' : Int) (ha : at' ≤ 9007199254740992) (hd : now < at') (h0 : at' ≠ 0) (used' cost' : Int) (hc : wrap64 (x.cost + 16) = cost') (hu : wrap64 (used + wrap64 (cost' - x.cost)) = used') : Calls Tryz.prog 31 #[pb b, .string key, .int .i64 at'] w fun e w' => e = .returned (.bool true) ∧ KN g w0 P wP (N + 1) w' b ((key, { x with cost := cost', dl := at' }) :: t) now uses used' (insT T key) st (m + 1) := by
  obtain ⟨R, s, hs, hw, hlo, hb0, hg, hP, hz⟩ := h
  have hE : s.E key = some x := (hw.e key).trans (asc_at _ _ _)
  have hL : s.lm key = some (some ⟨x.e, 0, none⟩) := by rw [hw.lm, asc_at]; rfl
  have hp' : pas s.now x = false := by rw [hw.now]; exact hp
  have htn := hw.tn
  have hmor : mor x = false := by unfold mor; rw [hm0]; rfl
  have hmor' : mor { x with cost := cost', dl := at' } = true := by unfold mor; simpa using h0
  refine (setdl_set hs key hk at' x hL hE hp' hN (by unfold maxLen; omega) ha (by rw [hw.now]; exact hd)).mono ?_
  rintro _ w' ⟨rfl, R', s', f⟩
  refine ⟨rfl, next hs hlo hb0 hg hP hz f s' ⟨fun k => ?_, fun k => ?_, fun k => ?_, hw.nm, hw.now, hw.uses, ?_, ?_, hw.st, Nat.add_le_add_right hw.tn 1⟩⟩
  · show upe s.E key (some { x with cost := if mor x then x.cost else wrap64 (x.cost + 16), dl := at' }) k = _
    rw [asc_head t key x, hmor, if_neg (by simp), hc, show s.E = asc ((key, x) :: t) from funext hw.e]
  · show s.lm k = _
    rw [hw.lm, asc_head t key x ({ x with cost := cost', dl := at' })]
    unfold upe
    by_cases e : k = key
    · rw [if_pos e, e, asc_at]; rfl
    · rw [if_neg e]
  · show upl s.ld key _ k = _
    rw [asc_head t key x]
    unfold upl upe
    by_cases e : k = key
    · rw [if_pos e, if_pos e]
      show _ = dea _
      unfold dea
      rw [hmor', if_pos rfl]
      rfl
    · rw [if_neg e, if_neg e, hw.ld]
  · show (if mor x then s.used else wrap64 (s.used + wrap64 (wrap64 (x.cost + 16) - x.cost))) = _
    rw [hmor, if_neg (by simp), hc, hw.used, hu]
  · show insT s.T key = _
    rw [hw.T]

theorem kn_steps (h : KN g w0 P wP N w b l now uses used T st m) : Calls Tryz.prog 13 #[pb b] w fun e w' => (∃ v, e = .returned v ∧ w'.ownsRow 0 55 2 v st.length (enS st)) ∧ KN g w0 P wP N w' b l now uses used T [] m := by
  obtain ⟨R, s, hs, hw, hlo, hb0, hg, hP, hz⟩ := h
  refine (steps_any hs).mono ?_
  rintro _ w' ⟨⟨v, rfl, hr⟩, R', s', f⟩
  rw [hw.st] at hr
  exact ⟨⟨v, rfl, hr⟩, next hs hlo hb0 hg hP hz f s' ⟨hw.e, hw.lm, hw.ld, hw.nm, hw.now, hw.uses, hw.used, hw.T, rfl, hw.tn⟩⟩

theorem kn_touched (h : KN g w0 P wP N w b l now uses used T st m) (hn : T.Nodup) (hl : T.length ≤ 8000000000000) : Calls Tryz.prog 14 #[pb b] w fun e w' => (∃ v, e = .returned v ∧ Vl.It w' v (srt T)) ∧ KN g w0 P wP N w' b l now uses used [] st 0 := by
  obtain ⟨R, s, hs, hw, hlo, hb0, hg, hP, hz⟩ := h
  refine (touched_any hs (by rw [hw.T]; exact hn) (by rw [hw.T]; exact hl)).mono ?_
  rintro _ w' ⟨⟨v, rfl, hr, _⟩, s', f⟩
  rw [hw.T] at hr
  exact ⟨⟨v, rfl, hr⟩, next hs hlo hb0 hg hP hz f s' ⟨hw.e, hw.lm, hw.ld, hw.nm, hw.now, hw.uses, hw.used, rfl, hw.st, Nat.zero_le _⟩⟩

theorem kn_len (h : KN g w0 P wP N w b l now uses used T st m) (hN : N ≤ 2600000000000) (hF : ∀ key x, asc l key = some x → pas now x = false) : Calls Tryz.prog 20 #[pb b] w fun e w' => e = .returned (.int .i64 (l.length : Nat)) ∧ KN g w0 P wP N w' b l now uses used T st m := by
  have h0 := h
  obtain ⟨R, s, hs, hw, hlo, hb0, hg, hP, hz⟩ := h
  refine (len_none hs hN (fun key a ha => ?_)).mono ?_
  · rw [hw.ld] at ha
    cases hc : asc l key with
    | none => rw [hc] at ha; cases ha
    | some x =>
      rw [hc] at ha
      have ha' : dea x = some a := ha
      unfold dea at ha'
      split at ha'
      · cases ha'
        exact ⟨x, rfl, (hw.e key).trans hc, by rw [hw.now]; exact hF key x hc⟩
      · cases ha'
  · rintro _ w' ⟨rfl, hb⟩
    exact ⟨by rw [hw.nm], h0.bel hb⟩

theorem kn_new (w : World) : Calls Tryz.prog 8 #[.agg #[.int .u64 0, .int .i64 0, .int .i64 0, .int .i64 0]] w fun e w' => ∃ b, e = .returned (.tuple #[pb b, .int .i64 0]) ∧ KN w.heap.size w (fun _ => False) w' 0 w' b [] 0 0 0 [] [] 0 := by
  refine (new_ok w 0 (by decide) 0 0 0 (by decide) (by decide) (by decide) rfl).mono ?_
  rintro _ w' ⟨b, bm, bd, tb, rfl, hb, R, hs, hlo⟩
  exact ⟨b, rfl, R, _, hs, ⟨fun _ => rfl, fun _ => rfl, fun _ => rfl, rfl, rfl, rfl, rfl, rfl, rfl, Nat.le_refl _⟩, hlo, hb, Nat.le_refl _, fun _ h => h.elim, Nat.le_refl _⟩

theorem kn_value (key : ByteArray) (x : En) (t : List (ByteArray × En)) (h : KN g w0 P wP N w b ((key, x) :: t) now uses used T st m) {w' : World} (bb o : Nat) (cs cs' : List DQ.Chk) (hv : x.v = viL bb o cs) (hd' : DQ.Dq w' o cs') (hf : DQ.Fd o cs w w' cs') (hbo : ¬ DQ.OwD o cs bb) (hP0 : ∀ k, ¬ P k) : KN g w0 P wP N w' b ((key, { x with v := viL bb o cs' }) :: t) now uses used T st m := by
  classical
  obtain ⟨R, s, hs, hw, hlo, hb0, hg, hP, hz⟩ := h
  have hE : s.E key = some x := (hw.e key).trans (asc_at _ _ _)
  have hp := hs.ent key x hE
  rw [Pe, hv] at hp
  obtain ⟨⟨p1, p2⟩, p3, p4⟩ := hp
  have hown : ∀ k, DQ.OwD o cs k → R k = (7, key) := fun k hk => p4 k (.inr hk)
  obtain ⟨hsep, hnew⟩ := hf
  have c : Ch (· = (7, key)) w R w' (fun k => if DQ.OwD o cs' k then (7, key) else R k) := by
    refine ⟨hsep.1.1, hsep.1.2.1, hsep.1.2.2, hsep.2.1, fun k hk hn => ⟨hsep.2.2 k hk (fun e => hn (hown k e)), if_neg (fun e => ?_)⟩, fun k hk => ?_⟩
    · rcases hnew k e with e' | e'
      · exact hn (hown k e')
      · omega
    · by_cases e : DQ.OwD o cs' k
      · exact hd'.1.lt e
      · rw [if_neg e] at hk; exact Nat.lt_of_lt_of_le (hs.lt k hk) hsep.2.1
  have n7 : ∀ a : Nat, a ≠ 7 → ro a ≠ (7, key) := fun a h0 e => h0 (congrArg Prod.fst e)
  have n6 : ∀ (k : ByteArray), ((6, k) : Nat × ByteArray) ≠ (7, key) := fun k e => absurd (congrArg Prod.fst e) (show (6 : Nat) ≠ 7 by decide)
  obtain ⟨sv, hb1, hb2⟩ := hs.blk
  have hbbl : bb < w.heap.size := p3.1 bb (.inl rfl)
  have hHol : Vl.Hol w' bb 141 (.agg #[.pointer (some ⟨o, 0, none⟩)]) := by
    have h1 := (p3.2.2 w (Nat.le_refl _) (fun _ _ => rfl)).2.2.2.1
    exact (hsep.2.2 bb hbbl hbo).trans h1
  have hs' : Sp N w' (fun k => if DQ.OwD o cs' k then (7, key) else R k) b { s with E := upe s.E key (some { x with v := viL bb o cs' }) } := by
    refine ⟨c.lt, ⟨sv, hb1.kept c (n7 1 (by decide)), hb2.kept c (n7 5 (by decide))⟩, hs.main.kept c (n7 2 (by decide)), hs.dead.kept c (n7 3 (by decide)), hs.tch.kept c (n7 4 (by decide)), fun k y hy => ?_⟩
    dsimp only [upe] at hy
    by_cases e : k = key
    · rw [if_pos e] at hy
      cases hy
      rw [e]
      obtain ⟨q1, q2⟩ := c.same x.e (Array.getElem?_eq_some_iff.1 p2).1 (by rw [p1]; exact n6 key)
      refine ⟨⟨q2.trans p1, ?_⟩, vs_list hHol hd', fun k hk => ?_⟩
      · have : EnB w x := p2
        unfold EnB at this ⊢
        rw [hv] at this
        exact q1.trans this
      · rcases hk with hk | hk
        · by_cases e' : DQ.OwD o cs' k
          · exact if_pos e'
          · exact (if_neg e').trans (by rw [hk]; exact p4 bb (.inl rfl))
        · exact if_pos hk
    · rw [if_neg e] at hy
      exact (hs.ent k y hy).kept c (n6 k) (fun e' => e (congrArg Prod.snd e'))
  have hlo' : ∀ k, DQ.OwD o cs' k → g ≤ k := fun k hk => by
    rcases hnew k hk with e | e
    · exact hlo k (by rw [hown k e]; exact fun e' => absurd (congrArg Prod.fst e') (show (7 : Nat) ≠ 0 by decide))
    · have := hb0.size; omega
  refine ⟨_, _, hs', ⟨fun k => ?_, fun k => ?_, fun k => ?_, hw.nm, hw.now, hw.uses, hw.used, hw.T, hw.st, hw.tn⟩, fun k hk => ?_, hb0.trans ⟨hsep.1.1, hsep.1.2.1, hsep.1.2.2, hsep.2.1, fun k hk => hsep.2.2 k (by have := hb0.size; omega) (fun e => ?_)⟩, hg, fun k hk => (hP0 k hk).elim, Nat.le_trans hz hsep.2.1⟩
  · show upe s.E key _ k = _
    rw [asc_head t key x, show s.E = asc ((key, x) :: t) from funext hw.e]
  · show s.lm k = _
    rw [hw.lm, asc_head t key x ({ x with v := viL bb o cs' })]
    unfold upe
    by_cases e : k = key
    · rw [if_pos e, e, asc_at]; rfl
    · rw [if_neg e]
  · show s.ld k = _
    rw [hw.ld, asc_head t key x ({ x with v := viL bb o cs' })]
    unfold upe
    by_cases e : k = key
    · rw [if_pos e, e, asc_at]; rfl
    · rw [if_neg e]
  · by_cases e : DQ.OwD o cs' k
    · exact hlo' k e
    · rw [if_neg e] at hk; exact hlo k hk
  · have h1 := hlo k (by rw [hown k e]; exact fun e' => absurd (congrArg Prod.fst e') (show (7 : Nat) ≠ 0 by decide))
    omega
end Ks
end Go.Proofs.YtijclcedjgniaaaGreat
