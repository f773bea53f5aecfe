/-
  Contracts over this program, put together.
-/
import Derived.Test.YtmgeaanbgjbkcaaGreatMSb
import Derived.Shelf.SlSortCmp.InsertionK
import Derived.Lib.Bytealg
import Derived.BigRegion
import Derived.Deep.RegionHeld3
set_option maxHeartbeats 8000000
namespace Go.Proofs.YtmgeaanbgjbkcaaGreat.DS
open Go.RowKit Go.Shelf
def ky (x : ByteArray) : List UInt8 := x.data.toList
theorem ky_inj {x y : ByteArray} (h : ky x = ky y) : x = y := by
  obtain ⟨⟨a⟩⟩ := x
  obtain ⟨⟨b⟩⟩ := y
  simp only [ky] at h
  rw [h]
theorem cmp_less : ∀ (x y : List UInt8), Lib.compareBytes x y < 0 ↔ x < y
  | [], [] => by simp [Lib.compareBytes]
  | _ :: _, [] => by simp [Lib.compareBytes]
  | [], _ :: _ => by simp [Lib.compareBytes]
  | a :: x, b :: y => by
    rw [Lib.compareBytes, List.cons_lt_cons_iff]
    by_cases h1 : a < b
    · simp [h1]
    · by_cases h2 : b < a
      · have : ¬ a = b := fun e => by subst e; exact h1 h2
        simp [h1, h2, this]
      · have : a = b := UInt8.le_antisymm (UInt8.not_lt.1 h2) (UInt8.not_lt.1 h1)
        subst this
        rw [if_neg h1, if_neg h2, cmp_less x y]
        simp [h1]
def cfE (a b : Ent) : Int := Lib.compareBytes (ky a.1) (ky b.1)
theorem lt_cfE (a b : Ent) : ltOf cfE a b = decide (ky a.1 < ky b.1) := by
  unfold ltOf cfE
  by_cases h : ky a.1 < ky b.1
  · rw [decide_eq_true h, decide_eq_true ((cmp_less _ _).2 h)]
  · rw [decide_eq_false h, decide_eq_false (fun e => h ((cmp_less _ _).1 e))]
theorem swoE : Sort.SWO (ltOf cfE) where
  irrefl x := by rw [lt_cfE]; simp [List.lt_irrefl]
  trans x y z h1 h2 := by rw [lt_cfE, decide_eq_true_eq] at *; exact List.lt_trans h1 h2
  ntrans x y z h1 h2 := by
    rw [lt_cfE, decide_eq_false_iff_not, List.not_lt] at *
    exact List.le_trans h2 h1
def Srt (l m : List Ent) : Prop := m.Perm l ∧ m.Pairwise (fun a b => ky a.1 < ky b.1)
theorem srt_eq : ∀ {l m : List Ent}, l.Pairwise (fun a b => ky a.1 < ky b.1) → m.Pairwise (fun a b => ky a.1 < ky b.1) → l.Perm m → l = m := by
  intro l
  induction l with
  | nil => intro m _ _ h; exact (List.nil_perm.1 h).symm
  | cons a l ih =>
    intro m hl hm h
    cases m with
    | nil => exact absurd h.length_eq (by simp)
    | cons b m =>
      rw [List.pairwise_cons] at hl hm
      have hab : a = b := by
        have ha : a ∈ b :: m := h.subset (by simp)
        have hb : b ∈ a :: l := h.symm.subset (by simp)
        rcases List.mem_cons.1 ha with e | e
        · exact e
        · rcases List.mem_cons.1 hb with e' | e'
          · exact e'.symm
          · exact absurd (List.lt_trans (hm.1 a e) (hl.1 b e')) (List.lt_irrefl _)
      subst hab
      rw [ih hl.2 hm.2 ((List.perm_cons a).1 h)]
theorem Srt.eq {l l' m m' : List Ent} (h : Srt l m) (h' : Srt l' m') (hp : l.Perm l') : m = m' := srt_eq h.2 h'.2 (h.1.trans (hp.trans h'.1.symm))
def cst (l : List Ent) : Nat := (l.map fun e => 32 + e.1.size + e.2.size).sum
theorem cst_cons (e : Ent) (l : List Ent) : cst (e :: l) = 32 + e.1.size + e.2.size + cst l := by simp [cst]
theorem cst_perm {l m : List Ent} (h : l.Perm m) : cst l = cst m := (h.map _).sum_nat
theorem cst_le {l : List Ent} (h : ∀ e ∈ l, e.1.size ≤ 1048576 ∧ e.2.size ≤ 1048576) : cst l ≤ l.length * 2097184 := by
  induction l with
  | nil => simp [cst]
  | cons e l ih =>
    have h1 := ih (fun x hx => h x (List.mem_cons_of_mem _ hx))
    have h2 := h e (by simp)
    rw [cst_cons, List.length_cons, Nat.add_mul]
    omega
def cstO (k : ByteArray) : Option ByteArray → Nat
  | none => 0
  | some v => 32 + k.size + v.size
theorem split_key (k : ByteArray) : ∀ {l : List Ent}, (Dc.keys l).Nodup → l.Perm ((match Dc.look k l with | some x => [(k, x)] | none => []) ++ l.filter (fun e => decide (e.1 ≠ k))) := by
  intro l
  induction l with
  | nil => intro _; exact List.Perm.refl _
  | cons e l ih =>
    intro hn
    simp only [Dc.keys, List.map_cons, List.nodup_cons] at hn
    have hi := ih hn.2
    by_cases h : e.1 = k
    · have hk : Dc.look k l = none := (Dc.look_none k).2 (h ▸ hn.1)
      rw [hk] at hi
      simp only [Dc.look, if_pos h]
      rw [List.filter_cons_of_neg (by simpa using h)]
      obtain ⟨a, b⟩ := e
      simp only at h
      subst h
      exact List.Perm.cons _ hi
    · simp only [Dc.look, if_neg h]
      rw [List.filter_cons_of_pos (by simpa using h)]
      exact (List.Perm.cons e hi).trans (List.perm_middle.symm)
theorem cst_split {k : ByteArray} {l : List Ent} (hn : (Dc.keys l).Nodup) : cst l = cstO k (Dc.look k l) + cst (l.filter (fun e => decide (e.1 ≠ k))) := by
  rw [cst_perm (split_key k hn)]
  cases Dc.look k l with
  | none => simp [cstO]
  | some x => simp [cstO, cst_cons]
theorem perm_of_mem {α : Type} [DecidableEq α] : ∀ {l m : List α}, l.Nodup → m.Nodup → (∀ a, a ∈ l ↔ a ∈ m) → l.Perm m := by
  intro l
  induction l with
  | nil =>
    intro m _ _ h
    cases m with
    | nil => exact List.Perm.refl _
    | cons b m => exact absurd ((h b).2 (by simp)) (by simp)
  | cons a l ih =>
    intro m hl hm h
    have ha : a ∈ m := (h a).1 (by simp)
    rw [List.nodup_cons] at hl
    refine (List.Perm.cons a (ih hl.2 (hm.erase a) (fun x => ?_))).trans (List.perm_cons_erase ha).symm
    rw [hm.mem_erase_iff]
    constructor
    · intro hx
      exact ⟨fun e => hl.1 (e ▸ hx), (h x).1 (by simp [hx])⟩
    · rintro ⟨h1, h2⟩
      rcases List.mem_cons.1 ((h x).2 h2) with e | e
      · exact absurd e h1
      · exact e
theorem ent_nodup {l : List Ent} (h : (Dc.keys l).Nodup) : l.Nodup := by
  unfold Dc.keys at h
  induction l with
  | nil => exact List.nodup_nil
  | cons x l ih =>
    rw [List.map_cons, List.nodup_cons] at h
    exact List.nodup_cons.2 ⟨fun hm => h.1 (List.mem_map_of_mem hm), ih h.2⟩
theorem rest_perm {k : ByteArray} {l m : List Ent} (hl : (Dc.keys l).Nodup) (hm : (Dc.keys m).Nodup) (h : ∀ k', k' ≠ k → Dc.look k' l = Dc.look k' m) : (l.filter (fun e => decide (e.1 ≠ k))).Perm (m.filter (fun e => decide (e.1 ≠ k))) := by
  refine perm_of_mem ((ent_nodup hl).filter _) ((ent_nodup hm).filter _) (fun a => ?_)
  rw [List.mem_filter, List.mem_filter]
  constructor
  · rintro ⟨h1, h2⟩
    have h2' : a.1 ≠ k := by simpa using h2
    exact ⟨(Dc.look_mem hm a.1 a.2).1 ((h a.1 h2') ▸ (Dc.look_mem hl a.1 a.2).2 h1), h2⟩
  · rintro ⟨h1, h2⟩
    have h2' : a.1 ≠ k := by simpa using h2
    exact ⟨(Dc.look_mem hl a.1 a.2).1 ((h a.1 h2').symm ▸ (Dc.look_mem hm a.1 a.2).2 h1), h2⟩
theorem all_nodup {h : ByteArray → Nat} {s : Dc.St ByteArray ByteArray} (hI : Dc.Inv h s) : (Dc.keys (Dc.all s)).Nodup := by rw [Dc.all_eq hI]; exact hI.nodup
theorem set_cst {h : ByteArray → Nat} {s s' : Dc.St ByteArray ByteArray} {k v : ByteArray} (hI : Dc.Inv h s) (hI' : Dc.Inv h s') (hs : Setd s s' k v) : cst (Dc.all s') + cstO k (lk s k) = cst (Dc.all s) + (32 + k.size + v.size) := by
  rw [cst_split (k := k) (all_nodup hI'), cst_split (k := k) (all_nodup hI), cst_perm (rest_perm (k := k) (all_nodup hI') (all_nodup hI) (fun k' hk => by have := hs.1 k'; unfold lk at this; rw [this, if_neg hk]))]
  have := hs.1 k
  unfold lk at this
  rw [this, if_pos rfl]
  unfold lk
  simp only [cstO]
  omega
theorem sam_cst {h : ByteArray → Nat} {s s' : Dc.St ByteArray ByteArray} (hI : Dc.Inv h s) (hI' : Dc.Inv h s') (hs : Samd s s') : (Dc.all s').Perm (Dc.all s) :=
  perm_of_mem (ent_nodup (all_nodup hI')) (ent_nodup (all_nodup hI)) (fun a => by
    have := hs.1 a.1
    unfold lk at this
    rw [← Dc.look_mem (all_nodup hI'), ← Dc.look_mem (all_nodup hI), this])
def Bnd (s : Dc.St ByteArray ByteArray) : Prop := (∀ k v, lk s k = some v → k.size ≤ 1048576 ∧ v.size ≤ 1048576) ∧ ln s ≤ 1048576
theorem Bnd.cst {h : ByteArray → Nat} {s : Dc.St ByteArray ByteArray} (hB : Bnd s) (hI : Dc.Inv h s) : cst (Dc.all s) ≤ 2199056809984 := by
  have h1 := cst_le (l := Dc.all s) (fun e he => hB.1 e.1 e.2 ((Dc.look_mem (all_nodup hI) e.1 e.2).2 he))
  have h2 : (Dc.all s).length ≤ 1048576 := hB.2
  omega
theorem Bnd.set {s s' : Dc.St ByteArray ByteArray} {k v : ByteArray} (hB : Bnd s) (hs : Setd s s' k v) (hk : k.size ≤ 1048576) (hv : v.size ≤ 1048576) (hn : lk s k = none → ln s < 1048576) : Bnd s' := by
  refine ⟨fun k' v' h => ?_, ?_⟩
  · rw [hs.1 k'] at h
    by_cases e : k' = k
    · rw [if_pos e] at h
      cases h
      rw [e]
      exact ⟨hk, hv⟩
    · rw [if_neg e] at h
      exact hB.1 k' v' h
  · rw [hs.2]
    cases e : lk s k with
    | none => have := hn e; simp; omega
    | some x => simpa using hB.2
end Go.Proofs.YtmgeaanbgjbkcaaGreat.DS

namespace Go.Proofs.YtmgeaanbgjbkcaaGreat.DS
open Go.RowKit Go.Shelf
abbrev Sx : Type := Dc.St ByteArray ByteArray
def rr (r : Roles) (R : Nat) : Roles := fun k => if k = R then (6, 0) else r k
theorem rr_zero {r : Roles} {R k : Nat} : rr r R k = (0, 0) ↔ k ≠ R ∧ r k = (0, 0) := by
  unfold rr
  by_cases h : k = R
  · rw [if_pos h]; simp [h]
  · rw [if_neg h]; simp [h]
def Rec (h : ByteArray → Nat) (N : Nat) (w : World) (r : Roles) (R b seed : Nat) (s : Sx) : Prop :=
  Dd h N w r b seed s ∧ Bnd s ∧ r R = (0, 0) ∧ w.heap[R]? = some (.cells #[.int .u64 seed, .pointer (some ⟨b, 0, none⟩), .int .i64 ((cst (Dc.all s) : Nat) : Int)] 193 (0, 0))
theorem three {w : World} {b : Nat} {v0 v1 v2 : Value} {t : TypeId} (h : w.heap[b]? = some (.cells #[v0, v1, v2] t (0, 0))) :
    w.cell? ⟨b, 0, none⟩ = some v0 ∧ w.cell? ⟨b, 1, none⟩ = some v1 ∧ w.cell? ⟨b, 2, none⟩ = some v2 ∧ ∀ i, w.frozen? ⟨b, i, none⟩ = false := by
  refine ⟨?_, ?_, ?_, fun i => ?_⟩ <;> simp [World.cell?, World.frozen?, h]
theorem Rec.kept {h : ByteArray → Nat} {N : Nat} {w w' : World} {r : Roles} {R b seed : Nat} {s : Sx} (hr : Rec h N w r R b seed s) (hs : w.heap.size ≤ w'.heap.size) (hk : ∀ k, k < w.heap.size → rr r R k ≠ (0, 0) → w'.heap[k]? = w.heap[k]?) : Rec h N w' r R b seed s := by
  obtain ⟨h1, h2, h3, h4⟩ := hr
  have hl := (Array.getElem?_eq_some_iff.1 h4).1
  refine ⟨h1.kept hs (fun k hk1 hk2 => hk k hk1 (fun e => hk2 (rr_zero.1 e).2)), h2, h3, ?_⟩
  rw [hk R hl (fun e => (rr_zero.1 e).1 rfl)]
  exact h4
theorem Rec.below {h : ByteArray → Nat} {N : Nat} {w w' : World} {r : Roles} {R b seed : Nat} {s : Sx} (hr : Rec h N w r R b seed s) (hb : Below w.heap.size w w') : Rec h N w' r R b seed s := hr.kept hb.size (fun k hk _ => hb.block k hk)
theorem Fr.rr {w w' : World} {r r' : Roles} (hf : Fr w r w' r') (R : Nat) : Fr w (rr r R) w' (rr r' R) :=
  ⟨hf.1, hf.2.1, fun k hk hz => by
    obtain ⟨h1, h2⟩ := rr_zero.1 hz
    obtain ⟨h3, h4⟩ := hf.2.2 k hk h2
    exact ⟨h3, rr_zero.2 ⟨h1, h4⟩⟩⟩
theorem rnew_any (h : ByteArray → Nat) (w : World) (seed N : Nat) :
    Calls Tryz.prog 73 #[.int .u64 seed] w fun e w' => e = .returned (.pointer (some ⟨w.heap.size + 1, 0, none⟩)) ∧ Below w.heap.size w w' ∧ Rec h N w' (fun k => if k = w.heap.size then (5, 0) else (0, 0)) (w.heap.size + 1) w.heap.size seed Dc.none0 := by
  have mN := new_any h w seed N
  go_enter Tryz.func73, Tryz.ntmps73
  go_wp2_with fail
  refine mN.mono ?_
  rintro _ w1 ⟨rfl, hb, hz, hd⟩
  go_wp2
  go_ret
  refine ⟨rfl, hb.alloc hb.size _, hd.below ((Below.refl _ w1).alloc (Nat.le_refl _) _), ⟨fun k v hk => by simp [lk_none] at hk, by simp [ln_none]⟩, by simp, ?_⟩
  have := heap_alloc_new w1 (.cells #[.int .u64 seed, .pointer (some ⟨w.heap.size, 0, none⟩), .int .i64 0] 193)
  rw [hz] at this
  exact this
theorem dictionary_any {h : ByteArray → Nat} {N : Nat} {w : World} {r : Roles} {R b seed : Nat} {s : Sx} (hr : Rec h N w r R b seed s) :
    Calls Tryz.prog 119 #[.pointer (some ⟨R, 0, none⟩)] w fun e w' => e = .returned (.pointer (some ⟨b, 0, none⟩)) ∧ w' = w := by
  obtain ⟨c0, c1, c2, cf⟩ := three hr.2.2.2
  clear hr c0 c2 cf
  go_enter Tryz.func119, Tryz.ntmps119
  go_wp2
  go_ret
  exact ⟨rfl, rfl⟩
theorem rlen_any {h : ByteArray → Nat} {N : Nat} {w : World} {r : Roles} {R b seed : Nat} {s : Sx} (hr : Rec h N w r R b seed s) :
    Calls Tryz.prog 115 #[.pointer (some ⟨R, 0, none⟩)] w fun e w' => e = .returned (.int .i64 (ln s)) ∧ w' = w := by
  have mD := dictionary_any hr
  have mL := len_t w r b s hr.1
  clear hr
  go_enter Tryz.func115, Tryz.ntmps115
  go_wp2_with fail
  refine mD.mono ?_
  rintro _ w1 ⟨rfl, rfl⟩
  go_wp2_with fail
  refine mL.mono ?_
  rintro _ w1 ⟨rfl, rfl⟩
  go_wp2
  go_ret
  exact ⟨rfl, rfl⟩
theorem rcost_any {h : ByteArray → Nat} {N : Nat} {w : World} {r : Roles} {R b seed : Nat} {s : Sx} (hr : Rec h N w r R b seed s) :
    Calls Tryz.prog 304 #[.pointer (some ⟨R, 0, none⟩)] w fun e w' => e = .returned (.int .i64 ((cst (Dc.all s) : Nat) : Int)) ∧ w' = w := by
  obtain ⟨c0, c1, c2, cf⟩ := three hr.2.2.2
  clear hr c0 c1 cf
  go_enter Tryz.func304, Tryz.ntmps304
  go_wp2
  go_ret
  exact ⟨rfl, rfl⟩
theorem costOf_any (a c : ByteArray) (w : World) (ha : a.size ≤ 1048576) (hc : c.size ≤ 1048576) :
    Calls Tryz.prog 139 #[.string a, .string c] w fun e w' => e = .returned (.int .i64 ((32 + a.size + c.size : Nat) : Int)) ∧ w' = w := by
  have w1 : IntKind.i64.wrap (32 + (a.size : Int)) = 32 + (a.size : Int) := by rw [IntKind.wrap_i64]; omega
  have w2 : IntKind.i64.wrap (32 + (a.size : Int) + (c.size : Int)) = 32 + (a.size : Int) + (c.size : Int) := by rw [IntKind.wrap_i64]; omega
  clear ha hc
  go_enter Tryz.func139, Tryz.ntmps139
  go_wp2
  go_ret
  exact ⟨by simp [Int.natCast_add], rfl⟩
end Go.Proofs.YtmgeaanbgjbkcaaGreat.DS

namespace Go.Proofs.YtmgeaanbgjbkcaaGreat.DS
open Go.RowKit Go.Shelf
def tol (a : ByteArray) : Bool := decide ((1048576 : Int) < (a.size : Int))
theorem tol1_any (a : ByteArray) (w : World) :
    Calls Tryz.prog 195 #[.string a] w fun e w' => e = .returned (.bool (tol a)) ∧ w' = w := by
  go_enter Tryz.func195, Tryz.ntmps195
  go_wp2
  go_ret
  exact ⟨rfl, rfl⟩
theorem index2_any (w : World) (g : Nat) (a c : ByteArray) (h0 : w.cell? ⟨g, 0, none⟩ = some (.string a)) (h1 : w.cell? ⟨g, 1, none⟩ = some (.string c)) :
    Calls Tryz.prog 222 #[.slice (some ⟨g, 0, none⟩) 2 2, .func (.func 195) #[] #[]] w fun e w' => (∃ x : Int, e = .returned (.int .i64 x) ∧ decide ((0 : Int) ≤ x) = (tol a || tol c)) ∧ w' = w := by
  have eg : ∀ args w, (callFunc 195 args).run Tryz.prog w = .ok (.enter 195 args) w := enters_of Tryz.func195 (by kernel_rfl) rfl
  have mA := tol1_any a w
  have mC := tol1_any c w
  go_enter Tryz.func222, Tryz.ntmps222
  go_wp2
  go_loopg [5, 8] 2 (fun gg _ s8 wr => ∃ kk : Nat, kk ≤ 2 ∧ 2 - kk ≤ gg ∧ s8 = .int .i64 kk ∧ Kept (wr = w) ∧ Kept (0 < kk → tol a = false) ∧ Kept (1 < kk → tol c = false))
  case atStart => exact ⟨0, Nat.zero_le _, by omega, rfl, rfl, fun h => absurd h (by omega), fun h => absurd h (by omega)⟩
  case round =>
    obtain ⟨kk, hkk, hg2, rfl, hw, p0, p1⟩ := hrel
    have hw := hw.out
    subst hw
    obtain rfl | rfl | rfl : kk = 0 ∨ kk = 1 ∨ kk = 2 := by omega
    · cases hq : tol a with
      | true =>
        rw [hq] at mA
        have HQ := keep hq
        clear hq
        go_wp2_with fail
        refine mA.mono ?_
        rintro _ w' ⟨rfl, rfl⟩
        go_wp2
        go_ret
        exact ⟨⟨0, rfl, by simp [HQ.out]⟩, rfl⟩
      | false =>
        rw [hq] at mA
        have HQ := keep hq
        clear hq
        go_wp2_with fail
        refine mA.mono ?_
        rintro _ w' ⟨rfl, hw'⟩
        obtain rfl := hw'.symm
        go_wp2
        go_roundg 1
        case measure => omega
        case rel => exact ⟨1, by omega, by omega, rfl, rfl, fun _ => HQ.out, fun h => absurd h (by omega)⟩
    · have ha := p0.out (by omega)
      cases hq : tol c with
      | true =>
        rw [hq] at mC
        have HQ := keep hq
        clear hq
        have HA := keep ha
        clear ha
        go_wp2_with fail
        refine mC.mono ?_
        rintro _ w' ⟨rfl, rfl⟩
        go_wp2
        go_ret
        exact ⟨⟨1, rfl, by simp [HQ.out]⟩, rfl⟩
      | false =>
        rw [hq] at mC
        have HQ := keep hq
        have HA := keep ha
        clear hq ha
        go_wp2_with fail
        refine mC.mono ?_
        rintro _ w' ⟨rfl, hw'⟩
        obtain rfl := hw'.symm
        go_wp2
        go_roundg 0
        case measure => omega
        case rel => exact ⟨2, by omega, by omega, rfl, rfl, fun _ => HA.out, fun _ => HQ.out⟩
    · have HA := keep (p0.out (by omega))
      have HC := keep (p1.out (by omega))
      clear mA mC p0 p1
      go_wp2
      go_ret
      exact ⟨⟨-1, rfl, by rw [HA.out, HC.out]; rfl⟩, rfl⟩
theorem tooLong_any (w : World) (g : Nat) (a c : ByteArray) (h0 : w.cell? ⟨g, 0, none⟩ = some (.string a)) (h1 : w.cell? ⟨g, 1, none⟩ = some (.string c)) :
    Calls Tryz.prog 142 #[.slice (some ⟨g, 0, none⟩) 2 2] w fun e w' => e = .returned (.bool (tol a || tol c)) ∧ w' = w := by
  have mI := index2_any w g a c h0 h1
  clear h0 h1
  go_enter Tryz.func142, Tryz.ntmps142
  go_wp2_with (first | (go_at_call 222; refine mI.mono ?_; rintro _ w' ⟨⟨x, rfl, hx⟩, rfl⟩) | go_in)
  go_ret
  exact ⟨by rw [← hx]; rfl, rfl⟩
def Cst (R seed b : Nat) (V : Int) (w W : World) : Prop :=
  (W.os = w.os ∧ W.tape = w.tape ∧ W.output = w.output) ∧ W.heap.size = w.heap.size ∧ W.heap[R]? = some (.cells #[.int .u64 seed, .pointer (some ⟨b, 0, none⟩), .int .i64 V] 193 (0, 0)) ∧ ∀ k, k ≠ R → W.heap[k]? = w.heap[k]?
theorem Cst.one {R seed b : Nat} {U V : Int} {w : World} (h : w.heap[R]? = some (.cells #[.int .u64 seed, .pointer (some ⟨b, 0, none⟩), .int .i64 U] 193 (0, 0))) : Cst R seed b V w (w.setCell ⟨R, 2, none⟩ (.int .i64 V)) :=
  ⟨⟨rfl, rfl, rfl⟩, by simp [World.setCell], cells_setCell h, fun k hk => Below.heap_setCell _ _ _ _ hk⟩
theorem Cst.trans {R seed b : Nat} {U V : Int} {w W X : World} (h : Cst R seed b U w W) (g : Cst R seed b V W X) : Cst R seed b V w X :=
  ⟨⟨g.1.1.trans h.1.1, g.1.2.1.trans h.1.2.1, g.1.2.2.trans h.1.2.2⟩, g.2.1.trans h.2.1, g.2.2.1, fun k hk => (g.2.2.2 k hk).trans (h.2.2.2 k hk)⟩
theorem Cst.drew {R seed b : Nat} {V : Int} {w W : World} (h : Cst R seed b V w W) : Cst R seed b V w W.drew := h
theorem Cst.dd {h : ByteArray → Nat} {N : Nat} {w W : World} {r : Roles} {R b seed : Nat} {V : Int} {s : Sx} (hc : Cst R seed b V w W) (hd : Dd h N w r b seed s) (hR : r R = (0, 0)) : Dd h N W r b seed s :=
  hd.kept (by rw [hc.2.1]; exact Nat.le_refl _) (fun k _ hk => hc.2.2.2 k (fun e => hk (e ▸ hR)))
theorem Cst.fr {R seed b : Nat} {V : Int} {w W : World} (hc : Cst R seed b V w W) (r : Roles) : Fr w (rr r R) W (rr r R) :=
  ⟨hc.1, by rw [hc.2.1]; exact Nat.le_refl _, fun k _ hz => ⟨hc.2.2.2 k (rr_zero.1 hz).1, hz⟩⟩
theorem sam_set {s s' s4 : Sx} {k v : ByteArray} (h1 : Samd s s') (h2 : Setd s' s4 k v) : Setd s s4 k v :=
  ⟨fun x => by rw [h2.1 x, h1.1 x], by rw [h2.2, h1.2, h1.1 k]⟩
theorem rset_end {h : ByteArray → Nat} {N seed : Nat} {w W1 w2 W3 w4 : World} {r r' r4 : Roles} {R b : Nat} {s s' s4 : Sx} {f v : ByteArray} {V : Int} (hr : Rec h N w r R b seed s) (hb : Below w.heap.size w W1) (q1 : Dd h N w2 r' b seed s') (q2 : Samd s s') (q3 : Fr W1 r w2 r') (hc : Cst R seed b V w2 W3)
    (p1 : Dd h (N + 1) w4 r4 b seed s4) (p2 : Setd s' s4 f v) (p3 : Fr W3 r' w4 r4) (hf : f.size ≤ 1048576) (hv : v.size ≤ 1048576) (hn : lk s f = none → ln s < 1048576) (hV : V + (cstO f (lk s f) : Nat) = (cst (Dc.all s) + (32 + f.size + v.size) : Nat)) :
    Rec h (N + 1) w4 r4 R b seed s4 ∧ Setd s s4 f v ∧ Fr w (rr r R) w4 (rr r4 R) := by
  obtain ⟨h1, h2, h3, h4⟩ := hr
  have hl := (Array.getElem?_eq_some_iff.1 h4).1
  have hl1 : R < W1.heap.size := Nat.lt_of_lt_of_le hl hb.size
  obtain ⟨k1, k2⟩ := q3.2.2 R hl1 h3
  have hl3 : R < W3.heap.size := (Array.getElem?_eq_some_iff.1 hc.2.2.1).1
  obtain ⟨k3, k4⟩ := p3.2.2 R hl3 k2
  have e1 := set_cst q1.2.1 p1.2.1 p2
  rw [cst_perm (sam_cst h1.2.1 q1.2.1 q2), q2.1 f] at e1
  refine ⟨⟨p1, (h2.set (sam_set q2 p2) hf hv hn), k4, ?_⟩, sam_set q2 p2, (Fr.of_below hb).trans ((q3.rr R).trans ((hc.fr r').trans (p3.rr R)))⟩
  rw [k3, hc.2.2.1]
  have : V = ((cst (Dc.all s4) : Nat) : Int) := by omega
  rw [this]
set_option maxRecDepth 100000 in
theorem rset_ok {h : ByteArray → Nat} {seed N : Nat} (hH : HashIs seed h) {w : World} {r : Roles} {R b : Nat} {s : Sx} (hr : Rec h N w r R b seed s) (hN : N + 1 ≤ 2600000000000) (f v : ByteArray) (hf : f.size ≤ 1048576) (hv : v.size ≤ 1048576) (hn : lk s f = none → ln s < 1048576) :
    Calls Tryz.prog 86 #[.pointer (some ⟨R, 0, none⟩), .string f, .string v] w fun e w' => e = .returned (.tuple #[.bool (lk s f).isNone, .int .i64 0]) ∧ ∃ r' s', Rec h (N + 1) w' r' R b seed s' ∧ Setd s s' f v ∧ Fr w (rr r R) w' (rr r' R) := by
  have hfm : f.size ≤ maxLen := by unfold maxLen; omega
  obtain ⟨W1, hW1⟩ : ∃ W1, w.alloc (.cells #[.string f, .string v] 9) = W1 := ⟨_, rfl⟩
  have hb1 : Below w.heap.size w W1 := by rw [← hW1]; exact (Below.refl _ w).alloc (Nat.le_refl _) _
  have hg1 : W1.heap[w.heap.size]? = some (.cells #[.string f, .string v] 9 (0, 0)) := by rw [← hW1]; exact heap_alloc_new _ _
  have mT := tooLong_any W1 w.heap.size f v (by simp [World.cell?, hg1]) (by simp [World.cell?, hg1])
  rw [show (tol f || tol v) = false by unfold tol; simp; omega] at mT
  have hr1 := hr.below hb1
  obtain ⟨c0, c1, c2, cf⟩ := three hr1.2.2.2
  have mG := get_t hH W1 r b s f hr1.1 (by omega) hfm
  have hB := hr.2.1.cst hr.1.2.1
  have HR := keep hr
  have HB1 := keep hb1
  have HN := keep hn
  have HNN := keep hN
  have HF := keep hf
  have HV := keep hv
  have HFM := keep hfm
  have HB := keep hB
  have HR3 := keep hr1.2.2
  clear hr hb1 hg1 hr1 c0 c2 cf hn hf hv hfm hB hN
  unfold got at mG
  cases hlk : lk s f with
  | none =>
    rw [hlk] at mG
    have HL := keep hlk
    clear hlk
    go_enter Tryz.func86, Tryz.ntmps86
    go_wp2_with fail
    refine mT.mono ?_
    rintro _ w' ⟨rfl, hw'⟩
    obtain rfl := hw'.symm
    go_wp2_with fail
    refine mG.mono ?_
    rintro _ w2 ⟨rfl, r', s', q1, q2, q3⟩
    obtain ⟨k1, k2⟩ := q3.2.2 R (Array.getElem?_eq_some_iff.1 HR3.out.2).1 HR3.out.1
    have k1' := k1.trans HR3.out.2
    obtain ⟨d0, d1, d2, df⟩ := three k1'
    have mL := len_t w2 r' b s' q1
    have hlt : ln s' < 1048576 := by rw [q2.2]; exact HN.out HL.out
    have hge : decide ((1048576 : Int) ≤ (ln s' : Int)) = false := decide_eq_false (by omega)
    have MC := keep (fun W => costOf_any f v W HF.out HV.out)
    have hwr : IntKind.i64.wrap ((cst (Dc.all s) : Nat) + ((32 + f.size + v.size : Nat) : Int)) = ((cst (Dc.all s) + (32 + f.size + v.size) : Nat) : Int) := by
      rw [IntKind.wrap_i64]; have := HB.out; have := HF.out; have := HV.out; omega
    have CS := keep (Cst.one (V := ((cst (Dc.all s) + (32 + f.size + v.size) : Nat) : Int)) k1')
    have f2 := df 2
    have Q1 := keep q1
    have Q2 := keep q2
    have Q3 := keep q3
    have K2 := keep k2
    obtain ⟨C1, hC1⟩ : ∃ C1 : Int, ((cst (Dc.all s) : Nat) : Int) = C1 := ⟨_, rfl⟩
    obtain ⟨C2, hC2⟩ : ∃ C2 : Int, ((32 + f.size + v.size : Nat) : Int) = C2 := ⟨_, rfl⟩
    obtain ⟨C3, hC3⟩ : ∃ C3 : Int, ((cst (Dc.all s) + (32 + f.size + v.size) : Nat) : Int) = C3 := ⟨_, rfl⟩
    rw [hC1, hC2, hC3] at hwr
    rw [hC3] at CS
    rw [hC2] at MC
    rw [hC1] at d2
    have HC3 := keep hC3
    clear q1 q2 q3 k1 k2 k1' d0 df hlt hC1 hC2 hC3
    go_wp2_with fail
    refine mL.mono ?_
    rintro _ w' ⟨rfl, hw'⟩
    obtain rfl := hw'.symm
    clear mL mG mT
    go_wp2
    go_region_with (first | (go_at_call 139; refine (MC.out _).mono ?_; rintro _ _ ⟨rfl, rfl⟩))
    all_goals
      go_wp2_with fail
      refine (set_t hH _ r' b s' f v (CS.out.drew.dd Q1.out K2.out) HNN.out HFM.out).mono ?_
      rintro _ w4 ⟨rfl, r4, s4, p1, p2, p3⟩
      go_wp2
      refine bodyPost_ret (results_tmp2 rfl _ _ _) rfl ?_
      refine ⟨?_, r4, s4, rset_end HR.out HB1.out Q1.out Q2.out Q3.out CS.out.drew p1 p2 p3 HF.out HV.out HN.out ?_⟩
      · rw [Q2.out.1 f, HL.out]; rfl
      · rw [HL.out, ← HC3.out]; simp [cstO]
  | some x =>
    rw [hlk] at mG
    have HL := keep hlk
    have HX := keep (HR.out.2.1.1 f x hlk).2
    have hcl := cst_split (k := f) (all_nodup HR.out.1.2.1)
    rw [show Dc.look f (Dc.all s) = some x from hlk] at hcl
    simp only [cstO] at hcl
    have hge : 32 + f.size + x.size ≤ cst (Dc.all s) := by omega
    clear hlk hcl
    go_enter Tryz.func86, Tryz.ntmps86
    go_wp2_with fail
    refine mT.mono ?_
    rintro _ w' ⟨rfl, hw'⟩
    obtain rfl := hw'.symm
    go_wp2_with fail
    refine mG.mono ?_
    rintro _ w2 ⟨rfl, r', s', q1, q2, q3⟩
    obtain ⟨k1, k2⟩ := q3.2.2 R (Array.getElem?_eq_some_iff.1 HR3.out.2).1 HR3.out.1
    have k1' := k1.trans HR3.out.2
    obtain ⟨d0, d1, d2, df⟩ := three k1'
    have MC1 := keep (fun W => costOf_any f x W HF.out HX.out)
    have MC2 := keep (fun W => costOf_any f v W HF.out HV.out)
    have hwr1 : IntKind.i64.wrap ((cst (Dc.all s) : Nat) - ((32 + f.size + x.size : Nat) : Int)) = ((cst (Dc.all s) - (32 + f.size + x.size) : Nat) : Int) := by
      rw [IntKind.wrap_i64]; have := HB.out; have := HF.out; have := HX.out; omega
    have hwr2 : IntKind.i64.wrap (((cst (Dc.all s) - (32 + f.size + x.size) : Nat) : Int) + ((32 + f.size + v.size : Nat) : Int)) = ((cst (Dc.all s) - (32 + f.size + x.size) + (32 + f.size + v.size) : Nat) : Int) := by
      rw [IntKind.wrap_i64]; have := HB.out; have := HF.out; have := HV.out; omega
    have hfin : ((cst (Dc.all s) - (32 + f.size + x.size) + (32 + f.size + v.size) : Nat) : Int) + ((32 + f.size + x.size : Nat) : Int) = ((cst (Dc.all s) + (32 + f.size + v.size) : Nat) : Int) := by omega
    have CS1 := keep (Cst.one (V := ((cst (Dc.all s) - (32 + f.size + x.size) : Nat) : Int)) k1')
    have CS2 := keep (Cst.one (V := ((cst (Dc.all s) - (32 + f.size + x.size) + (32 + f.size + v.size) : Nat) : Int)) CS1.out.drew.2.2.1)
    have f2 := df 2
    have Q1 := keep q1
    have Q2 := keep q2
    have Q3 := keep q3
    have K2 := keep k2
    obtain ⟨C1, hC1⟩ : ∃ C1 : Int, ((cst (Dc.all s) : Nat) : Int) = C1 := ⟨_, rfl⟩
    obtain ⟨C2, hC2⟩ : ∃ C2 : Int, ((32 + f.size + v.size : Nat) : Int) = C2 := ⟨_, rfl⟩
    obtain ⟨X2, hX2⟩ : ∃ X2 : Int, ((32 + f.size + x.size : Nat) : Int) = X2 := ⟨_, rfl⟩
    obtain ⟨C3, hC3⟩ : ∃ C3 : Int, ((cst (Dc.all s) - (32 + f.size + x.size) : Nat) : Int) = C3 := ⟨_, rfl⟩
    obtain ⟨C4, hC4⟩ : ∃ C4 : Int, ((cst (Dc.all s) - (32 + f.size + x.size) + (32 + f.size + v.size) : Nat) : Int) = C4 := ⟨_, rfl⟩
    rw [hC1, hX2, hC3] at hwr1
    rw [hC3, hC2, hC4] at hwr2
    rw [hC4, hX2] at hfin
    rw [hC3] at CS1
    rw [hC3, hC4] at CS2
    rw [hX2] at MC1
    rw [hC2] at MC2
    rw [hC1] at d2
    have HC4 := keep hfin
    have HX2 := keep hX2
    obtain ⟨W3, hW3⟩ : ∃ W3, (w2.drew).setCell ⟨R, 2, none⟩ (.int .i64 C3) = W3 := ⟨_, rfl⟩
    have CS1' : Cst R seed b C3 w2 W3 := by rw [← hW3]; exact CS1.out.drew
    obtain ⟨d0', d1', d2', df'⟩ := three CS1'.2.2.1
    have f2' := df' 2
    have CS2' := keep (CS1'.trans (Cst.one (V := C4) CS1'.2.2.1))
    clear q1 q2 q3 k1 k2 k1' d0 df hge hC1 hC2 hC3 hC4 hX2 hfin d0' df' CS1'
    clear mG mT CS2 CS1
    go_wp2
    go_region_with (first | (go_at_call 139; refine (MC1.out _).mono ?_; rintro _ _ ⟨rfl, rfl⟩))
    all_goals
      try rw [hW3]
      go_wp2
      go_region_with (first | (go_at_call 139; refine (MC2.out _).mono ?_; rintro _ _ ⟨rfl, rfl⟩))
      all_goals
        go_wp2_with fail
        refine (set_t hH _ r' b s' f v (CS2'.out.drew.dd Q1.out K2.out) HNN.out HFM.out).mono ?_
        rintro _ w4 ⟨rfl, r4, s4, p1, p2, p3⟩
        go_wp2
        refine bodyPost_ret (results_tmp2 rfl _ _ _) rfl ?_
        refine ⟨?_, r4, s4, rset_end HR.out HB1.out Q1.out Q2.out Q3.out CS2'.out.drew p1 p2 p3 HF.out HV.out HN.out ?_⟩
        · rw [Q2.out.1 f, HL.out]; rfl
        · rw [HL.out]; show C4 + ((32 + f.size + x.size : Nat) : Int) = _; rw [HX2.out]; exact HC4.out
end Go.Proofs.YtmgeaanbgjbkcaaGreat.DS
