/-
  Contracts over this program: an entry is taken out of its chain.
-/
import Derived.Test.YtijclcedjgniaaaGreatPDictSeek
import Derived.Laws.OwnMore
import Derived.Deep.QuietTactic
import Derived.BigQuiet
import Derived.WalkSmall
import Derived.Laws.CopyOwn
/-
  Contracts over this program: a step.
-/
namespace Go.Proofs.YtijclcedjgniaaaGreat.DP
open Go.RowKit Go.Shelf
/-- the roles when young becomes old -/
def shiftR (r : Roles) : Roles := fun k => if (r k).1 = 2 ∨ (r k).1 = 4 then ((r k).1 - 1, (r k).2) else if (r k).1 = 1 ∨ (r k).1 = 3 then (9, 0) else r k
theorem shiftR_zero {r : Roles} {k : Nat} (h : r k = (0, 0)) : shiftR r k = (0, 0) := by unfold shiftR; rw [h]; simp
theorem shiftR_ne {r : Roles} {k : Nat} (h : shiftR r k ≠ (0, 0)) : r k ≠ (0, 0) := fun e => h (shiftR_zero e)
theorem Tb.shift {w w' : World} {r : Roles} {tv : Value} {T : Dc.Tab ByteArray (Option Addr)} (h : Tb w r 1 tv T) (hk : ∀ k, k < w.heap.size → ((r k).1 = 2 ∨ (r k).1 = 4) → w'.heap[k]? = w.heap[k]?) : Tb w' (shiftR r) 0 tv T := by
  obtain ⟨vs, h1, h2, h3⟩ := h
  refine ⟨vs, own_kept h1 (fun k e => hk k (own_lt h1 e) (.inl (by rw [h2 k e]))), fun k e => ?_, fun i c hc => ?_⟩
  · unfold shiftR; rw [h2 k e]; simp
  · obtain ⟨v, e1, e2, e3⟩ := h3 i c hc
    refine ⟨v, e1, own_kept e2 (fun k e => hk k (own_lt e2 e) (.inr (by rw [e3 k e]))), fun k e => ?_⟩
    unfold shiftR; rw [e3 k e]; simp
theorem Tb.new {w : World} {r : Roles} {t : Nat} : Tb w r t (.slice none 0 0) [] := ⟨[], ⟨rfl, .inl ⟨rfl, rfl⟩⟩, (fun k e => by cases e), (fun i c hc => by simp at hc)⟩
theorem shift_mem {w w' : World} {r : Roles} {b seed n : Nat} {s : Dc.St ByteArray (Option Addr)} {yv : Value} (hD : Dct w r b seed n s) (hy : Tb w r 1 yv s.young) (ho : Only b w w') (hb : w'.heap[b]? = some (.cells #[.int .u64 seed, .int .i64 n, yv, .slice none 0 0, .int .i64 0] 154 (0, 0))) :
    Dct w' (shiftR r) b seed n { old := s.young, young := [], pos := 0 } ∧ Fr w r w' (shiftR r) := by
  have hrb := hD.2.1
  refine ⟨⟨fun k hk => by rw [ho.2.1]; exact hD.1 k (shiftR_ne hk), by unfold shiftR; rw [hrb]; simp, yv, .slice none 0 0, hb, ?_, Tb.new⟩, ho.1, by rw [ho.2.1]; exact Nat.le_refl _, fun k _ hr => ⟨ho.2.2 k (fun e => by rw [e, hrb] at hr; simp at hr), shiftR_zero hr⟩⟩
  exact hy.shift (fun k _ hr => ho.2.2 k (fun e => by rw [e, hrb] at hr; simp at hr))
theorem set3 {a0 a1 a2 a3 a4 u2 u3 u4 : Value} : (((#[a0, a1, a2, a3, a4] : Array Value).setIfInBounds 2 u2).setIfInBounds 3 u3).setIfInBounds 4 u4 = #[a0, a1, u2, u3, u4] := rfl
theorem set3_mem {w : World} {b : Nat} {a0 a1 a2 a3 a4 u2 u3 u4 : Value} {t : TypeId} {fr : Nat × Nat} (h : w.heap[b]? = some (.cells #[a0, a1, a2, a3, a4] t fr)) : (((w.setCell ⟨b, 2, none⟩ u2).setCell ⟨b, 3, none⟩ u3).setCell ⟨b, 4, none⟩ u4).heap[b]? = some (.cells #[a0, a1, u2, u3, u4] t fr) :=
  cells_setCell (cells_setCell (cells_setCell h))
theorem step_done {h : ByteArray → Nat} {s : Dc.St ByteArray (Option Addr)} (hne : s.young ≠ []) {s' : Dc.St ByteArray (Option Addr)} (hs : Dc.shift (Dc.carry h { s with pos := Dc.skip 10 s.old s.pos }) = s') : Dc.step h s = s' := by
  unfold Dc.step
  rw [if_neg (by rw [Dc.empty_iff]; exact hne)]
  exact hs
theorem carry_not {h : ByteArray → Nat} {s : Dc.St ByteArray (Option Addr)} (hc : s.old[s.pos]? = none ∨ s.old[s.pos]? = some []) : Dc.carry h s = s := by
  unfold Dc.carry
  rcases hc with hc | hc <;> rw [hc]
theorem shift_is {s s' : Dc.St ByteArray (Option Addr)} (hc : s' = s) (hp : s.pos = s.old.length) : Dc.shift s' = { old := s.young, young := [], pos := 0 } := by
  rw [hc]; unfold Dc.shift; rw [if_pos hp]
theorem shift_not {s s' : Dc.St ByteArray (Option Addr)} (hc : s' = s) (hp : ¬ s.pos = s.old.length) : Dc.shift s' = s := by
  rw [hc]; unfold Dc.shift; rw [if_neg hp]
set_option maxRecDepth 100000 in
set_option maxHeartbeats 2000000 in
theorem step_any {h : ByteArray → Nat} {seed : Nat} (hH : HashIs seed h) (w : World) (r : Roles) (b n : Nat) (s : Dc.St ByteArray (Option Addr)) (hD : Dct w r b seed n s) (hI : Dc.Inv h s)
    (hm0 : s.old.length ≤ maxLen) (hm1 : s.young.length ≤ maxLen) (hk : ∀ x ∈ s.old.flatten, x.1.size ≤ maxLen) (hl : s.young.flatten.length + s.old.flatten.length ≤ 2600000000000) :
    Calls Tryz.prog 188 #[.pointer (some ⟨b, 0, none⟩)] w fun x w' => x = .returned (.tuple #[]) ∧ ∃ r', Dct w' r' b seed n (Dc.step h s) ∧ Fr w r w' r' := by
  obtain ⟨ao, ca, bo, cb, h4, h5, h3⟩ := hD.cells
  obtain ⟨c0, c1, c2, c3, c4, cf⟩ := five h3
  have mM := moving_any w b bo _ cb c3
  by_cases hy0 : s.young = []
  · have hd : decide (0 < s.young.length) = false := by rw [hy0]; rfl
    rw [hd] at mM
    have hst := Dc.step_still h hy0
    have HD := keep hD
    clear hD hI h4 h5 h3 c0 c1 c2 c3 c4 cf hk
    go_enter Tryz.func188, Tryz.ntmps188
    go_wp2_with fail
    refine mM.mono ?_
    rintro _ w' ⟨rfl, rfl⟩
    go_wp2
    refine bodyPost_ret (results_none rfl _ _ _) rfl ?_
    exact ⟨rfl, r, by rw [hst]; exact HD.out, Fr.refl _ _⟩
  · have hyl : 0 < s.young.length := by cases hs : s.young with | nil => exact absurd hs hy0 | cons _ _ => simp
    have hd : decide (0 < s.young.length) = true := decide_eq_true hyl
    rw [hd] at mM
    have hpos := hI.move hy0
    have mP := pass_any w r b seed n s hD (by omega) hm0
    have hrb := hD.2.1
    have hsk := Dc.skip_len 10 s.old s.pos (by omega)
    have HST := keep (fun s' => step_done (h := h) (s := s) hy0 (s' := s'))
    have HFR := keep (fun w' (ho : Only b w w') => Only.fr (r := r) ho hrb)
    generalize hs1 : ({ s with pos := Dc.skip 10 s.old s.pos } : Dc.St ByteArray (Option Addr)) = s1 at mP HST
    have eo : s1.old = s.old := by rw [← hs1]
    have ey : s1.young = s.young := by rw [← hs1]
    have ep : s1.pos = Dc.skip 10 s.old s.pos := by rw [← hs1]
    clear hs1
    rw [← ep] at hsk
    rw [← eo] at hm0 hk hl hsk
    rw [← ey] at hm1 hl hyl
    clear hD hI h4 h5 h3 c0 c1 c2 c3 c4 cf hpos eo ey ep hd
    go_enter Tryz.func188, Tryz.ntmps188
    go_wp2_with fail
    refine mM.mono ?_
    rintro _ w' ⟨rfl, hw'⟩
    subst hw'
    go_wp2_with fail
    refine mP.mono ?_
    rintro _ w1 ⟨rfl, hD1, ho1⟩
    clear mM mP
    obtain ⟨ao, ca, bo, cb, h4, h5, h3⟩ := hD1.cells
    obtain ⟨c0, c1, c2, c3, c4, cf⟩ := five h3
    have HF1 := keep (HFR.out _ ho1)
    have HD1 := keep hD1
    have H3 := keep h3
    have H4 := keep h4
    have H5 := keep h5
    have f2 := cf 2
    have f3 := cf 3
    have f4 := cf 4
    clear hD1 h3 h4 h5 cf c0 c1 ho1
    rcases Nat.lt_or_ge s1.pos s1.old.length with hlt | hge
    · have he : ((s1.pos : Int) == (s1.old.length : Int)) = false := beq_eq_false_iff_ne.2 (by omega)
      have hlt' : (s1.pos : Int) < (s1.old.length : Int) := by omega
      have hp0 : (0 : Int) ≤ (s1.pos : Int) := by omega
      obtain ⟨g, ca', e4, hrg, hgl⟩ := H4.out.form (by omega)
      have e5 : ao = some ⟨g, 0, none⟩ := by injection e4
      subst e5
      clear e4
      obtain ⟨c, hc⟩ : ∃ c, s1.old[s1.pos]? = some c := ⟨_, List.getElem?_eq_getElem hlt⟩
      obtain ⟨v, hv1, hv2, _⟩ := H4.out.at hc
      obtain ⟨co, cc, rfl⟩ := chn_len hv2
      clear hv2
      cases c with
      | nil =>
        have hcar := keep (shift_not (carry_not (h := h) (.inr hc)) (by omega))
        have hv1 : w1.cell? ⟨g, s1.pos, none⟩ = some (.slice co 0 cc) := hv1
        clear hc
        go_wp2_with fail
        go_region
        go_wp2_with fail
        go_region
        go_wp2
        go_end0
        exact ⟨rfl, r, by rw [HST.out _ hcar.out]; exact HD1.out.below (Below.refl _ _).drew.drew, HF1.out⟩
      | cons e c =>
        have mV := move_any hH w1.drew r b n s1 e c (HD1.out.below (Below.refl _ _).drew) hc hyl hm0 hm1 (fun x hx => hk x (List.mem_flatten.2 ⟨_, List.mem_of_getElem? hc, hx⟩)) (by have := (List.sublist_flatten_of_mem (List.mem_of_getElem? hc)).length_le; omega)
        have hcar : (Dc.carry h s1).old.length = s1.old.length ∧ (Dc.carry h s1).pos = s1.pos + 1 := by unfold Dc.carry; rw [hc]; simp
        generalize Dc.carry h s1 = s2 at mV hcar HST
        have hz : decide (0 < (e :: c).length) = true := by simp
        generalize (e :: c).length = m at *
        clear hc
        go_wp2_with fail
        go_region
        go_wp2_with fail
        refine mV.mono ?_
        rintro _ w2 ⟨rfl, r2, hD2, hF2⟩
        clear mV
        have HF2 := keep hF2
        have HD2 := keep hD2
        obtain ⟨ao2, ca2, bo2, cb2, h4, h5, h3⟩ := hD2.cells
        obtain ⟨c0, c1, d2, d3, d4, cf⟩ := five h3
        have K3 := keep h3
        have K5 := keep h5
        have f2' := cf 2
        have f3' := cf 3
        have f4' := cf 4
        have hlen := hcar.1
        have hpo := keep hcar.2
        clear hD2 h3 h4 h5 cf c0 c1 hF2 hcar c2 c3 c4 f2 f3 f4 hv1
        by_cases hend : s2.pos = s2.old.length
        · have he2 : ((s2.pos : Int) == (s2.old.length : Int)) = true := by rw [hend]; simp
          have hsh := keep (shift_is rfl hend)
          clear hend he hlen
          go_wp2_with fail
          go_region
          go_wp2
          go_end0
          obtain ⟨q1, q2⟩ := shift_mem HD2.out K5.out (((((Only.refl b w2).drew).setCell 2 (.slice bo2 s2.young.length cb2)).setCell 3 (.slice none 0 0)).setCell 4 (.int .i64 0)) (set3_mem K3.out)
          exact ⟨rfl, _, by rw [HST.out _ hsh.out]; exact q1, (HF1.out.trans (Fr.of_below (Below.refl _ _).drew)).trans (HF2.out.trans q2)⟩
        · have he2 : ((s2.pos : Int) == (s2.old.length : Int)) = false := beq_eq_false_iff_ne.2 (by omega)
          have hsh := keep (shift_not rfl hend)
          clear hend he hlen
          go_wp2_with fail
          go_region
          go_wp2
          go_end0
          exact ⟨rfl, r2, by rw [HST.out _ hsh.out]; exact HD2.out.below (Below.refl _ _).drew, (HF1.out.trans (Fr.of_below (Below.refl _ _).drew)).trans (HF2.out.trans (Fr.of_below (Below.refl _ _).drew))⟩
    · have hpe : s1.pos = s1.old.length := by omega
      have he : ((s1.pos : Int) == (s1.old.length : Int)) = true := by rw [hpe]; simp
      have hlt' : ¬ (s1.pos : Int) < (s1.old.length : Int) := by omega
      have hcar := keep (shift_is (carry_not (h := h) (.inl (List.getElem?_eq_none (by omega)))) hpe)
      have hlt2 : ¬ s1.pos < s1.old.length := by omega
      clear hpe hge
      go_wp2_with fail
      go_region
      go_wp2_with fail
      go_region
      go_wp2
      go_end0
      obtain ⟨q1, q2⟩ := shift_mem HD1.out H5.out (((((Only.refl b w1).drew.drew).setCell 2 (.slice bo s1.young.length cb)).setCell 3 (.slice none 0 0)).setCell 4 (.int .i64 0)) (set3_mem H3.out)
      exact ⟨rfl, _, by rw [HST.out _ hcar.out]; exact q1, HF1.out.trans q2⟩
end Go.Proofs.YtijclcedjgniaaaGreat.DP

/-
  What is so of a table between two calls, and how a change of one entry turns the memory.
-/
namespace Go.Proofs.YtijclcedjgniaaaGreat.DP
open Go.RowKit Go.Shelf
/-- N: a bound of the keys that there were -/
def Okd (h : ByteArray → Nat) (N : Nat) (s : Dc.St ByteArray (Option Addr)) : Prop :=
  Dc.Inv h s ∧ (∀ e ∈ Dc.all s, e.1.size ≤ maxLen) ∧ (Dc.all s).length ≤ N ∧ s.old.length ≤ 2 * N + 4 ∧ s.young.length ≤ 2 * N + 4
theorem Okd.more {h : ByteArray → Nat} {N N' : Nat} {s : Dc.St ByteArray (Option Addr)} (hO : Okd h N s) (hN : N ≤ N') : Okd h N' s := ⟨hO.1, hO.2.1, Nat.le_trans hO.2.2.1 hN, by have := hO.2.2.2.1; omega, by have := hO.2.2.2.2; omega⟩
theorem okd_none (h : ByteArray → Nat) (N : Nat) : Okd h N Dc.none0 := ⟨Dc.none0_inv h, fun e he => by simp [Dc.all, Dc.none0] at he, by simp [Dc.all, Dc.none0], by simp [Dc.none0], by simp [Dc.none0]⟩
theorem okd_step {h : ByteArray → Nat} {N : Nat} {s : Dc.St ByteArray (Option Addr)} (hO : Okd h N s) : Okd h N (Dc.step h s) ∧ (Dc.all (Dc.step h s)).length = (Dc.all s).length := by
  obtain ⟨h1, h2, h3, h4, h5⟩ := hO
  obtain ⟨q1, q2⟩ := Dc.step_inv h1
  refine ⟨⟨q1, fun e he => h2 e (q2.mem_iff.1 he), by rw [q2.length_eq]; exact h3, ?_, ?_⟩, q2.length_eq⟩
  · by_cases hy : s.young = []
    · rw [Dc.step_still h hy]; exact h4
    · rcases Dc.step_little h1 hy with ⟨_, _, e⟩ | ⟨_, _, e, _⟩
      · rw [e]; exact h5
      · rw [e]; exact h4
  · by_cases hy : s.young = []
    · rw [Dc.step_still h hy]; exact h5
    · rcases Dc.step_little h1 hy with ⟨e, _, _⟩ | ⟨_, _, _, e⟩
      · rw [e]; simp
      · rw [e]; exact h5
theorem fitF_le2 (f : Nat) : ∀ m n : Nat, Dc.fitF f m n ≤ max m (2 * n) := by
  induction f with
  | zero => intro m n; simp only [Dc.fitF]; omega
  | succ f ih =>
    intro m n
    simp only [Dc.fitF]
    split
    · have := ih (2 * m) n; omega
    · omega
theorem fit_le2 (n : Nat) : Dc.fit n ≤ 2 * n + 4 := by have := fitF_le2 n 4 n; unfold Dc.fit; omega
theorem grow_len {n N : Nat} {s : Dc.St ByteArray (Option Addr)} (hn : n ≤ N) (h4 : s.old.length ≤ 2 * N + 4) (h5 : s.young.length ≤ 2 * N + 4) : (Dc.grow n s).old.length ≤ 2 * N + 4 ∧ (Dc.grow n s).young.length ≤ 2 * N + 4 := by
  unfold Dc.grow
  split
  · exact ⟨by simp, by simp⟩
  · split
    · rename_i hc
      rw [Bool.and_eq_true, decide_eq_true_iff] at hc
      refine ⟨h4, ?_⟩
      rw [List.length_replicate]; omega
    · exact ⟨h4, h5⟩
theorem lay_len {h : ByteArray → Nat} {M : Nat} {s : Dc.St ByteArray (Option Addr)} {e : Ent} (hh : s.old.length ≤ M ∧ s.young.length ≤ M) : (Dc.lay h s e).old.length ≤ M ∧ (Dc.lay h s e).young.length ≤ M := by
  unfold Dc.lay
  split
  · exact ⟨by rw [Dc.push_len]; exact hh.1, hh.2⟩
  · exact ⟨hh.1, by rw [Dc.push_len]; exact hh.2⟩
theorem okd_set {h : ByteArray → Nat} {N : Nat} {s : Dc.St ByteArray (Option Addr)} (hO : Okd h N s) {key : ByteArray} (hk : key.size ≤ maxLen) (v : Option Addr) : Okd h (N + 1) (Dc.set h s key v).1 := by
  obtain ⟨h1, h2, h3, h4, h5⟩ := hO
  obtain ⟨q1, q2, q3, q4⟩ := Dc.set_inv h1 key v
  have hS := (okd_step ⟨h1, h2, h3, h4, h5⟩).1
  refine ⟨q1, fun e he => ?_, by rw [q4]; split <;> omega, ?_⟩
  · have hn : (Dc.keys (Dc.all (Dc.set h s key v).1)).Nodup := by rw [Dc.all_eq q1]; exact q1.nodup
    have hl := (Dc.look_mem hn e.1 e.2).2 he
    rw [q3] at hl
    by_cases hke : e.1 = key
    · rw [hke]; exact hk
    · rw [if_neg hke] at hl
      have hn1 : (Dc.keys (Dc.all s)).Nodup := by rw [Dc.all_eq h1]; exact h1.nodup
      exact h2 e ((Dc.look_mem hn1 e.1 e.2).1 hl)
  · obtain ⟨_, _, s3, s4, s5⟩ := hS
    unfold Dc.set
    split
    · unfold Dc.every
      simp only [List.length_map]
      omega
    · have := grow_len (n := (Dc.all (Dc.step h s)).length) (N := N + 1) (s := Dc.step h s) (by omega) (by omega) (by omega)
      exact lay_len this
theorem okd_delete {h : ByteArray → Nat} {N : Nat} {s : Dc.St ByteArray (Option Addr)} (hO : Okd h N s) (key : ByteArray) : Okd h N (Dc.delete h s key).1 := by
  obtain ⟨h1, h2, h3, h4, h5⟩ := hO
  obtain ⟨q1, q2, q3, q4⟩ := Dc.delete_inv h1 key
  have hS := (okd_step ⟨h1, h2, h3, h4, h5⟩).1
  refine ⟨q1, fun e he => ?_, by rw [q4]; omega, ?_⟩
  · have hn : (Dc.keys (Dc.all (Dc.delete h s key).1)).Nodup := by rw [Dc.all_eq q1]; exact q1.nodup
    have hl := (Dc.look_mem hn e.1 e.2).2 he
    rw [q3] at hl
    by_cases hke : e.1 = key
    · rw [if_pos hke] at hl; cases hl
    · rw [if_neg hke] at hl
      have hn1 : (Dc.keys (Dc.all s)).Nodup := by rw [Dc.all_eq h1]; exact h1.nodup
      exact h2 e ((Dc.look_mem hn1 e.1 e.2).1 hl)
  · obtain ⟨_, _, s3, s4, s5⟩ := hS
    unfold Dc.delete
    split
    · unfold Dc.shrink
      split
      · have := fit_le2 ((Dc.all (Dc.step h s)).length - 1)
        unfold Dc.every
        simp only [List.length_map, List.length_replicate]
        omega
      · unfold Dc.every
        simp only [List.length_map]
        omega
    · exact ⟨s4, s5⟩
/-- an entry's value is written -/
theorem set_mem {h : ByteArray → Nat} {w : World} {r : Roles} {b seed n : Nat} {s : Dc.St ByteArray (Option Addr)} {key : ByteArray} {t g cap p gc cc : Nat} {T : Dc.Tab ByteArray (Option Addr)} {x v : Option Addr} {c : List Ent} (hI : Dc.Inv h s) (hD : Dct w r b seed n s) (hT : (t = 0 ∧ T = s.old) ∨ (t = 1 ∧ T = s.young)) (hTb : Tb w r t (.slice (some ⟨g, 0, none⟩) T.length cap) T) (hfc : w.cell? ⟨b, 2 + t, none⟩ = some (.slice (some ⟨g, 0, none⟩) T.length cap))
    (hc : T[h key % T.length]? = some c) (hp : c.reverse[p]? = some (key, x)) (hv : w.cell? ⟨g, h key % T.length, none⟩ = some (.slice (some ⟨gc, 0, none⟩) c.length cc)) (hC : Chn w (.slice (some ⟨gc, 0, none⟩) c.length cc) c) (hr : r gc = (3 + t, h key % T.length)) :
    Dct (w.setCell ⟨gc, p * 2 + 1, none⟩ (.pointer v)) r b seed n (Dc.every (Dc.alter key v) s) ∧ Fr w r (w.setCell ⟨gc, p * 2 + 1, none⟩ (.pointer v)) r := by
  have hcm : c ∈ T := List.mem_of_getElem? hc
  have hxm : (key, x) ∈ c := List.mem_reverse.1 (List.mem_of_getElem? hp)
  have hnd := chain_nodup hI (T := T) (hT.imp (fun h => h.2) (fun h => h.2)) hcm
  have hC' := chn_set (v := v) hC hp
  rw [alter_at hnd hp] at hC'
  have hfx : ∀ c : List Ent, (∀ e ∈ c, e.1 ≠ key) → Dc.alter key v c = c := fun c hcx => map_same (fun e he => if_neg (hcx e he))
  have hk : ∀ k, k ≠ gc → (w.setCell ⟨gc, p * 2 + 1, none⟩ (.pointer v)).heap[k]? = w.heap[k]? := fun k hk => Below.heap_setCell _ _ _ _ hk
  have hsz : (w.setCell ⟨gc, p * 2 + 1, none⟩ (.pointer v)).heap.size = w.heap.size := by simp [World.setCell]
  have hT' := hTb.swap hc hv hC' (fun k e => by cases e; exact hr) (fun k _ e => hk k (fun e' => e (by rw [e']; rfl)))
  obtain ⟨d1, d2, ov, yv, d3, d4, d5⟩ := hD
  have hbc : b ≠ gc := fun e => by rw [← e, d2] at hr; simp at hr; omega
  refine ⟨?_, ⟨rfl, rfl, rfl⟩, by rw [hsz]; exact Nat.le_refl _, fun k _ h0 => ⟨hk k (fun e => by rw [e, hr] at h0; simp at h0), h0⟩⟩
  rcases hT with ⟨rfl, rfl⟩ | ⟨rfl, rfl⟩
  · rw [every_old hI _ hfx hc hxm]
    have eqv : ov = .slice (some ⟨g, 0, none⟩) s.old.length cap := Option.some.inj ((five d3).2.2.1.symm.trans hfc)
    rw [eqv] at d3
    exact ⟨fun k hk' => by rw [hsz]; exact d1 k hk', d2, _, yv, (hk b hbc).trans d3, hT', d5.kept (fun k _ hr' => ⟨hk k (fun e => by rw [e, hr] at hr'; simp at hr'), rfl⟩)⟩
  · rw [every_young hI _ hfx hc hxm]
    have eqv : yv = .slice (some ⟨g, 0, none⟩) s.young.length cap := Option.some.inj ((five d3).2.2.2.1.symm.trans hfc)
    rw [eqv] at d3
    exact ⟨fun k hk' => by rw [hsz]; exact d1 k hk', d2, ov, _, (hk b hbc).trans d3, d4.kept (fun k _ hr' => ⟨hk k (fun e => by rw [e, hr] at hr'; simp at hr'), rfl⟩), hT'⟩
/-- an entry is taken out; n: the keys that were counted -/
theorem del_mem {h : ByteArray → Nat} {w w3 : World} {r : Roles} {b seed n : Nat} {s : Dc.St ByteArray (Option Addr)} {key : ByteArray} {t g cap p gc cc m : Nat} {T : Dc.Tab ByteArray (Option Addr)} {x : Option Addr} {c : List Ent} (hI : Dc.Inv h s) (hD : Dct w r b seed n s) (hT : (t = 0 ∧ T = s.old) ∨ (t = 1 ∧ T = s.young)) (hTb : Tb w r t (.slice (some ⟨g, 0, none⟩) T.length cap) T) (hfc : w.cell? ⟨b, 2 + t, none⟩ = some (.slice (some ⟨g, 0, none⟩) T.length cap))
    (hc : T[h key % T.length]? = some c) (hp : c.reverse[p]? = some (key, x)) (hr : r gc = (3 + t, h key % T.length)) (ho : Only gc w w3) (hC : Chn w3 (.slice (some ⟨gc, 0, none⟩) m cc) (c.reverse.eraseIdx p).reverse) :
    Dct ((w3.setCell ⟨g, h key % T.length, none⟩ (.slice (some ⟨gc, 0, none⟩) m cc)).setCell ⟨b, 1, none⟩ (.int .i64 ((n - 1 : Nat) : Int))) r b seed (n - 1) (Dc.every (Dc.without key) s) ∧ Fr w r ((w3.setCell ⟨g, h key % T.length, none⟩ (.slice (some ⟨gc, 0, none⟩) m cc)).setCell ⟨b, 1, none⟩ (.int .i64 ((n - 1 : Nat) : Int))) r := by
  have hcm : c ∈ T := List.mem_of_getElem? hc
  have hxm : (key, x) ∈ c := List.mem_reverse.1 (List.mem_of_getElem? hp)
  have hnd := chain_nodup hI (T := T) (hT.imp (fun h => h.2) (fun h => h.2)) hcm
  rw [without_at hnd hp] at hC
  have hrg : r g = (1 + t, 0) := by obtain ⟨_, _, a2, _⟩ := hTb; exact a2 g rfl
  obtain ⟨d1, d2, ov, yv, d3, d4, d5⟩ := hD
  have hbc : b ≠ gc := fun e => by rw [← e, d2] at hr; simp at hr; omega
  have hbg : b ≠ g := fun e => by rw [← e, d2] at hrg; simp at hrg; omega
  have hgg : g ≠ gc := fun e => by rw [← e, hrg] at hr; simp at hr
  have e2 : role r (.slice (some ⟨gc, 0, none⟩) m cc) (3 + t, h key % T.length) = r := by
    funext k
    unfold role
    split
    · rename_i hh; cases hh; exact hr.symm
    · rfl
  have hT' := hTb.put (w1 := w3) (v' := .slice (some ⟨gc, 0, none⟩) m cc) hc (ho.2.2 g hgg) (fun k j hk hrk hj => ho.2.2 k (fun e => by rw [e, hr] at hrk; simp at hrk; exact hj hrk.symm)) hC (fun k e => by cases e; exact .inl hr)
  rw [e2] at hT'
  have hsz : ((w3.setCell ⟨g, h key % T.length, none⟩ (.slice (some ⟨gc, 0, none⟩) m cc)).setCell ⟨b, 1, none⟩ (.int .i64 ((n - 1 : Nat) : Int))).heap.size = w.heap.size := by rw [← ho.2.1]; simp [World.setCell]
  have hk : ∀ k, k ≠ gc → k ≠ g → k ≠ b → ((w3.setCell ⟨g, h key % T.length, none⟩ (.slice (some ⟨gc, 0, none⟩) m cc)).setCell ⟨b, 1, none⟩ (.int .i64 ((n - 1 : Nat) : Int))).heap[k]? = w.heap[k]? := fun k h1 h2 h3 => by
    rw [Below.heap_setCell _ _ _ _ h3, Below.heap_setCell _ _ _ _ h2]; exact ho.2.2 k h1
  have hT2 : Tb ((w3.setCell ⟨g, h key % T.length, none⟩ (.slice (some ⟨gc, 0, none⟩) m cc)).setCell ⟨b, 1, none⟩ (.int .i64 ((n - 1 : Nat) : Int))) r t (.slice (some ⟨g, 0, none⟩) T.length cap) (T.set (h key % T.length) (Dc.without key c)) :=
    hT'.kept (fun k _ hrk => ⟨Below.heap_setCell _ _ _ _ (fun e => by have e : k = b := e; rw [e, d2] at hrk; simp at hrk; rcases hT with ⟨rfl, _⟩ | ⟨rfl, _⟩ <;> omega), rfl⟩)
  have hb3 : (w3.setCell ⟨g, h key % T.length, none⟩ (.slice (some ⟨gc, 0, none⟩) m cc)).heap[b]? = w.heap[b]? := (Below.heap_setCell _ _ _ _ hbg).trans (ho.2.2 b hbc)
  refine ⟨?_, ho.1, by rw [hsz]; exact Nat.le_refl _, fun k _ h0 => ⟨hk k (fun e => by rw [e, hr] at h0; simp at h0) (fun e => by rw [e, hrg] at h0; simp at h0) (fun e => by rw [e, d2] at h0; simp at h0), h0⟩⟩
  rcases hT with ⟨rfl, rfl⟩ | ⟨rfl, rfl⟩
  · rw [every_old hI _ (Dc.without_id key) hc hxm]
    have eqv : ov = .slice (some ⟨g, 0, none⟩) s.old.length cap := Option.some.inj ((five d3).2.2.1.symm.trans hfc)
    rw [eqv] at d3
    exact ⟨fun k hk' => by rw [hsz]; exact d1 k hk', d2, _, yv, cells_setCell (hb3.trans d3), hT2, d5.kept (fun k _ hr' => ⟨hk k (fun e => by rw [e, hr] at hr'; simp at hr') (fun e => by rw [e, hrg] at hr'; simp at hr') (fun e => by rw [e, d2] at hr'; simp at hr'), rfl⟩)⟩
  · rw [every_young hI _ (Dc.without_id key) hc hxm]
    have eqv : yv = .slice (some ⟨g, 0, none⟩) s.young.length cap := Option.some.inj ((five d3).2.2.2.1.symm.trans hfc)
    rw [eqv] at d3
    exact ⟨fun k hk' => by rw [hsz]; exact d1 k hk', d2, ov, _, cells_setCell (hb3.trans d3), d4.kept (fun k _ hr' => ⟨hk k (fun e => by rw [e, hr] at hr'; simp at hr') (fun e => by rw [e, hrg] at hr'; simp at hr') (fun e => by rw [e, d2] at hr'; simp at hr'), rfl⟩), hT2⟩
/-- an entry has been pushed, and the keys are counted -/
theorem push_mem {h : ByteArray → Nat} {w w' : World} {r r' : Roles} {b seed n t g cap : Nat} {s : Dc.St ByteArray (Option Addr)} {T : Dc.Tab ByteArray (Option Addr)} {e : Ent} (hD : Dct w r b seed n s) (hT : (t = 0 ∧ T = s.old) ∨ (t = 1 ∧ T = s.young)) (hfc : w.cell? ⟨b, 2 + t, none⟩ = some (.slice (some ⟨g, 0, none⟩) T.length cap))
    (hT' : Tb w' r' t (.slice (some ⟨g, 0, none⟩) T.length cap) (Dc.push h T e)) (hTr : Tr t w r w' r') :
    Dct (w'.setCell ⟨b, 1, none⟩ (.int .i64 ((n + 1 : Nat) : Int))) r' b seed (n + 1) (if t = 0 then { s with old := Dc.push h s.old e } else { s with young := Dc.push h s.young e }) ∧ Fr w r (w'.setCell ⟨b, 1, none⟩ (.int .i64 ((n + 1 : Nat) : Int))) r' := by
  obtain ⟨d1, d2, ov, yv, d3, d4, d5⟩ := hD
  obtain ⟨a1, a2, a3, a4, _⟩ := hTr
  have hbl := d1 b (by rw [d2]; simp)
  have ht : t ≤ 1 := by rcases hT with ⟨rfl, _⟩ | ⟨rfl, _⟩ <;> omega
  obtain ⟨b1, b2⟩ := a3 b hbl (by rw [d2]; simp; omega) (by rw [d2]; simp; omega)
  have hsz : (w'.setCell ⟨b, 1, none⟩ (.int .i64 ((n + 1 : Nat) : Int))).heap.size = w'.heap.size := by simp [World.setCell]
  have hnb : ∀ k, r k ≠ (5, 0) → k ≠ b := fun k h1 h2 => h1 (by rw [h2]; exact d2)
  have hrest : ∀ k, r' k ≠ (0, 0) → k < (w'.setCell ⟨b, 1, none⟩ (.int .i64 ((n + 1 : Nat) : Int))).heap.size := fun k hk => by
    rw [hsz]
    rcases a4 k hk with h' | ⟨_, h'⟩
    · have := d1 k h'; omega
    · exact h'
  have hT2 : Tb (w'.setCell ⟨b, 1, none⟩ (.int .i64 ((n + 1 : Nat) : Int))) r' t (.slice (some ⟨g, 0, none⟩) T.length cap) (Dc.push h T e) :=
    hT'.kept (fun k _ hrk => ⟨Below.heap_setCell _ _ _ _ (fun e => by have e : k = b := e; rw [e, b2, d2] at hrk; simp at hrk; omega), rfl⟩)
  have keepT : ∀ {u : Nat} {tv : Value} {U : Dc.Tab ByteArray (Option Addr)}, u ≤ 1 → u ≠ t → Tb w r u tv U → Tb (w'.setCell ⟨b, 1, none⟩ (.int .i64 ((n + 1 : Nat) : Int))) r' u tv U := fun hu hne hU =>
    hU.kept (fun k hk hrk => by
      obtain ⟨c1, c2⟩ := a3 k hk (by omega) (by omega)
      exact ⟨(Below.heap_setCell _ _ _ _ (hnb k (fun e => by rw [e] at hrk; simp at hrk; omega))).trans c1, c2⟩)
  refine ⟨?_, a1, by rw [hsz]; exact a2, fun k hk h0 => ?_⟩
  · rcases hT with ⟨rfl, rfl⟩ | ⟨rfl, rfl⟩
    · rw [if_pos rfl]
      have eqv : ov = .slice (some ⟨g, 0, none⟩) s.old.length cap := Option.some.inj ((five d3).2.2.1.symm.trans hfc)
      rw [eqv] at d3
      exact ⟨hrest, b2.trans d2, _, yv, cells_setCell (b1.trans d3), hT2, keepT (by omega) (by omega) d5⟩
    · rw [if_neg (by omega)]
      have eqv : yv = .slice (some ⟨g, 0, none⟩) s.young.length cap := Option.some.inj ((five d3).2.2.2.1.symm.trans hfc)
      rw [eqv] at d3
      exact ⟨hrest, b2.trans d2, ov, _, cells_setCell (b1.trans d3), keepT (by omega) (by omega) d4, hT2⟩
  · obtain ⟨c1, c2⟩ := a3 k hk (by rw [h0]; simp; omega) (by rw [h0]; simp; omega)
    exact ⟨(Below.heap_setCell _ _ _ _ (hnb k (fun e => by rw [h0] at e; cases e))).trans c1, c2.trans h0⟩
end Go.Proofs.YtijclcedjgniaaaGreat.DP

/-
  Contracts over this program: a table grows, a table shrinks.
-/
namespace Go.Proofs.YtijclcedjgniaaaGreat.DP
open Go.RowKit Go.Shelf
theorem info_chn : (Tryz.prog.info? 202).map (fun i => (i.zero, i.size, i.bytes)) = some (some (.slice none 0 0), 1, 24) := by kernel_rfl
theorem made_at {z : Value} {n i : Nat} (h : i < n) : ((madeCells #[z] n).toList)[i]? = some z := by
  have hl : i < (madeCells #[z] n).toList.length := by rw [Array.length_toList, size_madeCells]; exact h
  rw [List.getElem?_eq_getElem hl]
  simp [madeCells, Nat.mod_one]
theorem make_tab (w : World) (r : Roles) (t n : Nat) (hn : n ≤ 5400000000000) :
    ∃ w', (Instr.makeSlice 152 (.int .i64 (n : Int)) (.int .i64 (n : Int))).run Tryz.prog w = .ok (.slice (some ⟨w.heap.size, 0, none⟩) n n) w' ∧ Tb w' (role r (.slice (some ⟨w.heap.size, 0, none⟩) n n) (1 + t, 0)) t (.slice (some ⟨w.heap.size, 0, none⟩) n n) (List.replicate n []) ∧ w.grownBy w' none ∧ w.heap.size < w'.heap.size := by
  obtain ⟨i0, hi0, hz0, hz1, hz2⟩ := info_parts info_chn
  obtain ⟨w', h1, h2, h3⟩ := run_make_full (P := Tryz.prog) w 0 152 202 i0 (.slice none 0 0) 1 Tryz.underlying152 hi0 hz0 hz1 .i64 .i64 n (by rw [hz2]; omega) (by unfold maxLen; omega) (Nat.zero_le _)
  refine ⟨w', h1, ⟨_, by rw [List.length_replicate]; exact h2, fun k e => ?_, fun i c hc => ?_⟩, h3, own_lt h2 rfl⟩
  · unfold role; rw [if_pos e]
  · obtain ⟨hi, rfl⟩ : i < n ∧ c = [] := by
      rw [List.getElem?_replicate] at hc
      split at hc
      · cases hc; exact ⟨by assumption, rfl⟩
      · cases hc
    refine ⟨.slice none 0 0, ?_, ⟨rfl, .inl ⟨rfl, rfl⟩⟩, fun k e => by cases e⟩
    rw [Nat.mul_one]
    exact made_at hi
theorem role_same {r : Roles} {v : Value} {x : Nat × Nat} {k : Nat} (h : v.ownBlock ≠ some k) : role r v x k = r k := by unfold role; rw [if_neg h]
/-- a new row of buckets for old -/
theorem new_old {w w1 : World} {r : Roles} {b seed n : Nat} {s : Dc.St ByteArray (Option Addr)} {tv yv ov : Value} {T : Dc.Tab ByteArray (Option Addr)} (hD : Dct w r b seed n s) (hb : w.heap[b]? = some (.cells #[.int .u64 seed, .int .i64 n, ov, yv, .int .i64 s.pos] 154 (0, 0))) (hy : Tb w r 1 yv s.young)
    (hg : w.grownBy w1 none) (hT : Tb w1 (role r tv (1 + 0, 0)) 0 tv T) (htv : tv.ownBlock = some w.heap.size) (hlt : w.heap.size < w1.heap.size) :
    Dct (w1.setCell ⟨b, 2, none⟩ tv) (role r tv (1 + 0, 0)) b seed n { s with old := T } ∧ Fr w r (w1.setCell ⟨b, 2, none⟩ tv) (role r tv (1 + 0, 0)) := by
  have hrb := hD.2.1
  have hbl := hD.1 b (by rw [hrb]; simp)
  have hold : ∀ k, k < w.heap.size → role r tv (1 + 0, 0) k = r k := fun k hk => role_same (by rw [htv]; intro e; cases e; omega)
  have hsz : (w1.setCell ⟨b, 2, none⟩ tv).heap.size = w1.heap.size := by simp [World.setCell]
  refine ⟨⟨fun k hk => ?_, by rw [hold b hbl]; exact hrb, tv, yv, cells_setCell ((hg.block b hbl (by simp)).trans hb), ?_, ?_⟩, ⟨hg.os, hg.tape, hg.output⟩, by rw [hsz]; omega, fun k hk hr => ⟨?_, by rw [hold k hk]; exact hr⟩⟩
  · rw [hsz]
    by_cases e : tv.ownBlock = some k
    · rw [htv] at e; cases e; exact hlt
    · rw [role_same e] at hk; have := hD.1 k hk; omega
  · refine hT.kept (fun k _ hr => ⟨Below.heap_setCell _ _ _ _ (fun e => ?_), rfl⟩)
    have e : k = b := e
    rw [e, hold b hbl, hrb] at hr; simp at hr
  · refine hy.kept (fun k hk hr => ⟨?_, hold k hk⟩)
    rw [Below.heap_setCell _ _ _ _ (fun e => by have e : k = b := e; rw [e, hrb] at hr; simp at hr)]
    exact hg.block k hk (by simp)
  · rw [Below.heap_setCell _ _ _ _ (fun e => by have e : k = b := e; rw [e, hrb] at hr; simp at hr)]
    exact hg.block k hk (by simp)
/-- a new row of buckets for young -/
theorem new_young {w w1 : World} {r : Roles} {b seed n : Nat} {s : Dc.St ByteArray (Option Addr)} {tv yv ov : Value} {T : Dc.Tab ByteArray (Option Addr)} (hD : Dct w r b seed n s) (hb : w.heap[b]? = some (.cells #[.int .u64 seed, .int .i64 n, ov, yv, .int .i64 s.pos] 154 (0, 0))) (ho : Tb w r 0 ov s.old)
    (hg : w.grownBy w1 none) (hT : Tb w1 (role r tv (1 + 1, 0)) 1 tv T) (htv : tv.ownBlock = some w.heap.size) (hlt : w.heap.size < w1.heap.size) :
    Dct (w1.setCell ⟨b, 3, none⟩ tv) (role r tv (1 + 1, 0)) b seed n { s with young := T } ∧ Fr w r (w1.setCell ⟨b, 3, none⟩ tv) (role r tv (1 + 1, 0)) := by
  have hrb := hD.2.1
  have hbl := hD.1 b (by rw [hrb]; simp)
  have hold : ∀ k, k < w.heap.size → role r tv (1 + 1, 0) k = r k := fun k hk => role_same (by rw [htv]; intro e; cases e; omega)
  have hsz : (w1.setCell ⟨b, 3, none⟩ tv).heap.size = w1.heap.size := by simp [World.setCell]
  refine ⟨⟨fun k hk => ?_, by rw [hold b hbl]; exact hrb, ov, tv, cells_setCell ((hg.block b hbl (by simp)).trans hb), ?_, ?_⟩, ⟨hg.os, hg.tape, hg.output⟩, by rw [hsz]; omega, fun k hk hr => ⟨?_, by rw [hold k hk]; exact hr⟩⟩
  · rw [hsz]
    by_cases e : tv.ownBlock = some k
    · rw [htv] at e; cases e; exact hlt
    · rw [role_same e] at hk; have := hD.1 k hk; omega
  · refine ho.kept (fun k hk hr => ⟨?_, hold k hk⟩)
    rw [Below.heap_setCell _ _ _ _ (fun e => by have e : k = b := e; rw [e, hrb] at hr; simp at hr)]
    exact hg.block k hk (by simp)
  · refine hT.kept (fun k _ hr => ⟨Below.heap_setCell _ _ _ _ (fun e => ?_), rfl⟩)
    have e : k = b := e
    rw [e, hold b hbl, hrb] at hr; simp at hr
  · rw [Below.heap_setCell _ _ _ _ (fun e => by have e : k = b := e; rw [e, hrb] at hr; simp at hr)]
    exact hg.block k hk (by simp)
theorem movingT (w : World) (b : Nat) (bo : Option Addr) (n cb : Nat) (h : w.cell? ⟨b, 3, none⟩ = some (.slice bo n cb)) (hn : 0 < n) :
    Calls Tryz.prog 191 #[.pointer (some ⟨b, 0, none⟩)] w fun e w' => e = .returned (.bool true) ∧ w' = w := by
  have := moving_any w b bo n cb h
  rw [decide_eq_true hn] at this
  exact this
set_option maxRecDepth 100000 in
set_option maxHeartbeats 2000000 in
theorem grow_any {h : ByteArray → Nat} {seed : Nat} (w : World) (r : Roles) (b n : Nat) (s : Dc.St ByteArray (Option Addr)) (hD : Dct w r b seed n s) (hI : Dc.Inv h s) (hn : s.old = [] → n = 0) (hm0 : n ≤ 2600000000000) :
    Calls Tryz.prog 190 #[.pointer (some ⟨b, 0, none⟩)] w fun x w' => x = .returned (.tuple #[]) ∧ ∃ r', Dct w' r' b seed n (Dc.grow n s) ∧ Fr w r w' r' := by
  obtain ⟨ao, ca, bo, cb, h4, h5, h3⟩ := hD.cells
  obtain ⟨c0, c1, c2, c3, c4, cf⟩ := five h3
  have hbl := hD.1 b (by rw [hD.2.1]; simp)
  have hneb : ¬ b = w.heap.size := by omega
  have HD := keep hD
  have H3 := keep h3
  have H4 := keep h4
  have H5 := keep h5
  by_cases ho : s.old = []
  · have hy : s.young = [] := Classical.byContradiction fun hh => by have := hI.move hh; rw [ho] at this; simp at this
    have hp := hI.rest hy
    have hn0 := hn ho
    subst hn0
    have hg : Dc.grow 0 s = { s with old := List.replicate 4 [] } := by
      unfold Dc.grow; rw [if_pos (by rw [ho]; rfl)]; cases s; simp only at hy hp; rw [hy, hp]
    have ol : s.old.length = 0 := by rw [ho]; rfl
    have yl : s.young.length = 0 := by rw [hy]; rfl
    rw [ol] at c2
    rw [yl] at c3
    obtain ⟨w1, m1, m2, m3, m4⟩ := make_tab w r 0 4 (by omega)
    have m1 : (Instr.makeSlice 152 (.int .i64 4) (.int .i64 4)).run Tryz.prog w = .ok (.slice (some ⟨w.heap.size, 0, none⟩) 4 4) w1 := m1
    obtain ⟨q1, q2⟩ := new_old HD.out H3.out H5.out m3 m2 rfl m4
    have Q1 := keep q1
    have Q2 := keep q2
    have d2 : (w1.setCell ⟨b, 2, none⟩ (.slice (some ⟨w.heap.size, 0, none⟩) 4 4)).heap[b]? = _ := cells_setCell ((m3.block b hbl (by simp)).trans h3)
    obtain ⟨k0, k1, k2, k3, k4, kf⟩ := five (v2 := .slice (some ⟨w.heap.size, 0, none⟩) 4 4) d2
    rw [yl] at k3
    have m0 : w1.cell? ⟨b, 2, none⟩ = some (.slice ao 0 ca) := (m3.cell (a := ⟨b, 2, none⟩) c2 (by simp))
    have f0 : w1.frozen? ⟨b, 2, none⟩ = false := by rw [World.frozen?_of_block (w := w) (a := ⟨b, 2, none⟩) (m3.block b hbl (by simp))]; exact cf 2
    clear hD hI h3 h4 h5 c0 c1 c3 c4 cf q1 q2 m2 m3 m4 d2 k0 k4 kf ho hy hp hn ol yl hm0
    generalize hW : w1.setCell ⟨b, 2, none⟩ (.slice (some ⟨w.heap.size, 0, none⟩) 4 4) = W at *
    go_enter Tryz.func190, Tryz.ntmps190
    go_wp2_with fail
    clear hW m0 f0 m1 c2
    have k1 : W.cell? ⟨b, 1, none⟩ = some (.int .i64 0) := k1
    go_quiet (first | (go_at_call 191; refine Calls.quiet_of_same (moving_any _ b bo 0 cb (by simpa using k3))))
    go_wp2
    go_end0
    exact ⟨rfl, _, by rw [hg]; exact Q1.out.below (below_drewN (Below.refl _ _) _), Q2.out.trans (Fr.of_below (below_drewN (Below.refl _ _) _))⟩
  · have hol : 0 < s.old.length := by cases hs : s.old with | nil => exact absurd hs ho | cons _ _ => simp
    have e0 : ((s.old.length : Int) == 0) = false := beq_eq_false_iff_ne.2 (by omega)
    by_cases hy : s.young = []
    · have yl : s.young.length = 0 := by rw [hy]; rfl
      have hp := hI.rest hy
      rw [yl] at c3
      by_cases hge : s.old.length ≤ n
      · have hg : Dc.grow n s = { s with young := List.replicate (2 * s.old.length) [] } := by
          unfold Dc.grow
          rw [if_neg (by rw [Dc.empty_iff]; exact ho), if_pos (by rw [hy]; simp; exact hge)]
          cases s; simp only at hp; rw [hp]
        obtain ⟨L, hL⟩ : ∃ L, s.old.length = L := ⟨_, rfl⟩
        rw [hL] at c2 hol e0 hge hg
        have HL := keep hL
        have f3 := cf 3
        have hge' : (L : Int) ≤ (n : Int) := by omega
        have hw2 : IntKind.i64.wrap (2 * (L : Int)) = 2 * (L : Int) := by rw [IntKind.wrap_i64]; omega
        have hm2 : L ≤ 2600000000000 := by omega
        clear hD hI h3 h4 h5 c0 c4 cf ho hy hp hn yl hL hge hm0
        go_enter Tryz.func190, Tryz.ntmps190
        go_wp2_with fail
        go_quiet (first | (go_at_call 191; refine Calls.quiet_of_same (moving_any _ b bo 0 cb (by simpa using c3))))
        obtain ⟨w1, m1, m2, m3, m4⟩ := make_tab (w.drewN nq) r 1 (2 * L) (by omega)
        have d3 : w1.cell? ⟨b, 3, none⟩ = some (.slice bo 0 cb) := m3.cell (a := ⟨b, 3, none⟩) (by exact c3) (by simp)
        have g3 : w1.frozen? ⟨b, 3, none⟩ = false := by rw [World.frozen?_of_block (w := w.drewN nq) (a := ⟨b, 3, none⟩) (m3.block b hbl (by simp))]; exact f3
        have HM2 := keep m2
        have HM3 := keep m3
        clear m2 m3 f3
        have m1' : (Instr.makeSlice 152 (.int .i64 (2 * (L : Int))) (.int .i64 (2 * (L : Int)))).run Tryz.prog (w.drewN nq) = .ok (.slice (some ⟨w.heap.size, 0, none⟩) (2 * L) (2 * L)) w1 := by
          have := m1
          rw [Int.natCast_mul] at this
          exact this
        clear m1
        go_wp2
        go_end0
        obtain ⟨q1, q2⟩ := new_young (HD.out.below (below_drewN (Below.refl _ _) nq)) H3.out (H4.out.kept (fun k _ _ => ⟨rfl, rfl⟩)) HM3.out HM2.out rfl m4
        rw [← hg] at q1
        exact ⟨rfl, _, q1, (Fr.of_below (below_drewN (Below.refl _ _) nq)).trans q2⟩
      · have hg : Dc.grow n s = s := by
          unfold Dc.grow
          rw [if_neg (by rw [Dc.empty_iff]; exact ho), if_neg (by rw [hy]; simp; omega)]
        obtain ⟨L, hL⟩ : ∃ L, s.old.length = L := ⟨_, rfl⟩
        rw [hL] at c2 hol e0 hge
        have hge' : ¬ (L : Int) ≤ (n : Int) := by omega
        clear hD hI h3 h4 h5 c0 c4 cf ho hy hp hn yl hL
        go_enter Tryz.func190, Tryz.ntmps190
        go_wp2_with fail
        go_quiet (first | (go_at_call 191; refine Calls.quiet_of_same (moving_any _ b bo 0 cb (by simpa using c3))))
        go_wp2
        go_end0
        exact ⟨rfl, _, by rw [hg]; exact HD.out.below (below_drewN (Below.refl _ _) _), Fr.of_below (below_drewN (Below.refl _ _) _)⟩
    · have hyl : 0 < s.young.length := by cases hs : s.young with | nil => exact absurd hs hy | cons _ _ => simp
      have hg : Dc.grow n s = s := by
        unfold Dc.grow
        rw [if_neg (by rw [Dc.empty_iff]; exact ho), if_neg (by rw [Bool.and_eq_true, Dc.empty_iff]; exact fun hh => hy hh.1)]
      obtain ⟨L, hL⟩ : ∃ L, s.old.length = L := ⟨_, rfl⟩
      rw [hL] at c2 hol e0
      obtain ⟨Y, hY⟩ : ∃ Y, s.young.length = Y := ⟨_, rfl⟩
      rw [hY] at c3 hyl
      have hd : decide (0 < Y) = true := decide_eq_true hyl
      clear hD hI h3 h4 h5 c0 c4 cf ho hy hn hL hY
      go_enter Tryz.func190, Tryz.ntmps190
      go_wp2_with fail
      go_quiet (first | (go_at_call 191; refine Calls.quiet_of_same (movingT _ b bo Y cb (by simpa using c3) hyl)))
      go_wp2
      go_end0
      exact ⟨rfl, _, by rw [hg]; exact HD.out.below (below_drewN (Below.refl _ _) _), Fr.of_below (below_drewN (Below.refl _ _) _)⟩
end Go.Proofs.YtijclcedjgniaaaGreat.DP

/-
  Contracts over this program: a table shrinks; an entry is taken out of its chain.
-/
namespace Go.Proofs.YtijclcedjgniaaaGreat.DP
open Go.RowKit Go.Shelf
theorem fit_end {f m n : Nat} (h : n ≤ m) : Dc.fitF f m n = m := by
  cases f with
  | zero => rfl
  | succ f => simp only [Dc.fitF]; rw [if_neg (by omega)]
theorem fit_on {f m n : Nat} (h : m < n) : Dc.fitF (f + 1) m n = Dc.fitF f (2 * m) n := by
  simp only [Dc.fitF]; rw [if_pos h]
def heldS (b n : Nat) (ao bo : Option Addr) (L ca cb : Nat) (w : World) : Prop := w.cell? ⟨b, 1, none⟩ = some (.int .i64 n) ∧ w.cell? ⟨b, 2, none⟩ = some (.slice ao L ca) ∧ w.cell? ⟨b, 3, none⟩ = some (.slice bo 0 cb)
set_option maxRecDepth 100000 in
set_option maxHeartbeats 1000000 in
theorem shrink_any {h : ByteArray → Nat} {seed : Nat} (w : World) (r : Roles) (b n : Nat) (s : Dc.St ByteArray (Option Addr)) (hD : Dct w r b seed n s) (hI : Dc.Inv h s) (hm0 : s.old.length ≤ 5400000000000) (hm1 : n ≤ 2600000000000) :
    Calls Tryz.prog 194 #[.pointer (some ⟨b, 0, none⟩)] w fun x w' => x = .returned (.tuple #[]) ∧ ∃ r', Dct w' r' b seed n (Dc.shrink n s) ∧ Fr w r w' r' := by
  obtain ⟨ao, ca, bo, cb, h4, h5, h3⟩ := hD.cells
  obtain ⟨c0, c1, c2, c3, c4, cf⟩ := five h3
  have hbl := hD.1 b (by rw [hD.2.1]; simp)
  have hneb : ¬ b = w.heap.size := by omega
  have HD := keep hD
  have H3 := keep h3
  have H4 := keep h4
  have f3 := cf 3
  obtain ⟨L, hL⟩ : ∃ L, s.old.length = L := ⟨_, rfl⟩
  rw [hL] at c2 hm0
  have HM0 := keep hm0
  have HM1 := keep hm1
  clear hm0 hm1
  by_cases hy : s.young = []
  · have yl : s.young.length = 0 := by rw [hy]; rfl
    have hp := hI.rest hy
    rw [yl] at c3
    by_cases h4 : L ≤ 4
    · have hg : Dc.shrink n s = s := by
        unfold Dc.shrink
        rw [hL, if_neg (by simp; omega)]
      have e4 : (L : Int) ≤ 4 := by omega
      have d4 : decide (L ≤ 4) = true := decide_eq_true h4
      clear hD hI h3 h5 c0 c4 cf hy hp yl hL
      go_enter Tryz.func194, Tryz.ntmps194
      go_wp2_with fail
      refine wp_region_held_drew (S := heldS b n ao bo L ca cb) (by kernel_rfl) ⟨c1, c2, c3⟩ (fun hHeld => ?_)
      refine wpAnyH_take (i := 0) (oi := { dst := some 3, op := _, type := _, pos := _, after := _, guard := _ }) (v := ?v1) rfl (by kernel_rfl) (by kernel_rfl) (by kernel_rfl) (fun _ _ _ h => h) (Or.inl ⟨by rfl, ?hy1⟩) (by assumption) ?rest1
      case hy1 => (intro w hSw; go_simp; try with_reducible rfl)
      try simp only [Act.put, List.setIfInBounds_toArray, List.set_cons_zero, List.set_cons_succ]
      refine wpAnyH_ready (rs := [1]) (by kernel_rfl) (by simp) ?_
      refine AllReadyH.cons (o := { dst := some 4, op := _, type := _, pos := _, after := _, guard := _ }) rfl (fun K hK => ?_) AllReadyH.nil
      go_simp
      refine (moving_any _ b bo 0 cb (by simpa using c3)).mono ?_
      rintro _ w' ⟨rfl, hw'⟩
      subst hw'
      refine hK.out _ _ hHeld (fun hHeld => ?_)
      try simp only [Act.put, List.setIfInBounds_toArray, List.set_cons_zero, List.set_cons_succ]
      clear hK
      refine wpAnyH_take (i := 2) (oi := { dst := some 5, op := _, type := _, pos := _, after := _, guard := _ }) (v := (.bool false)) rfl (by kernel_rfl) (by kernel_rfl) (by kernel_rfl) (fun _ _ _ h => h) (Or.inl ⟨by rfl, ?hy2⟩) (by assumption) ?rest2
      case hy2 => (intro w hSw; obtain ⟨q1, q2, q3⟩ := hSw; first | (go_simp; done) | (go_simp; simp [*]; done) | (simp [*]; go_simp; done))
      try simp only [Act.put, List.setIfInBounds_toArray, List.set_cons_zero, List.set_cons_succ]
      refine wpAnyH_take (i := 3) (oi := { dst := some 6, op := _, type := _, pos := _, after := _, guard := _ }) (v := ?v3) rfl (by kernel_rfl) (by kernel_rfl) (by kernel_rfl) (fun _ _ _ h => h) (Or.inl ⟨by rfl, ?hy3⟩) (by assumption) ?rest3
      case hy3 => (intro w hSw; obtain ⟨q1, q2, q3⟩ := hSw; go_simp; try with_reducible rfl)
      try simp only [Act.put, List.setIfInBounds_toArray, List.set_cons_zero, List.set_cons_succ]
      refine wpAnyH_take (i := 4) (oi := { dst := some 7, op := _, type := _, pos := _, after := _, guard := _ }) (v := ?v4) rfl (by kernel_rfl) (by kernel_rfl) (by kernel_rfl) (fun _ _ _ h => h) (Or.inl ⟨by rfl, ?hy4⟩) (by assumption) ?rest4
      case hy4 => (intro w hSw; obtain ⟨q1, q2, q3⟩ := hSw; go_simp; try with_reducible rfl)
      try simp only [Act.put, List.setIfInBounds_toArray, List.set_cons_zero, List.set_cons_succ]
      refine wpAnyH_take (i := 5) (oi := { dst := some 8, op := _, type := _, pos := _, after := _, guard := _ }) (v := ?v5) rfl (by kernel_rfl) (by kernel_rfl) (by kernel_rfl) (fun _ _ _ h => h) (Or.inl ⟨by rfl, ?hy5⟩) (by assumption) ?rest5
      case hy5 => (intro w hSw; obtain ⟨q1, q2, q3⟩ := hSw; go_simp; try with_reducible rfl)
      try simp only [Act.put, List.setIfInBounds_toArray, List.set_cons_zero, List.set_cons_succ]
      refine wpAnyH_take (i := 6) (oi := { dst := some 9, op := _, type := _, pos := _, after := _, guard := _ }) (v := ?v6) rfl (by kernel_rfl) (by kernel_rfl) (by kernel_rfl) (fun _ _ _ h => h) (Or.inl ⟨by rfl, ?hy6⟩) (by assumption) ?rest6
      case hy6 => (intro w hSw; obtain ⟨q1, q2, q3⟩ := hSw; go_simp; try with_reducible rfl)
      try simp only [Act.put, List.setIfInBounds_toArray, List.set_cons_zero, List.set_cons_succ]
      refine wpAnyH_take (i := 7) (oi := { dst := some 10, op := _, type := _, pos := _, after := _, guard := _ }) (v := ?v7) rfl (by kernel_rfl) (by kernel_rfl) (by kernel_rfl) (fun _ _ _ h => h) (Or.inl ⟨by rfl, ?hy7⟩) (by assumption) ?rest7
      case hy7 => (intro w hSw; obtain ⟨q1, q2, q3⟩ := hSw; go_simp; try with_reducible rfl)
      try simp only [Act.put, List.setIfInBounds_toArray, List.set_cons_zero, List.set_cons_succ]
      refine wpAnyH_take (i := 8) (oi := { dst := some 11, op := _, type := _, pos := _, after := _, guard := _ }) (v := (.bool true)) rfl (by kernel_rfl) (by kernel_rfl) (by kernel_rfl) (fun _ _ _ h => h) (Or.inl ⟨by rfl, ?hy8⟩) (by assumption) ?rest8
      case hy8 => (intro w hSw; obtain ⟨q1, q2, q3⟩ := hSw; first | (go_simp; done) | (go_simp; simp [*]; done) | (simp [*]; go_simp; done))
      try simp only [Act.put, List.setIfInBounds_toArray, List.set_cons_zero, List.set_cons_succ]
      refine wpAnyH_take (i := 9) (oi := { dst := some 12, op := _, type := _, pos := _, after := _, guard := _ }) (v := (.bool true)) rfl (by kernel_rfl) (by kernel_rfl) (by kernel_rfl) (fun _ _ _ h => h) (Or.inl ⟨by rfl, ?hy9⟩) (by assumption) ?rest9
      case hy9 => (intro w hSw; obtain ⟨q1, q2, q3⟩ := hSw; first | (go_simp; done) | (go_simp; simp [*]; done) | (simp [*]; go_simp; done))
      try simp only [Act.put, List.setIfInBounds_toArray, List.set_cons_zero, List.set_cons_succ]
      refine wpAnyH_take (i := 10) (oi := { dst := some 13, op := _, type := _, pos := _, after := _, guard := _ }) (v := (.bool true)) rfl (by kernel_rfl) (by kernel_rfl) (by kernel_rfl) (fun _ _ _ h => h) (Or.inl ⟨by rfl, ?hy10⟩) (by assumption) ?rest10
      case hy10 => (intro w hSw; obtain ⟨q1, q2, q3⟩ := hSw; first | (go_simp; done) | (go_simp; simp [*]; done) | (simp [*]; go_simp; done))
      try simp only [Act.put, List.setIfInBounds_toArray, List.set_cons_zero, List.set_cons_succ]
      refine wpAnyH_take (i := 11) (oi := { dst := some 14, op := _, type := _, pos := _, after := _, guard := _ }) (v := _) rfl (by kernel_rfl) (by kernel_rfl) (by kernel_rfl) (fun _ _ _ h => h) (Or.inr ⟨by rfl, rfl⟩) (by assumption) ?_
      try simp only [Act.put, List.setIfInBounds_toArray, List.set_cons_zero, List.set_cons_succ]
      refine wpAnyH_take (i := 12) (oi := { dst := some 15, op := _, type := _, pos := _, after := _, guard := _ }) (v := _) rfl (by kernel_rfl) (by kernel_rfl) (by kernel_rfl) (fun _ _ _ h => h) (Or.inr ⟨by rfl, rfl⟩) (by assumption) ?_
      try simp only [Act.put, List.setIfInBounds_toArray, List.set_cons_zero, List.set_cons_succ]
      refine wpAnyH_take (i := 13) (oi := { dst := some 16, op := _, type := _, pos := _, after := _, guard := _ }) (v := _) rfl (by kernel_rfl) (by kernel_rfl) (by kernel_rfl) (fun _ _ _ h => h) (Or.inr ⟨by rfl, rfl⟩) (by assumption) ?_
      try simp only [Act.put, List.setIfInBounds_toArray, List.set_cons_zero, List.set_cons_succ]
      refine wpAnyH_take (i := 14) (oi := { dst := some 17, op := _, type := _, pos := _, after := _, guard := _ }) (v := _) rfl (by kernel_rfl) (by kernel_rfl) (by kernel_rfl) (fun _ _ _ h => h) (Or.inr ⟨by rfl, rfl⟩) (by assumption) ?_
      try simp only [Act.put, List.setIfInBounds_toArray, List.set_cons_zero, List.set_cons_succ]
      refine wpAnyH_take (i := 15) (oi := { dst := some 18, op := _, type := _, pos := _, after := _, guard := _ }) (v := _) rfl (by kernel_rfl) (by kernel_rfl) (by kernel_rfl) (fun _ _ _ h => h) (Or.inr ⟨by rfl, rfl⟩) (by assumption) ?_
      try simp only [Act.put, List.setIfInBounds_toArray, List.set_cons_zero, List.set_cons_succ]
      refine wpAnyH_take (i := 16) (oi := { dst := some 19, op := _, type := _, pos := _, after := _, guard := _ }) (v := _) rfl (by kernel_rfl) (by kernel_rfl) (by kernel_rfl) (fun _ _ _ h => h) (Or.inr ⟨by rfl, rfl⟩) (by assumption) ?_
      try simp only [Act.put, List.setIfInBounds_toArray, List.set_cons_zero, List.set_cons_succ]
      refine wpAnyH_take (i := 17) (oi := { dst := some 20, op := _, type := _, pos := _, after := _, guard := _ }) (v := _) rfl (by kernel_rfl) (by kernel_rfl) (by kernel_rfl) (fun _ _ _ h => h) (Or.inr ⟨by rfl, rfl⟩) (by assumption) ?_
      try simp only [Act.put, List.setIfInBounds_toArray, List.set_cons_zero, List.set_cons_succ]
      refine wpAnyH_take (i := 18) (oi := { dst := some 21, op := _, type := _, pos := _, after := _, guard := _ }) (v := _) rfl (by kernel_rfl) (by kernel_rfl) (by kernel_rfl) (fun _ _ _ h => h) (Or.inr ⟨by rfl, rfl⟩) (by assumption) ?_
      try simp only [Act.put, List.setIfInBounds_toArray, List.set_cons_zero, List.set_cons_succ]
      refine wpAnyH_take (i := 19) (oi := { dst := some 22, op := _, type := _, pos := _, after := _, guard := _ }) (v := _) rfl (by kernel_rfl) (by kernel_rfl) (by kernel_rfl) (fun _ _ _ h => h) (Or.inr ⟨by rfl, rfl⟩) (by assumption) ?_
      try simp only [Act.put, List.setIfInBounds_toArray, List.set_cons_zero, List.set_cons_succ]
      refine wpAnyH_take (i := 20) (oi := { dst := some 23, op := _, type := _, pos := _, after := _, guard := _ }) (v := _) rfl (by kernel_rfl) (by kernel_rfl) (by kernel_rfl) (fun _ _ _ h => h) (Or.inr ⟨by rfl, rfl⟩) (by assumption) ?_
      try simp only [Act.put, List.setIfInBounds_toArray, List.set_cons_zero, List.set_cons_succ]
      refine wpAnyH_take (i := 21) (oi := { dst := some 24, op := _, type := _, pos := _, after := _, guard := _ }) (v := _) rfl (by kernel_rfl) (by kernel_rfl) (by kernel_rfl) (fun _ _ _ h => h) (Or.inr ⟨by rfl, rfl⟩) (by assumption) ?_
      try simp only [Act.put, List.setIfInBounds_toArray, List.set_cons_zero, List.set_cons_succ]
      refine wpAnyH_take (i := 22) (oi := { dst := some 25, op := _, type := _, pos := _, after := _, guard := _ }) (v := (.bool true)) rfl (by kernel_rfl) (by kernel_rfl) (by kernel_rfl) (fun _ _ _ h => h) (Or.inl ⟨by rfl, ?hy11⟩) (by assumption) ?rest11
      case hy11 => (intro w hSw; first | (go_simp; done) | (go_simp; simp [*]; done) | (simp [*]; go_simp; done))
      try simp only [Act.put, List.setIfInBounds_toArray, List.set_cons_zero, List.set_cons_succ]
      refine wpAnyH_done (by kernel_rfl) ?_ _
      clear hHeld
      go_wp2
      refine bodyPost_ret (results_none rfl _ _ _) rfl ?_
      exact ⟨rfl, _, by rw [hg]; exact HD.out.below ((Below.refl _ _).drew), Fr.of_below ((Below.refl _ _).drew)⟩
    · have e4 : ¬ (L : Int) ≤ 4 := by omega
      have d4 : decide (L ≤ 4) = false := decide_eq_false h4
      have hqw : IntKind.i64.wrap ((L : Int) / 8) = (L : Int) / 8 := by have := HM0.out; rw [IntKind.wrap_i64]; omega
      by_cases h8 : 8 * n ≤ L
      · have hg : Dc.shrink n s = { s with young := List.replicate (Dc.fit n) [] } := by
          unfold Dc.shrink
          rw [hL, if_pos (by rw [hy]; simp; omega)]
          cases s; simp only at hp; rw [hp]
        have HG := keep hg
        clear hg
        have e8 : ¬ (L : Int) / 8 < (n : Int) := by omega
        have d8 : decide ((L : Int) / 8 < (n : Int)) = false := decide_eq_false (by omega)
        clear hD hI h3 h5 c0 c4 cf hy hp yl hL
        go_enter Tryz.func194, Tryz.ntmps194
        go_wp2_with fail
        refine wp_region_held_drew (S := heldS b n ao bo L ca cb) (by kernel_rfl) ⟨c1, c2, c3⟩ (fun hHeld => ?_)
        refine wpAnyH_take (i := 0) (oi := { dst := some 3, op := _, type := _, pos := _, after := _, guard := _ }) (v := ?v12) rfl (by kernel_rfl) (by kernel_rfl) (by kernel_rfl) (fun _ _ _ h => h) (Or.inl ⟨by rfl, ?hy12⟩) (by assumption) ?rest12
        case hy12 => (intro w hSw; go_simp; try with_reducible rfl)
        try simp only [Act.put, List.setIfInBounds_toArray, List.set_cons_zero, List.set_cons_succ]
        refine wpAnyH_ready (rs := [1]) (by kernel_rfl) (by simp) ?_
        refine AllReadyH.cons (o := { dst := some 4, op := _, type := _, pos := _, after := _, guard := _ }) rfl (fun K hK => ?_) AllReadyH.nil
        go_simp
        refine (moving_any _ b bo 0 cb (by simpa using c3)).mono ?_
        rintro _ w' ⟨rfl, hw'⟩
        subst hw'
        refine hK.out _ _ hHeld (fun hHeld => ?_)
        try simp only [Act.put, List.setIfInBounds_toArray, List.set_cons_zero, List.set_cons_succ]
        clear hK
        refine wpAnyH_take (i := 2) (oi := { dst := some 5, op := _, type := _, pos := _, after := _, guard := _ }) (v := (.bool false)) rfl (by kernel_rfl) (by kernel_rfl) (by kernel_rfl) (fun _ _ _ h => h) (Or.inl ⟨by rfl, ?hy13⟩) (by assumption) ?rest13
        case hy13 => (intro w hSw; obtain ⟨q1, q2, q3⟩ := hSw; first | (go_simp; done) | (go_simp; simp [*]; done) | (simp [*]; go_simp; done))
        try simp only [Act.put, List.setIfInBounds_toArray, List.set_cons_zero, List.set_cons_succ]
        refine wpAnyH_take (i := 3) (oi := { dst := some 6, op := _, type := _, pos := _, after := _, guard := _ }) (v := ?v14) rfl (by kernel_rfl) (by kernel_rfl) (by kernel_rfl) (fun _ _ _ h => h) (Or.inl ⟨by rfl, ?hy14⟩) (by assumption) ?rest14
        case hy14 => (intro w hSw; obtain ⟨q1, q2, q3⟩ := hSw; go_simp; try with_reducible rfl)
        try simp only [Act.put, List.setIfInBounds_toArray, List.set_cons_zero, List.set_cons_succ]
        refine wpAnyH_take (i := 4) (oi := { dst := some 7, op := _, type := _, pos := _, after := _, guard := _ }) (v := ?v15) rfl (by kernel_rfl) (by kernel_rfl) (by kernel_rfl) (fun _ _ _ h => h) (Or.inl ⟨by rfl, ?hy15⟩) (by assumption) ?rest15
        case hy15 => (intro w hSw; obtain ⟨q1, q2, q3⟩ := hSw; go_simp; try with_reducible rfl)
        try simp only [Act.put, List.setIfInBounds_toArray, List.set_cons_zero, List.set_cons_succ]
        refine wpAnyH_take (i := 5) (oi := { dst := some 8, op := _, type := _, pos := _, after := _, guard := _ }) (v := ?v16) rfl (by kernel_rfl) (by kernel_rfl) (by kernel_rfl) (fun _ _ _ h => h) (Or.inl ⟨by rfl, ?hy16⟩) (by assumption) ?rest16
        case hy16 => (intro w hSw; obtain ⟨q1, q2, q3⟩ := hSw; go_simp; try with_reducible rfl)
        try simp only [Act.put, List.setIfInBounds_toArray, List.set_cons_zero, List.set_cons_succ]
        refine wpAnyH_take (i := 6) (oi := { dst := some 9, op := _, type := _, pos := _, after := _, guard := _ }) (v := ?v17) rfl (by kernel_rfl) (by kernel_rfl) (by kernel_rfl) (fun _ _ _ h => h) (Or.inl ⟨by rfl, ?hy17⟩) (by assumption) ?rest17
        case hy17 => (intro w hSw; obtain ⟨q1, q2, q3⟩ := hSw; go_simp; try with_reducible rfl)
        try simp only [Act.put, List.setIfInBounds_toArray, List.set_cons_zero, List.set_cons_succ]
        refine wpAnyH_take (i := 7) (oi := { dst := some 10, op := _, type := _, pos := _, after := _, guard := _ }) (v := ?v18) rfl (by kernel_rfl) (by kernel_rfl) (by kernel_rfl) (fun _ _ _ h => h) (Or.inl ⟨by rfl, ?hy18⟩) (by assumption) ?rest18
        case hy18 => (intro w hSw; obtain ⟨q1, q2, q3⟩ := hSw; go_simp; try with_reducible rfl)
        try simp only [Act.put, List.setIfInBounds_toArray, List.set_cons_zero, List.set_cons_succ]
        refine wpAnyH_take (i := 8) (oi := { dst := some 11, op := _, type := _, pos := _, after := _, guard := _ }) (v := (.bool false)) rfl (by kernel_rfl) (by kernel_rfl) (by kernel_rfl) (fun _ _ _ h => h) (Or.inl ⟨by rfl, ?hy19⟩) (by assumption) ?rest19
        case hy19 => (intro w hSw; obtain ⟨q1, q2, q3⟩ := hSw; first | (go_simp; done) | (go_simp; simp [*]; done) | (simp [*]; go_simp; done))
        try simp only [Act.put, List.setIfInBounds_toArray, List.set_cons_zero, List.set_cons_succ]
        refine wpAnyH_take (i := 9) (oi := { dst := some 12, op := _, type := _, pos := _, after := _, guard := _ }) (v := (.bool false)) rfl (by kernel_rfl) (by kernel_rfl) (by kernel_rfl) (fun _ _ _ h => h) (Or.inl ⟨by rfl, ?hy20⟩) (by assumption) ?rest20
        case hy20 => (intro w hSw; obtain ⟨q1, q2, q3⟩ := hSw; first | (go_simp; done) | (go_simp; simp [*]; done) | (simp [*]; go_simp; done))
        try simp only [Act.put, List.setIfInBounds_toArray, List.set_cons_zero, List.set_cons_succ]
        refine wpAnyH_take (i := 10) (oi := { dst := some 13, op := _, type := _, pos := _, after := _, guard := _ }) (v := (.bool false)) rfl (by kernel_rfl) (by kernel_rfl) (by kernel_rfl) (fun _ _ _ h => h) (Or.inl ⟨by rfl, ?hy21⟩) (by assumption) ?rest21
        case hy21 => (intro w hSw; obtain ⟨q1, q2, q3⟩ := hSw; first | (go_simp; done) | (go_simp; simp [*]; done) | (simp [*]; go_simp; done))
        try simp only [Act.put, List.setIfInBounds_toArray, List.set_cons_zero, List.set_cons_succ]
        refine wpAnyH_take (i := 11) (oi := { dst := some 14, op := _, type := _, pos := _, after := _, guard := _ }) (v := ?v22) rfl (by kernel_rfl) (by kernel_rfl) (by kernel_rfl) (fun _ _ _ h => h) (Or.inl ⟨by rfl, ?hy22⟩) (by assumption) ?rest22
        case hy22 => (intro w hSw; obtain ⟨q1, q2, q3⟩ := hSw; go_simp; try with_reducible rfl)
        try simp only [Act.put, List.setIfInBounds_toArray, List.set_cons_zero, List.set_cons_succ]
        refine wpAnyH_take (i := 12) (oi := { dst := some 15, op := _, type := _, pos := _, after := _, guard := _ }) (v := ?v23) rfl (by kernel_rfl) (by kernel_rfl) (by kernel_rfl) (fun _ _ _ h => h) (Or.inl ⟨by rfl, ?hy23⟩) (by assumption) ?rest23
        case hy23 => (intro w hSw; obtain ⟨q1, q2, q3⟩ := hSw; go_simp; try with_reducible rfl)
        try simp only [Act.put, List.setIfInBounds_toArray, List.set_cons_zero, List.set_cons_succ]
        refine wpAnyH_take (i := 13) (oi := { dst := some 16, op := _, type := _, pos := _, after := _, guard := _ }) (v := ?v24) rfl (by kernel_rfl) (by kernel_rfl) (by kernel_rfl) (fun _ _ _ h => h) (Or.inl ⟨by rfl, ?hy24⟩) (by assumption) ?rest24
        case hy24 => (intro w hSw; obtain ⟨q1, q2, q3⟩ := hSw; go_simp; try with_reducible rfl)
        try simp only [Act.put, List.setIfInBounds_toArray, List.set_cons_zero, List.set_cons_succ]
        refine wpAnyH_take (i := 14) (oi := { dst := some 17, op := _, type := _, pos := _, after := _, guard := _ }) (v := ?v25) rfl (by kernel_rfl) (by kernel_rfl) (by kernel_rfl) (fun _ _ _ h => h) (Or.inl ⟨by rfl, ?hy25⟩) (by assumption) ?rest25
        case hy25 => (intro w hSw; obtain ⟨q1, q2, q3⟩ := hSw; go_simp; try with_reducible rfl)
        try simp only [Act.put, List.setIfInBounds_toArray, List.set_cons_zero, List.set_cons_succ]
        refine wpAnyH_take (i := 15) (oi := { dst := some 18, op := _, type := _, pos := _, after := _, guard := _ }) (v := ?v26) rfl (by kernel_rfl) (by kernel_rfl) (by kernel_rfl) (fun _ _ _ h => h) (Or.inl ⟨by rfl, ?hy26⟩) (by assumption) ?rest26
        case hy26 => (intro w hSw; obtain ⟨q1, q2, q3⟩ := hSw; go_simp; try with_reducible rfl)
        try simp only [Act.put, List.setIfInBounds_toArray, List.set_cons_zero, List.set_cons_succ]
        refine wpAnyH_take (i := 16) (oi := { dst := some 19, op := _, type := _, pos := _, after := _, guard := _ }) (v := ?v27) rfl (by kernel_rfl) (by kernel_rfl) (by kernel_rfl) (fun _ _ _ h => h) (Or.inl ⟨by rfl, ?hy27⟩) (by assumption) ?rest27
        case hy27 => (intro w hSw; obtain ⟨q1, q2, q3⟩ := hSw; go_simp; try with_reducible rfl)
        try simp only [Act.put, List.setIfInBounds_toArray, List.set_cons_zero, List.set_cons_succ]
        refine wpAnyH_take (i := 17) (oi := { dst := some 20, op := _, type := _, pos := _, after := _, guard := _ }) (v := ?v28) rfl (by kernel_rfl) (by kernel_rfl) (by kernel_rfl) (fun _ _ _ h => h) (Or.inl ⟨by rfl, ?hy28⟩) (by assumption) ?rest28
        case hy28 => (intro w hSw; obtain ⟨q1, q2, q3⟩ := hSw; go_simp; try with_reducible rfl)
        try simp only [Act.put, List.setIfInBounds_toArray, List.set_cons_zero, List.set_cons_succ]
        refine wpAnyH_take (i := 18) (oi := { dst := some 21, op := _, type := _, pos := _, after := _, guard := _ }) (v := ?v29) rfl (by kernel_rfl) (by kernel_rfl) (by kernel_rfl) (fun _ _ _ h => h) (Or.inl ⟨by rfl, ?hy29⟩) (by assumption) ?rest29
        case hy29 => (intro w hSw; obtain ⟨q1, q2, q3⟩ := hSw; go_simp; try with_reducible rfl)
        try simp only [Act.put, List.setIfInBounds_toArray, List.set_cons_zero, List.set_cons_succ]
        refine wpAnyH_take (i := 19) (oi := { dst := some 22, op := _, type := _, pos := _, after := _, guard := _ }) (v := ?v30) rfl (by kernel_rfl) (by kernel_rfl) (by kernel_rfl) (fun _ _ _ h => h) (Or.inl ⟨by rfl, ?hy30⟩) (by assumption) ?rest30
        case hy30 => (intro w hSw; obtain ⟨q1, q2, q3⟩ := hSw; go_simp; try with_reducible rfl)
        try simp only [Act.put, List.setIfInBounds_toArray, List.set_cons_zero, List.set_cons_succ]
        refine wpAnyH_take (i := 20) (oi := { dst := some 23, op := _, type := _, pos := _, after := _, guard := _ }) (v := (.int .i64 ((L : Int) / 8))) rfl (by kernel_rfl) (by kernel_rfl) (by kernel_rfl) (fun _ _ _ h => h) (Or.inl ⟨by rfl, ?hy31⟩) (by assumption) ?rest31
        case hy31 => (intro w hSw; obtain ⟨q1, q2, q3⟩ := hSw; first | (go_simp; done) | (go_simp; simp [*]; done) | (simp [*]; go_simp; done))
        try simp only [Act.put, List.setIfInBounds_toArray, List.set_cons_zero, List.set_cons_succ]
        refine wpAnyH_take (i := 21) (oi := { dst := some 24, op := _, type := _, pos := _, after := _, guard := _ }) (v := (.bool false)) rfl (by kernel_rfl) (by kernel_rfl) (by kernel_rfl) (fun _ _ _ h => h) (Or.inl ⟨by rfl, ?hy32⟩) (by assumption) ?rest32
        case hy32 => (intro w hSw; obtain ⟨q1, q2, q3⟩ := hSw; first | (go_simp; done) | (go_simp; simp [*]; done) | (simp [*]; go_simp; done))
        try simp only [Act.put, List.setIfInBounds_toArray, List.set_cons_zero, List.set_cons_succ]
        refine wpAnyH_take (i := 22) (oi := { dst := some 25, op := _, type := _, pos := _, after := _, guard := _ }) (v := (.bool false)) rfl (by kernel_rfl) (by kernel_rfl) (by kernel_rfl) (fun _ _ _ h => h) (Or.inl ⟨by rfl, ?hy33⟩) (by assumption) ?rest33
        case hy33 => (intro w hSw; obtain ⟨q1, q2, q3⟩ := hSw; first | (go_simp; done) | (go_simp; simp [*]; done) | (simp [*]; go_simp; done))
        try simp only [Act.put, List.setIfInBounds_toArray, List.set_cons_zero, List.set_cons_succ]
        refine wpAnyH_done (by kernel_rfl) ?_ _
        clear hHeld
        go_wp2
        go_loopw [2] (fun i wr => ∃ f m : Nat, i = .int .i64 m ∧ wr = w.drew ∧ 0 < m ∧ m ≤ 2 * n + 4 ∧ n ≤ m + f ∧ Kept (Dc.fitF f m n = Dc.fit n)) (fun i _ => n - (intOf i).toNat)
        case atStart => exact ⟨n, 4, rfl, rfl, by omega, by omega, by omega, rfl⟩
        case round =>
          obtain ⟨f, m, rfl, rfl, h0, h1, h2, KF⟩ := hrel
          by_cases hlt : m < n
          · have hlt' : (m : Int) < (n : Int) := by omega
            obtain ⟨f, rfl⟩ : ∃ f', f = f' + 1 := ⟨f - 1, by omega⟩
            have hw2 : IntKind.i64.wrap ((m : Int) * 2) = ((2 * m : Nat) : Int) := by have := HM1.out; rw [IntKind.wrap_i64]; omega
            go_wp2
            go_roundw
            case measure => simp [intOf]; omega
            case rel => exact ⟨f, 2 * m, by simp, trivial, by omega, by omega, by omega, by show _ = _; rw [← fit_on hlt]; exact KF.out⟩
          · have hlt' : ¬ (m : Int) < (n : Int) := by omega
            have hfit : Dc.fit n = m := by rw [← KF.out, fit_end (by omega)]
            have hg := HG.out
            rw [hfit] at hg
            have HG2 := keep hg
            clear hg
            obtain ⟨w1, m1, m2, m3, m4⟩ := make_tab (w.drew) r 1 m (by have := HM1.out; omega)
            have d3 : w1.cell? ⟨b, 3, none⟩ = some (.slice bo 0 cb) := m3.cell (a := ⟨b, 3, none⟩) (by exact c3) (by simp)
            have g3 : w1.frozen? ⟨b, 3, none⟩ = false := by rw [World.frozen?_of_block (w := w.drew) (a := ⟨b, 3, none⟩) (m3.block b hbl (by simp))]; exact f3
            have HM2 := keep m2
            have HM3 := keep m3
            clear m2 m3 f3 hfit
            go_wp2
            go_end0
            obtain ⟨q1, q2⟩ := new_young (HD.out.below (Below.refl _ _).drew) H3.out (H4.out.kept (fun k _ _ => ⟨rfl, rfl⟩)) HM3.out HM2.out rfl m4
            rw [← HG2.out] at q1
            exact ⟨rfl, _, q1, (Fr.of_below (Below.refl _ _).drew).trans q2⟩
      · have hg : Dc.shrink n s = s := by
          unfold Dc.shrink
          rw [hL, if_neg (by simp; omega)]
        have e8 : (L : Int) / 8 < (n : Int) := by omega
        have d8 : decide ((L : Int) / 8 < (n : Int)) = true := decide_eq_true (by omega)
        clear hD hI h3 h5 c0 c4 cf hy hp yl hL
        go_enter Tryz.func194, Tryz.ntmps194
        go_wp2_with fail
        refine wp_region_held_drew (S := heldS b n ao bo L ca cb) (by kernel_rfl) ⟨c1, c2, c3⟩ (fun hHeld => ?_)
        refine wpAnyH_take (i := 0) (oi := { dst := some 3, op := _, type := _, pos := _, after := _, guard := _ }) (v := ?v34) rfl (by kernel_rfl) (by kernel_rfl) (by kernel_rfl) (fun _ _ _ h => h) (Or.inl ⟨by rfl, ?hy34⟩) (by assumption) ?rest34
        case hy34 => (intro w hSw; go_simp; try with_reducible rfl)
        try simp only [Act.put, List.setIfInBounds_toArray, List.set_cons_zero, List.set_cons_succ]
        refine wpAnyH_ready (rs := [1]) (by kernel_rfl) (by simp) ?_
        refine AllReadyH.cons (o := { dst := some 4, op := _, type := _, pos := _, after := _, guard := _ }) rfl (fun K hK => ?_) AllReadyH.nil
        go_simp
        refine (moving_any _ b bo 0 cb (by simpa using c3)).mono ?_
        rintro _ w' ⟨rfl, hw'⟩
        subst hw'
        refine hK.out _ _ hHeld (fun hHeld => ?_)
        try simp only [Act.put, List.setIfInBounds_toArray, List.set_cons_zero, List.set_cons_succ]
        clear hK
        refine wpAnyH_take (i := 2) (oi := { dst := some 5, op := _, type := _, pos := _, after := _, guard := _ }) (v := (.bool false)) rfl (by kernel_rfl) (by kernel_rfl) (by kernel_rfl) (fun _ _ _ h => h) (Or.inl ⟨by rfl, ?hy35⟩) (by assumption) ?rest35
        case hy35 => (intro w hSw; obtain ⟨q1, q2, q3⟩ := hSw; first | (go_simp; done) | (go_simp; simp [*]; done) | (simp [*]; go_simp; done))
        try simp only [Act.put, List.setIfInBounds_toArray, List.set_cons_zero, List.set_cons_succ]
        refine wpAnyH_take (i := 3) (oi := { dst := some 6, op := _, type := _, pos := _, after := _, guard := _ }) (v := ?v36) rfl (by kernel_rfl) (by kernel_rfl) (by kernel_rfl) (fun _ _ _ h => h) (Or.inl ⟨by rfl, ?hy36⟩) (by assumption) ?rest36
        case hy36 => (intro w hSw; obtain ⟨q1, q2, q3⟩ := hSw; go_simp; try with_reducible rfl)
        try simp only [Act.put, List.setIfInBounds_toArray, List.set_cons_zero, List.set_cons_succ]
        refine wpAnyH_take (i := 4) (oi := { dst := some 7, op := _, type := _, pos := _, after := _, guard := _ }) (v := ?v37) rfl (by kernel_rfl) (by kernel_rfl) (by kernel_rfl) (fun _ _ _ h => h) (Or.inl ⟨by rfl, ?hy37⟩) (by assumption) ?rest37
        case hy37 => (intro w hSw; obtain ⟨q1, q2, q3⟩ := hSw; go_simp; try with_reducible rfl)
        try simp only [Act.put, List.setIfInBounds_toArray, List.set_cons_zero, List.set_cons_succ]
        refine wpAnyH_take (i := 5) (oi := { dst := some 8, op := _, type := _, pos := _, after := _, guard := _ }) (v := ?v38) rfl (by kernel_rfl) (by kernel_rfl) (by kernel_rfl) (fun _ _ _ h => h) (Or.inl ⟨by rfl, ?hy38⟩) (by assumption) ?rest38
        case hy38 => (intro w hSw; obtain ⟨q1, q2, q3⟩ := hSw; go_simp; try with_reducible rfl)
        try simp only [Act.put, List.setIfInBounds_toArray, List.set_cons_zero, List.set_cons_succ]
        refine wpAnyH_take (i := 6) (oi := { dst := some 9, op := _, type := _, pos := _, after := _, guard := _ }) (v := ?v39) rfl (by kernel_rfl) (by kernel_rfl) (by kernel_rfl) (fun _ _ _ h => h) (Or.inl ⟨by rfl, ?hy39⟩) (by assumption) ?rest39
        case hy39 => (intro w hSw; obtain ⟨q1, q2, q3⟩ := hSw; go_simp; try with_reducible rfl)
        try simp only [Act.put, List.setIfInBounds_toArray, List.set_cons_zero, List.set_cons_succ]
        refine wpAnyH_take (i := 7) (oi := { dst := some 10, op := _, type := _, pos := _, after := _, guard := _ }) (v := ?v40) rfl (by kernel_rfl) (by kernel_rfl) (by kernel_rfl) (fun _ _ _ h => h) (Or.inl ⟨by rfl, ?hy40⟩) (by assumption) ?rest40
        case hy40 => (intro w hSw; obtain ⟨q1, q2, q3⟩ := hSw; go_simp; try with_reducible rfl)
        try simp only [Act.put, List.setIfInBounds_toArray, List.set_cons_zero, List.set_cons_succ]
        refine wpAnyH_take (i := 8) (oi := { dst := some 11, op := _, type := _, pos := _, after := _, guard := _ }) (v := (.bool false)) rfl (by kernel_rfl) (by kernel_rfl) (by kernel_rfl) (fun _ _ _ h => h) (Or.inl ⟨by rfl, ?hy41⟩) (by assumption) ?rest41
        case hy41 => (intro w hSw; obtain ⟨q1, q2, q3⟩ := hSw; first | (go_simp; done) | (go_simp; simp [*]; done) | (simp [*]; go_simp; done))
        try simp only [Act.put, List.setIfInBounds_toArray, List.set_cons_zero, List.set_cons_succ]
        refine wpAnyH_take (i := 9) (oi := { dst := some 12, op := _, type := _, pos := _, after := _, guard := _ }) (v := (.bool false)) rfl (by kernel_rfl) (by kernel_rfl) (by kernel_rfl) (fun _ _ _ h => h) (Or.inl ⟨by rfl, ?hy42⟩) (by assumption) ?rest42
        case hy42 => (intro w hSw; obtain ⟨q1, q2, q3⟩ := hSw; first | (go_simp; done) | (go_simp; simp [*]; done) | (simp [*]; go_simp; done))
        try simp only [Act.put, List.setIfInBounds_toArray, List.set_cons_zero, List.set_cons_succ]
        refine wpAnyH_take (i := 10) (oi := { dst := some 13, op := _, type := _, pos := _, after := _, guard := _ }) (v := (.bool false)) rfl (by kernel_rfl) (by kernel_rfl) (by kernel_rfl) (fun _ _ _ h => h) (Or.inl ⟨by rfl, ?hy43⟩) (by assumption) ?rest43
        case hy43 => (intro w hSw; obtain ⟨q1, q2, q3⟩ := hSw; first | (go_simp; done) | (go_simp; simp [*]; done) | (simp [*]; go_simp; done))
        try simp only [Act.put, List.setIfInBounds_toArray, List.set_cons_zero, List.set_cons_succ]
        refine wpAnyH_take (i := 11) (oi := { dst := some 14, op := _, type := _, pos := _, after := _, guard := _ }) (v := ?v44) rfl (by kernel_rfl) (by kernel_rfl) (by kernel_rfl) (fun _ _ _ h => h) (Or.inl ⟨by rfl, ?hy44⟩) (by assumption) ?rest44
        case hy44 => (intro w hSw; obtain ⟨q1, q2, q3⟩ := hSw; go_simp; try with_reducible rfl)
        try simp only [Act.put, List.setIfInBounds_toArray, List.set_cons_zero, List.set_cons_succ]
        refine wpAnyH_take (i := 12) (oi := { dst := some 15, op := _, type := _, pos := _, after := _, guard := _ }) (v := ?v45) rfl (by kernel_rfl) (by kernel_rfl) (by kernel_rfl) (fun _ _ _ h => h) (Or.inl ⟨by rfl, ?hy45⟩) (by assumption) ?rest45
        case hy45 => (intro w hSw; obtain ⟨q1, q2, q3⟩ := hSw; go_simp; try with_reducible rfl)
        try simp only [Act.put, List.setIfInBounds_toArray, List.set_cons_zero, List.set_cons_succ]
        refine wpAnyH_take (i := 13) (oi := { dst := some 16, op := _, type := _, pos := _, after := _, guard := _ }) (v := ?v46) rfl (by kernel_rfl) (by kernel_rfl) (by kernel_rfl) (fun _ _ _ h => h) (Or.inl ⟨by rfl, ?hy46⟩) (by assumption) ?rest46
        case hy46 => (intro w hSw; obtain ⟨q1, q2, q3⟩ := hSw; go_simp; try with_reducible rfl)
        try simp only [Act.put, List.setIfInBounds_toArray, List.set_cons_zero, List.set_cons_succ]
        refine wpAnyH_take (i := 14) (oi := { dst := some 17, op := _, type := _, pos := _, after := _, guard := _ }) (v := ?v47) rfl (by kernel_rfl) (by kernel_rfl) (by kernel_rfl) (fun _ _ _ h => h) (Or.inl ⟨by rfl, ?hy47⟩) (by assumption) ?rest47
        case hy47 => (intro w hSw; obtain ⟨q1, q2, q3⟩ := hSw; go_simp; try with_reducible rfl)
        try simp only [Act.put, List.setIfInBounds_toArray, List.set_cons_zero, List.set_cons_succ]
        refine wpAnyH_take (i := 15) (oi := { dst := some 18, op := _, type := _, pos := _, after := _, guard := _ }) (v := ?v48) rfl (by kernel_rfl) (by kernel_rfl) (by kernel_rfl) (fun _ _ _ h => h) (Or.inl ⟨by rfl, ?hy48⟩) (by assumption) ?rest48
        case hy48 => (intro w hSw; obtain ⟨q1, q2, q3⟩ := hSw; go_simp; try with_reducible rfl)
        try simp only [Act.put, List.setIfInBounds_toArray, List.set_cons_zero, List.set_cons_succ]
        refine wpAnyH_take (i := 16) (oi := { dst := some 19, op := _, type := _, pos := _, after := _, guard := _ }) (v := ?v49) rfl (by kernel_rfl) (by kernel_rfl) (by kernel_rfl) (fun _ _ _ h => h) (Or.inl ⟨by rfl, ?hy49⟩) (by assumption) ?rest49
        case hy49 => (intro w hSw; obtain ⟨q1, q2, q3⟩ := hSw; go_simp; try with_reducible rfl)
        try simp only [Act.put, List.setIfInBounds_toArray, List.set_cons_zero, List.set_cons_succ]
        refine wpAnyH_take (i := 17) (oi := { dst := some 20, op := _, type := _, pos := _, after := _, guard := _ }) (v := ?v50) rfl (by kernel_rfl) (by kernel_rfl) (by kernel_rfl) (fun _ _ _ h => h) (Or.inl ⟨by rfl, ?hy50⟩) (by assumption) ?rest50
        case hy50 => (intro w hSw; obtain ⟨q1, q2, q3⟩ := hSw; go_simp; try with_reducible rfl)
        try simp only [Act.put, List.setIfInBounds_toArray, List.set_cons_zero, List.set_cons_succ]
        refine wpAnyH_take (i := 18) (oi := { dst := some 21, op := _, type := _, pos := _, after := _, guard := _ }) (v := ?v51) rfl (by kernel_rfl) (by kernel_rfl) (by kernel_rfl) (fun _ _ _ h => h) (Or.inl ⟨by rfl, ?hy51⟩) (by assumption) ?rest51
        case hy51 => (intro w hSw; obtain ⟨q1, q2, q3⟩ := hSw; go_simp; try with_reducible rfl)
        try simp only [Act.put, List.setIfInBounds_toArray, List.set_cons_zero, List.set_cons_succ]
        refine wpAnyH_take (i := 19) (oi := { dst := some 22, op := _, type := _, pos := _, after := _, guard := _ }) (v := ?v52) rfl (by kernel_rfl) (by kernel_rfl) (by kernel_rfl) (fun _ _ _ h => h) (Or.inl ⟨by rfl, ?hy52⟩) (by assumption) ?rest52
        case hy52 => (intro w hSw; obtain ⟨q1, q2, q3⟩ := hSw; go_simp; try with_reducible rfl)
        try simp only [Act.put, List.setIfInBounds_toArray, List.set_cons_zero, List.set_cons_succ]
        refine wpAnyH_take (i := 20) (oi := { dst := some 23, op := _, type := _, pos := _, after := _, guard := _ }) (v := (.int .i64 ((L : Int) / 8))) rfl (by kernel_rfl) (by kernel_rfl) (by kernel_rfl) (fun _ _ _ h => h) (Or.inl ⟨by rfl, ?hy53⟩) (by assumption) ?rest53
        case hy53 => (intro w hSw; obtain ⟨q1, q2, q3⟩ := hSw; first | (go_simp; done) | (go_simp; simp [*]; done) | (simp [*]; go_simp; done))
        try simp only [Act.put, List.setIfInBounds_toArray, List.set_cons_zero, List.set_cons_succ]
        refine wpAnyH_take (i := 21) (oi := { dst := some 24, op := _, type := _, pos := _, after := _, guard := _ }) (v := (.bool true)) rfl (by kernel_rfl) (by kernel_rfl) (by kernel_rfl) (fun _ _ _ h => h) (Or.inl ⟨by rfl, ?hy54⟩) (by assumption) ?rest54
        case hy54 => (intro w hSw; obtain ⟨q1, q2, q3⟩ := hSw; first | (go_simp; done) | (go_simp; simp [*]; done) | (simp [*]; go_simp; done))
        try simp only [Act.put, List.setIfInBounds_toArray, List.set_cons_zero, List.set_cons_succ]
        refine wpAnyH_take (i := 22) (oi := { dst := some 25, op := _, type := _, pos := _, after := _, guard := _ }) (v := (.bool true)) rfl (by kernel_rfl) (by kernel_rfl) (by kernel_rfl) (fun _ _ _ h => h) (Or.inl ⟨by rfl, ?hy55⟩) (by assumption) ?rest55
        case hy55 => (intro w hSw; obtain ⟨q1, q2, q3⟩ := hSw; first | (go_simp; done) | (go_simp; simp [*]; done) | (simp [*]; go_simp; done))
        try simp only [Act.put, List.setIfInBounds_toArray, List.set_cons_zero, List.set_cons_succ]
        refine wpAnyH_done (by kernel_rfl) ?_ _
        clear hHeld
        go_wp2
        refine bodyPost_ret (results_none rfl _ _ _) rfl ?_
        exact ⟨rfl, _, by rw [hg]; exact HD.out.below ((Below.refl _ _).drew), Fr.of_below ((Below.refl _ _).drew)⟩
  · have hyl : 0 < s.young.length := by cases hs : s.young with | nil => exact absurd hs hy | cons _ _ => simp
    have hg : Dc.shrink n s = s := by
      unfold Dc.shrink
      rw [if_neg (by rw [Bool.and_eq_true, Dc.empty_iff]; exact fun hh => hy hh.1)]
    obtain ⟨Y, hY⟩ : ∃ Y, s.young.length = Y := ⟨_, rfl⟩
    rw [hY] at c3 hyl
    have hd : decide (0 < Y) = true := decide_eq_true hyl
    clear hD hI h3 h4 h5 c0 c4 cf hy hL hY
    go_enter Tryz.func194, Tryz.ntmps194
    go_wp2_with fail
    go_quiet (first | (go_at_call 191; refine Calls.quiet_of_same (movingT _ b bo Y cb (by simpa using c3) hyl)))
    go_wp2
    refine bodyPost_ret (results_none rfl _ _ _) rfl ?_
    exact ⟨rfl, _, by rw [hg]; exact HD.out.below (below_drewN (Below.refl _ _) _), Fr.of_below (below_drewN (Below.refl _ _) _)⟩
end Go.Proofs.YtijclcedjgniaaaGreat.DP

namespace Go.Proofs.YtijclcedjgniaaaGreat.DP
open Go.RowKit Go.Shelf
/-- copy within one block -/
theorem copy_run {P : Program} (w : World) (t e ty et : TypeId) (ht : P.underlying t = some (.slice e)) (i : TypeInfo) (hi : P.info? e = some i) (g d o n m cd cs : Nat) (so : Option Addr) (cur : Array Value)
    (hg : w.heap[g]? = some (.cells cur et (0, 0))) (hso : so = some ⟨g, o, none⟩ ∨ m = 0) (hm : m ≤ n) (ho : o + m * i.size ≤ cur.size) (hd : d + m * i.size ≤ cur.size) (h1 : ∀ u ∈ (cur.toList.drop o).take (m * i.size), u.oneCell' = true) :
    (Builtin.copy_ #[t, t] ty #[.slice (some ⟨g, d, none⟩) n cd, .slice so m cs]).run P w = .ok (.int .i64 (m : Int)) (w.setRow g (cur.toList.take d ++ (cur.toList.drop o).take (m * i.size) ++ cur.toList.drop (d + m * i.size)).toArray) := by
  have hl : ((cur.toList.drop o).take (m * i.size)).length = m * i.size := by
    rw [List.length_take, List.length_drop, Array.length_toList]; omega
  have hmin : min m n = m := Nat.min_eq_left hm
  have hst := run_storeCells_at P g d et ((cur.toList.drop o).take (m * i.size)) 0 cur w hg (by rw [hl]; omega) h1
  rw [hl] at hst
  simp only [Nat.add_zero] at hst
  rcases hso with rfl | rfl
  · have hf := run_firstCells_some (P := P) w i.size m ⟨g, o, none⟩ m cs ((cur.toList.drop o).take (m * i.size)) hl (fun j u hu => by
      rw [List.getElem?_take] at hu
      split at hu
      · rw [List.getElem?_drop] at hu
        rw [Addr.add_lit, cell_of_row w g (o + j) cur et (0, 0) hg]
        simpa using hu
      · cases hu)
    simp [Builtin.copy_, run_underlying ht, sizeOf, typeInfo, hi, Builtin.lenOf, hmin, hf, hst, goInt]
  · have hf : (Builtin.firstCells i.size 0 (.slice so 0 cs)).run P w = .ok #[] w := by
      cases so with
      | none => exact run_firstCells_none (P := P) w _ _ _ _
      | some a => exact run_firstCells_some (P := P) w i.size 0 a 0 cs [] (by simp) (by simp)
    rw [Nat.zero_mul, List.take_zero] at hst ⊢
    simp [Builtin.copy_, run_underlying ht, sizeOf, typeInfo, hi, Builtin.lenOf, goInt, hf, hst]
theorem size_run {P : Program} (w : World) (e : TypeId) (i : TypeInfo) (hi : P.info? e = some i) : (sizeOf e).run P w = .ok i.size w := by simp [sizeOf, typeInfo, hi]
theorem slice_low {P : Program} (w : World) (t e : TypeId) (ht : P.underlying t = some (.slice e)) (i : TypeInfo) (hi : P.info? e = some i) (a : Addr) (n cap l : Nat) (x : Int) (hx : x = (l : Int)) (hl : l ≤ n) :
    (Instr.slice t (.slice (some a) n cap) (some (.int .i64 x)) none none).run P w = .ok (.slice (some (if cap = l then a else a.add (l * i.size))) (n - l) (cap - l)) w := by
  subst hx
  have hb := fun code => run_sliceBound (P := P) (w := w) .i64 (l : Int) n code (by omega) (by omega)
  have hz := size_run w e i hi
  simp only [Instr.slice, Instr.sliceBounds, run_underlying ht, Sem.run_bind, Sem.run_pure, Result.andThen_ok, hb, hz, Int.toNat_natCast]
  split <;> rfl
theorem slice_high {P : Program} (w : World) (t e : TypeId) (ht : P.underlying t = some (.slice e)) (i : TypeInfo) (hi : P.info? e = some i) (g n cap l : Nat) (x : Int) (hx : x = (l : Int)) (hl : l ≤ cap) :
    (Instr.slice t (.slice (some ⟨g, 0, none⟩) n cap) none (some (.int .i64 x)) none).run P w = .ok (.slice (some ⟨g, 0, none⟩) l cap) w := by
  subst hx
  have hb := fun code => run_sliceBound (P := P) (w := w) .i64 (l : Int) cap code (by omega) (by omega)
  have hz := size_run w e i hi
  simp only [Instr.slice, Instr.sliceBounds, run_underlying ht, Sem.run_bind, Sem.run_pure, Result.andThen_ok, hb, hz, Int.toNat_natCast]
  split <;> simp [Addr.add_lit]
theorem flat_take (l : List Ent) (p : Nat) : (l.take p).flatMap enE = (l.flatMap enE).take (p * 2) := by
  induction l generalizing p with
  | nil => simp
  | cons a l ih =>
    cases p with
    | zero => simp
    | succ p =>
      rw [List.take_succ_cons, List.flatMap_cons, List.flatMap_cons, ih, show (p + 1) * 2 = (enE a).length + p * 2 by simp [enE]; omega, List.take_length_add_append]
theorem flat_drop (l : List Ent) (p : Nat) : (l.drop p).flatMap enE = (l.flatMap enE).drop (p * 2) := by
  induction l generalizing p with
  | nil => simp
  | cons a l ih =>
    cases p with
    | zero => simp
    | succ p =>
      rw [List.drop_succ_cons, List.flatMap_cons, ih, show (p + 1) * 2 = (enE a).length + p * 2 by simp [enE]; omega, List.drop_length_add_append]
theorem enC_erase (c : List Ent) (p : Nat) : enC (c.reverse.eraseIdx p).reverse = (enC c).take (p * 2) ++ (enC c).drop ((p + 1) * 2) := by
  unfold enC
  rw [List.reverse_reverse, List.eraseIdx_eq_take_drop_succ, List.flatMap_append, flat_take, flat_drop]
theorem enC_one {c : List Ent} {u : Value} (h : u ∈ enC c) : u.oneCell' = true := by
  unfold enC at h
  obtain ⟨e, _, he⟩ := List.mem_flatMap.1 h
  simp only [enE, List.mem_cons, List.not_mem_nil, or_false] at he
  rcases he with rfl | rfl <;> rfl
theorem mid_take {l : List Value} {p m n : Nat} (h : p + m = n) : ((l.drop p).take m) = (l.take n).drop p := by
  rw [List.drop_take, show n - p = m by omega]
set_option maxRecDepth 100000 in
set_option maxHeartbeats 1000000 in
theorem without_any (w : World) (g cap p : Nat) (c : List Ent) (hC : Chn w (.slice (some ⟨g, 0, none⟩) c.length cap) c) (hp : p < c.length) :
    Calls Tryz.prog 193 #[.slice (some ⟨g, 0, none⟩) c.length cap, .int .i64 p] w fun e w' => e = .returned (.slice (some ⟨g, 0, none⟩) (c.length - 1) cap) ∧ Chn w' (.slice (some ⟨g, 0, none⟩) (c.length - 1) cap) (c.reverse.eraseIdx p).reverse ∧ Only g w w' := by
  obtain ⟨i0, hi0, hz0, hz1, hz2⟩ := info_parts info_ent
  obtain ⟨cur, hcur, hcc, hcm, hsz, htk⟩ : ∃ cur, w.heap[g]? = some (.cells cur 197 (0, 0)) ∧ c.length ≤ cap ∧ cap ≤ maxLen ∧ cur.size = cap * 2 ∧ cur.toList.take (c.length * 2) = enC c := by
    rcases hC.2 with ⟨h', _⟩ | ⟨g', cap', cur, h', _, hh, q1, q2, q3, q4⟩
    · cases h'
    · cases h'
      exact ⟨cur, hh, q1, q2, q3, q4⟩
  obtain ⟨n, hn⟩ : ∃ n, c.length = n := ⟨_, rfl⟩
  rw [hn] at hp hcc
  have HN := keep hn
  rw [hn]
  unfold maxLen at hcm
  have hw1 : IntKind.i64.wrap ((n : Int) - 1) = (n : Int) - 1 := by rw [IntKind.wrap_i64]; omega
  have hw2 : IntKind.i64.wrap ((p : Int) + 1) = (p : Int) + 1 := by rw [IntKind.wrap_i64]; omega
  have l1 : (p : Int) < (n : Int) := by omega
  have l2 : (n : Int) ≤ (cap : Int) := by omega
  have l3 : (p : Int) + 1 ≤ (n : Int) := by omega
  have u88 := Tryz.underlying202
  have hs1 : ∀ w, (Instr.slice 202 (.slice (some ⟨g, 0, none⟩) n cap) (some (.int .i64 (p : Int))) none none).run Tryz.prog w = .ok (.slice (some ⟨g, p * 2, none⟩) (n - p) (cap - p)) w := fun w => by
    rw [slice_low w _ _ u88 i0 hi0 _ n cap p _ rfl (by omega), if_neg (by omega), hz1, Addr.add_lit, Nat.zero_add]
  have hs2 : ∃ so, (so = some ⟨g, (p + 1) * 2, none⟩ ∨ n - (p + 1) = 0) ∧ ∀ w, (Instr.slice 202 (.slice (some ⟨g, 0, none⟩) n cap) (some (.int .i64 ((p : Int) + 1))) none none).run Tryz.prog w = .ok (.slice so (n - (p + 1)) (cap - (p + 1))) w := by
    refine ⟨_, ?_, fun w => slice_low w _ _ u88 i0 hi0 _ n cap (p + 1) _ (by omega) (by omega)⟩
    by_cases hcp : cap = p + 1
    · exact .inr (by omega)
    · rw [if_neg hcp, hz1, Addr.add_lit, Nat.zero_add]; exact .inl rfl
  obtain ⟨so, hso, hs2⟩ := hs2
  have hs3 : ∀ w, (Instr.slice 202 (.slice (some ⟨g, 0, none⟩) n cap) (some (.int .i64 ((n : Int) - 1))) none none).run Tryz.prog w = .ok (.slice (some ⟨g, (n - 1) * 2, none⟩) 1 (cap - (n - 1))) w := fun w => by
    rw [slice_low w _ _ u88 i0 hi0 _ n cap (n - 1) _ (by omega) (by omega), if_neg (by omega), hz1, Addr.add_lit, Nat.zero_add, show n - (n - 1) = 1 by omega]
  have hs4 : ∀ w, (Instr.slice 202 (.slice (some ⟨g, 0, none⟩) n cap) none (some (.int .i64 ((n : Int) - 1))) none).run Tryz.prog w = .ok (.slice (some ⟨g, 0, none⟩) (n - 1) cap) w := fun w => slice_high w _ _ u88 i0 hi0 g n cap (n - 1) _ (by omega) (by omega)
  have hon : ∀ u ∈ (cur.toList.drop ((p + 1) * 2)).take ((n - (p + 1)) * 2), u.oneCell' = true := fun u hu => by
    rw [mid_take (n := n * 2) (by omega), ← HN.out, htk] at hu
    exact enC_one (List.mem_of_mem_drop hu)
  have hcp := copy_run (P := Tryz.prog) w.drew 202 197 3 197 u88 i0 hi0 g (p * 2) ((p + 1) * 2) (n - p) (n - (p + 1)) (cap - p) (cap - (p + 1)) so cur hcur hso (by omega) (by rw [hz1, hsz]; omega) (by rw [hz1, hsz]; omega) (by rw [hz1]; exact hon)
  rw [hz1] at hcp
  have hsz1 : (cur.toList.take (p * 2) ++ (cur.toList.drop ((p + 1) * 2)).take ((n - (p + 1)) * 2) ++ cur.toList.drop (p * 2 + (n - (p + 1)) * 2)).length = cap * 2 := by
    rw [List.length_append, List.length_append, List.length_take, List.length_take, List.length_drop, List.length_drop, Array.length_toList, hsz]; omega
  have htk1 : (cur.toList.take (p * 2) ++ (cur.toList.drop ((p + 1) * 2)).take ((n - (p + 1)) * 2) ++ cur.toList.drop (p * 2 + (n - (p + 1)) * 2)).take ((n - 1) * 2) = enC (c.reverse.eraseIdx p).reverse := by
    rw [enC_erase, ← htk, HN.out, mid_take (n := n * 2) (by omega), List.take_take, Nat.min_eq_left (by omega), List.append_assoc, ← List.append_assoc, List.take_append_of_le_length, List.take_of_length_le]
    · rw [List.length_append, List.length_take, List.length_drop, List.length_take, Array.length_toList, hsz]; omega
    · rw [List.length_append, List.length_take, List.length_drop, List.length_take, Array.length_toList, hsz]; omega
  generalize (cur.toList.take (p * 2) ++ (cur.toList.drop ((p + 1) * 2)).take ((n - (p + 1)) * 2) ++ cur.toList.drop (p * 2 + (n - (p + 1)) * 2)) = L1 at hcp hsz1 htk1
  obtain ⟨w1, hw1'⟩ : ∃ w1, w1 = w.drew.setRow g L1.toArray := ⟨_, rfl⟩
  rw [← hw1'] at hcp
  have hg1 : w1.heap[g]? = some (.cells L1.toArray 197 (0, 0)) := by rw [hw1']; exact setRow_heap w.drew g cur _ _ _ hcur
  have ho1 : Only g w w1 := by rw [hw1']; exact ⟨⟨rfl, rfl, rfl⟩, by simp, fun k hk => setRow_other w.drew g k _ hk⟩
  obtain ⟨cur2, hcl, hs2', htk2⟩ := clear_run (P := Tryz.prog) w1 202 197 0 197 _ u88 Tryz.zeroValue197 (by simp [Value.cells, Value.oneCell']) g ((n - 1) * 2) 1 (cap - (n - 1)) L1.toArray hg1 (by simp [Value.cells, hsz1]; omega)
  have hfin : Chn (w1.setRow g cur2) (.slice (some ⟨g, 0, none⟩) (n - 1) cap) (c.reverse.eraseIdx p).reverse := by
    have hl : (c.reverse.eraseIdx p).reverse.length = n - 1 := by
      rw [List.length_reverse, List.length_eraseIdx_of_lt (by rw [List.length_reverse, HN.out]; exact hp), List.length_reverse, HN.out]
    unfold Chn
    rw [hl]
    refine ⟨by rw [enC_len, hl], .inr ⟨g, cap, cur2, rfl, Nat.zero_le _, setRow_heap w1 g _ _ _ _ hg1, by omega, by unfold maxLen; omega, by rw [hs2']; simpa using hsz1, ?_⟩⟩
    rw [htk2]
    simpa using htk1
  have ho2 : Only g w (w1.setRow g cur2) := ho1.trans ⟨⟨rfl, rfl, rfl⟩, by simp, fun k hk => setRow_other w1 g k _ hk⟩
  have HF := keep hfin
  have HO := keep ho2
  clear hC hn hcur hsz htk hon hsz1 htk1 hw1' hg1 ho1 hs2' htk2 hfin ho2 hso
  generalize w1.setRow g cur2 = w2 at *
  go_enter Tryz.func193, Tryz.ntmps193
  go_wp2_with fail
  refine wp_region_held_drew (S := fun _ => True) (by kernel_rfl) trivial (fun hHeld => ?_)
  refine wpAnyH_take (i := 0) (oi := { dst := some 9, op := _, type := _, pos := _, after := _, guard := _ }) (v := ?v1) rfl (by kernel_rfl) (by kernel_rfl) (by kernel_rfl) (fun _ _ _ h => h) (Or.inl ⟨by rfl, ?hy1⟩) (by assumption) ?rest1
  case hy1 => (intro w hSw; go_simp; try with_reducible rfl)
  try simp only [Act.put, List.setIfInBounds_toArray, List.set_cons_zero, List.set_cons_succ]
  refine wpAnyH_take (i := 1) (oi := { dst := some 10, op := _, type := _, pos := _, after := _, guard := _ }) (v := ?v2) rfl (by kernel_rfl) (by kernel_rfl) (by kernel_rfl) (fun _ _ _ h => h) (Or.inl ⟨by rfl, ?hy2⟩) (by assumption) ?rest2
  case hy2 => (intro w hSw; go_simp; try with_reducible rfl)
  try simp only [Act.put, List.setIfInBounds_toArray, List.set_cons_zero, List.set_cons_succ]
  refine wpAnyH_take (i := 2) (oi := { dst := some 11, op := _, type := _, pos := _, after := _, guard := _ }) (v := (.slice (some ⟨g, p * 2, none⟩) (n - p) (cap - p))) rfl (by kernel_rfl) (by kernel_rfl) (by kernel_rfl) (fun _ _ _ h => h) (Or.inl ⟨by rfl, ?hy3⟩) (by assumption) ?rest3
  case hy3 => (intro w hSw; first | (go_simp; done) | (go_simp; simp [*]; done) | (simp [*]; go_simp; done))
  try simp only [Act.put, List.setIfInBounds_toArray, List.set_cons_zero, List.set_cons_succ]
  refine wpAnyH_take (i := 3) (oi := { dst := some 12, op := _, type := _, pos := _, after := _, guard := _ }) (v := ?v4) rfl (by kernel_rfl) (by kernel_rfl) (by kernel_rfl) (fun _ _ _ h => h) (Or.inl ⟨by rfl, ?hy4⟩) (by assumption) ?rest4
  case hy4 => (intro w hSw; go_simp; try with_reducible rfl)
  try simp only [Act.put, List.setIfInBounds_toArray, List.set_cons_zero, List.set_cons_succ]
  refine wpAnyH_take (i := 4) (oi := { dst := some 13, op := _, type := _, pos := _, after := _, guard := _ }) (v := ?v5) rfl (by kernel_rfl) (by kernel_rfl) (by kernel_rfl) (fun _ _ _ h => h) (Or.inl ⟨by rfl, ?hy5⟩) (by assumption) ?rest5
  case hy5 => (intro w hSw; go_simp; try with_reducible rfl)
  try simp only [Act.put, List.setIfInBounds_toArray, List.set_cons_zero, List.set_cons_succ]
  refine wpAnyH_take (i := 5) (oi := { dst := some 14, op := _, type := _, pos := _, after := _, guard := _ }) (v := (.int .i64 ((p : Int) + 1))) rfl (by kernel_rfl) (by kernel_rfl) (by kernel_rfl) (fun _ _ _ h => h) (Or.inl ⟨by rfl, ?hy6⟩) (by assumption) ?rest6
  case hy6 => (intro w hSw; first | (go_simp; done) | (go_simp; simp [*]; done) | (simp [*]; go_simp; done))
  try simp only [Act.put, List.setIfInBounds_toArray, List.set_cons_zero, List.set_cons_succ]
  refine wpAnyH_take (i := 6) (oi := { dst := some 15, op := _, type := _, pos := _, after := _, guard := _ }) (v := (.slice so (n - (p + 1)) (cap - (p + 1)))) rfl (by kernel_rfl) (by kernel_rfl) (by kernel_rfl) (fun _ _ _ h => h) (Or.inl ⟨by rfl, ?hy7⟩) (by assumption) ?rest7
  case hy7 => (intro w hSw; first | (go_simp; done) | (go_simp; simp [*]; done) | (simp [*]; go_simp; done))
  try simp only [Act.put, List.setIfInBounds_toArray, List.set_cons_zero, List.set_cons_succ]
  refine wpAnyH_ready (rs := [7]) (by kernel_rfl) (by simp) ?_
  refine AllReadyH.cons (o := { dst := some 16, op := _, type := _, pos := _, after := _, guard := _ }) rfl (fun K hK => ?_) AllReadyH.nil
  go_simp
  refine hK.out _ _ trivial (fun hHeld => ?_)
  refine wpAnyH_done (by kernel_rfl) ?_ _
  go_wp2
  go_ret
  exact ⟨rfl, HF.out, HO.out⟩
end Go.Proofs.YtijclcedjgniaaaGreat.DP
