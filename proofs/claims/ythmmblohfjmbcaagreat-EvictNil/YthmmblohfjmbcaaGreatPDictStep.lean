/-
  Contracts over this program: a step.
-/
import Derived.Test.YthmmblohfjmbcaaGreatPDictMove
namespace Go.Proofs.YthmmblohfjmbcaaGreat.DP
open Go.RowKit Go.Shelf
/-- the roles when young becomes old -/
def shiftR (r : Roles) : Roles := fun k => if (r k).1 = 2 ∨ (r k).1 = 4 then ((r k).1 - 1, (r k).2) else if (r k).1 = 1 ∨ (r k).1 = 3 then (9, 0) else r k
theorem shiftR_zero {r : Roles} {k : Nat} (h : r k = (0, 0)) : shiftR r k = (0, 0) := by unfold shiftR; rw [h]; simp
theorem shiftR_ne {r : Roles} {k : Nat} (h : shiftR r k ≠ (0, 0)) : r k ≠ (0, 0) := fun e => h (shiftR_zero e)
theorem Tb.shift {w w' : World} {r : Roles} {tv : Value} {T : Dc.Tab ByteArray (Option Addr)} (h : Tb w r 1 tv T) (hk : ∀ k, k < w.heap.size → ((r k).1 = 2 ∨ (r k).1 = 4) → w'.heap[k]? = w.heap[k]?) : Tb w' (shiftR r) 0 tv T := by
  obtain ⟨vs, h1, h2, h3⟩ := h
  refine ⟨vs, own_kept h1 (fun k e => hk k (own_lt h1 e) (.inl (by rw [h2 k e]))), fun k e => ?_, fun i c hc => ?_⟩
  · unfold shiftR; rw [h2 k e]; simp
  · obtain ⟨v, e1, e2, e3⟩ := h3 i c hc
    refine ⟨v, e1, own_kept e2 (fun k e => hk k (own_lt e2 e) (.inr (by rw [e3 k e]))), fun k e => ?_⟩
    unfold shiftR; rw [e3 k e]; simp
theorem Tb.new {w : World} {r : Roles} {t : Nat} : Tb w r t (.slice none 0 0) [] := ⟨[], ⟨rfl, .inl ⟨rfl, rfl⟩⟩, (fun k e => by cases e), (fun i c hc => by simp at hc)⟩
theorem shift_mem {w w' : World} {r : Roles} {b seed n : Nat} {s : Dc.St ByteArray (Option Addr)} {yv : Value} (hD : Dct w r b seed n s) (hy : Tb w r 1 yv s.young) (ho : Only b w w') (hb : w'.heap[b]? = some (.cells #[.int .u64 seed, .int .i64 n, yv, .slice none 0 0, .int .i64 0] 77 (0, 0))) :
    Dct w' (shiftR r) b seed n { old := s.young, young := [], pos := 0 } ∧ Fr w r w' (shiftR r) := by
  have hrb := hD.2.1
  refine ⟨⟨fun k hk => by rw [ho.2.1]; exact hD.1 k (shiftR_ne hk), by unfold shiftR; rw [hrb]; simp, yv, .slice none 0 0, hb, ?_, Tb.new⟩, ho.1, by rw [ho.2.1]; exact Nat.le_refl _, fun k _ hr => ⟨ho.2.2 k (fun e => by rw [e, hrb] at hr; simp at hr), shiftR_zero hr⟩⟩
  exact hy.shift (fun k _ hr => ho.2.2 k (fun e => by rw [e, hrb] at hr; simp at hr))
theorem set3 {a0 a1 a2 a3 a4 u2 u3 u4 : Value} : (((#[a0, a1, a2, a3, a4] : Array Value).setIfInBounds 2 u2).setIfInBounds 3 u3).setIfInBounds 4 u4 = #[a0, a1, u2, u3, u4] := rfl
theorem set3_mem {w : World} {b : Nat} {a0 a1 a2 a3 a4 u2 u3 u4 : Value} {t : TypeId} {fr : Nat × Nat} (h : w.heap[b]? = some (.cells #[a0, a1, a2, a3, a4] t fr)) : (((w.setCell ⟨b, 2, none⟩ u2).setCell ⟨b, 3, none⟩ u3).setCell ⟨b, 4, none⟩ u4).heap[b]? = some (.cells #[a0, a1, u2, u3, u4] t fr) :=
  cells_setCell (cells_setCell (cells_setCell h))
theorem step_done {h : ByteArray → Nat} {s : Dc.St ByteArray (Option Addr)} (hne : s.young ≠ []) {s' : Dc.St ByteArray (Option Addr)} (hs : Dc.shift (Dc.carry h { s with pos := Dc.skip 10 s.old s.pos }) = s') : Dc.step h s = s' := by
  unfold Dc.step
  rw [if_neg (by rw [Dc.empty_iff]; exact hne)]
  exact hs
theorem carry_not {h : ByteArray → Nat} {s : Dc.St ByteArray (Option Addr)} (hc : s.old[s.pos]? = none ∨ s.old[s.pos]? = some []) : Dc.carry h s = s := by
  unfold Dc.carry
  rcases hc with hc | hc <;> rw [hc]
theorem shift_is {s s' : Dc.St ByteArray (Option Addr)} (hc : s' = s) (hp : s.pos = s.old.length) : Dc.shift s' = { old := s.young, young := [], pos := 0 } := by
  rw [hc]; unfold Dc.shift; rw [if_pos hp]
theorem shift_not {s s' : Dc.St ByteArray (Option Addr)} (hc : s' = s) (hp : ¬ s.pos = s.old.length) : Dc.shift s' = s := by
  rw [hc]; unfold Dc.shift; rw [if_neg hp]
set_option maxRecDepth 100000 in
set_option maxHeartbeats 2000000 in
theorem step_any {h : ByteArray → Nat} {seed : Nat} (hH : HashIs seed h) (w : World) (r : Roles) (b n : Nat) (s : Dc.St ByteArray (Option Addr)) (hD : Dct w r b seed n s) (hI : Dc.Inv h s)
    (hm0 : s.old.length ≤ maxLen) (hm1 : s.young.length ≤ maxLen) (hk : ∀ x ∈ s.old.flatten, x.1.size ≤ maxLen) (hl : s.young.flatten.length + s.old.flatten.length ≤ 2600000000000) :
    Calls Tryz.prog 80 #[.pointer (some ⟨b, 0, none⟩)] w fun x w' => x = .returned (.tuple #[]) ∧ ∃ r', Dct w' r' b seed n (Dc.step h s) ∧ Fr w r w' r' := by
  obtain ⟨ao, ca, bo, cb, h4, h5, h3⟩ := hD.cells
  obtain ⟨c0, c1, c2, c3, c4, cf⟩ := five h3
  have mM := moving_any w b bo _ cb c3
  by_cases hy0 : s.young = []
  · have hd : decide (0 < s.young.length) = false := by rw [hy0]; rfl
    rw [hd] at mM
    have hst := Dc.step_still h hy0
    have HD := keep hD
    clear hD hI h4 h5 h3 c0 c1 c2 c3 c4 cf hk
    go_enter Tryz.func80, Tryz.ntmps80
    go_wp2_with fail
    refine mM.mono ?_
    rintro _ w' ⟨rfl, rfl⟩
    go_wp2
    refine bodyPost_ret (results_none rfl _ _ _) rfl ?_
    exact ⟨rfl, r, by rw [hst]; exact HD.out, Fr.refl _ _⟩
  · have hyl : 0 < s.young.length := by cases hs : s.young with | nil => exact absurd hs hy0 | cons _ _ => simp
    have hd : decide (0 < s.young.length) = true := decide_eq_true hyl
    rw [hd] at mM
    have hpos := hI.move hy0
    have mP := pass_any w r b seed n s hD (by omega) hm0
    have hrb := hD.2.1
    have hsk := Dc.skip_len 10 s.old s.pos (by omega)
    have HST := keep (fun s' => step_done (h := h) (s := s) hy0 (s' := s'))
    have HFR := keep (fun w' (ho : Only b w w') => Only.fr (r := r) ho hrb)
    generalize hs1 : ({ s with pos := Dc.skip 10 s.old s.pos } : Dc.St ByteArray (Option Addr)) = s1 at mP HST
    have eo : s1.old = s.old := by rw [← hs1]
    have ey : s1.young = s.young := by rw [← hs1]
    have ep : s1.pos = Dc.skip 10 s.old s.pos := by rw [← hs1]
    clear hs1
    rw [← ep] at hsk
    rw [← eo] at hm0 hk hl hsk
    rw [← ey] at hm1 hl hyl
    clear hD hI h4 h5 h3 c0 c1 c2 c3 c4 cf hpos eo ey ep hd
    go_enter Tryz.func80, Tryz.ntmps80
    go_wp2_with fail
    refine mM.mono ?_
    rintro _ w' ⟨rfl, hw'⟩
    subst hw'
    go_wp2_with fail
    refine mP.mono ?_
    rintro _ w1 ⟨rfl, hD1, ho1⟩
    clear mM mP
    obtain ⟨ao, ca, bo, cb, h4, h5, h3⟩ := hD1.cells
    obtain ⟨c0, c1, c2, c3, c4, cf⟩ := five h3
    have HF1 := keep (HFR.out _ ho1)
    have HD1 := keep hD1
    have H3 := keep h3
    have H4 := keep h4
    have H5 := keep h5
    have f2 := cf 2
    have f3 := cf 3
    have f4 := cf 4
    clear hD1 h3 h4 h5 cf c0 c1 ho1
    rcases Nat.lt_or_ge s1.pos s1.old.length with hlt | hge
    · have he : ((s1.pos : Int) == (s1.old.length : Int)) = false := beq_eq_false_iff_ne.2 (by omega)
      have hlt' : (s1.pos : Int) < (s1.old.length : Int) := by omega
      have hp0 : (0 : Int) ≤ (s1.pos : Int) := by omega
      obtain ⟨g, ca', e4, hrg, hgl⟩ := H4.out.form (by omega)
      have e5 : ao = some ⟨g, 0, none⟩ := by injection e4
      subst e5
      clear e4
      obtain ⟨c, hc⟩ : ∃ c, s1.old[s1.pos]? = some c := ⟨_, List.getElem?_eq_getElem hlt⟩
      obtain ⟨v, hv1, hv2, _⟩ := H4.out.at hc
      obtain ⟨co, cc, rfl⟩ := chn_len hv2
      clear hv2
      cases c with
      | nil =>
        have hcar := keep (shift_not (carry_not (h := h) (.inr hc)) (by omega))
        have hv1 : w1.cell? ⟨g, s1.pos, none⟩ = some (.slice co 0 cc) := hv1
        clear hc
        go_wp2_with fail
        go_region
        go_wp2_with fail
        go_region
        go_wp2
        go_end0
        exact ⟨rfl, r, by rw [HST.out _ hcar.out]; exact HD1.out.below (Below.refl _ _).drew.drew, HF1.out⟩
      | cons e c =>
        have mV := move_any hH w1.drew r b n s1 e c (HD1.out.below (Below.refl _ _).drew) hc hyl hm0 hm1 (fun x hx => hk x (List.mem_flatten.2 ⟨_, List.mem_of_getElem? hc, hx⟩)) (by have := (List.sublist_flatten_of_mem (List.mem_of_getElem? hc)).length_le; omega)
        have hcar : (Dc.carry h s1).old.length = s1.old.length ∧ (Dc.carry h s1).pos = s1.pos + 1 := by unfold Dc.carry; rw [hc]; simp
        generalize Dc.carry h s1 = s2 at mV hcar HST
        have hz : decide (0 < (e :: c).length) = true := by simp
        generalize (e :: c).length = m at *
        clear hc
        go_wp2_with fail
        go_region
        go_wp2_with fail
        refine mV.mono ?_
        rintro _ w2 ⟨rfl, r2, hD2, hF2⟩
        clear mV
        have HF2 := keep hF2
        have HD2 := keep hD2
        obtain ⟨ao2, ca2, bo2, cb2, h4, h5, h3⟩ := hD2.cells
        obtain ⟨c0, c1, d2, d3, d4, cf⟩ := five h3
        have K3 := keep h3
        have K5 := keep h5
        have f2' := cf 2
        have f3' := cf 3
        have f4' := cf 4
        have hlen := hcar.1
        have hpo := keep hcar.2
        clear hD2 h3 h4 h5 cf c0 c1 hF2 hcar c2 c3 c4 f2 f3 f4 hv1
        by_cases hend : s2.pos = s2.old.length
        · have he2 : ((s2.pos : Int) == (s2.old.length : Int)) = true := by rw [hend]; simp
          have hsh := keep (shift_is rfl hend)
          clear hend he hlen
          go_wp2_with fail
          go_region
          go_wp2
          go_end0
          obtain ⟨q1, q2⟩ := shift_mem HD2.out K5.out (((((Only.refl b w2).drew).setCell 2 (.slice bo2 s2.young.length cb2)).setCell 3 (.slice none 0 0)).setCell 4 (.int .i64 0)) (set3_mem K3.out)
          exact ⟨rfl, _, by rw [HST.out _ hsh.out]; exact q1, (HF1.out.trans (Fr.of_below (Below.refl _ _).drew)).trans (HF2.out.trans q2)⟩
        · have he2 : ((s2.pos : Int) == (s2.old.length : Int)) = false := beq_eq_false_iff_ne.2 (by omega)
          have hsh := keep (shift_not rfl hend)
          clear hend he hlen
          go_wp2_with fail
          go_region
          go_wp2
          go_end0
          exact ⟨rfl, r2, by rw [HST.out _ hsh.out]; exact HD2.out.below (Below.refl _ _).drew, (HF1.out.trans (Fr.of_below (Below.refl _ _).drew)).trans (HF2.out.trans (Fr.of_below (Below.refl _ _).drew))⟩
    · have hpe : s1.pos = s1.old.length := by omega
      have he : ((s1.pos : Int) == (s1.old.length : Int)) = true := by rw [hpe]; simp
      have hlt' : ¬ (s1.pos : Int) < (s1.old.length : Int) := by omega
      have hcar := keep (shift_is (carry_not (h := h) (.inl (List.getElem?_eq_none (by omega)))) hpe)
      have hlt2 : ¬ s1.pos < s1.old.length := by omega
      clear hpe hge
      go_wp2_with fail
      go_region
      go_wp2_with fail
      go_region
      go_wp2
      go_end0
      obtain ⟨q1, q2⟩ := shift_mem HD1.out H5.out (((((Only.refl b w1).drew.drew).setCell 2 (.slice bo s1.young.length cb)).setCell 3 (.slice none 0 0)).setCell 4 (.int .i64 0)) (set3_mem H3.out)
      exact ⟨rfl, _, by rw [HST.out _ hcar.out]; exact q1, HF1.out.trans q2⟩
end Go.Proofs.YthmmblohfjmbcaaGreat.DP
