/-
  Contracts over this program: is it moving? how many empty buckets are passed.
-/
import Derived.Test.YtapehjlpiobeaaaDictFind
import Derived.StillTactics
namespace Go.Proofs.Ytapehjlpiobeaaa
open Go.RowKit Go.Shelf
theorem tab_len {w : World} {r : Roles} {t : Nat} {tv : Value} {T : Dc.Tab ByteArray Nat} (h : Tb w r t tv T) : ∃ ao cap, tv = .slice ao T.length cap ∧ (T = [] ∨ ∃ g, ao = some ⟨g, 0, none⟩ ∧ r g = (1 + t, 0)) := by
  cases T with
  | nil => obtain ⟨ao, cap, rfl⟩ := h.empty; exact ⟨ao, cap, rfl, .inl rfl⟩
  | cons c T => obtain ⟨g, cap, rfl, hr, _⟩ := h.form (by simp); exact ⟨_, cap, rfl, .inr ⟨g, rfl, hr⟩⟩
theorem Dct.cells {w : World} {r : Roles} {b seed n : Nat} {s : Dc.St ByteArray Nat} (h : Dct w r b seed n s) : ∃ ao ca bo cb, Tb w r 0 (.slice ao s.old.length ca) s.old ∧ Tb w r 1 (.slice bo s.young.length cb) s.young ∧ w.heap[b]? = some (.cells #[.int .u64 seed, .int .i64 n, .slice ao s.old.length ca, .slice bo s.young.length cb, .int .i64 s.pos] 87 (0, 0)) := by
  obtain ⟨h1, h2, ov, yv, h3, h4, h5⟩ := h
  obtain ⟨ao, ca, rfl, _⟩ := tab_len h4
  obtain ⟨bo, cb, rfl, _⟩ := tab_len h5
  exact ⟨ao, ca, bo, cb, h4, h5, h3⟩
/-- the five cells of the struct -/
theorem five {w : World} {b : Nat} {v0 v1 v2 v3 v4 : Value} {t : TypeId} (h : w.heap[b]? = some (.cells #[v0, v1, v2, v3, v4] t (0, 0))) :
    w.cell? ⟨b, 0, none⟩ = some v0 ∧ w.cell? ⟨b, 1, none⟩ = some v1 ∧ w.cell? ⟨b, 2, none⟩ = some v2 ∧ w.cell? ⟨b, 3, none⟩ = some v3 ∧ w.cell? ⟨b, 4, none⟩ = some v4 ∧ ∀ i, w.frozen? ⟨b, i, none⟩ = false := by
  refine ⟨?_, ?_, ?_, ?_, ?_, fun i => ?_⟩ <;> simp [World.cell?, World.frozen?, h]
set_option maxHeartbeats 400000 in
theorem moving_any (w : World) (b : Nat) (bo : Option Addr) (n cb : Nat) (h : w.cell? ⟨b, 3, none⟩ = some (.slice bo n cb)) :
    Calls Try.prog 48 #[.pointer (some ⟨b, 0, none⟩)] w fun e w' => e = .returned (.bool (decide (0 < n))) ∧ w' = w := by
  go_enter Try.func48, Try.ntmps48
  go_wp2
  go_ret
  exact ⟨by simp, rfl⟩
/-- block b alone has turned -/
def Only (b : Nat) (w w' : World) : Prop := (w'.os = w.os ∧ w'.tape = w.tape ∧ w'.output = w.output) ∧ w'.heap.size = w.heap.size ∧ ∀ k, k ≠ b → w'.heap[k]? = w.heap[k]?
theorem Only.refl (b : Nat) (w : World) : Only b w w := ⟨⟨rfl, rfl, rfl⟩, rfl, fun _ _ => rfl⟩
theorem Only.trans {b : Nat} {w w1 w2 : World} (h : Only b w w1) (g : Only b w1 w2) : Only b w w2 :=
  ⟨⟨g.1.1.trans h.1.1, g.1.2.1.trans h.1.2.1, g.1.2.2.trans h.1.2.2⟩, g.2.1.trans h.2.1, fun k hk => (g.2.2 k hk).trans (h.2.2 k hk)⟩
theorem Only.setCell {b : Nat} {w w' : World} (h : Only b w w') (i : Nat) (u : Value) : Only b w (w'.setCell ⟨b, i, none⟩ u) :=
  h.trans ⟨⟨rfl, rfl, rfl⟩, by simp [World.setCell], fun k hk => Below.heap_setCell _ _ _ _ hk⟩
theorem Only.drew {b : Nat} {w w' : World} (h : Only b w w') : Only b w w'.drew := ⟨h.1, h.2⟩
theorem Only.tab {b : Nat} {w w' : World} {r : Roles} {t : Nat} {tv : Value} {T : Dc.Tab ByteArray Nat} (h : Only b w w') (hb : r b = (5, 0)) (ht : t ≤ 1) (hT : Tb w r t tv T) : Tb w' r t tv T :=
  hT.kept fun k _ hr => ⟨h.2.2 k (fun e => by rw [e, hb] at hr; simp at hr; omega), rfl⟩
theorem Only.fr {b : Nat} {w w' : World} {r : Roles} (h : Only b w w') (hb : r b = (5, 0)) : Fr w r w' r :=
  ⟨h.1, by rw [h.2.1]; exact Nat.le_refl _, fun k _ hr => ⟨h.2.2 k (fun e => by rw [e, hb] at hr; simp at hr), hr⟩⟩
theorem Only.dct {b seed n n' : Nat} {w w' : World} {r : Roles} {s s' : Dc.St ByteArray Nat} {ov yv : Value} (h : Only b w w') (hd : Dct w r b seed n s) (hc : w'.heap[b]? = some (.cells #[.int .u64 seed, .int .i64 n', ov, yv, .int .i64 s'.pos] 87 (0, 0))) (ho : Tb w r 0 ov s'.old) (hy : Tb w r 1 yv s'.young) : Dct w' r b seed n' s' :=
  ⟨fun k hk => by rw [h.2.1]; exact hd.1 k hk, hd.2.1, ov, yv, hc, h.tab hd.2.1 (by omega) ho, h.tab hd.2.1 (by omega) hy⟩
theorem chn_len {w : World} {v : Value} {c : List Ent} (h : Chn w v c) : ∃ ao cap, v = .slice ao c.length cap := by
  rcases h.form with ⟨rfl, rfl⟩ | ⟨g, cap, rfl, _⟩
  · exact ⟨none, 0, rfl⟩
  · exact ⟨_, cap, rfl⟩
theorem skip_full {n p : Nat} {T : Dc.Tab ByteArray Nat} {e : Ent} {c : List Ent} (h : T[p]? = some (e :: c)) : Dc.skip n T p = p := by
  cases n with
  | zero => rfl
  | succ n => simp only [Dc.skip]; rw [h]; rfl
theorem skip_end {n p : Nat} {T : Dc.Tab ByteArray Nat} (h : T.length ≤ p) : Dc.skip n T p = p := by
  cases n with
  | zero => rfl
  | succ n => simp only [Dc.skip]; rw [List.getElem?_eq_none h]; rfl
theorem skip_on {n p : Nat} {T : Dc.Tab ByteArray Nat} (h : T[p]? = some []) : Dc.skip (n + 1) T p = Dc.skip n T (p + 1) := by
  simp only [Dc.skip]; rw [h]; rfl
theorem set_at {a0 a1 a2 a3 a4 u : Value} : (#[a0, a1, a2, a3, a4] : Array Value).setIfInBounds 4 u = #[a0, a1, a2, a3, u] := rfl
set_option maxHeartbeats 2000000 in
theorem pass_any (w : World) (r : Roles) (b seed n : Nat) (s : Dc.St ByteArray Nat) (h : Dct w r b seed n s) (hp : s.pos ≤ s.old.length) (hm : s.old.length ≤ maxLen) :
    Calls Try.prog 66 #[.pointer (some ⟨b, 0, none⟩)] w fun e w' => e = .returned (.tuple #[]) ∧ Dct w' r b seed n { s with pos := Dc.skip 10 s.old s.pos } ∧ Only b w w' := by
  obtain ⟨ao, ca, bo, cb, h4, h5, h3⟩ := h.cells
  have HD := keep h
  have H4 := keep h4
  have H5 := keep h5
  have hrb := keep h.2.1
  unfold maxLen at hm
  have H3 := keep h3
  clear h h4 h5 h3
  generalize hL : s.old.length = L at *
  have HL := keep hL
  clear hL
  go_enter Try.func66, Try.ntmps66
  go_wp2
  go_loopw [2] (fun i wr => ∃ (k p : Nat), k ≤ 10 ∧ i = .int .i64 k ∧ p ≤ L ∧ Kept (wr.heap[b]? = some (.cells #[.int .u64 seed, .int .i64 n, .slice ao L ca, .slice bo s.young.length cb, .int .i64 p] 87 (0, 0))) ∧ Kept (Only b w wr) ∧ Kept (Dc.skip (10 - k) s.old p = Dc.skip 10 s.old s.pos)) (fun i _ => 10 - (intOf i).toNat)
  case atStart => exact ⟨0, s.pos, by omega, rfl, hp, H3, Only.refl _ _, rfl⟩
  case round =>
    obtain ⟨k, p, hk, rfl, hpL, K3, KO, KS⟩ := hrel
    obtain ⟨c0, c1, c2, c3, c4, cf⟩ := five K3.out
    by_cases hk10 : k < 10
    · have hk1 : (k : Int) < 10 := by omega
      by_cases hpe : p = L
      · have he : ((p : Int) == (L : Int)) = true := by rw [hpe]; simp
        have hS := keep (skip_end (n := 10 - k) (p := p) (T := s.old) (by rw [HL.out]; omega))
        clear cf c0 c1 c3
        go_wp2_with fail
        go_region
        all_goals go_wp2
        refine bodyPost_ret (results_none rfl _ _ _) rfl ?_
        refine ⟨rfl, KO.out.drew.dct HD.out (s' := { s with pos := Dc.skip 10 s.old s.pos }) ?_ H4.out H5.out, KO.out.drew⟩
        have e : Dc.skip 10 s.old s.pos = p := by rw [← KS.out, hS.out]
        rw [e]
        exact K3.out
      · have hpl : p < L := by omega
        have he : ((p : Int) == (L : Int)) = false := beq_eq_false_iff_ne.2 (by omega)
        obtain ⟨g, ca', e4, hrg, hgl⟩ := H4.out.form (by rw [HL.out]; omega)
        have e5 : ao = some ⟨g, 0, none⟩ := by injection e4
        clear e4
        subst e5
        have hbg : g ≠ b := fun e => by have := hrb.out; rw [← e, hrg] at this; simp at this
        obtain ⟨c, hc⟩ : ∃ c, s.old[p]? = some c := ⟨_, List.getElem?_eq_getElem (by rw [HL.out]; exact hpl)⟩
        obtain ⟨v, hv1, hv2, _⟩ := H4.out.at hc
        obtain ⟨co, cc, rfl⟩ := chn_len hv2
        have hcell : wr.cell? ⟨g, p, none⟩ = some (.slice co c.length cc) := by rw [World.cell?_of_block (w := w) (a := ⟨g, p, none⟩) (KO.out.2.2 g hbg)]; exact hv1
        have hp0 : (0 : Int) ≤ (p : Int) := by omega
        have hp1 : (p : Int) < (L : Int) := by omega
        clear hv1 hv2
        cases c with
        | cons e c =>
          have hS := keep (skip_full (n := 10 - k) hc)
          clear hc cf c0 c1 c3
          have hz : decide (0 < (e :: c).length) = true := by simp
          generalize (e :: c).length = m at *
          go_wp2_with fail
          go_region
          all_goals go_wp2
          refine bodyPost_ret (results_none rfl _ _ _) rfl ?_
          refine ⟨rfl, KO.out.drew.dct HD.out (s' := { s with pos := Dc.skip 10 s.old s.pos }) ?_ H4.out H5.out, KO.out.drew⟩
          have e : Dc.skip 10 s.old s.pos = p := by rw [← KS.out, hS.out]
          rw [e]
          exact K3.out
        | nil =>
          have hS := keep (skip_on (n := 10 - k - 1) hc)
          clear hc c0 c1 c3
          have hw : IntKind.i64.wrap ((p : Int) + 1) = ((p + 1 : Nat) : Int) := by rw [IntKind.wrap_i64]; omega
          have hcell : wr.cell? ⟨g, p, none⟩ = some (.slice co 0 cc) := hcell
          have f4 := cf 4
          clear cf
          go_wp2_with fail
          go_region
          all_goals go_wp2
          go_roundw
          case measure => simp [intOf]; omega
          case rel =>
            refine ⟨k + 1, p + 1, by omega, by go_num, by omega, ?_, KO.out.drew.setCell 4 _, ?_⟩
            · have := cells_setCell (i := 4) (u := .int .i64 ((p + 1 : Nat) : Int)) K3.out
              rw [set_at] at this
              exact this
            · show Dc.skip (10 - (k + 1)) s.old (p + 1) = Dc.skip 10 s.old s.pos
              rw [← KS.out, show 10 - k = (10 - k - 1) + 1 by omega, hS.out]
              congr 1
    · have hk1 : ¬ (k : Int) < 10 := by omega
      clear cf c0 c1 c2 c3 c4
      go_wp2
      go_end0
      refine ⟨rfl, KO.out.dct HD.out (s' := { s with pos := Dc.skip 10 s.old s.pos }) ?_ H4.out H5.out, KO.out⟩
      have e : Dc.skip 10 s.old s.pos = p := by rw [← KS.out, show 10 - k = 0 by omega]; rfl
      rw [e]
      exact K3.out
end Go.Proofs.Ytapehjlpiobeaaa
