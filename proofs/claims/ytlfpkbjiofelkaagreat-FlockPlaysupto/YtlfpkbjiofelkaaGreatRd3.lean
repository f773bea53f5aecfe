/-
  Contracts over this program: a step of the document's own dict.
-/
import Derived.Test.YtlfpkbjiofelkaaGreatRd2
import Derived.BigQuiet
namespace Go.Proofs.YtlfpkbjiofelkaaGreat
open Go.RowKit Go.Shelf
set_option linter.unusedVariables false
set_option linter.unusedSimpArgs false
set_option maxRecDepth 100000
namespace Rd
variable {V : Type}
theorem skip_succ (n : Nat) (t : Dc.Tab ByteArray V) (p : Nat) (h : t[p]? = some []) : Dc.skip (n + 1) t p = Dc.skip n t (p + 1) := by
  simp [Dc.skip, h, Dc.bare]
theorem skip_stop (n : Nat) (t : Dc.Tab ByteArray V) (p : Nat) (h : t[p]? ≠ some []) : Dc.skip n t p = p := by
  cases n with
  | zero => rfl
  | succ n =>
    have hb : Dc.bare t[p]? = false := by
      cases e : Dc.bare t[p]? with
      | false => rfl
      | true => exact absurd (Dc.bare_is.1 e) h
    simp [Dc.skip, hb]
theorem pour_snoc (h : ByteArray → Nat) (c : List (ByteArray × V)) (e : ByteArray × V) (t : Dc.Tab ByteArray V) : Dc.pour h t (c ++ [e]) = Dc.push h (Dc.pour h t c) e := by simp [Dc.pour]
theorem push_is {h : ByteArray → Nat} {T : Dc.Tab ByteArray V} {e : ByteArray × V} {c : List (ByteArray × V)} (hc : T[h e.1 % T.length]? = some c) : Dc.push h T e = T.set (h e.1 % T.length) (e :: c) := by
  unfold Dc.push
  rw [List.modify_eq_set, hc]
  rfl
theorem step_is {h : ByteArray → Nat} {s s' : Dc.St ByteArray V} (hne : s.young ≠ []) (hs : Dc.shift (Dc.carry h { s with pos := Dc.skip 10 s.old s.pos }) = s') : Dc.step h s = s' := by
  unfold Dc.step
  rw [if_neg (by rw [Dc.empty_iff]; exact hne)]
  exact hs
theorem carry_none {h : ByteArray → Nat} {s : Dc.St ByteArray V} (hc : s.old[s.pos]? = none ∨ s.old[s.pos]? = some []) : Dc.carry h s = s := by
  unfold Dc.carry
  rcases hc with hc | hc <;> rw [hc]
theorem shift_yes {s s' : Dc.St ByteArray V} (hc : s' = s) (hp : s.pos = s.old.length) : Dc.shift s' = { old := s.young, young := [], pos := 0 } := by
  rw [hc]; unfold Dc.shift; rw [if_pos hp]
theorem shift_no {s s' : Dc.St ByteArray V} (hc : s' = s) (hp : ¬ s.pos = s.old.length) : Dc.shift s' = s := by
  rw [hc]; unfold Dc.shift; rw [if_neg hp]
theorem RD.drewN {w : World} {r : Roles} {b seed : Nat} {s : Dc.St ByteArray V} {KV : List (ByteArray × Int)} (h : RD w r b seed s KV) (n : Nat) : RD (w.drewN n) r b seed s KV := h.below (below_drewN (Below.refl _ _) n)
set_option maxHeartbeats 8000000 in
theorem rstep_any {h : ByteArray → Nat} {seed : Nat} (hH : RHashIs seed h) (w : World) (r : Roles) (b : Nat) (s : Dc.St ByteArray V) (KV : List (ByteArray × Int)) (hD : RD w r b seed s KV) (hI : Dc.Inv h s)
    (hm0 : s.old.length ≤ maxLen) (hm1 : s.young.length ≤ maxLen) (hk : ∀ x ∈ s.old.flatten, x.1.size ≤ maxLen) (hl : s.young.flatten.length + s.old.flatten.length ≤ 2600000000000) :
    Calls Tryz.prog 65 #[.pointer (some ⟨b, 0, none⟩)] w fun x w' => x = .returned (.tuple #[]) ∧ ∃ r', RD w' r' b seed (Dc.step h s) KV ∧ Fr w r w' r' := by
  obtain ⟨ao, ca, bo, cb, ko, kc, vo, vc, h3, h4, h5, h6, h7⟩ := hD.parts
  obtain ⟨c0, c1, c2, c3, c4, c5, cf⟩ := six h3
  have HD := keep hD
  have HI := keep hI
  have HM0 := keep hm0
  have HM1 := keep hm1
  have HK := keep hk
  have HL := keep hl
  by_cases hy0 : s.young = []
  · have hd : ((s.young.length : Int) == 0) = true := by rw [hy0]; rfl
    have hst := keep (Dc.step_still h hy0)
    clear hD hI h4 h5 h3 h6 h7 c0 c1 c3 c4 c5 cf hk hl hm0 hm1 hy0
    generalize s.young.length = ny at *
    go_enter Tryz.func65, Tryz.ntmps65
    go_wp2
    refine bodyPost_ret (results_none rfl _ _ _) rfl ?_
    exact ⟨rfl, r, by rw [hst.out]; exact HD.out, Fr.refl _ _⟩
  · have hyl : 0 < s.young.length := by cases hs : s.young with | nil => exact absurd hs hy0 | cons _ _ => simp
    have hd : ((s.young.length : Int) == 0) = false := beq_eq_false_iff_ne.2 (by omega)
    have HY := keep hyl
    have HY0 := keep hy0
    have HP : Kept (s.pos ≤ s.old.length) := Nat.le_of_lt (hI.move hy0)
    clear hD hI h4 h5 h3 h6 h7 c0 c1 c3 c4 c5 cf hk hl hm0 hm1 hy0 hyl
    obtain ⟨ny, hny⟩ : ∃ n, s.young.length = n := ⟨_, rfl⟩
    rw [hny] at c2 hd
    go_enter Tryz.func65, Tryz.ntmps65
    go_wp2_with fail
    clear c2 hd hny
    go_loopg [2] 10 (fun kx s2 wr => ∃ (j : Nat) (lf : Int), s2 = .int .i64 lf ∧ lf = 10 - (j : Int) ∧ j ≤ 10 ∧ 10 - j ≤ kx ∧ Kept (RD wr r b seed { s with pos := s.pos + j } KV ∧ Fr w r wr r ∧ Dc.skip 10 s.old s.pos = Dc.skip (10 - j) s.old (s.pos + j) ∧ s.pos + j ≤ s.old.length))
    case atStart => exact ⟨0, 10, rfl, rfl, by omega, by omega, HD.out, Fr.refl _ _, rfl, HP.out⟩
    case round =>
      obtain ⟨j, lf, rfl, hlf, hj, hgj, KR⟩ := hrel
      obtain ⟨p, hp⟩ : ∃ p, s.pos + j = p := ⟨_, rfl⟩
      rw [hp] at KR
      obtain ⟨ao, ca, bo, cb, ko, kc, vo, vc, h3, h4, h5, h6, h7⟩ := KR.out.1.parts
      dsimp only at h3 h4 h5
      obtain ⟨c0, c1, c2, c3, c4, c5, cf⟩ := six h3
      have hpl := KR.out.2.2.2
      -- does it go on?
      by_cases hgo : j < 10 ∧ s.old[p]? = some []
      · obtain ⟨hj10, hpe⟩ := hgo
        have hpn : p < s.old.length := (List.getElem?_eq_some_iff.1 hpe).1
        obtain ⟨g, cap, e1, hrg, hgl⟩ := h4.form (by omega)
        cases e1
        obtain ⟨v, hv, hcv, _⟩ := h4.at hpe
        obtain ⟨vo', vc', e2, _⟩ := hcv.tx.form
        simp only [Dc.keys, List.map_nil, List.length_nil] at e2
        subst e2
        have d1 : decide ((0 : Int) < lf) = true := decide_eq_true (by omega)
        have d1' : (0 : Int) < lf := by omega
        have d2 : decide ((p : Int) < (s.old.length : Int)) = true := decide_eq_true (by omega)
        have d2' : (p : Int) < (s.old.length : Int) := by omega
        have p0 : (0 : Int) ≤ (p : Int) := by omega
        have hwp : IntKind.i64.wrap ((p : Int) + 1) = (p : Int) + 1 := by have := HM0.out; unfold maxLen at this; rw [IntKind.wrap_i64]; omega
        have hwj : IntKind.i64.wrap (lf - 1) = lf - 1 := by rw [IntKind.wrap_i64]; omega
        have HLF : Kept (lf - 1 = 10 - ((j + 1 : Nat) : Int)) := by show lf - 1 = _; omega
        have HSK := keep (skip_succ (9 - j) s.old p hpe)
        clear h3 h4 h5 h6 h7 c0 c2 c4 c5 hpe hcv hrg hgl hlf
        have HPN := keep hpn
        obtain ⟨n0, hn0⟩ : ∃ n, s.old.length = n := ⟨_, rfl⟩
        rw [hn0] at c1 d2 d2'
        go_wp2_with fail
        go_quiet (fail)
        obtain ⟨wq, hwq⟩ : ∃ wq, wr.drewN nq = wq := ⟨_, rfl⟩
        rw [hwq]
        have rq := KR.out.1.drewN nq
        rw [hwq] at rq
        obtain ⟨W3, hW3⟩ : ∃ x, wq.setCell ⟨b, 3, none⟩ (.int .i64 ((p : Int) + 1)) = x := ⟨_, rfl⟩
        obtain ⟨r3, f3, _⟩ := rq.setp (p + 1) hW3
        have q3 : wq.cell? ⟨b, 3, none⟩ = some (.int .i64 (p : Int)) := by rw [← hwq]; exact c3
        have qf : ∀ i, wq.frozen? ⟨b, i, none⟩ = false := fun i => rq.free i
        have hfq : Fr w r wq r := by rw [← hwq]; exact KR.out.2.1.trans (Fr.of_below (below_drewN (Below.refl _ _) nq))
        have K3 : Kept (RD W3 r b seed { s with pos := s.pos + (j + 1) } KV ∧ Fr w r W3 r ∧ Dc.skip 10 s.old s.pos = Dc.skip (10 - (j + 1)) s.old (s.pos + (j + 1)) ∧ s.pos + (j + 1) ≤ s.old.length) := by
          have e : s.pos + (j + 1) = p + 1 := by omega
          rw [e]
          refine ⟨r3, hfq.trans f3, ?_, hpn⟩
          rw [KR.out.2.2.1, show 10 - j = (9 - j) + 1 by omega, HSK.out, show 10 - (j + 1) = 9 - j by omega]
        clear rq r3 f3 hfq KR c1 c3 cf hv
        go_wp2
        go_roundg (10 - (j + 1))
        case measure => omega
        case rel => exact ⟨j + 1, _, rfl, HLF.out, by omega, Nat.le_refl _, K3.out⟩
      · have hsk : Dc.skip 10 s.old s.pos = p := by
          rw [KR.out.2.2.1]
          by_cases hj10 : j = 10
          · rw [hj10]; rfl
          · exact skip_stop _ _ _ (fun e => hgo ⟨by omega, e⟩)
        have HSK := keep hsk
        have hnz : s.old.length ≤ maxLen := HM0.out
        obtain ⟨n0, hn0⟩ : ∃ n, s.old.length = n := ⟨_, rfl⟩
        obtain ⟨ny, hny'⟩ : ∃ n, s.young.length = n := ⟨_, rfl⟩
        have HNY : Kept (0 < ny ∧ ny ≤ maxLen) := by rw [← hny']; exact ⟨HY.out, HM1.out⟩
        clear hsk
        cases hop : s.old[p]? with
        | none =>
          have hpn : p = n0 := by have := List.getElem?_eq_none_iff.1 hop; omega
          by_cases hj10 : j = 10
          · have HPN := keep hpn
            have HOP := keep hop
            have HEQ : Kept (Dc.step h s = { old := s.young, young := [], pos := 0 }) := step_is HY0.out (by rw [HSK.out]; exact shift_yes (s := { s with pos := p }) (carry_none (Or.inl HOP.out)) (by show p = s.old.length; omega))
            have hl0 : lf = 0 := by omega
            subst hl0
            rw [hn0] at c1
            have HN0 := keep hn0
            have HNYE := keep hny'
            have HHP := keep hp
            clear c0 c2 c4 c5 cf h3 h5 h6 h7 hn0 hny' hp hgo hnz hpl hj hlf h4 hpn hop hj10
            have KR2 : Kept (RD wr r b seed { s with pos := p } KV ∧ Fr w r wr r) := ⟨KR.out.1, KR.out.2.1⟩
            clear KR
            go_wp2_with fail
            go_quiet (fail)
            obtain ⟨wq, hq⟩ : ∃ x, wr.drewN nq = x := ⟨_, rfl⟩
            rw [hq]
            have RQ : Kept (RD wq r b seed { s with pos := p } KV ∧ Fr w r wq r) := by rw [← hq]; exact ⟨KR2.out.1.drewN nq, KR2.out.2.trans (Fr.of_below (below_drewN (Below.refl _ _) nq))⟩
            clear hq c1 c3
            obtain ⟨ao, ca, bo, cb, ko, kc, vo, vc, h3, h4, h5, h6, h7⟩ := RQ.out.1.parts
            dsimp only at h3 h4 h5
            obtain ⟨c0, c1, c2, c3, c4, c5, cf⟩ := six h3
            rw [HN0.out] at c1
            have hz5 : decide ((p : Int) < (n0 : Int)) = false := decide_eq_false (by have := HPN.out; omega)
            have hz5n : decide (p < n0) = false := decide_eq_false (by have := HPN.out; omega)
            have hz14n : (p == n0) = true := beq_iff_eq.2 HPN.out
            have hz14 : ((p : Int) == (n0 : Int)) = true := beq_iff_eq.2 (by have := HPN.out; omega)
            clear c0 c2 c4 c5 h3 h4 h5 h6 h7
            go_wp2_with fail
            go_quiet (fail)
            obtain ⟨wq2, hq⟩ : ∃ x, wq.drewN nq = x := ⟨_, rfl⟩
            rw [hq]
            have RQ2 : Kept (RD wq2 r b seed { s with pos := p } KV ∧ Fr w r wq2 r) := by rw [← hq]; exact ⟨RQ.out.1.drewN nq, RQ.out.2.trans (Fr.of_below (below_drewN (Below.refl _ _) nq))⟩
            clear hq c1 c3 cf
            obtain ⟨ao, ca, bo, cb, ko, kc, vo, vc, h3, h4, h5, h6, h7⟩ := RQ2.out.1.parts
            dsimp only at h3 h4 h5
            obtain ⟨c0, c1, c2, c3, c4, c5, cf⟩ := six h3
            rw [HN0.out] at c1
            clear c0 c2 c4 c5 h3 h4 h5 h6 h7
            go_wp2_with fail
            go_quiet (fail)
            obtain ⟨wq3, hq⟩ : ∃ x, wq2.drewN nq = x := ⟨_, rfl⟩
            rw [hq]
            have RQ3 : Kept (RD wq3 r b seed { s with pos := p } KV ∧ Fr w r wq3 r) := by rw [← hq]; exact ⟨RQ2.out.1.drewN nq, RQ2.out.2.trans (Fr.of_below (below_drewN (Below.refl _ _) nq))⟩
            clear hq c1 c3 cf
            obtain ⟨ao, ca, bo, cb, ko, kc, vo, vc, h3, h4, h5, h6, h7⟩ := RQ3.out.1.parts
            dsimp only at h3 h4 h5
            obtain ⟨c0, c1, c2, c3, c4, c5, cf⟩ := six h3
            rw [show (Dc.St.young { s with pos := p }).length = ny from HNYE.out] at c2
            obtain ⟨WZ, hWZ⟩ : ∃ x, ((wq3.setCell ⟨b, 1, none⟩ (.slice bo ny cb)).setCell ⟨b, 2, none⟩ (.slice none 0 0)).setCell ⟨b, 3, none⟩ (.int .i64 0) = x := ⟨_, rfl⟩
            obtain ⟨rz, fz⟩ := RQ3.out.1.shift c2 hWZ
            have HD2 : Kept (∃ r', RD WZ r' b seed (Dc.step h s) KV ∧ Fr w r WZ r') := ⟨_, by rw [HEQ.out]; exact rz, RQ3.out.2.trans fz⟩
            clear rz fz c0 c4 c5 h3 h4 h5 h6 h7
            go_wp2
            go_end0
            exact ⟨rfl, HD2.out⟩
          · have HPN := keep hpn
            have HOP := keep hop
            have HEQ : Kept (Dc.step h s = { old := s.young, young := [], pos := 0 }) := step_is HY0.out (by rw [HSK.out]; exact shift_yes (s := { s with pos := p }) (carry_none (Or.inl HOP.out)) (by show p = s.old.length; omega))
            have d1 : decide ((0 : Int) < lf) = true := decide_eq_true (by omega)
            have d1' : (0 : Int) < lf := by omega
            have hz5 : decide ((p : Int) < (n0 : Int)) = false := decide_eq_false (by omega)
            have hz5n : decide (p < n0) = false := decide_eq_false (by omega)
            rw [hn0] at c1
            have HN0 := keep hn0
            have HNYE := keep hny'
            have HHP := keep hp
            clear c0 c2 c4 c5 cf h3 h5 h6 h7 hn0 hny' hp hgo hnz hpl hj hlf h4 hpn hop hj10
            have KR2 : Kept (RD wr r b seed { s with pos := p } KV ∧ Fr w r wr r) := ⟨KR.out.1, KR.out.2.1⟩
            clear KR
            go_wp2_with fail
            go_quiet (fail)
            obtain ⟨wq, hq⟩ : ∃ x, wr.drewN nq = x := ⟨_, rfl⟩
            rw [hq]
            have RQ : Kept (RD wq r b seed { s with pos := p } KV ∧ Fr w r wq r) := by rw [← hq]; exact ⟨KR2.out.1.drewN nq, KR2.out.2.trans (Fr.of_below (below_drewN (Below.refl _ _) nq))⟩
            clear hq c1 c3
            clear hz5 hz5n d1 d1'
            obtain ⟨ao, ca, bo, cb, ko, kc, vo, vc, h3, h4, h5, h6, h7⟩ := RQ.out.1.parts
            dsimp only at h3 h4 h5
            obtain ⟨c0, c1, c2, c3, c4, c5, cf⟩ := six h3
            rw [HN0.out] at c1
            have hz5 : decide ((p : Int) < (n0 : Int)) = false := decide_eq_false (by have := HPN.out; omega)
            have hz5n : decide (p < n0) = false := decide_eq_false (by have := HPN.out; omega)
            have hz14n : (p == n0) = true := beq_iff_eq.2 HPN.out
            have hz14 : ((p : Int) == (n0 : Int)) = true := beq_iff_eq.2 (by have := HPN.out; omega)
            clear c0 c2 c4 c5 h3 h4 h5 h6 h7
            go_wp2_with fail
            go_quiet (fail)
            obtain ⟨wq2, hq⟩ : ∃ x, wq.drewN nq = x := ⟨_, rfl⟩
            rw [hq]
            have RQ2 : Kept (RD wq2 r b seed { s with pos := p } KV ∧ Fr w r wq2 r) := by rw [← hq]; exact ⟨RQ.out.1.drewN nq, RQ.out.2.trans (Fr.of_below (below_drewN (Below.refl _ _) nq))⟩
            clear hq c1 c3 cf
            obtain ⟨ao, ca, bo, cb, ko, kc, vo, vc, h3, h4, h5, h6, h7⟩ := RQ2.out.1.parts
            dsimp only at h3 h4 h5
            obtain ⟨c0, c1, c2, c3, c4, c5, cf⟩ := six h3
            rw [HN0.out] at c1
            clear c0 c2 c4 c5 h3 h4 h5 h6 h7
            go_wp2_with fail
            go_quiet (fail)
            obtain ⟨wq3, hq⟩ : ∃ x, wq2.drewN nq = x := ⟨_, rfl⟩
            rw [hq]
            have RQ3 : Kept (RD wq3 r b seed { s with pos := p } KV ∧ Fr w r wq3 r) := by rw [← hq]; exact ⟨RQ2.out.1.drewN nq, RQ2.out.2.trans (Fr.of_below (below_drewN (Below.refl _ _) nq))⟩
            clear hq c1 c3 cf
            obtain ⟨ao, ca, bo, cb, ko, kc, vo, vc, h3, h4, h5, h6, h7⟩ := RQ3.out.1.parts
            dsimp only at h3 h4 h5
            obtain ⟨c0, c1, c2, c3, c4, c5, cf⟩ := six h3
            rw [show (Dc.St.young { s with pos := p }).length = ny from HNYE.out] at c2
            obtain ⟨WZ, hWZ⟩ : ∃ x, ((wq3.setCell ⟨b, 1, none⟩ (.slice bo ny cb)).setCell ⟨b, 2, none⟩ (.slice none 0 0)).setCell ⟨b, 3, none⟩ (.int .i64 0) = x := ⟨_, rfl⟩
            obtain ⟨rz, fz⟩ := RQ3.out.1.shift c2 hWZ
            have HD2 : Kept (∃ r', RD WZ r' b seed (Dc.step h s) KV ∧ Fr w r WZ r') := ⟨_, by rw [HEQ.out]; exact rz, RQ3.out.2.trans fz⟩
            clear rz fz c0 c4 c5 h3 h4 h5 h6 h7
            go_wp2
            go_end0
            exact ⟨rfl, HD2.out⟩
        | some d =>
          cases d with
          | nil =>
            have hj10 : j = 10 := by
              by_cases e : j = 10
              · exact e
              · exact absurd ⟨by omega, hop⟩ hgo
            have hpn : p < n0 := by have := (List.getElem?_eq_some_iff.1 hop).1; omega
            have HPN := keep hpn
            have HOP := keep hop
            have HEQ : Kept (Dc.step h s = { s with pos := p }) := step_is HY0.out (by rw [HSK.out]; exact shift_no (s := { s with pos := p }) (carry_none (Or.inr HOP.out)) (by show ¬ p = s.old.length; omega))
            have hl0 : lf = 0 := by omega
            subst hl0
            rw [hn0] at c1
            have HN0 := keep hn0
            have HNYE := keep hny'
            have HHP := keep hp
            clear c0 c2 c4 c5 cf h3 h5 h6 h7 hn0 hny' hp hgo hnz hpl hj hlf h4 hpn hop hj10
            have KR2 : Kept (RD wr r b seed { s with pos := p } KV ∧ Fr w r wr r) := ⟨KR.out.1, KR.out.2.1⟩
            clear KR
            go_wp2_with fail
            go_quiet (fail)
            obtain ⟨wq, hq⟩ : ∃ x, wr.drewN nq = x := ⟨_, rfl⟩
            rw [hq]
            have RQ : Kept (RD wq r b seed { s with pos := p } KV ∧ Fr w r wq r) := by rw [← hq]; exact ⟨KR2.out.1.drewN nq, KR2.out.2.trans (Fr.of_below (below_drewN (Below.refl _ _) nq))⟩
            clear hq c1 c3
            obtain ⟨ao, ca, bo, cb, ko, kc, vo, vc, h3, h4, h5, h6, h7⟩ := RQ.out.1.parts
            dsimp only at h3 h4 h5
            obtain ⟨c0, c1, c2, c3, c4, c5, cf⟩ := six h3
            obtain ⟨g, cap, e1, hrg, hgl⟩ := h4.form (by have := HPN.out; have := HN0.out; omega)
            cases e1
            obtain ⟨v, hv, hcv, _⟩ := h4.at HOP.out
            obtain ⟨vo', vc', e2, _⟩ := hcv.tx.form
            simp only [Dc.keys, List.map_nil, List.length_nil] at e2
            subst e2
            rw [HN0.out] at c1
            have hz5 : decide ((p : Int) < (n0 : Int)) = true := decide_eq_true (by have := HPN.out; omega)
            have hz5' : (p : Int) < (n0 : Int) := by have := HPN.out; omega
            have hp0 : (0 : Int) ≤ (p : Int) := by omega
            have hz14n : (p == n0) = false := beq_eq_false_iff_ne.2 (by have := HPN.out; omega)
            have hz14 : ((p : Int) == (n0 : Int)) = false := beq_eq_false_iff_ne.2 (by have := HPN.out; omega)
            clear c0 c2 c4 c5 h3 h4 h5 h6 h7 hrg hgl hcv
            go_wp2_with fail
            go_quiet (fail)
            obtain ⟨wq2, hq⟩ : ∃ x, wq.drewN nq = x := ⟨_, rfl⟩
            rw [hq]
            have RQ2 : Kept (RD wq2 r b seed { s with pos := p } KV ∧ Fr w r wq2 r) := by rw [← hq]; exact ⟨RQ.out.1.drewN nq, RQ.out.2.trans (Fr.of_below (below_drewN (Below.refl _ _) nq))⟩
            clear hq c1 c3 cf hv
            obtain ⟨ao, ca, bo, cb, ko, kc, vo, vc, h3, h4, h5, h6, h7⟩ := RQ2.out.1.parts
            dsimp only at h3 h4 h5
            obtain ⟨c0, c1, c2, c3, c4, c5, cf⟩ := six h3
            rw [HN0.out] at c1
            clear c0 c2 c4 c5 h3 h4 h5 h6 h7
            go_wp2_with fail
            go_quiet (fail)
            obtain ⟨wq3, hq⟩ : ∃ x, wq2.drewN nq = x := ⟨_, rfl⟩
            rw [hq]
            have RQ3 : Kept (RD wq3 r b seed { s with pos := p } KV ∧ Fr w r wq3 r) := by rw [← hq]; exact ⟨RQ2.out.1.drewN nq, RQ2.out.2.trans (Fr.of_below (below_drewN (Below.refl _ _) nq))⟩
            clear hq c1 c3 cf
            have HD2 : Kept (∃ r', RD wq3 r' b seed (Dc.step h s) KV ∧ Fr w r wq3 r') := ⟨_, by rw [HEQ.out]; exact RQ3.out.1, RQ3.out.2⟩
            go_wp2
            go_end0
            exact ⟨rfl, HD2.out⟩
          | cons e d =>
            by_cases hj10 : j = 10
            · have hpn : p < n0 := by have := (List.getElem?_eq_some_iff.1 hop).1; omega
              have HPN := keep hpn
              have HOP := keep hop
              obtain ⟨m, hm⟩ : ∃ m, (Dc.keys (e :: d)).length = m := ⟨_, rfl⟩
              have HM := keep hm
              have HMP : Kept (0 < m) := by rw [← hm]; show 0 < _; simp [Dc.keys]
              have HCAR : Kept (Dc.carry h { s with pos := p } = { old := s.old.set p [], young := Dc.pour h s.young (e :: d), pos := p + 1 }) := by show Dc.carry h _ = _; unfold Dc.carry; dsimp only; rw [hop]
              have hz2 : ((m : Int) == 0) = false := beq_eq_false_iff_ne.2 (by have := HMP.out; omega)
              have hz2n : (m == 0) = false := beq_eq_false_iff_ne.2 (by have := HMP.out; omega)
              have hz5m : decide ((0 : Int) < (m : Int)) = true := decide_eq_true (by have := HMP.out; omega)
              have hz5mn : decide (0 < m) = true := decide_eq_true HMP.out
              have hz5m' : (0 : Int) < (m : Int) := by have := HMP.out; omega
              have hz5 : decide ((p : Int) < (n0 : Int)) = true := decide_eq_true (by omega)
              have hz5' : (p : Int) < (n0 : Int) := by omega
              have hp0 : (0 : Int) ≤ (p : Int) := by omega
              have HN0 := keep hn0
              have hl0 : lf = 0 := by omega
              subst hl0
              rw [hn0] at c1
              have HNYE := keep hny'
              have HHP := keep hp
              clear c0 c2 c4 c5 cf h3 h4 h5 h6 h7 hn0 hny' hp hgo hnz hpl hj hlf hpn hop hj10 hm
              have KR2 : Kept (RD wr r b seed { s with pos := p } KV ∧ Fr w r wr r) := ⟨KR.out.1, KR.out.2.1⟩
              clear KR
              go_wp2_with fail
              go_quiet (fail)
              obtain ⟨wq, hq⟩ : ∃ x, wr.drewN nq = x := ⟨_, rfl⟩
              rw [hq]
              have RQ : Kept (RD wq r b seed { s with pos := p } KV ∧ Fr w r wq r) := by rw [← hq]; exact ⟨KR2.out.1.drewN nq, KR2.out.2.trans (Fr.of_below (below_drewN (Below.refl _ _) nq))⟩
              clear hq c1 c3
              obtain ⟨ao, ca, bo, cb, ko, kc, vo, vc, h3, h4, h5, h6, h7⟩ := RQ.out.1.parts
              dsimp only at h3 h4 h5
              obtain ⟨c0, c1, c2, c3, c4, c5, cf⟩ := six h3
              obtain ⟨g, cap, e1, hrg, hgl⟩ := h4.form (by have := HPN.out; have := HN0.out; omega)
              cases e1
              obtain ⟨v, hv, hcv, hrv⟩ := h4.at HOP.out
              obtain ⟨vo', vc', e2, hvo⟩ := hcv.tx.form
              rw [show (Dc.keys (e :: d)).length = m from HM.out] at e2 hvo
              obtain ⟨gc, hgc⟩ := hvo (by have := HMP.out; omega)
              subst hgc e2
              rw [HN0.out] at c1
              clear c0 c2 c4 c5 h3 h4 h5 h6 h7 hrg hgl hcv hrv hvo
              go_wp2_with fail
              go_quiet (fail)
              obtain ⟨wq2, hq⟩ : ∃ x, wq.drewN nq = x := ⟨_, rfl⟩
              rw [hq]
              have RQ2 : Kept (RD wq2 r b seed { s with pos := p } KV ∧ Fr w r wq2 r) := by rw [← hq]; exact ⟨RQ.out.1.drewN nq, RQ.out.2.trans (Fr.of_below (below_drewN (Below.refl _ _) nq))⟩
              clear hq c1 c3 cf hv
              obtain ⟨ao, ca, bo, cb, ko, kc, vo, vc, h3, h4, h5, h6, h7⟩ := RQ2.out.1.parts
              dsimp only at h3 h4 h5
              obtain ⟨c0, c1, c2, c3, c4, c5, cf⟩ := six h3
              obtain ⟨g, cap, e1, hrg, hgl⟩ := h4.form (by have := HPN.out; have := HN0.out; omega)
              cases e1
              obtain ⟨v, hv, hcv, hrv⟩ := h4.at HOP.out
              obtain ⟨vo', vc', e2, hvo⟩ := hcv.tx.form
              rw [show (Dc.keys (e :: d)).length = m from HM.out] at e2 hvo
              obtain ⟨gc, hgc⟩ := hvo (by have := HMP.out; omega)
              subst hgc e2
              rw [HN0.out] at c1
              clear c0 c2 c4 c5 h3 h4 h5 h6 h7 hrg hgl hvo
              have HCV := keep hcv
              have HRV := keep hrv
              clear hcv hrv
              go_wp2_with fail
              go_quiet (fail)
              obtain ⟨wq3, hq⟩ : ∃ x, wq2.drewN nq = x := ⟨_, rfl⟩
              rw [hq]
              have RQ3 : Kept (RD wq3 r b seed { s with pos := p } KV ∧ Fr w r wq3 r) := by rw [← hq]; exact ⟨RQ2.out.1.drewN nq, RQ2.out.2.trans (Fr.of_below (below_drewN (Below.refl _ _) nq))⟩
              have HCV3 : Kept (Chn wq3 (.slice (some ⟨gc, 0, none⟩) m vc') (e :: d)) := by rw [← hq]; exact own_kept HCV.out (fun k e => (below_drewN (Below.refl wq2.heap.size wq2) nq).block k (own_lt HCV.out e))
              clear hq c1 c3 cf hv
              have HNYP : Kept ((Dc.pour h s.young (e :: d)).length = ny) := by show (Dc.pour h s.young (e :: d)).length = ny; rw [Dc.pour_len]; exact HNYE.out
              clear hz2 hz2n hz5m hz5mn hz5m' hz5 hz5' HCV
              go_wp2_with fail
              go_loopg [84] m (fun kx s84 wr => ∃ i : Nat, s84 = .int .i64 i ∧ i ≤ m ∧ m - i ≤ kx ∧ ∃ r', Kept (RD wr r' b seed { s with pos := p, young := Dc.pour h s.young ((e :: d).take i) } KV ∧ Fr w r wr r' ∧ Chn wr (.slice (some ⟨gc, 0, none⟩) m vc') (e :: d) ∧ ∀ k, (Value.slice (some ⟨gc, 0, none⟩) m vc').ownBlock = some k → r' k = (3, p)))
              case atStart => exact ⟨0, rfl, by omega, by omega, r, RQ3.out.1, RQ3.out.2, HCV3.out, HRV.out⟩
              case round =>
                obtain ⟨i, rfl, hi, hgi, r', KI⟩ := hrel
                by_cases him : i < m
                · obtain ⟨x, hx⟩ : ∃ x, (e :: d)[i]? = some x := ⟨_, List.getElem?_eq_getElem (by have := HM.out; simp [Dc.keys] at this; simp; omega)⟩
                  have hxk : (Dc.keys (e :: d))[i]? = some x.1 := by unfold Dc.keys; rw [List.getElem?_map, hx]; rfl
                  have cx := (KI.out.2.2.1.tx).at hxk
                  have hxs : x.1.size ≤ maxLen := HK.out x (List.mem_flatten.2 ⟨_, List.mem_of_getElem? HOP.out, List.mem_of_getElem? hx⟩)
                  have hpl : (Dc.pour h s.young ((e :: d).take i)).length = ny := by rw [Dc.pour_len]; exact HNYE.out
                  obtain ⟨ao, ca, bo, cb, ko, kc, vo, vc, h3, h4, h5, h6, h7⟩ := KI.out.1.parts
                  dsimp only at h3 h4 h5
                  obtain ⟨c0, c1, c2, c3, c4, c5, cf⟩ := six h3
                  have MP := keep (place_any hH wr b ny cb bo x.1 hxs c0 HNY.out.1 HNY.out.2)
                  obtain ⟨q, hq⟩ : ∃ q, h x.1 % ny = q := ⟨_, rfl⟩
                  have hqn : q < ny := by rw [← hq]; exact Nat.mod_lt _ HNY.out.1
                  rw [hq] at MP
                  rw [hpl] at c2
                  obtain ⟨dd, hdd⟩ : ∃ dd, (Dc.pour h s.young ((e :: d).take i))[q]? = some dd := ⟨_, List.getElem?_eq_getElem (by rw [hpl]; exact hqn)⟩
                  obtain ⟨gy, capy, e1, hrg, hgl⟩ := h5.form (by rw [hpl]; omega)
                  have hbo : bo = some ⟨gy, 0, none⟩ := by injection e1
                  subst hbo
                  obtain ⟨vb, hvb, hcb, _⟩ := h5.at hdd
                  have fz := h5.free
                  obtain ⟨vbo, vbc, e2, _⟩ := hcb.tx.form
                  obtain ⟨dl, hdl⟩ : ∃ n, (Dc.keys dd).length = n := ⟨_, rfl⟩
                  have hdb : dl ≤ 8000000000000 := by
                    have q1 := (Dc.pour_perm h ((e :: d).take i) s.young HY.out).length_eq
                    have q2 : dd.length ≤ (Dc.pour h s.young ((e :: d).take i)).flatten.length := (List.sublist_flatten_of_mem (List.mem_of_getElem? hdd)).length_le
                    have q3 : (e :: d).length ≤ s.old.flatten.length := (List.sublist_flatten_of_mem (List.mem_of_getElem? HOP.out)).length_le
                    have q4 := HL.out
                    have q5 : ((e :: d).take i).length ≤ (e :: d).length := by rw [List.length_take]; omega
                    rw [List.length_append] at q1
                    simp only [Dc.keys, List.length_map] at hdl
                    omega
                  have mA := ahead_any wr.drew x.1 vb (Dc.keys dd) (hcb.tx.bel (Below.refl _ wr).drew) (by rw [hdl]; exact hdb)
                  rw [hdl] at e2
                  subst e2
                  have MA := keep mA
                  have hst : Dc.pour h s.young ((e :: d).take (i + 1)) = (Dc.pour h s.young ((e :: d).take i)).set q (x :: dd) := by
                    rw [List.take_add_one, hx]
                    show Dc.pour h s.young (_ ++ [x]) = _
                    rw [pour_snoc, push_is (c := dd) (by rw [hpl, hq]; exact hdd), hpl, hq]
                  have HNX : Kept (∀ w8 u W9, Mine wr.drew w8 u (x.1 :: Dc.keys dd) → w8.setCell ⟨gy, q, none⟩ u = W9 → (w8.cell? ⟨b, 2, none⟩ = some (.slice (some ⟨gy, 0, none⟩) ny cb) ∧ W9.cell? ⟨b, 2, none⟩ = some (.slice (some ⟨gy, 0, none⟩) ny cb)) ∧ w8.cell? ⟨gy, q, none⟩ = some (.slice vbo dl vbc) ∧ (∀ k, w8.frozen? ⟨gy, k, none⟩ = false) ∧ ∃ r9, RD W9 r9 b seed { s with pos := p, young := Dc.pour h s.young ((e :: d).take (i + 1)) } KV ∧ Fr w r W9 r9 ∧ Chn W9 (.slice (some ⟨gc, 0, none⟩) m vc') (e :: d) ∧ ∀ k, (Value.slice (some ⟨gc, 0, none⟩) m vc').ownBlock = some k → r9 k = (3, p)) := fun w8 u W9 hm hW9 => by
                    have hb8 : Below wr.heap.size wr w8 := (Below.refl _ wr).drew.trans hm.2.2
                    have h5' := h5
                    rw [hpl] at h5'
                    obtain ⟨t1, t2⟩ := KI.out.1.put1 (i := q) (c := dd) (c' := x :: dd) c2 h5' hdd hb8 hm.1 hm.2.1 hW9
                    have hbg : b ≠ gy := fun e => by have h1 := KI.out.1.2.1; rw [e, hrg] at h1; cases h1
                    have k2 := (hb8.cell (p := ⟨b, 2, none⟩) (World.block_lt_of_cell? _ _ c2)).trans c2
                    refine ⟨⟨k2, by rw [← hW9, World.cell?_setCell_other _ _ _ _ (by intro e; cases e; exact hbg rfl)]; exact k2⟩, (hb8.cell (p := ⟨gy, q, none⟩) (World.block_lt_of_cell? _ _ hvb)).trans hvb, fun k => (World.frozen?_of_block (w := wr) (a := ⟨gy, k, none⟩) (hb8.block gy hgl)).trans (fz k), _, by rw [hst]; exact t1, KI.out.2.1.trans t2.1, ?_, ?_⟩
                    · refine own_kept KI.out.2.2.1 (fun k hk => (t2.2 k (own_lt KI.out.2.2.1 hk) ?_ ?_).1) <;> rw [KI.out.2.2.2 k hk] <;> simp
                    · intro k hk
                      rw [(t2.2 k (own_lt KI.out.2.2.1 hk) (by rw [KI.out.2.2.2 k hk]; simp) (by rw [KI.out.2.2.2 k hk]; simp)).2]
                      exact KI.out.2.2.2 k hk
                  have SY : Kept (wr.drew.cell? ⟨b, 2, none⟩ = some (.slice (some ⟨gy, 0, none⟩) ny cb)) := c2
                  have hvb' : wr.drew.cell? ⟨gy, q, none⟩ = some (.slice vbo dl vbc) := hvb
                  have i0 : (0 : Int) ≤ (i : Int) := by omega
                  have i1 : (i : Int) < (m : Int) := by omega
                  have q0 : (0 : Int) ≤ (q : Int) := by omega
                  have q1 : (q : Int) < (ny : Int) := by omega
                  have HIM := keep him
                  have hwi : IntKind.i64.wrap ((i : Int) + 1) = (i : Int) + 1 := by
                    have q3 : (e :: d).length ≤ s.old.flatten.length := (List.sublist_flatten_of_mem (List.mem_of_getElem? HOP.out)).length_le
                    have q4 := HL.out
                    have q5 := HM.out
                    simp only [Dc.keys, List.length_map] at q5
                    rw [IntKind.wrap_i64]; omega
                  obtain ⟨x1, x2⟩ := x
                  dsimp only at *
                  clear c0 c1 c3 c4 c5 cf h3 h4 h5 h6 h7 hx hxk hxs hpl hq hqn hdd hrg hgl hcb fz e1 hdl hdb mA hst KI him
                  go_wp2_with fail
                  refine MP.out.mono ?_
                  rintro _ _ ⟨rfl, hw⟩
                  obtain rfl := hw.symm
                  clear MP cx
                  go_wp2_with fail
                  refine wp_region_held_drew (S := fun W => W.cell? ⟨b, 2, none⟩ = some (.slice (some ⟨gy, 0, none⟩) ny cb)) (by kernel_rfl) SY.out (fun hHeld => ?_)
                  refine wpAnyH_take (i := 0) (oi := { dst := some 95, op := _, type := _, pos := _, after := _, guard := _ }) (v := ?v1) rfl (by kernel_rfl) (by kernel_rfl) (by kernel_rfl) (fun _ _ _ h => h) (Or.inl ⟨by rfl, ?hy1⟩) (by assumption) ?rest1
                  case hy1 => (intro w hSw; obtain p0 := hSw; go_simp; try with_reducible rfl)
                  try simp only [Act.put, List.setIfInBounds_toArray, List.set_cons_zero, List.set_cons_succ]
                  refine wpAnyH_take (i := 1) (oi := { dst := some 96, op := _, type := _, pos := _, after := _, guard := _ }) (v := ?v2) rfl (by kernel_rfl) (by kernel_rfl) (by kernel_rfl) (fun _ _ _ h => h) (Or.inl ⟨by rfl, ?hy2⟩) (by assumption) ?rest2
                  case hy2 => (intro w hSw; obtain p0 := hSw; go_simp; try with_reducible rfl)
                  try simp only [Act.put, List.setIfInBounds_toArray, List.set_cons_zero, List.set_cons_succ]
                  refine wpAnyH_take (i := 2) (oi := { dst := some 97, op := _, type := _, pos := _, after := _, guard := _ }) (v := ?v3) rfl (by kernel_rfl) (by kernel_rfl) (by kernel_rfl) (fun _ _ _ h => h) (Or.inl ⟨by rfl, ?hy3⟩) (by assumption) ?rest3
                  case hy3 => (intro w hSw; obtain p0 := hSw; go_simp; try with_reducible rfl)
                  try simp only [Act.put, List.setIfInBounds_toArray, List.set_cons_zero, List.set_cons_succ]
                  refine wpAnyH_take (i := 3) (oi := { dst := some 98, op := _, type := _, pos := _, after := _, guard := _ }) (v := (.slice (some ⟨gy, 0, none⟩) ny cb)) rfl (by kernel_rfl) (by kernel_rfl) (by kernel_rfl) (fun _ _ _ h => h) (Or.inl ⟨by rfl, ?hy4⟩) (by assumption) ?rest4
                  case hy4 => (intro w hSw; obtain p0 := hSw; first | (go_simp; done) | (go_simp; simp [*]; done) | (simp [*]; go_simp; done))
                  try simp only [Act.put, List.setIfInBounds_toArray, List.set_cons_zero, List.set_cons_succ]
                  refine wpAnyH_take (i := 4) (oi := { dst := some 99, op := _, type := _, pos := _, after := _, guard := _ }) (v := ?v5) rfl (by kernel_rfl) (by kernel_rfl) (by kernel_rfl) (fun _ _ _ h => h) (Or.inl ⟨by rfl, ?hy5⟩) (by assumption) ?rest5
                  case hy5 => (intro w hSw; obtain p0 := hSw; go_simp; try with_reducible rfl)
                  try simp only [Act.put, List.setIfInBounds_toArray, List.set_cons_zero, List.set_cons_succ]
                  refine wpAnyH_take (i := 5) (oi := { dst := some 100, op := _, type := _, pos := _, after := _, guard := _ }) (v := ?v6) rfl (by kernel_rfl) (by kernel_rfl) (by kernel_rfl) (fun _ _ _ h => h) (Or.inl ⟨by rfl, ?hy6⟩) (by assumption) ?rest6
                  case hy6 => (intro w hSw; obtain p0 := hSw; go_simp; try with_reducible rfl)
                  try simp only [Act.put, List.setIfInBounds_toArray, List.set_cons_zero, List.set_cons_succ]
                  refine wpAnyH_take (i := 6) (oi := { dst := some 101, op := _, type := _, pos := _, after := _, guard := _ }) (v := ?v7) rfl (by kernel_rfl) (by kernel_rfl) (by kernel_rfl) (fun _ _ _ h => h) (Or.inl ⟨by rfl, ?hy7⟩) (by assumption) ?rest7
                  case hy7 => (intro w hSw; obtain p0 := hSw; go_simp; try with_reducible rfl)
                  try simp only [Act.put, List.setIfInBounds_toArray, List.set_cons_zero, List.set_cons_succ]
                  refine wpAnyH_take (i := 7) (oi := { dst := some 102, op := _, type := _, pos := _, after := _, guard := _ }) (v := ?v8) rfl (by kernel_rfl) (by kernel_rfl) (by kernel_rfl) (fun _ _ _ h => h) (Or.inl ⟨by rfl, ?hy8⟩) (by assumption) ?rest8
                  case hy8 => (intro w hSw; obtain p0 := hSw; go_simp; try with_reducible rfl)
                  try simp only [Act.put, List.setIfInBounds_toArray, List.set_cons_zero, List.set_cons_succ]
                  refine wpAnyH_take (i := 8) (oi := { dst := some 103, op := _, type := _, pos := _, after := _, guard := _ }) (v := ?v9) rfl (by kernel_rfl) (by kernel_rfl) (by kernel_rfl) (fun _ _ _ h => h) (Or.inl ⟨by rfl, ?hy9⟩) (by assumption) ?rest9
                  case hy9 => (intro w hSw; obtain p0 := hSw; go_simp; try with_reducible rfl)
                  try simp only [Act.put, List.setIfInBounds_toArray, List.set_cons_zero, List.set_cons_succ]
                  refine wpAnyH_take (i := 9) (oi := { dst := some 104, op := _, type := _, pos := _, after := _, guard := _ }) (v := (.slice (some ⟨gy, 0, none⟩) ny cb)) rfl (by kernel_rfl) (by kernel_rfl) (by kernel_rfl) (fun _ _ _ h => h) (Or.inl ⟨by rfl, ?hy10⟩) (by assumption) ?rest10
                  case hy10 => (intro w hSw; obtain p0 := hSw; first | (go_simp; done) | (go_simp; simp [*]; done) | (simp [*]; go_simp; done))
                  try simp only [Act.put, List.setIfInBounds_toArray, List.set_cons_zero, List.set_cons_succ]
                  refine wpAnyH_take (i := 10) (oi := { dst := some 105, op := _, type := _, pos := _, after := _, guard := _ }) (v := ?v11) rfl (by kernel_rfl) (by kernel_rfl) (by kernel_rfl) (fun _ _ _ h => h) (Or.inl ⟨by rfl, ?hy11⟩) (by assumption) ?rest11
                  case hy11 => (intro w hSw; obtain p0 := hSw; go_simp; try with_reducible rfl)
                  try simp only [Act.put, List.setIfInBounds_toArray, List.set_cons_zero, List.set_cons_succ]
                  refine wpAnyH_take (i := 11) (oi := { dst := some 106, op := _, type := _, pos := _, after := _, guard := _ }) (v := (.pointer (some ⟨gy, q, none⟩))) rfl (by kernel_rfl) (by kernel_rfl) (by kernel_rfl) (fun _ _ _ h => h) (Or.inl ⟨by rfl, ?hy12⟩) (by assumption) ?rest12
                  case hy12 => (intro w hSw; obtain p0 := hSw; first | (go_simp; done) | (go_simp; simp [*]; done) | (simp [*]; go_simp; done))
                  try simp only [Act.put, List.setIfInBounds_toArray, List.set_cons_zero, List.set_cons_succ]
                  refine wpAnyH_ready (rs := [12]) (by kernel_rfl) (by simp) ?_
                  refine AllReadyH.cons (o := { dst := some 107, op := _, type := _, pos := _, after := _, guard := _ }) rfl (fun K hK => ?_) AllReadyH.nil
                  go_simp
                  refine hK.out _ _ SY.out (fun hHeld => ?_)
                  try simp only [Act.put, List.setIfInBounds_toArray, List.set_cons_zero, List.set_cons_succ]
                  clear hK
                  refine wpAnyH_ready (rs := [13]) (by kernel_rfl) (by simp) ?_
                  refine AllReadyH.cons (o := { dst := some 108, op := _, type := _, pos := _, after := _, guard := _ }) rfl (fun K hK => ?_) AllReadyH.nil
                  go_simp
                  refine MA.out.mono ?_
                  rintro _ w8 ⟨u, rfl, hu⟩
                  obtain ⟨uo, un, uc, rfl⟩ := mine_slice hu
                  obtain ⟨W9, hW9⟩ : ∃ x, w8.setCell ⟨gy, q, none⟩ (.slice uo un uc) = x := ⟨_, rfl⟩
                  obtain ⟨⟨y1, y2⟩, y3, y4, r9, y5⟩ := HNX.out w8 _ W9 hu hW9
                  have Y1 := keep y1
                  have Y2 := keep y2
                  have K9 := keep y5
                  refine hK.out _ _ Y1.out (fun hHeld => ?_)
                  try simp only [Act.put, List.setIfInBounds_toArray, List.set_cons_zero, List.set_cons_succ]
                  clear hK MA HNX hu y1 y2 y5 hvb hvb'
                  refine wpAnyH_take (i := 14) (oi := { dst := some 109, op := _, type := _, pos := _, after := _, guard := _ }) (v := (.pointer (some ⟨gy, q, none⟩))) rfl (by kernel_rfl) (by kernel_rfl) (by kernel_rfl) (fun _ _ _ h => h) (Or.inl ⟨by rfl, ?hy13⟩) (by assumption) ?rest13
                  case hy13 => (intro w hSw; obtain p0 := hSw; first | (go_simp; done) | (go_simp; simp [*]; done) | (simp [*]; go_simp; done))
                  try simp only [Act.put, List.setIfInBounds_toArray, List.set_cons_zero, List.set_cons_succ]
                  refine wpAnyH_ready (rs := [15]) (by kernel_rfl) (by simp) ?_
                  refine AllReadyH.cons (o := { dst := none, op := _, type := _, pos := _, after := _, guard := _ }) rfl (fun K hK => ?_) AllReadyH.nil
                  go_simp
                  try rw [hW9]
                  refine hK.out _ _ Y2.out (fun hHeld => ?_)
                  try simp only [Act.put, List.setIfInBounds_toArray, List.set_cons_zero, List.set_cons_succ]
                  clear hK y3 y4
                  refine wpAnyH_done (by kernel_rfl) ?_ _
                  clear hHeld
                  go_wp2
                  go_roundg (m - (i + 1))
                  case measure => have := HIM.out; omega
                  case rel => exact ⟨i + 1, by simp, HIM.out, Nat.le_refl _, r9, K9.out⟩
                · obtain rfl : i = m := by omega
                  have KF : Kept (RD wr r' b seed { s with pos := p, young := Dc.pour h s.young (e :: d) } KV ∧ Fr w r wr r') := by
                    have h1 := KI.out.1
                    rw [List.take_of_length_le (by have := HM.out; simp only [Dc.keys, List.length_map] at this; omega)] at h1
                    exact ⟨h1, KI.out.2.1⟩
                  clear KI
                  obtain ⟨ao, ca, bo, cb, ko, kc, vo, vc, h3, h4, h5, h6, h7⟩ := KF.out.1.parts
                  dsimp only at h3 h4 h5
                  obtain ⟨c0, c1, c2, c3, c4, c5, cf⟩ := six h3
                  obtain ⟨g0, cap0, e1, hrg, hgl⟩ := h4.form (by have := HPN.out; have := HN0.out; omega)
                  have hao : ao = some ⟨g0, 0, none⟩ := by injection e1
                  subst hao
                  obtain ⟨v0, hv0, _, _⟩ := h4.at HOP.out
                  have fz := h4.free
                  rw [HN0.out] at c1
                  have SZ : Kept (wr.drew.cell? ⟨b, 1, none⟩ = some (.slice (some ⟨g0, 0, none⟩) n0 ca) ∧ wr.drew.cell? ⟨b, 3, none⟩ = some (.int .i64 (p : Int))) := ⟨c1, c3⟩
                  obtain ⟨W12, hW12⟩ : ∃ x, wr.drew.setCell ⟨g0, p, none⟩ (.slice none 0 0) = x := ⟨_, rfl⟩
                  have h4' := h4
                  rw [HN0.out] at h4'
                  have rdd : RD wr.drew r' b seed { s with pos := p, young := Dc.pour h s.young (e :: d) } KV := KF.out.1.below (Below.refl _ wr).drew
                  obtain ⟨t1, t2⟩ := rdd.put0 (i := p) (c := e :: d) (c' := []) (w1 := wr.drew) (u := .slice none 0 0) c1 (show Tb wr.drew r' 0 _ s.old from h4'.kept (fun k hl hr => ⟨rfl, rfl⟩)) HOP.out (Below.refl _ _) ⟨rfl, .inl ⟨rfl, rfl⟩⟩ (fun k hk => by cases hk) hW12
                  have K12 : Kept (RD W12 (role r' (.slice none 0 0) (3, p)) b seed { old := s.old.set p [], young := Dc.pour h s.young (e :: d), pos := p } KV ∧ Fr w r W12 (role r' (.slice none 0 0) (3, p))) := ⟨t1, KF.out.2.trans ((Fr.of_below (Below.refl _ wr).drew).trans t2.1)⟩
                  obtain ⟨W13, hW13⟩ : ∃ x, W12.setCell ⟨b, 3, none⟩ (.int .i64 ((p : Int) + 1)) = x := ⟨_, rfl⟩
                  obtain ⟨t3, t4, _⟩ := K12.out.1.setp (p + 1) hW13
                  have K13 : Kept (RD W13 (role r' (.slice none 0 0) (3, p)) b seed { old := s.old.set p [], young := Dc.pour h s.young (e :: d), pos := p + 1 } KV ∧ Fr w r W13 (role r' (.slice none 0 0) (3, p))) := ⟨t3, K12.out.2.trans t4⟩
                  obtain ⟨ao2, ca2, bo2, cb2, ko2, kc2, vo2, vc2, g3, _⟩ := K12.out.1.parts
                  dsimp only at g3
                  obtain ⟨_, d1, _, d3, _, _, df⟩ := six g3
                  rw [List.length_set, HN0.out] at d1
                  have hbg : b ≠ g0 := fun e => by have h1 := KF.out.1.2.1; rw [e, hrg] at h1; cases h1
                  have k1 : W12.cell? ⟨b, 1, none⟩ = some (.slice (some ⟨g0, 0, none⟩) n0 ca) := by rw [← hW12, World.cell?_setCell_other _ _ _ _ (by intro e; cases e; exact hbg rfl)]; exact c1
                  have SZ2 : Kept (W12.cell? ⟨b, 1, none⟩ = some (.slice (some ⟨g0, 0, none⟩) n0 ca) ∧ W12.cell? ⟨b, 3, none⟩ = some (.int .i64 (p : Int))) := ⟨k1, d3⟩
                  have hv0' : wr.drew.cell? ⟨g0, p, none⟩ = some v0 := hv0
                  have fz' : ∀ k, wr.drew.frozen? ⟨g0, k, none⟩ = false := fun k => fz k
                  have hwp : IntKind.i64.wrap ((p : Int) + 1) = (p : Int) + 1 := by have := HM0.out; have := HPN.out; have := HN0.out; unfold maxLen at *; rw [IntKind.wrap_i64]; omega
                  have hpn' : (p : Int) < (n0 : Int) := by have := HPN.out; omega
                  clear c0 c1 c2 c3 c4 c5 cf h3 h4 h5 h6 h7 h4' e1 hrg hgl t1 t2 t3 t4 g3 rdd d1 hbg k1
                  go_wp2_with fail
                  refine wp_region_held_drew (S := fun W => W.cell? ⟨b, 1, none⟩ = some (.slice (some ⟨g0, 0, none⟩) n0 ca) ∧ W.cell? ⟨b, 3, none⟩ = some (.int .i64 (p : Int))) (by kernel_rfl) SZ.out (fun hHeld => ?_)
                  refine wpAnyH_take (i := 0) (oi := { dst := some 111, op := _, type := _, pos := _, after := _, guard := _ }) (v := ?v14) rfl (by kernel_rfl) (by kernel_rfl) (by kernel_rfl) (fun _ _ _ h => h) (Or.inl ⟨by rfl, ?hy14⟩) (by assumption) ?rest14
                  case hy14 => (intro w hSw; obtain ⟨p0,p1⟩ := hSw; go_simp; try with_reducible rfl)
                  try simp only [Act.put, List.setIfInBounds_toArray, List.set_cons_zero, List.set_cons_succ]
                  refine wpAnyH_take (i := 1) (oi := { dst := some 112, op := _, type := _, pos := _, after := _, guard := _ }) (v := ?v15) rfl (by kernel_rfl) (by kernel_rfl) (by kernel_rfl) (fun _ _ _ h => h) (Or.inl ⟨by rfl, ?hy15⟩) (by assumption) ?rest15
                  case hy15 => (intro w hSw; obtain ⟨p0,p1⟩ := hSw; go_simp; try with_reducible rfl)
                  try simp only [Act.put, List.setIfInBounds_toArray, List.set_cons_zero, List.set_cons_succ]
                  refine wpAnyH_take (i := 2) (oi := { dst := some 113, op := _, type := _, pos := _, after := _, guard := _ }) (v := ?v16) rfl (by kernel_rfl) (by kernel_rfl) (by kernel_rfl) (fun _ _ _ h => h) (Or.inl ⟨by rfl, ?hy16⟩) (by assumption) ?rest16
                  case hy16 => (intro w hSw; obtain ⟨p0,p1⟩ := hSw; go_simp; try with_reducible rfl)
                  try simp only [Act.put, List.setIfInBounds_toArray, List.set_cons_zero, List.set_cons_succ]
                  refine wpAnyH_take (i := 3) (oi := { dst := some 114, op := _, type := _, pos := _, after := _, guard := _ }) (v := (.slice (some ⟨g0, 0, none⟩) n0 ca)) rfl (by kernel_rfl) (by kernel_rfl) (by kernel_rfl) (fun _ _ _ h => h) (Or.inl ⟨by rfl, ?hy17⟩) (by assumption) ?rest17
                  case hy17 => (intro w hSw; obtain ⟨p0,p1⟩ := hSw; first | (go_simp; done) | (go_simp; simp [*]; done) | (simp [*]; go_simp; done))
                  try simp only [Act.put, List.setIfInBounds_toArray, List.set_cons_zero, List.set_cons_succ]
                  refine wpAnyH_take (i := 4) (oi := { dst := some 115, op := _, type := _, pos := _, after := _, guard := _ }) (v := ?v18) rfl (by kernel_rfl) (by kernel_rfl) (by kernel_rfl) (fun _ _ _ h => h) (Or.inl ⟨by rfl, ?hy18⟩) (by assumption) ?rest18
                  case hy18 => (intro w hSw; obtain ⟨p0,p1⟩ := hSw; go_simp; try with_reducible rfl)
                  try simp only [Act.put, List.setIfInBounds_toArray, List.set_cons_zero, List.set_cons_succ]
                  refine wpAnyH_take (i := 5) (oi := { dst := some 116, op := _, type := _, pos := _, after := _, guard := _ }) (v := ?v19) rfl (by kernel_rfl) (by kernel_rfl) (by kernel_rfl) (fun _ _ _ h => h) (Or.inl ⟨by rfl, ?hy19⟩) (by assumption) ?rest19
                  case hy19 => (intro w hSw; obtain ⟨p0,p1⟩ := hSw; go_simp; try with_reducible rfl)
                  try simp only [Act.put, List.setIfInBounds_toArray, List.set_cons_zero, List.set_cons_succ]
                  refine wpAnyH_take (i := 6) (oi := { dst := some 117, op := _, type := _, pos := _, after := _, guard := _ }) (v := ?v20) rfl (by kernel_rfl) (by kernel_rfl) (by kernel_rfl) (fun _ _ _ h => h) (Or.inl ⟨by rfl, ?hy20⟩) (by assumption) ?rest20
                  case hy20 => (intro w hSw; obtain ⟨p0,p1⟩ := hSw; go_simp; try with_reducible rfl)
                  try simp only [Act.put, List.setIfInBounds_toArray, List.set_cons_zero, List.set_cons_succ]
                  refine wpAnyH_take (i := 7) (oi := { dst := some 118, op := _, type := _, pos := _, after := _, guard := _ }) (v := (.int .i64 (p : Int))) rfl (by kernel_rfl) (by kernel_rfl) (by kernel_rfl) (fun _ _ _ h => h) (Or.inl ⟨by rfl, ?hy21⟩) (by assumption) ?rest21
                  case hy21 => (intro w hSw; obtain ⟨p0,p1⟩ := hSw; first | (go_simp; done) | (go_simp; simp [*]; done) | (simp [*]; go_simp; done))
                  try simp only [Act.put, List.setIfInBounds_toArray, List.set_cons_zero, List.set_cons_succ]
                  refine wpAnyH_take (i := 8) (oi := { dst := some 119, op := _, type := _, pos := _, after := _, guard := _ }) (v := (.pointer (some ⟨g0, p, none⟩))) rfl (by kernel_rfl) (by kernel_rfl) (by kernel_rfl) (fun _ _ _ h => h) (Or.inl ⟨by rfl, ?hy22⟩) (by assumption) ?rest22
                  case hy22 => (intro w hSw; obtain ⟨p0,p1⟩ := hSw; first | (go_simp; done) | (go_simp; simp [*]; done) | (simp [*]; go_simp; done))
                  try simp only [Act.put, List.setIfInBounds_toArray, List.set_cons_zero, List.set_cons_succ]
                  refine wpAnyH_ready (rs := [9]) (by kernel_rfl) (by simp) ?_
                  refine AllReadyH.cons (o := { dst := none, op := _, type := _, pos := _, after := _, guard := _ }) rfl (fun K hK => ?_) AllReadyH.nil
                  go_simp
                  try rw [hW12]
                  refine hK.out _ _ SZ2.out (fun hHeld => ?_)
                  try simp only [Act.put, List.setIfInBounds_toArray, List.set_cons_zero, List.set_cons_succ]
                  clear hK hv0 hv0' fz fz'
                  refine wpAnyH_done (by kernel_rfl) ?_ _
                  clear hHeld
                  go_wp2_with fail
                  try rw [hW13]
                  obtain ⟨ao, ca, bo, cb, ko, kc, vo, vc, h3, h4, h5, h6, h7⟩ := K13.out.1.parts
                  dsimp only at h3 h4 h5
                  obtain ⟨c0, c1, c2, c3, c4, c5, cf⟩ := six h3
                  rw [List.length_set, HN0.out] at c1
                  by_cases hend : p + 1 = n0
                  · have hz14 : (((p + 1 : Nat) : Int) == (n0 : Int)) = true := beq_iff_eq.2 (by omega)
                    have hz14' : ((p : Int) + 1 == (n0 : Int)) = true := beq_iff_eq.2 (by omega)
                    have HEQ : Kept (Dc.step h s = { old := Dc.pour h s.young (e :: d), young := [], pos := 0 }) := step_is HY0.out (by rw [HSK.out]; exact shift_yes (s := { old := s.old.set p [], young := Dc.pour h s.young (e :: d), pos := p + 1 }) HCAR.out (by show p + 1 = (s.old.set p []).length; rw [List.length_set, HN0.out]; exact hend))
                    clear c0 c2 c4 c5 h3 h4 h5 h6 h7 hend
                    go_wp2_with fail
                    go_quiet (fail)
                    obtain ⟨wq4, hq⟩ : ∃ x, W13.drewN nq = x := ⟨_, rfl⟩
                    rw [hq]
                    have RQ4 : Kept (RD wq4 (role r' (.slice none 0 0) (3, p)) b seed { old := s.old.set p [], young := Dc.pour h s.young (e :: d), pos := p + 1 } KV ∧ Fr w r wq4 (role r' (.slice none 0 0) (3, p))) := by rw [← hq]; exact ⟨K13.out.1.drewN nq, K13.out.2.trans (Fr.of_below (below_drewN (Below.refl _ _) nq))⟩
                    clear hq c1 c3 cf
                    obtain ⟨ao, ca, bo, cb, ko, kc, vo, vc, h3, h4, h5, h6, h7⟩ := RQ4.out.1.parts
                    dsimp only at h3 h4 h5
                    obtain ⟨c0, c1, c2, c3, c4, c5, cf⟩ := six h3
                    rw [show (Dc.St.young { old := s.old.set p [], young := Dc.pour h s.young (e :: d), pos := p + 1 }).length = ny from HNYP.out] at c2
                    obtain ⟨WZ, hWZ⟩ : ∃ x, ((wq4.setCell ⟨b, 1, none⟩ (.slice bo ny cb)).setCell ⟨b, 2, none⟩ (.slice none 0 0)).setCell ⟨b, 3, none⟩ (.int .i64 0) = x := ⟨_, rfl⟩
                    obtain ⟨rz, fz⟩ := RQ4.out.1.shift c2 hWZ
                    have HD2 : Kept (∃ r', RD WZ r' b seed (Dc.step h s) KV ∧ Fr w r WZ r') := ⟨_, by rw [HEQ.out]; exact rz, RQ4.out.2.trans fz⟩
                    clear rz fz c0 c4 c5 h3 h4 h5 h6 h7
                    go_wp2
                    go_end0
                    exact ⟨rfl, HD2.out⟩
                  · have hz14 : (((p + 1 : Nat) : Int) == (n0 : Int)) = false := beq_eq_false_iff_ne.2 (by omega)
                    have hz14' : ((p : Int) + 1 == (n0 : Int)) = false := beq_eq_false_iff_ne.2 (by omega)
                    have HEQ : Kept (Dc.step h s = { old := s.old.set p [], young := Dc.pour h s.young (e :: d), pos := p + 1 }) := step_is HY0.out (by rw [HSK.out]; exact shift_no (s := { old := s.old.set p [], young := Dc.pour h s.young (e :: d), pos := p + 1 }) HCAR.out (by show ¬ p + 1 = (s.old.set p []).length; rw [List.length_set, HN0.out]; exact hend))
                    clear c0 c2 c4 c5 h3 h4 h5 h6 h7 hend
                    go_wp2_with fail
                    go_quiet (fail)
                    obtain ⟨wq4, hq⟩ : ∃ x, W13.drewN nq = x := ⟨_, rfl⟩
                    rw [hq]
                    have RQ4 : Kept (RD wq4 (role r' (.slice none 0 0) (3, p)) b seed { old := s.old.set p [], young := Dc.pour h s.young (e :: d), pos := p + 1 } KV ∧ Fr w r wq4 (role r' (.slice none 0 0) (3, p))) := by rw [← hq]; exact ⟨K13.out.1.drewN nq, K13.out.2.trans (Fr.of_below (below_drewN (Below.refl _ _) nq))⟩
                    clear hq c1 c3 cf
                    have HD2 : Kept (∃ r', RD wq4 r' b seed (Dc.step h s) KV ∧ Fr w r wq4 r') := ⟨_, by rw [HEQ.out]; exact RQ4.out.1, RQ4.out.2⟩
                    go_wp2
                    go_end0
                    exact ⟨rfl, HD2.out⟩
            · have hpn : p < n0 := by have := (List.getElem?_eq_some_iff.1 hop).1; omega
              have HPN := keep hpn
              have HOP := keep hop
              obtain ⟨m, hm⟩ : ∃ m, (Dc.keys (e :: d)).length = m := ⟨_, rfl⟩
              have HM := keep hm
              have HMP : Kept (0 < m) := by rw [← hm]; show 0 < _; simp [Dc.keys]
              have HCAR : Kept (Dc.carry h { s with pos := p } = { old := s.old.set p [], young := Dc.pour h s.young (e :: d), pos := p + 1 }) := by show Dc.carry h _ = _; unfold Dc.carry; dsimp only; rw [hop]
              have hz2 : ((m : Int) == 0) = false := beq_eq_false_iff_ne.2 (by have := HMP.out; omega)
              have hz2n : (m == 0) = false := beq_eq_false_iff_ne.2 (by have := HMP.out; omega)
              have hz5m : decide ((0 : Int) < (m : Int)) = true := decide_eq_true (by have := HMP.out; omega)
              have hz5mn : decide (0 < m) = true := decide_eq_true HMP.out
              have hz5m' : (0 : Int) < (m : Int) := by have := HMP.out; omega
              have hz5 : decide ((p : Int) < (n0 : Int)) = true := decide_eq_true (by omega)
              have hz5' : (p : Int) < (n0 : Int) := by omega
              have hp0 : (0 : Int) ≤ (p : Int) := by omega
              have HN0 := keep hn0
              have d1 : decide ((0 : Int) < lf) = true := decide_eq_true (by omega)
              have d1' : (0 : Int) < lf := by omega
              obtain ⟨g, cap, e1, hrg, hgl⟩ := h4.form (by have := HPN.out; have := HN0.out; omega)
              cases e1
              obtain ⟨v, hv, hcv, hrv⟩ := h4.at HOP.out
              obtain ⟨vo', vc', e2, hvo⟩ := hcv.tx.form
              rw [show (Dc.keys (e :: d)).length = m from HM.out] at e2 hvo
              obtain ⟨gc, hgc⟩ := hvo (by have := HMP.out; omega)
              subst hgc e2
              rw [HN0.out] at c1
              have HNYE := keep hny'
              have HHP := keep hp
              clear c0 c2 c4 c5 cf h3 h4 h5 h6 h7 hn0 hny' hp hgo hnz hpl hj hlf hpn hop hj10 hm hcv hrv hrg hgl hvo
              have KR2 : Kept (RD wr r b seed { s with pos := p } KV ∧ Fr w r wr r) := ⟨KR.out.1, KR.out.2.1⟩
              clear KR
              go_wp2_with fail
              go_quiet (fail)
              obtain ⟨wq, hq⟩ : ∃ x, wr.drewN nq = x := ⟨_, rfl⟩
              rw [hq]
              have RQ : Kept (RD wq r b seed { s with pos := p } KV ∧ Fr w r wq r) := by rw [← hq]; exact ⟨KR2.out.1.drewN nq, KR2.out.2.trans (Fr.of_below (below_drewN (Below.refl _ _) nq))⟩
              clear hq c1 c3 hv d1 d1'
              obtain ⟨ao, ca, bo, cb, ko, kc, vo, vc, h3, h4, h5, h6, h7⟩ := RQ.out.1.parts
              dsimp only at h3 h4 h5
              obtain ⟨c0, c1, c2, c3, c4, c5, cf⟩ := six h3
              obtain ⟨g, cap, e1, hrg, hgl⟩ := h4.form (by have := HPN.out; have := HN0.out; omega)
              cases e1
              obtain ⟨v, hv, hcv, hrv⟩ := h4.at HOP.out
              obtain ⟨vo', vc', e2, hvo⟩ := hcv.tx.form
              rw [show (Dc.keys (e :: d)).length = m from HM.out] at e2 hvo
              obtain ⟨gc, hgc⟩ := hvo (by have := HMP.out; omega)
              subst hgc e2
              rw [HN0.out] at c1
              clear c0 c2 c4 c5 h3 h4 h5 h6 h7 hrg hgl hcv hrv hvo
              go_wp2_with fail
              go_quiet (fail)
              obtain ⟨wq2, hq⟩ : ∃ x, wq.drewN nq = x := ⟨_, rfl⟩
              rw [hq]
              have RQ2 : Kept (RD wq2 r b seed { s with pos := p } KV ∧ Fr w r wq2 r) := by rw [← hq]; exact ⟨RQ.out.1.drewN nq, RQ.out.2.trans (Fr.of_below (below_drewN (Below.refl _ _) nq))⟩
              clear hq c1 c3 cf hv
              obtain ⟨ao, ca, bo, cb, ko, kc, vo, vc, h3, h4, h5, h6, h7⟩ := RQ2.out.1.parts
              dsimp only at h3 h4 h5
              obtain ⟨c0, c1, c2, c3, c4, c5, cf⟩ := six h3
              obtain ⟨g, cap, e1, hrg, hgl⟩ := h4.form (by have := HPN.out; have := HN0.out; omega)
              cases e1
              obtain ⟨v, hv, hcv, hrv⟩ := h4.at HOP.out
              obtain ⟨vo', vc', e2, hvo⟩ := hcv.tx.form
              rw [show (Dc.keys (e :: d)).length = m from HM.out] at e2 hvo
              obtain ⟨gc, hgc⟩ := hvo (by have := HMP.out; omega)
              subst hgc e2
              rw [HN0.out] at c1
              clear c0 c2 c4 c5 h3 h4 h5 h6 h7 hrg hgl hvo
              have HCV := keep hcv
              have HRV := keep hrv
              clear hcv hrv
              go_wp2_with fail
              go_quiet (fail)
              obtain ⟨wq3, hq⟩ : ∃ x, wq2.drewN nq = x := ⟨_, rfl⟩
              rw [hq]
              have RQ3 : Kept (RD wq3 r b seed { s with pos := p } KV ∧ Fr w r wq3 r) := by rw [← hq]; exact ⟨RQ2.out.1.drewN nq, RQ2.out.2.trans (Fr.of_below (below_drewN (Below.refl _ _) nq))⟩
              have HCV3 : Kept (Chn wq3 (.slice (some ⟨gc, 0, none⟩) m vc') (e :: d)) := by rw [← hq]; exact own_kept HCV.out (fun k e => (below_drewN (Below.refl wq2.heap.size wq2) nq).block k (own_lt HCV.out e))
              clear hq c1 c3 cf hv
              have HNYP : Kept ((Dc.pour h s.young (e :: d)).length = ny) := by show (Dc.pour h s.young (e :: d)).length = ny; rw [Dc.pour_len]; exact HNYE.out
              clear hz2 hz2n hz5m hz5mn hz5m' hz5 hz5' HCV
              go_wp2_with fail
              go_loopg [84] m (fun kx s84 wr => ∃ i : Nat, s84 = .int .i64 i ∧ i ≤ m ∧ m - i ≤ kx ∧ ∃ r', Kept (RD wr r' b seed { s with pos := p, young := Dc.pour h s.young ((e :: d).take i) } KV ∧ Fr w r wr r' ∧ Chn wr (.slice (some ⟨gc, 0, none⟩) m vc') (e :: d) ∧ ∀ k, (Value.slice (some ⟨gc, 0, none⟩) m vc').ownBlock = some k → r' k = (3, p)))
              case atStart => exact ⟨0, rfl, by omega, by omega, r, RQ3.out.1, RQ3.out.2, HCV3.out, HRV.out⟩
              case round =>
                obtain ⟨i, rfl, hi, hgi, r', KI⟩ := hrel
                by_cases him : i < m
                · obtain ⟨x, hx⟩ : ∃ x, (e :: d)[i]? = some x := ⟨_, List.getElem?_eq_getElem (by have := HM.out; simp [Dc.keys] at this; simp; omega)⟩
                  have hxk : (Dc.keys (e :: d))[i]? = some x.1 := by unfold Dc.keys; rw [List.getElem?_map, hx]; rfl
                  have cx := (KI.out.2.2.1.tx).at hxk
                  have hxs : x.1.size ≤ maxLen := HK.out x (List.mem_flatten.2 ⟨_, List.mem_of_getElem? HOP.out, List.mem_of_getElem? hx⟩)
                  have hpl : (Dc.pour h s.young ((e :: d).take i)).length = ny := by rw [Dc.pour_len]; exact HNYE.out
                  obtain ⟨ao, ca, bo, cb, ko, kc, vo, vc, h3, h4, h5, h6, h7⟩ := KI.out.1.parts
                  dsimp only at h3 h4 h5
                  obtain ⟨c0, c1, c2, c3, c4, c5, cf⟩ := six h3
                  have MP := keep (place_any hH wr b ny cb bo x.1 hxs c0 HNY.out.1 HNY.out.2)
                  obtain ⟨q, hq⟩ : ∃ q, h x.1 % ny = q := ⟨_, rfl⟩
                  have hqn : q < ny := by rw [← hq]; exact Nat.mod_lt _ HNY.out.1
                  rw [hq] at MP
                  rw [hpl] at c2
                  obtain ⟨dd, hdd⟩ : ∃ dd, (Dc.pour h s.young ((e :: d).take i))[q]? = some dd := ⟨_, List.getElem?_eq_getElem (by rw [hpl]; exact hqn)⟩
                  obtain ⟨gy, capy, e1, hrg, hgl⟩ := h5.form (by rw [hpl]; omega)
                  have hbo : bo = some ⟨gy, 0, none⟩ := by injection e1
                  subst hbo
                  obtain ⟨vb, hvb, hcb, _⟩ := h5.at hdd
                  have fz := h5.free
                  obtain ⟨vbo, vbc, e2, _⟩ := hcb.tx.form
                  obtain ⟨dl, hdl⟩ : ∃ n, (Dc.keys dd).length = n := ⟨_, rfl⟩
                  have hdb : dl ≤ 8000000000000 := by
                    have q1 := (Dc.pour_perm h ((e :: d).take i) s.young HY.out).length_eq
                    have q2 : dd.length ≤ (Dc.pour h s.young ((e :: d).take i)).flatten.length := (List.sublist_flatten_of_mem (List.mem_of_getElem? hdd)).length_le
                    have q3 : (e :: d).length ≤ s.old.flatten.length := (List.sublist_flatten_of_mem (List.mem_of_getElem? HOP.out)).length_le
                    have q4 := HL.out
                    have q5 : ((e :: d).take i).length ≤ (e :: d).length := by rw [List.length_take]; omega
                    rw [List.length_append] at q1
                    simp only [Dc.keys, List.length_map] at hdl
                    omega
                  have mA := ahead_any wr.drew x.1 vb (Dc.keys dd) (hcb.tx.bel (Below.refl _ wr).drew) (by rw [hdl]; exact hdb)
                  rw [hdl] at e2
                  subst e2
                  have MA := keep mA
                  have hst : Dc.pour h s.young ((e :: d).take (i + 1)) = (Dc.pour h s.young ((e :: d).take i)).set q (x :: dd) := by
                    rw [List.take_add_one, hx]
                    show Dc.pour h s.young (_ ++ [x]) = _
                    rw [pour_snoc, push_is (c := dd) (by rw [hpl, hq]; exact hdd), hpl, hq]
                  have HNX : Kept (∀ w8 u W9, Mine wr.drew w8 u (x.1 :: Dc.keys dd) → w8.setCell ⟨gy, q, none⟩ u = W9 → (w8.cell? ⟨b, 2, none⟩ = some (.slice (some ⟨gy, 0, none⟩) ny cb) ∧ W9.cell? ⟨b, 2, none⟩ = some (.slice (some ⟨gy, 0, none⟩) ny cb)) ∧ w8.cell? ⟨gy, q, none⟩ = some (.slice vbo dl vbc) ∧ (∀ k, w8.frozen? ⟨gy, k, none⟩ = false) ∧ ∃ r9, RD W9 r9 b seed { s with pos := p, young := Dc.pour h s.young ((e :: d).take (i + 1)) } KV ∧ Fr w r W9 r9 ∧ Chn W9 (.slice (some ⟨gc, 0, none⟩) m vc') (e :: d) ∧ ∀ k, (Value.slice (some ⟨gc, 0, none⟩) m vc').ownBlock = some k → r9 k = (3, p)) := fun w8 u W9 hm hW9 => by
                    have hb8 : Below wr.heap.size wr w8 := (Below.refl _ wr).drew.trans hm.2.2
                    have h5' := h5
                    rw [hpl] at h5'
                    obtain ⟨t1, t2⟩ := KI.out.1.put1 (i := q) (c := dd) (c' := x :: dd) c2 h5' hdd hb8 hm.1 hm.2.1 hW9
                    have hbg : b ≠ gy := fun e => by have h1 := KI.out.1.2.1; rw [e, hrg] at h1; cases h1
                    have k2 := (hb8.cell (p := ⟨b, 2, none⟩) (World.block_lt_of_cell? _ _ c2)).trans c2
                    refine ⟨⟨k2, by rw [← hW9, World.cell?_setCell_other _ _ _ _ (by intro e; cases e; exact hbg rfl)]; exact k2⟩, (hb8.cell (p := ⟨gy, q, none⟩) (World.block_lt_of_cell? _ _ hvb)).trans hvb, fun k => (World.frozen?_of_block (w := wr) (a := ⟨gy, k, none⟩) (hb8.block gy hgl)).trans (fz k), _, by rw [hst]; exact t1, KI.out.2.1.trans t2.1, ?_, ?_⟩
                    · refine own_kept KI.out.2.2.1 (fun k hk => (t2.2 k (own_lt KI.out.2.2.1 hk) ?_ ?_).1) <;> rw [KI.out.2.2.2 k hk] <;> simp
                    · intro k hk
                      rw [(t2.2 k (own_lt KI.out.2.2.1 hk) (by rw [KI.out.2.2.2 k hk]; simp) (by rw [KI.out.2.2.2 k hk]; simp)).2]
                      exact KI.out.2.2.2 k hk
                  have SY : Kept (wr.drew.cell? ⟨b, 2, none⟩ = some (.slice (some ⟨gy, 0, none⟩) ny cb)) := c2
                  have hvb' : wr.drew.cell? ⟨gy, q, none⟩ = some (.slice vbo dl vbc) := hvb
                  have i0 : (0 : Int) ≤ (i : Int) := by omega
                  have i1 : (i : Int) < (m : Int) := by omega
                  have q0 : (0 : Int) ≤ (q : Int) := by omega
                  have q1 : (q : Int) < (ny : Int) := by omega
                  have HIM := keep him
                  have hwi : IntKind.i64.wrap ((i : Int) + 1) = (i : Int) + 1 := by
                    have q3 : (e :: d).length ≤ s.old.flatten.length := (List.sublist_flatten_of_mem (List.mem_of_getElem? HOP.out)).length_le
                    have q4 := HL.out
                    have q5 := HM.out
                    simp only [Dc.keys, List.length_map] at q5
                    rw [IntKind.wrap_i64]; omega
                  obtain ⟨x1, x2⟩ := x
                  dsimp only at *
                  clear c0 c1 c3 c4 c5 cf h3 h4 h5 h6 h7 hx hxk hxs hpl hq hqn hdd hrg hgl hcb fz e1 hdl hdb mA hst KI him
                  go_wp2_with fail
                  refine MP.out.mono ?_
                  rintro _ _ ⟨rfl, hw⟩
                  obtain rfl := hw.symm
                  clear MP cx
                  go_wp2_with fail
                  refine wp_region_held_drew (S := fun W => W.cell? ⟨b, 2, none⟩ = some (.slice (some ⟨gy, 0, none⟩) ny cb)) (by kernel_rfl) SY.out (fun hHeld => ?_)
                  refine wpAnyH_take (i := 0) (oi := { dst := some 95, op := _, type := _, pos := _, after := _, guard := _ }) (v := ?v23) rfl (by kernel_rfl) (by kernel_rfl) (by kernel_rfl) (fun _ _ _ h => h) (Or.inl ⟨by rfl, ?hy23⟩) (by assumption) ?rest23
                  case hy23 => (intro w hSw; obtain p0 := hSw; go_simp; try with_reducible rfl)
                  try simp only [Act.put, List.setIfInBounds_toArray, List.set_cons_zero, List.set_cons_succ]
                  refine wpAnyH_take (i := 1) (oi := { dst := some 96, op := _, type := _, pos := _, after := _, guard := _ }) (v := ?v24) rfl (by kernel_rfl) (by kernel_rfl) (by kernel_rfl) (fun _ _ _ h => h) (Or.inl ⟨by rfl, ?hy24⟩) (by assumption) ?rest24
                  case hy24 => (intro w hSw; obtain p0 := hSw; go_simp; try with_reducible rfl)
                  try simp only [Act.put, List.setIfInBounds_toArray, List.set_cons_zero, List.set_cons_succ]
                  refine wpAnyH_take (i := 2) (oi := { dst := some 97, op := _, type := _, pos := _, after := _, guard := _ }) (v := ?v25) rfl (by kernel_rfl) (by kernel_rfl) (by kernel_rfl) (fun _ _ _ h => h) (Or.inl ⟨by rfl, ?hy25⟩) (by assumption) ?rest25
                  case hy25 => (intro w hSw; obtain p0 := hSw; go_simp; try with_reducible rfl)
                  try simp only [Act.put, List.setIfInBounds_toArray, List.set_cons_zero, List.set_cons_succ]
                  refine wpAnyH_take (i := 3) (oi := { dst := some 98, op := _, type := _, pos := _, after := _, guard := _ }) (v := (.slice (some ⟨gy, 0, none⟩) ny cb)) rfl (by kernel_rfl) (by kernel_rfl) (by kernel_rfl) (fun _ _ _ h => h) (Or.inl ⟨by rfl, ?hy26⟩) (by assumption) ?rest26
                  case hy26 => (intro w hSw; obtain p0 := hSw; first | (go_simp; done) | (go_simp; simp [*]; done) | (simp [*]; go_simp; done))
                  try simp only [Act.put, List.setIfInBounds_toArray, List.set_cons_zero, List.set_cons_succ]
                  refine wpAnyH_take (i := 4) (oi := { dst := some 99, op := _, type := _, pos := _, after := _, guard := _ }) (v := ?v27) rfl (by kernel_rfl) (by kernel_rfl) (by kernel_rfl) (fun _ _ _ h => h) (Or.inl ⟨by rfl, ?hy27⟩) (by assumption) ?rest27
                  case hy27 => (intro w hSw; obtain p0 := hSw; go_simp; try with_reducible rfl)
                  try simp only [Act.put, List.setIfInBounds_toArray, List.set_cons_zero, List.set_cons_succ]
                  refine wpAnyH_take (i := 5) (oi := { dst := some 100, op := _, type := _, pos := _, after := _, guard := _ }) (v := ?v28) rfl (by kernel_rfl) (by kernel_rfl) (by kernel_rfl) (fun _ _ _ h => h) (Or.inl ⟨by rfl, ?hy28⟩) (by assumption) ?rest28
                  case hy28 => (intro w hSw; obtain p0 := hSw; go_simp; try with_reducible rfl)
                  try simp only [Act.put, List.setIfInBounds_toArray, List.set_cons_zero, List.set_cons_succ]
                  refine wpAnyH_take (i := 6) (oi := { dst := some 101, op := _, type := _, pos := _, after := _, guard := _ }) (v := ?v29) rfl (by kernel_rfl) (by kernel_rfl) (by kernel_rfl) (fun _ _ _ h => h) (Or.inl ⟨by rfl, ?hy29⟩) (by assumption) ?rest29
                  case hy29 => (intro w hSw; obtain p0 := hSw; go_simp; try with_reducible rfl)
                  try simp only [Act.put, List.setIfInBounds_toArray, List.set_cons_zero, List.set_cons_succ]
                  refine wpAnyH_take (i := 7) (oi := { dst := some 102, op := _, type := _, pos := _, after := _, guard := _ }) (v := ?v30) rfl (by kernel_rfl) (by kernel_rfl) (by kernel_rfl) (fun _ _ _ h => h) (Or.inl ⟨by rfl, ?hy30⟩) (by assumption) ?rest30
                  case hy30 => (intro w hSw; obtain p0 := hSw; go_simp; try with_reducible rfl)
                  try simp only [Act.put, List.setIfInBounds_toArray, List.set_cons_zero, List.set_cons_succ]
                  refine wpAnyH_take (i := 8) (oi := { dst := some 103, op := _, type := _, pos := _, after := _, guard := _ }) (v := ?v31) rfl (by kernel_rfl) (by kernel_rfl) (by kernel_rfl) (fun _ _ _ h => h) (Or.inl ⟨by rfl, ?hy31⟩) (by assumption) ?rest31
                  case hy31 => (intro w hSw; obtain p0 := hSw; go_simp; try with_reducible rfl)
                  try simp only [Act.put, List.setIfInBounds_toArray, List.set_cons_zero, List.set_cons_succ]
                  refine wpAnyH_take (i := 9) (oi := { dst := some 104, op := _, type := _, pos := _, after := _, guard := _ }) (v := (.slice (some ⟨gy, 0, none⟩) ny cb)) rfl (by kernel_rfl) (by kernel_rfl) (by kernel_rfl) (fun _ _ _ h => h) (Or.inl ⟨by rfl, ?hy32⟩) (by assumption) ?rest32
                  case hy32 => (intro w hSw; obtain p0 := hSw; first | (go_simp; done) | (go_simp; simp [*]; done) | (simp [*]; go_simp; done))
                  try simp only [Act.put, List.setIfInBounds_toArray, List.set_cons_zero, List.set_cons_succ]
                  refine wpAnyH_take (i := 10) (oi := { dst := some 105, op := _, type := _, pos := _, after := _, guard := _ }) (v := ?v33) rfl (by kernel_rfl) (by kernel_rfl) (by kernel_rfl) (fun _ _ _ h => h) (Or.inl ⟨by rfl, ?hy33⟩) (by assumption) ?rest33
                  case hy33 => (intro w hSw; obtain p0 := hSw; go_simp; try with_reducible rfl)
                  try simp only [Act.put, List.setIfInBounds_toArray, List.set_cons_zero, List.set_cons_succ]
                  refine wpAnyH_take (i := 11) (oi := { dst := some 106, op := _, type := _, pos := _, after := _, guard := _ }) (v := (.pointer (some ⟨gy, q, none⟩))) rfl (by kernel_rfl) (by kernel_rfl) (by kernel_rfl) (fun _ _ _ h => h) (Or.inl ⟨by rfl, ?hy34⟩) (by assumption) ?rest34
                  case hy34 => (intro w hSw; obtain p0 := hSw; first | (go_simp; done) | (go_simp; simp [*]; done) | (simp [*]; go_simp; done))
                  try simp only [Act.put, List.setIfInBounds_toArray, List.set_cons_zero, List.set_cons_succ]
                  refine wpAnyH_ready (rs := [12]) (by kernel_rfl) (by simp) ?_
                  refine AllReadyH.cons (o := { dst := some 107, op := _, type := _, pos := _, after := _, guard := _ }) rfl (fun K hK => ?_) AllReadyH.nil
                  go_simp
                  refine hK.out _ _ SY.out (fun hHeld => ?_)
                  try simp only [Act.put, List.setIfInBounds_toArray, List.set_cons_zero, List.set_cons_succ]
                  clear hK
                  refine wpAnyH_ready (rs := [13]) (by kernel_rfl) (by simp) ?_
                  refine AllReadyH.cons (o := { dst := some 108, op := _, type := _, pos := _, after := _, guard := _ }) rfl (fun K hK => ?_) AllReadyH.nil
                  go_simp
                  refine MA.out.mono ?_
                  rintro _ w8 ⟨u, rfl, hu⟩
                  obtain ⟨uo, un, uc, rfl⟩ := mine_slice hu
                  obtain ⟨W9, hW9⟩ : ∃ x, w8.setCell ⟨gy, q, none⟩ (.slice uo un uc) = x := ⟨_, rfl⟩
                  obtain ⟨⟨y1, y2⟩, y3, y4, r9, y5⟩ := HNX.out w8 _ W9 hu hW9
                  have Y1 := keep y1
                  have Y2 := keep y2
                  have K9 := keep y5
                  refine hK.out _ _ Y1.out (fun hHeld => ?_)
                  try simp only [Act.put, List.setIfInBounds_toArray, List.set_cons_zero, List.set_cons_succ]
                  clear hK MA HNX hu y1 y2 y5 hvb hvb'
                  refine wpAnyH_take (i := 14) (oi := { dst := some 109, op := _, type := _, pos := _, after := _, guard := _ }) (v := (.pointer (some ⟨gy, q, none⟩))) rfl (by kernel_rfl) (by kernel_rfl) (by kernel_rfl) (fun _ _ _ h => h) (Or.inl ⟨by rfl, ?hy35⟩) (by assumption) ?rest35
                  case hy35 => (intro w hSw; obtain p0 := hSw; first | (go_simp; done) | (go_simp; simp [*]; done) | (simp [*]; go_simp; done))
                  try simp only [Act.put, List.setIfInBounds_toArray, List.set_cons_zero, List.set_cons_succ]
                  refine wpAnyH_ready (rs := [15]) (by kernel_rfl) (by simp) ?_
                  refine AllReadyH.cons (o := { dst := none, op := _, type := _, pos := _, after := _, guard := _ }) rfl (fun K hK => ?_) AllReadyH.nil
                  go_simp
                  try rw [hW9]
                  refine hK.out _ _ Y2.out (fun hHeld => ?_)
                  try simp only [Act.put, List.setIfInBounds_toArray, List.set_cons_zero, List.set_cons_succ]
                  clear hK y3 y4
                  refine wpAnyH_done (by kernel_rfl) ?_ _
                  clear hHeld
                  go_wp2
                  go_roundg (m - (i + 1))
                  case measure => have := HIM.out; omega
                  case rel => exact ⟨i + 1, by simp, HIM.out, Nat.le_refl _, r9, K9.out⟩
                · obtain rfl : i = m := by omega
                  have KF : Kept (RD wr r' b seed { s with pos := p, young := Dc.pour h s.young (e :: d) } KV ∧ Fr w r wr r') := by
                    have h1 := KI.out.1
                    rw [List.take_of_length_le (by have := HM.out; simp only [Dc.keys, List.length_map] at this; omega)] at h1
                    exact ⟨h1, KI.out.2.1⟩
                  clear KI
                  obtain ⟨ao, ca, bo, cb, ko, kc, vo, vc, h3, h4, h5, h6, h7⟩ := KF.out.1.parts
                  dsimp only at h3 h4 h5
                  obtain ⟨c0, c1, c2, c3, c4, c5, cf⟩ := six h3
                  obtain ⟨g0, cap0, e1, hrg, hgl⟩ := h4.form (by have := HPN.out; have := HN0.out; omega)
                  have hao : ao = some ⟨g0, 0, none⟩ := by injection e1
                  subst hao
                  obtain ⟨v0, hv0, _, _⟩ := h4.at HOP.out
                  have fz := h4.free
                  rw [HN0.out] at c1
                  have SZ : Kept (wr.drew.cell? ⟨b, 1, none⟩ = some (.slice (some ⟨g0, 0, none⟩) n0 ca) ∧ wr.drew.cell? ⟨b, 3, none⟩ = some (.int .i64 (p : Int))) := ⟨c1, c3⟩
                  obtain ⟨W12, hW12⟩ : ∃ x, wr.drew.setCell ⟨g0, p, none⟩ (.slice none 0 0) = x := ⟨_, rfl⟩
                  have h4' := h4
                  rw [HN0.out] at h4'
                  have rdd : RD wr.drew r' b seed { s with pos := p, young := Dc.pour h s.young (e :: d) } KV := KF.out.1.below (Below.refl _ wr).drew
                  obtain ⟨t1, t2⟩ := rdd.put0 (i := p) (c := e :: d) (c' := []) (w1 := wr.drew) (u := .slice none 0 0) c1 (show Tb wr.drew r' 0 _ s.old from h4'.kept (fun k hl hr => ⟨rfl, rfl⟩)) HOP.out (Below.refl _ _) ⟨rfl, .inl ⟨rfl, rfl⟩⟩ (fun k hk => by cases hk) hW12
                  have K12 : Kept (RD W12 (role r' (.slice none 0 0) (3, p)) b seed { old := s.old.set p [], young := Dc.pour h s.young (e :: d), pos := p } KV ∧ Fr w r W12 (role r' (.slice none 0 0) (3, p))) := ⟨t1, KF.out.2.trans ((Fr.of_below (Below.refl _ wr).drew).trans t2.1)⟩
                  obtain ⟨W13, hW13⟩ : ∃ x, W12.setCell ⟨b, 3, none⟩ (.int .i64 ((p : Int) + 1)) = x := ⟨_, rfl⟩
                  obtain ⟨t3, t4, _⟩ := K12.out.1.setp (p + 1) hW13
                  have K13 : Kept (RD W13 (role r' (.slice none 0 0) (3, p)) b seed { old := s.old.set p [], young := Dc.pour h s.young (e :: d), pos := p + 1 } KV ∧ Fr w r W13 (role r' (.slice none 0 0) (3, p))) := ⟨t3, K12.out.2.trans t4⟩
                  obtain ⟨ao2, ca2, bo2, cb2, ko2, kc2, vo2, vc2, g3, _⟩ := K12.out.1.parts
                  dsimp only at g3
                  obtain ⟨_, d1, _, d3, _, _, df⟩ := six g3
                  rw [List.length_set, HN0.out] at d1
                  have hbg : b ≠ g0 := fun e => by have h1 := KF.out.1.2.1; rw [e, hrg] at h1; cases h1
                  have k1 : W12.cell? ⟨b, 1, none⟩ = some (.slice (some ⟨g0, 0, none⟩) n0 ca) := by rw [← hW12, World.cell?_setCell_other _ _ _ _ (by intro e; cases e; exact hbg rfl)]; exact c1
                  have SZ2 : Kept (W12.cell? ⟨b, 1, none⟩ = some (.slice (some ⟨g0, 0, none⟩) n0 ca) ∧ W12.cell? ⟨b, 3, none⟩ = some (.int .i64 (p : Int))) := ⟨k1, d3⟩
                  have hv0' : wr.drew.cell? ⟨g0, p, none⟩ = some v0 := hv0
                  have fz' : ∀ k, wr.drew.frozen? ⟨g0, k, none⟩ = false := fun k => fz k
                  have hwp : IntKind.i64.wrap ((p : Int) + 1) = (p : Int) + 1 := by have := HM0.out; have := HPN.out; have := HN0.out; unfold maxLen at *; rw [IntKind.wrap_i64]; omega
                  have hpn' : (p : Int) < (n0 : Int) := by have := HPN.out; omega
                  clear c0 c1 c2 c3 c4 c5 cf h3 h4 h5 h6 h7 h4' e1 hrg hgl t1 t2 t3 t4 g3 rdd d1 hbg k1
                  go_wp2_with fail
                  refine wp_region_held_drew (S := fun W => W.cell? ⟨b, 1, none⟩ = some (.slice (some ⟨g0, 0, none⟩) n0 ca) ∧ W.cell? ⟨b, 3, none⟩ = some (.int .i64 (p : Int))) (by kernel_rfl) SZ.out (fun hHeld => ?_)
                  refine wpAnyH_take (i := 0) (oi := { dst := some 111, op := _, type := _, pos := _, after := _, guard := _ }) (v := ?v36) rfl (by kernel_rfl) (by kernel_rfl) (by kernel_rfl) (fun _ _ _ h => h) (Or.inl ⟨by rfl, ?hy36⟩) (by assumption) ?rest36
                  case hy36 => (intro w hSw; obtain ⟨p0,p1⟩ := hSw; go_simp; try with_reducible rfl)
                  try simp only [Act.put, List.setIfInBounds_toArray, List.set_cons_zero, List.set_cons_succ]
                  refine wpAnyH_take (i := 1) (oi := { dst := some 112, op := _, type := _, pos := _, after := _, guard := _ }) (v := ?v37) rfl (by kernel_rfl) (by kernel_rfl) (by kernel_rfl) (fun _ _ _ h => h) (Or.inl ⟨by rfl, ?hy37⟩) (by assumption) ?rest37
                  case hy37 => (intro w hSw; obtain ⟨p0,p1⟩ := hSw; go_simp; try with_reducible rfl)
                  try simp only [Act.put, List.setIfInBounds_toArray, List.set_cons_zero, List.set_cons_succ]
                  refine wpAnyH_take (i := 2) (oi := { dst := some 113, op := _, type := _, pos := _, after := _, guard := _ }) (v := ?v38) rfl (by kernel_rfl) (by kernel_rfl) (by kernel_rfl) (fun _ _ _ h => h) (Or.inl ⟨by rfl, ?hy38⟩) (by assumption) ?rest38
                  case hy38 => (intro w hSw; obtain ⟨p0,p1⟩ := hSw; go_simp; try with_reducible rfl)
                  try simp only [Act.put, List.setIfInBounds_toArray, List.set_cons_zero, List.set_cons_succ]
                  refine wpAnyH_take (i := 3) (oi := { dst := some 114, op := _, type := _, pos := _, after := _, guard := _ }) (v := (.slice (some ⟨g0, 0, none⟩) n0 ca)) rfl (by kernel_rfl) (by kernel_rfl) (by kernel_rfl) (fun _ _ _ h => h) (Or.inl ⟨by rfl, ?hy39⟩) (by assumption) ?rest39
                  case hy39 => (intro w hSw; obtain ⟨p0,p1⟩ := hSw; first | (go_simp; done) | (go_simp; simp [*]; done) | (simp [*]; go_simp; done))
                  try simp only [Act.put, List.setIfInBounds_toArray, List.set_cons_zero, List.set_cons_succ]
                  refine wpAnyH_take (i := 4) (oi := { dst := some 115, op := _, type := _, pos := _, after := _, guard := _ }) (v := ?v40) rfl (by kernel_rfl) (by kernel_rfl) (by kernel_rfl) (fun _ _ _ h => h) (Or.inl ⟨by rfl, ?hy40⟩) (by assumption) ?rest40
                  case hy40 => (intro w hSw; obtain ⟨p0,p1⟩ := hSw; go_simp; try with_reducible rfl)
                  try simp only [Act.put, List.setIfInBounds_toArray, List.set_cons_zero, List.set_cons_succ]
                  refine wpAnyH_take (i := 5) (oi := { dst := some 116, op := _, type := _, pos := _, after := _, guard := _ }) (v := ?v41) rfl (by kernel_rfl) (by kernel_rfl) (by kernel_rfl) (fun _ _ _ h => h) (Or.inl ⟨by rfl, ?hy41⟩) (by assumption) ?rest41
                  case hy41 => (intro w hSw; obtain ⟨p0,p1⟩ := hSw; go_simp; try with_reducible rfl)
                  try simp only [Act.put, List.setIfInBounds_toArray, List.set_cons_zero, List.set_cons_succ]
                  refine wpAnyH_take (i := 6) (oi := { dst := some 117, op := _, type := _, pos := _, after := _, guard := _ }) (v := ?v42) rfl (by kernel_rfl) (by kernel_rfl) (by kernel_rfl) (fun _ _ _ h => h) (Or.inl ⟨by rfl, ?hy42⟩) (by assumption) ?rest42
                  case hy42 => (intro w hSw; obtain ⟨p0,p1⟩ := hSw; go_simp; try with_reducible rfl)
                  try simp only [Act.put, List.setIfInBounds_toArray, List.set_cons_zero, List.set_cons_succ]
                  refine wpAnyH_take (i := 7) (oi := { dst := some 118, op := _, type := _, pos := _, after := _, guard := _ }) (v := (.int .i64 (p : Int))) rfl (by kernel_rfl) (by kernel_rfl) (by kernel_rfl) (fun _ _ _ h => h) (Or.inl ⟨by rfl, ?hy43⟩) (by assumption) ?rest43
                  case hy43 => (intro w hSw; obtain ⟨p0,p1⟩ := hSw; first | (go_simp; done) | (go_simp; simp [*]; done) | (simp [*]; go_simp; done))
                  try simp only [Act.put, List.setIfInBounds_toArray, List.set_cons_zero, List.set_cons_succ]
                  refine wpAnyH_take (i := 8) (oi := { dst := some 119, op := _, type := _, pos := _, after := _, guard := _ }) (v := (.pointer (some ⟨g0, p, none⟩))) rfl (by kernel_rfl) (by kernel_rfl) (by kernel_rfl) (fun _ _ _ h => h) (Or.inl ⟨by rfl, ?hy44⟩) (by assumption) ?rest44
                  case hy44 => (intro w hSw; obtain ⟨p0,p1⟩ := hSw; first | (go_simp; done) | (go_simp; simp [*]; done) | (simp [*]; go_simp; done))
                  try simp only [Act.put, List.setIfInBounds_toArray, List.set_cons_zero, List.set_cons_succ]
                  refine wpAnyH_ready (rs := [9]) (by kernel_rfl) (by simp) ?_
                  refine AllReadyH.cons (o := { dst := none, op := _, type := _, pos := _, after := _, guard := _ }) rfl (fun K hK => ?_) AllReadyH.nil
                  go_simp
                  try rw [hW12]
                  refine hK.out _ _ SZ2.out (fun hHeld => ?_)
                  try simp only [Act.put, List.setIfInBounds_toArray, List.set_cons_zero, List.set_cons_succ]
                  clear hK hv0 hv0' fz fz'
                  refine wpAnyH_done (by kernel_rfl) ?_ _
                  clear hHeld
                  go_wp2_with fail
                  try rw [hW13]
                  obtain ⟨ao, ca, bo, cb, ko, kc, vo, vc, h3, h4, h5, h6, h7⟩ := K13.out.1.parts
                  dsimp only at h3 h4 h5
                  obtain ⟨c0, c1, c2, c3, c4, c5, cf⟩ := six h3
                  rw [List.length_set, HN0.out] at c1
                  by_cases hend : p + 1 = n0
                  · have hz14 : (((p + 1 : Nat) : Int) == (n0 : Int)) = true := beq_iff_eq.2 (by omega)
                    have hz14' : ((p : Int) + 1 == (n0 : Int)) = true := beq_iff_eq.2 (by omega)
                    have HEQ : Kept (Dc.step h s = { old := Dc.pour h s.young (e :: d), young := [], pos := 0 }) := step_is HY0.out (by rw [HSK.out]; exact shift_yes (s := { old := s.old.set p [], young := Dc.pour h s.young (e :: d), pos := p + 1 }) HCAR.out (by show p + 1 = (s.old.set p []).length; rw [List.length_set, HN0.out]; exact hend))
                    clear c0 c2 c4 c5 h3 h4 h5 h6 h7 hend
                    go_wp2_with fail
                    go_quiet (fail)
                    obtain ⟨wq4, hq⟩ : ∃ x, W13.drewN nq = x := ⟨_, rfl⟩
                    rw [hq]
                    have RQ4 : Kept (RD wq4 (role r' (.slice none 0 0) (3, p)) b seed { old := s.old.set p [], young := Dc.pour h s.young (e :: d), pos := p + 1 } KV ∧ Fr w r wq4 (role r' (.slice none 0 0) (3, p))) := by rw [← hq]; exact ⟨K13.out.1.drewN nq, K13.out.2.trans (Fr.of_below (below_drewN (Below.refl _ _) nq))⟩
                    clear hq c1 c3 cf
                    obtain ⟨ao, ca, bo, cb, ko, kc, vo, vc, h3, h4, h5, h6, h7⟩ := RQ4.out.1.parts
                    dsimp only at h3 h4 h5
                    obtain ⟨c0, c1, c2, c3, c4, c5, cf⟩ := six h3
                    rw [show (Dc.St.young { old := s.old.set p [], young := Dc.pour h s.young (e :: d), pos := p + 1 }).length = ny from HNYP.out] at c2
                    obtain ⟨WZ, hWZ⟩ : ∃ x, ((wq4.setCell ⟨b, 1, none⟩ (.slice bo ny cb)).setCell ⟨b, 2, none⟩ (.slice none 0 0)).setCell ⟨b, 3, none⟩ (.int .i64 0) = x := ⟨_, rfl⟩
                    obtain ⟨rz, fz⟩ := RQ4.out.1.shift c2 hWZ
                    have HD2 : Kept (∃ r', RD WZ r' b seed (Dc.step h s) KV ∧ Fr w r WZ r') := ⟨_, by rw [HEQ.out]; exact rz, RQ4.out.2.trans fz⟩
                    clear rz fz c0 c4 c5 h3 h4 h5 h6 h7
                    go_wp2
                    go_end0
                    exact ⟨rfl, HD2.out⟩
                  · have hz14 : (((p + 1 : Nat) : Int) == (n0 : Int)) = false := beq_eq_false_iff_ne.2 (by omega)
                    have hz14' : ((p : Int) + 1 == (n0 : Int)) = false := beq_eq_false_iff_ne.2 (by omega)
                    have HEQ : Kept (Dc.step h s = { old := s.old.set p [], young := Dc.pour h s.young (e :: d), pos := p + 1 }) := step_is HY0.out (by rw [HSK.out]; exact shift_no (s := { old := s.old.set p [], young := Dc.pour h s.young (e :: d), pos := p + 1 }) HCAR.out (by show ¬ p + 1 = (s.old.set p []).length; rw [List.length_set, HN0.out]; exact hend))
                    clear c0 c2 c4 c5 h3 h4 h5 h6 h7 hend
                    go_wp2_with fail
                    go_quiet (fail)
                    obtain ⟨wq4, hq⟩ : ∃ x, W13.drewN nq = x := ⟨_, rfl⟩
                    rw [hq]
                    have RQ4 : Kept (RD wq4 (role r' (.slice none 0 0) (3, p)) b seed { old := s.old.set p [], young := Dc.pour h s.young (e :: d), pos := p + 1 } KV ∧ Fr w r wq4 (role r' (.slice none 0 0) (3, p))) := by rw [← hq]; exact ⟨K13.out.1.drewN nq, K13.out.2.trans (Fr.of_below (below_drewN (Below.refl _ _) nq))⟩
                    clear hq c1 c3 cf
                    have HD2 : Kept (∃ r', RD wq4 r' b seed (Dc.step h s) KV ∧ Fr w r wq4 r') := ⟨_, by rw [HEQ.out]; exact RQ4.out.1, RQ4.out.2⟩
                    go_wp2
                    go_end0
                    exact ⟨rfl, HD2.out⟩
end Rd
end Go.Proofs.YtlfpkbjiofelkaaGreat
