/-
  Contracts over this program: the live buckets, and who is drawn.
-/
import Derived.Test.YthmmblohfjmbcaaGreatPDictTale
namespace Go.Proofs.YthmmblohfjmbcaaGreat.DP
open Go.RowKit Go.Shelf
set_option maxHeartbeats 400000 in
theorem liveb_any (w : World) (r : Roles) (b seed n : Nat) (s : Dc.St ByteArray (Option Addr)) (hD : Dct w r b seed n s) (hp : s.pos ≤ s.old.length) (hm0 : s.old.length ≤ 5400000000000) (hm1 : s.young.length ≤ 5400000000000) :
    Calls Tryz.prog 72 #[.pointer (some ⟨b, 0, none⟩)] w fun e w' => e = .returned (.int .i64 ((Dc.opened s).length : Nat)) ∧ ∃ q, w' = w.drewN q := by
  obtain ⟨ao, ca, bo, cb, h4, h5, h3⟩ := hD.cells
  obtain ⟨c0, c1, c2, c3, c4, cf⟩ := five h3
  have hl : (((Dc.opened s).length : Nat) : Int) = (s.old.length : Int) - (s.pos : Int) + (s.young.length : Int) := by unfold Dc.opened; rw [List.length_append, List.length_drop]; omega
  have hw1 : IntKind.i64.wrap ((s.old.length : Int) - (s.pos : Int)) = (s.old.length : Int) - (s.pos : Int) := by rw [IntKind.wrap_i64]; omega
  have hw2 : IntKind.i64.wrap ((s.old.length : Int) - (s.pos : Int) + (s.young.length : Int)) = (s.old.length : Int) - (s.pos : Int) + (s.young.length : Int) := by rw [IntKind.wrap_i64]; omega
  rw [hl]
  clear hD h4 h5 h3 c0 c1 cf hl
  go_enter Tryz.func72, Tryz.ntmps72
  go_wp2_with fail
  go_quiet (fail)
  go_wp2
  go_ret
  exact ⟨rfl, nq, rfl⟩
set_option maxHeartbeats 1000000 in
theorem live_any (w : World) (r : Roles) (b seed n : Nat) (s : Dc.St ByteArray (Option Addr)) (hD : Dct w r b seed n s) (hp : s.pos ≤ s.old.length) (hm0 : s.old.length ≤ 5400000000000) (hm1 : s.young.length ≤ 5400000000000) (i : Nat) (c : List Ent) (hi : (Dc.opened s)[i]? = some c) :
    Calls Tryz.prog 73 #[.pointer (some ⟨b, 0, none⟩), .int .i64 i] w fun e w' => (∃ ao cap, e = .returned (.slice ao c.length cap) ∧ Chn w (.slice ao c.length cap) c) ∧ ∃ q, w' = w.drewN q := by
  obtain ⟨ao, ca, bo, cb, h4, h5, h3⟩ := hD.cells
  obtain ⟨c0, c1, c2, c3, c4, cf⟩ := five h3
  have hw1 : IntKind.i64.wrap ((s.old.length : Int) - (s.pos : Int)) = (s.old.length : Int) - (s.pos : Int) := by rw [IntKind.wrap_i64]; omega
  have hil := (List.getElem?_eq_some_iff.1 hi).1
  have hll : (Dc.opened s).length = s.old.length - s.pos + s.young.length := by unfold Dc.opened; rw [List.length_append, List.length_drop]
  rw [hll] at hil
  clear hD h3 c0 c1 cf hll
  unfold Dc.opened at hi
  by_cases hlt : i < s.old.length - s.pos
  · rw [List.getElem?_append_left (by rw [List.length_drop]; exact hlt), List.getElem?_drop] at hi
    obtain ⟨g, ca', e4, hrg, hgl⟩ := h4.form (by omega)
    have e5 : ao = some ⟨g, 0, none⟩ := by injection e4
    subst e5
    clear e4
    obtain ⟨v, hv1, hv2, _⟩ := h4.at hi
    obtain ⟨co, cc, rfl⟩ := chn_len hv2
    have HV := keep hv2
    clear hv2 h4 h5 hi
    have l1 : ¬ (s.old.length : Int) - (s.pos : Int) ≤ (i : Int) := by omega
    have d1 : decide ((s.old.length : Int) - (s.pos : Int) ≤ (i : Int)) = false := decide_eq_false l1
    have hw2 : IntKind.i64.wrap ((s.pos : Int) + (i : Int)) = ((s.pos + i : Nat) : Int) := by rw [IntKind.wrap_i64]; omega
    have j0 : (0 : Int) ≤ ((s.pos + i : Nat) : Int) := by omega
    have j1 : ((s.pos + i : Nat) : Int) < (s.old.length : Int) := by omega
    generalize s.pos + i = j at *
    go_enter Tryz.func73, Tryz.ntmps73
    go_wp2_with fail
    go_quiet (fail)
    go_wp2_with fail
    go_quiet (fail)
    go_wp2
    go_ret
    exact ⟨⟨co, cc, rfl, HV.out⟩, _, World.drewN_drewN _ _ _⟩
  · rw [List.getElem?_append_right (by rw [List.length_drop]; omega), List.length_drop] at hi
    obtain ⟨g, ca', e4, hrg, hgl⟩ := h5.form (by omega)
    have e5 : bo = some ⟨g, 0, none⟩ := by injection e4
    subst e5
    clear e4
    obtain ⟨v, hv1, hv2, _⟩ := h5.at hi
    obtain ⟨co, cc, rfl⟩ := chn_len hv2
    have HV := keep hv2
    clear hv2 h4 h5 hi
    have l1 : (s.old.length : Int) - (s.pos : Int) ≤ (i : Int) := by omega
    have d1 : decide ((s.old.length : Int) - (s.pos : Int) ≤ (i : Int)) = true := decide_eq_true l1
    have hw2 : IntKind.i64.wrap ((i : Int) - ((s.old.length : Int) - (s.pos : Int))) = ((i - (s.old.length - s.pos) : Nat) : Int) := by rw [IntKind.wrap_i64]; omega
    have j0 : (0 : Int) ≤ ((i - (s.old.length - s.pos) : Nat) : Int) := by omega
    have j1 : ((i - (s.old.length - s.pos) : Nat) : Int) < (s.young.length : Int) := by omega
    generalize i - (s.old.length - s.pos) = j at *
    go_enter Tryz.func73, Tryz.ntmps73
    go_wp2_with fail
    go_quiet (fail)
    go_wp2
    go_ret
    exact ⟨⟨co, cc, rfl, HV.out⟩, nq, rfl⟩
theorem full_none {t : Dc.Tab ByteArray (Option Addr)} {i : Nat} (h : t[i]? = some []) : Dc.full t[i]? = false := by rw [h]; rfl
theorem full_some {t : Dc.Tab ByteArray (Option Addr)} {i : Nat} {e : Ent} {c : List Ent} (h : t[i]? = some (e :: c)) : Dc.full t[i]? = true := by rw [h]; rfl
theorem draw_is {t : Dc.Tab ByteArray (Option Addr)} {x i : Nat} {C : List Ent} {en : Ent} (hi : i = Dc.findF t t.length (x % t.length)) (hC : t[i]? = some C) (hen : C[x / t.length % C.length]? = some en) : Dc.draw t x = some en := by
  unfold Dc.draw
  rw [← hi, hC]
  exact hen
theorem rev_at {C : List Ent} {P J : Nat} {en : Ent} (hP : P < C.length) (hJ : J = C.length - 1 - P) (h : C[P]? = some en) : C.reverse[J]? = some en := by
  rw [List.getElem?_reverse (by omega), show C.length - 1 - J = P by omega]; exact h
theorem place_facts (x T C : Nat) (hC : 0 < C) (hx : x ≤ 18446744073709551615) (hc : C ≤ 2 ^ 63 - 1) : ∃ D P J : Nat, IntKind.u64.wrap ((x : Int) / (T : Int)) = (D : Int) ∧ wrap64 ((D : Int) % (C : Int)) = (P : Int) ∧ wrap64 ((C : Int) - 1 - (P : Int)) = (J : Int) ∧ J < C ∧ P = x / T % C ∧ J = C - 1 - P := by
  have hml := Nat.mod_lt (x / T) hC
  have h1 : ((x / T : Nat) : Int) = (x : Int) / (T : Int) := by simp
  have h2 := Nat.div_le_self x T
  have h3 : ((x / T : Nat) : Int) % (C : Int) = ((x / T % C : Nat) : Int) := by simp
  refine ⟨x / T, x / T % C, C - 1 - x / T % C, ?_, ?_, ?_, by clear h3; omega, rfl, rfl⟩
  · clear h3; rw [← h1, IntKind.wrap_u64]; generalize x / T = D at *; omega
  · rw [h3]; clear h3; generalize x / T % C = P at *; rw [wrap64]; omega
  · clear h3; generalize x / T % C = P at *; rw [wrap64]; omega
/-- what Sample tells -/
def Drawn (s : Dc.St ByteArray (Option Addr)) (x : Nat) (e : Ending) : Prop := (Dc.all s = [] ∧ e = .returned (.tuple #[.string { data := #[] }, .bool false])) ∨ ∃ en : Ent, Dc.draw (Dc.opened s) x = some en ∧ e = .returned (.tuple #[.string en.1, .bool true])
set_option maxRecDepth 100000 in
set_option maxHeartbeats 2000000 in
theorem sample_any {h : ByteArray → Nat} {N : Nat} (w : World) (r : Roles) (b seed : Nat) (s : Dc.St ByteArray (Option Addr)) (hd : Dd h N w r b seed s) (hN : N ≤ 2600000000000) (x : Nat) (hx : x < Dw.M) :
    Calls Tryz.prog 49 #[.pointer (some ⟨b, 0, none⟩), .int .u64 x] w fun e w' => Drawn s x e ∧ ∃ q, w' = w.drewN q := by
  have mL := len_any w r b seed _ s hd.1
  obtain ⟨i1, i2, i3, i4, i5⟩ := id hd.2
  have hp : s.pos ≤ s.old.length := by
    by_cases hy : s.young = []
    · rw [i1.rest hy]; omega
    · have := i1.move hy; omega
  have mB := liveb_any w r b seed _ s hd.1 hp (by omega) (by omega)
  have mV := fun (q i : Nat) (c : List Ent) (hi : (Dc.opened s)[i]? = some c) => live_any (w.drewN q) r b seed _ s (hd.1.below (below_drewN (Below.refl _ _) q)) hp (by omega) (by omega) i c hi
  have HV := keep mV
  have hx' := Dw.le_of hx
  have hop : (Dc.opened s).flatten = Dc.all s := Dc.opened_all s
  have hol : (Dc.opened s).length ≤ 10600000000000 := by unfold Dc.opened; rw [List.length_append, List.length_drop]; omega
  by_cases ha : Dc.all s = []
  · have hz : (Dc.all s).length = 0 := by rw [ha]; rfl
    rw [hz] at mL
    have mL : Calls _ _ _ _ (fun e w' => e = .returned (.int .i64 0) ∧ _) := mL
    clear mV HV mB hd hz i1 i2 i3 i4 i5 hp hop hol hx
    go_enter Tryz.func49, Tryz.ntmps49
    go_wp2_with fail
    refine mL.mono ?_
    rintro _ w' ⟨rfl, hw'⟩
    subst hw'
    go_wp2
    refine bodyPost_ret (results_tmp2 rfl _ _ _) rfl ?_
    exact ⟨.inl ⟨ha, rfl⟩, 0, rfl⟩
  · have hfl : (Dc.opened s).flatten ≠ [] := by rw [hop]; exact ha
    have hnz : (((Dc.all s).length : Int) == 0) = false := beq_eq_false_iff_ne.2 (by have : (Dc.all s).length ≠ 0 := fun e => ha (List.length_eq_zero_iff.1 e); omega)
    have HO : ∀ e, Dc.draw (Dc.opened s) x = some e → Drawn s x (.returned (.tuple #[.string e.1, .bool true])) := fun e he => .inr ⟨e, he, rfl⟩
    generalize Dc.opened s = t at *
    replace HO := keep HO
    have hT : 0 < t.length := by
      rcases Nat.eq_zero_or_pos t.length with h0 | h0
      · rw [List.length_eq_zero_iff.1 h0] at hfl; exact absurd rfl hfl
      · exact h0
    obtain ⟨f1, f2⟩ := Dc.find_any hfl (Nat.mod_lt x hT)
    have HF1 := keep f1
    have HF2 := keep f2
    have hu : IntKind.u64.wrap (t.length : Int) = (t.length : Int) := by rw [IntKind.wrap_u64]; omega
    have t0 : ((t.length : Int) == 0) = false := beq_eq_false_iff_ne.2 (by omega)
    have t1 : 1 ≤ (t.length : Int) := by omega
    have hcm : ((x % t.length : Nat) : Int) = (x : Int) % (t.length : Int) := by simp
    have hmw : IntKind.i64.wrap ((x : Int) % (t.length : Int)) = ((x % t.length : Nat) : Int) := by
      have := Nat.mod_lt x hT
      rw [← hcm, IntKind.wrap_i64]; omega
    clear mV hd i1 i2 i3 i4 i5 hp hop ha hfl f1 f2 hx hcm
    go_enter Tryz.func49, Tryz.ntmps49
    go_wp2_with fail
    refine mL.mono ?_
    rintro _ w' ⟨rfl, hw'⟩
    obtain rfl := hw'.symm
    go_wp2_with fail
    refine mB.mono ?_
    rintro _ w2 ⟨rfl, q0, hw2⟩
    clear mL mB
    have hw3 : ∃ q, w2 = w.drewN q := ⟨q0, hw2⟩
    clear hw2
    go_wp2
    go_loopg [7] t.length (fun gg u7 wr => ∃ i : Nat, i < t.length ∧ u7 = .int .i64 i ∧ (∃ q, wr = w.drewN q) ∧ Kept (Dc.findF t gg i = Dc.findF t t.length (x % t.length)))
    case atStart => exact ⟨x % t.length, Nat.mod_lt _ hT, by simp, hw3, rfl⟩
    case round =>
      obtain ⟨i, hi, rfl, ⟨q, rfl⟩, KF⟩ := hrel
      obtain ⟨c, hc⟩ : ∃ c, t[i]? = some c := ⟨_, List.getElem?_eq_getElem hi⟩
      have m1 := HV.out q i c hc
      have m2 := fun q' => HV.out q' i c hc
      have i0 : (0 : Int) ≤ (i : Int) := by omega
      have HC := keep hc
      cases c with
      | nil =>
        have hnf := full_none hc
        clear hc m2
        obtain ⟨gg', hgg⟩ : ∃ g', gk = g' + 1 := by
          rcases Nat.eq_zero_or_pos gk with h0 | h0
          · subst h0
            have e1 : i = Dc.findF t t.length (x % t.length) := KF.out
            have := HF1.out
            rw [← e1, hnf] at this
            cases this
          · exact ⟨gk - 1, by omega⟩
        have hnext : Dc.findF t gg' ((i + 1) % t.length) = Dc.findF t t.length (x % t.length) := by
          rw [← KF.out, hgg]
          simp only [Dc.findF]
          rw [if_neg (by rw [hnf]; simp)]
        have HNX := keep hnext
        have HGG := keep hgg
        have hwi : IntKind.i64.wrap ((i : Int) + 1) = (i : Int) + 1 := by rw [IntKind.wrap_i64]; omega
        have hcm : (((i + 1) % t.length : Nat) : Int) = ((i : Int) + 1) % (t.length : Int) := by simp
        have hlt2 := Nat.mod_lt (i + 1) hT
        have hrm : ((i : Int) + 1).tmod (t.length : Int) = (((i + 1) % t.length : Nat) : Int) := by rw [hcm]; exact Int.tmod_eq_emod_of_nonneg (by omega)
        have hwm : IntKind.i64.wrap (((i : Int) + 1) % (t.length : Int)) = (((i + 1) % t.length : Nat) : Int) := by rw [← hcm, IntKind.wrap_i64]; omega
        clear hnext hgg hnf
        go_wp2_with fail
        refine m1.mono ?_
        rintro _ w4 ⟨⟨co, cc, rfl, _⟩, q4, hw4⟩
        have hw5 : ∃ q, w4 = w.drewN q := ⟨q + q4, by rw [hw4, World.drewN_drewN]⟩
        clear hw4 m1
        go_wp2
        go_roundg gg'
        case measure => have := HGG.out; omega
        case rel => exact ⟨(i + 1) % t.length, hlt2, by simp, hw5, HNX⟩
      | cons e c =>
        have hfi : i = Dc.findF t t.length (x % t.length) := by
          have h1 := KF.out
          rw [Dc.find_here t gk i (full_some hc)] at h1
          exact h1
        have HFI := keep hfi
        have hcl : 0 < (e :: c).length := by simp
        generalize hC : e :: c = C at *
        have c0 : ((C.length : Int) == 0) = false := beq_eq_false_iff_ne.2 (by omega)
        have c1 : ((C.length : Int) == 0) = False := by simp [c0]
        clear hc hfi
        go_wp2_with fail
        refine m1.mono ?_
        rintro _ w4 ⟨⟨co, cc, rfl, _⟩, q4, hw4⟩
        rw [World.drewN_drewN] at hw4
        subst hw4
        clear m1
        go_wp2_with fail
        refine (m2 (q + q4)).mono ?_
        rintro _ w5 ⟨⟨co5, cc5, rfl, hC5⟩, q5, hw5⟩
        have hC5 : Chn (w.drewN (q + q4)) (.slice co5 C.length cc5) C := hC5
        rw [World.drewN_drewN] at hw5
        have hC6 : Chn w5 (.slice co5 C.length cc5) C := by subst hw5; exact hC5
        have hwq : ∃ q, w5 = w.drewN q := ⟨_, hw5⟩
        clear hw5 hC5 m2
        rcases hC6.form with ⟨_, hh⟩ | ⟨gc, cc', e6, hgc, _, hcm⟩
        · exfalso; rw [hh] at hcl; cases hcl
        injection e6 with e6 _ e7
        subst e6 e7
        have hlc : C.length ≤ maxLen := by omega
        unfold maxLen at hlc
        obtain ⟨D, P, J, hq, hwP, hwJ, hJ, e8, e9⟩ := place_facts x t.length C.length hcl (by omega) hlc
        obtain ⟨en, hen⟩ : ∃ en, C[P]? = some en := ⟨_, List.getElem?_eq_getElem (by rw [e8]; exact Nat.mod_lt _ hcl)⟩
        have hPl : P < C.length := (List.getElem?_eq_some_iff.1 hen).1
        have hrev : C.reverse[J]? = some en := rev_at hPl e9 hen
        obtain ⟨k1, k2⟩ := hC6.at hrev
        have hdr : Drawn s x (.returned (.tuple #[.string en.1, .bool true])) := by
          rw [e8] at hen
          exact HO.out en (draw_is HFI.out HC.out hen)
        have HDR := keep hdr
        have HWQ := keep hwq
        rw [e9] at k1
        clear hdr hrev hen hC6 KF HF1 HF2 HFI HC HV hwq k2 hC HO e8 e9 hmw hwJ hJ
        go_wp2
        refine bodyPost_ret (results_tmp2 rfl _ _ _) rfl ?_
        exact ⟨HDR.out, HWQ.out⟩
end Go.Proofs.YthmmblohfjmbcaaGreat.DP
