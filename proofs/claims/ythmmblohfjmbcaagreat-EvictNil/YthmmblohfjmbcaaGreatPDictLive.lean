/-
  Contracts over this program: the live buckets.
-/
import Derived.Test.YthmmblohfjmbcaaGreatPDictTale
import Derived.Test.YthmmblohfjmbcaaGreatPDictBack
namespace Go.Proofs.YthmmblohfjmbcaaGreat.DP
open Go.RowKit Go.Shelf
set_option maxHeartbeats 400000 in
theorem liveb_at (w : World) (r : Roles) (b seed n : Nat) (s : Dc.St ByteArray (Option Addr)) (hD : Dct w r b seed n s) (hp : s.pos ≤ s.old.length) (hm0 : s.old.length ≤ 5400000000000) (hm1 : s.young.length ≤ 5400000000000) :
    Calls Tryz.prog 72 #[.pointer (some ⟨b, 0, none⟩)] w fun e w' => e = .returned (.int .i64 ((Dc.opened s).length : Nat)) ∧ ∃ q, w' = w.drewN q := by
  obtain ⟨ao, ca, bo, cb, h4, h5, h3⟩ := hD.cells
  obtain ⟨c0, c1, c2, c3, c4, cf⟩ := five h3
  have hl : (((Dc.opened s).length : Nat) : Int) = (s.old.length : Int) - (s.pos : Int) + (s.young.length : Int) := by unfold Dc.opened; rw [List.length_append, List.length_drop]; omega
  have hw1 : IntKind.i64.wrap ((s.old.length : Int) - (s.pos : Int)) = (s.old.length : Int) - (s.pos : Int) := by rw [IntKind.wrap_i64]; omega
  have hw2 : IntKind.i64.wrap ((s.old.length : Int) - (s.pos : Int) + (s.young.length : Int)) = (s.old.length : Int) - (s.pos : Int) + (s.young.length : Int) := by rw [IntKind.wrap_i64]; omega
  rw [hl]
  clear hD h4 h5 h3 c0 c1 cf hl
  go_enter Tryz.func72, Tryz.ntmps72
  go_wp2_with fail
  go_quiet (fail)
  go_wp2
  go_ret
  exact ⟨rfl, nq, rfl⟩
set_option maxHeartbeats 1000000 in
theorem live_at (w : World) (r : Roles) (b seed n : Nat) (s : Dc.St ByteArray (Option Addr)) (hD : Dct w r b seed n s) (hp : s.pos ≤ s.old.length) (hm0 : s.old.length ≤ 5400000000000) (hm1 : s.young.length ≤ 5400000000000) (i : Nat) (c : List Ent) (hi : (Dc.opened s)[i]? = some c) :
    Calls Tryz.prog 73 #[.pointer (some ⟨b, 0, none⟩), .int .i64 i] w fun e w' => (∃ ao cap, e = .returned (.slice ao c.length cap) ∧ Chn w (.slice ao c.length cap) c ∧ ∀ k, (Value.slice ao c.length cap).ownBlock = some k → r k ≠ (0, 0)) ∧ ∃ q, w' = w.drewN q := by
  obtain ⟨ao, ca, bo, cb, h4, h5, h3⟩ := hD.cells
  obtain ⟨c0, c1, c2, c3, c4, cf⟩ := five h3
  have hw1 : IntKind.i64.wrap ((s.old.length : Int) - (s.pos : Int)) = (s.old.length : Int) - (s.pos : Int) := by rw [IntKind.wrap_i64]; omega
  have hil := (List.getElem?_eq_some_iff.1 hi).1
  have hll : (Dc.opened s).length = s.old.length - s.pos + s.young.length := by unfold Dc.opened; rw [List.length_append, List.length_drop]
  rw [hll] at hil
  clear hD h3 c0 c1 cf hll
  unfold Dc.opened at hi
  by_cases hlt : i < s.old.length - s.pos
  · rw [List.getElem?_append_left (by rw [List.length_drop]; exact hlt), List.getElem?_drop] at hi
    obtain ⟨g, ca', e4, hrg, hgl⟩ := h4.form (by omega)
    have e5 : ao = some ⟨g, 0, none⟩ := by injection e4
    subst e5
    clear e4
    obtain ⟨v, hv1, hv2, hv3⟩ := h4.at hi
    obtain ⟨co, cc, rfl⟩ := chn_len hv2
    have HV := keep hv2
    have HR : Kept (∀ k, (Value.slice co c.length cc).ownBlock = some k → r k ≠ (0, 0)) := fun k hk => by rw [hv3 k hk]; simp
    clear hv2 hv3 h4 h5 hi
    have l1 : ¬ (s.old.length : Int) - (s.pos : Int) ≤ (i : Int) := by omega
    have d1 : decide ((s.old.length : Int) - (s.pos : Int) ≤ (i : Int)) = false := decide_eq_false l1
    have hw2 : IntKind.i64.wrap ((s.pos : Int) + (i : Int)) = ((s.pos + i : Nat) : Int) := by rw [IntKind.wrap_i64]; omega
    have j0 : (0 : Int) ≤ ((s.pos + i : Nat) : Int) := by omega
    have j1 : ((s.pos + i : Nat) : Int) < (s.old.length : Int) := by omega
    generalize s.pos + i = j at *
    go_enter Tryz.func73, Tryz.ntmps73
    go_wp2_with fail
    go_quiet (fail)
    go_wp2_with fail
    go_quiet (fail)
    go_wp2
    go_ret
    exact ⟨⟨co, cc, rfl, HV.out, HR.out⟩, _, World.drewN_drewN _ _ _⟩
  · rw [List.getElem?_append_right (by rw [List.length_drop]; omega), List.length_drop] at hi
    obtain ⟨g, ca', e4, hrg, hgl⟩ := h5.form (by omega)
    have e5 : bo = some ⟨g, 0, none⟩ := by injection e4
    subst e5
    clear e4
    obtain ⟨v, hv1, hv2, hv3⟩ := h5.at hi
    obtain ⟨co, cc, rfl⟩ := chn_len hv2
    have HV := keep hv2
    have HR : Kept (∀ k, (Value.slice co c.length cc).ownBlock = some k → r k ≠ (0, 0)) := fun k hk => by rw [hv3 k hk]; simp
    clear hv2 hv3 h4 h5 hi
    have l1 : (s.old.length : Int) - (s.pos : Int) ≤ (i : Int) := by omega
    have d1 : decide ((s.old.length : Int) - (s.pos : Int) ≤ (i : Int)) = true := decide_eq_true l1
    have hw2 : IntKind.i64.wrap ((i : Int) - ((s.old.length : Int) - (s.pos : Int))) = ((i - (s.old.length - s.pos) : Nat) : Int) := by rw [IntKind.wrap_i64]; omega
    have j0 : (0 : Int) ≤ ((i - (s.old.length - s.pos) : Nat) : Int) := by omega
    have j1 : ((i - (s.old.length - s.pos) : Nat) : Int) < (s.young.length : Int) := by omega
    generalize i - (s.old.length - s.pos) = j at *
    go_enter Tryz.func73, Tryz.ntmps73
    go_wp2_with fail
    go_quiet (fail)
    go_wp2
    go_ret
    exact ⟨⟨co, cc, rfl, HV.out, HR.out⟩, nq, rfl⟩
end Go.Proofs.YthmmblohfjmbcaaGreat.DP
