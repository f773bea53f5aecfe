/-
  Contracts over this program: the small calls of a space.
-/
import Derived.Test.YthmmblohfjmbcaaGreatKsMem
import Derived.Laws.AppendOwn
namespace Go.Proofs.YthmmblohfjmbcaaGreat
open Go.RowKit Go.Shelf
set_option linter.unusedVariables false
set_option maxRecDepth 100000
namespace Ks
theorem Ch.drew {A : Nat × ByteArray → Prop} {w w' : World} {R R' : Ro} (h : Ch A w R w' R') : Ch A w R w'.drew R' := ⟨h.os, h.tape, h.output, h.size, h.same, h.lt⟩
theorem Sp.drew {N : Nat} {w : World} {R : Ro} {b : Nat} {s : Sx} (h : Sp N w R b s) : Sp N w.drew R b s := h.bel (Below.refl _ _).drew
theorem own6 {key : ByteArray} : ∀ x, x = (6, key) → Own x := by rintro x rfl; exact ⟨(by decide : (6 : Nat) ≠ 0), (by decide : (6 : Nat) ≠ 7)⟩
/-- one cell of the struct is written -/
theorem Sp.cell {N : Nat} {w w' : World} {R : Ro} {b : Nat} {s : Sx} (h : Sp N w R b s) (hR : R b = ro 1) (i : Nat) (u : Value) (now : Int) (uses : Nat) (used : Int) (hw : w'.heap = (w.setCell ⟨b, i, none⟩ u).heap ∧ w'.os = w.os ∧ w'.tape = w.tape ∧ w'.output = w.output) (hb : ∀ sv, Pb w R b s sv → Pb w' R b { s with now := now, uses := uses, used := used } sv) :
    Sp N w' R b { s with now := now, uses := uses, used := used } ∧ Ch (· = ro 1) w R w' R := by
  have c : Ch (· = ro 1) w R (w.setCell ⟨b, i, none⟩ u) R := Ch.set u h.lt hR
  have c' : Ch (· = ro 1) w R w' R := ⟨hw.2.1, hw.2.2.1, hw.2.2.2, by rw [hw.1]; exact c.size, fun k hk hn => by rw [hw.1]; exact c.same k hk hn, fun k hk => by rw [hw.1]; exact c.lt k hk⟩
  exact ⟨h.own c' now uses used hb, c'⟩
/-- one cell of an entry is written -/
theorem Sp.put {N : Nat} {w : World} {R : Ro} {b : Nat} {s : Sx} {key : ByteArray} {x : En} (h : Sp N w R b s) (hP : Pe w R key x) (i : Nat) (u : Value) (x' : En) (he : x'.e = x.e) (hv : x'.v = x.v) (hc : EnB (w.setCell ⟨x.e, i, none⟩ u) x') :
    Sp N (w.setCell ⟨x.e, i, none⟩ u) R b { s with E := upe s.E key (some x') } ∧ Pe (w.setCell ⟨x.e, i, none⟩ u) R key x' ∧ Ch (· = (6, key)) w R (w.setCell ⟨x.e, i, none⟩ u) R := by
  have c : Ch (· = (6, key)) w R (w.setCell ⟨x.e, i, none⟩ u) R := Ch.set u h.lt hP.1.1
  have hp : Pe (w.setCell ⟨x.e, i, none⟩ u) R key x' := by
    refine ⟨⟨by rw [he]; exact hP.1.1, hc⟩, ?_⟩
    rw [hv]
    exact hP.2.1.ch hP.2.2 c (fun e => absurd (congrArg Prod.fst e) (show (7 : Nat) ≠ 6 by decide))
  exact ⟨h.entry key c x' hp, hp, c⟩
def mor (x : En) : Bool := x.dl != 0
def pas (now : Int) (x : En) : Bool := mor x && decide (x.dl ≤ now)
set_option maxHeartbeats 400000 in
theorem mortal_any {w : World} {x : En} (h : EnB w x) : Calls Tryz.prog 60 #[.pointer (some ⟨x.e, 0, none⟩)] w fun e w' => e = .returned (.bool (mor x)) ∧ w' = w := by
  obtain ⟨_, _, c2, _, _⟩ := h.cells
  clear h
  unfold mor
  obtain ⟨xe, xv, xs, dl, xc⟩ := x
  dsimp only at *
  go_enter Tryz.func60, Tryz.ntmps60
  go_wp2
  go_ret
  exact ⟨rfl, rfl⟩
set_option maxHeartbeats 1000000 in
theorem past_any {w : World} {R : Ro} {b : Nat} {s : Sx} {sv : Value} {x : En} (hb : Pb w R b s sv) (h : EnB w x) : Calls Tryz.prog 51 #[.pointer (some ⟨b, 0, none⟩), .pointer (some ⟨x.e, 0, none⟩)] w fun e w' => e = .returned (.bool (pas s.now x)) ∧ Below w.heap.size w w' := by
  obtain ⟨_, _, c2, _, _⟩ := h.cells
  obtain ⟨_, _, _, _, d4, _⟩ := hb.cells
  have mM : ∀ n, Calls Tryz.prog 60 #[.pointer (some ⟨x.e, 0, none⟩)] (w.drewN n) fun e w'' => e = .returned (.bool (mor x)) ∧ w'' = w.drewN n := fun n => mortal_any (w := w.drewN n) (x := x) h
  clear h hb
  obtain ⟨seed, most, pol, smp, now, uses, used, bm, bd, tb, lm, nm, ld, nd, tn, T, st, E⟩ := s
  unfold pas
  dsimp only at *
  cases hm : mor x
  · rw [hm] at mM
    have MM := keep mM
    clear mM hm
    go_enter Tryz.func51, Tryz.ntmps51
    go_wp2
    go_quiet (first | (go_at_call 60; refine Calls.quiet_of_same (MM.out _)))
    go_wp2
    go_ret
    exact ⟨rfl, below_drewN (Below.refl _ _) _⟩
  · rw [hm] at mM
    have MM := keep mM
    clear mM hm
    obtain ⟨xe, xv, xs, dl, xc⟩ := x
    dsimp only at *
    go_enter Tryz.func51, Tryz.ntmps51
    go_wp2
    go_quiet (first | (go_at_call 60; refine Calls.quiet_of_same (MM.out _)))
    go_wp2
    go_ret
    exact ⟨by simp, below_drewN (Below.refl _ _) _⟩
set_option maxHeartbeats 1000000 in
theorem charge_any {N : Nat} {w : World} {R : Ro} {b : Nat} {s : Sx} {key : ByteArray} {x : En} (h : Sp N w R b s) (hx : s.E key = some x) (c : Int) :
    Calls Tryz.prog 67 #[.pointer (some ⟨b, 0, none⟩), .pointer (some ⟨x.e, 0, none⟩), .int .i64 c] w fun e w' => e = .returned (.tuple #[]) ∧ Sp N w' R b { s with used := wrap64 (s.used + wrap64 (c - x.cost)), E := upe s.E key (some { x with cost := c }) } ∧ Fs w R w' R := by
  have hP := h.ent key x hx
  obtain ⟨sv, hpb, _⟩ := h.blk
  obtain ⟨_, _, c2, c3, cf⟩ := hP.1.2.cells
  obtain ⟨_, _, _, _, _, _, d6, _, _, _, _, df⟩ := hpb.cells
  have hne : ¬ b = x.e := fun e => by have := hpb.1; rw [e, hP.1.1] at this; exact absurd (congrArg Prod.fst this) (by show (6 : Nat) ≠ 1; decide)
  have hne' : ¬ x.e = b := fun e => hne e.symm
  have H := keep h
  have HPB := keep hpb
  have HP := keep hP
  clear h hP hpb
  go_enter Tryz.func67, Tryz.ntmps67
  go_wp2
  go_region
  go_wp2
  go_end0
  obtain ⟨s1, c1⟩ := H.out.cell HPB.out.1 (w' := w.setCell ⟨b, 6, none⟩ (.int .i64 (wrap64 (s.used + wrap64 (c - x.cost))))) 6 _ s.now s.uses (wrap64 (s.used + wrap64 (c - x.cost))) ⟨rfl, rfl, rfl, rfl⟩ (fun sv hp => ⟨hp.1, DP.cells_setCell hp.2⟩)
  have pe := HP.out.kept c1 (key_ro (by decide)) (key_ro (by decide))
  obtain ⟨s2, p2, c2⟩ := s1.put pe 3 (.int .i64 c) { x with cost := c } rfl rfl (DP.cells_setCell pe.1.2)
  exact ⟨rfl, s2.drew, ((c1.mono (own_ro (by decide) (by decide))).trans (c2.mono own6)).drew⟩
set_option maxHeartbeats 400000 in
theorem use_any {N : Nat} {w : World} {R : Ro} {b : Nat} {s : Sx} {key : ByteArray} {x : En} (h : Sp N w R b s) (hx : s.E key = some x) :
    Calls Tryz.prog 64 #[.pointer (some ⟨b, 0, none⟩), .pointer (some ⟨x.e, 0, none⟩)] w fun e w' => e = .returned (.tuple #[]) ∧ Sp N w' R b { s with uses := (s.uses + 1) % 18446744073709551616, E := upe s.E key (some { x with stamp := (s.uses + 1) % 18446744073709551616 }) } ∧ Fs w R w' R := by
  have hP := h.ent key x hx
  obtain ⟨sv, hpb, _⟩ := h.blk
  obtain ⟨_, c1, _, _, cf⟩ := hP.1.2.cells
  obtain ⟨_, _, _, _, _, d5, _, _, _, _, _, df⟩ := hpb.cells
  have hne : ¬ b = x.e := fun e => by have := hpb.1; rw [e, hP.1.1] at this; exact absurd (congrArg Prod.fst this) (by show (6 : Nat) ≠ 1; decide)
  have hne' : ¬ x.e = b := fun e => hne e.symm
  have H := keep h
  have HPB := keep hpb
  have HP := keep hP
  clear h hP hpb
  go_enter Tryz.func64, Tryz.ntmps64
  have hu : IntKind.u64.wrap ((s.uses : Int) + 1) = (((s.uses + 1) % 18446744073709551616 : Nat) : Int) := by rw [IntKind.wrap_u64]; omega
  go_wp2
  go_end0
  obtain ⟨s1, c1⟩ := H.out.cell HPB.out.1 (w' := w.setCell ⟨b, 5, none⟩ (.int .u64 (((s.uses + 1) % 18446744073709551616 : Nat) : Int))) 5 _ s.now ((s.uses + 1) % 18446744073709551616) s.used ⟨rfl, rfl, rfl, rfl⟩ (fun sv hp => ⟨hp.1, DP.cells_setCell hp.2⟩)
  have pe := HP.out.kept c1 (key_ro (by decide)) (key_ro (by decide))
  obtain ⟨s2, p2, c2⟩ := s1.put pe 1 (.int .u64 (((s.uses + 1) % 18446744073709551616 : Nat) : Int)) { x with stamp := (s.uses + 1) % 18446744073709551616 } rfl rfl (DP.cells_setCell pe.1.2)
  exact ⟨rfl, s2, (c1.mono (own_ro (by decide) (by decide))).trans (c2.mono own6)⟩
end Ks
end Go.Proofs.YthmmblohfjmbcaaGreat
