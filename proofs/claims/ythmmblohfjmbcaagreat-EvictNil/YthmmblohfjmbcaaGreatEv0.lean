/-
  Contracts over this program: texts as a space sees them; what a space tells of its config, and who is sampled.
-/
import Derived.Test.YthmmblohfjmbcaaGreatKsLenE
import Derived.Test.YthmmblohfjmbcaaGreatKsMore
import Derived.Test.YthmmblohfjmbcaaGreatVlCalls
import Derived.Test.YthmmblohfjmbcaaGreatPDictSamp
namespace Go.Proofs.YthmmblohfjmbcaaGreat
open Go.RowKit Go.Shelf
set_option linter.unusedVariables false
set_option linter.unusedSimpArgs false
set_option maxRecDepth 100000
namespace Ks
open Vl
set_option maxHeartbeats 400000 in
theorem text_any (w : World) (s : ByteArray) : Calls Tryz.prog 22 #[.string s] w fun e w' => e = .returned (pb w.heap.size) ∧ Hol w' w.heap.size 95 (.string s) ∧ Below w.heap.size w w' := by
  go_enter Tryz.func22, Tryz.ntmps22
  go_wp2
  go_ret
  exact ⟨rfl, heap_alloc_new _ _, (Below.refl _ _).alloc (Nat.le_refl _) _⟩
set_option maxHeartbeats 400000 in
theorem astext_text {w : World} {b : Nat} {s : ByteArray} (h : Hol w b 95 (.string s)) : Calls Tryz.prog 36 #[pb b] w fun e w' => e = .returned (.tuple #[.string s, .bool true]) ∧ w' = w := by
  have mC := content_some h
  have ha : ∀ w : World, (Instr.typeAssert (.iface 95 (.string s)) 97 95 true).run Tryz.prog w = .ok (.tuple #[.string s, .bool true]) w := fun _ => by kernel_rfl
  clear h
  go_enter Tryz.func36, Tryz.ntmps36
  go_wp2_with fail
  refine mC.mono ?_
  rintro _ w1 ⟨rfl, rfl⟩
  go_wp2
  refine bodyPost_ret (results_tmp2 rfl _ _ _) rfl ?_
  exact ⟨rfl, rfl⟩
def viT (b : Nat) (s : ByteArray) : Vi := ⟨b, fun k => k = b, s, false, (s.size : Int), fun w => Hol w b 95 (.string s)⟩
theorem vs_text {w : World} {b : Nat} {s : ByteArray} (h : Hol w b 95 (.string s)) (hs : s.size ≤ maxLen) : Vs w (viT b s) := by
  refine ⟨fun k hk => ?_, hs, fun w' hz hk => ?_⟩
  · have hk' : k = b := hk
    rw [hk']
    exact (Array.getElem?_eq_some_iff.1 h).1
  · have h' : Hol w' b 95 (.string s) := (hk b rfl).trans h
    refine ⟨(astext_text h').mono ?_, (empty_text h').mono ?_, (cost_text h' hs).mono ?_, h'⟩
    · rintro _ w1 ⟨rfl, rfl⟩; exact ⟨⟨_, rfl⟩, Below.refl _ _⟩
    · rintro _ w1 ⟨rfl, rfl⟩; exact ⟨rfl, Below.refl _ _⟩
    · rintro _ w1 ⟨rfl, rfl⟩; exact ⟨rfl, Below.refl _ _⟩
theorem Sp.adopt {N b : Nat} {w : World} {R : Ro} {s : Sx} (h : Sp N w R b s) (v : Vi) (hv : Vs w v) (hz : ∀ k, v.own k → R k = z0) (key : ByteArray) : ∃ R1, Sp N w R1 b s ∧ (∀ k, v.own k → R1 k = (7, key)) ∧ ∀ k, ¬ v.own k → R1 k = R k := by
  classical
  have c : Ch (· = z0) w R w (fun k => if v.own k then (7, key) else R k) := by
    refine ⟨rfl, rfl, rfl, Nat.le_refl _, fun k hk hn => ⟨rfl, if_neg (fun e => hn (hz k e))⟩, fun k hk => ?_⟩
    by_cases e : v.own k
    · exact hv.1 k e
    · rw [if_neg e] at hk; exact h.lt k hk
  have n : ∀ a : Nat, a ≠ 0 → ro a ≠ z0 := fun a h0 e => h0 (congrArg Prod.fst e)
  have n' : ∀ (a : Nat) (k : ByteArray), a ≠ 0 → ((a, k) : Nat × ByteArray) ≠ z0 := fun a k h0 e => h0 (congrArg Prod.fst e)
  obtain ⟨sv, hb1, hb2⟩ := h.blk
  exact ⟨_, ⟨c.lt, ⟨sv, hb1.kept c (n 1 (by decide)), hb2.kept c (n 5 (by decide))⟩, h.main.kept c (n 2 (by decide)), h.dead.kept c (n 3 (by decide)), h.tch.kept c (n 4 (by decide)), fun key' x hx => (h.ent key' x hx).kept c (n' 6 key' (by decide)) (n' 7 key' (by decide))⟩, fun k hk => if_pos hk, fun k hk => if_neg hk⟩
set_option maxHeartbeats 400000 in
theorem config_any {N : Nat} {w : World} {R : Ro} {b : Nat} {s : Sx} (h : Sp N w R b s) : Calls Tryz.prog 24 #[pb b] w fun e w' => e = .returned (.agg #[.int .u64 s.seed, .int .i64 s.most, .int .i64 s.pol, .int .i64 s.smp]) ∧ Below w.heap.size w w' := by
  obtain ⟨sv, hpb, _⟩ := h.blk
  obtain ⟨d0, d1, d2, d3, _⟩ := hpb.cells
  have hbl : b < w.heap.size := World.block_lt_of_cell? _ _ d0
  have hne : ¬ b = w.heap.size := by omega
  clear h hpb
  go_enter Tryz.func24, Tryz.ntmps24
  go_wp2
  refine bodyPost_ret (results_cell_row rfl _ _ _ _ _ _ _ rfl (heap_alloc_new _ _) Tryz.underlying24 rfl (by kernel_rfl)) rfl ?_
  exact ⟨rfl, (Below.refl _ _).alloc (Nat.le_refl _) _⟩
/-- who is sampled: a key that is there, if any is -/
def Smp (lm : ByteArray → Option (Option Addr)) (n : Nat) (e : Ending) : Prop := (n = 0 ∧ e = .returned (.tuple #[.string { data := #[] }, .bool false])) ∨ ∃ key a, lm key = some a ∧ e = .returned (.tuple #[.string key, .bool true])
theorem pd_sample {p N : Nat} {w : World} {R : Ro} {seed bm : Nat} {lm : ByteArray → Option (Option Addr)} {n : Nat} (h : Pd p N w R seed bm lm n) (hN : N ≤ 2600000000000) (x : Nat) (hx : x < Dw.M) :
    Calls Tryz.prog 49 #[pb bm, .int .u64 x] w fun e w' => Smp lm n e ∧ Below w.heap.size w w' := by
  obtain ⟨h, r, s, h1, h2, h3, h4, h5⟩ := h
  refine (DP.sample_any w r bm seed s h2 hN x hx).mono ?_
  rintro e w' ⟨hd, q, rfl⟩
  refine ⟨?_, below_drewN (Below.refl _ _) _⟩
  rcases hd with ⟨h0, rfl⟩ | ⟨en, hen, rfl⟩
  · exact .inl ⟨by rw [← h5]; unfold DP.ln; rw [h0]; rfl, rfl⟩
  · have hm : en ∈ Dc.all s := by
      rw [← Dc.opened_all]
      unfold Dc.draw at hen
      split at hen
      · rename_i c hc
        exact List.mem_flatten.2 ⟨c, List.mem_of_getElem? hc, List.mem_of_getElem? hen⟩
      · cases hen
    cases e : lm en.1 with
    | some a => exact .inr ⟨en.1, a, e, rfl⟩
    | none =>
      have h6 := h4 en.1
      rw [e] at h6
      exact absurd (List.mem_map.2 ⟨en, hm, rfl⟩) ((Dc.look_none en.1).1 h6)
set_option maxHeartbeats 1000000 in
theorem sample_all {N : Nat} {w : World} {R : Ro} {b : Nat} {s : Sx} (h : Sp N w R b s) (hN : N ≤ 2600000000000) (hF : Fresh s) (x : Nat) (hx : x < Dw.M) :
    Calls Tryz.prog 29 #[pb b, .bool true, .int .u64 x] w fun e w' => Smp s.lm s.nm e ∧ Below w.heap.size w w' := by
  have mL := living_none h hN hF
  have MS := keep (fun w1 (hb : Below w.heap.size w w1) => pd_sample (h.bel hb).main hN x hx)
  generalize hQ : (fun e w' => Smp s.lm s.nm e ∧ Below w.heap.size w w') = Q
  have HQ : Kept (∀ e w1 w2, Smp s.lm s.nm e → Below w.heap.size w w1 → Below w1.heap.size w1 w2 → Q e w2) := by rw [← hQ]; exact fun e w1 w2 h1 h2 h3 => ⟨h1, bel2 h2 h3⟩
  clear h hN hF hQ hx
  go_enter Tryz.func29, Tryz.ntmps29
  go_wp2_with fail
  refine mL.mono ?_
  rintro _ w1 ⟨rfl, hb⟩
  have M1 := keep (MS.out w1 hb)
  have HB := keep hb
  clear mL hb MS
  go_wp2_with fail
  refine M1.out.mono ?_
  rintro e w2 ⟨hs, hb2⟩
  have HS := keep hs
  have HB2 := keep hb2
  rcases hs with ⟨_, rfl⟩ | ⟨key, a, _, rfl⟩
  all_goals
    clear hb2 M1
    go_wp2
    exact HQ.out _ _ _ HS.out HB.out HB2.out
set_option maxHeartbeats 1000000 in
theorem sample_mortal {N : Nat} {w : World} {R : Ro} {b : Nat} {s : Sx} (h : Sp N w R b s) (hN : N ≤ 2600000000000) (hF : Fresh s) (x : Nat) (hx : x < Dw.M) :
    Calls Tryz.prog 29 #[pb b, .bool false, .int .u64 x] w fun e w' => Smp s.ld s.nd e ∧ Below w.heap.size w w' := by
  have mL := living_none h hN hF
  have MS := keep (fun w1 (hb : Below w.heap.size w w1) => pd_sample (h.bel hb).dead hN x hx)
  generalize hQ : (fun e w' => Smp s.ld s.nd e ∧ Below w.heap.size w w') = Q
  have HQ : Kept (∀ e w1 w2, Smp s.ld s.nd e → Below w.heap.size w w1 → Below w1.heap.size w1 w2 → Q e w2) := by rw [← hQ]; exact fun e w1 w2 h1 h2 h3 => ⟨h1, bel2 h2 h3⟩
  clear h hN hF hQ hx
  go_enter Tryz.func29, Tryz.ntmps29
  go_wp2_with fail
  refine mL.mono ?_
  rintro _ w1 ⟨rfl, hb⟩
  have M1 := keep (MS.out w1 hb)
  have HB := keep hb
  clear mL hb MS
  go_wp2_with fail
  refine M1.out.mono ?_
  rintro e w2 ⟨hs, hb2⟩
  have HS := keep hs
  have HB2 := keep hb2
  rcases hs with ⟨_, rfl⟩ | ⟨key, a, _, rfl⟩
  all_goals
    clear hb2 M1
    go_wp2
    exact HQ.out _ _ _ HS.out HB.out HB2.out
end Ks
end Go.Proofs.YthmmblohfjmbcaaGreat
