/-
  A space beside a pool and other blocks that stay.
-/
import Derived.Test.YthmmblohfjmbcaaGreatEv0
import Derived.Test.YthmmblohfjmbcaaGreatVPlOffer
import Derived.Test.YthmmblohfjmbcaaGreatQDrawSrc
namespace Go.Proofs.YthmmblohfjmbcaaGreat
open Go.RowKit Go.Shelf
set_option linter.unusedVariables false
set_option linter.unusedSimpArgs false
set_option maxRecDepth 100000
namespace Ks
/-- others' blocks have turned -/
theorem Sp.side {N b : Nat} {w w' : World} {R : Ro} {s : Sx} (h : Sp N w R b s) (c : Ch (· = z0) w R w' R) : Sp N w' R b s := by
  have n : ∀ a : Nat, a ≠ 0 → ro a ≠ z0 := fun a h0 e => h0 (congrArg Prod.fst e)
  have n' : ∀ (a : Nat) (k : ByteArray), a ≠ 0 → ((a, k) : Nat × ByteArray) ≠ z0 := fun a k h0 e => h0 (congrArg Prod.fst e)
  obtain ⟨sv, hb1, hb2⟩ := h.blk
  exact ⟨c.lt, ⟨sv, hb1.kept c (n 1 (by decide)), hb2.kept c (n 5 (by decide))⟩, h.main.kept c (n 2 (by decide)), h.dead.kept c (n 3 (by decide)), h.tch.kept c (n 4 (by decide)), fun key' x hx => (h.ent key' x hx).kept c (n' 6 key' (by decide)) (n' 7 key' (by decide))⟩
structure Ev (W w : World) (R : Ro) (b : Nat) (s : Sx) (N : Nat) (p : Nat) (v : Value) (m : Nat) (l : List DV.Ent) (X : List (Nat × Obj)) : Prop where
  sp : Sp N w R b s
  pl : DV.Pl w p v m l
  bel : Below W.heap.size W w
  newS : ∀ k, R k ≠ z0 → W.heap.size ≤ k
  newP : ∀ k ∈ DV.bl p v, W.heap.size ≤ k ∧ R k = z0
  side : ∀ q ∈ X, w.heap[q.1]? = some q.2 ∧ q.1 ∉ DV.bl p v ∧ R q.1 = z0
theorem not_own0 : ¬ Own z0 := fun h => h.1 rfl
section
variable {W w w' : World} {R R' : Ro} {b N N' p m : Nat} {s s' : Sx} {v v' : Value} {l l' : List DV.Ent} {X Y : List (Nat × Obj)}
theorem Ev.plt (h : Ev W w R b s N p v m l X) {k : Nat} (hk : k ∈ DV.bl p v) : k < w.heap.size := by
  rcases List.mem_cons.1 hk with rfl | hk
  · exact (Array.getElem?_eq_some_iff.1 h.pl.1).1
  · exact h.pl.2.1.lt (Option.mem_toList.1 hk)
theorem Ev.below (h : Ev W w R b s N p v m l X) (hb : Below w.heap.size w w') : Ev W w' R b s N p v m l X :=
  ⟨h.sp.bel hb, h.pl.kept (fun k hk => hb.block k (h.plt hk)), h.bel.trans (hb.mono h.bel.size), h.newS, h.newP, fun q hq => ⟨(hb.block q.1 (Array.getElem?_eq_some_iff.1 (h.side q hq).1).1).trans (h.side q hq).1, (h.side q hq).2⟩⟩
theorem Ev.sub (h : Ev W w R b s N p v m l X) (hs : ∀ q ∈ Y, q ∈ X) : Ev W w R b s N p v m l Y := { h with side := fun q hq => h.side q (hs q hq) }
/-- a new block -/
theorem Ev.one (h : Ev W w R b s N p v m l X) {g : Nat} {o : Obj} (hb : Below w.heap.size w w') (hg : w.heap.size ≤ g) (ho : w'.heap[g]? = some o) : Ev W w' R b s N p v m l ((g, o) :: X) :=
  ⟨(h.below hb).sp, (h.below hb).pl, (h.below hb).bel, h.newS, h.newP, fun q hq => by
    rcases List.mem_cons.1 hq with rfl | hq
    · refine ⟨ho, fun e => ?_, Classical.byContradiction fun e => ?_⟩
      · have := h.plt e; dsimp only at this; omega
      · have := h.sp.lt _ e; dsimp only at this; omega
    · exact (h.below hb).side q hq⟩
/-- the space does something -/
theorem Ev.space (h : Ev W w R b s N p v m l X) (hs : Sp N' w' R' b s') (hf : Fs w R w' R') : Ev W w' R' b s' N' p v m l X := by
  have hz : ∀ k, k < w.heap.size → R k = z0 → w'.heap[k]? = w.heap[k]? ∧ R' k = z0 := fun k hk e => by
    obtain ⟨h1, h2⟩ := hf.same k hk (by rw [e]; exact not_own0)
    exact ⟨h1, h2.trans e⟩
  have hlt : ∀ k, k < W.heap.size → k < w.heap.size ∧ R k = z0 := fun k hk => ⟨Nat.lt_of_lt_of_le hk h.bel.size, Classical.byContradiction fun e => by have := h.newS k e; omega⟩
  refine ⟨hs, h.pl.kept (fun k hk => (hz k (h.plt hk) (h.newP k hk).2).1), h.bel.trans ⟨hf.os, hf.tape, hf.output, by have := h.bel.size; have := hf.size; omega, fun k hk => (hz k (hlt k hk).1 (hlt k hk).2).1⟩, fun k hk => ?_, fun k hk => ⟨(h.newP k hk).1, (hz k (h.plt hk) (h.newP k hk).2).2⟩, fun q hq => ?_⟩
  · by_cases hlt' : k < w.heap.size
    · by_cases e : R k = z0
      · exact absurd (hz k hlt' e).2 hk
      · exact h.newS k e
    · have := h.bel.size; omega
  · obtain ⟨a1, a2, a3⟩ := h.side q hq
    obtain ⟨b1, b2⟩ := hz q.1 (Array.getElem?_eq_some_iff.1 a1).1 a3
    exact ⟨b1.trans a1, a2, b2⟩
/-- the pool does something -/
theorem Ev.pool (h : Ev W w R b s N p v m l X) (hp : DV.Pl w' p v' m l') (hf : DV.Fm (DV.bl p v) w (DV.bl p v') w') : Ev W w' R b s N p v' m l' X := by
  have hz : ∀ k, k < w.heap.size → R k ≠ z0 → w'.heap[k]? = w.heap[k]? ∧ k ∉ DV.bl p v' := fun k hk e => hf.2.2 k hk (fun hin => e (h.newP k hin).2)
  have hlt : ∀ k, k < W.heap.size → k < w.heap.size ∧ k ∉ DV.bl p v := fun k hk => ⟨Nat.lt_of_lt_of_le hk h.bel.size, fun e => by have := (h.newP k e).1; omega⟩
  refine ⟨h.sp.side ⟨hf.1.1, hf.1.2.1, hf.1.2.2, hf.2.1, fun k hk e => ⟨(hz k hk e).1, rfl⟩, fun k hk => Nat.lt_of_lt_of_le (h.sp.lt k hk) hf.2.1⟩, hp, h.bel.trans ⟨hf.1.1, hf.1.2.1, hf.1.2.2, by have := h.bel.size; have := hf.2.1; omega, fun k hk => (hf.2.2 k (hlt k hk).1 (hlt k hk).2).1⟩, h.newS, fun k hk => ?_, fun q hq => ?_⟩
  · by_cases hlt' : k < w.heap.size
    · by_cases e : k ∈ DV.bl p v
      · exact h.newP k e
      · exact absurd hk (hf.2.2 k hlt' e).2
    · exact ⟨by have := h.bel.size; omega, Classical.byContradiction fun e => by have := h.sp.lt k e; omega⟩
  · obtain ⟨a1, a2, a3⟩ := h.side q hq
    obtain ⟨b1, b2⟩ := hf.2.2 q.1 (Array.getElem?_eq_some_iff.1 a1).1 a2
    exact ⟨b1.trans a1, b2, a3⟩
end
theorem fd1 (a : Nat) (b c d : Int) (w : World) : (Instr.field 24 (.agg #[.int .u64 (a : Int), .int .i64 b, .int .i64 c, .int .i64 d]) 1).run Tryz.prog w = .ok (.int .i64 b) w := by kernel_rfl
theorem fd2 (a : Nat) (b c d : Int) (w : World) : (Instr.field 24 (.agg #[.int .u64 (a : Int), .int .i64 b, .int .i64 c, .int .i64 d]) 2).run Tryz.prog w = .ok (.int .i64 c) w := by kernel_rfl
theorem fd3 (a : Nat) (b c d : Int) (w : World) : (Instr.field 24 (.agg #[.int .u64 (a : Int), .int .i64 b, .int .i64 c, .int .i64 d]) 3).run Tryz.prog w = .ok (.int .i64 d) w := by kernel_rfl
set_option maxHeartbeats 1000000 in
theorem tooFull_any {N : Nat} {w : World} {R : Ro} {b : Nat} {s : Sx} (h : Sp N w R b s) : Calls Tryz.prog 16 #[pb b] w fun e w' => e = .returned (.bool (decide (0 < s.most) && decide (s.most < s.used))) ∧ Below w.heap.size w w' := by
  have mC := config_any h
  have MU := keep (fun w1 (hb : Below w.heap.size w w1) => used_any (h.bel hb))
  clear h
  generalize s.most = most at *
  generalize s.used = used at *
  have f1 := fd1 s.seed most s.pol s.smp
  by_cases h0 : 0 < most
  · have h0' : decide (0 < most) = true := decide_eq_true h0
    rw [h0', Bool.true_and]
    go_enter Tryz.func16, Tryz.ntmps16
    go_wp2_with fail
    refine mC.mono ?_
    rintro _ w1 ⟨rfl, hb⟩
    have M1 := keep (MU.out w1 hb)
    have HB := keep hb
    clear mC hb MU
    go_wp2_with fail
    refine M1.out.mono ?_
    rintro _ w2 ⟨rfl, rfl⟩
    clear M1
    go_wp2
    go_ret
    exact ⟨by simp, HB.out⟩
  · have h0' : decide (0 < most) = false := decide_eq_false h0
    rw [h0', Bool.false_and]
    go_enter Tryz.func16, Tryz.ntmps16
    go_wp2_with fail
    refine mC.mono ?_
    rintro _ w1 ⟨rfl, hb⟩
    have HB := keep hb
    clear mC hb MU
    go_wp2
    go_ret
    exact ⟨by simp, HB.out⟩
/-- the ranking of use, as a value -/
def rkV (g : Nat) : Value := .func (.func 41) #[] #[.pointer (some ⟨g, 0, none⟩)]
def bxO (b : Nat) : Obj := .cells #[pb b] 26 (0, 0)
set_option maxHeartbeats 1000000 in
theorem byUse_any (w : World) (b : Nat) : Calls Tryz.prog 25 #[pb b] w fun e w' => e = .returned (rkV w.heap.size) ∧ w'.heap[w.heap.size]? = some (bxO b) ∧ Below w.heap.size w w' := by
  go_enter Tryz.func25, Tryz.ntmps25
  go_wp2
  go_ret
  exact ⟨rfl, heap_alloc_new _ _, (Below.refl _ _).alloc (Nat.le_refl _) _⟩
set_option maxHeartbeats 1000000 in
theorem wayOf_use {N : Nat} {w : World} {R : Ro} {b : Nat} {s : Sx} (h : Sp N w R b s) (hp : s.pol = 1) : Calls Tryz.prog 12 #[pb b] w fun e w' => ∃ g, e = .returned (.tuple #[.agg #[.bool true, rkV g], .bool true]) ∧ w.heap.size ≤ g ∧ w'.heap[g]? = some (bxO b) ∧ Below w.heap.size w w' := by
  have MC := keep (fun w1 (hb : Below w.heap.size w w1) => config_any (h.bel hb))
  rw [hp] at MC
  clear h hp
  have f2 := fd2 s.seed s.most 1 s.smp
  obtain ⟨B, hB⟩ : ∃ B, w.heap.size = B := ⟨_, rfl⟩
  obtain ⟨W1, hW1⟩ : ∃ W1, w.alloc (.cells #[.bool false, .nilFunc] 56) = W1 := ⟨_, rfl⟩
  have hb1 : Below w.heap.size w W1 := by rw [← hW1]; exact (Below.refl _ _).alloc (Nat.le_refl _) _
  have g1 : W1.heap[B]? = some (.cells #[.bool false, .nilFunc] 56 (0, 0)) := by rw [← hW1, ← hB]; exact heap_alloc_new _ _
  have B1 := keep hb1
  have G1 := keep g1
  have M1 := keep (MC.out W1 hb1)
  clear hb1 g1 MC
  go_enter Tryz.func12, Tryz.ntmps12
  go_wp2_with fail
  refine M1.out.mono ?_
  rintro _ w2 ⟨rfl, hb2⟩
  have B2 := keep hb2
  clear hb2 M1
  go_wp2_with fail
  refine (byUse_any w2 b).mono ?_
  rintro _ w3 ⟨rfl, hg3, hb3⟩
  have G3 := keep hg3
  have B3 := keep hb3
  have g3 : w3.heap[B]? = some (.cells #[.bool false, .nilFunc] 56 (0, 0)) := ((bel2 B2.out hb3).block B (Array.getElem?_eq_some_iff.1 G1.out).1).trans G1.out
  have c0 : w3.cell? ⟨B, 0, none⟩ = some (.bool false) := by simp [World.cell?, g3]
  have z0 : ∀ i, w3.frozen? ⟨B, i, none⟩ = false := fun i => by simp [World.frozen?, g3]
  obtain ⟨g, hg⟩ : ∃ g, w2.heap.size = g := ⟨_, rfl⟩
  rw [hg] at G3 ⊢
  have g4 : (w3.setCell ⟨B, 0, none⟩ (.bool true)).heap[B]? = some (.cells #[.bool true, .nilFunc] 56 (0, 0)) := DV.cells_set g3
  have c1 : (w3.setCell ⟨B, 0, none⟩ (.bool true)).cell? ⟨B, 1, none⟩ = some .nilFunc := by simp only [World.cell?, g4]; rfl
  have z1 : (w3.setCell ⟨B, 0, none⟩ (.bool true)).frozen? ⟨B, 1, none⟩ = false := by simp only [World.frozen?, g4]; rfl
  obtain ⟨w5, hw5⟩ : ∃ w5, (w3.setCell ⟨B, 0, none⟩ (.bool true)).setCell ⟨B, 1, none⟩ (.func (.func 41) #[] #[.pointer (some ⟨g, 0, none⟩)]) = w5 := ⟨_, rfl⟩
  have g5 : w5.heap[B]? = some (.cells #[.bool true, .func (.func 41) #[] #[.pointer (some ⟨g, 0, none⟩)]] 56 (0, 0)) := by rw [← hw5]; exact DV.cells_set g4
  have hBg : g ≠ B := by
    have := (Array.getElem?_eq_some_iff.1 G1.out).1
    have := B2.out.size
    omega
  have k5 : w5.heap[g]? = some (bxO b) := by rw [← hw5, Below.heap_setCell _ _ _ _ hBg, Below.heap_setCell _ _ _ _ hBg]; exact G3.out
  have b5 : Below w.heap.size w w5 := by rw [← hw5]; exact ((bel2 (bel2 B1.out B2.out) B3.out).setCell (by show w.heap.size ≤ B; omega) _).setCell (by show w.heap.size ≤ B; omega) _
  have hle : w.heap.size ≤ g := by have := B1.out.size; have := B2.out.size; omega
  have HF : Kept (w.heap.size ≤ g ∧ w5.heap[g]? = some (bxO b) ∧ Below w.heap.size w w5) := ⟨hle, k5, b5⟩
  have G5 := keep g5
  unfold rkV
  have sf : ∀ (w : World) (a : Addr), (store a (.func (.func 41) #[] #[.pointer (some ⟨g, 0, none⟩)])).run Tryz.prog w = stored Tryz.prog w a (.func (.func 41) #[] #[.pointer (some ⟨g, 0, none⟩)]) .plain := fun w a => run_store _ w a _ _ rfl
  clear hg3 hb3 k5 b5 hle g5
  go_wp2
  refine bodyPost_ret (DV.results_ct rfl _ w5 B 56 #[.bool true, .func (.func 41) #[] #[.pointer (some ⟨g, 0, none⟩)]] (0, 0) _ rfl G5.out Tryz.underlying56 rfl (by kernel_rfl)) rfl ?_
  exact ⟨g, rfl, HF.out⟩
set_option maxHeartbeats 1000000 in
theorem rank_here {N : Nat} {w : World} {R : Ro} {b g : Nat} {s : Sx} (h : Sp N w R b s) (hg : w.heap[g]? = some (bxO b)) (key : ByteArray) (hk : key.size ≤ maxLen) (x : En) (hl : s.lm key = some (some ⟨x.e, 0, none⟩)) (hx : s.E key = some x) (hp : pas s.now x = false) (hN : N ≤ 2600000000000) :
    Calls Tryz.prog 41 #[.string key, .pointer (some ⟨g, 0, none⟩)] w fun e w' => e = .returned (.tuple #[.int .u64 (x.stamp : Nat), .bool true]) ∧ ∃ R', Sp N w' R' b s ∧ Fs w R w' R' := by
  have MS := keep (stamp_here h key hk x hl hx hp hN)
  have c0 : w.cell? ⟨g, 0, none⟩ = some (pb b) := by simp [World.cell?, hg, bxO]
  clear h hg hk hl hx hp hN
  go_enter Tryz.func41, Tryz.ntmps41
  go_wp2_with fail
  refine MS.out.mono ?_
  rintro _ w1 ⟨rfl, R1, s1, f1⟩
  have S1 := keep s1
  have F1 := keep f1
  clear MS s1 f1 c0
  go_wp2
  refine bodyPost_ret (results_tmp2 rfl _ _ _) rfl ?_
  exact ⟨rfl, R1, S1.out, F1.out⟩
set_option maxHeartbeats 1000000 in
theorem weigh_here {W w : World} {R : Ro} {b : Nat} {s : Sx} {N p : Nat} {v : Value} {m : Nat} {l : List DV.Ent} {X : List (Nat × Obj)} {g : Nat} (h : Ev W w R b s N p v m l X) (hg : (g, bxO b) ∈ X) (key : ByteArray) (hk : key.size ≤ maxLen) (x : En) (hl : s.lm key = some (some ⟨x.e, 0, none⟩)) (hx : s.E key = some x) (hp : pas s.now x = false) (hN : N ≤ 2600000000000) (hgd : DV.Good l) (hlm : l.length ≤ m) (hm : m ≤ 16) :
    Calls Tryz.prog 28 #[pb p, .string key, rkV g] w fun e w' => e = .returned (.tuple #[]) ∧ ∃ R' v', Ev W w' R' b s N p v' m (DV.offL m (key, (x.stamp : Int)) l) X := by
  have MR := keep (rank_here h.sp (h.side _ hg).1 key hk x hl hx hp hN)
  have H := keep h
  have HGD := keep hgd
  clear h hg hk hl hx hp hN hgd
  unfold rkV
  go_enter Tryz.func28, Tryz.ntmps28
  go_wp2_with fail
  refine MR.out.mono ?_
  rintro _ w1 ⟨rfl, R1, s1, f1⟩
  have h1 := H.out.space s1 f1
  have MO := keep (DV.offer_any w1 p m v l (key, (x.stamp : Int)) h1.pl HGD.out hlm hm)
  have H1 := keep h1
  clear MR s1 f1 h1
  go_wp2_with fail
  refine MO.out.mono ?_
  rintro _ w2 ⟨rfl, v2, p2, f2⟩
  have H2 := keep (H1.out.pool p2 f2)
  clear MO p2 f2
  go_wp2
  first | exact ⟨rfl, R1, v2, H2.out⟩ | (go_end0; exact ⟨rfl, R1, v2, H2.out⟩) | (go_ret; exact ⟨rfl, R1, v2, H2.out⟩)
end Ks
end Go.Proofs.YthmmblohfjmbcaaGreat
