/-
  Contracts over this program: where no key is past: which are past, what is swept, how many there are.
-/

import Derived.Test.YthmmblohfjmbcaaGreatKsSort0
import Derived.Test.YthmmblohfjmbcaaGreatPDictEach
namespace Go.Proofs.YthmmblohfjmbcaaGreat
open Go.RowKit Go.Shelf
set_option linter.unusedVariables false
set_option maxRecDepth 100000
attribute [local go_sem] Oper.semAt_some
namespace Ks
open DP in
def PaI (W : World) (b : Nat) (M : Nat → Prop) (m : Nat) (w : World) : Prop :=
  (¬ M W.heap.size ∧ w.heap[W.heap.size]? = some (.cells #[.pointer (some ⟨b, 0, none⟩)] 26 (0, 0))) ∧ (¬ M (W.heap.size + 1) ∧ w.heap[W.heap.size + 1]? = some (.cells #[.slice none 0 0] 85 (0, 0))) ∧
    Below W.heap.size W w ∧ ∀ k, M k → W.heap.size ≤ k
theorem PaI.abd {W : World} {b : Nat} : Abd (PaI W b) := by
  rintro M M' m A B ⟨⟨h1, h1'⟩, ⟨h2, h2'⟩, h5, h6⟩ hs hx
  have keepB : ∀ k o, ¬ M k → A.heap[k]? = some o → ¬ M' k ∧ B.heap[k]? = some o := fun k o hn ho => by
    have hl := (Array.getElem?_eq_some_iff.1 ho).1
    exact ⟨hx.lt hl hn, (hs.2.2 k hl hn).trans ho⟩
  exact ⟨keepB _ _ h1 h1', keepB _ _ h2 h2', h5.trans (hs.below h5.size h6), hx.ge h5.size h6⟩
/-- no key is past -/
def Fresh (s : Sx) : Prop := ∀ key a, s.ld key = some a → ∃ x, a = some ⟨x.e, 0, none⟩ ∧ s.E key = some x ∧ pas s.now x = false
set_option maxHeartbeats 2000000 in
theorem pastKeys_none {N : Nat} {W : World} {R : Ro} {B : Nat} {s : Sx} (h : Sp N W R B s) (hN : N ≤ 2600000000000) (hF : Fresh s) :
    Calls Tryz.prog 31 #[pb B] W fun e w' => e = .returned (.slice none 0 0) ∧ Below W.heap.size W w' := by
  obtain ⟨hh, r, sd, hH, hd, hr, hlk, hln⟩ := h.dead
  obtain ⟨sv, hpb, _⟩ := h.blk
  obtain ⟨es, hes⟩ : ∃ es, Dc.all sd = es := ⟨_, rfl⟩
  have hp : sd.pos ≤ sd.old.length := by
    by_cases hy : sd.young = []
    · rw [hd.2.1.rest hy]; omega
    · have := hd.2.1.move hy; omega
  have hm0 : sd.old.length ≤ 5400000000000 := by have := hd.2.2.2.2.1; omega
  have hm1 : sd.young.length ≤ 5400000000000 := by have := hd.2.2.2.2.2; omega
  have hal : (Dc.all sd).length ≤ 2600000000000 := by have := hd.2.2.2.1; omega
  have hnd : (Dc.keys (Dc.all sd)).Nodup := by rw [Dc.all_eq hd.2.1]; exact hd.2.1.nodup
  -- each that comes is not past, whatever else is new
  have hcall : ∀ (m : Nat) (e : ByteArray × Option Addr), es[m]? = some e → ∃ a, e.2 = some a ∧ ∀ w', Below W.heap.size W w' → Calls Tryz.prog 51 #[pb B, .pointer (some a)] w' fun r w'' => r = .returned (.bool false) ∧ Below w'.heap.size w' w'' := by
    intro m e he
    have hmem : e ∈ Dc.all sd := by rw [hes]; exact List.mem_of_getElem? he
    have h1 : Dc.look e.1 (Dc.all sd) = some e.2 := (Dc.look_mem hnd e.1 e.2).2 hmem
    have h2 := hlk e.1
    rw [show DP.lk sd e.1 = some e.2 from h1] at h2
    obtain ⟨x, hx1, hx2, hx3⟩ := hF e.1 e.2 h2.symm
    refine ⟨_, hx1, fun w' hb => ?_⟩
    have h' := h.bel hb
    obtain ⟨sv', hpb', _⟩ := h'.blk
    have := past_any hpb' (h'.ent e.1 x hx2).1.2
    rw [hx3] at this
    exact this
  have hBl := (Array.getElem?_eq_some_iff.1 hpb.2).1
  obtain ⟨w2, hw2⟩ : ∃ w2, (W.alloc (.cells #[.pointer (some ⟨B, 0, none⟩)] 26)).alloc (.cells #[.slice none 0 0] 85) = w2 := ⟨_, rfl⟩
  have hb2 : Below W.heap.size W w2 := by rw [← hw2]; exact ((Below.refl _ W).alloc (Nat.le_refl _) _).alloc (by simp) _
  have hz2 : w2.heap.size = W.heap.size + 2 := by rw [← hw2]; simp
  have k1 : w2.heap[W.heap.size]? = some (.cells #[.pointer (some ⟨B, 0, none⟩)] 26 (0, 0)) := by rw [← hw2]; exact (Below.heap_alloc _ _ _ (by simp)).trans (heap_alloc_new _ _)
  have k2 : w2.heap[W.heap.size + 1]? = some (.cells #[.slice none 0 0] 85 (0, 0)) := by
    rw [← hw2]
    have := heap_alloc_new (W.alloc (.cells #[.pointer (some ⟨B, 0, none⟩)] 26)) (.cells #[.slice none 0 0] 85)
    rwa [World.size_alloc] at this
  have d8 : w2.cell? ⟨B, 8, none⟩ = some (.pointer (some ⟨s.bd, 0, none⟩)) := by
    obtain ⟨_, _, _, _, _, _, _, _, d8, _⟩ := hpb.cells
    exact (hb2.cell (p := ⟨B, 8, none⟩) hBl).trans d8
  have cB : w2.cell? ⟨W.heap.size, 0, none⟩ = some (.pointer (some ⟨B, 0, none⟩)) := by rw [cell_of_row _ _ _ _ _ _ k1]; rfl
  have HC := keep hcall
  have HES := keep hes
  have HD := keep hd
  have HB2 := keep hb2
  have K1 := keep k1
  have K2 := keep k2
  have HZ2 := keep hz2
  have HW2 := keep hw2
  clear h hpb hd hr hlk hln hH hnd hes hcall k1 k2 hb2 hF hN
  refine callsIn_wide (n := 9) |>.1 (callsIn_of_wp_marks Tryz.func31 rfl trivial (wpIn_wide.2 ?_) rfl)
  simp only [Tryz.ntmps31, List.size_toArray, List.length_cons, List.length_nil, Nat.reduceAdd, Nat.reduceSub, Array.replicate_succ, Array.replicate_zero, List.push_toArray, List.append_toArray, List.nil_append, List.cons_append]
  go_wp2_with fail
  refine (DP.each_any _ _ (.inr ⟨s.bd, rfl⟩)).mono ?_
  rintro _ w4 ⟨rfl, hw4⟩
  have hz4 : w4.heap.size = w2.heap.size + 1 := by rw [hw4]; simp
  have hb24 : Below w2.heap.size w2 w4 := by rw [hw4]; exact (Below.refl _ w2).alloc (Nat.le_refl _) _
  have h4B : w4.heap[w2.heap.size]? = some (.cells #[.pointer (some ⟨s.bd, 0, none⟩)] 41 (0, 0)) := by rw [hw4]; exact heap_alloc_new _ _
  have hb4 : Below W.heap.size W w4 := HB2.out.trans (hb24.mono HB2.out.size)
  have c4B : w4.cell? ⟨w2.heap.size, 0, none⟩ = some (.pointer (some ⟨s.bd, 0, none⟩)) := by rw [cell_of_row _ _ _ _ _ _ h4B]; rfl
  have hI0 : PaI W B (fun _ => False) 0 w4 := ⟨⟨id, (hb24.block _ (by omega)).trans K1.out⟩, ⟨id, (hb24.block _ (by omega)).trans K2.out⟩, hb4, fun _ h => h.elim⟩
  have HI0 := keep hI0
  have HB4 := keep hb4
  have C4B := keep c4B
  clear hw4 hb24 h4B hb4 c4B hI0 d8 cB hw2
  go_wp2
  refine (wpIn_wide (n := 9)).1 (range_own (α := DP.Ent) (gf := 74) (lb := #[.pointer (some ⟨w2.heap.size, 0, none⟩)]) (by simp [Act.eval]) (enters_of Tryz.func74 (by kernel_rfl) rfl) (encs := DP.eachV) (L := es) (fun _ => rfl)
    (fun W1 hb => by
      have := DP.each_iter w2.heap.size s.bd _ _ r sd W1 (HD.out.1.below (HB4.out.trans (hb.mono HB4.out.size))) ((hb.cell (p := ⟨w2.heap.size, 0, none⟩) (by show w2.heap.size < w4.heap.size; omega)).trans C4B.out) hp hm0 hm1 hal
      rwa [HES.out] at this)
    (PaI W B) (fun _ _ _ _ => False) PaI.abd (fun _ _ _ _ _ _ h _ _ => h) HI0.out (fun _ _ _ _ => trivial) ?round ?done ?stop)
  case stop => exact fun _ _ _ _ _ _ h => h.elim
  case round =>
    intro M' l' m x W1 hI hx hl hrec hM'
    obtain ⟨e1, e2⟩ := x
    obtain ⟨a, ha, mP⟩ := HC.out m _ hx
    dsimp only at ha
    subst ha
    have HI := keep hI
    have HM' := keep hM'
    clear hI hx hM' HI0 hrec
    unfold DP.eachV
    gi_wp2
    refine ⟨Mk.refl _ _, fun rl => ?_⟩
    obtain ⟨W2, hW2⟩ : ∃ W2, W1.putObj l' (.loop rl) = W2 := ⟨_, rfl⟩
    rw [hW2]
    have hzz : W2.heap.size = W1.heap.size := by rw [← hW2]; simp
    have hI2 : PaI W B M' m W2 := PaI.abd _ _ _ _ _ HI.out (by rw [← hW2]; exact Sep.put _ _ hl) (Ext.refl _ _ _)
    have mP2 := mP W2 hI2.2.2.1
    have cS : W2.cell? ⟨W.heap.size, 0, none⟩ = some (.pointer (some ⟨B, 0, none⟩)) := by rw [cell_of_row _ _ _ _ _ _ hI2.1.2]; rfl
    have HI2 := keep hI2
    have HZZ := keep hzz
    clear hW2 hI2 hzz mP
    gi_wp2_with fail
    refine ⟨trivial, rfl, CallsIn.inRound l' (callsIn_wide.2 (mP2.mono ?_))⟩
    rintro _ W3 ⟨rfl, hb3⟩
    have fin : Kept (rdPost (PaI W B) (fun _ _ _ _ => False) M' (m + 1) W2 .normal { tmps := #[], defers := [] } W3) := by
      obtain ⟨⟨j1, j1'⟩, ⟨j2, j2'⟩, j5, j6⟩ := HI2.out
      have l1 := (Array.getElem?_eq_some_iff.1 j1').1
      have l2 := (Array.getElem?_eq_some_iff.1 j2').1
      exact ⟨Mk.below hb3 (fun k hk => by have := (HM'.out k hk).2; have := HZZ.out; omega), ⟨j1, (hb3.block _ l1).trans j1'⟩, ⟨j2, (hb3.block _ l2).trans j2'⟩, j5.trans (hb3.mono j5.size), j6⟩
    clear mP2 hb3 cS
    gi_wp2
    exact fin.out
  case done =>
    intro M' D W5 hI hD hDk hM'
    obtain ⟨⟨j1, j1'⟩, ⟨j2, j2'⟩, j5, j6⟩ := hI
    have c5S : W5.cell? ⟨W.heap.size + 1, 0, none⟩ = some (.slice none 0 0) := by rw [cell_of_row _ _ _ _ _ _ j2']; rfl
    have hDW := j6 D hD
    have mS := sort0 W5
    have J5 := keep j5
    have HDK := keep hDk
    clear j1 j1' j2 j2' j5 j6 hM' hDk HI0 HB4 C4B hz4
    go_wp2_with fail
    refine (mS _).mono ?_
    rintro _ w6 ⟨rfl, hw⟩
    obtain rfl := hw.symm
    clear mS
    go_wp2
    refine leave_mark HDK.out ?_
    refine ⟨_, results_tmp rfl _ _ _, rfl, J5.out.grown (?_ : W5.grownBy (W5.putObj D (.deferred none)) (some D)) J5.out.size (fun k e => by cases e; exact hDW)⟩
    exact ⟨rfl, rfl, rfl, by simp, fun k _ hne => World.putObj_heap_other (fun e => hne (by rw [e]))⟩
set_option maxHeartbeats 1000000 in
theorem sweep_none {N : Nat} {w : World} {R : Ro} {b : Nat} {s : Sx} (h : Sp N w R b s) (hN : N ≤ 2600000000000) (hF : Fresh s) :
    Calls Tryz.prog 17 #[pb b, .int .i64 9223372036854775807] w fun e w' => e = .returned (.int .i64 0) ∧ Below w.heap.size w w' := by
  have mP := pastKeys_none h hN hF
  have c0 := cut0
  clear h hN hF
  go_enter Tryz.func17, Tryz.ntmps17
  go_wp2_with fail
  refine mP.mono ?_
  rintro _ w1 ⟨rfl, hb⟩
  have HB := keep hb
  clear mP hb
  go_wp2
  refine loop_at ?_
  go_wp2
  go_ret
  exact ⟨rfl, HB.out⟩
set_option maxHeartbeats 1000000 in
theorem living_none {N : Nat} {w : World} {R : Ro} {b : Nat} {s : Sx} (h : Sp N w R b s) (hN : N ≤ 2600000000000) (hF : Fresh s) :
    Calls Tryz.prog 48 #[pb b] w fun e w' => e = .returned (.tuple #[pb s.bm, pb s.bd]) ∧ Below w.heap.size w w' := by
  have mS := sweep_none h hN hF
  have H := keep h
  clear h hN hF
  go_enter Tryz.func48, Tryz.ntmps48
  go_wp2_with fail
  refine mS.mono ?_
  rintro _ w1 ⟨rfl, hb⟩
  have h1 := H.out.bel hb
  obtain ⟨sv, hpb, _⟩ := h1.blk
  obtain ⟨_, _, _, _, _, _, _, d7, d8, _⟩ := hpb.cells
  have HB := keep hb
  clear mS hb h1 hpb
  go_wp2
  go_region
  go_wp2
  refine bodyPost_ret (results_tmp2 rfl _ _ _) rfl ?_
  exact ⟨rfl, below_drewN HB.out _⟩
set_option maxHeartbeats 1000000 in
theorem len_none {N : Nat} {w : World} {R : Ro} {b : Nat} {s : Sx} (h : Sp N w R b s) (hN : N ≤ 2600000000000) (hF : Fresh s) :
    Calls Tryz.prog 140 #[pb b] w fun e w' => e = .returned (.int .i64 (s.nm : Nat)) ∧ Below w.heap.size w w' := by
  have mL := living_none h hN hF
  have H := keep h
  clear h hN hF
  go_enter Tryz.func140, Tryz.ntmps140
  go_wp2_with fail
  refine mL.mono ?_
  rintro _ w1 ⟨rfl, hb⟩
  have mD := pd_len (H.out.bel hb).main
  have HB := keep hb
  clear mL hb
  go_wp2_with fail
  refine mD.mono ?_
  rintro _ w2 ⟨rfl, hw⟩
  obtain rfl := hw.symm
  clear mD
  go_wp2
  go_ret
  exact ⟨rfl, HB.out⟩
end Ks
end Go.Proofs.YthmmblohfjmbcaaGreat
