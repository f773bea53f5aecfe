/-
  Contracts over this program: all the entries of a dict, bucket by bucket.
-/
import Derived.Test.YthmmblohfjmbcaaGreatPDictLive
namespace Go.Proofs.YthmmblohfjmbcaaGreat.DP
open Go.RowKit Go.Shelf
attribute [local go_sem] Oper.semAt_some
def allV (e : Ent) : Array Value := #[.agg #[.string e.1, .pointer e.2]]
/-- how many entries the first i buckets have -/
def offs (s : Dc.St ByteArray (Option Addr)) (i : Nat) : Nat := ((Dc.opened s).take i).flatten.length
theorem offs_succ {s : Dc.St ByteArray (Option Addr)} {i : Nat} {c : List Ent} (h : (Dc.opened s)[i]? = some c) : offs s (i + 1) = offs s i + c.length := by
  obtain ⟨hi, e⟩ := List.getElem?_eq_some_iff.1 h
  unfold offs
  rw [List.take_succ_eq_append_getElem hi, List.flatten_append, List.length_append, e]
  simp
theorem offs_all (s : Dc.St ByteArray (Option Addr)) : offs s (Dc.opened s).length = (Dc.all s).length := by
  unfold offs
  rw [List.take_length, Dc.opened_all]
theorem offs_at {s : Dc.St ByteArray (Option Addr)} {i m : Nat} {c : List Ent} {e : Ent} (h : (Dc.opened s)[i]? = some c) (he : c[m]? = some e) : (Dc.all s)[offs s i + m]? = some e := by
  obtain ⟨hi, e1⟩ := List.getElem?_eq_some_iff.1 h
  rw [← Dc.opened_all]
  have hsp : (Dc.opened s).flatten = ((Dc.opened s).take i).flatten ++ (c ++ ((Dc.opened s).drop (i + 1)).flatten) := by
    rw [← e1, ← List.flatten_cons, ← List.drop_eq_getElem_cons hi, ← List.flatten_append, List.take_append_drop]
  rw [hsp]
  unfold offs
  rw [List.getElem?_append_right (by omega), Nat.add_sub_cancel_left, List.getElem?_append_left (List.getElem?_eq_some_iff.1 he).1]
  exact he
/-- what all's function holds between two buckets -/
def AllS (J : (Nat → Prop) → Nat → World → Prop) (W : World) (l Y0 t0 : Nat) (M : Nat → Prop) (Ds : List Nat) (m : Nat) (w : World) : Prop :=
  J M m w ∧ w.heap[Y0]? = some (.cells #[.func (.yield l) #[] #[]] t0 (0, 0)) ∧ M Y0 ∧ (∀ k, M k → W.heap.size ≤ k ∧ k < w.heap.size) ∧ Ds.Nodup ∧ (∀ D ∈ Ds, M D ∧ w.heap[D]? = some (.deferred (some []))) ∧ W.heap.size ≤ w.heap.size
/-- what it holds between two entries of a bucket; M': the blocks of the going through the bucket, Bi: the box of the chain -/
def AllI (J : (Nat → Prop) → Nat → World → Prop) (l Y0 t0 Bi t1 : Nat) (cv : Value) (M : Nat → Prop) (Ds : List Nat) (off : Nat) (M' : Nat → Prop) (m : Nat) (w : World) : Prop :=
  J (fun k => M k ∨ M' k ∨ k = Bi) (off + m) w ∧ (¬ M' Y0 ∧ w.heap[Y0]? = some (.cells #[.func (.yield l) #[] #[]] t0 (0, 0))) ∧ (¬ M' Bi ∧ w.heap[Bi]? = some (.cells #[cv] t1 (0, 0))) ∧ (∀ D ∈ Ds, ¬ M' D ∧ w.heap[D]? = some (.deferred (some []))) ∧ (∀ k, M k → ¬ M' k ∧ k < w.heap.size)
theorem AllI.abd {J : (Nat → Prop) → Nat → World → Prop} {l Y0 t0 Bi t1 : Nat} {cv : Value} {M : Nat → Prop} {Ds : List Nat} {off : Nat} (hJ : Abd J) : Abd (AllI J l Y0 t0 Bi t1 cv M Ds off) := by
  rintro M1 M2 m A B ⟨h1, ⟨h2, h2'⟩, ⟨h3, h3'⟩, h4, h5⟩ hs hx
  have keepB : ∀ k o, ¬ M1 k → A.heap[k]? = some o → ¬ M2 k ∧ B.heap[k]? = some o := fun k o hn ho => by
    have hl := (Array.getElem?_eq_some_iff.1 ho).1
    exact ⟨hx.lt hl hn, (hs.2.2 k hl hn).trans ho⟩
  refine ⟨hJ _ _ _ _ _ h1 (hs.more (fun k hk => .inr (.inl hk))) (fun k hk => ?_), keepB _ _ h2 h2', keepB _ _ h3 h3', fun D hD => keepB _ _ (h4 D hD).1 (h4 D hD).2, fun k hk => ?_⟩
  · rcases hk with hk | hk | hk
    · exact .inl (.inl hk)
    · rcases hx k hk with h | h
      · exact .inl (.inr (.inl h))
      · exact .inr h
    · exact .inl (.inr (.inr hk))
  · obtain ⟨q1, q2⟩ := h5 k hk
    exact ⟨hx.lt q2 q1, Nat.lt_of_lt_of_le q2 hs.2.1⟩
set_option maxRecDepth 100000 in
set_option maxHeartbeats 2000000 in
theorem all_iter (Bd b seed n : Nat) (r : Roles) (s : Dc.St ByteArray (Option Addr)) (W0 W : World) (hD : Dct W0 r b seed n s) (hp : s.pos ≤ s.old.length) (hm0 : s.old.length ≤ 5400000000000) (hm1 : s.young.length ≤ 5400000000000) :
    Iter Tryz.prog 91 #[.pointer (some ⟨Bd, 0, none⟩)] allV (fun _ W1 => Below W0.heap.size W0 W1 ∧ W1.cell? ⟨Bd, 0, none⟩ = some (.pointer (some ⟨b, 0, none⟩))) (Dc.all s) W := by
  intro l J Jx hJ hJx hRd hY h0
  have hDk : ∀ W1, Below W0.heap.size W0 W1 → Dct W1 r b seed n s := fun W1 hb => hD.below hb
  have hsep0 : Sep (fun _ => False) W (W.alloc (.cells #[.func (.yield l) #[] #[]] 157)) := Sep.alloc _ _ _
  have h1 : J (fun k => k = W.heap.size) 0 (W.alloc (.cells #[.func (.yield l) #[] #[]] 157)) := hJ _ _ _ _ _ h0 hsep0 (fun k hk => .inr (by subst hk; simp))
  obtain ⟨hb1, hc1⟩ := hRd _ _ _ h1
  obtain ⟨T, hT⟩ : ∃ T, (Dc.opened s).length = T := ⟨_, rfl⟩
  have hTm : T ≤ 10800000000000 := by rw [← hT]; unfold Dc.opened; rw [List.length_append, List.length_drop]; omega
  have mB := liveb_at _ r b seed n s (hDk _ hb1) hp hm0 hm1
  rw [hT] at mB
  have hS1 : AllS J W l W.heap.size 157 (fun k => k = W.heap.size) [] 0 (W.alloc (.cells #[.func (.yield l) #[] #[]] 157)) :=
    ⟨h1, heap_alloc_new _ _, rfl, fun k hk => by subst hk; simp, List.nodup_nil, fun D h => by simp at h, by simp⟩
  have HT := keep hT
  have HRD := keep hRd
  have HY := keep hY
  have HS1 := keep hS1
  have HDK := keep hDk
  clear hT hRd hY hS1 hDk h0 h1 hsep0 hb1
  refine callsIn_wide (n := 9) |>.1 (callsIn_of_wp_marks Tryz.func91 rfl trivial (wpIn_wide.2 ?_) rfl)
  simp only [Tryz.ntmps91, List.size_toArray, List.length_cons, List.length_nil, Nat.reduceAdd, Nat.reduceSub, Array.replicate_succ, Array.replicate_zero, List.push_toArray, List.append_toArray, List.nil_append, List.cons_append]
  go_wp2_with fail
  refine mB.mono ?_
  rintro _ w2 ⟨rfl, q, hw2⟩
  have HS2 : Kept (AllS J W l W.heap.size 157 (fun k => k = W.heap.size) [] 0 w2) := by
    subst hw2
    obtain ⟨a1, a2, a3, a4, a5, a6, a7⟩ := HS1.out
    exact ⟨hJ _ _ _ _ _ a1 (Sep.of_below (below_drewN (Below.refl _ _) q)) (Ext.refl _ _ _), a2, a3, a4, a5, a6, a7⟩
  clear hw2 mB HS1 hc1
  go_wp2
  refine wp_loop (fun a w' => ∃ (i : Nat) (M : Nat → Prop) (Ds : List Nat) (v3 v11 v12 v13 v14 v15 v16 v23 : Value), i ≤ T ∧ a = { tmps := #[.func (.yield l) #[] #[], .pointer (some ⟨Bd, 0, none⟩), .pointer (some ⟨W.heap.size, 0, none⟩), v3, undef, undef, .pointer (some ⟨b, 0, none⟩), .bool false, .pointer (some ⟨b, 0, none⟩), .int .i64 T, .int .i64 i, v11, v12, v13, v14, v15, v16, undef, undef, undef, undef, undef, undef, v23], defers := Ds.map fun D => { target := .collected D, args := #[] } } ∧ Kept (AllS J W l W.heap.size 157 M Ds (offs s i) w')) (fun a _ => T - (intOf (a.tmps.getD 10 undef)).toNat) ⟨0, _, [], _, _, _, _, _, _, _, _, Nat.zero_le _, rfl, HS2⟩ ?_
  rintro a wr ⟨i, M, Ds, v3, v11, v12, v13, v14, v15, v16, v23, hi, rfl, KS⟩
  obtain ⟨hbW, hcB⟩ := HRD.out _ _ _ KS.out.1
  by_cases hlt : i < T
  · have hltz : (i : Int) < (T : Int) := by omega
    obtain ⟨c0, hc⟩ : ∃ c, (Dc.opened s)[i]? = some c := ⟨_, List.getElem?_eq_getElem (by rw [HT.out]; exact hlt)⟩
    have mV := live_at wr r b seed n s (HDK.out _ hbW) hp hm0 hm1 i c0 hc
    have HC := keep hc
    have HBW := keep hbW
    clear hc hbW
    go_wp2_with fail
    refine mV.mono ?_
    rintro _ w3 ⟨⟨ao, cap, rfl, hChn, hrole⟩, q3, hw3⟩
    have hb3 : Below wr.heap.size wr w3 := by rw [hw3]; exact below_drewN (Below.refl _ _) q3
    have hz3 : w3.heap.size = wr.heap.size := by rw [hw3]; rfl
    clear mV hw3
    go_wp2_with fail
    refine (back_any _ _ _ _).mono ?_
    rintro _ w4 ⟨rfl, hw4⟩
    have hb4 : Below wr.heap.size wr w4 := by rw [hw4]; exact hb3.alloc hb3.size _
    have hz4 : w4.heap.size = wr.heap.size + 1 := by rw [hw4]; simp [hz3]
    have hB4 : w4.heap[wr.heap.size]? = some (.cells #[.slice ao c0.length cap] 136 (0, 0)) := by rw [hw4, ← hz3]; exact heap_alloc_new _ _
    rw [hz3]
    clear hw4 hb3 hz3
    go_wp2
    obtain ⟨a1, a2, a3, a4, a5, a6, a7⟩ := KS.out
    have hI0 : AllI J l W.heap.size 157 wr.heap.size 136 (.slice ao c0.length cap) M Ds (offs s i) (fun _ => False) 0 w4 := by
      refine ⟨hJ _ _ _ _ _ a1 (Sep.of_below hb4) (fun k hk => ?_), ⟨id, (hb4.block _ (a4 _ a3).2).trans a2⟩, ⟨id, hB4⟩, fun D hD => ⟨id, (hb4.block _ (a4 _ (a6 D hD).1).2).trans (a6 D hD).2⟩, fun k hk => ⟨id, by have := (a4 k hk).2; omega⟩⟩
      rcases hk with hk | hk | hk
      · exact .inl hk
      · exact hk.elim
      · exact .inr (by omega)
    have HB4 := keep hB4
    have HI0 := keep hI0
    clear hB4 hI0
    refine (wpIn_wide (n := 9)).1 (range_own (α := Nat × Ent) (gf := 111) (lb := #[.pointer (some ⟨wr.heap.size, 0, none⟩)]) rfl (enters_of Tryz.func111 (by kernel_rfl) rfl) (encs := bkV) (L := bkL c0) (fun _ => rfl)
      (fun W1 _ => back_iter wr.heap.size (.slice ao c0.length cap) c0 W1)
      (AllI J l W.heap.size 157 wr.heap.size 136 (.slice ao c0.length cap) M Ds (offs s i)) (fun c M' m w' => c = .ret ∧ AllI Jx l W.heap.size 157 wr.heap.size 136 (.slice ao c0.length cap) M Ds (offs s i) M' m w') (AllI.abd hJ) ?ax HI0.out ?rd ?round ?done ?stop)
    case ax => exact fun c M1 M2 m A B h hs hx => ⟨h.1, AllI.abd hJx _ _ _ _ _ h.2 hs hx⟩
    case rd =>
      rintro M1 m W1 ⟨j1, _, ⟨_, hBx⟩, _⟩
      refine ⟨by rw [cell_of_row _ _ _ _ _ _ hBx]; rfl, own_kept hChn (fun k hk => ?_)⟩
      have hk0 := hD.1 k (hrole k hk)
      exact ((HRD.out _ _ _ j1).1.block k hk0).trans (HBW.out.block k hk0).symm
    case round =>
      intro M' l' m x W1 hI hx hl hrec hM'
      have he := bkL_is hx
      have hat := offs_at HC.out he
      obtain ⟨i0, e1, e2⟩ := x
      dsimp only at he hat
      have HI := keep hI
      have HAT := keep hat
      have HM' := keep hM'
      obtain ⟨r0, hr0'⟩ := hrec
      have HREC := keep hr0'
      clear hI hat hM' he hx hr0'
      unfold bkV
      gi_wp2
      refine ⟨Mk.alloc _ (fun k hk => (HM'.out k hk).2), fun rl => ?_⟩
      obtain ⟨W2, hW2⟩ : ∃ W2, (W1.alloc (.cells #[.string e1, .pointer e2] 139)).putObj l' (.loop rl) = W2 := ⟨_, rfl⟩
      rw [hW2]
      obtain ⟨j1, ⟨j2, j2'⟩, ⟨j3, j3'⟩, j4, j5⟩ := HI.out
      have hll : l' < W1.heap.size := (HM'.out l' hl).2
      have hz2 : W2.heap.size = W1.heap.size + 1 := by rw [← hW2]; simp
      have h2o : ∀ k, k < W1.heap.size → k ≠ l' → W2.heap[k]? = W1.heap[k]? := fun k hk hn => by rw [← hW2, World.putObj_heap_other hn]; exact Below.heap_alloc _ _ _ hk
      have h2n : W2.heap[W1.heap.size]? = some (.cells #[.string e1, .pointer e2] 139 (0, 0)) := by rw [← hW2, World.putObj_heap_other (by omega)]; exact heap_alloc_new _ _
      have hs2 : Sep (fun k => M k ∨ M' k ∨ k = wr.heap.size) W1 W2 := by rw [← hW2]; exact (Sep.alloc _ _ _).trans (Sep.put _ _ (.inr (.inl hl)))
      have hj2 : J (fun k => (M k ∨ M' k ∨ k = wr.heap.size) ∨ k = W1.heap.size) (offs s i + m) W2 := hJ _ _ _ _ _ j1 hs2 (fun k hk => by
        rcases hk with hk | hk
        · exact .inl hk
        · exact .inr (by omega))
      have hBl : wr.heap.size < W1.heap.size := (Array.getElem?_eq_some_iff.1 j3').1
      have hyc : W2.cell? ⟨W.heap.size, 0, none⟩ = some (.func (.yield l) #[] #[]) := by
        rw [cell_of_row _ _ _ _ _ _ ((h2o _ (Array.getElem?_eq_some_iff.1 j2').1 (fun e => j2 (e ▸ hl))).trans j2')]; rfl
      have hc0 : W2.cell? ⟨W1.heap.size, 0, none⟩ = some (.string e1) := by rw [cell_of_row _ _ _ _ _ _ h2n]; rfl
      have hc1 : W2.cell? ⟨W1.heap.size, 1, none⟩ = some (.pointer e2) := by rw [cell_of_row _ _ _ _ _ _ h2n]; rfl
      obtain ⟨fn, tmps, assign, body, hy, hR⟩ := (HY.out _ _ _ W2 hj2 HAT.out (fun k hk => by
        rcases hk with (hk | hk | hk) | hk
        · have := a4 k hk; have := j5 k hk; omega
        · have := HM'.out k hk; omega
        · omega
        · omega)).at 0
      unfold allV at hy
      dsimp only at hy
      have HR := keep hR
      have fin : Kept (∀ W3, Mk (fun k => (M k ∨ M' k ∨ k = wr.heap.size) ∨ k = W1.heap.size) W2 W3 → ∀ J', Abd J' → J' (fun k => (M k ∨ M' k ∨ k = wr.heap.size) ∨ k = W1.heap.size) (offs s i + m + 1) W3 →
          Mk M' W2 W3 ∧ AllI J' l W.heap.size 157 wr.heap.size 136 (.slice ao c0.length cap) M Ds (offs s i) M' (m + 1) W3) := fun W3 hk J' hJ' h3 => by
        have kb : ∀ k o, (M k ∨ M' k ∨ k = wr.heap.size) → k ≠ l' → W1.heap[k]? = some o → W3.heap[k]? = some o := fun k o h1 h2 h3 => by
          rw [hk.2 k (.inl h1), h2o k (Array.getElem?_eq_some_iff.1 h3).1 h2]; exact h3
        have hne : ∀ k, ¬ M' k → k ≠ l' := fun k h e => h (e ▸ hl)
        refine ⟨hk.less (fun k h => .inl (.inr (.inl h))), hJ' _ _ _ _ _ h3 (Sep.refl _ _) (fun k h => .inl (.inl h)), ⟨j2, kb _ _ (.inl a3) (hne _ j2) j2'⟩, ⟨j3, kb _ _ (.inr (.inr rfl)) (hne _ j3) j3'⟩, fun D hD => ⟨(j4 D hD).1, kb _ _ (.inl (a6 D hD).1) (hne _ (j4 D hD).1) (j4 D hD).2⟩, fun k h => ⟨(j5 k h).1, ?_⟩⟩
        have := (j5 k h).2
        have := hk.1
        omega
      clear hR hW2 j1 j2 j2' j3 j3' j4 j5 h2n hs2 hj2
      gi_wp2
      refine ⟨rfl, (round_in HR.out).mono ?_⟩
      rintro e W3 ⟨hk3, (⟨rfl, hJ3⟩ | ⟨rfl, hJx3⟩)⟩
      · have F3 := keep (fin.out W3 hk3 J hJ hJ3)
        clear hk3 hJ3 fin HR
        gi_wp2
        exact F3.out
      · have F3 := keep (fin.out W3 hk3 Jx hJx hJx3)
        clear hk3 hJx3 fin HR
        gi_wp2
        exact ⟨F3.out.1, rfl, F3.out.2⟩
    case done =>
      intro M' D W5 hI hD hDk hM'
      obtain ⟨j1, ⟨j2, j2'⟩, ⟨j3, j3'⟩, j4, j5⟩ := hI
      rw [bkL_len, ← offs_succ HC.out] at j1
      have hBl : wr.heap.size < W5.heap.size := (Array.getElem?_eq_some_iff.1 j3').1
      have KS5 : Kept (AllS J W l W.heap.size 157 (fun k => M k ∨ M' k ∨ k = wr.heap.size) (D :: Ds) (offs s (i + 1)) W5) := by
        refine ⟨j1, j2', .inl a3, fun k hk => ?_, List.nodup_cons.2 ⟨fun h => (j4 D h).1 hD, a5⟩, fun D' hD' => ?_, by omega⟩
        · rcases hk with hk | hk | hk
          · have := a4 k hk; have := j5 k hk; omega
          · have := hM' k hk; omega
          · omega
        · rcases List.mem_cons.1 hD' with rfl | h
          · exact ⟨.inr (.inl hD), hDk⟩
          · exact ⟨.inl (a6 D' h).1, (j4 D' h).2⟩
      clear j1 j2 j2' j3 j3' j4 j5 hM' hDk hD KS HI0 HB4
      go_wp2
      exact ⟨⟨i + 1, _, D :: Ds, _, _, _, _, _, _, _, _, by omega, rfl, KS5⟩, by simp [intOf]; omega⟩
    case stop =>
      rintro c' M' D m W5 hm ⟨rfl, hI⟩ hD hDk hM'
      obtain ⟨j1, ⟨j2, j2'⟩, ⟨j3, j3'⟩, j4, j5⟩ := hI
      have hBl : wr.heap.size < W5.heap.size := (Array.getElem?_eq_some_iff.1 j3').1
      refine (wpIn_wide (n := 9)).2 ?_
      dsimp only
      have J1 := keep j1
      clear j1 HI0 HB4 KS
      go_wp2
      refine leave_marks (D :: Ds) W5 (List.nodup_cons.2 ⟨fun h => (j4 D h).1 hD, a5⟩) (fun D' hD' => ?_) (fun W' hs => ?_)
      · rcases List.mem_cons.1 hD' with rfl | h
        · exact hDk
        · exact (j4 D' h).2
      refine ⟨_, results_none rfl _ _ _, ⟨_, rfl⟩, fun k => M k ∨ M' k ∨ k = wr.heap.size, fun k hk => ?_, .inr ⟨offs s i + m, ?_, ?_⟩⟩
      · have := hs.2.1
        rcases hk with hk | hk | hk
        · have := a4 k hk; have := j5 k hk; omega
        · have := hM' k hk; omega
        · omega
      · rw [bkL_len] at hm
        have h2 := offs_at HC.out (List.getElem?_eq_getElem hm)
        exact (List.getElem?_eq_some_iff.1 h2).1
      · refine hJx _ _ _ _ _ J1.out (hs.more (fun k hk => ?_)) (Ext.refl _ _ _)
        rcases List.mem_cons.1 hk with rfl | h
        · exact .inr (.inl hD)
        · exact .inl (a6 k h).1
  · have hltz : ¬ (i : Int) < (T : Int) := by omega
    obtain rfl : i = T := by omega
    go_wp2
    obtain ⟨a1, a2, a3, a4, a5, a6, a7⟩ := KS.out
    refine leave_marks Ds wr a5 (fun D hD => (a6 D hD).2) (fun W' hs => ?_)
    refine ⟨_, results_none rfl _ _ _, ⟨_, rfl⟩, M, fun k hk => ?_, .inl ?_⟩
    · have := a4 k hk
      have := hs.2.1
      omega
    · rw [← offs_all, HT.out]
      exact hJ _ _ _ _ _ a1 (hs.more (fun k hk => (a6 k hk).1)) (Ext.refl _ _ _)
end Go.Proofs.YthmmblohfjmbcaaGreat.DP
