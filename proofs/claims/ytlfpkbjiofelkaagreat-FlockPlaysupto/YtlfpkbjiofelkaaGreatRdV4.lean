/-
  Contracts over this program: no flock and none of the document's: stands, scans, plays.
-/
import Derived.Test.YtlfpkbjiofelkaaGreatRdV2
import Derived.Test.YtlfpkbjiofelkaaGreatRdQ1
import Derived.Test.YtlfpkbjiofelkaaGreatFlInter2
namespace Go.Proofs.YtlfpkbjiofelkaaGreat
open Go.RowKit Go.Shelf
set_option linter.unusedVariables false
set_option linter.unusedSimpArgs false
set_option maxRecDepth 100000
namespace Rd
theorem rfcost_nil (w : World) : Calls Tryz.prog 36 #[.pointer none] w fun e w' => e = .returned (.int .i64 0) ∧ w' = w := by
  go_enter Tryz.func36, Tryz.ntmps36
  go_wp2_with fail
  refine (rfmembers_nil w).mono ?_
  rintro _ w1 ⟨rfl, hw1⟩
  obtain rfl := hw1.symm
  clear hw1
  go_wp2
  go_loopg [3, 9] 0 (fun kx s3 s9 wr => s9 = .int .i64 0 ∧ s3 = .int .i64 0 ∧ Kept (wr = w))
  case atStart => exact ⟨rfl, rfl, rfl⟩
  case round =>
    obtain ⟨rfl, rfl, EW⟩ := hrel
    obtain rfl : wr = w := EW.out
    go_wp2
    first | exact ⟨rfl, rfl⟩ | (go_ret; exact ⟨rfl, rfl⟩)
set_option maxHeartbeats 4000000 in
theorem stands_nil (w : World) : Calls Tryz.prog 10 #[.pointer none, .pointer none] w fun e w' => e = .returned (.bool true) ∧ Below w.heap.size w w' := by
  obtain ⟨l, hl⟩ : ∃ l : List ByteArray, l = [] := ⟨_, rfl⟩
  obtain ⟨cc, hcc⟩ : ∃ cc : Nat, cc = 0 := ⟨_, rfl⟩
  have MA : Kept (∀ (W : World) (hb : Below w.heap.size w W), Calls Tryz.prog 24 #[.pointer none] W fun e w' => ∃ v L, e = .returned v ∧ Srs [] L ∧ Prs W.heap.size w' v L ∧ Below W.heap.size W w') := fun W hb => memberso_any (W := W) (p := none) (ks := []) rfl
  have MR : Kept (∀ (W : World) (hb : Below w.heap.size w W), Calls Tryz.prog 32 #[.pointer none] W fun e w' => ∃ u, e = .returned u ∧ Mine W w' u l) := fun W hb => (rfmembers_nil W).mono (by rintro _ w' ⟨rfl, rfl⟩; rw [hl]; exact ⟨_, rfl, mine0 _⟩)
  have ML : Kept (∀ (W : World) (hb : Below w.heap.size w W), Calls Tryz.prog 33 #[.pointer none] W fun e w' => e = .returned (.int .i64 ((l.length : Nat) : Int)) ∧ w' = W) := fun W hb => by rw [hl]; exact flen_nil W
  have MLR : Kept (∀ (W : World) (hb : Below w.heap.size w W), Calls Tryz.prog 34 #[.pointer none] W fun e w' => e = .returned (.int .i64 ((l.length : Nat) : Int)) ∧ w' = W) := fun W hb => by rw [hl]; exact rflen_nil W
  have MC : Kept (∀ (W : World) (hb : Below w.heap.size w W), Calls Tryz.prog 35 #[.pointer none] W fun e w' => e = .returned (.int .i64 ((cc : Nat) : Int)) ∧ w' = W) := fun W hb => by rw [hcc]; exact fcost_nil W
  have MCR : Kept (∀ (W : World) (hb : Below w.heap.size w W), Calls Tryz.prog 36 #[.pointer none] W fun e w' => e = .returned (.int .i64 ((cc : Nat) : Int)) ∧ Below W.heap.size W w') := fun W hb => by rw [hcc]; exact (rfcost_nil W).mono (by rintro _ w' ⟨rfl, rfl⟩; exact ⟨rfl, Below.refl _ _⟩)
  have HS : Kept (∀ (L : List ByteArray) (hs : Srs [] L), L = l) := fun L hs => (List.perm_nil.1 hs.1).trans hl.symm
  have HF : Kept (l.length ≤ 1048576) := by show l.length ≤ _; rw [hl]; exact Nat.zero_le _
  clear hl hcc
  go_enter Tryz.func10, Tryz.ntmps10
  go_wp2_with fail
  refine (MA.out w (Below.refl _ _)).mono ?_
  rintro _ w1 ⟨v1, L1, rfl, s1, ⟨g1, rfl, p1⟩, b1⟩
  obtain rfl := HS.out _ s1
  have K1 : Kept (Ks w.heap.size w1 (.slice (some ⟨g1, 0, none⟩) L1.length L1.length) L1) := p1
  have B1 := keep b1
  clear s1 p1 b1
  go_wp2_with fail
  refine (MA.out w1 B1.out).mono ?_
  rintro _ w2 ⟨v2, L2, rfl, s2, ⟨g2, rfl, p2⟩, b2⟩
  obtain rfl := HS.out _ s2
  have K2 : Kept (Ks w1.heap.size w2 (.slice (some ⟨g2, 0, none⟩) L2.length L2.length) L2) := p2
  have B2 := keep (bup B1.out b2)
  have K1' := keep (ks_bel K1.out b2)
  have G1 := keep (own_lt K1.out (k := g1) rfl)
  clear s2 p2 b2 K1
  go_wp2_with fail
  refine (MR.out w2 B2.out).mono ?_
  rintro _ w3 ⟨v3, rfl, m3⟩
  obtain ⟨o3, n3, c3, rfl⟩ := mine_slice m3
  have K3 : Kept (Ks w2.heap.size w3 (.slice o3 n3 c3) L2) := by
    have := m3.1
    exact ⟨this.1, this.2.imp id (fun ⟨g, cap, cur, e, f1, f2⟩ => ⟨g, cap, cur, e, m3.2.1 g (by rw [e]; rfl), f2⟩)⟩
  have B3 := keep (bup B2.out m3.2.2)
  have K1b := keep (ks_bel K1'.out m3.2.2)
  have K2b := keep (ks_bel K2.out m3.2.2)
  have S12 := keep (show w1.heap.size ≤ w2.heap.size from by
    have := own_lt K2.out (k := g2) rfl
    have h2 := (World.ownsRow.lt K2.out g2 rfl).1
    omega)
  clear m3 K1' K2
  generalize hn : L2.length = n at *
  go_wp2_with fail
  refine (ML.out w3 B3.out).mono ?_
  rintro _ w4 ⟨rfl, rfl⟩
  go_wp2_with fail
  refine (MLR.out w4 B3.out).mono ?_
  rintro _ w5 ⟨rfl, rfl⟩
  go_wp2_with fail
  refine (MC.out w5 B3.out).mono ?_
  rintro _ w6 ⟨rfl, rfl⟩
  go_wp2_with fail
  refine (MCR.out w6 B3.out).mono ?_
  rintro _ w7 ⟨rfl, b7⟩
  have B7 := keep (bup B3.out b7)
  have K1c := keep (ks_bel K1b.out b7)
  have K2c := keep (ks_bel K2b.out b7)
  have K3c := keep (ks_bel K3.out b7)
  clear b7 K1b K2b K3 ML MLR MC MCR MR
  go_wp2_with fail
  refine (same_any w7 _ _ _ _ L2 K1c.out K3c.out).mono ?_
  rintro _ w8 ⟨rfl, b8⟩
  have B8 := keep (bup B7.out b8)
  have K1d := keep (ks_bel K1c.out b8)
  have K2d := keep (ks_bel K2c.out b8)
  have K3d := keep (ks_bel K3c.out b8)
  clear b8 K1c K2c K3c
  go_wp2_with fail
  refine (same_any w8 _ _ _ _ L2 K2d.out K3d.out).mono ?_
  rintro _ w9 ⟨rfl, b9⟩
  have B9 := keep (bup B8.out b9)
  have K1e := keep (ks_bel K1d.out b9)
  have K2e := keep (ks_bel K2d.out b9)
  have K3e := keep (ks_bel K3d.out b9)
  clear b9 K1d K2d K3d
  go_wp2_with fail
  refine (spoil_any w9 _ L2 (tx_ks K1e.out) (by have := HF.out; omega)).mono ?_
  rintro _ w10 ⟨rfl, f10⟩
  have B10 := keep (f10.bel B9.out (fun k hk => (World.ownsRow.lt K1e.out k hk).1))
  have K2f := keep (fu_ks K2e.out f10 (fun k hk => by cases hk; exact G1.out))
  have K3f := keep (fu_ks K3e.out f10 (fun k hk => by cases hk; have := G1.out; have := S12.out; show g1 < w2.heap.size; omega))
  clear f10 K1e K2e K3e
  go_wp2_with fail
  refine (same_any w10 _ _ _ _ L2 K2f.out K3f.out).mono ?_
  rintro _ w11 ⟨rfl, b11⟩
  have B11 := keep (bup B10.out b11)
  have K3g := keep (ks_bel K3f.out b11)
  clear b11 K2f K3f
  go_wp2_with fail
  refine (MA.out w11 B11.out).mono ?_
  rintro _ w12 ⟨v12, L3, rfl, s12, ⟨g12, e12, p12⟩, b12⟩
  obtain rfl := HS.out _ s12
  rw [hn] at e12
  subst e12
  have K12 : Kept (Ks w11.heap.size w12 (.slice (some ⟨g12, 0, none⟩) n n) L3) := p12
  have B12 := keep (bup B11.out b12)
  have K3h := keep (ks_bel K3g.out b12)
  clear s12 p12 b12 K3g
  go_wp2_with fail
  refine (same_any w12 _ _ _ _ L3 K12.out K3h.out).mono ?_
  rintro _ w13 ⟨rfl, b13⟩
  have B13 := keep (bup B12.out b13)
  clear b13 K12 K3h
  go_wp2
  go_ret
  exact ⟨rfl, B13.out⟩
set_option maxHeartbeats 4000000 in
theorem scans_nil (w : World) (c : Nat) (cnt : Int) : Calls Tryz.prog 11 #[.pointer none, .pointer none, .int .u64 c, .int .i64 cnt] w fun e w' => e = .returned (.bool true) ∧ Below w.heap.size w w' := by
  go_enter Tryz.func11, Tryz.ntmps11
  go_wp2
  go_loopg [2, 13] 40 (fun kx s2 s13 wr => ∃ i c : Nat, s13 = .int .i64 i ∧ s2 = .int .u64 c ∧ i ≤ 40 ∧ 40 - i ≤ kx ∧ Kept (Below w.heap.size w wr))
  case atStart => exact ⟨0, c, rfl, rfl, by omega, by omega, Below.refl _ _⟩
  case round =>
    obtain ⟨i, c, rfl, rfl, hin, hg, KB⟩ := hrel
    by_cases hlt : i < 40
    · have hiz : (i : Int) < 40 := by omega
      go_wp2_with fail
      refine (fscan_nil wr c cnt).mono ?_
      rintro _ w' ⟨rfl, hw'⟩
      obtain rfl := hw'.symm
      go_wp2_with fail
      refine (rfscan_nil wr c cnt).mono ?_
      rintro _ w' ⟨rfl, hw'⟩
      obtain rfl := hw'.symm
      go_wp2_with fail
      refine (same_any wr 0 0 _ _ [] (ks_nil 0 wr) (ks_nil 0 wr)).mono ?_
      rintro _ w3 ⟨rfl, b3⟩
      have B3 := keep (bup KB.out b3)
      clear b3
      go_wp2_with fail
      refine (spoil_any w3 _ [] (tx_ks (ks_nil 0 w3)) (by simp)).mono ?_
      rintro _ w4 ⟨rfl, f4⟩
      have B4 := keep (f4.bel B3.out (fun k hk => by cases hk))
      clear f4
      go_wp2
      go_ret
      exact ⟨rfl, B4.out⟩
    · obtain rfl : i = 40 := by omega
      go_wp2
      go_ret
      exact ⟨rfl, KB.out⟩
set_option maxHeartbeats 40000000 in
theorem plays_nil (who op : Int) (f : ByteArray) (big : Int) (n : Nat) (cnt : Int) (hf : f.size ≤ 1048576) (w : World) :
    Calls Tryz.prog 9 #[.pointer none, .pointer none, .agg #[.int .i64 who, .int .i64 op, .string f, .int .i64 big, .int .u64 (n : Int), .int .i64 cnt]] w fun e w' => e = .returned (.bool true) ∧ Below w.heap.size w w' := by
  obtain ⟨X, hX⟩ : ∃ X, w.heap.size = X := ⟨_, rfl⟩
  obtain ⟨W1, hW1⟩ : ∃ W1, w.alloc (.cells #[.int .i64 who, .int .i64 op, .string f, .int .i64 big, .int .u64 (n : Int), .int .i64 cnt] 32) = W1 := ⟨_, rfl⟩
  have hb1 : Below w.heap.size w W1 := by rw [← hW1]; exact (Below.refl _ w).alloc (Nat.le_refl _) _
  have hs1 : W1.heap.size = X + 1 := by rw [← hW1, ← hX]; simp
  have g1 : W1.heap[X]? = some (.cells #[.int .i64 who, .int .i64 op, .string f, .int .i64 big, .int .u64 (n : Int), .int .i64 cnt] 32 (0, 0)) := by rw [← hW1, ← hX]; exact heap_alloc_new _ _
  have SX : Kept (∀ wz : World, Below W1.heap.size W1 wz → wz.cell? ⟨X, 0, none⟩ = some (.int .i64 who) ∧ wz.cell? ⟨X, 1, none⟩ = some (.int .i64 op) ∧ wz.cell? ⟨X, 2, none⟩ = some (.string f) ∧ wz.cell? ⟨X, 3, none⟩ = some (.int .i64 big) ∧ wz.cell? ⟨X, 4, none⟩ = some (.int .u64 (n : Int)) ∧ wz.cell? ⟨X, 5, none⟩ = some (.int .i64 cnt)) := fun wz hz => sixc ((hz.block X (by omega)).trans g1)
  have B1 := keep hb1
  have HM := keep (fun wz => member_any who op f big n cnt hf wz)
  have HFS := keep hf
  obtain ⟨c0, c1, c2, c3, c4, c5⟩ := SX.out W1 (Below.refl _ _)
  clear hf hb1 hs1 g1
  by_cases a0 : op = 0
  · subst a0
    as_aux_lemma =>
      go_enter Tryz.func9, Tryz.ntmps9
      go_wp2_with fail
      refine (HM.out W1).mono ?_
      rintro _ w2 ⟨rfl, b2⟩
      have BB2 := keep b2
      clear b2 c0 c1 c2 c3 c4 c5
      go_wp2_with fail
      refine (rfadd_nil w2 (memT f big)).mono ?_
      rintro _ w' ⟨rfl, hw'⟩
      obtain rfl := hw'.symm
      obtain ⟨c0, c1, c2, c3, c4, c5⟩ := SX.out w2 BB2.out
      go_wp2_with fail
      refine (HM.out w2).mono ?_
      rintro _ w4 ⟨rfl, b4⟩
      have BB4 := keep (bup BB2.out b4)
      clear b4 c0 c1 c2 c3 c4 c5
      go_wp2_with fail
      refine (fadd_nil (w := w4) (memT f big)).mono ?_
      rintro _ w' ⟨rfl, hw'⟩
      obtain rfl := hw'.symm
      have BB5 := BB4
      go_wp2
      go_ret
      exact ⟨by simp, bup B1.out BB5.out⟩
  by_cases a1 : op = 1
  · subst a1
    as_aux_lemma =>
      go_enter Tryz.func9, Tryz.ntmps9
      go_wp2_with fail
      refine (HM.out W1).mono ?_
      rintro _ w2 ⟨rfl, b2⟩
      have BB2 := keep b2
      clear b2 c0 c1 c2 c3 c4 c5
      go_wp2_with fail
      refine (rfadd_nil w2 (memT f big)).mono ?_
      rintro _ w' ⟨rfl, hw'⟩
      obtain rfl := hw'.symm
      obtain ⟨c0, c1, c2, c3, c4, c5⟩ := SX.out w2 BB2.out
      go_wp2_with fail
      refine (HM.out w2).mono ?_
      rintro _ w4 ⟨rfl, b4⟩
      have BB4 := keep (bup BB2.out b4)
      clear b4 c0 c1 c2 c3 c4 c5
      go_wp2_with fail
      refine (fadd_nil (w := w4) (memT f big)).mono ?_
      rintro _ w' ⟨rfl, hw'⟩
      obtain rfl := hw'.symm
      have BB5 := BB4
      go_wp2
      go_ret
      exact ⟨by simp, bup B1.out BB5.out⟩
  by_cases a2 : op = 2
  · subst a2
    as_aux_lemma =>
      go_enter Tryz.func9, Tryz.ntmps9
      go_wp2_with fail
      refine (HM.out W1).mono ?_
      rintro _ w2 ⟨rfl, b2⟩
      have BB2 := keep b2
      clear b2 c0 c1 c2 c3 c4 c5
      go_wp2_with fail
      refine (rfadd_nil w2 (memT f big)).mono ?_
      rintro _ w' ⟨rfl, hw'⟩
      obtain rfl := hw'.symm
      obtain ⟨c0, c1, c2, c3, c4, c5⟩ := SX.out w2 BB2.out
      go_wp2_with fail
      refine (HM.out w2).mono ?_
      rintro _ w4 ⟨rfl, b4⟩
      have BB4 := keep (bup BB2.out b4)
      clear b4 c0 c1 c2 c3 c4 c5
      go_wp2_with fail
      refine (fadd_nil (w := w4) (memT f big)).mono ?_
      rintro _ w' ⟨rfl, hw'⟩
      obtain rfl := hw'.symm
      have BB5 := BB4
      go_wp2
      go_ret
      exact ⟨by simp, bup B1.out BB5.out⟩
  by_cases a3 : op = 3
  · subst a3
    as_aux_lemma =>
      go_enter Tryz.func9, Tryz.ntmps9
      go_wp2_with fail
      refine (HM.out W1).mono ?_
      rintro _ w2 ⟨rfl, b2⟩
      have BB2 := keep b2
      clear b2 c0 c1 c2 c3 c4 c5
      go_wp2_with fail
      refine (rfdel_nil w2 (memT f big)).mono ?_
      rintro _ w' ⟨rfl, hw'⟩
      obtain rfl := hw'.symm
      obtain ⟨c0, c1, c2, c3, c4, c5⟩ := SX.out w2 BB2.out
      go_wp2_with fail
      refine (HM.out w2).mono ?_
      rintro _ w4 ⟨rfl, b4⟩
      have BB4 := keep (bup BB2.out b4)
      clear b4 c0 c1 c2 c3 c4 c5
      go_wp2_with fail
      refine (fdel_nil w4 (memT f big)).mono ?_
      rintro _ w5 ⟨rfl, b5⟩
      have BB5 := keep (bup BB4.out b5)
      clear b5
      go_wp2
      go_ret
      exact ⟨by simp, bup B1.out BB5.out⟩
  by_cases a4 : op = 4
  · subst a4
    as_aux_lemma =>
      go_enter Tryz.func9, Tryz.ntmps9
      go_wp2_with fail
      refine (HM.out W1).mono ?_
      rintro _ w2 ⟨rfl, b2⟩
      have BB2 := keep b2
      clear b2 c0 c1 c2 c3 c4 c5
      go_wp2_with fail
      refine (rfdel_nil w2 (memT f big)).mono ?_
      rintro _ w' ⟨rfl, hw'⟩
      obtain rfl := hw'.symm
      obtain ⟨c0, c1, c2, c3, c4, c5⟩ := SX.out w2 BB2.out
      go_wp2_with fail
      refine (HM.out w2).mono ?_
      rintro _ w4 ⟨rfl, b4⟩
      have BB4 := keep (bup BB2.out b4)
      clear b4 c0 c1 c2 c3 c4 c5
      go_wp2_with fail
      refine (fdel_nil w4 (memT f big)).mono ?_
      rintro _ w5 ⟨rfl, b5⟩
      have BB5 := keep (bup BB4.out b5)
      clear b5
      go_wp2
      go_ret
      exact ⟨by simp, bup B1.out BB5.out⟩
  by_cases a5 : op = 5
  · subst a5
    as_aux_lemma =>
      go_enter Tryz.func9, Tryz.ntmps9
      go_wp2_with fail
      refine (HM.out W1).mono ?_
      rintro _ w2 ⟨rfl, b2⟩
      have BB2 := keep b2
      clear b2 c0 c1 c2 c3 c4 c5
      go_wp2_with fail
      refine (rfhas_nil w2 (memT f big)).mono ?_
      rintro _ w' ⟨rfl, hw'⟩
      obtain rfl := hw'.symm
      obtain ⟨c0, c1, c2, c3, c4, c5⟩ := SX.out w2 BB2.out
      go_wp2_with fail
      refine (HM.out w2).mono ?_
      rintro _ w4 ⟨rfl, b4⟩
      have BB4 := keep (bup BB2.out b4)
      clear b4 c0 c1 c2 c3 c4 c5
      go_wp2_with fail
      refine (fhas_nil w4 (memT f big)).mono ?_
      rintro _ w5 ⟨rfl, b5⟩
      have BB5 := keep (bup BB4.out b5)
      clear b5
      go_wp2
      go_ret
      exact ⟨by simp, bup B1.out BB5.out⟩
  by_cases a6 : op = 6
  · subst a6
    as_aux_lemma =>
      go_enter Tryz.func9, Tryz.ntmps9
      go_wp2_with fail
      refine (rfsample_nil W1 n).mono ?_
      rintro _ w' ⟨rfl, hw'⟩
      obtain rfl := hw'.symm
      go_wp2_with fail
      refine (fsample_nil W1 n).mono ?_
      rintro _ w5 ⟨rfl, b5⟩
      have BB5 := keep b5
      clear b5
      go_wp2
      go_ret
      exact ⟨by simp, bup B1.out BB5.out⟩
  by_cases a7 : op = 7
  · subst a7
    as_aux_lemma =>
      go_enter Tryz.func9, Tryz.ntmps9
      go_wp2_with fail
      refine (scans_nil W1 n cnt).mono ?_
      rintro _ w3 ⟨rfl, b3⟩
      have BB3 := keep b3
      clear b3
      go_wp2
      go_ret
      exact ⟨rfl, bup B1.out BB3.out⟩
  by_cases a8 : op = 8
  · subst a8
    as_aux_lemma =>
      obtain ⟨T, hT, hT6⟩ : ∃ T : Nat, min (max cnt 0) 60 = (T : Int) ∧ T ≤ 60 := ⟨(min (max cnt 0) 60).toNat, by omega, by omega⟩
      have HT := keep hT6
      have L0 : Kept (Below W1.heap.size W1 W1) := Below.refl _ _
      go_enter Tryz.func9, Tryz.ntmps9
      go_wp2
      go_loopg [118] T (fun kx si wr => ∃ j : Nat, si = .int .i64 j ∧ j ≤ T ∧ T - j ≤ kx ∧ Kept (Below W1.heap.size W1 wr))
      case atStart => exact ⟨0, rfl, Nat.zero_le _, by omega, L0⟩
      case round =>
        clear L0 c0 c1 c2 c3 c4 c5
        obtain ⟨j, rfl, hj, hg, KL⟩ := hrel
        by_cases hjl : j < T
        · have hjz : (j : Int) < (T : Int) := by omega
          have hj6 : j < 60 := by have := HT.out; omega
          have hwj : IntKind.i64.wrap ((j : Int) + 1) = (j : Int) + 1 := by rw [IntKind.wrap_i64]; omega
          have hwb : IntKind.u8.wrap (j : Int) = (j : Int) := by rw [IntKind.wrap_u8]; omega
          obtain ⟨c0, c1, c2, c3, c4, c5⟩ := SX.out wr KL.out
          obtain ⟨wb, hwbb⟩ : ∃ wb, wr.alloc (.cells #[.int .u8 (j : Int)] 5) = wb := ⟨_, rfl⟩
          have cv := byte_at wr j (by omega)
          rw [hwbb] at cv
          have hadd : ∀ w : World, (Op.stringOp .add f (bt j)).run Tryz.prog w = .ok (.string (f ++ bt j)) w := fun w => run_string_add_sum w _ _ (by rw [bt_size]; have := HFS.out; omega)
          have BB : Kept (Below W1.heap.size W1 wb) := by rw [← hwbb]; exact KL.out.alloc KL.out.size _
          clear KL
          go_wp2_with fail
          refine (rfadd_nil wb (f ++ bt j)).mono ?_
          rintro _ w' ⟨rfl, hw'⟩
          obtain rfl := hw'.symm
          clear c0 c1 c2 c3 c4 c5 cv hadd hwbb
          go_wp2_with fail
          refine (fadd_nil (w := wb) (f ++ bt j)).mono ?_
          rintro _ w' ⟨rfl, hw'⟩
          obtain rfl := hw'.symm
          have BB5 := BB
          go_wp2
          go_roundg (T - (j + 1))
          case measure => omega
          case rel => exact ⟨j + 1, by simp, by omega, Nat.le_refl _, BB5⟩
        · have hjz : ¬ (j : Int) < (T : Int) := by omega
          have HE : Kept (Below X w wr) := by rw [← hX]; exact bup B1.out KL.out
          go_wp2
          go_ret
          exact ⟨rfl, by first | exact HE.out | (rw [hX]; exact HE.out)⟩
  by_cases a9 : op = 9
  · subst a9
    as_aux_lemma =>
      obtain ⟨T, hT, hT6⟩ : ∃ T : Nat, min (max cnt 0) 60 = (T : Int) ∧ T ≤ 60 := ⟨(min (max cnt 0) 60).toNat, by omega, by omega⟩
      have HT := keep hT6
      have L0 : Kept (Below W1.heap.size W1 W1) := Below.refl _ _
      go_enter Tryz.func9, Tryz.ntmps9
      go_wp2
      go_loopg [155] T (fun kx si wr => ∃ j : Nat, si = .int .i64 j ∧ j ≤ T ∧ T - j ≤ kx ∧ Kept (Below W1.heap.size W1 wr))
      case atStart => exact ⟨0, rfl, Nat.zero_le _, by omega, L0⟩
      case round =>
        clear L0 c0 c1 c2 c3 c4 c5
        obtain ⟨j, rfl, hj, hg, KL⟩ := hrel
        by_cases hjl : j < T
        · have hjz : (j : Int) < (T : Int) := by omega
          have hj6 : j < 60 := by have := HT.out; omega
          have hwj : IntKind.i64.wrap ((j : Int) + 1) = (j : Int) + 1 := by rw [IntKind.wrap_i64]; omega
          have hwb : IntKind.u8.wrap (j : Int) = (j : Int) := by rw [IntKind.wrap_u8]; omega
          obtain ⟨c0, c1, c2, c3, c4, c5⟩ := SX.out wr KL.out
          obtain ⟨wb, hwbb⟩ : ∃ wb, wr.alloc (.cells #[.int .u8 (j : Int)] 5) = wb := ⟨_, rfl⟩
          have cv := byte_at wr j (by omega)
          rw [hwbb] at cv
          have hadd : ∀ w : World, (Op.stringOp .add f (bt j)).run Tryz.prog w = .ok (.string (f ++ bt j)) w := fun w => run_string_add_sum w _ _ (by rw [bt_size]; have := HFS.out; omega)
          have BB : Kept (Below W1.heap.size W1 wb) := by rw [← hwbb]; exact KL.out.alloc KL.out.size _
          clear KL
          go_wp2_with fail
          refine (rfdel_nil wb (f ++ bt j)).mono ?_
          rintro _ w' ⟨rfl, hw'⟩
          obtain rfl := hw'.symm
          clear c0 c1 c2 c3 c4 c5 cv hadd hwbb
          go_wp2_with fail
          refine (fdel_nil wb (f ++ bt j)).mono ?_
          rintro _ w5 ⟨rfl, b5⟩
          have BB5 := keep (bup BB.out b5)
          clear b5
          go_wp2
          go_roundg (T - (j + 1))
          case measure => omega
          case rel => exact ⟨j + 1, by simp, by omega, Nat.le_refl _, BB5⟩
        · have hjz : ¬ (j : Int) < (T : Int) := by omega
          have HE : Kept (Below X w wr) := by rw [← hX]; exact bup B1.out KL.out
          go_wp2
          go_ret
          exact ⟨rfl, by first | exact HE.out | (rw [hX]; exact HE.out)⟩
  by_cases a10 : op = 10
  · subst a10
    as_aux_lemma =>
      go_enter Tryz.func9, Tryz.ntmps9
      go_wp2_with fail
      refine (stands_nil W1).mono ?_
      rintro _ w3 ⟨rfl, b3⟩
      have BB3 := keep b3
      clear b3
      go_wp2
      go_ret
      exact ⟨rfl, bup B1.out BB3.out⟩
  as_aux_lemma =>
    have e0 : (op == (0 : Int)) = false := beq_eq_false_iff_ne.2 a0
    have e1 : (op == (1 : Int)) = false := beq_eq_false_iff_ne.2 a1
    have e2 : (op == (2 : Int)) = false := beq_eq_false_iff_ne.2 a2
    have e3 : (op == (3 : Int)) = false := beq_eq_false_iff_ne.2 a3
    have e4 : (op == (4 : Int)) = false := beq_eq_false_iff_ne.2 a4
    have e5 : (op == (5 : Int)) = false := beq_eq_false_iff_ne.2 a5
    have e6 : (op == (6 : Int)) = false := beq_eq_false_iff_ne.2 a6
    have e7 : (op == (7 : Int)) = false := beq_eq_false_iff_ne.2 a7
    have e8 : (op == (8 : Int)) = false := beq_eq_false_iff_ne.2 a8
    have e9 : (op == (9 : Int)) = false := beq_eq_false_iff_ne.2 a9
    have e10 : (op == (10 : Int)) = false := beq_eq_false_iff_ne.2 a10
    go_enter Tryz.func9, Tryz.ntmps9
    go_wp2
    go_ret
    exact ⟨rfl, B1.out⟩
end Rd
end Go.Proofs.YtlfpkbjiofelkaaGreat
