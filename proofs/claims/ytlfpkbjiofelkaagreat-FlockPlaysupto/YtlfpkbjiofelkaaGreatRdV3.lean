/-
  Contracts over this program: a step of a flock and of the document's own answers what the document says (the statement's own plays).
-/
import Derived.Test.YtlfpkbjiofelkaaGreatRdV2
import Derived.Test.YtlfpkbjiofelkaaGreatRdQ1
namespace Go.Proofs.YtlfpkbjiofelkaaGreat
open Go.RowKit Go.Shelf
set_option linter.unusedVariables false
set_option linter.unusedSimpArgs false
set_option maxRecDepth 100000
namespace Rd
theorem Pf.more {h : ByteArray → Nat} {N N' : Nat} {w : World} {O : Nat → Prop} {R R2 seed : Nat} {l : List ByteArray} {s : Sf} (hp : Pf h N w O R R2 seed l s) (hN : N ≤ N') : Pf h N' w O R R2 seed l s := by
  obtain ⟨r, b, q, b2, v, KV, hr, hf, ha, rfl⟩ := hp.ex
  exact ⟨r, b, q, b2, v, KV, hr.more hN, hf.more hN, ha, rfl⟩
theorem FinP.from {w wz w2 : World} {O : Nat → Prop} {R R2 seed N N' : Nat} (hb : Below w.heap.size w wz) (hN : N ≤ N') (h : FinP wz O R R2 seed N w2) : FinP w O R R2 seed N' w2 := by
  obtain ⟨O', l', s', h1, h2⟩ := h
  exact ⟨O', l', s', h1.more hN, (Fp.bel hb).trans h2⟩
/-- a block is as it was -/
def SmX (W1 : World) (X : Nat) (wr : World) : Prop := wr.heap[X]? = W1.heap[X]?
theorem FinP.same {w w2 : World} {O : Nat → Prop} {R R2 seed N : Nat} {l : List ByteArray} {s : Sf} (h : Pf (hs seed) N w O R R2 seed l s) (hb : Below w.heap.size w w2) : FinP w O R R2 seed N w2 := ⟨O, l, s, h.below hb, Fp.bel hb⟩
set_option maxHeartbeats 40000000 in
theorem plays_any (who op : Int) (f : ByteArray) (big : Int) (n : Nat) (cnt : Int) (hf : f.size ≤ 1048576) (hn : n < Dw.M) {w : World} {O : Nat → Prop} {R R2 seed N : Nat} {l : List ByteArray} {s : Sf} (hp : Pf (hs seed) N w O R R2 seed l s) (hsd : seed < Dw.M) (hN : N + 60 ≤ 2000000000000) :
    Calls Tryz.prog 9 #[.pointer (some ⟨R, 0, none⟩), .pointer (some ⟨R2, 0, none⟩), .agg #[.int .i64 who, .int .i64 op, .string f, .int .i64 big, .int .u64 (n : Int), .int .i64 cnt]] w fun e w' => e = .returned (.bool true) ∧ FinP w O R R2 seed (N + 60) w' := by
  obtain ⟨X, hX⟩ : ∃ X, w.heap.size = X := ⟨_, rfl⟩
  obtain ⟨W1, hW1⟩ : ∃ W1, w.alloc (.cells #[.int .i64 who, .int .i64 op, .string f, .int .i64 big, .int .u64 (n : Int), .int .i64 cnt] 32) = W1 := ⟨_, rfl⟩
  have hb1 : Below w.heap.size w W1 := by rw [← hW1]; exact (Below.refl _ w).alloc (Nat.le_refl _) _
  have hs1 : W1.heap.size = X + 1 := by rw [← hW1, ← hX]; simp
  have g1 : W1.heap[X]? = some (.cells #[.int .i64 who, .int .i64 op, .string f, .int .i64 big, .int .u64 (n : Int), .int .i64 cnt] 32 (0, 0)) := by rw [← hW1, ← hX]; exact heap_alloc_new _ _
  have hXn : ¬ O X := fun hh => by have := hp.lt hh; omega
  have SX : Kept (∀ wz : World, wz.heap[X]? = W1.heap[X]? → wz.cell? ⟨X, 0, none⟩ = some (.int .i64 who) ∧ wz.cell? ⟨X, 1, none⟩ = some (.int .i64 op) ∧ wz.cell? ⟨X, 2, none⟩ = some (.string f) ∧ wz.cell? ⟨X, 3, none⟩ = some (.int .i64 big) ∧ wz.cell? ⟨X, 4, none⟩ = some (.int .u64 (n : Int)) ∧ wz.cell? ⟨X, 5, none⟩ = some (.int .i64 cnt)) := fun wz hz => sixc (hz.trans g1)
  have HX : Kept (∀ (w1 w2 : World), w1.heap[X]? = W1.heap[X]? → X < w1.heap.size → (∀ k, k < w1.heap.size → ¬ O k → w2.heap[k]? = w1.heap[k]?) → w2.heap[X]? = W1.heap[X]?) := fun w1 w2 h1 h2 h3 => (h3 X h2 hXn).trans h1
  have HS1 : Kept (X < W1.heap.size) := by show X < _; omega
  have HP := keep (hp.below hb1)
  have B1 := keep hb1
  have HM := keep (fun wz => member_any who op f big n cnt hf wz)
  have HMS := keep (memT_size hf big)
  have HFS := keep hf
  have HNN := keep hn
  have HSD := keep hsd
  have HN := keep hN
  have HXN := keep hXn
  obtain ⟨c0, c1, c2, c3, c4, c5⟩ := SX.out W1 rfl
  clear hp hsd hN hf hn hb1 hs1 g1 hXn
  by_cases a0 : op = 0
  · subst a0
    as_aux_lemma =>
      go_enter Tryz.func9, Tryz.ntmps9
      go_wp2_with fail
      refine (HM.out W1).mono ?_
      rintro _ w2 ⟨rfl, b2⟩
      obtain ⟨i, c, hpr⟩ := pair_add (HP.out.below b2) HSD.out (by have := HN.out; omega) (memT f big)
      have MS := keep hpr
      unfold Pair2 at MS
      have x2 : Kept (w2.heap[X]? = W1.heap[X]? ∧ X < w2.heap.size) := ⟨b2.block X HS1.out, Nat.lt_of_lt_of_le HS1.out b2.size⟩
      have BB2 := keep (bup B1.out b2)
      clear hpr b2 c0 c1 c2 c3 c4 c5
      go_wp2_with fail
      refine MS.out.mono ?_
      rintro _ w3 ⟨rfl, ⟨s3, n3⟩, nx3⟩
      obtain ⟨c0, c1, c2, c3, c4, c5⟩ := SX.out w3 (HX.out w2 w3 x2.out.1 x2.out.2 n3)
      have NX := keep nx3
      clear s3 n3 nx3 MS
      go_wp2_with fail
      refine (HM.out w3).mono ?_
      rintro _ w4 ⟨rfl, b4⟩
      have MT := keep (NX.out w4 b4)
      clear b4 NX c0 c1 c2 c3 c4 c5
      go_wp2_with fail
      refine MT.out.mono ?_
      rintro _ w5 ⟨rfl, f5⟩
      have HD := keep (FinP.from (N' := N + 60) BB2.out (by omega) f5)
      clear f5 MT
      go_wp2
      go_ret
      exact ⟨by simp, HD.out⟩
  by_cases a1 : op = 1
  · subst a1
    as_aux_lemma =>
      go_enter Tryz.func9, Tryz.ntmps9
      go_wp2_with fail
      refine (HM.out W1).mono ?_
      rintro _ w2 ⟨rfl, b2⟩
      obtain ⟨i, c, hpr⟩ := pair_add (HP.out.below b2) HSD.out (by have := HN.out; omega) (memT f big)
      have MS := keep hpr
      unfold Pair2 at MS
      have x2 : Kept (w2.heap[X]? = W1.heap[X]? ∧ X < w2.heap.size) := ⟨b2.block X HS1.out, Nat.lt_of_lt_of_le HS1.out b2.size⟩
      have BB2 := keep (bup B1.out b2)
      clear hpr b2 c0 c1 c2 c3 c4 c5
      go_wp2_with fail
      refine MS.out.mono ?_
      rintro _ w3 ⟨rfl, ⟨s3, n3⟩, nx3⟩
      obtain ⟨c0, c1, c2, c3, c4, c5⟩ := SX.out w3 (HX.out w2 w3 x2.out.1 x2.out.2 n3)
      have NX := keep nx3
      clear s3 n3 nx3 MS
      go_wp2_with fail
      refine (HM.out w3).mono ?_
      rintro _ w4 ⟨rfl, b4⟩
      have MT := keep (NX.out w4 b4)
      clear b4 NX c0 c1 c2 c3 c4 c5
      go_wp2_with fail
      refine MT.out.mono ?_
      rintro _ w5 ⟨rfl, f5⟩
      have HD := keep (FinP.from (N' := N + 60) BB2.out (by omega) f5)
      clear f5 MT
      go_wp2
      go_ret
      exact ⟨by simp, HD.out⟩
  by_cases a2 : op = 2
  · subst a2
    as_aux_lemma =>
      go_enter Tryz.func9, Tryz.ntmps9
      go_wp2_with fail
      refine (HM.out W1).mono ?_
      rintro _ w2 ⟨rfl, b2⟩
      obtain ⟨i, c, hpr⟩ := pair_add (HP.out.below b2) HSD.out (by have := HN.out; omega) (memT f big)
      have MS := keep hpr
      unfold Pair2 at MS
      have x2 : Kept (w2.heap[X]? = W1.heap[X]? ∧ X < w2.heap.size) := ⟨b2.block X HS1.out, Nat.lt_of_lt_of_le HS1.out b2.size⟩
      have BB2 := keep (bup B1.out b2)
      clear hpr b2 c0 c1 c2 c3 c4 c5
      go_wp2_with fail
      refine MS.out.mono ?_
      rintro _ w3 ⟨rfl, ⟨s3, n3⟩, nx3⟩
      obtain ⟨c0, c1, c2, c3, c4, c5⟩ := SX.out w3 (HX.out w2 w3 x2.out.1 x2.out.2 n3)
      have NX := keep nx3
      clear s3 n3 nx3 MS
      go_wp2_with fail
      refine (HM.out w3).mono ?_
      rintro _ w4 ⟨rfl, b4⟩
      have MT := keep (NX.out w4 b4)
      clear b4 NX c0 c1 c2 c3 c4 c5
      go_wp2_with fail
      refine MT.out.mono ?_
      rintro _ w5 ⟨rfl, f5⟩
      have HD := keep (FinP.from (N' := N + 60) BB2.out (by omega) f5)
      clear f5 MT
      go_wp2
      go_ret
      exact ⟨by simp, HD.out⟩
  by_cases a3 : op = 3
  · subst a3
    as_aux_lemma =>
      go_enter Tryz.func9, Tryz.ntmps9
      go_wp2_with fail
      refine (HM.out W1).mono ?_
      rintro _ w2 ⟨rfl, b2⟩
      obtain ⟨i, hpr⟩ := pair_del (HP.out.below b2) HSD.out (by have := HN.out; omega) (memT f big) HMS.out
      have MS := keep hpr
      unfold Pair2 at MS
      have x2 : Kept (w2.heap[X]? = W1.heap[X]? ∧ X < w2.heap.size) := ⟨b2.block X HS1.out, Nat.lt_of_lt_of_le HS1.out b2.size⟩
      have BB2 := keep (bup B1.out b2)
      clear hpr b2 c0 c1 c2 c3 c4 c5
      go_wp2_with fail
      refine MS.out.mono ?_
      rintro _ w3 ⟨rfl, ⟨s3, n3⟩, nx3⟩
      obtain ⟨c0, c1, c2, c3, c4, c5⟩ := SX.out w3 (HX.out w2 w3 x2.out.1 x2.out.2 n3)
      have NX := keep nx3
      clear s3 n3 nx3 MS
      go_wp2_with fail
      refine (HM.out w3).mono ?_
      rintro _ w4 ⟨rfl, b4⟩
      have MT := keep (NX.out w4 b4)
      clear b4 NX c0 c1 c2 c3 c4 c5
      go_wp2_with fail
      refine MT.out.mono ?_
      rintro _ w5 ⟨rfl, f5⟩
      have HD := keep (FinP.from (N' := N + 60) BB2.out (by omega) f5)
      clear f5 MT
      go_wp2
      go_ret
      exact ⟨by simp, HD.out⟩
  by_cases a4 : op = 4
  · subst a4
    as_aux_lemma =>
      go_enter Tryz.func9, Tryz.ntmps9
      go_wp2_with fail
      refine (HM.out W1).mono ?_
      rintro _ w2 ⟨rfl, b2⟩
      obtain ⟨i, hpr⟩ := pair_del (HP.out.below b2) HSD.out (by have := HN.out; omega) (memT f big) HMS.out
      have MS := keep hpr
      unfold Pair2 at MS
      have x2 : Kept (w2.heap[X]? = W1.heap[X]? ∧ X < w2.heap.size) := ⟨b2.block X HS1.out, Nat.lt_of_lt_of_le HS1.out b2.size⟩
      have BB2 := keep (bup B1.out b2)
      clear hpr b2 c0 c1 c2 c3 c4 c5
      go_wp2_with fail
      refine MS.out.mono ?_
      rintro _ w3 ⟨rfl, ⟨s3, n3⟩, nx3⟩
      obtain ⟨c0, c1, c2, c3, c4, c5⟩ := SX.out w3 (HX.out w2 w3 x2.out.1 x2.out.2 n3)
      have NX := keep nx3
      clear s3 n3 nx3 MS
      go_wp2_with fail
      refine (HM.out w3).mono ?_
      rintro _ w4 ⟨rfl, b4⟩
      have MT := keep (NX.out w4 b4)
      clear b4 NX c0 c1 c2 c3 c4 c5
      go_wp2_with fail
      refine MT.out.mono ?_
      rintro _ w5 ⟨rfl, f5⟩
      have HD := keep (FinP.from (N' := N + 60) BB2.out (by omega) f5)
      clear f5 MT
      go_wp2
      go_ret
      exact ⟨by simp, HD.out⟩
  by_cases a5 : op = 5
  · subst a5
    as_aux_lemma =>
      go_enter Tryz.func9, Tryz.ntmps9
      go_wp2_with fail
      refine (HM.out W1).mono ?_
      rintro _ w2 ⟨rfl, b2⟩
      obtain ⟨i, hpr⟩ := pair_has (HP.out.below b2) HSD.out (by have := HN.out; omega) (memT f big) HMS.out
      have MS := keep hpr
      unfold Pair2 at MS
      have x2 : Kept (w2.heap[X]? = W1.heap[X]? ∧ X < w2.heap.size) := ⟨b2.block X HS1.out, Nat.lt_of_lt_of_le HS1.out b2.size⟩
      have BB2 := keep (bup B1.out b2)
      clear hpr b2 c0 c1 c2 c3 c4 c5
      go_wp2_with fail
      refine MS.out.mono ?_
      rintro _ w3 ⟨rfl, ⟨s3, n3⟩, nx3⟩
      obtain ⟨c0, c1, c2, c3, c4, c5⟩ := SX.out w3 (HX.out w2 w3 x2.out.1 x2.out.2 n3)
      have NX := keep nx3
      clear s3 n3 nx3 MS
      go_wp2_with fail
      refine (HM.out w3).mono ?_
      rintro _ w4 ⟨rfl, b4⟩
      have MT := keep (NX.out w4 b4)
      clear b4 NX c0 c1 c2 c3 c4 c5
      go_wp2_with fail
      refine MT.out.mono ?_
      rintro _ w5 ⟨rfl, f5⟩
      have HD := keep (FinP.from (N' := N + 60) BB2.out (by omega) f5)
      clear f5 MT
      go_wp2
      go_ret
      exact ⟨by simp, HD.out⟩
  by_cases a6 : op = 6
  · subst a6
    as_aux_lemma =>
      obtain ⟨x, i, hpr⟩ := pair_sample HP.out (by have := HN.out; omega) n HNN.out
      have MS := keep hpr
      unfold Pair2 at MS
      clear hpr
      go_enter Tryz.func9, Tryz.ntmps9
      go_wp2_with fail
      refine MS.out.mono ?_
      rintro _ w3 ⟨rfl, ⟨s3, n3⟩, nx3⟩
      have d := SX.out w3 (HX.out W1 w3 rfl HS1.out n3)
      obtain ⟨d0, d1, d2, d3, d4, d5⟩ := d
      have MT := keep (nx3 w3 (Below.refl _ _))
      clear s3 n3 nx3 MS c0 c1 c2 c3 c4 c5
      go_wp2_with fail
      refine MT.out.mono ?_
      rintro _ w5 ⟨rfl, f5⟩
      have HD := keep (FinP.from (N' := N + 60) B1.out (by omega) f5)
      clear f5 MT
      go_wp2
      go_ret
      exact ⟨by simp, HD.out⟩
  by_cases a7 : op = 7
  · subst a7
    as_aux_lemma =>
      have MS := keep (scans_any HP.out (by have := HN.out; omega) n (Nat.lt_of_lt_of_le HNN.out (by decide)) cnt)
      go_enter Tryz.func9, Tryz.ntmps9
      go_wp2_with fail
      refine MS.out.mono ?_
      rintro _ w3 ⟨rfl, b3⟩
      have HD := keep (FinP.from (N' := N + 60) B1.out (by omega) (FinP.same HP.out b3))
      clear b3 MS
      go_wp2
      go_ret
      exact ⟨rfl, HD.out⟩
  by_cases a8 : op = 8
  · subst a8
    as_aux_lemma =>
      obtain ⟨T, hT, hT6⟩ : ∃ T : Nat, min (max cnt 0) 60 = (T : Int) ∧ T ≤ 60 := ⟨(min (max cnt 0) 60).toNat, by omega, by omega⟩
      have HT := keep hT6
      have L0 : Kept (∃ O' l' s', Pf (hs seed) (N + 0) W1 O' R R2 seed l' s' ∧ Fp w O W1 O' ∧ SmX W1 X W1 ∧ ¬ O' X) := ⟨O, l, s, HP.out, Fp.bel B1.out, rfl, HXN.out⟩
      go_enter Tryz.func9, Tryz.ntmps9
      go_wp2
      go_loopg [118] T (fun kx si wr => ∃ j : Nat, si = .int .i64 j ∧ j ≤ T ∧ T - j ≤ kx ∧ Kept (∃ O' l' s', Pf (hs seed) (N + j) wr O' R R2 seed l' s' ∧ Fp w O wr O' ∧ SmX W1 X wr ∧ ¬ O' X))
      case atStart => exact ⟨0, rfl, Nat.zero_le _, by omega, L0⟩
      case round =>
        clear L0 c0 c1 c2 c3 c4 c5
        obtain ⟨j, rfl, hj, hg, KL⟩ := hrel
        obtain ⟨O', l', s', k1, k2, k3, k4⟩ := KL.out
        by_cases hjl : j < T
        · have hjz : (j : Int) < (T : Int) := by omega
          have hj6 : j < 60 := by have := HT.out; omega
          have hwj : IntKind.i64.wrap ((j : Int) + 1) = (j : Int) + 1 := by rw [IntKind.wrap_i64]; omega
          have hwb : IntKind.u8.wrap (j : Int) = (j : Int) := by rw [IntKind.wrap_u8]; omega
          have hlX : X < wr.heap.size := (Array.getElem?_eq_some_iff.1 (k3.trans (Array.getElem?_eq_getElem HS1.out))).1
          obtain ⟨c0, c1, c2, c3, c4, c5⟩ := SX.out wr k3
          obtain ⟨wb, hwbb⟩ : ∃ wb, wr.alloc (.cells #[.int .u8 (j : Int)] 5) = wb := ⟨_, rfl⟩
          have cv := byte_at wr j (by omega)
          rw [hwbb] at cv
          have hadd : ∀ w : World, (Op.stringOp .add f (bt j)).run Tryz.prog w = .ok (.string (f ++ bt j)) w := fun w => run_string_add_sum w _ _ (by rw [bt_size]; have := HFS.out; omega)
          have bb : Below wr.heap.size wr wb := by rw [← hwbb]; exact (Below.refl _ wr).alloc (Nat.le_refl _) _
          obtain ⟨i, c, hpr⟩ := pair_add (k1.below bb) HSD.out (by have := HN.out; omega) (f ++ bt j)
          have MS := keep hpr
          unfold Pair2 at MS
          have K2 := keep k2
          have K3 := keep k3
          have K4 := keep k4
          have LX := keep hlX
          have BB := keep bb
          clear hpr k1 k2 k3 k4 KL hlX bb
          go_wp2_with fail
          refine MS.out.mono ?_
          rintro _ w3 ⟨rfl, _, nx3⟩
          have MT := keep (nx3 w3 (Below.refl _ _))
          clear nx3 MS c0 c1 c2 c3 c4 c5 cv hadd
          go_wp2_with fail
          refine MT.out.mono ?_
          rintro _ w5 ⟨rfl, f5⟩
          have L5 : Kept (∃ O' l' s', Pf (hs seed) (N + (j + 1)) w5 O' R R2 seed l' s' ∧ Fp w O w5 O' ∧ SmX W1 X w5 ∧ ¬ O' X) := by
            obtain ⟨O5, l5, s5, p5, q5⟩ := f5
            obtain ⟨a1, a2⟩ := ((Fp.bel BB.out).trans q5).2.2 X LX.out K4.out
            exact ⟨O5, l5, s5, p5.more (by omega), K2.out.trans ((Fp.bel BB.out).trans q5), a1.trans K3.out, a2⟩
          clear f5 MT
          go_wp2
          go_roundg (T - (j + 1))
          case measure => omega
          case rel => exact ⟨j + 1, by simp, by omega, Nat.le_refl _, L5⟩
        · have hjz : ¬ (j : Int) < (T : Int) := by omega
          have HD : Kept (FinP w O R R2 seed (N + 60) wr) := ⟨O', l', s', k1.more (by have := HT.out; omega), k2⟩
          clear k1 k2 k3 k4 KL
          go_wp2
          go_ret
          exact ⟨rfl, HD.out⟩
  by_cases a9 : op = 9
  · subst a9
    as_aux_lemma =>
      obtain ⟨T, hT, hT6⟩ : ∃ T : Nat, min (max cnt 0) 60 = (T : Int) ∧ T ≤ 60 := ⟨(min (max cnt 0) 60).toNat, by omega, by omega⟩
      have HT := keep hT6
      have L0 : Kept (∃ O' l' s', Pf (hs seed) (N + 0) W1 O' R R2 seed l' s' ∧ Fp w O W1 O' ∧ SmX W1 X W1 ∧ ¬ O' X) := ⟨O, l, s, HP.out, Fp.bel B1.out, rfl, HXN.out⟩
      go_enter Tryz.func9, Tryz.ntmps9
      go_wp2
      go_loopg [155] T (fun kx si wr => ∃ j : Nat, si = .int .i64 j ∧ j ≤ T ∧ T - j ≤ kx ∧ Kept (∃ O' l' s', Pf (hs seed) (N + j) wr O' R R2 seed l' s' ∧ Fp w O wr O' ∧ SmX W1 X wr ∧ ¬ O' X))
      case atStart => exact ⟨0, rfl, Nat.zero_le _, by omega, L0⟩
      case round =>
        clear L0 c0 c1 c2 c3 c4 c5
        obtain ⟨j, rfl, hj, hg, KL⟩ := hrel
        obtain ⟨O', l', s', k1, k2, k3, k4⟩ := KL.out
        by_cases hjl : j < T
        · have hjz : (j : Int) < (T : Int) := by omega
          have hj6 : j < 60 := by have := HT.out; omega
          have hwj : IntKind.i64.wrap ((j : Int) + 1) = (j : Int) + 1 := by rw [IntKind.wrap_i64]; omega
          have hwb : IntKind.u8.wrap (j : Int) = (j : Int) := by rw [IntKind.wrap_u8]; omega
          have hlX : X < wr.heap.size := (Array.getElem?_eq_some_iff.1 (k3.trans (Array.getElem?_eq_getElem HS1.out))).1
          obtain ⟨c0, c1, c2, c3, c4, c5⟩ := SX.out wr k3
          obtain ⟨wb, hwbb⟩ : ∃ wb, wr.alloc (.cells #[.int .u8 (j : Int)] 5) = wb := ⟨_, rfl⟩
          have cv := byte_at wr j (by omega)
          rw [hwbb] at cv
          have hadd : ∀ w : World, (Op.stringOp .add f (bt j)).run Tryz.prog w = .ok (.string (f ++ bt j)) w := fun w => run_string_add_sum w _ _ (by rw [bt_size]; have := HFS.out; omega)
          have bb : Below wr.heap.size wr wb := by rw [← hwbb]; exact (Below.refl _ wr).alloc (Nat.le_refl _) _
          obtain ⟨i, hpr⟩ := pair_del (k1.below bb) HSD.out (by have := HN.out; omega) (f ++ bt j) (by rw [ByteArray.size_append, bt_size]; have := HFS.out; unfold maxLen; omega)
          have MS := keep hpr
          unfold Pair2 at MS
          have K2 := keep k2
          have K3 := keep k3
          have K4 := keep k4
          have LX := keep hlX
          have BB := keep bb
          clear hpr k1 k2 k3 k4 KL hlX bb
          go_wp2_with fail
          refine MS.out.mono ?_
          rintro _ w3 ⟨rfl, _, nx3⟩
          have MT := keep (nx3 w3 (Below.refl _ _))
          clear nx3 MS c0 c1 c2 c3 c4 c5 cv hadd
          go_wp2_with fail
          refine MT.out.mono ?_
          rintro _ w5 ⟨rfl, f5⟩
          have L5 : Kept (∃ O' l' s', Pf (hs seed) (N + (j + 1)) w5 O' R R2 seed l' s' ∧ Fp w O w5 O' ∧ SmX W1 X w5 ∧ ¬ O' X) := by
            obtain ⟨O5, l5, s5, p5, q5⟩ := f5
            obtain ⟨a1, a2⟩ := ((Fp.bel BB.out).trans q5).2.2 X LX.out K4.out
            exact ⟨O5, l5, s5, p5.more (by omega), K2.out.trans ((Fp.bel BB.out).trans q5), a1.trans K3.out, a2⟩
          clear f5 MT
          go_wp2
          go_roundg (T - (j + 1))
          case measure => omega
          case rel => exact ⟨j + 1, by simp, by omega, Nat.le_refl _, L5⟩
        · have hjz : ¬ (j : Int) < (T : Int) := by omega
          have HD : Kept (FinP w O R R2 seed (N + 60) wr) := ⟨O', l', s', k1.more (by have := HT.out; omega), k2⟩
          clear k1 k2 k3 k4 KL
          go_wp2
          go_ret
          exact ⟨rfl, HD.out⟩
  by_cases a10 : op = 10
  · subst a10
    as_aux_lemma =>
      have MS := keep (stands_any HP.out (by have := HN.out; omega))
      go_enter Tryz.func9, Tryz.ntmps9
      go_wp2_with fail
      refine MS.out.mono ?_
      rintro _ w3 ⟨rfl, b3⟩
      have HD := keep (FinP.from (N' := N + 60) B1.out (by omega) (FinP.same HP.out b3))
      clear b3 MS
      go_wp2
      go_ret
      exact ⟨rfl, HD.out⟩
  as_aux_lemma =>
    have e0 : (op == (0 : Int)) = false := beq_eq_false_iff_ne.2 a0
    have e1 : (op == (1 : Int)) = false := beq_eq_false_iff_ne.2 a1
    have e2 : (op == (2 : Int)) = false := beq_eq_false_iff_ne.2 a2
    have e3 : (op == (3 : Int)) = false := beq_eq_false_iff_ne.2 a3
    have e4 : (op == (4 : Int)) = false := beq_eq_false_iff_ne.2 a4
    have e5 : (op == (5 : Int)) = false := beq_eq_false_iff_ne.2 a5
    have e6 : (op == (6 : Int)) = false := beq_eq_false_iff_ne.2 a6
    have e7 : (op == (7 : Int)) = false := beq_eq_false_iff_ne.2 a7
    have e8 : (op == (8 : Int)) = false := beq_eq_false_iff_ne.2 a8
    have e9 : (op == (9 : Int)) = false := beq_eq_false_iff_ne.2 a9
    have e10 : (op == (10 : Int)) = false := beq_eq_false_iff_ne.2 a10
    have HD : Kept (FinP w O R R2 seed (N + 60) W1) := FinP.from (N' := N + 60) B1.out (by omega) (FinP.same HP.out (Below.refl _ _))
    go_enter Tryz.func9, Tryz.ntmps9
    go_wp2
    go_ret
    exact ⟨rfl, HD.out⟩
end Rd
end Go.Proofs.YtlfpkbjiofelkaaGreat
