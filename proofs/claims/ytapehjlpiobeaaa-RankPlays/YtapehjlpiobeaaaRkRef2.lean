/-
  Contracts over this program: Within of the document's own ranks.
-/
import Derived.Test.YtapehjlpiobeaaaRkRef4
namespace Go.Proofs.Ytapehjlpiobeaaa
open Go.RowKit Go.Shelf
set_option linter.unusedVariables false
set_option linter.unusedSimpArgs false
set_option maxRecDepth 100000
theorem bounds_laid (w : World) (a b : Nat) (p q : Bool) : ∃ W0, (w.alloc (.cells #[.float .f64 a, .bool p] 74)).alloc (.cells #[.float .f64 b, .bool q] 74) = W0 ∧ Below w.heap.size w W0 ∧ W0.heap.size = w.heap.size + 2 ∧ (∀ W, Below W0.heap.size W0 W → (W.cell? ⟨w.heap.size, 0, none⟩ = some (.float .f64 a) ∧ W.cell? ⟨w.heap.size, 1, none⟩ = some (.bool p)) ∧ (W.cell? ⟨w.heap.size + 1, 0, none⟩ = some (.float .f64 b) ∧ W.cell? ⟨w.heap.size + 1, 1, none⟩ = some (.bool q))) := by
  obtain ⟨W0, hW0⟩ : ∃ W0, (w.alloc (.cells #[.float .f64 a, .bool p] 74)).alloc (.cells #[.float .f64 b, .bool q] 74) = W0 := ⟨_, rfl⟩
  have hb0 : Below w.heap.size w W0 := by rw [← hW0]; exact ((Below.refl _ w).alloc (Nat.le_refl _) _).alloc (by simp) _
  have s0 : W0.heap.size = w.heap.size + 2 := by rw [← hW0]; simp
  have hh0 : W0.heap[w.heap.size]? = some (.cells #[.float .f64 a, .bool p] 74 (0, 0)) := by rw [← hW0, Below.heap_alloc _ _ _ (by simp)]; exact heap_alloc_new _ _
  have hh1 : W0.heap[w.heap.size + 1]? = some (.cells #[.float .f64 b, .bool q] 74 (0, 0)) := by
    have := heap_alloc_new (w.alloc (.cells #[.float .f64 a, .bool p] 74)) (.cells #[.float .f64 b, .bool q] 74)
    rw [hW0] at this
    simpa using this
  exact ⟨W0, hW0, hb0, s0, fun W hW => ⟨two_c (t := 74) ((hW.block _ (by omega)).trans hh0), two_c (t := 74) ((hW.block _ (by omega)).trans hh1)⟩⟩
set_option maxHeartbeats 4000000 in
theorem rwithin_nan (w : World) (B a b : Nat) (p q : Bool) (hn : isNan a = true ∨ isNan b = true) :
    Calls Try.prog 32 #[.pointer (some ⟨B, 0, none⟩), .agg #[.float .f64 a, .bool p], .agg #[.float .f64 b, .bool q]] w fun e w' => e = .returned (.tuple #[.int .i64 0, .int .i64 0]) ∧ Below w.heap.size w w' := by
  obtain ⟨W0, hW0, hb0, s0, hc⟩ := bounds_laid w a b p q
  obtain ⟨⟨c0, c1⟩, c2, c3⟩ := hc W0 (Below.refl _ _)
  have HB := keep hb0
  clear hc hb0 s0
  cases hna : isNan a
  · have hnb : isNan b = true := by rcases hn with h | h; · rw [hna] at h; cases h
                                    · exact h
    have oa : FloatKind.f64.format.order a a = some .eq := order_self hna
    have ob : FloatKind.f64.format.order b b = none := order_of_nan (Or.inl hnb)
    clear hn hna hnb
    go_enter Try.func32, Try.ntmps32
    go_wp2
    refine bodyPost_ret (results_tmp2 rfl _ _ _) rfl ?_
    exact ⟨rfl, HB.out⟩
  · have oa : FloatKind.f64.format.order a a = none := order_of_nan (Or.inl hna)
    clear hn hna
    go_enter Try.func32, Try.ntmps32
    go_wp2
    refine bodyPost_ret (results_tmp2 rfl _ _ _) rfl ?_
    exact ⟨rfl, HB.out⟩
/-- the three ways in which a number stands to another, and what is asked of it -/
theorem ord_q1 {x a : Nat} (hx : isNan x = false) (ha : isNan a = false) (k : ByteArray) (p : Bool) : (FloatKind.f64.format.order x a = some .lt ∧ q1 a p (k, x) = true) ∨ (FloatKind.f64.format.order x a = some .eq ∧ p = true ∧ q1 a p (k, x) = true) ∨ (FloatKind.f64.format.order x a = some .eq ∧ p = false ∧ q1 a p (k, x) = false) ∨ (FloatKind.f64.format.order x a = some .gt ∧ q1 a p (k, x) = false) := by
  have e : FloatKind.f64.format.order x a = Ieee.double.order x a := rfl
  unfold q1 flt feq
  rw [e, order_key hx ha]
  cases ko (fk x) (fk a) <;> cases p <;> simp
theorem ord_q2 {x b : Nat} (hx : isNan x = false) (hb : isNan b = false) (k : ByteArray) (q : Bool) : (FloatKind.f64.format.order x b = some .lt ∧ q2 b q (k, x) = true) ∨ (FloatKind.f64.format.order x b = some .eq ∧ q = true ∧ q2 b q (k, x) = false) ∨ (FloatKind.f64.format.order x b = some .eq ∧ q = false ∧ q2 b q (k, x) = true) ∨ (FloatKind.f64.format.order x b = some .gt ∧ q2 b q (k, x) = false) := by
  have e : FloatKind.f64.format.order x b = Ieee.double.order x b := rfl
  unfold q2 flt feq
  rw [e, order_key hx hb]
  cases ko (fk x) (fk b) <;> cases q <;> simp
set_option maxHeartbeats 16000000 in
theorem rwithin_num (w : World) (B : Nat) (v : Value) (M : List Ent) (a b : Nat) (p q : Bool) (h : Rp w B v M) (hn : M.length ≤ 2000000) (hm : ∀ e ∈ M, isNan e.2 = false) (ha : isNan a = false) (hb : isNan b = false) :
    Calls Try.prog 32 #[.pointer (some ⟨B, 0, none⟩), .agg #[.float .f64 a, .bool p], .agg #[.float .f64 b, .bool q]] w fun e w' => e = .returned (.tuple #[.int .i64 ((cnt1 M a p : Nat) : Int), .int .i64 ((max (cnt1 M a p) (cnt2 M b q) : Nat) : Int)]) ∧ Below w.heap.size w w' := by
  have sf : ∀ (x : Nat) (w : World) (a : Addr), (store a (.float .f64 x)).run Try.prog w = stored Try.prog w a (.float .f64 x) .plain := fun x w a => run_store _ w a _ _ rfl
  obtain ⟨W0, hW0, hb0, s0, hc⟩ := bounds_laid w a b p q
  obtain ⟨⟨c0, c1⟩, c2, c3⟩ := hc W0 (Below.refl _ _)
  have HC := keep hc
  have HB0 := keep hb0
  have oa : FloatKind.f64.format.order a a = some .eq := order_self ha
  have ob : FloatKind.f64.format.order b b = some .eq := order_self hb
  have HM := keep hm
  have HA := keep ha
  have HBn := keep hb
  have HP : Kept (∀ w2, Below W0.heap.size W0 w2 → Rp w2 B v M) := fun w2 hb => (h.bel hb0).bel hb
  obtain ⟨ao, cp, rfl, hao⟩ := h.2.1.form
  have HAO := keep hao
  obtain ⟨n, hln⟩ : ∃ n, M.length = n := ⟨_, rfl⟩
  rw [hln] at HP HAO hn
  have HL := keep hln
  have HN := keep hn
  obtain ⟨k0, _⟩ := (HP.out W0 (Below.refl _ _)).cells
  have C1 : Kept (cnt1 (M.take n) a p = cnt1 M a p ∧ cnt2 (M.take n) b q = cnt2 M b q) := by rw [List.take_of_length_le (by omega)]; exact ⟨rfl, rfl⟩
  clear h hn hm ha hb hao hln hc hb0 s0
  obtain ⟨D0, hD0⟩ : ∃ D, w.heap.size = D := ⟨_, rfl⟩
  rw [hD0] at c0 c1 c2 c3 HC
  go_enter Try.func32, Try.ntmps32
  go_wp2
  go_loopg [8, 9, 33] n (fun kx s8 s9 s33 wr => ∃ i : Nat, s33 = .int .i64 i ∧ i ≤ n ∧ n - i ≤ kx ∧ s8 = .int .i64 ((cnt1 (M.take i) a p : Nat) : Int) ∧ s9 = .int .i64 ((cnt2 (M.take i) b q : Nat) : Int) ∧ Kept (Below W0.heap.size W0 wr))
  case atStart => exact ⟨0, rfl, Nat.zero_le _, by omega, rfl, rfl, Below.refl _ _⟩
  case round =>
    obtain ⟨i, rfl, hin, hg, rfl, rfl, BW⟩ := hrel
    by_cases hlt : i < n
    · obtain ⟨y, hy⟩ : ∃ y, M[i]? = some y := ⟨_, List.getElem?_eq_getElem (by have := HL.out; omega)⟩
      obtain ⟨oM, hoM⟩ : ∃ o, o = i * 2 := ⟨_, rfl⟩
      obtain ⟨g, hg'⟩ := HAO.out (by omega)
      subst hg'
      obtain ⟨e0, e1⟩ := (HP.out wr BW.out).2.1.at hy
      rw [← hoM] at e0 e1
      have hoM' : i * 2 = oM := hoM.symm
      have i0 : (0 : Int) ≤ (i : Int) := by omega
      have i1 : (i : Int) < (n : Int) := by omega
      have cs1 := count_take (f := q1 a p) hy
      have cs2 := count_take (f := q2 b q) hy
      have cl1 : cnt1 (M.take i) a p ≤ i := Nat.le_trans List.countP_le_length (by rw [List.length_take]; omega)
      have cl2 : cnt2 (M.take i) b q ≤ i := Nat.le_trans List.countP_le_length (by rw [List.length_take]; omega)
      have hny := HM.out y (List.mem_of_getElem? hy)
      obtain ⟨D, hD⟩ : ∃ D, wr.heap.size = D := ⟨_, rfl⟩
      obtain ⟨y1, y2⟩ := y
      dsimp only at e0 e1 cs1 cs2 hny
      obtain ⟨W7, hW7⟩ : ∃ W7, wr.alloc (.cells #[.string y1, .float .f64 y2] 46) = W7 := ⟨_, rfl⟩
      have hb7 : Below wr.heap.size wr W7 := by rw [← hW7]; exact (Below.refl _ wr).alloc (Nat.le_refl _) _
      have g7 : W7.heap[D]? = some (.cells #[.string y1, .float .f64 y2] 46 (0, 0)) := by rw [← hW7, ← hD]; exact heap_alloc_new _ _
      obtain ⟨f0, f1, _⟩ := two_c0 g7
      have B7 := keep (Below.up BW.out hb7)
      obtain ⟨⟨z0, z1⟩, z2, z3⟩ := HC.out W7 B7.out
      have cs1' : cnt1 (M.take (i + 1)) a p = cnt1 (M.take i) a p + (if q1 a p (y1, y2) = true then 1 else 0) := cs1
      have cs2' : cnt2 (M.take (i + 1)) b q = cnt2 (M.take i) b q + (if q2 b q (y1, y2) = true then 1 else 0) := cs2
      obtain ⟨u, hu⟩ : ∃ c, cnt1 (M.take i) a p = c := ⟨_, rfl⟩
      obtain ⟨z, hz⟩ : ∃ c, cnt2 (M.take i) b q = c := ⟨_, rfl⟩
      rw [hu] at cs1' cl1 ⊢
      rw [hz] at cs2' cl2 ⊢
      have S1 := keep cs1'
      have S2 := keep cs2'
      have hwi : IntKind.i64.wrap ((i : Int) + 1) = (i : Int) + 1 := by have := HN.out; rw [IntKind.wrap_i64]; omega
      have hwu : IntKind.i64.wrap ((u : Int) + 1) = (u : Int) + 1 := by have := HN.out; rw [IntKind.wrap_i64]; omega
      have hwz : IntKind.i64.wrap ((z : Int) + 1) = (z : Int) + 1 := by have := HN.out; rw [IntKind.wrap_i64]; omega
      have q1c := ord_q1 hny HA.out y1 p
      have q2c := ord_q2 hny HBn.out y1 q
      clear hy hoM hb7 g7 cs1 cs2 cs1' cs2' cl1 cl2 hu hz hny
      rcases q1c with ⟨o1, h1⟩ | ⟨o1, rfl, h1⟩ | ⟨o1, rfl, h1⟩ | ⟨o1, h1⟩ <;> rcases q2c with ⟨o2, h2⟩ | ⟨o2, rfl, h2⟩ | ⟨o2, rfl, h2⟩ | ⟨o2, h2⟩
      all_goals
        have H1 := keep h1
        have H2 := keep h2
        clear h1 h2
      all_goals
        go_wp2
        go_roundg (n - (i + 1))
        case measure => omega
        case rel => exact ⟨i + 1, by simp, by omega, Nat.le_refl _, by rw [S1.out, H1.out]; simp, by rw [S2.out, H2.out]; simp, B7.out⟩
    · obtain rfl : i = n := by omega
      have HF := keep (Below.up HB0.out BW.out)
      rw [C1.out.1, C1.out.2]
      obtain ⟨u, hu⟩ : ∃ u, cnt1 M a p = u := ⟨_, rfl⟩
      obtain ⟨z, hz⟩ : ∃ z, cnt2 M b q = z := ⟨_, rfl⟩
      rw [hu, hz]
      have HU := keep hu
      have HZ := keep hz
      clear hu hz C1
      by_cases hzu : z < u
      · have hzu' : (z : Int) < (u : Int) := by omega
        have hm : Kept (max u z = u) := by show max u z = u; omega
        go_wp2
        refine bodyPost_ret (results_tmp2 rfl _ _ _) rfl ?_
        exact ⟨by rw [HU.out, HZ.out, hm.out]; rfl, by first | exact HF.out | (rw [← hD0]; exact HF.out)⟩
      · have hzu' : ¬ (z : Int) < (u : Int) := by omega
        have hm : Kept (max u z = z) := by show max u z = z; omega
        go_wp2
        refine bodyPost_ret (results_tmp2 rfl _ _ _) rfl ?_
        exact ⟨by rw [HU.out, HZ.out, hm.out]; rfl, by first | exact HF.out | (rw [← hD0]; exact HF.out)⟩
end Go.Proofs.Ytapehjlpiobeaaa
