/-
  A step of the document's own ranks and the same step of the program's answer alike, and leave them alike.
-/
import Derived.Test.YtapehjlpiobeaaaRkPlay0
import Derived.Test.YtapehjlpiobeaaaRkRef2
namespace Go.Proofs.Ytapehjlpiobeaaa
open Go.RowKit Go.Shelf
set_option linter.unusedVariables false
set_option linter.unusedSimpArgs false
set_option maxRecDepth 100000
/-- one call, then another one a while later: both answer r -/
def Pair2 (f1 f2 : Nat) (a1 a2 : Array Value) (r : Value) (w : World) (P : Nat → Prop) (Fin : World → Prop) : Prop :=
  Calls Try.prog f1 a1 w fun e w1 => e = .returned r ∧ (∀ k, k < w.heap.size → ¬ P k → w1.heap[k]? = w.heap[k]?) ∧ w.heap.size ≤ w1.heap.size ∧ ∀ w1', Below w1.heap.size w1 w1' → Calls Try.prog f2 a2 w1' fun e w2 => e = .returned r ∧ Fin w2
/-- what a step leaves -/
def Fin (w : World) (O : Nat → Prop) (R seed b : Nat) (v : Value) (w2 : World) : Prop := ∃ O' L' v' M', Pr w2 O' R seed L' b v' M' ∧ FO (PO O b v) w (PO O' b v') w2
section
variable {w w1 w1' w2 : World} {O O' : Nat → Prop} {R seed b : Nat} {L L' M M1 : List Ent} {v v1 : Value}
theorem Fm.next (hf : Fm (rbl b v) w (rbl b v1) w1) : ∀ k, k < w.heap.size → ¬ PO O b v k → w1.heap[k]? = w.heap[k]? := fun k hk hn => (hf.2.2 k hk (fun h => hn (.inr h))).1
theorem fin_of (h : Pr w O R seed L b v M) (hf : Fm (rbl b v) w (rbl b v1) w1) (hr1 : Rp w1 b v1 M1) (hb : Below w1.heap.size w1 w1') (hK2 : RK w2 O' R seed L') (hf2 : FO O w1' O' w2) (hs : Sm L' M1) : Fin w O R seed b v w2 := by
  have hk1 : ∀ k, O k → k ∉ rbl b v1 := fun k hO => (hf.2.2 k (h.rk.lt k hO) (fun hm => h.dis k hm hO)).2
  have hr1' := hr1.bel hb
  have hk2 : ∀ k ∈ rbl b v1, w2.heap[k]? = w1'.heap[k]? ∧ ¬ O' k := fun k hm => hf2.2.2 k (hr1'.lt k hm) (fun hO => hk1 k hO hm)
  refine ⟨O', L', v1, M1, ⟨hK2, hr1'.kept (fun k hm => (hk2 k hm).1), fun k hm => (hk2 k hm).2, hs⟩, ⟨hf2.1.1.trans (hb.os.trans hf.1.1), hf2.1.2.1.trans (hb.tape.trans hf.1.2.1), hf2.1.2.2.trans (hb.output.trans hf.1.2.2)⟩, Nat.le_trans hf.2.1 (Nat.le_trans hb.size hf2.2.1), fun k hk hn => ?_⟩
  obtain ⟨a1, a2⟩ := hf.2.2 k hk (fun h => hn (.inr h))
  have a3 := hb.block k (Nat.lt_of_lt_of_le hk hf.2.1)
  obtain ⟨a4, a5⟩ := hf2.2.2 k (Nat.lt_of_lt_of_le hk (Nat.le_trans hf.2.1 hb.size)) (fun h => hn (.inl h))
  exact ⟨a4.trans (a3.trans a1), fun hh => hh.elim a5 a2⟩
theorem rk_at (h : Pr w O R seed L b v M) (hf : Fm (rbl b v) w (rbl b v1) w1) (hb : Below w1.heap.size w1 w1') : RK w1' O R seed L :=
  (h.rk.kept hf.2.1 (fun k hO => (hf.2.2 k (h.rk.lt k hO) (fun hm => h.dis k hm hO)).1)).below hb
theorem at_none {key : ByteArray} (hn : Dc.look key M = none) {o : Option (Nat × Nat)} (h : AtO M key o) (hk : (Dc.keys M).Nodup) : o = none := by
  cases o with
  | none => rfl
  | some p =>
    obtain ⟨j, was⟩ := p
    have := look_at hk h
    rw [hn] at this
    cases this
theorem at_some {key : ByteArray} {x : Nat} (hn : Dc.look key M = some x) {o : Option (Nat × Nat)} (h : AtO M key o) (hk : (Dc.keys M).Nodup) : ∃ j, o = some (j, x) := by
  cases o with
  | none => rw [look_no h] at hn; cases hn
  | some p =>
    obtain ⟨j, was⟩ := p
    have := look_at hk h
    rw [hn] at this
    cases this
    exact ⟨j, rfl⟩
theorem Pr.nums (h : Pr w O R seed L b v M) : (∀ e ∈ M, isNan e.2 = false) ∧ (∀ e ∈ M, e.1.size ≤ 1048576) :=
  ⟨fun e he => h.rk.math.1.2 e ((h.sm.1 e).2 he), fun e he => h.rk.math.2.1 e ((h.sm.1 e).2 he)⟩
theorem pair_set (h : Pr w O R seed L b v M) (key : ByteArray) (hk : key.size ≤ maxLen) (x : Nat) : ∃ (i : Bool) (c : Int), Pair2 25 27 #[.pointer (some ⟨b, 0, none⟩), .string key, .float .f64 x] #[.pointer (some ⟨R, 0, none⟩), .string key, .float .f64 x] (.tuple #[.bool i, .int .i64 c]) w (PO O b v) (Fin w O R seed b v) := by
  have hsco := h.sm.sco h.rk.math.2.2.2 key
  rcases Nat.lt_or_ge 1048576 key.size with hl | hl
  · refine ⟨false, 2, (rset_long key x hl).mono ?_⟩
    rintro _ w1 ⟨rfl, hw⟩
    subst hw
    refine ⟨rfl, fun _ _ _ => rfl, Nat.le_refl _, fun w1' hb => (kset_long key x hl).mono ?_⟩
    rintro _ w2 ⟨rfl, hw⟩
    subst hw
    exact ⟨rfl, O, L, v, M, h.bel hb, FO.below hb⟩
  · cases hx : isNan x with
    | true =>
      refine ⟨false, 20, (rset_nan key x hl hx).mono ?_⟩
      rintro _ w1 ⟨rfl, hw⟩
      subst hw
      refine ⟨rfl, fun _ _ _ => rfl, Nat.le_refl _, fun w1' hb => (kset_nan key x hl hx).mono ?_⟩
      rintro _ w2 ⟨rfl, hw⟩
      subst hw
      exact ⟨rfl, O, L, v, M, h.bel hb, FO.below hb⟩
    | false =>
      have mS := rset_any w b v M key x h.rp h.len.2 hl hx h.nums.1
      cases hlk : Dc.look key M with
      | none =>
        rw [hlk] at hsco
        by_cases hfull : 1048576 ≤ M.length
        · refine ⟨false, 4, mS.mono ?_⟩
          rintro e w1 ⟨o, ho, hd⟩
          obtain rfl := at_none hlk ho h.sm.2
          unfold rsL at hd
          rw [if_pos hfull] at hd
          obtain ⟨rfl, v1, r1, f1⟩ := hd
          refine ⟨rfl, f1.next, f1.2.1, fun w1' hb => (kset_full (rk_at h f1 hb) key x hl hx hsco (by rw [← h.len.1]; exact hfull)).mono ?_⟩
          rintro _ w2 ⟨rfl, O', k2, f2⟩
          exact ⟨rfl, fin_of h f1 r1 hb k2 f2 h.sm⟩
        · refine ⟨true, 0, mS.mono ?_⟩
          rintro e w1 ⟨o, ho, hd⟩
          obtain rfl := at_none hlk ho h.sm.2
          unfold rsL at hd
          rw [if_neg hfull] at hd
          obtain ⟨rfl, v1, r1, f1⟩ := hd
          refine ⟨rfl, f1.next, f1.2.1, fun w1' hb => (kset_new (rk_at h f1 hb) key x hl hx hsco (by rw [← h.len.1]; omega)).mono ?_⟩
          rintro _ w2 ⟨rfl, O', L', hs, k2, f2⟩
          exact ⟨rfl, fin_of h f1 r1 hb k2 f2 (sets_list h.sm hs ho)⟩
      | some was =>
        rw [hlk] at hsco
        refine ⟨false, 0, mS.mono ?_⟩
        rintro e w1 ⟨o, ho, hd⟩
        obtain ⟨j, rfl⟩ := at_some hlk ho h.sm.2
        cases hq : feq was x with
        | true =>
          simp only [rsL, hq, if_true] at hd
          obtain ⟨rfl, v1, r1, f1⟩ := hd
          refine ⟨rfl, f1.next, f1.2.1, fun w1' hb => (kset_same (rk_at h f1 hb) key x was hl hx hsco hq).mono ?_⟩
          rintro _ w2 ⟨rfl, O', k2, f2⟩
          exact ⟨rfl, fin_of h f1 r1 hb k2 f2 h.sm⟩
        | false =>
          simp only [rsL, hq, Bool.false_eq_true, if_false] at hd
          obtain ⟨rfl, v1, r1, f1⟩ := hd
          refine ⟨rfl, f1.next, f1.2.1, fun w1' hb => (kset_alter (rk_at h f1 hb) key x was hl hx hsco hq).mono ?_⟩
          rintro _ w2 ⟨rfl, O', L', hs, k2, f2⟩
          exact ⟨rfl, fin_of h f1 r1 hb k2 f2 (alter_list h.sm hs ho)⟩
theorem del_mid {key : ByteArray} {x j : Nat} (h : Sm L M) (hs : Dels L key L') (hj : M[j]? = some (key, x)) : Sm L' (M.take j ++ M.drop (j + 1)) := by
  have hd := (out_dels (split_at hj) h.2).1
  refine ⟨fun e => by rw [hs e, h.1 e]; exact (hd e).symm, ?_⟩
  refine List.Nodup.sublist ?_ h.2
  unfold Dc.keys
  refine List.Sublist.map _ ?_
  conv => rhs; rw [split_at hj]
  exact List.Sublist.append (List.Sublist.refl _) (List.sublist_cons_self _ _)
theorem pair_del (h : Pr w O R seed L b v M) (key : ByteArray) (hk : key.size ≤ maxLen) : ∃ (i : Bool), Pair2 28 29 #[.pointer (some ⟨b, 0, none⟩), .string key] #[.pointer (some ⟨R, 0, none⟩), .string key] (.bool i) w (PO O b v) (Fin w O R seed b v) := by
  have hsco := h.sm.sco h.rk.math.2.2.2 key
  have mS := rdel_any w b v M key h.rp h.len.2
  cases hlk : Dc.look key M with
  | none =>
    rw [hlk] at hsco
    refine ⟨false, mS.mono ?_⟩
    rintro e w1 ⟨o, ho, hd⟩
    obtain rfl := at_none hlk ho h.sm.2
    obtain ⟨rfl, v1, r1, f1⟩ := hd
    refine ⟨rfl, f1.next, f1.2.1, fun w1' hb => (kdel_none (rk_at h f1 hb) key hk hsco).mono ?_⟩
    rintro _ w2 ⟨rfl, O', k2, f2⟩
    exact ⟨rfl, fin_of h f1 r1 hb k2 f2 h.sm⟩
  | some was =>
    rw [hlk] at hsco
    refine ⟨true, mS.mono ?_⟩
    rintro e w1 ⟨o, ho, hd⟩
    obtain ⟨j, rfl⟩ := at_some hlk ho h.sm.2
    obtain ⟨rfl, v1, r1, f1⟩ := hd
    refine ⟨rfl, f1.next, f1.2.1, fun w1' hb => (kdel_some (rk_at h f1 hb) key was hsco).mono ?_⟩
    rintro _ w2 ⟨rfl, O', L', hs, k2, f2⟩
    exact ⟨rfl, fin_of h f1 r1 hb k2 f2 (del_mid h.sm hs ho)⟩
theorem fm_bel (hb : Below w.heap.size w w1) : Fm (rbl b v) w (rbl b v) w1 := Fm.below hb
theorem pair_score (h : Pr w O R seed L b v M) (key : ByteArray) (hk : key.size ≤ maxLen) : ∃ (x : Nat) (t : Bool), Pair2 30 17 #[.pointer (some ⟨b, 0, none⟩), .string key] #[.pointer (some ⟨R, 0, none⟩), .string key] (.tuple #[.float .f64 x, .bool t]) w (PO O b v) (Fin w O R seed b v) := by
  have hsco := h.sm.sco h.rk.math.2.2.2 key
  refine ⟨(Dc.look key M).getD 0, (Dc.look key M).isSome, (rscore_any w b v M key h.rp (by have := h.len.2; omega) h.sm.2).mono ?_⟩
  rintro _ w1 ⟨rfl, hb1⟩
  refine ⟨rfl, (fm_bel hb1).next, hb1.size, fun w1' hb => (kscore_any (rk_at h (fm_bel hb1) hb) key hk).mono ?_⟩
  rintro _ w2 ⟨rfl, O', k2, f2⟩
  exact ⟨by rw [hsco]; rfl, fin_of h (fm_bel hb1) (h.rp.bel hb1) hb k2 f2 h.sm⟩
theorem pair_rank (h : Pr w O R seed L b v M) (key : ByteArray) (hk : key.size ≤ maxLen) : ∃ (n : Int) (t : Bool), Pair2 31 16 #[.pointer (some ⟨b, 0, none⟩), .string key] #[.pointer (some ⟨R, 0, none⟩), .string key] (.tuple #[.int .i64 n, .bool t]) w (PO O b v) (Fin w O R seed b v) := by
  have hsco := h.sm.sco h.rk.math.2.2.2 key
  have mR := rrank_any w b v M key h.rp (by have := h.len.2; omega) h.sm.2
  unfold rkA at mR
  cases hlk : Dc.look key M with
  | none =>
    rw [hlk] at hsco mR
    refine ⟨0, false, mR.mono ?_⟩
    rintro _ w1 ⟨rfl, hb1⟩
    refine ⟨rfl, (fm_bel hb1).next, hb1.size, fun w1' hb => (krank_none (rk_at h (fm_bel hb1) hb) key hk hsco).mono ?_⟩
    rintro _ w2 ⟨rfl, O', k2, f2⟩
    exact ⟨rfl, fin_of h (fm_bel hb1) (h.rp.bel hb1) hb k2 f2 h.sm⟩
  | some x =>
    rw [hlk] at hsco mR
    have hr : rnk L (key, x) = rnk M (key, x) := by unfold rnk; exact h.perm.countP_eq _
    refine ⟨((rnk M (key, x) : Nat) : Int), true, mR.mono ?_⟩
    rintro _ w1 ⟨rfl, hb1⟩
    refine ⟨rfl, (fm_bel hb1).next, hb1.size, fun w1' hb => (krank_some (rk_at h (fm_bel hb1) hb) key x hsco).mono ?_⟩
    rintro _ w2 ⟨rfl, O', k2, f2⟩
    exact ⟨by rw [hr], fin_of h (fm_bel hb1) (h.rp.bel hb1) hb k2 f2 h.sm⟩
theorem fin_bel (h : Pr w O R seed L b v M) (hb : Below w.heap.size w w2) : Fin w O R seed b v w2 := ⟨O, L, v, M, h.bel hb, FO.below hb⟩
theorem pair_within (h : Pr w O R seed L b v M) (x y : Nat) (p q : Bool) : ∃ (m n : Int), Pair2 32 33 #[.pointer (some ⟨b, 0, none⟩), .agg #[.float .f64 x, .bool p], .agg #[.float .f64 y, .bool q]] #[.pointer (some ⟨R, 0, none⟩), .agg #[.float .f64 x, .bool p], .agg #[.float .f64 y, .bool q]] (.tuple #[.int .i64 m, .int .i64 n]) w (PO O b v) (Fin w O R seed b v) := by
  by_cases hn : isNan x = true ∨ isNan y = true
  · refine ⟨0, 0, (rwithin_nan w b x y p q hn).mono ?_⟩
    rintro _ w1 ⟨rfl, hb1⟩
    refine ⟨rfl, (fm_bel hb1).next, hb1.size, fun w1' hb => (kwithin_nan w1' R x y p q hn).mono ?_⟩
    rintro _ w2 ⟨rfl, hb2⟩
    exact ⟨rfl, fin_bel h (Below.up (Below.up hb1 hb) hb2)⟩
  · have hx : isNan x = false := by cases h : isNan x; · rfl
                                    · exact absurd (.inl h) hn
    have hy : isNan y = false := by cases h : isNan y; · rfl
                                    · exact absurd (.inr h) hn
    have e1 : cnt1 L x p = cnt1 M x p := h.perm.countP_eq _
    have e2 : cnt2 L y q = cnt2 M y q := h.perm.countP_eq _
    refine ⟨((cnt1 M x p : Nat) : Int), ((max (cnt1 M x p) (cnt2 M y q) : Nat) : Int), (rwithin_num w b v M x y p q h.rp (by have := h.len.2; omega) h.nums.1 hx hy).mono ?_⟩
    rintro _ w1 ⟨rfl, hb1⟩
    refine ⟨rfl, (fm_bel hb1).next, hb1.size, fun w1' hb => (kwithin_num (rk_at h (fm_bel (v := v) (b := b) hb1) hb) x y p q hx hy).mono ?_⟩
    rintro _ w2 ⟨rfl, hb2⟩
    exact ⟨by rw [e1, e2], fin_bel h (Below.up (Below.up hb1 hb) hb2)⟩
end
end Go.Proofs.Ytapehjlpiobeaaa
