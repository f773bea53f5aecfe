/-
  Plain mathematics, with no program in sight: the word of a number, there and back.
-/
import Derived.Test.YtoalnfkjpdgbiaaDoorWords
import Derived.Lib.ItoaNum
namespace Go.Proofs.YtoalnfkjpdgbiaaDoor
namespace Pl
theorem dd_small {u : Nat} (h : u < 10) : Lib.decDigits u = [UInt8.ofNat (48 + u)] := by rw [Lib.decDigits, dif_pos h]
theorem dd_big {u : Nat} (h : ¬ u < 10) : Lib.decDigits u = Lib.decDigits (u / 10) ++ [UInt8.ofNat (48 + u % 10)] := by rw [Lib.decDigits, dif_neg h]
theorem ofNat_toNat {d : Nat} (h : d < 10) : (UInt8.ofNat (48 + d)).toNat = 48 + d := by
  rw [UInt8.toNat_ofNat']; omega
theorem dd_val (u : Nat) : val (Lib.decDigits u) = u := by
  induction u using Nat.strongRecOn with
  | ind u ih =>
    by_cases h : u < 10
    · rw [dd_small h]
      show 10 * 0 + ((UInt8.ofNat (48 + u)).toNat - 48) = u
      rw [ofNat_toNat h]; omega
    · rw [dd_big h, val_snoc, ih (u / 10) (by omega), ofNat_toNat (by omega)]; omega
theorem isD_of {d : Nat} (h : d < 10) : isD (UInt8.ofNat (48 + d)) = true := decide_eq_true (by rw [ofNat_toNat h]; omega)
theorem dd_all (u : Nat) : (Lib.decDigits u).all isD = true := by
  induction u using Nat.strongRecOn with
  | ind u ih =>
    by_cases h : u < 10
    · rw [dd_small h, List.all_cons, isD_of h]; rfl
    · rw [dd_big h, List.all_append, ih (u / 10) (by omega), List.all_cons, isD_of (show u % 10 < 10 by omega)]; rfl
theorem dd_len (k u : Nat) (h : u < 10 ^ (k + 1)) : (Lib.decDigits u).length ≤ k + 1 := by
  induction k generalizing u with
  | zero => rw [dd_small (by simpa using h)]; simp
  | succ k ih =>
    by_cases g : u < 10
    · rw [dd_small g]; simp
    · rw [dd_big g, List.length_append]
      have : u / 10 < 10 ^ (k + 1) := by rw [Nat.pow_succ] at h; omega
      have := ih (u / 10) this
      simp; omega
theorem dd_head (u : Nat) : ∃ c r, Lib.decDigits u = c :: r ∧ isD c = true ∧ (u ≠ 0 → c ≠ 48) ∧ (u < 10 → r = []) := by
  induction u using Nat.strongRecOn with
  | ind u ih =>
    by_cases h : u < 10
    · refine ⟨_, [], dd_small h, isD_of h, ?_, fun _ => rfl⟩
      intro hu e
      have e2 := congrArg UInt8.toNat e
      rw [ofNat_toNat h] at e2
      have : (48 : UInt8).toNat = 48 := rfl
      omega
    · obtain ⟨c, r, e, h1, h2, _⟩ := ih (u / 10) (by omega)
      exact ⟨c, r ++ [UInt8.ofNat (48 + u % 10)], by rw [dd_big h, e]; rfl, h1, fun _ => h2 (by omega), fun g => absurd g h⟩
theorem dd_word (u : Nat) (h : u < 18446744073709551616) : word 20 (Lib.decDigits u) = true := by
  obtain ⟨c, r, e, h1, h2, h3⟩ := dd_head u
  have hl := dd_len 19 u (Nat.lt_of_lt_of_le h (by decide +kernel))
  unfold word form
  rw [dd_all, Bool.and_true]
  refine decide_eq_true ⟨by rw [e]; simp, hl, ?_⟩
  by_cases hu : u = 0
  · right; rw [e, h3 (by omega)]; rfl
  · left; rw [e]; intro g; exact h2 hu (Option.some.inj g)
theorem dd_back {m : Nat} {l : List UInt8} (h : word m l = true) : Lib.decDigits (val l) = l := by
  suffices H : ∀ n (l : List UInt8), l.length = n + 1 → l.all isD = true → (l.head? ≠ some 48 ∨ l.length = 1) → Lib.decDigits (val l) = l by
    have hf := word_form h
    exact H (l.length - 1) l (by omega) (word_all h) hf.2.2
  intro n
  induction n with
  | zero =>
    intro l hl ha _
    match l, hl, ha with
    | [c], _, ha =>
      have hd : isD c = true := by simpa using ha
      have hd' := of_decide_eq_true hd
      have e : val [c] = c.toNat - 48 := by show 10 * 0 + (c.toNat - 48) = _; omega
      rw [e, dd_small (by omega)]
      congr 1
      apply UInt8.toNat_inj.1
      rw [ofNat_toNat (by omega)]; omega
  | succ n ih =>
    intro l hl ha hh
    have hne : l ≠ [] := by intro e; subst e; simp at hl
    have e := List.dropLast_concat_getLast hne
    have hdl : l.dropLast.length = n + 1 := by simp [hl]
    rw [← e] at ha
    rw [List.all_append] at ha
    simp only [Bool.and_eq_true, List.all_cons, List.all_nil, Bool.and_true] at ha
    have hd' := of_decide_eq_true ha.2
    have hh2 : l.head? ≠ some 48 := by
      rcases hh with h | h
      · exact h
      · omega
    have hhd : l.dropLast.head? = l.head? := by
      match l, hl with
      | a :: b :: r, _ => rfl
    have hi := ih l.dropLast hdl ha.1 (.inl (by rw [hhd]; exact hh2))
    have hpos : ¬ val l.dropLast = 0 := by
      intro hz
      match hq : l.dropLast, hdl with
      | c :: r, _ =>
        have hc : isD c = true := by rw [hq] at ha; simp only [List.all_cons, Bool.and_eq_true] at ha; exact ha.1.1
        have hc' := of_decide_eq_true hc
        rw [hq, val_head] at hz
        have h0 : (c.toNat - 48) * 10 ^ r.length = 0 := by omega
        have hc0 : c.toNat - 48 = 0 := by
          rcases Nat.mul_eq_zero.1 h0 with h | h
          · exact h
          · have := Nat.pow_pos (n := r.length) (show 0 < 10 by omega); omega
        apply hh2
        rw [← hhd, hq]
        show some c = some 48
        rw [UInt8.toNat_inj.1 (show c.toNat = (48 : UInt8).toNat by show c.toNat = 48; omega)]
    generalize hg : l.getLast hne = g at e ha hd'
    have hv : val l = 10 * val l.dropLast + (g.toNat - 48) := by rw [← val_snoc, e]
    rw [hv, dd_big (by omega)]
    have e1 : (10 * val l.dropLast + (g.toNat - 48)) / 10 = val l.dropLast := by omega
    have e2 : (10 * val l.dropLast + (g.toNat - 48)) % 10 = g.toNat - 48 := by omega
    rw [e1, e2, hi]
    have e3 : UInt8.ofNat (48 + (g.toNat - 48)) = g := by
      apply UInt8.toNat_inj.1
      rw [ofNat_toNat (by omega)]; omega
    rw [e3, e]
theorem itoa_neg {n : Int} (h : n < 0) : Lib.itoa n = 45 :: Lib.decDigits n.natAbs := by unfold Lib.itoa; rw [if_pos h]
theorem itoa_pos {n : Int} (h : ¬ n < 0) : Lib.itoa n = Lib.decDigits n.toNat := by unfold Lib.itoa; rw [if_neg h]
theorem neg_digit {l : List UInt8} {c : UInt8} (h : l.head? = some c) (hd : isD c = true) : neg l = false := by
  unfold neg
  rw [h]
  refine beq_eq_false_iff_ne.2 ?_
  intro e
  have : c = 45 := Option.some.inj e
  rw [this] at hd
  exact absurd hd (by decide)
theorem neg_dd (u : Nat) : neg (Lib.decDigits u) = false := by
  obtain ⟨c, r, e, h1, _, _⟩ := dd_head u
  exact neg_digit (by rw [e]; rfl) h1
/-- the number's word is read as the number -/
theorem back (n : Int) (h1 : -9223372036854775808 ≤ n) (h2 : n ≤ 9223372036854775807) : iv (Lib.itoa n) = n ∧ ic (Lib.itoa n) = 0 := by
  by_cases h : n < 0
  · rw [itoa_neg h]
    have hn : neg (45 :: Lib.decDigits n.natAbs) = true := rfl
    have hb : body (45 :: Lib.decDigits n.natAbs) = Lib.decDigits n.natAbs := by unfold body; rw [hn]; rfl
    obtain ⟨e1, e2⟩ := i_neg hn (by rw [hb]; exact dd_word _ (by omega)) (by rw [hb, dd_val]; omega) (by rw [hb, dd_val]; omega)
    rw [hb, dd_val] at e1
    exact ⟨by rw [e1]; omega, e2⟩
  · rw [itoa_pos h]
    have hn := neg_dd n.toNat
    have hb : body (Lib.decDigits n.toNat) = Lib.decDigits n.toNat := by unfold body; rw [hn]; rfl
    obtain ⟨e1, e2⟩ := i_pos hn (by rw [hb]; exact dd_word _ (by omega)) (by rw [hb, dd_val]; omega)
    rw [hb, dd_val] at e1
    exact ⟨by rw [e1]; omega, e2⟩
theorem itoa_len (n : Int) (h1 : -9223372036854775808 ≤ n) (h2 : n ≤ 9223372036854775807) : (Lib.itoa n).length ≤ 21 := by
  by_cases h : n < 0
  · rw [itoa_neg h, List.length_cons]
    have := dd_len 19 n.natAbs (Nat.lt_of_lt_of_le (show n.natAbs < 18446744073709551616 by omega) (by decide +kernel))
    omega
  · rw [itoa_pos h]
    have := dd_len 19 n.toNat (Nat.lt_of_lt_of_le (show n.toNat < 18446744073709551616 by omega) (by decide +kernel))
    omega
/-- the three ways of a word: it is refused; it is the word of a number below 0, and no word without a sign; it is the word of a number not below 0, and is read without a sign as that -/
theorem ways (l : List UInt8) : (iv l = 0 ∧ ic l = 10) ∨ (∃ v : Nat, 0 < v ∧ v ≤ 9223372036854775808 ∧ iv l = - (v : Int) ∧ ic l = 0 ∧ Lib.itoa (- (v : Int)) = l ∧ uv l = 0 ∧ uc l = 10) ∨ (∃ v : Nat, v < 9223372036854775808 ∧ iv l = (v : Int) ∧ ic l = 0 ∧ Lib.itoa (v : Int) = l ∧ uv l = (v : Int) ∧ uc l = 0) := by
  cases hk : iok l with
  | false => exact .inl (i_no hk)
  | true =>
    right
    unfold iok at hk
    rw [Bool.and_eq_true] at hk
    obtain ⟨hw, hk⟩ := hk
    cases hn : neg l with
    | true =>
      left
      rw [hn, if_pos rfl] at hk
      have hk' := of_decide_eq_true hk
      obtain ⟨e1, e2⟩ := i_neg hn hw hk'.1 hk'.2
      have hb := dd_back hw
      have hl : l = 45 :: body l := by
        have hn2 := hn
        unfold neg at hn2
        match l, hn, hn2 with
        | c :: r, hn, hn2 =>
          have : c = 45 := Option.some.inj (by simpa using hn2)
          subst this
          show _ = 45 :: body (45 :: r)
          unfold body
          rw [hn]; rfl
      have hnw : word 20 l = false := by
        apply not_word_all
        rw [hl, List.all_cons]
        rfl
      obtain ⟨g1, g2⟩ := u_no1 hnw
      refine ⟨val (body l), hk'.1, hk'.2, e1, e2, ?_, g1, g2⟩
      rw [itoa_neg (by omega), show (- (val (body l) : Int)).natAbs = val (body l) by omega, hb, ← hl]
    | false =>
      right
      have hbd : body l = l := by unfold body; rw [hn]; rfl
      rw [hn, if_neg (by simp)] at hk
      have hk' := of_decide_eq_true hk
      obtain ⟨e1, e2⟩ := i_pos hn hw hk'
      rw [hbd] at hw hk' e1
      have hb := dd_back hw
      obtain ⟨g1, g2⟩ := u_yes hw (by omega)
      refine ⟨val l, hk', e1, e2, ?_, g1, g2⟩
      rw [itoa_pos (by omega), Int.toNat_natCast, hb]
end Pl
end Go.Proofs.YtoalnfkjpdgbiaaDoor
