/-
  Contracts over this program: a stretch of ranks.
-/
import Derived.Test.YtapehjlpiobeaaaRkWithin2
import Derived.Test.YtapehjlpiobeaaaRkSame
namespace Go.Proofs.Ytapehjlpiobeaaa
open Go.RowKit Go.Shelf
set_option linter.unusedVariables false
set_option linter.unusedSimpArgs false
theorem mo_at {q : Ent → Bool} : ∀ {l : List Ent}, Mo q l → ∀ {i : Nat} {e : Ent}, l[i]? = some e → (q e = true ↔ i < l.countP q) := by
  intro l
  induction l with
  | nil => intro _ i e h; simp at h
  | cons x l ih =>
    intro hm i e h
    obtain ⟨hx, hl⟩ := List.pairwise_cons.1 hm
    rw [List.countP_cons]
    have hle : q x = false → l.countP q = 0 := fun hq => List.countP_eq_zero.2 (fun y hy hqy => by rw [hx y hy hqy] at hq; cases hq)
    cases i with
    | zero =>
      obtain rfl : x = e := by simpa using h
      cases hq : q x
      · rw [hle hq]; simp
      · simp
    | succ i =>
      have h' : l[i]? = some e := by simpa using h
      have := ih hl h'
      cases hq : q x
      · have h0 := hle hq
        rw [h0] at this ⊢
        simp at this ⊢
        exact this
      · rw [this]; simp
theorem cnt_le (L : List Ent) (a : Nat) (p : Bool) : cnt1 L a p ≤ L.length := List.countP_le_length
theorem cnt_le2 (L : List Ent) (a : Nat) (p : Bool) : cnt2 L a p ≤ L.length := List.countP_le_length
theorem count_split (f g : Ent → Bool) (L : List Ent) : L.countP g = L.countP (fun e => f e && g e) + L.countP (fun e => !(f e) && g e) := by
  induction L with
  | nil => rfl
  | cons x L ih =>
    simp only [List.countP_cons]
    rw [ih]
    cases f x <;> cases g x <;> simp <;> omega
/-- those between the two numbers are just those within -/
theorem stretch {L : List Ent} (hl : Ris L) {a b : Nat} {p q : Bool} (ha : isNan a = false) (hb : isNan b = false) :
    max (cnt1 L a p) (cnt2 L b q) - cnt1 L a p = L.countP (fun e => wi e.2 a p b q) ∧ ∀ e ∈ seg L (cnt1 L a p) (max (cnt1 L a p) (cnt2 L b q)), wi e.2 a p b q = true := by
  have hw : ∀ e ∈ L, wi e.2 a p b q = (!(q1 a p e) && q2 b q e) := fun e he => wi_both (hl.2 e he) ha hb p q
  have m1 := mo_q1 hl ha p
  have m2 := mo_q2 hl hb q
  have i1 : ∀ {i : Nat} {e : Ent}, L[i]? = some e → (q1 a p e = true ↔ i < cnt1 L a p) := fun h => mo_at m1 h
  have i2 : ∀ {i : Nat} {e : Ent}, L[i]? = some e → (q2 b q e = true ↔ i < cnt2 L b q) := fun h => mo_at m2 h
  constructor
  · rw [count_cong (q' := fun e => !(q1 a p e) && q2 b q e) hw]
    have hs := count_split (q1 a p) (q2 b q) L
    rcases Nat.lt_or_ge (cnt2 L b q) (cnt1 L a p) with h | h
    · have h0 : L.countP (fun e => !(q1 a p e) && q2 b q e) = 0 := List.countP_eq_zero.2 (fun e he hh => by
        obtain ⟨i, hi⟩ := List.getElem?_of_mem he
        rw [Bool.and_eq_true, Bool.not_eq_true'] at hh
        have := (i2 hi).1 hh.2
        have := (i1 hi).2 (by omega)
        rw [hh.1] at this; cases this)
      rw [h0]; omega
    · have h1 : L.countP (fun e => q1 a p e && q2 b q e) = cnt1 L a p := count_cong (fun e he => by
        obtain ⟨i, hi⟩ := List.getElem?_of_mem he
        cases hq : q1 a p e
        · rfl
        · have := (i1 hi).1 hq
          rw [(i2 hi).2 (by omega)]; rfl)
      have h2 : cnt2 L b q = L.countP (q2 b q) := rfl
      omega
  · intro e he
    obtain ⟨j, hj⟩ := List.getElem?_of_mem he
    unfold seg at hj
    rw [List.getElem?_drop, List.getElem?_take] at hj
    split at hj
    · next h =>
      rw [hw e (List.mem_of_getElem? hj), (i2 hj).2 (by omega)]
      cases hq : q1 a p e
      · rfl
      · have := (i1 hj).1 hq; omega
    · cases hj
theorem kwithin_any {w : World} {O : Nat → Prop} {R seed : Nat} {L : List Ent} (hK : RK w O R seed L) (a b : Nat) (p q : Bool) :
    Calls Try.prog 33 #[.pointer (some ⟨R, 0, none⟩), .agg #[.float .f64 a, .bool p], .agg #[.float .f64 b, .bool q]] w fun e w' => (∃ A d : Nat, e = .returned (.tuple #[.int .i64 (A : Int), .int .i64 ((A + d : Nat) : Int)]) ∧ A + d ≤ L.length ∧ d = L.countP (fun e => wi e.2 a p b q) ∧ ∀ e ∈ seg L A (A + d), wi e.2 a p b q = true) ∧ Below w.heap.size w w' := by
  by_cases hn : isNan a = true ∨ isNan b = true
  · refine (kwithin_nan w R a b p q hn).mono ?_
    rintro _ w' ⟨rfl, hb⟩
    refine ⟨⟨0, 0, rfl, Nat.zero_le _, ?_, fun e he => ?_⟩, hb⟩
    · exact (List.countP_eq_zero.2 (fun e he h => by rw [wi_nan hn] at h; cases h)).symm
    · simp [seg] at he
  · have ha : isNan a = false := by cases h : isNan a; · rfl
                                    · exact absurd (.inl h) hn
    have hb : isNan b = false := by cases h : isNan b; · rfl
                                    · exact absurd (.inr h) hn
    refine (kwithin_num hK a b p q ha hb).mono ?_
    rintro _ w' ⟨rfl, hbb⟩
    obtain ⟨s1, s2⟩ := stretch hK.math.1 ha hb (p := p) (q := q)
    have c1 := cnt_le L a p
    have c2 := cnt_le2 L b q
    have e : cnt1 L a p + (max (cnt1 L a p) (cnt2 L b q) - cnt1 L a p) = max (cnt1 L a p) (cnt2 L b q) := by omega
    exact ⟨⟨cnt1 L a p, max (cnt1 L a p) (cnt2 L b q) - cnt1 L a p, by rw [e], by omega, s1, by rw [e]; exact s2⟩, hbb⟩
theorem krange_ab {w : World} {O : Nat → Prop} {R seed : Nat} {L : List Ent} (hK : RK w O R seed L) (A d : Nat) (hd : A + d ≤ L.length) :
    Calls Try.prog 14 #[.pointer (some ⟨R, 0, none⟩), .int .i64 (A : Int), .int .i64 ((A + d : Nat) : Int)] w fun e w' => (∃ o c, e = .returned (.slice o d c) ∧ Mr w.heap.size w' (.slice o d c) (seg L A (A + d))) ∧ Below w.heap.size w w' := by
  have hl : (seg L A (A + d)).length = d := by rw [seg_len]; omega
  rcases Nat.eq_zero_or_pos d with h | h
  · refine (krange_out hK (A : Int) ((A + d : Nat) : Int) (by omega)).mono ?_
    rintro _ w' ⟨rfl, rfl⟩
    subst h
    have : seg L A (A + 0) = [] := List.length_eq_zero_iff.1 hl
    rw [this]
    exact ⟨⟨none, 0, rfl, World.ownsRow_nil _ _ _ _⟩, Below.refl _ _⟩
  · refine (krange_at hK A (A + d) hd (by omega)).mono ?_
    rintro _ w' ⟨⟨v, rfl, hM⟩, hb⟩
    have hf : ∃ o c, v = .slice o d c := by
      rcases hM.2 with ⟨e, h0⟩ | ⟨g', c', cur', e, _⟩
      · exact ⟨none, 0, by rw [e]; congr 1; omega⟩
      · rw [hl] at e; exact ⟨_, _, e⟩
    obtain ⟨o, c, rfl⟩ := hf
    exact ⟨⟨o, c, rfl, hM⟩, hb⟩
theorem count_take {f : Ent → Bool} {M : List Ent} {k : Nat} {e : Ent} (h : M[k]? = some e) : (M.take (k + 1)).countP f = (M.take k).countP f + (if f e = true then 1 else 0) := by
  rw [List.take_add_one, h, List.countP_append]
  simp [List.countP_cons]
end Go.Proofs.Ytapehjlpiobeaaa
