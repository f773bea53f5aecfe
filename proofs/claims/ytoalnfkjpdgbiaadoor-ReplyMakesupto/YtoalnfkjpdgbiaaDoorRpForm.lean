/-
  Plain mathematics on replies: what is read is written as the very bytes that were read.
-/
import Derived.Test.YtoalnfkjpdgbiaaDoorRpMath
import Derived.Test.YtoalnfkjpdgbiaaDoorDigs
namespace Go.Proofs.YtoalnfkjpdgbiaaDoor
set_option linter.unusedVariables false
namespace Rp
theorem lineF_back : ∀ (r s x : List UInt8), lineF r = .ok (s, x) → r = s ++ crlf ++ x ∧ clean s = true
  | [], s, x, h => by cases h
  | c :: r, s, x, h => by
    unfold lineF at h
    by_cases h1 : c = 10
    · rw [if_pos h1] at h; cases h
    · rw [if_neg h1] at h
      by_cases h2 : c = 13
      · rw [if_pos h2] at h
        match r, h with
        | [], h => cases h
        | d :: r', h =>
          dsimp only at h
          by_cases h3 : d = 10
          · rw [if_pos h3] at h
            injection h with h
            injection h with e1 e2
            subst e1; subst e2; subst h2; subst h3
            exact ⟨rfl, rfl⟩
          · rw [if_neg h3] at h; cases h
      · rw [if_neg h2] at h
        cases hl : lineF r with
        | error e => rw [hl] at h; cases h
        | ok y =>
          obtain ⟨a, b⟩ := y
          rw [hl] at h
          injection h with h
          injection h with e1 e2
          subst e1; subst e2
          obtain ⟨i1, i2⟩ := lineF_back r a b hl
          refine ⟨by rw [i1]; simp, ?_⟩
          have : (c != 13 && c != 10) = true := by simp [h1, h2]
          unfold clean at i2 ⊢
          rw [List.all_cons, this, i2]
          rfl
theorem cnt_back {s : List UInt8} {m : Nat} (h : cntF s = .ok m) : Lib.itoa (m : Int) = s := by
  unfold cntF at h
  split at h
  · rename_i h1
    split at h
    · injection h with h
      rcases Pl.ways s with ⟨_, e⟩ | ⟨v, hv, _, e, _⟩ | ⟨v, _, e, _, g, _⟩
      · rw [e] at h1; exact absurd h1.1 (by decide)
      · rw [e] at h1; exact absurd h1.2 (by omega)
      · rw [e] at h
        have : m = v := by omega
        rw [this]; exact g
    · cases h
  · cases h
theorem int_back {s : List UInt8} (h : Pl.ic s = 0) : Lib.itoa (Pl.iv s) = s := by
  rcases Pl.ways s with ⟨_, e⟩ | ⟨v, _, _, e, _, g, _⟩ | ⟨v, _, e, _, g, _⟩
  · rw [e] at h; exact absurd h (by decide)
  · rw [e]; exact g
  · rw [e]; exact g
theorem kind_back (c : UInt8) : (kindF c = 1 → c = 43) ∧ (kindF c = 2 → c = 45) ∧ (kindF c = 3 → c = 58) ∧ (kindF c = 4 → c = 36) ∧ (kindF c = 6 → c = 42) ∧ (kindF c ≠ 0 → kindF c ≠ 3 → kindF c ≠ 4 → kindF c ≠ 6 → kindF c = 1 ∨ kindF c = 2) := by
  unfold kindF
  by_cases e1 : c = 43
  · subst e1; decide
  by_cases e2 : c = 45
  · subst e2; decide
  by_cases e3 : c = 58
  · subst e3; decide
  by_cases e4 : c = 36
  · subst e4; decide
  by_cases e5 : c = 42
  · subst e5; decide
  rw [if_neg e1, if_neg e2, if_neg e3, if_neg e4, if_neg e5]
  exact ⟨fun h => absurd h (by decide), fun h => absurd h (by decide), fun h => absurd h (by decide), fun h => absurd h (by decide), fun h => absurd h (by decide), fun h => absurd rfl h⟩
/-- a reply that may be, at most d arrays in one another -/
def fair (n d : Nat) (t : T n) : Prop := right n t = true ∧ deep n d t = false
/-- what reading at depth n tells -/
def Form (n : Nat) (b : List UInt8) (t : T (n + 1)) (x : List UInt8) : Prop := b = enc (n + 1) t ++ x ∧ fair (n + 1) n t
theorem form_step (n : Nat) (D : Nat → List UInt8 → Except Int (List (T n) × List UInt8))
    (hD : ∀ m r l x, D m r = .ok (l, x) → l.length = m ∧ r = l.flatMap (enc n) ++ x ∧ (∀ t ∈ l, right n t = true) ∧ (∀ t ∈ l, deep n (n - 1) t = false) ∧ n ≠ 0)
    (b : List UInt8) (t : T (n + 1)) (x : List UInt8) (h : decW D b = .ok (t, x)) : Form n b t x := by
  match b, h with
  | [], h => cases h
  | c :: r, h =>
    unfold decW at h
    dsimp only at h
    obtain ⟨b1, b2, b3, b4, b6, b0⟩ := kind_back c
    by_cases hk : kindF c = 0
    · rw [if_pos hk] at h; cases h
    · rw [if_neg hk] at h
      cases hl : lineF r with
      | error e => rw [hl] at h; cases h
      | ok y =>
        obtain ⟨s, r'⟩ := y
        rw [hl] at h
        dsimp only at h
        obtain ⟨l1, l2⟩ := lineF_back r s r' hl
        unfold lineK at h
        by_cases k3 : kindF c = 3
        · rw [if_pos k3] at h
          by_cases hi : Pl.ic s = 0
          · rw [if_pos hi] at h
            injection h with h
            injection h with e1 e2
            subst e1; subst e2
            refine ⟨?_, ?_, ?_⟩
            · rw [l1, b3 k3]
              show _ = 58 :: (Lib.itoa (Pl.iv s) ++ crlf) ++ r'
              rw [int_back hi]; simp
            · rfl
            · rfl
          · rw [if_neg hi] at h; cases h
        · rw [if_neg k3] at h
          by_cases k4 : kindF c = 4
          · rw [if_pos k4] at h
            unfold bulkF at h
            by_cases hn : s = [45, 49]
            · rw [if_pos hn] at h
              injection h with h
              injection h with e1 e2
              subst e1; subst e2
              refine ⟨?_, rfl, rfl⟩
              rw [l1, b4 k4, hn]
              rfl
            · rw [if_neg hn] at h
              cases hc : cntF s with
              | error e => rw [hc] at h; cases h
              | ok m =>
                rw [hc] at h
                dsimp only at h
                by_cases h1 : r'.length < m + 2
                · rw [if_pos h1] at h; cases h
                · rw [if_neg h1] at h
                  by_cases h2 : (r'.drop m).take 2 = crlf
                  · rw [if_pos h2] at h
                    injection h with h
                    injection h with e1 e2
                    subst e1; subst e2
                    refine ⟨?_, rfl, rfl⟩
                    have hz : (ofL (r'.take m)).size = m := by rw [ofL_size, List.length_take]; omega
                    rw [l1, b4 k4]
                    show _ = 36 :: (Lib.itoa ((ofL (r'.take m)).size : Int) ++ crlf ++ r'.take m ++ crlf) ++ r'.drop (m + 2)
                    rw [hz, cnt_back hc]
                    have hr : r' = r'.take m ++ (crlf ++ r'.drop (m + 2)) := by
                      have e := List.take_append_drop m r'
                      have e2 := List.take_append_drop 2 (r'.drop m)
                      rw [h2, List.drop_drop] at e2
                      rw [e2, e]
                    conv => lhs; rw [hr]
                    simp
                  · rw [if_neg h2] at h; cases h
          · rw [if_neg k4] at h
            by_cases k6 : kindF c = 6
            · rw [if_pos k6] at h
              unfold arrF at h
              by_cases hn : s = [45, 49]
              · rw [if_pos hn] at h
                injection h with h
                injection h with e1 e2
                subst e1; subst e2
                refine ⟨?_, rfl, rfl⟩
                rw [l1, b6 k6, hn]
                rfl
              · rw [if_neg hn] at h
                cases hc : cntF s with
                | error e => rw [hc] at h; cases h
                | ok m =>
                  rw [hc] at h
                  dsimp only at h
                  cases hd : D m r' with
                  | error e => rw [hd] at h; cases h
                  | ok y =>
                    obtain ⟨l, z⟩ := y
                    rw [hd] at h
                    injection h with h
                    injection h with e1 e2
                    subst e1; subst e2
                    obtain ⟨q1, q2, q3, q4, q5⟩ := hD m r' l z hd
                    refine ⟨?_, ?_, ?_⟩
                    · rw [l1, b6 k6]
                      show _ = 42 :: (Lib.itoa (l.length : Int) ++ crlf ++ l.flatMap (enc n)) ++ z
                      rw [q1, cnt_back hc, q2]
                      simp
                    · show (true && l.all (right n)) = true
                      rw [Bool.true_and, List.all_eq_true]
                      exact q3
                    · show ((6 : Int) == 6 && n == 0 || l.any (deep n (n - 1))) = false
                      rw [show (n == 0) = false from beq_eq_false_iff_ne.2 q5, Bool.and_false, Bool.false_or, List.any_eq_false]
                      intro t ht
                      rw [q4 t ht]
                      decide
            · rw [if_neg k6] at h
              injection h with h
              injection h with e1 e2
              subst e1; subst e2
              rcases b0 hk k3 k4 k6 with e | e
              · refine ⟨?_, ?_, ?_⟩
                · rw [l1, e, b1 e]
                  show _ = 43 :: (s ++ crlf) ++ r'
                  simp
                · rw [e]
                  show ((0 : Int) == 0 && true && clean s && true) = true
                  rw [l2]; rfl
                · rw [e]; rfl
              · refine ⟨?_, ?_, ?_⟩
                · rw [l1, e, b2 e]
                  show _ = 45 :: (s ++ crlf) ++ r'
                  simp
                · rw [e]
                  show ((0 : Int) == 0 && true && clean s && true) = true
                  rw [l2]; rfl
                · rw [e]; rfl
theorem many_form (n : Nat) (H : ∀ b t x, dec n b = .ok (t, x) → Form n b t x) : ∀ (m : Nat) (r : List UInt8) (l : List (T (n + 1))) (x : List UInt8), many (dec n) m r = .ok (l, x) →
    l.length = m ∧ r = l.flatMap (enc (n + 1)) ++ x ∧ (∀ t ∈ l, right (n + 1) t = true) ∧ (∀ t ∈ l, deep (n + 1) n t = false)
  | 0, r, l, x, h => by
    unfold many at h
    injection h with h
    injection h with e1 e2
    subst e1; subst e2
    exact ⟨rfl, rfl, fun t ht => by simp at ht, fun t ht => by simp at ht⟩
  | m + 1, r, l, x, h => by
    unfold many at h
    cases hd : dec n r with
    | error e => rw [hd] at h; cases h
    | ok y =>
      obtain ⟨t, b1⟩ := y
      rw [hd] at h
      dsimp only at h
      cases hm : many (dec n) m b1 with
      | error e => rw [hm] at h; cases h
      | ok y =>
        obtain ⟨ts, b2⟩ := y
        rw [hm] at h
        injection h with h
        injection h with e1 e2
        subst e1; subst e2
        obtain ⟨i1, i2, i3, i4⟩ := many_form n H m b1 ts b2 hm
        obtain ⟨f1, f2, f3⟩ := H r t b1 hd
        refine ⟨by rw [List.length_cons, i1], ?_, ?_, ?_⟩
        · rw [f1, i2, List.flatMap_cons, List.append_assoc]
        · intro u hu
          rcases List.mem_cons.1 hu with e | e
          · rw [e]; exact f2
          · exact i3 u e
        · intro u hu
          rcases List.mem_cons.1 hu with e | e
          · rw [e]; exact f3
          · exact i4 u e
/-- what is read, written again, is what was read -/
theorem form : ∀ (n : Nat) (b : List UInt8) (t : T (n + 1)) (x : List UInt8), dec n b = .ok (t, x) → Form n b t x
  | 0, b, t, x, h => form_step 0 _ (fun m r l x h => by cases h) b t x h
  | n + 1, b, t, x, h => form_step (n + 1) _ (fun m r l x h => by
      obtain ⟨a1, a2, a3, a4⟩ := many_form n (form n) m r l x h
      exact ⟨a1, a2, a3, a4, Nat.succ_ne_zero n⟩) b t x h
end Rp
end Go.Proofs.YtoalnfkjpdgbiaaDoor
