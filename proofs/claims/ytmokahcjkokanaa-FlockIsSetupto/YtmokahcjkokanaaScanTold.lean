/-
  Plain mathematics, with no program in sight: a bucket's keys among the table's, and what the great table's buckets tell together.
-/
import Derived.Test.YtmokahcjkokanaaScanPass1
namespace Go.Proofs.Ytmokahcjkokanaa
namespace Rv
theorem keys_app {K V : Type} (a b : List (K × V)) : Dc.keys (a ++ b) = Dc.keys a ++ Dc.keys b := by unfold Dc.keys; exact List.map_append
theorem bucket_from {K V : Type} (h : K → Nat) (n i : Nat) : ∀ (T : Dc.Tab K V) (j : Nat), (∀ (x : Nat) c, T[x]? = some c → ∀ e ∈ c, h e.1 % n = j + x) →
    (Dc.keys T.flatten).filter (fun k => decide (h k % n = i)) = if j ≤ i then Dc.keys ((T[i - j]?).getD []) else [] := by
  intro T
  induction T with
  | nil => intro j _; simp [Dc.keys]
  | cons c T ih =>
    intro j hp
    have h0 : ∀ e ∈ c, h e.1 % n = j := fun e he => by have := hp 0 c rfl e he; omega
    have ih' := ih (j + 1) (fun x d hd e he => by have := hp (x + 1) d (by simpa using hd) e he; omega)
    rw [List.flatten_cons, keys_app, List.filter_append, ih']
    rcases Nat.lt_trichotomy i j with q | q | q
    · have e1 : (Dc.keys c).filter (fun k => decide (h k % n = i)) = [] := by
        rw [List.filter_eq_nil_iff]
        intro k hk
        obtain ⟨e, he, rfl⟩ := List.mem_map.1 hk
        have := h0 e he
        simp; omega
      rw [e1, if_neg (by omega), if_neg (by omega)]
      rfl
    · subst q
      have e1 : (Dc.keys c).filter (fun k => decide (h k % n = i)) = Dc.keys c := by
        rw [List.filter_eq_self]
        intro k hk
        obtain ⟨e, he, rfl⟩ := List.mem_map.1 hk
        simp [h0 e he]
      rw [e1, if_neg (by omega), if_pos (Nat.le_refl _), Nat.sub_self, List.append_nil]
      rfl
    · have e1 : (Dc.keys c).filter (fun k => decide (h k % n = i)) = [] := by
        rw [List.filter_eq_nil_iff]
        intro k hk
        obtain ⟨e, he, rfl⟩ := List.mem_map.1 hk
        have := h0 e he
        simp; omega
      have e2 : i - j = (i - (j + 1)) + 1 := by omega
      rw [e1, if_pos (by omega), if_pos (by omega), e2, List.getElem?_cons_succ, List.nil_append]
/-- a bucket's keys are those of the table whose hash stands there -/
theorem bucket_keys {K V : Type} {h : K → Nat} {T : Dc.Tab K V} (hp : Dc.Put h T) (i : Nat) : Dc.keys ((T[i]?).getD []) = (Dc.keys T.flatten).filter (fun k => decide (h k % T.length = i)) := by
  have := bucket_from h T.length i T 0 (fun x c hc e he => by rw [Nat.zero_add]; exact hp x c hc e he)
  rw [if_pos (Nat.zero_le _), Nat.sub_zero] at this
  exact this.symm
theorem rv_mod_iff (L a b : Nat) : a % 2 ^ L = b % 2 ^ L ↔ rv L a = rv L b := by
  constructor
  · intro e; rw [← rv_mod L a, e, rv_mod]
  · intro e; rw [← rv_rv L a, e, rv_rv]
/-- a row falls into two, as what is asked of its members does -/
theorem filter_two {α : Type} (l : List α) (p q r : α → Bool) (h : ∀ x, p x = (q x || r x)) (hx : ∀ x, ¬ (q x = true ∧ r x = true)) : (l.filter p).Perm (l.filter q ++ l.filter r) := by
  induction l with
  | nil => simp
  | cons a l ih =>
    have e := h a
    have n := hx a
    cases hq : q a <;> cases hr : r a
    · rw [hq, hr] at e; simp [e, hq, hr, ih]
    · rw [hq, hr] at e; simp only [List.filter_cons, e, hq, hr, Bool.false_or, if_true]; exact (ih.cons a).trans List.perm_middle.symm
    · rw [hq, hr] at e; simp only [List.filter_cons, e, hq, hr, Bool.or_false, if_true]; exact ih.cons a
    · exact absurd ⟨hq, hr⟩ n
theorem tk_keys {h : ByteArray → Nat} {s : Sd} {t L : Nat} (hp : Dc.Put h (tbl s t)) (hl : (tbl s t).length = 2 ^ L) (c : Nat) : tk s t c = (Dc.keys (tbl s t).flatten).filter (fun k => decide (rv L (h k) = rv L c)) := by
  have e := bucket_keys hp (c % (tbl s t).length)
  show Dc.keys _ = _
  rw [e]
  apply List.filter_congr
  intro k _
  rw [hl]
  exact decide_eq_decide.2 (rv_mod_iff L (h k) c)
theorem rv_quot {A d a b : Nat} (h : rv (A + d) a = rv (A + d) b) : rv A a = rv A b := by rw [← (rv_low A d a).1, h, (rv_low A d b).1]
theorem rv_above {A d x k : Nat} (h0 : (rv (A + d) x + 1) % 2 ^ d = 0) (h1 : rv (A + d) x + 1 ≤ rv (A + d) k) : rv A k ≠ rv A x := by
  have e1 := (rv_low A d x).1
  have e2 := (rv_low A d k).1
  have e3 := Nat.div_le_div_right (c := 2 ^ d) h1
  rw [Nat.succ_div, if_pos (Nat.dvd_of_mod_eq_zero h0), e1, e2] at e3
  intro e
  rw [e] at e3
  exact Nat.not_succ_le_self _ e3
/-- what the great table's buckets tell from a cursor on -/
theorem gr_perm {h : ByteArray → Nat} {s : Sd} {A d : Nat} (hp : Dc.Put h (tbl s (1 - smN s))) (hl : (tbl s (1 - smN s)).length = 2 ^ (A + d)) : ∀ (f x : Nat), 2 ^ (A + d) ≤ rv (A + d) x + f →
    (grF s A d f x).Perm ((Dc.keys (tbl s (1 - smN s)).flatten).filter (fun k => decide (rv A (h k) = rv A x ∧ rv (A + d) x ≤ rv (A + d) (h k)))) := by
  intro f
  induction f with
  | zero => intro x hx; exact absurd hx (Nat.not_le_of_lt (rv_lt (A + d) x))
  | succ f ih =>
    intro x hx
    have two := filter_two (Dc.keys (tbl s (1 - smN s)).flatten) (fun k => decide (rv A (h k) = rv A x ∧ rv (A + d) x ≤ rv (A + d) (h k))) (fun k => decide (rv (A + d) (h k) = rv (A + d) x)) (fun k => decide (rv A (h k) = rv A x ∧ rv (A + d) x + 1 ≤ rv (A + d) (h k)))
      (fun k => by
        rw [← Bool.decide_or]
        apply decide_eq_decide.2
        constructor
        · rintro ⟨a, b⟩
          rcases Nat.eq_or_lt_of_le b with e | e
          · exact .inl e.symm
          · exact .inr ⟨a, e⟩
        · rintro (e | ⟨a, b⟩)
          · exact ⟨rv_quot e, Nat.le_of_eq e.symm⟩
          · exact ⟨a, Nat.le_of_succ_le b⟩)
      (fun k => by
        rintro ⟨a, b⟩
        have a := of_decide_eq_true a
        have b := (of_decide_eq_true b).2
        rw [a] at b
        exact Nat.not_succ_le_self _ b)
    refine List.Perm.trans ?_ two.symm
    simp only [grF]
    rw [tk_keys hp hl]
    refine List.Perm.append_left _ ?_
    by_cases q : next (A + d) x < 2 ^ A
    · rw [if_pos q]
      have h0 := (nx_iff A d x).1 q
      rw [List.filter_eq_nil_iff.2 (fun k _ hk => by
        have hk := of_decide_eq_true hk
        exact rv_above h0 hk.2 hk.1)]
    · rw [if_neg q]
      obtain ⟨q1, q2, _⟩ := nx_go q
      have := ih (next (A + d) x) (by rw [q2, Nat.add_right_comm]; exact hx)
      rw [q1, q2] at this
      exact this
end Rv
end Go.Proofs.Ytmokahcjkokanaa
