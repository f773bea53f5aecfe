/-
  Plain mathematics: which fronts of a row the first signs mean, sign by sign and byte by byte.
-/
import Derived.Test.YtmlpfijabdkbjaaGlobs
namespace Go.Proofs.Ytmlpfijabdkbjaa
namespace Gb
theorem M_star_app {p : List Sg} {t : List UInt8} : M (.star :: p) t = true ↔ ∃ x y, t = x ++ y ∧ M p y = true := by
  rw [M_star]
  constructor
  · rintro ⟨k, h⟩; exact ⟨t.take k, t.drop k, (List.take_append_drop k t).symm, h⟩
  · rintro ⟨x, y, rfl, h⟩; exact ⟨x.length, by rw [List.drop_left]; exact h⟩
theorem M_app (p q : List Sg) (t : List UInt8) : M (p ++ q) t = true ↔ ∃ u v, t = u ++ v ∧ M p u = true ∧ M q v = true := by
  induction p generalizing t with
  | nil =>
    constructor
    · intro h; exact ⟨[], t, rfl, rfl, h⟩
    · rintro ⟨u, v, rfl, h1, h2⟩
      have : u = [] := by cases u with
        | nil => rfl
        | cons c r => simp [M] at h1
      subst this; exact h2
  | cons g p ih =>
    cases hg : g.isStar
    · cases t with
      | nil =>
        rw [List.cons_append, M_one_nil hg]
        constructor
        · intro h; cases h
        · rintro ⟨u, v, h0, h1, _⟩
          have : u = [] := by
            cases u with
            | nil => rfl
            | cons c r => cases h0
          subst this
          rw [M_one_nil hg] at h1
          cases h1
      | cons c r =>
        rw [List.cons_append, M_one_cons hg, Bool.and_eq_true, ih]
        constructor
        · rintro ⟨hc, u, v, rfl, h1, h2⟩
          exact ⟨c :: u, v, rfl, by rw [M_one_cons hg, hc, h1]; rfl, h2⟩
        · rintro ⟨u, v, h0, h1, h2⟩
          cases u with
          | nil => rw [M_one_nil hg] at h1; cases h1
          | cons d u =>
            cases h0
            rw [M_one_cons hg, Bool.and_eq_true] at h1
            exact ⟨h1.1, u, v, rfl, h1.2, h2⟩
    · have e : g = .star := by rcases g with _ | _ <;> first | rfl | cases hg
      subst e
      rw [List.cons_append, M_star_app]
      constructor
      · rintro ⟨x, y, rfl, h⟩
        obtain ⟨u, v, rfl, h1, h2⟩ := (ih y).1 h
        exact ⟨x ++ u, v, by simp, M_star_app.2 ⟨x, u, rfl, h1⟩, h2⟩
      · rintro ⟨u, v, rfl, h1, h2⟩
        obtain ⟨x, y, rfl, h⟩ := M_star_app.1 h1
        exact ⟨x, y ++ v, by simp, (ih _).2 ⟨y, v, rfl, h, h2⟩⟩
theorem bool_iff {x y : Bool} (h : x = true ↔ y = true) : x = y := by cases x <;> cases y <;> simp_all
/-- whether the first i signs mean the first k bytes -/
def can (l : List Sg) (t : List UInt8) (i k : Nat) : Bool := M (l.take i) (t.take k)
theorem can_none (l : List Sg) (t : List UInt8) (k : Nat) (hk : k ≤ t.length) : can l t 0 k = decide (k = 0) := by
  unfold can
  rw [List.take_zero]
  show (t.take k).isEmpty = _
  rcases Nat.eq_zero_or_pos k with rfl | h
  · simp
  · have : t.take k ≠ [] := by
      intro e
      have := congrArg List.length e
      rw [List.length_take, Nat.min_eq_left hk] at this
      simp at this; omega
    rw [decide_eq_false (by omega)]
    simpa using this
theorem can_all (l : List Sg) (t : List UInt8) : can l t l.length t.length = M l t := by unfold can; rw [List.take_length, List.take_length]
theorem M_star_end (p : List Sg) (t : List UInt8) : M (p ++ [.star]) t = true ↔ ∃ u v, t = u ++ v ∧ M p u = true := by
  rw [M_app]
  constructor
  · rintro ⟨u, v, h, h1, _⟩; exact ⟨u, v, h, h1⟩
  · rintro ⟨u, v, h, h1⟩; exact ⟨u, v, h, h1, M_star_app.2 ⟨v, [], by simp, rfl⟩⟩
theorem take_step (t : List UInt8) (k : Nat) (hk : k < t.length) : t.take (k + 1) = t.take k ++ [t[k]] := List.take_succ_eq_append_getElem hk
theorem can_star {l : List Sg} {t : List UInt8} {i k : Nat} (hi : i < l.length) (hs : l[i].isStar = true) (hk : k ≤ t.length) : can l t (i + 1) k = (can l t i k || (decide (0 < k) && can l t (i + 1) (k - 1))) := by
  have e : l[i] = .star := by
    generalize l[i] = g at hs
    rcases g with _ | _ <;> first | rfl | cases hs
  unfold can
  rw [List.take_succ_eq_append_getElem hi, e]
  apply bool_iff
  rw [M_star_end, Bool.or_eq_true, Bool.and_eq_true, M_star_end, decide_eq_true_iff]
  cases k with
  | zero =>
    constructor
    · rintro ⟨u, v, h, h1⟩
      have h := h.symm
      rw [List.take_zero, List.append_eq_nil_iff] at h
      left; rw [List.take_zero, ← h.1]; exact h1
    · rintro (h | ⟨h, _⟩)
      · exact ⟨_, [], by simp, h⟩
      · omega
  | succ k =>
    rw [Nat.add_sub_cancel]
    constructor
    · rintro ⟨u, v, h, h1⟩
      rcases List.eq_nil_or_concat v with rfl | ⟨v', c, rfl⟩
      · left; rw [h, List.append_nil]; exact h1
      · right
        refine ⟨by omega, u, v', ?_, h1⟩
        rw [take_step t k (by omega), List.concat_eq_append, ← List.append_assoc] at h
        exact (List.append_inj' h rfl).1
    · rintro (h | ⟨_, u, v, h, h1⟩)
      · exact ⟨_, [], by simp, h⟩
      · exact ⟨u, v ++ [t[k]'(by omega)], by rw [take_step t k (by omega), h, List.append_assoc], h1⟩
theorem M_one_end {g : Sg} (p : List Sg) (t : List UInt8) (c : UInt8) (hg : g.isStar = false) : M (p ++ [g]) (t ++ [c]) = (M p t && g.means c) := by
  apply bool_iff
  rw [M_app, Bool.and_eq_true]
  constructor
  · rintro ⟨u, v, h, h1, h2⟩
    cases v with
    | nil => rw [M_one_nil hg] at h2; cases h2
    | cons d r =>
      rw [M_one_cons hg, Bool.and_eq_true] at h2
      have hr : r = [] := by simpa [M] using h2.2
      subst hr
      have := List.append_inj' h rfl
      obtain ⟨rfl, e⟩ := this
      cases e
      exact ⟨h1, h2.1⟩
  · rintro ⟨h1, h2⟩
    exact ⟨t, [c], rfl, h1, by rw [M_one_cons hg, h2]; rfl⟩
theorem M_one_none {g : Sg} (p : List Sg) (hg : g.isStar = false) : M (p ++ [g]) [] = false := by
  apply Decidable.byContradiction
  intro hn
  obtain ⟨u, v, h, _, h2⟩ := (M_app p [g] []).1 (by simpa using hn)
  have := List.append_eq_nil_iff.1 h.symm
  rw [this.2, M_one_nil hg] at h2
  cases h2
theorem can_first {l : List Sg} {t : List UInt8} {i : Nat} (hi : i < l.length) (hs : l[i].isStar = false) : can l t (i + 1) 0 = false := by
  unfold can
  rw [List.take_succ_eq_append_getElem hi, List.take_zero]
  exact M_one_none _ hs
theorem can_one {l : List Sg} {t : List UInt8} {i k : Nat} (hi : i < l.length) (hs : l[i].isStar = false) (hk : k < t.length) : can l t (i + 1) (k + 1) = (can l t i k && l[i].means t[k]) := by
  unfold can
  rw [List.take_succ_eq_append_getElem hi, take_step t k hk]
  exact M_one_end _ _ _ hs
end Gb
end Go.Proofs.Ytmlpfijabdkbjaa
