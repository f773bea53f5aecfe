/-
  Plain mathematics: a set read in place, item by item up to its end, is the set that was cut out and then read.
-/
import Derived.Test.YtmlpfijabdkbjaaGlobTabs
namespace Go.Proofs.Ytmlpfijabdkbjaa
open Go.RowKit
namespace Gb
/-- reading a byte within a set, of the pattern or of what was cut out, is the same -/
theorem rb_in {l m : List UInt8} {c b : UInt8} {r : List UInt8} (hl : l = c :: r) (hc : c ≠ 93) (h : rb l = (b, m)) : rb (setCut l).1 = (b, (setCut m).1) ∧ (setCut l).2 = (setCut m).2 ∧ (setCut l).1 ≠ [] := by
  subst hl
  match r with
  | [] =>
    simp only [rb, Prod.mk.injEq] at h
    obtain ⟨rfl, rfl⟩ := h
    have e : setCut [c] = ([c], []) := by simp only [setCut, if_neg hc]
    rw [e]
    exact ⟨rfl, rfl, by simp⟩
  | d :: r =>
    by_cases h92 : c = 92
    · simp only [rb, if_pos h92, Prod.mk.injEq] at h
      obtain ⟨rfl, rfl⟩ := h
      have e : setCut (c :: d :: r) = (c :: d :: (setCut r).1, (setCut r).2) := by simp only [setCut, if_neg hc, if_pos h92]
      rw [e]
      refine ⟨?_, rfl, by simp⟩
      simp only [rb, if_pos h92]
    · simp only [rb, if_neg h92, Prod.mk.injEq] at h
      obtain ⟨rfl, rfl⟩ := h
      have e : setCut (c :: d :: r) = (c :: (setCut (d :: r)).1, (setCut (d :: r)).2) := by simp only [setCut, if_neg hc, if_neg h92]
      rw [e]
      refine ⟨?_, rfl, by simp⟩
      generalize (setCut (d :: r)).1 = X
      cases X with
      | nil => rfl
      | cons y ys => simp only [rb, if_neg h92]
/-- what is left of the inside at a place -/
def ins (p : ByteArray) (n : Nat) : List UInt8 := (setCut (D p n)).1
def beh (p : ByteArray) (n : Nat) : List UInt8 := (setCut (D p n)).2
/-- no item stands there -/
def over (p : ByteArray) (n : Nat) : Prop := p.size ≤ n ∨ ∃ h : n < p.size, (p[n].toNat : Int) = 93
theorem ins_over {p : ByteArray} {n : Nat} (h : over p n) : ins p n = [] := by
  unfold ins
  rcases h with h | ⟨h, hb⟩
  · rw [cutEnd p n h]
  · rw [cutClose h hb]
theorem ins_item {p : ByteArray} {n m : Nat} {b : UInt8} (h : n < p.size) (hb : ¬ (p[n].toNat : Int) = 93) (hr : rb (D p n) = (b, D p m)) : rb (ins p n) = (b, ins p m) ∧ beh p n = beh p m ∧ ins p n ≠ [] :=
  rb_in (D_cons p n h) (byte_no (b := 93) hb) hr
theorem ins_dash {p : ByteArray} {n : Nat} (h : n < p.size) (hb : (p[n].toNat : Int) = 45) : ins p n = 45 :: ins p (n + 1) ∧ beh p n = beh p (n + 1) := by
  have e := byte_is (b := 45) hb
  unfold ins beh
  rw [D_cons p n h, e]
  by_cases h1 : n + 1 < p.size
  · rw [D_cons p (n + 1) h1]; exact ⟨rfl, rfl⟩
  · rw [D_nil p (n + 1) (by omega)]; exact ⟨rfl, rfl⟩
/-- one item and no range -/
theorem in_item {p : ByteArray} {n m : Nat} {a : UInt8} (h : n < p.size) (hb : ¬ (p[n].toNat : Int) = 93) (hr : rb (D p n) = (a, D p m)) (hd : ∀ hm : m < p.size, (p[m].toNat : Int) = 45 → over p (m + 1)) :
    step (ins p n) = (a, a, ins p m) := by
  obtain ⟨h1, _, _⟩ := ins_item h hb hr
  unfold step
  rw [h1]
  simp only
  by_cases hm : m < p.size
  · by_cases h45 : (p[m].toNat : Int) = 45
    · rw [(ins_dash hm h45).1, ins_over (hd hm h45)]
    · generalize hX : ins p m = X
      match X with
      | [] => rfl
      | [_] => rfl
      | x :: y :: r =>
        simp only
        have hx : x ≠ 45 := by
          intro e
          subst e
          unfold ins at hX
          rw [D_cons p m hm] at hX
          have h93 : p[m] ≠ 93 := by
            intro e
            rw [e] at hX
            cases hD : D p (m + 1) with
            | nil => rw [hD] at hX; cases hX
            | cons d r => rw [hD] at hX; cases hX
          have h45' := byte_no (b := 45) h45
          cases hD : D p (m + 1) with
          | nil =>
            rw [hD] at hX
            simp only [setCut, if_neg h93, List.cons.injEq] at hX
            exact h45' hX.1
          | cons d r =>
            rw [hD] at hX
            simp only [setCut, if_neg h93] at hX
            split at hX <;> (simp only [List.cons.injEq] at hX; exact h45' hX.1)
        rw [if_neg hx]
  · have e : ins p m = [] := ins_over (.inl (by omega))
    rw [e]
/-- a range -/
theorem in_range {p : ByteArray} {n m q : Nat} {a c : UInt8} (h : n < p.size) (hb : ¬ (p[n].toNat : Int) = 93) (hr : rb (D p n) = (a, D p m)) (hm : m < p.size) (h45 : (p[m].toNat : Int) = 45)
    (h1 : m + 1 < p.size) (h93 : ¬ (p[m + 1].toNat : Int) = 93) (hr2 : rb (D p (m + 1)) = (c, D p q)) : step (ins p n) = (a, c, ins p q) ∧ beh p n = beh p q := by
  obtain ⟨e1, e2, _⟩ := ins_item h hb hr
  obtain ⟨d1, d2⟩ := ins_dash hm h45
  obtain ⟨f1, f2, f3⟩ := ins_item h1 h93 hr2
  refine ⟨?_, by rw [e2, d2, f2]⟩
  unfold step
  rw [e1]
  simp only
  rw [d1]
  generalize hX : ins p (m + 1) = X at f1 f3
  match X, f3 with
  | y :: r, _ =>
    simp only
    rw [if_pos trivial, f1]
/-- what the loop over the items keeps: what is in the table, or still to come, is what the set names -/
def tabRel (p : ByteArray) (n0 n : Nat) (f : Nat → Bool) : Prop := (∀ x : UInt8, (f x.toNat || names x (ins p n)) = names x (ins p n0)) ∧ beh p n = beh p n0
theorem tabRel_zero (p : ByteArray) (n : Nat) : tabRel p n n (fun _ => false) := ⟨fun _ => rfl, rfl⟩
theorem tabRel_step {p : ByteArray} {n0 n m : Nat} {f f' : Nat → Bool} {a c : UInt8} (h : tabRel p n0 n f) (hne : ins p n ≠ []) (hs : step (ins p n) = (a, c, ins p m)) (hb : beh p n = beh p m) (hf : ∀ x : UInt8, f' x.toNat = (f x.toNat || btw a c x)) : tabRel p n0 m f' := by
  refine ⟨fun x => ?_, by rw [← hb]; exact h.2⟩
  rw [← h.1 x, names_cons x hne, hs, hf]
  simp only
  rw [Bool.or_assoc]
theorem tabRel_end {p : ByteArray} {n0 n : Nat} {f : Nat → Bool} (h : tabRel p n0 n f) (ho : over p n) (x : UInt8) : f x.toNat = names x (ins p n0) := by
  rw [← h.1 x, ins_over ho, names_nil, Bool.or_false]
end Gb
end Go.Proofs.Ytmlpfijabdkbjaa
