/-
  Chapter 5's first example, as plain mathematics.
-/
import Derived.Test.YtnkladifalnmnaaDictGet
namespace Go.Proofs.Ytnkladifalnmnaa
open Go.RowKit
/-- at rest, with k keys: no buckets yet, or four -/
def Kn (s : Dc.St ByteArray Int) (k : Nat) : Prop := s.young = [] ∧ s.pos = 0 ∧ (Dc.all s).length = k ∧ ((k = 0 ∧ s.old = []) ∨ s.old.length = 4)
theorem kn_none : Kn Dc.none0 0 := ⟨rfl, rfl, rfl, .inl ⟨rfl, rfl⟩⟩
theorem kn_set {h : ByteArray → Nat} {s : Dc.St ByteArray Int} {k : Nat} {key : ByteArray} {v : Int} (hI : Dc.Inv h s) (hK : Kn s k) (hk : k < 4) (hno : Dc.look key (Dc.all s) = none) : Kn (Dc.set h s key v).1 (k + 1) ∧ (Dc.set h s key v).1.old.length = 4 := by
  obtain ⟨h1, h2, h3, h4⟩ := hK
  have hl := (Dc.set_inv hI key v).2.2.2
  rw [hno] at hl
  have hl : (Dc.all (Dc.set h s key v).1).length = (Dc.all s).length + 1 := hl
  have hst := Dc.step_still h h1
  have hs : (Dc.set h s key v).1 = Dc.lay h (Dc.grow (Dc.all s).length s) (key, v) := by
    unfold Dc.set
    rw [hst, hno]
  rw [h3] at hl
  rw [hs] at hl ⊢
  rcases h4 with ⟨rfl, h5⟩ | h5
  · have hg : Dc.grow (Dc.all s).length s = { old := List.replicate 4 [], young := [], pos := 0 } := by
      unfold Dc.grow
      rw [if_pos (by rw [h5]; rfl)]
    rw [hg] at hl ⊢
    have hp : (Dc.push h (List.replicate 4 []) (key, v)).length = 4 := (Dc.push_len _ _ _).trans (List.length_replicate ..)
    exact ⟨⟨rfl, rfl, hl, .inr hp⟩, hp⟩
  · have hg : Dc.grow (Dc.all s).length s = s := by
      unfold Dc.grow
      rw [if_neg (by rw [Dc.empty_iff]; intro e; rw [e] at h5; simp at h5), if_neg (by rw [Bool.and_eq_true, decide_eq_true_iff, h5, h3]; omega)]
    rw [hg] at hl ⊢
    have hly : Dc.lay h s (key, v) = { s with old := Dc.push h s.old (key, v) } := by
      unfold Dc.lay
      rw [if_pos (by rw [h1]; rfl)]
    rw [hly] at hl ⊢
    have hp : (Dc.push h s.old (key, v)).length = 4 := (Dc.push_len _ _ _).trans h5
    exact ⟨⟨h1, h2, hl, .inr hp⟩, hp⟩
theorem kn_again {h : ByteArray → Nat} {s : Dc.St ByteArray Int} {k : Nat} {key : ByteArray} {v x : Int} (hI : Dc.Inv h s) (hK : Kn s k) (h4 : s.old.length = 4) (hy : Dc.look key (Dc.all s) = some x) : Kn (Dc.set h s key v).1 k ∧ (Dc.set h s key v).1.old.length = 4 := by
  obtain ⟨h1, h2, h3, _⟩ := hK
  have hl := (Dc.set_inv hI key v).2.2.2
  rw [hy] at hl
  have hl : (Dc.all (Dc.set h s key v).1).length = (Dc.all s).length := hl
  have hst := Dc.step_still h h1
  have hs : (Dc.set h s key v).1 = Dc.every (Dc.alter key v) s := by
    unfold Dc.set
    rw [hst, hy]
  rw [h3] at hl
  rw [hs] at hl ⊢
  have ho : (Dc.every (Dc.alter key v) s).old.length = 4 := by unfold Dc.every; simp; exact h4
  exact ⟨⟨by unfold Dc.every; rw [h1]; rfl, h2, hl, .inr ho⟩, ho⟩
/-- the fifth key: a young table of eight, and the key stands there alone -/
theorem kn_fifth {h : ByteArray → Nat} {s : Dc.St ByteArray Int} {key : ByteArray} {v : Int} (hI : Dc.Inv h s) (hK : Kn s 4) (hno : Dc.look key (Dc.all s) = none) :
    (Dc.set h s key v).1.old.length = 4 ∧ (Dc.set h s key v).1.young.length = 8 ∧ (Dc.set h s key v).1.pos = 0 ∧ (Dc.set h s key v).1.young[h key % 8]? = some [(key, v)] ∧ (Dc.all (Dc.set h s key v).1).length = 5 := by
  obtain ⟨h1, h2, h3, h4⟩ := hK
  have hl := (Dc.set_inv hI key v).2.2.2
  rw [hno] at hl
  have hl : (Dc.all (Dc.set h s key v).1).length = (Dc.all s).length + 1 := hl
  have h5 : s.old.length = 4 := by
    rcases h4 with ⟨h0, _⟩ | h5
    · cases h0
    · exact h5
  have hst := Dc.step_still h h1
  have hs : (Dc.set h s key v).1 = { s with young := Dc.push h (List.replicate 8 []) (key, v), pos := 0 } := by
    unfold Dc.set
    rw [hst, hno]
    show Dc.lay h (Dc.grow (Dc.all s).length s) (key, v) = _
    have hg : Dc.grow (Dc.all s).length s = { s with young := List.replicate 8 [], pos := 0 } := by
      unfold Dc.grow
      rw [if_neg (by rw [Dc.empty_iff]; intro e; rw [e] at h5; simp at h5), if_pos (by rw [Bool.and_eq_true, decide_eq_true_iff, h5, h3, h1]; exact ⟨rfl, by omega⟩), h5]
    rw [hg]
    unfold Dc.lay
    rw [if_neg (by show ¬ (List.replicate 8 ([] : List Ent)).isEmpty = true; simp)]
  rw [h3] at hl
  rw [hs] at hl ⊢
  refine ⟨h5, by show (Dc.push h _ _).length = 8; rw [Dc.push_len]; rfl, rfl, ?_, hl⟩
  show (Dc.push h (List.replicate 8 []) (key, v))[h key % 8]? = _
  have hlt : h key % 8 < 8 := Nat.mod_lt _ (by omega)
  unfold Dc.push
  rw [List.length_replicate, List.getElem?_modify, List.getElem?_replicate, if_pos hlt]
  simp
end Go.Proofs.Ytnkladifalnmnaa
