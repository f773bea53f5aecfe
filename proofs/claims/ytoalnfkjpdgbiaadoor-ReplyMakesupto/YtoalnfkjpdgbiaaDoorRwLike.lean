/-
  Contracts over this program: the statements' own alike: are two replies the same?
-/
import Derived.Test.YtoalnfkjpdgbiaaDoorRpDecode
import Derived.BigQuiet
import Derived.Deep.QuietTactic
namespace Go.Proofs.YtoalnfkjpdgbiaaDoor
open Go.RowKit
set_option linter.unusedVariables false
def RSame (n : Nat) : Prop := ∀ (a b : Rp.T n) (ca cb : List Value) (w : World), Tel (· < w.heap.size) w n ca a → Tel (· < w.heap.size) w n cb b →
  Calls Tryd.prog 14 #[.agg ca.toArray, .agg cb.toArray] w fun e w' => (∃ v, e = .returned (.bool v) ∧ (v = true ↔ a = b)) ∧ Below w.heap.size w w'
theorem T_extR {n : Nat} {a b : Rp.T (n + 1)} (h1 : Rp.kd a = Rp.kd b) (h2 : Rp.tx a = Rp.tx b) (h3 : Rp.nm a = Rp.nm b) (h4 : Rp.ls a = Rp.ls b) : a = b := by
  obtain ⟨k, s, i, l⟩ := a
  obtain ⟨k', s', i', l'⟩ := b
  simp only [Rp.kd, Rp.tx, Rp.nm, Rp.ls] at h1 h2 h3 h4
  subst h1; subst h2; subst h3; subst h4
  rfl
/-- the two blocks that alike lays -/
theorem rlike_pre (w : World) (a0 a1 a2 a3 b0 b1 b2 b3 : Value) : ∃ W1 W2, w.alloc (.cells #[a0, a1, a2, a3] 25) = W1 ∧ W1.alloc (.cells #[b0, b1, b2, b3] 25) = W2 ∧
    Kept (Box W2 w.heap.size a0 a1 a2 a3) ∧ Kept (Box W2 W1.heap.size b0 b1 b2 b3) ∧ Kept (Below w.heap.size w W2) := by
  obtain ⟨W1, hW1⟩ : ∃ x, w.alloc (.cells #[a0, a1, a2, a3] 25) = x := ⟨_, rfl⟩
  obtain ⟨W2, hW2⟩ : ∃ x, W1.alloc (.cells #[b0, b1, b2, b3] 25) = x := ⟨_, rfl⟩
  have x1 : Box W1 w.heap.size a0 a1 a2 a3 := hW1 ▸ Box.new w _ _ _ _
  have bb1 : Below w.heap.size w W1 := hW1 ▸ (Below.refl _ _).alloc (Nat.le_refl _) _
  have bb2 : Below W1.heap.size W1 W2 := hW2 ▸ (Below.refl _ _).alloc (Nat.le_refl _) _
  exact ⟨W1, W2, hW1, hW2, keep (x1.below bb2 x1.lt), keep (hW2 ▸ Box.new W1 _ _ _ _), keep (bb1.trans (bb2.mono bb1.size))⟩
set_option maxRecDepth 100000 in
set_option maxHeartbeats 2000000 in
theorem rsame_no (n : Nat) (a b : Rp.T (n + 1)) (ca cb : List Value) (w : World) (ha : Tel (· < w.heap.size) w (n + 1) ca a) (hb : Tel (· < w.heap.size) w (n + 1) cb b)
    (hne : Rp.kd a ≠ Rp.kd b ∨ Rp.tx a ≠ Rp.tx b ∨ Rp.nm a ≠ Rp.nm b ∨ (Rp.ls a).length ≠ (Rp.ls b).length) :
    Calls Tryd.prog 14 #[.agg ca.toArray, .agg cb.toArray] w fun e w' => e = .returned (.bool false) ∧ Below w.heap.size w w' := by
  obtain ⟨va, rfl, la, _⟩ := ha
  obtain ⟨vb, rfl, lb, _⟩ := hb
  obtain ⟨aoa, cpa, rfl, _⟩ := la.form
  obtain ⟨aob, cpb, rfl, _⟩ := lb.form
  clear la lb
  generalize Rp.kd a = ka at *
  generalize Rp.tx a = sa at *
  generalize Rp.nm a = ia at *
  generalize (Rp.ls a).length = ma at *
  generalize Rp.kd b = kb at *
  generalize Rp.tx b = sb at *
  generalize Rp.nm b = ib at *
  generalize (Rp.ls b).length = mb at *
  obtain ⟨W1, W2, hW1, hW2, XA, XB, B2⟩ := rlike_pre w (.int .i64 ka) (.string sa) (.int .i64 ia) (.slice aoa ma cpa) (.int .i64 kb) (.string sb) (.int .i64 ib) (.slice aob mb cpb)
  obtain ⟨d0, d1, d2, d3⟩ := XA.out.cells
  obtain ⟨e0, e1, e2, e3⟩ := XB.out.cells
  by_cases h1 : ka = kb
  · subst h1
    by_cases h2 : sa = sb
    · subst h2
      by_cases h3 : ia = ib
      · subst h3
        have h4 : ma ≠ mb := by
          rcases hne with h | h | h | h
          · exact absurd rfl h
          · exact absurd rfl h
          · exact absurd rfl h
          · exact h
        have q4 : ((ma : Int) != (mb : Int)) = true := by simp; omega
        have r4 : ¬ (ma : Int) = (mb : Int) := by omega
        clear hne h4
        go_enter Tryd.func14, Tryd.ntmps14
        go_wp2
        go_ret
        exact ⟨rfl, B2.out⟩
      · have q3 : (ia != ib) = true := by simpa using h3
        clear hne
        go_enter Tryd.func14, Tryd.ntmps14
        go_wp2
        go_ret
        exact ⟨rfl, B2.out⟩
    · have q2 : (sa.toList == sb.toList) = false := beq_eq_false_iff_ne.2 (fun e => h2 (by
        rw [Lib.toList_data, Lib.toList_data] at e
        exact ByteArray.ext (by exact Array.ext' e)))
      have q2' : (sa.toList != sb.toList) = true := by rw [bne, q2]; rfl
      clear hne
      go_enter Tryd.func14, Tryd.ntmps14
      go_wp2
      go_ret
      exact ⟨rfl, B2.out⟩
  · have q1 : (ka != kb) = true := by simpa using h1
    clear hne
    go_enter Tryd.func14, Tryd.ntmps14
    go_wp2
    go_ret
    exact ⟨rfl, B2.out⟩
end Go.Proofs.YtoalnfkjpdgbiaaDoor
