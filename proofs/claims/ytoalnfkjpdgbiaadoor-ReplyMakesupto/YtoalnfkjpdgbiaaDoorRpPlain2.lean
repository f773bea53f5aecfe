/-
  Contracts over this program: the statements' own plain, at every reply.
-/
import Derived.Test.YtoalnfkjpdgbiaaDoorRpPlain1
namespace Go.Proofs.YtoalnfkjpdgbiaaDoor
open Go.RowKit
set_option linter.unusedVariables false
theorem plW_none (n : Nat) {α : Type} (k : Int) (s : ByteArray) (i : Int) (l : List α) : Rp.plW (β := Rp.T n) none k s i l = lfF n (k % 7 + 1) s i := by
  have e : Rp.plk k (l.isEmpty || (none : Option (List α → List (Rp.T n))).isNone) = k % 7 + 1 := by unfold Rp.plk; simp
  unfold Rp.plW lfF
  rw [e]
  rfl
theorem plW_leaf (n : Nat) {α : Type} (g : List α → List (Rp.T n)) (k : Int) (s : ByteArray) (i : Int) (h6 : k % 7 ≠ 5) : Rp.plW (some g) k s i ([] : List α) = lfF n (k % 7 + 1) s i := by
  have e : Rp.plk k (([] : List α).isEmpty || (some g).isNone) = k % 7 + 1 := by unfold Rp.plk; simp
  have h : ¬ k % 7 + 1 = 6 := by omega
  unfold Rp.plW lfF
  rw [e]
  simp only [h, if_false]
  rfl
theorem plW_list (n : Nat) {α : Type} (g : List α → List (Rp.T n)) (k : Int) (s : ByteArray) (i : Int) (l : List α) (h : l ≠ [] ∨ k % 7 = 5) : Rp.plW (some g) k s i l = Rp.mk 6 .empty 0 (g l) := by
  have e : Rp.plk k (l.isEmpty || (some g).isNone) = 6 := by
    unfold Rp.plk
    cases l with
    | nil =>
      have : k % 7 = 5 := h.resolve_left (fun h => h rfl)
      simp [this]
    | cons x l => simp
  unfold Rp.plW
  rw [e]
  rfl
theorem plain_any : ∀ (n m : Nat), m ≤ 8 → ∀ (t : Rp.T n) (cs : List Value) (w : World), Tel (· < w.heap.size) w n cs t → Rp.wt n t ≤ 2000000 →
    Calls Tryd.prog 38 #[.agg cs.toArray, .int .i64 (8 - (m : Int))] w (PlTold (m + 1) w (Rp.pla n m t))
  | 0, _, _, t, _, _, _, _ => nomatch t
  | n + 1, 0, hm, t, cs, w, hT, hw => by
    obtain ⟨v, rfl, hL, hk, hi, hs⟩ := hT
    obtain ⟨ao, c, rfl, hlc, hcm⟩ := hL.form
    show Calls _ _ _ _ (PlTold 1 w (Rp.plW none (Rp.kd t) (Rp.tx t) (Rp.nm t) (Rp.ls t)))
    rw [plW_none 0]
    exact plain_leaf 0 w (Rp.kd t) (Rp.tx t) (Rp.nm t) ao (Rp.ls t).length c 8 _ (by decide) (Int.le_refl _) (Nat.le_trans hlc hcm) hi hs rfl (.inr rfl) (fun _ => rfl)
  | n + 1, m + 1, hm, t, cs, w, hT, hw => by
    obtain ⟨v, rfl, hL, hk, hi, hs⟩ := hT
    have hw' : Rp.wt (n + 1) t = 4 + (Rp.tx t).size + ((Rp.ls t).map (Rp.wt n)).sum := rfl
    show Calls _ _ _ _ (PlTold (m + 2) w (Rp.plW (some (List.map (Rp.pla n m))) (Rp.kd t) (Rp.tx t) (Rp.nm t) (Rp.ls t)))
    by_cases h : Rp.ls t ≠ [] ∨ Rp.kd t % 7 = 5
    · rw [plW_list (m + 1) _ _ _ _ _ h]
      refine plain_list n m w (Rp.kd t) (Rp.tx t) (Rp.nm t) v (Rp.ls t) (8 - ((m + 1 : Nat) : Int)) (by omega) (by omega) hL (by have := Rp.sum_len (Rp.wt n) (Rp.wt_pos n) (Rp.ls t); omega) h (fun w' cs' u hu hT' => ?_)
      rw [show (8 - ((m + 1 : Nat) : Int)) + 1 = 8 - (m : Int) by omega]
      exact plain_any n m (by omega) u cs' w' hT' (by have := Rp.sum_mem (Rp.wt n) _ u hu; omega)
    · have h1 : Rp.ls t = [] := Classical.byContradiction fun e => h (.inl e)
      have h2 : Rp.kd t % 7 ≠ 5 := fun e => h (.inr e)
      obtain ⟨ao, c, rfl, hlc, hcm⟩ := hL.form
      rw [h1] at hlc ⊢
      rw [plW_leaf (m + 1) _ _ _ _ h2]
      exact plain_leaf (m + 1) w (Rp.kd t) (Rp.tx t) (Rp.nm t) ao 0 c _ _ (by omega) (by omega) (Nat.zero_le _) hi hs rfl (.inl rfl) (fun e => by omega)
end Go.Proofs.YtoalnfkjpdgbiaaDoor
