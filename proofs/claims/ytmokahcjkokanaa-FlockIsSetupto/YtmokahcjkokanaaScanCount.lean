/-
  Plain mathematics, with no program in sight: what one scan tells, and how many keys are left behind it.
-/
import Derived.Test.YtmokahcjkokanaaScanTold
namespace Go.Proofs.Ytmokahcjkokanaa
namespace Rv
/-- all keys, the smaller table's first -/
def allk (s : Sd) : List ByteArray := Dc.keys (tbl s (smN s)).flatten ++ (if 0 < s.young.length then Dc.keys (tbl s (1 - smN s)).flatten else [])
/-- how many stand at a place or behind it -/
def left (h : ByteArray → Nat) (s : Sd) (A q : Nat) : Nat := ((allk s).filter (fun k => decide (q ≤ rv A (h k)))).length
/-- what a scan tells -/
def toldAt (h : ByteArray → Nat) (s : Sd) (A d c : Nat) : List ByteArray :=
  (Dc.keys (tbl s (smN s)).flatten).filter (fun k => decide (rv A (h k) = rv A c)) ++ (if 0 < s.young.length then (Dc.keys (tbl s (1 - smN s)).flatten).filter (fun k => decide (rv A (h k) = rv A c ∧ rv (A + d) c ≤ rv (A + d) (h k))) else [])
theorem pass_perm {h : ByteArray → Nat} {s : Sd} {A d : Nat} (hL : Lay s A d) (h0 : Dc.Put h (tbl s (smN s))) (h1 : Dc.Put h (tbl s (1 - smN s))) (c : Nat) : (passF s A d c).Perm (toldAt h s A d c) := by
  unfold passF toldAt
  rw [tk_keys h0 hL.small]
  refine List.Perm.append_left _ ?_
  by_cases hy : 0 < s.young.length
  · rw [if_pos hy, if_pos hy]
    exact gr_perm h1 (hL.great hy) _ _ (Nat.le_add_left _ _)
  · rw [if_neg hy, if_neg hy]
theorem told_len (h : ByteArray → Nat) (s : Sd) (A d c : Nat) : (toldAt h s A d c).length ≤ ((allk s).filter (fun k => decide (rv A (h k) = rv A c))).length := by
  unfold toldAt allk
  rw [List.filter_append, List.length_append, List.length_append]
  refine Nat.add_le_add_left ?_ _
  by_cases hy : 0 < s.young.length
  · rw [if_pos hy, if_pos hy, ← List.countP_eq_length_filter, ← List.countP_eq_length_filter]
    refine List.countP_mono_left (fun k _ hk => ?_)
    have hk := of_decide_eq_true hk
    exact decide_eq_true hk.1
  · rw [if_neg hy, if_neg hy]
    exact Nat.le_refl _
theorem left_step (h : ByteArray → Nat) (s : Sd) (A q : Nat) : left h s A q = ((allk s).filter (fun k => decide (rv A (h k) = q))).length + left h s A (q + 1) := by
  unfold left
  rw [← List.length_append]
  refine (filter_two _ _ _ _ (fun k => ?_) (fun k => ?_)).length_eq
  · rw [← Bool.decide_or]
    apply decide_eq_decide.2
    omega
  · rintro ⟨a, b⟩
    have a := of_decide_eq_true a
    have b := of_decide_eq_true b
    omega
theorem pass_len {h : ByteArray → Nat} {s : Sd} {A d : Nat} (hL : Lay s A d) (h0 : Dc.Put h (tbl s (smN s))) (h1 : Dc.Put h (tbl s (1 - smN s))) (c : Nat) : (passF s A d c).length + left h s A (rv A c + 1) ≤ left h s A (rv A c) := by
  rw [left_step h s A (rv A c), (pass_perm hL h0 h1 c).length_eq]
  exact Nat.add_le_add_right (told_len h s A d c) _
theorem left_all (h : ByteArray → Nat) (s : Sd) (A q : Nat) : left h s A q ≤ (allk s).length := List.length_filter_le _ _
end Rv
end Go.Proofs.Ytmokahcjkokanaa
