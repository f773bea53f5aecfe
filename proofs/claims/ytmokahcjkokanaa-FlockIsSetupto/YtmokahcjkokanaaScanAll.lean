/-
  Plain mathematics, with no program in sight: what Next tells, over any table.
-/
import Derived.Test.YtmokahcjkokanaaScanCount
namespace Go.Proofs.Ytmokahcjkokanaa
namespace Rv
/-- Next's scans -/
def scanF (s : Sd) (A d m : Nat) : Nat → Nat → List ByteArray → Nat × List ByteArray
  | 0, c, l => (c, l)
  | f + 1, c, l => if next A c = 0 ∨ m ≤ (l ++ passF s A d c).length then (next A c, l ++ passF s A d c) else scanF s A d m f (next A c) (l ++ passF s A d c)
/-- the place to which it has told -/
def endQ (A c : Nat) : Nat := if c = 0 then 2 ^ A else rv A c
theorem put_tbl {h : ByteArray → Nat} {s : Sd} (hI : Dc.Inv h s) (t : Nat) : Dc.Put h (tbl s t) := by
  unfold tbl
  split
  · exact hI.put0
  · exact hI.put1
theorem allk_perm {h : ByteArray → Nat} {s : Sd} (hI : Dc.Inv h s) : (allk s).Perm (Dc.keys (Dc.all s)) := by
  rw [Dc.all_eq hI, keys_app]
  unfold allk
  by_cases hy : 0 < s.young.length
  · rw [if_pos hy]
    by_cases q : s.young.length < s.old.length
    · have hz : smN s = 1 := by unfold smN; rw [if_pos ⟨hy, q⟩]
      rw [hz]
      exact List.perm_append_comm
    · have hz : smN s = 0 := by unfold smN; rw [if_neg (fun e => q e.2)]
      rw [hz]
      exact List.Perm.refl _
  · have e : s.young = [] := List.eq_nil_of_length_eq_zero (by omega)
    have hz : smN s = 0 := by unfold smN; rw [if_neg (fun e => hy e.1)]
    rw [if_neg hy, hz, e]
    exact List.Perm.refl _
theorem lay_of {h : ByteArray → Nat} {s : Sd} (hI : Dc.Inv h s) (h0 : s.old.length ≠ 0) (hA : s.old.length ≤ 4398046511104) (hB : s.young.length ≤ 4398046511104) : ∃ A d, Lay s A d ∧ (0 < s.young.length → 2 ^ (A + d) = max s.old.length s.young.length) ∧ (s.young.length = 0 → d = 0) := by
  obtain ⟨_, a, ha⟩ := Dc.good_pos hI.size0 h0
  have few : ∀ x, 2 ^ x ≤ 4398046511104 → x ≤ 42 := fun x hx => by
    rcases Nat.lt_or_ge 42 x with q | q
    · have := Nat.pow_le_pow_right (n := 2) (by omega) q
      have e : 2 ^ (42 + 1) = 8796093022208 := by decide
      have e2 : Nat.succ 42 = 42 + 1 := rfl
      rw [e2, e] at this
      omega
    · exact q
  by_cases hy : 0 < s.young.length
  · obtain ⟨_, b, hb⟩ := Dc.good_pos hI.size1 (Nat.ne_of_gt hy)
    have fa := few a (by rw [← ha]; exact hA)
    have fb := few b (by rw [← hb]; exact hB)
    by_cases q : s.young.length < s.old.length
    · have hz : smN s = 1 := by unfold smN; rw [if_pos ⟨hy, q⟩]
      have hle : b ≤ a := by
        rw [ha, hb] at q
        exact Nat.le_of_lt ((Nat.pow_lt_pow_iff_right (by omega)).1 q)
      refine ⟨b, a - b, ⟨?_, fun _ => ?_, ?_⟩, fun _ => ?_, fun e => ?_⟩
      · rw [hz]; exact hb
      · rw [hz, Nat.add_sub_cancel' hle]; exact ha
      · rw [Nat.add_sub_cancel' hle]; exact fa
      · rw [Nat.add_sub_cancel' hle, ← ha]; omega
      · omega
    · have hz : smN s = 0 := by unfold smN; rw [if_neg (fun e => q e.2)]
      have hle : a ≤ b := by
        rw [ha, hb] at q
        exact (Nat.pow_le_pow_iff_right (by omega)).1 (Nat.le_of_not_lt q)
      refine ⟨a, b - a, ⟨?_, fun _ => ?_, ?_⟩, fun _ => ?_, fun e => ?_⟩
      · rw [hz]; exact ha
      · rw [hz, Nat.add_sub_cancel' hle]; exact hb
      · rw [Nat.add_sub_cancel' hle]; exact fb
      · rw [Nat.add_sub_cancel' hle, ← hb]; omega
      · omega
  · have hz : smN s = 0 := by unfold smN; rw [if_neg (fun e => hy e.1)]
    refine ⟨a, 0, ⟨?_, fun e => absurd e hy, ?_⟩, fun e => absurd e hy, fun _ => rfl⟩
    · rw [hz]; exact ha
    · exact few a (by rw [← ha]; exact hA)
theorem next_zero_iff {A c : Nat} : next A c = 0 ↔ rv A c + 1 = 2 ^ A := by
  have hlt := rv_lt A c
  rw [next_is]
  constructor
  · intro e
    by_cases q : rv A c + 1 = 2 ^ A
    · exact q
    · rw [if_neg q] at e
      have e2 := congrArg (rv A) e
      rw [rv_rv, rv_zero, Nat.mod_eq_of_lt (by omega)] at e2
      omega
  · intro e; rw [if_pos e]
theorem next_up {A c : Nat} (h : ¬ next A c = 0) : rv A (next A c) = rv A c + 1 := by
  have hlt := rv_lt A c
  have hne : ¬ rv A c + 1 = 2 ^ A := fun e => h (next_zero_iff.2 e)
  rw [rv_next, Nat.mod_eq_of_lt (by omega)]
theorem rv_wide {A d c : Nat} (h : c < 2 ^ A) : rv (A + d) c = rv A c * 2 ^ d := by
  have h1 := rv_low A d c
  have h2 : rv (A + d) c % 2 ^ d = 0 := by rw [h1.2, Nat.div_eq_of_lt h, rv_zero]
  rw [← h1.1, Nat.div_mul_cancel (Nat.dvd_of_mod_eq_zero h2)]
/-- a scan from a cursor that counts in the smaller table alone -/
theorem told_low (h : ByteArray → Nat) (s : Sd) {A d c : Nat} (hc : c < 2 ^ A) : toldAt h s A d c = (allk s).filter (fun k => decide (rv A (h k) = rv A c)) := by
  unfold toldAt allk
  rw [List.filter_append]
  congr 1
  by_cases hy : 0 < s.young.length
  · rw [if_pos hy, if_pos hy]
    apply List.filter_congr
    intro k _
    apply decide_eq_decide.2
    constructor
    · exact fun e => e.1
    · intro e
      refine ⟨e, ?_⟩
      rw [rv_wide hc, ← e, ← (rv_low A d (h k)).1]
      exact Nat.div_mul_le_self _ _
  · rw [if_neg hy, if_neg hy]
    rfl
theorem filter_none {l : List ByteArray} {p : ByteArray → Prop} [DecidablePred p] (h : ∀ k, ¬ p k) : l.filter (fun k => decide (p k)) = [] := by
  rw [List.filter_eq_nil_iff]
  intro k _ e
  exact h k (of_decide_eq_true e)
theorem scan_tells {h : ByteArray → Nat} {s : Sd} {A d : Nat} (m : Nat) (hL : Lay s A d) (h0 : Dc.Put h (tbl s (smN s))) (h1 : Dc.Put h (tbl s (1 - smN s))) : ∀ (f c : Nat) (l : List ByteArray), 2 ^ A ≤ rv A c + f →
    rv A c < endQ A (scanF s A d m f c l).1 ∧ (scanF s A d m f c l).1 < 2 ^ A ∧ ((scanF s A d m f c l).1 = 0 ∨ m ≤ (scanF s A d m f c l).2.length) ∧
      (scanF s A d m f c l).2.Perm (l ++ (toldAt h s A d c ++ (allk s).filter (fun k => decide (rv A c < rv A (h k) ∧ rv A (h k) < endQ A (scanF s A d m f c l).1)))) := by
  intro f
  induction f with
  | zero => intro c l hf; exact absurd hf (Nat.not_le_of_lt (rv_lt A c))
  | succ f ih =>
    intro c l hf
    have hlt := rv_lt A c
    have hp := pass_perm hL h0 h1 c
    unfold scanF
    by_cases q : next A c = 0 ∨ m ≤ (l ++ passF s A d c).length
    · rw [if_pos q]
      have he : endQ A (next A c) = rv A c + 1 := by
        unfold endQ
        by_cases z : next A c = 0
        · rw [if_pos z]; exact (next_zero_iff.1 z).symm
        · rw [if_neg z]; exact next_up z
      refine ⟨?_, next_lt A c, q, ?_⟩
      · show rv A c < endQ A (next A c)
        rw [he]; exact Nat.lt_succ_self _
      · show (l ++ passF s A d c).Perm (l ++ (toldAt h s A d c ++ (allk s).filter (fun k => decide (rv A c < rv A (h k) ∧ rv A (h k) < endQ A (next A c)))))
        rw [he, filter_none (fun k => by omega), List.append_nil]
        exact hp.append_left l
    · rw [if_neg q]
      have z : ¬ next A c = 0 := fun e => q (.inl e)
      have hu := next_up z
      obtain ⟨i1, i2, i3, i4⟩ := ih (next A c) (l ++ passF s A d c) (by rw [hu, Nat.add_assoc, Nat.add_comm 1 f]; exact hf)
      rw [hu] at i1 i4
      generalize scanF s A d m f (next A c) (l ++ passF s A d c) = r at *
      refine ⟨Nat.lt_of_succ_lt i1, i2, i3, ?_⟩
      rw [told_low h s (next_lt A c), hu] at i4
      refine i4.trans ?_
      rw [List.append_assoc]
      refine List.Perm.append_left l (List.Perm.append hp ?_)
      refine (filter_two _ _ _ _ (fun k => ?_) (fun k => ?_)).symm
      · rw [← Bool.decide_or]
        apply decide_eq_decide.2
        omega
      · rintro ⟨a, b⟩
        have a := of_decide_eq_true a
        have b := of_decide_eq_true b
        omega
end Rv
end Go.Proofs.Ytmokahcjkokanaa
