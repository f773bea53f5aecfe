/-
  Plain mathematics, with no program in sight: what Next tells, over any table.
-/
import Derived.Test.YtlfpkbjiofelkaaGreatScanNext
/-
  Plain mathematics, with no program in sight: a bucket's keys among the table's, and what the great table's buckets tell together.
-/
namespace Go.Proofs.YtlfpkbjiofelkaaGreat
namespace Rv
theorem keys_app {K V : Type} (a b : List (K × V)) : Dc.keys (a ++ b) = Dc.keys a ++ Dc.keys b := by unfold Dc.keys; exact List.map_append
theorem bucket_from {K V : Type} (h : K → Nat) (n i : Nat) : ∀ (T : Dc.Tab K V) (j : Nat), (∀ (x : Nat) c, T[x]? = some c → ∀ e ∈ c, h e.1 % n = j + x) →
    (Dc.keys T.flatten).filter (fun k => decide (h k % n = i)) = if j ≤ i then Dc.keys ((T[i - j]?).getD []) else [] := by
  intro T
  induction T with
  | nil => intro j _; simp [Dc.keys]
  | cons c T ih =>
    intro j hp
    have h0 : ∀ e ∈ c, h e.1 % n = j := fun e he => by have := hp 0 c rfl e he; omega
    have ih' := ih (j + 1) (fun x d hd e he => by have := hp (x + 1) d (by simpa using hd) e he; omega)
    rw [List.flatten_cons, keys_app, List.filter_append, ih']
    rcases Nat.lt_trichotomy i j with q | q | q
    · have e1 : (Dc.keys c).filter (fun k => decide (h k % n = i)) = [] := by
        rw [List.filter_eq_nil_iff]
        intro k hk
        obtain ⟨e, he, rfl⟩ := List.mem_map.1 hk
        have := h0 e he
        simp; omega
      rw [e1, if_neg (by omega), if_neg (by omega)]
      rfl
    · subst q
      have e1 : (Dc.keys c).filter (fun k => decide (h k % n = i)) = Dc.keys c := by
        rw [List.filter_eq_self]
        intro k hk
        obtain ⟨e, he, rfl⟩ := List.mem_map.1 hk
        simp [h0 e he]
      rw [e1, if_neg (by omega), if_pos (Nat.le_refl _), Nat.sub_self, List.append_nil]
      rfl
    · have e1 : (Dc.keys c).filter (fun k => decide (h k % n = i)) = [] := by
        rw [List.filter_eq_nil_iff]
        intro k hk
        obtain ⟨e, he, rfl⟩ := List.mem_map.1 hk
        have := h0 e he
        simp; omega
      have e2 : i - j = (i - (j + 1)) + 1 := by omega
      rw [e1, if_pos (by omega), if_pos (by omega), e2, List.getElem?_cons_succ, List.nil_append]
/-- a bucket's keys are those of the table whose hash stands there -/
theorem bucket_keys {K V : Type} {h : K → Nat} {T : Dc.Tab K V} (hp : Dc.Put h T) (i : Nat) : Dc.keys ((T[i]?).getD []) = (Dc.keys T.flatten).filter (fun k => decide (h k % T.length = i)) := by
  have := bucket_from h T.length i T 0 (fun x c hc e he => by rw [Nat.zero_add]; exact hp x c hc e he)
  rw [if_pos (Nat.zero_le _), Nat.sub_zero] at this
  exact this.symm
theorem rv_mod_iff (L a b : Nat) : a % 2 ^ L = b % 2 ^ L ↔ rv L a = rv L b := by
  constructor
  · intro e; rw [← rv_mod L a, e, rv_mod]
  · intro e; rw [← rv_rv L a, e, rv_rv]
/-- a row falls into two, as what is asked of its members does -/
theorem filter_two {α : Type} (l : List α) (p q r : α → Bool) (h : ∀ x, p x = (q x || r x)) (hx : ∀ x, ¬ (q x = true ∧ r x = true)) : (l.filter p).Perm (l.filter q ++ l.filter r) := by
  induction l with
  | nil => simp
  | cons a l ih =>
    have e := h a
    have n := hx a
    cases hq : q a <;> cases hr : r a
    · rw [hq, hr] at e; simp [e, hq, hr, ih]
    · rw [hq, hr] at e; simp only [List.filter_cons, e, hq, hr, Bool.false_or, if_true]; exact (ih.cons a).trans List.perm_middle.symm
    · rw [hq, hr] at e; simp only [List.filter_cons, e, hq, hr, Bool.or_false, if_true]; exact ih.cons a
    · exact absurd ⟨hq, hr⟩ n
theorem tk_keys {h : ByteArray → Nat} {s : Sd} {t L : Nat} (hp : Dc.Put h (tbl s t)) (hl : (tbl s t).length = 2 ^ L) (c : Nat) : tk s t c = (Dc.keys (tbl s t).flatten).filter (fun k => decide (rv L (h k) = rv L c)) := by
  have e := bucket_keys hp (c % (tbl s t).length)
  show Dc.keys _ = _
  rw [e]
  apply List.filter_congr
  intro k _
  rw [hl]
  exact decide_eq_decide.2 (rv_mod_iff L (h k) c)
theorem rv_quot {A d a b : Nat} (h : rv (A + d) a = rv (A + d) b) : rv A a = rv A b := by rw [← (rv_low A d a).1, h, (rv_low A d b).1]
theorem rv_above {A d x k : Nat} (h0 : (rv (A + d) x + 1) % 2 ^ d = 0) (h1 : rv (A + d) x + 1 ≤ rv (A + d) k) : rv A k ≠ rv A x := by
  have e1 := (rv_low A d x).1
  have e2 := (rv_low A d k).1
  have e3 := Nat.div_le_div_right (c := 2 ^ d) h1
  rw [Nat.succ_div, if_pos (Nat.dvd_of_mod_eq_zero h0), e1, e2] at e3
  intro e
  rw [e] at e3
  exact Nat.not_succ_le_self _ e3
/-- what the great table's buckets tell from a cursor on -/
theorem gr_perm {h : ByteArray → Nat} {s : Sd} {A d : Nat} (hp : Dc.Put h (tbl s (1 - smN s))) (hl : (tbl s (1 - smN s)).length = 2 ^ (A + d)) : ∀ (f x : Nat), 2 ^ (A + d) ≤ rv (A + d) x + f →
    (grF s A d f x).Perm ((Dc.keys (tbl s (1 - smN s)).flatten).filter (fun k => decide (rv A (h k) = rv A x ∧ rv (A + d) x ≤ rv (A + d) (h k)))) := by
  intro f
  induction f with
  | zero => intro x hx; exact absurd hx (Nat.not_le_of_lt (rv_lt (A + d) x))
  | succ f ih =>
    intro x hx
    have two := filter_two (Dc.keys (tbl s (1 - smN s)).flatten) (fun k => decide (rv A (h k) = rv A x ∧ rv (A + d) x ≤ rv (A + d) (h k))) (fun k => decide (rv (A + d) (h k) = rv (A + d) x)) (fun k => decide (rv A (h k) = rv A x ∧ rv (A + d) x + 1 ≤ rv (A + d) (h k)))
      (fun k => by
        rw [← Bool.decide_or]
        apply decide_eq_decide.2
        constructor
        · rintro ⟨a, b⟩
          rcases Nat.eq_or_lt_of_le b with e | e
          · exact .inl e.symm
          · exact .inr ⟨a, e⟩
        · rintro (e | ⟨a, b⟩)
          · exact ⟨rv_quot e, Nat.le_of_eq e.symm⟩
          · exact ⟨a, Nat.le_of_succ_le b⟩)
      (fun k => by
        rintro ⟨a, b⟩
        have a := of_decide_eq_true a
        have b := (of_decide_eq_true b).2
        rw [a] at b
        exact Nat.not_succ_le_self _ b)
    refine List.Perm.trans ?_ two.symm
    simp only [grF]
    rw [tk_keys hp hl]
    refine List.Perm.append_left _ ?_
    by_cases q : next (A + d) x < 2 ^ A
    · rw [if_pos q]
      have h0 := (nx_iff A d x).1 q
      rw [List.filter_eq_nil_iff.2 (fun k _ hk => by
        have hk := of_decide_eq_true hk
        exact rv_above h0 hk.2 hk.1)]
    · rw [if_neg q]
      obtain ⟨q1, q2, _⟩ := nx_go q
      have := ih (next (A + d) x) (by rw [q2, Nat.add_right_comm]; exact hx)
      rw [q1, q2] at this
      exact this
end Rv
end Go.Proofs.YtlfpkbjiofelkaaGreat

/-
  Plain mathematics, with no program in sight: what one scan tells, and how many keys are left behind it.
-/
namespace Go.Proofs.YtlfpkbjiofelkaaGreat
namespace Rv
/-- all keys, the smaller table's first -/
def allk (s : Sd) : List ByteArray := Dc.keys (tbl s (smN s)).flatten ++ (if 0 < s.young.length then Dc.keys (tbl s (1 - smN s)).flatten else [])
/-- how many stand at a place or behind it -/
def left (h : ByteArray → Nat) (s : Sd) (A q : Nat) : Nat := ((allk s).filter (fun k => decide (q ≤ rv A (h k)))).length
/-- what a scan tells -/
def toldAt (h : ByteArray → Nat) (s : Sd) (A d c : Nat) : List ByteArray :=
  (Dc.keys (tbl s (smN s)).flatten).filter (fun k => decide (rv A (h k) = rv A c)) ++ (if 0 < s.young.length then (Dc.keys (tbl s (1 - smN s)).flatten).filter (fun k => decide (rv A (h k) = rv A c ∧ rv (A + d) c ≤ rv (A + d) (h k))) else [])
theorem pass_perm {h : ByteArray → Nat} {s : Sd} {A d : Nat} (hL : Lay s A d) (h0 : Dc.Put h (tbl s (smN s))) (h1 : Dc.Put h (tbl s (1 - smN s))) (c : Nat) : (passF s A d c).Perm (toldAt h s A d c) := by
  unfold passF toldAt
  rw [tk_keys h0 hL.small]
  refine List.Perm.append_left _ ?_
  by_cases hy : 0 < s.young.length
  · rw [if_pos hy, if_pos hy]
    exact gr_perm h1 (hL.great hy) _ _ (Nat.le_add_left _ _)
  · rw [if_neg hy, if_neg hy]
theorem told_len (h : ByteArray → Nat) (s : Sd) (A d c : Nat) : (toldAt h s A d c).length ≤ ((allk s).filter (fun k => decide (rv A (h k) = rv A c))).length := by
  unfold toldAt allk
  rw [List.filter_append, List.length_append, List.length_append]
  refine Nat.add_le_add_left ?_ _
  by_cases hy : 0 < s.young.length
  · rw [if_pos hy, if_pos hy, ← List.countP_eq_length_filter, ← List.countP_eq_length_filter]
    refine List.countP_mono_left (fun k _ hk => ?_)
    have hk := of_decide_eq_true hk
    exact decide_eq_true hk.1
  · rw [if_neg hy, if_neg hy]
    exact Nat.le_refl _
theorem left_step (h : ByteArray → Nat) (s : Sd) (A q : Nat) : left h s A q = ((allk s).filter (fun k => decide (rv A (h k) = q))).length + left h s A (q + 1) := by
  unfold left
  rw [← List.length_append]
  refine (filter_two _ _ _ _ (fun k => ?_) (fun k => ?_)).length_eq
  · rw [← Bool.decide_or]
    apply decide_eq_decide.2
    omega
  · rintro ⟨a, b⟩
    have a := of_decide_eq_true a
    have b := of_decide_eq_true b
    omega
theorem pass_len {h : ByteArray → Nat} {s : Sd} {A d : Nat} (hL : Lay s A d) (h0 : Dc.Put h (tbl s (smN s))) (h1 : Dc.Put h (tbl s (1 - smN s))) (c : Nat) : (passF s A d c).length + left h s A (rv A c + 1) ≤ left h s A (rv A c) := by
  rw [left_step h s A (rv A c), (pass_perm hL h0 h1 c).length_eq]
  exact Nat.add_le_add_right (told_len h s A d c) _
theorem left_all (h : ByteArray → Nat) (s : Sd) (A q : Nat) : left h s A q ≤ (allk s).length := List.length_filter_le _ _
end Rv
end Go.Proofs.YtlfpkbjiofelkaaGreat

namespace Go.Proofs.YtlfpkbjiofelkaaGreat
namespace Rv
/-- Next's scans -/
def scanF (s : Sd) (A d m : Nat) : Nat → Nat → List ByteArray → Nat × List ByteArray
  | 0, c, l => (c, l)
  | f + 1, c, l => if next A c = 0 ∨ m ≤ (l ++ passF s A d c).length then (next A c, l ++ passF s A d c) else scanF s A d m f (next A c) (l ++ passF s A d c)
/-- the place to which it has told -/
def endQ (A c : Nat) : Nat := if c = 0 then 2 ^ A else rv A c
theorem put_tbl {h : ByteArray → Nat} {s : Sd} (hI : Dc.Inv h s) (t : Nat) : Dc.Put h (tbl s t) := by
  unfold tbl
  split
  · exact hI.put0
  · exact hI.put1
theorem allk_perm {h : ByteArray → Nat} {s : Sd} (hI : Dc.Inv h s) : (allk s).Perm (Dc.keys (Dc.all s)) := by
  rw [Dc.all_eq hI, keys_app]
  unfold allk
  by_cases hy : 0 < s.young.length
  · rw [if_pos hy]
    by_cases q : s.young.length < s.old.length
    · have hz : smN s = 1 := by unfold smN; rw [if_pos ⟨hy, q⟩]
      rw [hz]
      exact List.perm_append_comm
    · have hz : smN s = 0 := by unfold smN; rw [if_neg (fun e => q e.2)]
      rw [hz]
      exact List.Perm.refl _
  · have e : s.young = [] := List.eq_nil_of_length_eq_zero (by omega)
    have hz : smN s = 0 := by unfold smN; rw [if_neg (fun e => hy e.1)]
    rw [if_neg hy, hz, e]
    exact List.Perm.refl _
theorem lay_of {h : ByteArray → Nat} {s : Sd} (hI : Dc.Inv h s) (h0 : s.old.length ≠ 0) (hA : s.old.length ≤ 4398046511104) (hB : s.young.length ≤ 4398046511104) : ∃ A d, Lay s A d ∧ (0 < s.young.length → 2 ^ (A + d) = max s.old.length s.young.length) ∧ (s.young.length = 0 → d = 0) := by
  obtain ⟨_, a, ha⟩ := Dc.good_pos hI.size0 h0
  have few : ∀ x, 2 ^ x ≤ 4398046511104 → x ≤ 42 := fun x hx => by
    rcases Nat.lt_or_ge 42 x with q | q
    · have := Nat.pow_le_pow_right (n := 2) (by omega) q
      have e : 2 ^ (42 + 1) = 8796093022208 := by decide
      have e2 : Nat.succ 42 = 42 + 1 := rfl
      rw [e2, e] at this
      omega
    · exact q
  by_cases hy : 0 < s.young.length
  · obtain ⟨_, b, hb⟩ := Dc.good_pos hI.size1 (Nat.ne_of_gt hy)
    have fa := few a (by rw [← ha]; exact hA)
    have fb := few b (by rw [← hb]; exact hB)
    by_cases q : s.young.length < s.old.length
    · have hz : smN s = 1 := by unfold smN; rw [if_pos ⟨hy, q⟩]
      have hle : b ≤ a := by
        rw [ha, hb] at q
        exact Nat.le_of_lt ((Nat.pow_lt_pow_iff_right (by omega)).1 q)
      refine ⟨b, a - b, ⟨?_, fun _ => ?_, ?_⟩, fun _ => ?_, fun e => ?_⟩
      · rw [hz]; exact hb
      · rw [hz, Nat.add_sub_cancel' hle]; exact ha
      · rw [Nat.add_sub_cancel' hle]; exact fa
      · rw [Nat.add_sub_cancel' hle, ← ha]; omega
      · omega
    · have hz : smN s = 0 := by unfold smN; rw [if_neg (fun e => q e.2)]
      have hle : a ≤ b := by
        rw [ha, hb] at q
        exact (Nat.pow_le_pow_iff_right (by omega)).1 (Nat.le_of_not_lt q)
      refine ⟨a, b - a, ⟨?_, fun _ => ?_, ?_⟩, fun _ => ?_, fun e => ?_⟩
      · rw [hz]; exact ha
      · rw [hz, Nat.add_sub_cancel' hle]; exact hb
      · rw [Nat.add_sub_cancel' hle]; exact fb
      · rw [Nat.add_sub_cancel' hle, ← hb]; omega
      · omega
  · have hz : smN s = 0 := by unfold smN; rw [if_neg (fun e => hy e.1)]
    refine ⟨a, 0, ⟨?_, fun e => absurd e hy, ?_⟩, fun e => absurd e hy, fun _ => rfl⟩
    · rw [hz]; exact ha
    · exact few a (by rw [← ha]; exact hA)
theorem next_zero_iff {A c : Nat} : next A c = 0 ↔ rv A c + 1 = 2 ^ A := by
  have hlt := rv_lt A c
  rw [next_is]
  constructor
  · intro e
    by_cases q : rv A c + 1 = 2 ^ A
    · exact q
    · rw [if_neg q] at e
      have e2 := congrArg (rv A) e
      rw [rv_rv, rv_zero, Nat.mod_eq_of_lt (by omega)] at e2
      omega
  · intro e; rw [if_pos e]
theorem next_up {A c : Nat} (h : ¬ next A c = 0) : rv A (next A c) = rv A c + 1 := by
  have hlt := rv_lt A c
  have hne : ¬ rv A c + 1 = 2 ^ A := fun e => h (next_zero_iff.2 e)
  rw [rv_next, Nat.mod_eq_of_lt (by omega)]
theorem rv_wide {A d c : Nat} (h : c < 2 ^ A) : rv (A + d) c = rv A c * 2 ^ d := by
  have h1 := rv_low A d c
  have h2 : rv (A + d) c % 2 ^ d = 0 := by rw [h1.2, Nat.div_eq_of_lt h, rv_zero]
  rw [← h1.1, Nat.div_mul_cancel (Nat.dvd_of_mod_eq_zero h2)]
/-- a scan from a cursor that counts in the smaller table alone -/
theorem told_low (h : ByteArray → Nat) (s : Sd) {A d c : Nat} (hc : c < 2 ^ A) : toldAt h s A d c = (allk s).filter (fun k => decide (rv A (h k) = rv A c)) := by
  unfold toldAt allk
  rw [List.filter_append]
  congr 1
  by_cases hy : 0 < s.young.length
  · rw [if_pos hy, if_pos hy]
    apply List.filter_congr
    intro k _
    apply decide_eq_decide.2
    constructor
    · exact fun e => e.1
    · intro e
      refine ⟨e, ?_⟩
      rw [rv_wide hc, ← e, ← (rv_low A d (h k)).1]
      exact Nat.div_mul_le_self _ _
  · rw [if_neg hy, if_neg hy]
    rfl
theorem filter_none {l : List ByteArray} {p : ByteArray → Prop} [DecidablePred p] (h : ∀ k, ¬ p k) : l.filter (fun k => decide (p k)) = [] := by
  rw [List.filter_eq_nil_iff]
  intro k _ e
  exact h k (of_decide_eq_true e)
theorem scan_tells {h : ByteArray → Nat} {s : Sd} {A d : Nat} (m : Nat) (hL : Lay s A d) (h0 : Dc.Put h (tbl s (smN s))) (h1 : Dc.Put h (tbl s (1 - smN s))) : ∀ (f c : Nat) (l : List ByteArray), 2 ^ A ≤ rv A c + f →
    rv A c < endQ A (scanF s A d m f c l).1 ∧ (scanF s A d m f c l).1 < 2 ^ A ∧ ((scanF s A d m f c l).1 = 0 ∨ m ≤ (scanF s A d m f c l).2.length) ∧
      (scanF s A d m f c l).2.Perm (l ++ (toldAt h s A d c ++ (allk s).filter (fun k => decide (rv A c < rv A (h k) ∧ rv A (h k) < endQ A (scanF s A d m f c l).1)))) := by
  intro f
  induction f with
  | zero => intro c l hf; exact absurd hf (Nat.not_le_of_lt (rv_lt A c))
  | succ f ih =>
    intro c l hf
    have hlt := rv_lt A c
    have hp := pass_perm hL h0 h1 c
    unfold scanF
    by_cases q : next A c = 0 ∨ m ≤ (l ++ passF s A d c).length
    · rw [if_pos q]
      have he : endQ A (next A c) = rv A c + 1 := by
        unfold endQ
        by_cases z : next A c = 0
        · rw [if_pos z]; exact (next_zero_iff.1 z).symm
        · rw [if_neg z]; exact next_up z
      refine ⟨?_, next_lt A c, q, ?_⟩
      · show rv A c < endQ A (next A c)
        rw [he]; exact Nat.lt_succ_self _
      · show (l ++ passF s A d c).Perm (l ++ (toldAt h s A d c ++ (allk s).filter (fun k => decide (rv A c < rv A (h k) ∧ rv A (h k) < endQ A (next A c)))))
        rw [he, filter_none (fun k => by omega), List.append_nil]
        exact hp.append_left l
    · rw [if_neg q]
      have z : ¬ next A c = 0 := fun e => q (.inl e)
      have hu := next_up z
      obtain ⟨i1, i2, i3, i4⟩ := ih (next A c) (l ++ passF s A d c) (by rw [hu, Nat.add_assoc, Nat.add_comm 1 f]; exact hf)
      rw [hu] at i1 i4
      generalize scanF s A d m f (next A c) (l ++ passF s A d c) = r at *
      refine ⟨Nat.lt_of_succ_lt i1, i2, i3, ?_⟩
      rw [told_low h s (next_lt A c), hu] at i4
      refine i4.trans ?_
      rw [List.append_assoc]
      refine List.Perm.append_left l (List.Perm.append hp ?_)
      refine (filter_two _ _ _ _ (fun k => ?_) (fun k => ?_)).symm
      · rw [← Bool.decide_or]
        apply decide_eq_decide.2
        omega
      · rintro ⟨a, b⟩
        have a := of_decide_eq_true a
        have b := of_decide_eq_true b
        omega
end Rv
end Go.Proofs.YtlfpkbjiofelkaaGreat
