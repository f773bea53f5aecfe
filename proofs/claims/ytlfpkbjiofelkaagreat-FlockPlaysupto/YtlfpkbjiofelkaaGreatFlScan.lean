/-
  Contracts over this program: Scan of a flock.
-/
import Derived.Test.YtlfpkbjiofelkaaGreatScanNext
import Derived.Test.YtlfpkbjiofelkaaGreatFlSample
import Derived.Maps.AppendAt
/-
  Plain mathematics, with no program in sight: what Next tells, over any table.
-/
/-
  Plain mathematics, with no program in sight: a bucket's keys among the table's, and what the great table's buckets tell together.
-/
namespace Go.Proofs.YtlfpkbjiofelkaaGreat
namespace Rv
theorem keys_app {K V : Type} (a b : List (K × V)) : Dc.keys (a ++ b) = Dc.keys a ++ Dc.keys b := by unfold Dc.keys; exact List.map_append
theorem bucket_from {K V : Type} (h : K → Nat) (n i : Nat) : ∀ (T : Dc.Tab K V) (j : Nat), (∀ (x : Nat) c, T[x]? = some c → ∀ e ∈ c, h e.1 % n = j + x) →
    (Dc.keys T.flatten).filter (fun k => decide (h k % n = i)) = if j ≤ i then Dc.keys ((T[i - j]?).getD []) else [] := by
  intro T
  induction T with
  | nil => intro j _; simp [Dc.keys]
  | cons c T ih =>
    intro j hp
    have h0 : ∀ e ∈ c, h e.1 % n = j := fun e he => by have := hp 0 c rfl e he; omega
    have ih' := ih (j + 1) (fun x d hd e he => by have := hp (x + 1) d (by simpa using hd) e he; omega)
    rw [List.flatten_cons, keys_app, List.filter_append, ih']
    rcases Nat.lt_trichotomy i j with q | q | q
    · have e1 : (Dc.keys c).filter (fun k => decide (h k % n = i)) = [] := by
        rw [List.filter_eq_nil_iff]
        intro k hk
        obtain ⟨e, he, rfl⟩ := List.mem_map.1 hk
        have := h0 e he
        simp; omega
      rw [e1, if_neg (by omega), if_neg (by omega)]
      rfl
    · subst q
      have e1 : (Dc.keys c).filter (fun k => decide (h k % n = i)) = Dc.keys c := by
        rw [List.filter_eq_self]
        intro k hk
        obtain ⟨e, he, rfl⟩ := List.mem_map.1 hk
        simp [h0 e he]
      rw [e1, if_neg (by omega), if_pos (Nat.le_refl _), Nat.sub_self, List.append_nil]
      rfl
    · have e1 : (Dc.keys c).filter (fun k => decide (h k % n = i)) = [] := by
        rw [List.filter_eq_nil_iff]
        intro k hk
        obtain ⟨e, he, rfl⟩ := List.mem_map.1 hk
        have := h0 e he
        simp; omega
      have e2 : i - j = (i - (j + 1)) + 1 := by omega
      rw [e1, if_pos (by omega), if_pos (by omega), e2, List.getElem?_cons_succ, List.nil_append]
/-- a bucket's keys are those of the table whose hash stands there -/
theorem bucket_keys {K V : Type} {h : K → Nat} {T : Dc.Tab K V} (hp : Dc.Put h T) (i : Nat) : Dc.keys ((T[i]?).getD []) = (Dc.keys T.flatten).filter (fun k => decide (h k % T.length = i)) := by
  have := bucket_from h T.length i T 0 (fun x c hc e he => by rw [Nat.zero_add]; exact hp x c hc e he)
  rw [if_pos (Nat.zero_le _), Nat.sub_zero] at this
  exact this.symm
theorem rv_mod_iff (L a b : Nat) : a % 2 ^ L = b % 2 ^ L ↔ rv L a = rv L b := by
  constructor
  · intro e; rw [← rv_mod L a, e, rv_mod]
  · intro e; rw [← rv_rv L a, e, rv_rv]
/-- a row falls into two, as what is asked of its members does -/
theorem filter_two {α : Type} (l : List α) (p q r : α → Bool) (h : ∀ x, p x = (q x || r x)) (hx : ∀ x, ¬ (q x = true ∧ r x = true)) : (l.filter p).Perm (l.filter q ++ l.filter r) := by
  induction l with
  | nil => simp
  | cons a l ih =>
    have e := h a
    have n := hx a
    cases hq : q a <;> cases hr : r a
    · rw [hq, hr] at e; simp [e, hq, hr, ih]
    · rw [hq, hr] at e; simp only [List.filter_cons, e, hq, hr, Bool.false_or, if_true]; exact (ih.cons a).trans List.perm_middle.symm
    · rw [hq, hr] at e; simp only [List.filter_cons, e, hq, hr, Bool.or_false, if_true]; exact ih.cons a
    · exact absurd ⟨hq, hr⟩ n
theorem tk_keys {h : ByteArray → Nat} {s : Sd} {t L : Nat} (hp : Dc.Put h (tbl s t)) (hl : (tbl s t).length = 2 ^ L) (c : Nat) : tk s t c = (Dc.keys (tbl s t).flatten).filter (fun k => decide (rv L (h k) = rv L c)) := by
  have e := bucket_keys hp (c % (tbl s t).length)
  show Dc.keys _ = _
  rw [e]
  apply List.filter_congr
  intro k _
  rw [hl]
  exact decide_eq_decide.2 (rv_mod_iff L (h k) c)
theorem rv_quot {A d a b : Nat} (h : rv (A + d) a = rv (A + d) b) : rv A a = rv A b := by rw [← (rv_low A d a).1, h, (rv_low A d b).1]
theorem rv_above {A d x k : Nat} (h0 : (rv (A + d) x + 1) % 2 ^ d = 0) (h1 : rv (A + d) x + 1 ≤ rv (A + d) k) : rv A k ≠ rv A x := by
  have e1 := (rv_low A d x).1
  have e2 := (rv_low A d k).1
  have e3 := Nat.div_le_div_right (c := 2 ^ d) h1
  rw [Nat.succ_div, if_pos (Nat.dvd_of_mod_eq_zero h0), e1, e2] at e3
  intro e
  rw [e] at e3
  exact Nat.not_succ_le_self _ e3
/-- what the great table's buckets tell from a cursor on -/
theorem gr_perm {h : ByteArray → Nat} {s : Sd} {A d : Nat} (hp : Dc.Put h (tbl s (1 - smN s))) (hl : (tbl s (1 - smN s)).length = 2 ^ (A + d)) : ∀ (f x : Nat), 2 ^ (A + d) ≤ rv (A + d) x + f →
    (grF s A d f x).Perm ((Dc.keys (tbl s (1 - smN s)).flatten).filter (fun k => decide (rv A (h k) = rv A x ∧ rv (A + d) x ≤ rv (A + d) (h k)))) := by
  intro f
  induction f with
  | zero => intro x hx; exact absurd hx (Nat.not_le_of_lt (rv_lt (A + d) x))
  | succ f ih =>
    intro x hx
    have two := filter_two (Dc.keys (tbl s (1 - smN s)).flatten) (fun k => decide (rv A (h k) = rv A x ∧ rv (A + d) x ≤ rv (A + d) (h k))) (fun k => decide (rv (A + d) (h k) = rv (A + d) x)) (fun k => decide (rv A (h k) = rv A x ∧ rv (A + d) x + 1 ≤ rv (A + d) (h k)))
      (fun k => by
        rw [← Bool.decide_or]
        apply decide_eq_decide.2
        constructor
        · rintro ⟨a, b⟩
          rcases Nat.eq_or_lt_of_le b with e | e
          · exact .inl e.symm
          · exact .inr ⟨a, e⟩
        · rintro (e | ⟨a, b⟩)
          · exact ⟨rv_quot e, Nat.le_of_eq e.symm⟩
          · exact ⟨a, Nat.le_of_succ_le b⟩)
      (fun k => by
        rintro ⟨a, b⟩
        have a := of_decide_eq_true a
        have b := (of_decide_eq_true b).2
        rw [a] at b
        exact Nat.not_succ_le_self _ b)
    refine List.Perm.trans ?_ two.symm
    simp only [grF]
    rw [tk_keys hp hl]
    refine List.Perm.append_left _ ?_
    by_cases q : next (A + d) x < 2 ^ A
    · rw [if_pos q]
      have h0 := (nx_iff A d x).1 q
      rw [List.filter_eq_nil_iff.2 (fun k _ hk => by
        have hk := of_decide_eq_true hk
        exact rv_above h0 hk.2 hk.1)]
    · rw [if_neg q]
      obtain ⟨q1, q2, _⟩ := nx_go q
      have := ih (next (A + d) x) (by rw [q2, Nat.add_right_comm]; exact hx)
      rw [q1, q2] at this
      exact this
end Rv
end Go.Proofs.YtlfpkbjiofelkaaGreat

/-
  Plain mathematics, with no program in sight: what one scan tells, and how many keys are left behind it.
-/
namespace Go.Proofs.YtlfpkbjiofelkaaGreat
namespace Rv
/-- all keys, the smaller table's first -/
def allk (s : Sd) : List ByteArray := Dc.keys (tbl s (smN s)).flatten ++ (if 0 < s.young.length then Dc.keys (tbl s (1 - smN s)).flatten else [])
/-- how many stand at a place or behind it -/
def left (h : ByteArray → Nat) (s : Sd) (A q : Nat) : Nat := ((allk s).filter (fun k => decide (q ≤ rv A (h k)))).length
/-- what a scan tells -/
def toldAt (h : ByteArray → Nat) (s : Sd) (A d c : Nat) : List ByteArray :=
  (Dc.keys (tbl s (smN s)).flatten).filter (fun k => decide (rv A (h k) = rv A c)) ++ (if 0 < s.young.length then (Dc.keys (tbl s (1 - smN s)).flatten).filter (fun k => decide (rv A (h k) = rv A c ∧ rv (A + d) c ≤ rv (A + d) (h k))) else [])
theorem pass_perm {h : ByteArray → Nat} {s : Sd} {A d : Nat} (hL : Lay s A d) (h0 : Dc.Put h (tbl s (smN s))) (h1 : Dc.Put h (tbl s (1 - smN s))) (c : Nat) : (passF s A d c).Perm (toldAt h s A d c) := by
  unfold passF toldAt
  rw [tk_keys h0 hL.small]
  refine List.Perm.append_left _ ?_
  by_cases hy : 0 < s.young.length
  · rw [if_pos hy, if_pos hy]
    exact gr_perm h1 (hL.great hy) _ _ (Nat.le_add_left _ _)
  · rw [if_neg hy, if_neg hy]
theorem told_len (h : ByteArray → Nat) (s : Sd) (A d c : Nat) : (toldAt h s A d c).length ≤ ((allk s).filter (fun k => decide (rv A (h k) = rv A c))).length := by
  unfold toldAt allk
  rw [List.filter_append, List.length_append, List.length_append]
  refine Nat.add_le_add_left ?_ _
  by_cases hy : 0 < s.young.length
  · rw [if_pos hy, if_pos hy, ← List.countP_eq_length_filter, ← List.countP_eq_length_filter]
    refine List.countP_mono_left (fun k _ hk => ?_)
    have hk := of_decide_eq_true hk
    exact decide_eq_true hk.1
  · rw [if_neg hy, if_neg hy]
    exact Nat.le_refl _
theorem left_step (h : ByteArray → Nat) (s : Sd) (A q : Nat) : left h s A q = ((allk s).filter (fun k => decide (rv A (h k) = q))).length + left h s A (q + 1) := by
  unfold left
  rw [← List.length_append]
  refine (filter_two _ _ _ _ (fun k => ?_) (fun k => ?_)).length_eq
  · rw [← Bool.decide_or]
    apply decide_eq_decide.2
    omega
  · rintro ⟨a, b⟩
    have a := of_decide_eq_true a
    have b := of_decide_eq_true b
    omega
theorem pass_len {h : ByteArray → Nat} {s : Sd} {A d : Nat} (hL : Lay s A d) (h0 : Dc.Put h (tbl s (smN s))) (h1 : Dc.Put h (tbl s (1 - smN s))) (c : Nat) : (passF s A d c).length + left h s A (rv A c + 1) ≤ left h s A (rv A c) := by
  rw [left_step h s A (rv A c), (pass_perm hL h0 h1 c).length_eq]
  exact Nat.add_le_add_right (told_len h s A d c) _
theorem left_all (h : ByteArray → Nat) (s : Sd) (A q : Nat) : left h s A q ≤ (allk s).length := List.length_filter_le _ _
end Rv
end Go.Proofs.YtlfpkbjiofelkaaGreat

namespace Go.Proofs.YtlfpkbjiofelkaaGreat
namespace Rv
/-- Next's scans -/
def scanF (s : Sd) (A d m : Nat) : Nat → Nat → List ByteArray → Nat × List ByteArray
  | 0, c, l => (c, l)
  | f + 1, c, l => if next A c = 0 ∨ m ≤ (l ++ passF s A d c).length then (next A c, l ++ passF s A d c) else scanF s A d m f (next A c) (l ++ passF s A d c)
/-- the place to which it has told -/
def endQ (A c : Nat) : Nat := if c = 0 then 2 ^ A else rv A c
theorem put_tbl {h : ByteArray → Nat} {s : Sd} (hI : Dc.Inv h s) (t : Nat) : Dc.Put h (tbl s t) := by
  unfold tbl
  split
  · exact hI.put0
  · exact hI.put1
theorem allk_perm {h : ByteArray → Nat} {s : Sd} (hI : Dc.Inv h s) : (allk s).Perm (Dc.keys (Dc.all s)) := by
  rw [Dc.all_eq hI, keys_app]
  unfold allk
  by_cases hy : 0 < s.young.length
  · rw [if_pos hy]
    by_cases q : s.young.length < s.old.length
    · have hz : smN s = 1 := by unfold smN; rw [if_pos ⟨hy, q⟩]
      rw [hz]
      exact List.perm_append_comm
    · have hz : smN s = 0 := by unfold smN; rw [if_neg (fun e => q e.2)]
      rw [hz]
      exact List.Perm.refl _
  · have e : s.young = [] := List.eq_nil_of_length_eq_zero (by omega)
    have hz : smN s = 0 := by unfold smN; rw [if_neg (fun e => hy e.1)]
    rw [if_neg hy, hz, e]
    exact List.Perm.refl _
theorem lay_of {h : ByteArray → Nat} {s : Sd} (hI : Dc.Inv h s) (h0 : s.old.length ≠ 0) (hA : s.old.length ≤ 4398046511104) (hB : s.young.length ≤ 4398046511104) : ∃ A d, Lay s A d ∧ (0 < s.young.length → 2 ^ (A + d) = max s.old.length s.young.length) ∧ (s.young.length = 0 → d = 0) := by
  obtain ⟨_, a, ha⟩ := Dc.good_pos hI.size0 h0
  have few : ∀ x, 2 ^ x ≤ 4398046511104 → x ≤ 42 := fun x hx => by
    rcases Nat.lt_or_ge 42 x with q | q
    · have := Nat.pow_le_pow_right (n := 2) (by omega) q
      have e : 2 ^ (42 + 1) = 8796093022208 := by decide
      have e2 : Nat.succ 42 = 42 + 1 := rfl
      rw [e2, e] at this
      omega
    · exact q
  by_cases hy : 0 < s.young.length
  · obtain ⟨_, b, hb⟩ := Dc.good_pos hI.size1 (Nat.ne_of_gt hy)
    have fa := few a (by rw [← ha]; exact hA)
    have fb := few b (by rw [← hb]; exact hB)
    by_cases q : s.young.length < s.old.length
    · have hz : smN s = 1 := by unfold smN; rw [if_pos ⟨hy, q⟩]
      have hle : b ≤ a := by
        rw [ha, hb] at q
        exact Nat.le_of_lt ((Nat.pow_lt_pow_iff_right (by omega)).1 q)
      refine ⟨b, a - b, ⟨?_, fun _ => ?_, ?_⟩, fun _ => ?_, fun e => ?_⟩
      · rw [hz]; exact hb
      · rw [hz, Nat.add_sub_cancel' hle]; exact ha
      · rw [Nat.add_sub_cancel' hle]; exact fa
      · rw [Nat.add_sub_cancel' hle, ← ha]; omega
      · omega
    · have hz : smN s = 0 := by unfold smN; rw [if_neg (fun e => q e.2)]
      have hle : a ≤ b := by
        rw [ha, hb] at q
        exact (Nat.pow_le_pow_iff_right (by omega)).1 (Nat.le_of_not_lt q)
      refine ⟨a, b - a, ⟨?_, fun _ => ?_, ?_⟩, fun _ => ?_, fun e => ?_⟩
      · rw [hz]; exact ha
      · rw [hz, Nat.add_sub_cancel' hle]; exact hb
      · rw [Nat.add_sub_cancel' hle]; exact fb
      · rw [Nat.add_sub_cancel' hle, ← hb]; omega
      · omega
  · have hz : smN s = 0 := by unfold smN; rw [if_neg (fun e => hy e.1)]
    refine ⟨a, 0, ⟨?_, fun e => absurd e hy, ?_⟩, fun e => absurd e hy, fun _ => rfl⟩
    · rw [hz]; exact ha
    · exact few a (by rw [← ha]; exact hA)
theorem next_zero_iff {A c : Nat} : next A c = 0 ↔ rv A c + 1 = 2 ^ A := by
  have hlt := rv_lt A c
  rw [next_is]
  constructor
  · intro e
    by_cases q : rv A c + 1 = 2 ^ A
    · exact q
    · rw [if_neg q] at e
      have e2 := congrArg (rv A) e
      rw [rv_rv, rv_zero, Nat.mod_eq_of_lt (by omega)] at e2
      omega
  · intro e; rw [if_pos e]
theorem next_up {A c : Nat} (h : ¬ next A c = 0) : rv A (next A c) = rv A c + 1 := by
  have hlt := rv_lt A c
  have hne : ¬ rv A c + 1 = 2 ^ A := fun e => h (next_zero_iff.2 e)
  rw [rv_next, Nat.mod_eq_of_lt (by omega)]
theorem rv_wide {A d c : Nat} (h : c < 2 ^ A) : rv (A + d) c = rv A c * 2 ^ d := by
  have h1 := rv_low A d c
  have h2 : rv (A + d) c % 2 ^ d = 0 := by rw [h1.2, Nat.div_eq_of_lt h, rv_zero]
  rw [← h1.1, Nat.div_mul_cancel (Nat.dvd_of_mod_eq_zero h2)]
/-- a scan from a cursor that counts in the smaller table alone -/
theorem told_low (h : ByteArray → Nat) (s : Sd) {A d c : Nat} (hc : c < 2 ^ A) : toldAt h s A d c = (allk s).filter (fun k => decide (rv A (h k) = rv A c)) := by
  unfold toldAt allk
  rw [List.filter_append]
  congr 1
  by_cases hy : 0 < s.young.length
  · rw [if_pos hy, if_pos hy]
    apply List.filter_congr
    intro k _
    apply decide_eq_decide.2
    constructor
    · exact fun e => e.1
    · intro e
      refine ⟨e, ?_⟩
      rw [rv_wide hc, ← e, ← (rv_low A d (h k)).1]
      exact Nat.div_mul_le_self _ _
  · rw [if_neg hy, if_neg hy]
    rfl
theorem filter_none {l : List ByteArray} {p : ByteArray → Prop} [DecidablePred p] (h : ∀ k, ¬ p k) : l.filter (fun k => decide (p k)) = [] := by
  rw [List.filter_eq_nil_iff]
  intro k _ e
  exact h k (of_decide_eq_true e)
theorem scan_tells {h : ByteArray → Nat} {s : Sd} {A d : Nat} (m : Nat) (hL : Lay s A d) (h0 : Dc.Put h (tbl s (smN s))) (h1 : Dc.Put h (tbl s (1 - smN s))) : ∀ (f c : Nat) (l : List ByteArray), 2 ^ A ≤ rv A c + f →
    rv A c < endQ A (scanF s A d m f c l).1 ∧ (scanF s A d m f c l).1 < 2 ^ A ∧ ((scanF s A d m f c l).1 = 0 ∨ m ≤ (scanF s A d m f c l).2.length) ∧
      (scanF s A d m f c l).2.Perm (l ++ (toldAt h s A d c ++ (allk s).filter (fun k => decide (rv A c < rv A (h k) ∧ rv A (h k) < endQ A (scanF s A d m f c l).1)))) := by
  intro f
  induction f with
  | zero => intro c l hf; exact absurd hf (Nat.not_le_of_lt (rv_lt A c))
  | succ f ih =>
    intro c l hf
    have hlt := rv_lt A c
    have hp := pass_perm hL h0 h1 c
    unfold scanF
    by_cases q : next A c = 0 ∨ m ≤ (l ++ passF s A d c).length
    · rw [if_pos q]
      have he : endQ A (next A c) = rv A c + 1 := by
        unfold endQ
        by_cases z : next A c = 0
        · rw [if_pos z]; exact (next_zero_iff.1 z).symm
        · rw [if_neg z]; exact next_up z
      refine ⟨?_, next_lt A c, q, ?_⟩
      · show rv A c < endQ A (next A c)
        rw [he]; exact Nat.lt_succ_self _
      · show (l ++ passF s A d c).Perm (l ++ (toldAt h s A d c ++ (allk s).filter (fun k => decide (rv A c < rv A (h k) ∧ rv A (h k) < endQ A (next A c)))))
        rw [he, filter_none (fun k => by omega), List.append_nil]
        exact hp.append_left l
    · rw [if_neg q]
      have z : ¬ next A c = 0 := fun e => q (.inl e)
      have hu := next_up z
      obtain ⟨i1, i2, i3, i4⟩ := ih (next A c) (l ++ passF s A d c) (by rw [hu, Nat.add_assoc, Nat.add_comm 1 f]; exact hf)
      rw [hu] at i1 i4
      generalize scanF s A d m f (next A c) (l ++ passF s A d c) = r at *
      refine ⟨Nat.lt_of_succ_lt i1, i2, i3, ?_⟩
      rw [told_low h s (next_lt A c), hu] at i4
      refine i4.trans ?_
      rw [List.append_assoc]
      refine List.Perm.append_left l (List.Perm.append hp ?_)
      refine (filter_two _ _ _ _ (fun k => ?_) (fun k => ?_)).symm
      · rw [← Bool.decide_or]
        apply decide_eq_decide.2
        omega
      · rintro ⟨a, b⟩
        have a := of_decide_eq_true a
        have b := of_decide_eq_true b
        omega
end Rv
end Go.Proofs.YtlfpkbjiofelkaaGreat

/-
  Contracts over this program: Next, over any table.
-/
namespace Go.Proofs.YtlfpkbjiofelkaaGreat
open Go.RowKit Go.Shelf
attribute [local go_sem] Oper.semAt_some
theorem few_of {h : ByteArray → Nat} {N : Nat} {s : Sd} (hO : Okd h N s) (hN : N ≤ 2100000000000) : Few s := by
  obtain ⟨hI, _, h1, h2, h3⟩ := hO
  refine ⟨by omega, by omega, fun t i c hc => ?_⟩
  have hl : c.length ≤ (tbl s t).flatten.length := by
    obtain ⟨hi, rfl⟩ := List.getElem?_eq_some_iff.1 hc
    exact (List.sublist_flatten_of_mem (List.getElem_mem hi)).length_le
  have ha : (Dc.all s).length = s.old.flatten.length + s.young.flatten.length := by rw [Dc.all_eq hI, List.length_append]
  have hx : (tbl s t).flatten.length ≤ (Dc.all s).length := by unfold tbl; split <;> omega
  omega
set_option maxHeartbeats 400000 in
theorem next_zero (w : World) (r : Roles) (b seed n : Nat) (s : Sd) (hD : Dct w r b seed n s) (h0 : s.old.length = 0) (c : Nat) (cnt : Int) :
    Calls Tryz.prog 57 #[.pointer (some ⟨b, 0, none⟩), .int .u64 c, .int .i64 cnt] w fun e w' => e = .returned (.tuple #[.int .u64 0, .slice none 0 0]) ∧ Below w.heap.size w w' := by
  have m := sizes_any w r b seed n s hD
  rw [h0] at m
  go_enter Tryz.func57, Tryz.ntmps57
  go_wp2_with fail
  refine m.mono ?_
  rintro _ w1 ⟨rfl, q, hw⟩
  have HB : Kept (Below w.heap.size w w1) := by rw [hw]; exact below_drewN (Below.refl _ _) q
  clear hw m
  go_wp2
  go_ret2
  exact ⟨rfl, HB.out⟩
theorem next_more (W : World) (r : Roles) (b seed n : Nat) (h : ByteArray → Nat) (s : Sd) (hD : Dct W r b seed n s) (hI : Dc.Inv h s) (hF : Few s) (A d : Nat) (hL : Lay s A d) (hk : (Dc.all s).length ≤ 8000000000000) (h0 : s.old.length ≠ 0)
    (c : Nat) (hc : c < 2 ^ 64) (cnt : Int) (m : Nat) (hm : max cnt 1 = (m : Int)) :
    Calls Tryz.prog 57 #[.pointer (some ⟨b, 0, none⟩), .int .u64 c, .int .i64 cnt] W fun x w' => (∃ v' : Value, x = .returned (.tuple #[.int .u64 ((Rv.scanF s A d m (2 ^ A) c []).1 : Nat), v']) ∧ Ks W.heap.size w' v' (Rv.scanF s A d m (2 ^ A) c []).2) ∧ Below W.heap.size W w' := by
  have hak : (Rv.allk s).length ≤ 8000000000000 := by rw [(Rv.allk_perm hI).length_eq]; unfold Dc.keys; rw [List.length_map]; exact hk
  have p0 := Rv.put_tbl hI (smN s)
  have p1 := Rv.put_tbl hI (1 - smN s)
  have hA : 2 ^ A < 2 ^ 64 := Nat.pow_lt_pow_right (by omega) (by have := hL.few; omega)
  have M := next_walk W b c m s.old.length _ _ cnt (passF s A d) (Rv.next A) (Rv.rv A)
    (fun x l f => Rv.scanF s A d m f x l = Rv.scanF s A d m (2 ^ A) c [] ∧ 2 ^ A ≤ Rv.rv A x + f ∧ l.length + Rv.left h s A (Rv.rv A x) ≤ (Rv.allk s).length)
    (fun c' l' => (c', l') = Rv.scanF s A d m (2 ^ A) c []) (2 ^ A) hc hm h0 (sizes_any W r b seed n s hD) ?_ ?_ ?_ ?_ ?_ ⟨rfl, Nat.le_add_left _ _, by rw [List.length_nil, Nat.zero_add]; exact Rv.left_all h s A _⟩ (fun x => Nat.lt_trans (Rv.next_lt A x) hA)
  · refine M.mono ?_
    rintro _ w' ⟨⟨c', l', v', rfl, q1, q2, _⟩, q3⟩
    rw [← q2]
    exact ⟨⟨v', rfl, q1⟩, q3⟩
  · intro x xs v w hx hb hv hl
    exact spass_any W w r b seed n s hD hF A d hL x hx v xs hb hv hl
  · rintro x f l ⟨g1, g2, g3⟩ hs
    rw [← g1]
    show _ = (if _ then _ else _)
    rw [if_pos hs]
  · rintro x f l ⟨g1, g2, g3⟩ z hn
    have hu := Rv.next_up z
    have hb := Rv.rv_lt A (Rv.next A x)
    have hp := Rv.pass_len hL p0 p1 x
    refine ⟨⟨?_, ?_, ?_⟩, ?_, hb⟩
    · rw [← g1]
      show _ = (if _ then _ else _)
      rw [if_neg (fun e => e.elim z hn)]
    · rw [hu, Nat.add_assoc, Nat.add_comm 1 f]; exact g2
    · rw [hu, List.length_append]; omega
    · rw [hu]; exact Nat.lt_succ_self _
  · rintro x f l ⟨g1, g2, g3⟩
    have hb := Rv.rv_lt A x
    cases f with
    | zero => exact absurd g2 (Nat.not_le_of_lt hb)
    | succ f => exact ⟨f, rfl⟩
  · rintro x f l ⟨g1, g2, g3⟩
    have hp := Rv.pass_len hL p0 p1 x
    omega
end Go.Proofs.YtlfpkbjiofelkaaGreat

/-
  Contracts over this program: rest over any table; Next with a count that is greater than all keys; what does not count in a cursor.
-/
namespace Go.Proofs.YtlfpkbjiofelkaaGreat
open Go.RowKit Go.Shelf
namespace Rv
/-- what is left to tell from a cursor on -/
def fromQ (h : ByteArray → Nat) (s : Sd) (A d x : Nat) : List ByteArray := toldAt h s A d x ++ (allk s).filter (fun k => decide (rv A x < rv A (h k)))
theorem from_len (h : ByteArray → Nat) (s : Sd) (A d x : Nat) : (fromQ h s A d x).length ≤ 2 * (allk s).length := by
  unfold fromQ
  have h1 := told_len h s A d x
  have h2 := List.length_filter_le (fun k => decide (rv A (h k) = rv A x)) (allk s)
  have h3 := List.length_filter_le (fun k => decide (rv A x < rv A (h k))) (allk s)
  rw [List.length_append]
  omega
theorem from_zero (h : ByteArray → Nat) (s : Sd) (A d : Nat) : (fromQ h s A d 0).Perm (allk s) := by
  unfold fromQ
  rw [told_low h s (two_pos A), rv_zero]
  have := filter_two (allk s) (fun _ => true) (fun k => decide (rv A (h k) = 0)) (fun k => decide (0 < rv A (h k))) (fun k => by rw [← Bool.decide_or]; exact (decide_eq_true (by omega)).symm) (fun k => by
    rintro ⟨a, b⟩
    have a := of_decide_eq_true a
    have b := of_decide_eq_true b
    omega)
  rw [List.filter_eq_self.2 (fun _ _ => rfl)] at this
  exact this.symm
/-- a call that ends at 0 has told all that was left -/
theorem from_end {h : ByteArray → Nat} {s : Sd} {A d : Nat} (m : Nat) (hL : Lay s A d) (h0 : Dc.Put h (tbl s (smN s))) (h1 : Dc.Put h (tbl s (1 - smN s))) (x : Nat) (hz : (scanF s A d m (2 ^ A) x []).1 = 0) : (scanF s A d m (2 ^ A) x []).2.Perm (fromQ h s A d x) := by
  obtain ⟨_, _, _, t⟩ := scan_tells m hL h0 h1 (2 ^ A) x [] (Nat.le_add_left _ _)
  rw [hz] at t
  refine t.trans ?_
  unfold fromQ endQ
  rw [List.nil_append]
  refine List.Perm.of_eq ?_
  congr 1
  apply List.filter_congr
  intro k _
  apply decide_eq_decide.2
  have := rv_lt A (h k)
  rw [if_pos rfl]
  omega
/-- another leaves what is left from where it went -/
theorem from_step {h : ByteArray → Nat} {s : Sd} {A d : Nat} (m : Nat) (hL : Lay s A d) (h0 : Dc.Put h (tbl s (smN s))) (h1 : Dc.Put h (tbl s (1 - smN s))) (x : Nat) (hz : ¬ (scanF s A d m (2 ^ A) x []).1 = 0) :
    rv A x < rv A (scanF s A d m (2 ^ A) x []).1 ∧ (scanF s A d m (2 ^ A) x []).1 < 2 ^ A ∧ ((scanF s A d m (2 ^ A) x []).2 ++ fromQ h s A d (scanF s A d m (2 ^ A) x []).1).Perm (fromQ h s A d x) := by
  obtain ⟨t1, t2, _, t⟩ := scan_tells m hL h0 h1 (2 ^ A) x [] (Nat.le_add_left _ _)
  generalize scanF s A d m (2 ^ A) x [] = z at *
  unfold endQ at t t1
  rw [if_neg hz] at t t1
  refine ⟨t1, t2, ?_⟩
  rw [List.nil_append] at t
  unfold fromQ
  rw [told_low h s t2]
  refine (t.append_right _).trans ?_
  rw [List.append_assoc]
  refine List.Perm.append_left _ ?_
  have e1 := filter_two (allk s) (fun k => decide (rv A z.1 ≤ rv A (h k))) (fun k => decide (rv A (h k) = rv A z.1)) (fun k => decide (rv A z.1 < rv A (h k))) (fun k => by rw [← Bool.decide_or]; apply decide_eq_decide.2; omega) (fun k => by
    rintro ⟨a, b⟩
    have a := of_decide_eq_true a
    have b := of_decide_eq_true b
    omega)
  have e2 := filter_two (allk s) (fun k => decide (rv A x < rv A (h k))) (fun k => decide (rv A x < rv A (h k) ∧ rv A (h k) < rv A z.1)) (fun k => decide (rv A z.1 ≤ rv A (h k))) (fun k => by rw [← Bool.decide_or]; apply decide_eq_decide.2; omega) (fun k => by
    rintro ⟨a, b⟩
    have a := of_decide_eq_true a
    have b := of_decide_eq_true b
    omega)
  exact (List.Perm.append_left _ e1.symm).trans e2.symm
theorem mod_low {A d c c2 : Nat} (h : c % 2 ^ (A + d) = c2 % 2 ^ (A + d)) : c % 2 ^ A = c2 % 2 ^ A := by
  have e : 2 ^ A ∣ 2 ^ (A + d) := ⟨2 ^ d, Nat.pow_add _ _ _⟩
  rw [← Nat.mod_mod_of_dvd c e, h, Nat.mod_mod_of_dvd c2 e]
theorem next_mod2 {L c c2 : Nat} (h : c % 2 ^ L = c2 % 2 ^ L) : next L c = next L c2 := by rw [← next_mod L c, h, next_mod]
theorem gr_mod {s : Sd} {A d : Nat} (hl : (tbl s (1 - smN s)).length = 2 ^ (A + d)) (f : Nat) {c c2 : Nat} (h : c % 2 ^ (A + d) = c2 % 2 ^ (A + d)) : grF s A d f c = grF s A d f c2 := by
  cases f with
  | zero => rfl
  | succ f =>
    unfold grF tk
    rw [hl, h, next_mod2 h]
theorem pass_mod {s : Sd} {A d : Nat} (hL : Lay s A d) {c c2 : Nat} (h : c % 2 ^ (A + d) = c2 % 2 ^ (A + d)) : passF s A d c = passF s A d c2 := by
  have hs : tk s (smN s) c = tk s (smN s) c2 := by unfold tk; rw [hL.small, mod_low h]
  unfold passF
  rw [hs]
  congr 1
  by_cases hy : 0 < s.young.length
  · rw [if_pos hy, if_pos hy]; exact gr_mod (hL.great hy) _ h
  · rw [if_neg hy, if_neg hy]
theorem scan_mod {s : Sd} {A d : Nat} (m : Nat) (hL : Lay s A d) {c c2 : Nat} (h : c % 2 ^ (A + d) = c2 % 2 ^ (A + d)) (f : Nat) (l : List ByteArray) : scanF s A d m (f + 1) c l = scanF s A d m (f + 1) c2 l := by
  unfold scanF
  rw [pass_mod hL h, next_mod2 (mod_low h)]
end Rv
/-- what rest tells -/
def Rs (h : ByteArray → Nat) (s : Sd) (c : Nat) (l : List ByteArray) : Prop := (s.old.length = 0 ∧ l = []) ∨ (s.old.length ≠ 0 ∧ ∃ A d, Lay s A d ∧ l.Perm (Rv.fromQ h s A d c))
theorem none_of {h : ByteArray → Nat} {s : Sd} (hI : Dc.Inv h s) (h0 : s.old.length = 0) : s.young.length = 0 ∧ Dc.all s = [] := by
  have ho : s.old = [] := List.length_eq_zero_iff.1 h0
  have hy : s.young = [] := Classical.byContradiction fun e => by have := hI.move e; omega
  refine ⟨by rw [hy]; rfl, ?_⟩
  rw [Dc.all_eq hI, ho, hy]
  rfl
theorem small_len {s : Sd} {A d : Nat} (hL : Lay s A d) : 2 ^ A ≤ s.old.length + s.young.length := by
  rw [← hL.small]
  unfold tbl
  split <;> omega
theorem max_one (cnt : Int) : max cnt 1 = ((max cnt 1).toNat : Int) := by omega
theorem rs_zero {h : ByteArray → Nat} {s : Sd} {l : List ByteArray} (hI : Dc.Inv h s) (hr : Rs h s 0 l) : l.Perm (Dc.keys (Dc.all s)) := by
  rcases hr with ⟨h0, rfl⟩ | ⟨_, A, d, _, hp⟩
  · rw [(none_of hI h0).2]; exact List.Perm.refl _
  · exact hp.trans ((Rv.from_zero h s A d).trans (Rv.allk_perm hI))
/-- what Next tells, as a function of the cursor -/
theorem next_any {h : ByteArray → Nat} (W : World) (r : Roles) (b seed N : Nat) (s : Sd) (hd : Dd h N W r b seed s) (hN : N ≤ 2100000000000) (cnt : Int) :
    ∃ (nx : Nat → Nat) (tl : Nat → List ByteArray), (∀ (x : Nat) (w : World), x < 2 ^ 64 → Below W.heap.size W w → Calls Tryz.prog 57 #[.pointer (some ⟨b, 0, none⟩), .int .u64 x, .int .i64 cnt] w fun z w' => (∃ v', z = .returned (.tuple #[.int .u64 (nx x : Nat), v']) ∧ Ks w.heap.size w' v' (tl x)) ∧ Below w.heap.size w w') ∧
      (((Dc.all s).length : Int) < cnt → nx 0 = 0 ∧ (tl 0).Perm (Dc.keys (Dc.all s))) ∧ (∀ c c2, c % max (max s.old.length s.young.length) 1 = c2 % max (max s.old.length s.young.length) 1 → nx c = nx c2 ∧ tl c = tl c2) := by
  obtain ⟨hI, _, o1, o2, o3⟩ := hd.2
  have hF := few_of hd.2 hN
  by_cases h0 : s.old.length = 0
  · refine ⟨fun _ => 0, fun _ => [], fun x w hx hb => ?_, fun _ => ⟨rfl, by rw [(none_of hI h0).2]; exact List.Perm.refl _⟩, fun _ _ _ => ⟨rfl, rfl⟩⟩
    refine (next_zero w r b seed _ s (hd.1.kept hb.size (fun k hk _ => hb.block k hk)) h0 x cnt).mono ?_
    rintro _ w' ⟨rfl, hb'⟩
    exact ⟨⟨_, rfl, ks_nil _ _⟩, hb'⟩
  · obtain ⟨A, d, hL, hM, hM0⟩ := Rv.lay_of hI h0 (by omega) (by omega)
    have p0 := Rv.put_tbl hI (smN s)
    have p1 := Rv.put_tbl hI (1 - smN s)
    refine ⟨fun x => (Rv.scanF s A d (max cnt 1).toNat (2 ^ A) x []).1, fun x => (Rv.scanF s A d (max cnt 1).toNat (2 ^ A) x []).2, fun x w hx hb => ?_, fun hbig => ?_, fun c c2 hcc => ?_⟩
    · exact next_more w r b seed _ h s (hd.1.kept hb.size (fun k hk _ => hb.block k hk)) hI hF A d hL (by omega) h0 x hx cnt _ (max_one cnt)
    · have hak : (Rv.allk s).length = (Dc.all s).length := by rw [(Rv.allk_perm hI).length_eq]; unfold Dc.keys; rw [List.length_map]
      have hz : (Rv.scanF s A d (max cnt 1).toNat (2 ^ A) 0 []).1 = 0 := Classical.byContradiction fun hz => by
        obtain ⟨_, _, t3, _⟩ := Rv.scan_tells (max cnt 1).toNat hL p0 p1 (2 ^ A) 0 [] (Nat.le_add_left _ _)
        have hle := (Rv.from_step (max cnt 1).toNat hL p0 p1 0 hz).2.2.length_eq
        rw [List.length_append, (Rv.from_zero h s A d).length_eq] at hle
        have := t3.resolve_left hz
        omega
      exact ⟨hz, (Rv.from_end _ hL p0 p1 0 hz).trans ((Rv.from_zero h s A d).trans (Rv.allk_perm hI))⟩
    · have e : max (max s.old.length s.young.length) 1 = 2 ^ (A + d) := by
        by_cases hy : 0 < s.young.length
        · rw [hM hy]; omega
        · have hy0 : s.young.length = 0 := by omega
          have hs := hL.small
          have hz : smN s = 0 := by unfold smN; rw [if_neg (fun e => hy e.1)]
          rw [hz] at hs
          have hs : s.old.length = 2 ^ A := hs
          rw [hM0 hy0, Nat.add_zero, ← hs]
          omega
      rw [e] at hcc
      obtain ⟨f, hf⟩ : ∃ f, 2 ^ A = f + 1 := ⟨2 ^ A - 1, by have := Rv.two_pos A; omega⟩
      rw [hf]
      have := Rv.scan_mod (max cnt 1).toNat hL hcc f []
      show (Rv.scanF _ _ _ _ _ _ _).1 = (Rv.scanF _ _ _ _ _ _ _).1 ∧ (Rv.scanF _ _ _ _ _ _ _).2 = (Rv.scanF _ _ _ _ _ _ _).2
      rw [this]
      exact ⟨rfl, rfl⟩
end Go.Proofs.YtlfpkbjiofelkaaGreat

/-
  What a scan tells over a table that changes: each key whose place lies between two cursors.
-/
namespace Go.Proofs.YtlfpkbjiofelkaaGreat
open Go.RowKit Go.Shelf
namespace Rv
/-- a place, or a cursor, with all its digits turned round -/
def plc (x : Nat) : Nat := rv 64 x
theorem plc_zero : plc 0 = 0 := rv_zero 64
theorem plc_div {L : Nat} (hL : L ≤ 64) (x : Nat) : plc x / 2 ^ (64 - L) = rv L x := by
  have h := (rv_low L (64 - L) x).1
  rw [Nat.add_sub_cancel' hL] at h
  exact h
theorem plc_mono {L a b : Nat} (hL : L ≤ 64) (h : plc a ≤ plc b) : rv L a ≤ rv L b := by
  rw [← plc_div hL a, ← plc_div hL b]
  exact Nat.div_le_div_right h
theorem plc_lt {A c x : Nat} (hA : A ≤ 64) (hc : c < 2 ^ A) (h : plc x < plc c) : rv A x < rv A c := by
  have e : plc c = rv A c * 2 ^ (64 - A) := by
    have := rv_wide (d := 64 - A) hc
    rw [Nat.add_sub_cancel' hA] at this
    exact this
  rw [← plc_div hA x]
  rw [e] at h
  rw [Nat.div_lt_iff_lt_mul (two_pos _)]
  exact h
theorem allk_mem {h : ByteArray → Nat} {s : Sd} {A d c : Nat} (hL : Lay s A d) {k : ByteArray} (hk : k ∈ allk s) (hp : plc c ≤ plc (h k)) : k ∈ toldAt h s A d c ∨ rv A c < rv A (h k) := by
  have hf := hL.few
  have h1 := plc_mono (L := A) (by omega) hp
  have h2 := plc_mono (L := A + d) (by omega) hp
  rcases Nat.eq_or_lt_of_le h1 with e | e
  · left
    unfold toldAt
    unfold allk at hk
    rcases List.mem_append.1 hk with hk | hk
    · exact List.mem_append_left _ (List.mem_filter.2 ⟨hk, decide_eq_true e.symm⟩)
    · refine List.mem_append_right _ ?_
      by_cases hy : 0 < s.young.length
      · rw [if_pos hy] at hk ⊢
        exact List.mem_filter.2 ⟨hk, decide_eq_true ⟨e.symm, h2⟩⟩
      · rw [if_neg hy] at hk
        cases hk
  · exact .inr e
theorem from_cov {h : ByteArray → Nat} {s : Sd} {A d c : Nat} (hL : Lay s A d) {k : ByteArray} (hk : k ∈ allk s) (hp : plc c ≤ plc (h k)) : k ∈ fromQ h s A d c := by
  unfold fromQ
  rcases allk_mem hL hk hp with q | q
  · exact List.mem_append_left _ q
  · exact List.mem_append_right _ (List.mem_filter.2 ⟨hk, decide_eq_true q⟩)
theorem scan_cov {h : ByteArray → Nat} {s : Sd} {A d : Nat} (m : Nat) (hL : Lay s A d) (h0 : Dc.Put h (tbl s (smN s))) (h1 : Dc.Put h (tbl s (1 - smN s))) (c : Nat) {k : ByteArray} (hk : k ∈ allk s) (hp : plc c ≤ plc (h k))
    (hd : (scanF s A d m (2 ^ A) c []).1 = 0 ∨ plc (h k) < plc (scanF s A d m (2 ^ A) c []).1) : k ∈ (scanF s A d m (2 ^ A) c []).2 := by
  by_cases hz : (scanF s A d m (2 ^ A) c []).1 = 0
  · exact (from_end m hL h0 h1 c hz).mem_iff.2 (from_cov hL hk hp)
  · have hd := hd.resolve_left hz
    obtain ⟨_, t2, _, t⟩ := scan_tells m hL h0 h1 (2 ^ A) c [] (Nat.le_add_left _ _)
    refine t.mem_iff.2 ?_
    rw [List.nil_append]
    rcases allk_mem hL hk hp with q | q
    · exact List.mem_append_left _ q
    · refine List.mem_append_right _ (List.mem_filter.2 ⟨hk, decide_eq_true ⟨q, ?_⟩⟩)
      unfold endQ
      rw [if_neg hz]
      exact plc_lt (by have := hL.few; omega) t2 hd
end Rv
/-- the keys of a dict -/
def Has (s : Sd) (k : ByteArray) : Prop := (lk s k).isSome = true
theorem has_mem {h : ByteArray → Nat} {s : Sd} (hI : Dc.Inv h s) {k : ByteArray} : Has s k ↔ k ∈ Dc.keys (Dc.all s) := by
  have hnd : (Dc.keys (Dc.all s)).Nodup := by rw [Dc.all_eq hI]; exact hI.nodup
  unfold Has lk
  rw [Option.isSome_iff_exists]
  constructor
  · rintro ⟨v, hv⟩
    exact List.mem_map.2 ⟨(k, v), (Dc.look_mem hnd k v).1 hv, rfl⟩
  · intro hk
    obtain ⟨⟨k', v⟩, he, rfl⟩ := List.mem_map.1 hk
    exact ⟨v, (Dc.look_mem hnd k' v).2 he⟩
/-- a call of Next from a cursor: where it goes, what it tells -/
theorem next_cov {h : ByteArray → Nat} (W : World) (r : Roles) (b seed N : Nat) (s : Sd) (hd : Dd h N W r b seed s) (hN : N ≤ 2100000000000) (c : Nat) (hc : c < 2 ^ 64) (cnt : Int) :
    ∃ (c' : Nat) (l : List ByteArray), Calls Tryz.prog 57 #[.pointer (some ⟨b, 0, none⟩), .int .u64 c, .int .i64 cnt] W (fun z w' => (∃ v', z = .returned (.tuple #[.int .u64 (c' : Nat), v']) ∧ Ks W.heap.size w' v' l) ∧ Below W.heap.size W w') ∧
      c' < 2 ^ 64 ∧ l.length ≤ 2 * N ∧ ∀ k, Has s k → Rv.plc c ≤ Rv.plc (h k) → (c' = 0 ∨ Rv.plc (h k) < Rv.plc c') → k ∈ l := by
  obtain ⟨hI, _, o1, o2, o3⟩ := hd.2
  have hF := few_of hd.2 hN
  by_cases h0 : s.old.length = 0
  · refine ⟨0, [], ?_, by decide, Nat.zero_le _, fun k hk => ?_⟩
    · refine (next_zero W r b seed _ s hd.1 h0 c cnt).mono ?_
      rintro _ w' ⟨rfl, hb'⟩
      exact ⟨⟨_, rfl, ks_nil _ _⟩, hb'⟩
    · have := (has_mem hI).1 hk
      rw [(none_of hI h0).2] at this
      cases this
  · obtain ⟨A, d, hL, _, _⟩ := Rv.lay_of hI h0 (by omega) (by omega)
    have p0 := Rv.put_tbl hI (smN s)
    have p1 := Rv.put_tbl hI (1 - smN s)
    have hA : 2 ^ A < 2 ^ 64 := Nat.pow_lt_pow_right (by omega) (by have := hL.few; omega)
    have hak : (Rv.allk s).length ≤ N := by rw [(Rv.allk_perm hI).length_eq]; unfold Dc.keys; rw [List.length_map]; exact o1
    have hfl := Rv.from_len h s A d c
    refine ⟨_, _, next_more W r b seed _ h s hd.1 hI hF A d hL (by omega) h0 c hc cnt _ (max_one cnt), ?_, ?_, fun k hk hp hd => ?_⟩
    · exact Nat.lt_trans (Rv.scan_tells (max cnt 1).toNat hL p0 p1 (2 ^ A) c [] (Nat.le_add_left _ _)).2.1 hA
    · by_cases hz : (Rv.scanF s A d (max cnt 1).toNat (2 ^ A) c []).1 = 0
      · have := (Rv.from_end (max cnt 1).toNat hL p0 p1 c hz).length_eq
        omega
      · have := (Rv.from_step (max cnt 1).toNat hL p0 p1 c hz).2.2.length_eq
        rw [List.length_append] at this
        omega
    · exact Rv.scan_cov (max cnt 1).toNat hL p0 p1 c ((Rv.allk_perm hI).mem_iff.2 ((has_mem hI).1 hk)) hp hd
theorem rest_cov {h : ByteArray → Nat} {s : Sd} {N c : Nat} {l : List ByteArray} (hO : Okd h N s) (hr : Rs h s c l) : l.length ≤ 2 * N ∧ ∀ k, Has s k → Rv.plc c ≤ Rv.plc (h k) → k ∈ l := by
  have hI := hO.1
  rcases hr with ⟨h0, rfl⟩ | ⟨_, A, d, hL, hp⟩
  · refine ⟨Nat.zero_le _, fun k hk => ?_⟩
    have := (has_mem hI).1 hk
    rw [(none_of hI h0).2] at this
    cases this
  · have hak : (Rv.allk s).length ≤ N := by rw [(Rv.allk_perm hI).length_eq]; unfold Dc.keys; rw [List.length_map]; exact hO.2.2.1
    have hfl := Rv.from_len h s A d c
    have hle := hp.length_eq
    exact ⟨by omega, fun k hk hq => hp.mem_iff.2 (Rv.from_cov hL ((Rv.allk_perm hI).mem_iff.2 ((has_mem hI).1 hk)) hq)⟩
end Go.Proofs.YtlfpkbjiofelkaaGreat

namespace Go.Proofs.YtlfpkbjiofelkaaGreat
open Go.RowKit Go.Shelf
/-- how far a cursor has come, by the table that there is -/
def far (s : Sx) (c : Nat) : Nat := Rv.rv (Nat.log2 (tbl s (smN s)).length) c
theorem far_lt {s : Sx} {A d : Nat} (hL : Lay s A d) (c : Nat) : far s c < s.old.length + s.young.length := by
  unfold far
  rw [hL.small, Nat.log2_two_pow]
  have h1 := Rv.rv_lt A c
  have h2 : 2 ^ A ≤ s.old.length + s.young.length := by
    rw [← hL.small]
    unfold tbl
    split <;> omega
  omega
/-- a call of Scan from a cursor: where it goes, what it tells -/
theorem fscan_any {h : ByteArray → Nat} {seed N : Nat} (W : World) (r : Roles) (R b : Nat) (s : Sx) (hr : Rec h N W r R b seed s) (hN : N ≤ 2100000000000) (c : Nat) (hc : c < 2 ^ 64) (cnt : Int) :
    ∃ (c' : Nat) (l : List ByteArray), Calls Tryz.prog 37 #[.pointer (some ⟨R, 0, none⟩), .int .u64 c, .int .i64 cnt] W (fun z w' => (∃ v', z = .returned (.tuple #[.int .u64 (c' : Nat), v']) ∧ Ks W.heap.size w' v' l) ∧ Below W.heap.size W w') ∧
      c' < 2 ^ 64 ∧ l.length ≤ 2 * N ∧ (∀ k, Has s k → Rv.plc c ≤ Rv.plc (h k) → (c' = 0 ∨ Rv.plc (h k) < Rv.plc c') → k ∈ l) ∧ (c' = 0 ∨ (far s c < far s c' ∧ far s c' < s.old.length + s.young.length ∧ 0 < l.length)) ∧ (c' = 0 ∨ cnt ≤ (l.length : Int)) ∧ (c = 0 → c' = 0 → l.Perm (kys s)) := by
  have hd := hr.1
  obtain ⟨hI, _, o1, o2, o3⟩ := hd.2
  have mD := dictionary_any hr
  have lift : ∀ (c' : Nat) (l : List ByteArray), Calls Tryz.prog 57 #[.pointer (some ⟨b, 0, none⟩), .int .u64 c, .int .i64 cnt] W (fun z w' => (∃ v', z = .returned (.tuple #[.int .u64 (c' : Nat), v']) ∧ Ks W.heap.size w' v' l) ∧ Below W.heap.size W w') →
      Calls Tryz.prog 37 #[.pointer (some ⟨R, 0, none⟩), .int .u64 c, .int .i64 cnt] W (fun z w' => (∃ v', z = .returned (.tuple #[.int .u64 (c' : Nat), v']) ∧ Ks W.heap.size w' v' l) ∧ Below W.heap.size W w') := by
    intro c' l mN
    clear hr hd
    have HC := keep hc
    clear hc hI o1 o2 o3
    go_enter Tryz.func37, Tryz.ntmps37
    go_wp2_with fail
    refine mD.mono ?_
    rintro _ w1 ⟨rfl, hw1⟩
    obtain rfl := hw1.symm
    go_wp2_with fail
    refine mN.mono ?_
    rintro _ w2 ⟨⟨v', rfl, hk⟩, hb⟩
    have HK := keep hk
    have HB := keep hb
    clear mN mD hk hb
    go_wp2
    refine bodyPost_ret (results_tmp2 rfl _ _ _) rfl ?_
    exact ⟨⟨v', rfl, HK.out⟩, HB.out⟩
  have hF := few_of hd.2 hN
  by_cases h0 : s.old.length = 0
  · refine ⟨0, [], lift 0 [] ?_, by decide, Nat.zero_le _, fun k hk => ?_, .inl rfl, .inl rfl, fun _ _ => by unfold kys; rw [(none_of hI h0).2]; exact List.Perm.refl _⟩
    · refine (next_zero W r b seed _ s hd.1 h0 c cnt).mono ?_
      rintro _ w' ⟨rfl, hb'⟩
      exact ⟨⟨_, rfl, ks_nil _ _⟩, hb'⟩
    · have := (has_mem hI).1 hk
      rw [(none_of hI h0).2] at this
      cases this
  · obtain ⟨A, d, hL, _, _⟩ := Rv.lay_of hI h0 (by omega) (by omega)
    have p0 := Rv.put_tbl hI (smN s)
    have p1 := Rv.put_tbl hI (1 - smN s)
    have hA : 2 ^ A < 2 ^ 64 := Nat.pow_lt_pow_right (by omega) (by have := hL.few; omega)
    have hak : (Rv.allk s).length ≤ N := by rw [(Rv.allk_perm hI).length_eq]; unfold Dc.keys; rw [List.length_map]; exact o1
    have hfl := Rv.from_len h s A d c
    refine ⟨_, _, lift _ _ (next_more W r b seed _ h s hd.1 hI hF A d hL (by omega) h0 c hc cnt _ (max_one cnt)), ?_, ?_, fun k hk hp hd => ?_, ?_, ?_, fun e0 hz => ?_⟩
    · exact Nat.lt_trans (Rv.scan_tells (max cnt 1).toNat hL p0 p1 (2 ^ A) c [] (Nat.le_add_left _ _)).2.1 hA
    · by_cases hz : (Rv.scanF s A d (max cnt 1).toNat (2 ^ A) c []).1 = 0
      · have := (Rv.from_end (max cnt 1).toNat hL p0 p1 c hz).length_eq
        omega
      · have := (Rv.from_step (max cnt 1).toNat hL p0 p1 c hz).2.2.length_eq
        rw [List.length_append] at this
        omega
    · exact Rv.scan_cov (max cnt 1).toNat hL p0 p1 c ((Rv.allk_perm hI).mem_iff.2 ((has_mem hI).1 hk)) hp hd
    · by_cases hz : (Rv.scanF s A d (max cnt 1).toNat (2 ^ A) c []).1 = 0
      · exact .inl hz
      · right
        refine ⟨?_, far_lt hL _, ?_⟩
        · unfold far
          rw [hL.small, Nat.log2_two_pow]
          exact (Rv.from_step (max cnt 1).toNat hL p0 p1 c hz).1
        · have := (Rv.scan_tells (max cnt 1).toNat hL p0 p1 (2 ^ A) c [] (Nat.le_add_left _ _)).2.2.1.resolve_left hz
          omega
    · rcases (Rv.scan_tells (max cnt 1).toNat hL p0 p1 (2 ^ A) c [] (Nat.le_add_left _ _)).2.2.1 with h | h
      · exact .inl h
      · exact .inr (by omega)
    · subst e0
      exact ((Rv.from_end (max cnt 1).toNat hL p0 p1 0 hz).trans (Rv.from_zero h s A d)).trans (Rv.allk_perm hI)
theorem app_at (B : Nat) (w : World) (v v2 : Value) (xs ys : List ByteArray) (B2 : Nat) (h1 : Ks B w v xs) (h2 : Ks B2 w v2 ys) (hb : B ≤ w.heap.size) (hl : xs.length + ys.length ≤ 8000000000000) :
    ∃ v' w', (Builtin.append_ #[43, 43] 43 #[v, v2]).run Tryz.prog w = .ok v' w' ∧ Ks B w' v' (xs ++ ys) ∧ Below B w w' ∧ w.grownBy w' v.ownBlock ∧ (v'.ownBlock = v.ownBlock ∨ v'.ownBlock = some w.heap.size) := by
  obtain ⟨i0, hi0, hz0, hz1, hz2⟩ := info_parts info_strK
  have h2' := h2
  unfold Ks at h2'
  rcases h2'.2 with ⟨rfl, h0⟩ | ⟨g, cap, cur, rfl, _⟩
  · have e : ys = [] := List.length_eq_zero_iff.1 h0
    subst e
    rw [List.append_nil]
    unfold Ks at h1
    exact ⟨v, w, run_append_owned_none (P := Tryz.prog) (w := w) B _ _ 9 i0 1 Tryz.underlying43 hi0 _ xs.length _ h1, h1, Below.refl _ _, ⟨rfl, rfl, rfl, Nat.le_refl _, fun _ _ _ => rfl⟩, .inl rfl⟩
  · unfold Ks at h1 h2
    obtain ⟨v', w', r1, r2, r3, _, r5⟩ := run_append_own_at (P := Tryz.prog) w B 43 43 9 i0 (.string .empty) 1 16 Tryz.underlying43 hi0 hz0 hz1 hz2 rfl (by decide) v xs.length _ h1 ⟨g, 0, none⟩ ys.length cap (ys.map Value.string) (by simp) (fun j u hu => h2.cells (g := g) rfl j u hu) (fun u hu => by
      obtain ⟨y, _, rfl⟩ := List.mem_map.1 hu
      rfl) (by unfold maxLen; omega) (by omega) hb
    refine ⟨v', w', r1, ?_, (Below.refl B w).grown r3 hb (fun k hk => (h1.lt k hk).1), r3, r5⟩
    unfold Ks
    rw [List.length_append, List.map_append]
    exact r2
theorem ks_form {B : Nat} {w : World} {v : Value} {xs : List ByteArray} (h : Ks B w v xs) : ∃ ao cap, v = .slice ao xs.length cap ∧ (xs = [] ∨ ∃ g, ao = some ⟨g, 0, none⟩ ∧ g < w.heap.size) := by
  unfold Ks at h
  rcases h.2 with ⟨rfl, h0⟩ | ⟨g, cap, cur, rfl, _, hg, _⟩
  · exact ⟨none, 0, by rw [h0], .inl (List.length_eq_zero_iff.1 h0)⟩
  · exact ⟨_, cap, rfl, .inr ⟨g, rfl, (Array.getElem?_eq_some_iff.1 hg).1⟩⟩
end Go.Proofs.YtlfpkbjiofelkaaGreat
