/-
  Plain mathematics: a sign as the layer's own statements write it is read back as that sign, whatever stands behind it.
-/
import Derived.Test.YtekkpmonflpenaaGlobStars0
namespace Go.Proofs.Ytekkpmonflpenaa
open Go.RowKit
namespace Gb
/-- a sign as it is written in a pattern -/
def wr (k : Int) (a b : UInt8) (l : List UInt8) : List UInt8 :=
  if k = 1 then [63] else if k = 2 then [42] else if k = 3 then 91 :: (esc l ++ [93]) else if k = 4 then 91 :: 94 :: (esc l ++ [93])
  else if k = 5 then [91, 92, a, 45, 92, b, 93] else if k = 6 then [91, 94, 92, a, 45, 92, b, 93] else [92, a]
def wrB (k : Int) (a b : UInt8) (l : List UInt8) : ByteArray := ⟨(wr k a b l).toArray⟩
/-- the sign that is meant -/
def sgOf (k : Int) (a b : UInt8) (l : List UInt8) : Sg :=
  if k = 1 then .any else if k = 2 then .star else if k = 3 then .set (esc l) else if k = 4 then .set (94 :: esc l)
  else if k = 5 then .set [92, a, 45, 92, b] else if k = 6 then .set [94, 92, a, 45, 92, b] else .byte a
/-- whether it means a byte -/
def smeans (k : Int) (a b : UInt8) (l : List UInt8) (x : UInt8) : Bool :=
  if k = 1 then true else if k = 3 then l.any (· == x) else if k = 4 then !l.any (· == x)
  else if k = 5 then btw a b x else if k = 6 then !btw a b x else a == x
theorem cut_esc (l q : List UInt8) : setCut (esc l ++ 93 :: q) = (esc l, q) := by
  induction l with
  | nil => cases q <;> rfl
  | cons b l ih =>
    have e : esc (b :: l) ++ 93 :: q = 92 :: b :: (esc l ++ 93 :: q) := by simp [esc]
    have e2 : esc (b :: l) = 92 :: b :: esc l := by simp [esc]
    rw [e, e2]
    simp only [setCut, ih]
    rfl
theorem cut_caret (r : List UInt8) (h : r ≠ []) : setCut (94 :: r) = (94 :: (setCut r).1, (setCut r).2) := by
  cases r with
  | nil => exact absurd rfl h
  | cons d r => rfl
theorem rs_wr (k : Int) (a b : UInt8) (l q : List UInt8) : rs (wr k a b l ++ q) = (sgOf k a b l, q) := by
  unfold wr sgOf
  split
  · rfl
  split
  · rfl
  split
  · have e : 91 :: (esc l ++ [93]) ++ q = 91 :: (esc l ++ 93 :: q) := by simp
    rw [e]
    simp only [rs, cut_esc]
    rfl
  split
  · have e : 91 :: 94 :: (esc l ++ [93]) ++ q = 91 :: 94 :: (esc l ++ 93 :: q) := by simp
    rw [e]
    simp only [rs]
    rw [cut_caret _ (by simp), cut_esc]
    rfl
  split
  · cases q <;> rfl
  split
  · cases q <;> rfl
  · rfl
theorem wr_ne (k : Int) (a b : UInt8) (l q : List UInt8) : wr k a b l ++ q ≠ [] := by
  unfold wr
  (repeat' split) <;> simp
theorem sgs_wr (k : Int) (a b : UInt8) (l q : List UInt8) : sgs (wr k a b l ++ q) = sgOf k a b l :: sgs q := by
  rw [sgs_cons (wr_ne k a b l q), rs_wr]
theorem btw_self (b x : UInt8) : btw b b x = (b == x) := by
  unfold btw
  by_cases h : b = x
  · subst h; simp
  · rw [beq_eq_false_iff_ne.2 h]
    apply decide_eq_false
    intro g
    apply h
    apply UInt8.toNat_inj.1
    omega
theorem step_esc (b : UInt8) (l : List UInt8) : step (esc (b :: l)) = (b, b, esc l) := by
  have e2 : esc (b :: l) = 92 :: b :: esc l := by simp [esc]
  have r : rb (92 :: b :: esc l) = (b, esc l) := rfl
  rw [e2]
  unfold step
  rw [r]
  cases l with
  | nil => rfl
  | cons c l =>
    have e3 : esc (c :: l) = 92 :: c :: esc l := by simp [esc]
    rw [e3]
    rfl
theorem names_esc (x : UInt8) (l : List UInt8) : names x (esc l) = l.any (· == x) := by
  induction l with
  | nil => exact names_nil x
  | cons b l ih =>
    rw [names_cons x (by simp [esc]), step_esc, ih, btw_self, List.any_cons]
theorem sg_means (k : Int) (a b : UInt8) (l : List UInt8) (x : UInt8) (h2 : k ≠ 2) : (sgOf k a b l).means x = smeans k a b l x := by
  unfold sgOf smeans
  split
  · rfl
  split
  · simp only [Sg.means, setM]
    rw [if_neg (by cases l <;> simp [esc]), names_esc]
  split
  · simp only [Sg.means, setM]
    rw [if_pos (by rfl), List.tail_cons, names_esc]
  split
  · simp only [Sg.means, setM]
    rw [if_neg (by simp), names_cons x (by simp)]
    have e : step [92, a, 45, 92, b] = (a, b, []) := rfl
    rw [e, names_nil, Bool.or_false]
  split
  · simp only [Sg.means, setM]
    rw [if_pos (by rfl), List.tail_cons, names_cons x (by simp)]
    have e : step [92, a, 45, 92, b] = (a, b, []) := rfl
    rw [e, names_nil, Bool.or_false]
  · simp only [Sg.means]
    exact BEq.comm
theorem sg_star (k : Int) (a b : UInt8) (l : List UInt8) (h2 : k ≠ 2) : (sgOf k a b l).isStar = false := by
  unfold sgOf
  (repeat' split) <;> first | rfl | contradiction
theorem D_wrB (k : Int) (a b : UInt8) (l : List UInt8) : D (wrB k a b l) 0 = wr k a b l ++ [] := by rw [List.append_nil]; rfl
theorem one_star (a b : UInt8) (l : List UInt8) (s : ByteArray) : ans (wrB 2 a b l) s = true := by
  unfold ans
  rw [D_wrB, sgs_wr, sgs_nil]
  exact star_nil _
theorem one_byte (k : Int) (a b : UInt8) (l : List UInt8) (x : UInt8) (h2 : k ≠ 2) : ans (wrB k a b l) ⟨#[x]⟩ = smeans k a b l x := by
  unfold ans
  rw [D_wrB, sgs_wr, sgs_nil]
  show M [sgOf k a b l] [x] = _
  rw [M_one_cons (sg_star k a b l h2), sg_means k a b l x h2]
  simp [M]
theorem one_other (k : Int) (a b : UInt8) (l : List UInt8) (s : ByteArray) (h2 : k ≠ 2) (hs : s.size ≠ 1) : ans (wrB k a b l) s = false := by
  unfold ans
  rw [D_wrB, sgs_wr, sgs_nil, D_zero]
  have hl : s.data.toList.length ≠ 1 := by rw [len]; exact hs
  generalize s.data.toList = t at hl
  match t, hl with
  | [], _ => exact M_one_nil (sg_star k a b l h2)
  | [x], hl => exact absurd rfl hl
  | x :: y :: r, _ =>
    rw [M_one_cons (sg_star k a b l h2)]
    simp [M]
theorem wr_len (k : Int) (a b : UInt8) (l : List UInt8) : (wr k a b l).length ≤ 2 * l.length + 8 := by
  unfold wr
  (repeat' split) <;> simp only [List.length_cons, List.length_nil, List.length_append, esc_len] <;> omega
theorem wrB_size (k : Int) (a b : UInt8) (l : List UInt8) : (wrB k a b l).size ≤ 2 * l.length + 8 := by
  show (wr k a b l).toArray.size ≤ _
  rw [List.size_toArray]; exact wr_len k a b l
end Gb
end Go.Proofs.Ytekkpmonflpenaa
