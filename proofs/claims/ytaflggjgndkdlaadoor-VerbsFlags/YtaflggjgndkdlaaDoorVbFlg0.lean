/-
  What the table says of every name, by the document's own way of reading it: closed facts.
-/
import Derived.Test.YtaflggjgndkdlaaDoorVbNm0
import Derived.Test.YtaflggjgndkdlaaDoorVbChw
namespace Go.Proofs.YtaflggjgndkdlaaDoor
open Go.RowKit
set_option linter.unusedVariables false
def wB : ByteArray := ⟨#[119]⟩
def flN (i : Nat) : List UInt8 := srtL.getD i []
def flR (i : Nat) : Vb.Row := (Vb.find (flN i)).getD Vb.zeroR
def flA (i : Nat) : Nat := (flR i).1.natAbs
/-- the name and k words w behind it -/
def flW (i k : Nat) : List ByteArray := Vb.ofL (flN i) :: List.replicate k wB
theorem flW_len (i k : Nat) : (flW i k).length = k + 1 := by simp [flW]
theorem flW_succ (i k : Nat) : flW i (k + 1) = flW i k ++ [wB] := by
  unfold flW
  rw [List.replicate_succ', List.cons_append]
theorem flW_take (i k : Nat) : (flW i k).take k = match k with | 0 => [] | k + 1 => flW i k := by
  cases k with
  | zero => rfl
  | succ k =>
    unfold flW
    rw [List.take_succ_cons, List.take_replicate, Nat.min_eq_left (Nat.le_succ k)]
def one_ok (i : Nat) : Bool :=
  decide (Vb.up (Vb.ofL (flN i)) = Vb.ofL (flN i)) && decide (Vb.find (Vb.ofL (flN i)).toList = some (flR i)) && decide ((flN i).length ≤ 2000)
  && decide ((flR i).1 ≠ 0) && decide (flA i ≤ 5)
  && (decide ((flR i).2.1 = 0) || decide ((flR i).2.1 = 1) || decide ((flR i).2.1 = 3) || decide ((flR i).2.1 = 4) || decide ((flR i).2.1 = 8) || decide ((flR i).2.1 = 12))
  && decide ((chk (flW i (flA i - 1))).2.2 = 0)
  && (decide ((chk (flW i (flA i))).2.2 = 0) == decide ((flR i).1 < 0))
  && decide ((chk ((flW i (flA i - 1)).take (flA i - 1))).2.2 ≠ 0)
  && (decide (0 < (keysL (flW i (flA i - 1))).length) == decide (0 < (flR i).2.2.1))
  && (decide (i = 0) || (!(Op.bytesLess (flN i) (flN (i - 1))) && !(flN i == flN (i - 1))))
set_option maxRecDepth 100000 in
theorem all_ok : (List.range 113).all one_ok = true := by decide +kernel
theorem flags_ok {i : Nat} (hi : i < 113) :
    Vb.up (Vb.ofL (flN i)) = Vb.ofL (flN i) ∧ Vb.find (Vb.ofL (flN i)).toList = some (flR i) ∧ (flN i).length ≤ 2000 ∧
    (flR i).1 ≠ 0 ∧ flA i ≤ 5 ∧ ((flR i).2.1 = 0 ∨ (flR i).2.1 = 1 ∨ (flR i).2.1 = 3 ∨ (flR i).2.1 = 4 ∨ (flR i).2.1 = 8 ∨ (flR i).2.1 = 12) ∧
    (chk (flW i (flA i - 1))).2.2 = 0 ∧ ((chk (flW i (flA i))).2.2 = 0 ↔ (flR i).1 < 0) ∧ (chk ((flW i (flA i - 1)).take (flA i - 1))).2.2 ≠ 0 ∧
    (0 < (keysL (flW i (flA i - 1))).length ↔ 0 < (flR i).2.2.1) ∧ (i = 0 ∨ (Op.bytesLess (flN i) (flN (i - 1)) = false ∧ flN i ≠ flN (i - 1))) := by
  have h := List.all_eq_true.1 all_ok i (List.mem_range.2 hi)
  unfold one_ok at h
  simp only [Bool.and_eq_true, Bool.or_eq_true, decide_eq_true_eq, beq_iff_eq, Bool.not_eq_true', beq_eq_false_iff_ne, decide_eq_decide] at h
  obtain ⟨⟨⟨⟨⟨⟨⟨⟨⟨⟨h1, h2⟩, h3⟩, h4⟩, h5⟩, h6⟩, h7⟩, h8⟩, h9⟩, h10⟩, h11⟩ := h
  refine ⟨h1, h2, h3, h4, h5, ?_, h7, h8, h9, h10, h11⟩
  rcases h6 with ((((h | h) | h) | h) | h) | h <;> simp [h]
end Go.Proofs.YtaflggjgndkdlaaDoor
