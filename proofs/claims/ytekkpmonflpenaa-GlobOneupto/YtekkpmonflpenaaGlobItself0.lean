/-
  Plain mathematics: a text with each byte escaped, and a text without signs, mean themselves alone.
-/
import Derived.Test.YtekkpmonflpenaaGlobWakes
namespace Go.Proofs.Ytekkpmonflpenaa
open Go.RowKit
namespace Gb
theorem sgs_esc_app (l q : List UInt8) : sgs (esc l ++ q) = l.map .byte ++ sgs q := by
  induction l with
  | nil => rfl
  | cons b l ih =>
    have e : esc (b :: l) ++ q = 92 :: b :: (esc l ++ q) := by simp [esc]
    rw [e, sgs_step]
    have r : rs (92 :: b :: (esc l ++ q)) = (.byte b, esc l ++ q) := rfl
    rw [r, ih]
    rfl
theorem sgs_esc (l : List UInt8) : sgs (esc l) = l.map .byte := by
  have h := sgs_esc_app l []
  rw [List.append_nil, sgs_nil, List.append_nil] at h
  exact h
/-- a byte that begins no sign of its own -/
def tame (c : UInt8) : Bool := !(c == 42 || c == 63 || c == 91 || c == 92)
theorem sgs_tame (l : List UInt8) (h : l.all tame = true) : sgs l = l.map .byte := by
  induction l with
  | nil => exact sgs_nil
  | cons c l ih =>
    rw [List.all_cons, Bool.and_eq_true] at h
    have hc := h.1
    unfold tame at hc
    simp only [Bool.not_eq_true', Bool.or_eq_false_iff, beq_eq_false_iff_ne] at hc
    obtain ⟨⟨⟨h1, h2⟩, h3⟩, h4⟩ := hc
    rw [sgs_step]
    have r : rs (c :: l) = (.byte c, l) := by
      simp only [rs]
      rw [if_neg h1, if_neg h2, if_neg h3]
      cases l with
      | nil => rfl
      | cons d l => simp only [rb]; rw [if_neg h4]
    rw [r, ih h.2]
    rfl
theorem plain_bytes (l : List UInt8) : plainOf (l.map .byte) = some l := by
  induction l with
  | nil => rfl
  | cons b l ih => simp only [List.map_cons, plainOf, ih]; rfl
theorem M_bytes (l t : List UInt8) : M (l.map .byte) t = (l == t) := by
  induction l generalizing t with
  | nil => cases t <;> rfl
  | cons b l ih =>
    cases t with
    | nil => rfl
    | cons c t =>
      simp only [List.map_cons, M]
      rw [ih, List.cons_beq_cons]
      congr 1
      exact BEq.comm
theorem D_escB (s : ByteArray) : D (escB s) 0 = esc s.data.toList := rfl
theorem text_back (s : ByteArray) : (⟨s.data.toList.toArray⟩ : ByteArray) = s := by
  cases s; simp
theorem esc_plain (s : ByteArray) : ptext (escB s) = s ∧ pok (escB s) = true := by
  unfold ptext pok
  rw [D_escB, sgs_esc, plain_bytes]
  exact ⟨text_back s, rfl⟩
theorem esc_match (s t : ByteArray) : ans (escB s) t = (s.toList == t.toList) := by
  unfold ans
  rw [D_escB, sgs_esc, M_bytes, D_zero, ByteArray.toList_eq, ByteArray.toList_eq]
theorem tame_plain (s : ByteArray) (h : s.data.toList.all tame = true) : ptext s = s ∧ pok s = true := by
  unfold ptext pok
  rw [D_zero, sgs_tame _ h, plain_bytes]
  exact ⟨text_back s, rfl⟩
theorem tame_match (s t : ByteArray) (h : s.data.toList.all tame = true) : ans s t = (s.toList == t.toList) := by
  unfold ans
  rw [D_zero, sgs_tame _ h, M_bytes, D_zero, ByteArray.toList_eq, ByteArray.toList_eq]
theorem tame_more {s : ByteArray} {k : Nat} (hk : k < s.size) (h : (s.data.toList.take k).all tame = true) (h1 : ¬ (s[k].toNat : Int) = 42) (h2 : ¬ (s[k].toNat : Int) = 63) (h3 : ¬ (s[k].toNat : Int) = 91) (h4 : ¬ (s[k].toNat : Int) = 92) :
    (s.data.toList.take (k + 1)).all tame = true := by
  rw [take_snoc s k hk, List.all_append, h, Bool.true_and, List.all_cons, List.all_nil, Bool.and_true]
  unfold tame
  rw [beq_eq_false_iff_ne.2 (byte_no (b := 42) h1), beq_eq_false_iff_ne.2 (byte_no (b := 63) h2), beq_eq_false_iff_ne.2 (byte_no (b := 91) h3), beq_eq_false_iff_ne.2 (byte_no (b := 92) h4)]
  rfl
end Gb
end Go.Proofs.Ytekkpmonflpenaa
