/-
  The document's signs as they lie in memory, one behind the other.
-/
import Derived.Test.YtmlpfijabdkbjaaGlobRsigns
namespace Go.Proofs.Ytmlpfijabdkbjaa
open Go.RowKit
namespace Gb
def plB : Sg → Bool
  | some (some (.inl _)) => true
  | _ => false
def onB : Sg → UInt8
  | some (some (.inl b)) => b
  | _ => 0
theorem sgsF_len (n : Nat) : ∀ l : List UInt8, (sgsF n l).length ≤ n := by
  induction n with
  | zero => intro l; exact Nat.le_refl _
  | succ n ih =>
    intro l
    simp only [sgsF]
    split
    · simp
    · have := ih (rs l).2
      simp; omega
theorem sgs_length (p : ByteArray) : (sgs (D p 0)).length ≤ p.size := by
  have := sgsF_len (D p 0).length (D p 0)
  rw [D_len] at this
  unfold sgs
  rw [D_len]
  exact this
end Gb
theorem sg_star (g : Gb.Sg) : (sgRow g)[0]? = some (.bool g.isStar) := by
  rcases g with _ | _ | _ | _ <;> rfl
theorem sg_plain (g : Gb.Sg) : (sgRow g)[258]? = some (.bool (Gb.plB g)) := by
  rcases g with _ | _ | _ | _ <;> exact row_plain _ _ _ _
theorem sg_one (g : Gb.Sg) : (sgRow g)[257]? = some (.int .u8 (Gb.onB g).toNat) := by
  rcases g with _ | _ | _ | _ <;> exact row_one _ _ _ _
theorem sg_means (g : Gb.Sg) (x : UInt8) (hs : g.isStar = false) : (sgRow g)[1 + x.toNat]? = some (.bool (g.means x)) := by
  have hx : x.toNat < 256 := x.toNat_lt
  rcases g with _ | _ | b | l
  · cases hs
  · exact row_byte _ _ _ _ hx
  · show (row _ _ _ _)[1 + x.toNat]? = _
    rw [row_byte _ _ _ _ hx]
    congr 2
    unfold upd
    show _ = (x == b)
    by_cases e : x = b
    · rw [e, if_pos rfl]; simp
    · rw [if_neg (fun h => e (UInt8.toNat_inj.1 h))]
      exact (beq_eq_false_iff_ne.2 e).symm
  · show (row _ _ _ _)[1 + x.toNat]? = _
    rw [row_byte _ _ _ _ hx, UInt8.ofNat_toNat]
    rfl
theorem cellsOf_len (l : List Gb.Sg) : (cellsOf l).length = l.length * 259 := by
  induction l with
  | nil => rfl
  | cons g l ih =>
    show (sgRow g ++ cellsOf l).length = _
    rw [List.length_append, sgRow_len, ih, List.length_cons]; omega
theorem cellsOf_at (l : List Gb.Sg) (i c : Nat) (hi : i < l.length) (hc : c < 259) : (cellsOf l)[i * 259 + c]? = (sgRow l[i])[c]? := by
  induction l generalizing i with
  | nil => simp at hi
  | cons g l ih =>
    show (sgRow g ++ cellsOf l)[i * 259 + c]? = _
    cases i with
    | zero => rw [Nat.zero_mul, Nat.zero_add, List.getElem?_append_left (by rw [sgRow_len]; exact hc)]; rfl
    | succ i =>
      rw [List.getElem?_append_right (by rw [sgRow_len]; omega), sgRow_len, show (i + 1) * 259 + c - 259 = i * 259 + c by omega]
      exact ih i (by simpa using hi)
/-- the signs lie one behind the other in one block -/
def SgsAt (w : World) (ao : Option Addr) (l : List Gb.Sg) : Prop :=
  ∀ i (h : i < l.length), ∃ g, ao = some ⟨g, 0, none⟩ ∧ g < w.heap.size ∧ ∀ c u, (sgRow l[i])[c]? = some u → w.cell? ⟨g, i * 259 + c, none⟩ = some u
theorem SgsAt.bel {w w' : World} {ao : Option Addr} {l : List Gb.Sg} (h : SgsAt w ao l) (hb : Below w.heap.size w w') : SgsAt w' ao l := by
  intro i hi
  obtain ⟨g, e, h1, h2⟩ := h i hi
  have hs := hb.size
  exact ⟨g, e, by omega, fun c u hu => by rw [hb.cell (p := ⟨g, i * 259 + c, none⟩) h1]; exact h2 c u hu⟩
theorem sgs_at {w : World} {B n : Nat} {v : Value} {l : List Gb.Sg} {xs : List Value} (h : w.ownsRow B 36 259 v n xs) (hn : n = l.length) (hxs : xs = cellsOf l) :
    ∃ ao cap, v = .slice ao l.length cap ∧ l.length ≤ cap ∧ cap ≤ maxLen ∧ Kept (SgsAt w ao l) := by
  subst hn hxs
  obtain ⟨_, ⟨rfl, h0⟩ | ⟨g, cap, cur, rfl, hg, hh, hc, hm, hs, ht⟩⟩ := h
  · exact ⟨none, 0, by rw [h0], by omega, Nat.zero_le _, fun i hi => absurd hi (by omega)⟩
  · refine ⟨some ⟨g, 0, none⟩, cap, rfl, hc, hm, fun i hi => ⟨g, rfl, ?_, fun c u hu => ?_⟩⟩
    · rcases Nat.lt_or_ge g w.heap.size with h' | h'
      · exact h'
      · rw [Array.getElem?_eq_none h'] at hh; cases hh
    · have hc2 : c < 259 := by
        rcases Nat.lt_or_ge c 259 with h | h
        · exact h
        · rw [List.getElem?_eq_none (by rw [sgRow_len]; exact h)] at hu; cases hu
      have e1 : (cur.toList.take (l.length * 259))[i * 259 + c]? = some u := by rw [ht, cellsOf_at l i c hi hc2, hu]
      have hlt : i * 259 + c < l.length * 259 := by
        have : (i + 1) * 259 ≤ l.length * 259 := Nat.mul_le_mul_right _ (by omega)
        omega
      rw [List.getElem?_take_of_lt hlt, Array.getElem?_toList] at e1
      rw [cell_of_row _ _ _ cur 36 (0, 0) hh]
      exact e1
end Go.Proofs.Ytmlpfijabdkbjaa
