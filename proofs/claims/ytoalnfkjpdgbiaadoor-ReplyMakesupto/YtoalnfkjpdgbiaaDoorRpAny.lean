/-
  Contracts over this program: strings.ContainsAny of CR LF at any text.
-/
import Derived.Test.YtoalnfkjpdgbiaaDoorRpRunes
import Derived.Test.YtoalnfkjpdgbiaaDoorRpTexts
namespace Go.Proofs.YtoalnfkjpdgbiaaDoor
open Go.RowKit
set_option linter.unusedVariables false
theorem any_clean : ∀ l : List UInt8, decide (0 ≤ Lib.indexAny l [13, 10]) = !(Rp.clean l)
  | [] => rfl
  | b :: l => by
    have ih := any_clean l
    have hge := Lib.indexAny_ge [13, 10] l
    unfold Lib.indexAny
    cases hc : ([13, 10] : List UInt8).contains b with
    | true =>
      have hb : (b != 13 && b != 10) = false := by
        simp at hc
        rcases hc with rfl | rfl <;> rfl
      simp [Rp.clean, List.all_cons, hb]
    | false =>
      have hb : (b != 13 && b != 10) = true := by
        simp at hc
        simp [hc]
      have hcl : Rp.clean (b :: l) = Rp.clean l := by simp [Rp.clean, List.all_cons, hb]
      rw [hcl, ← ih]
      simp only [Bool.false_eq_true, if_false]
      by_cases h1 : Lib.indexAny l [13, 10] = -1
      · simp [h1]
      · have h1' : (Lib.indexAny l [13, 10] == -1) = false := beq_eq_false_iff_ne.2 h1
        rw [h1']
        simp only [Bool.false_eq_true, if_false]
        by_cases h2 : 0 ≤ Lib.indexAny l [13, 10]
        · rw [decide_eq_true h2, decide_eq_true (by omega)]
        · rw [decide_eq_false h2, decide_eq_false (by omega)]
theorem zero133 (w : World) : (zeroValue 133).run Tryd.prog w = .ok (.agg (Array.replicate 256 (.bool false))) w := by kernel_rfl
theorem sidx_any (s : ByteArray) (w : World) (hs : s.size < 4294967281) :
    Calls Tryd.prog 81 #[.string s, .string ⟨#[13, 10]⟩] w fun e w' => e = .returned (.int .i64 (Lib.indexAny s.data.toList [13, 10])) ∧ Below w.heap.size w w' := by
  by_cases h8 : s.size ≤ 8
  · exact sidx_short s w h8
  · refine (Tryd.strings_IndexAny_long zero133 s ⟨#[13, 10]⟩ w (by show 2 ≤ 2; omega) (by omega) hs (by show 2 < 4294967281; omega) (fun j b hj => ?_)).mono ?_
    · have hm : b ∈ ([13, 10] : List UInt8) := List.mem_of_getElem? hj
      simp at hm
      rcases hm with rfl | rfl <;> decide
    · rintro e w' ⟨rfl, rfl⟩
      refine ⟨rfl, ((Below.refl _ _).alloc (Nat.le_refl _) _).alloc ?_ _⟩
      show _ ≤ (w.heap.push _).size
      simp
set_option maxHeartbeats 1000000 in
theorem contains_any (s : ByteArray) (w : World) (hs : s.size < 4294967281) :
    Calls Tryd.prog 65 #[.string s, .string ⟨#[13, 10]⟩] w fun e w' => e = .returned (.bool (!(Rp.clean (Rp.bytesOf s)))) ∧ Below w.heap.size w w' := by
  have hi := sidx_any s w hs
  have hc := any_clean s.data.toList
  have HC : Kept (decide (0 ≤ Lib.indexAny s.data.toList [13, 10]) = !(Rp.clean (Rp.bytesOf s))) := keep hc
  generalize Lib.indexAny s.data.toList [13, 10] = v at hi HC
  generalize (!(Rp.clean (Rp.bytesOf s))) = b at HC ⊢
  have HI := keep hi
  clear hi hc hs
  go_enter Tryd.func65, Tryd.ntmps65
  go_wp2_with fail
  refine HI.out.mono ?_
  rintro e w' ⟨rfl, b1⟩
  have B1 := keep b1
  clear b1 HI
  go_wp2
  go_ret
  exact ⟨by rw [HC.out]; rfl, B1.out⟩
end Go.Proofs.YtoalnfkjpdgbiaaDoor
