/-
  Contracts over this program: digit.Text as some text whose bytes are the number's word; digit.Int of that word.
-/
import Derived.Test.YtdpclcopckbgeaaDoorWakes
import Derived.Test.YtdpclcopckbgeaaDoorDigs
namespace Go.Proofs.YtdpclcopckbgeaaDoor
open Go.RowKit
theorem list_eq (s : ByteArray) : s.toList = s.data.toList := by
  obtain ⟨⟨l⟩⟩ := s
  simp
theorem text_some (n : Int) (w : World) (h1 : -9223372036854775808 ≤ n) (h2 : n ≤ 9223372036854775807) (ht : Tab w) :
    Calls Tryd.prog 6 #[.int .i64 n] w fun e w' => ∃ t : ByteArray, e = .returned (.string t) ∧ t.data.toList = Lib.itoa n ∧ t.size ≤ maxLen ∧ Below w.heap.size w w' := by
  refine (text_any n w h1 h2 ht).mono ?_
  rintro e w' ⟨rfl, hb⟩
  refine ⟨_, rfl, rfl, ?_, hb⟩
  have := Pl.itoa_len n h1 h2
  show (Lib.itoa n).toArray.size ≤ maxLen
  rw [List.size_toArray]
  unfold maxLen
  omega
theorem int_back {n : Int} {t : ByteArray} (w : World) (h1 : -9223372036854775808 ≤ n) (h2 : n ≤ 9223372036854775807) (ht : t.data.toList = Lib.itoa n) (hs : t.size ≤ maxLen) :
    Calls Tryd.prog 9 #[.string t] w fun e w' => e = .returned (.tuple #[.int .i64 n, .int .i64 0]) ∧ w' = w := by
  have h := int_any t w hs
  obtain ⟨e1, e2⟩ := Pl.back n h1 h2
  rw [ht, e1, e2] at h
  exact h
theorem int_at {s : ByteArray} {a b : Int} (w : World) (hs : s.size ≤ maxLen) (h1 : Pl.iv s.data.toList = a) (h2 : Pl.ic s.data.toList = b) :
    Calls Tryd.prog 9 #[.string s] w fun e w' => e = .returned (.tuple #[.int .i64 a, .int .i64 b]) ∧ w' = w := by
  have h := int_any s w hs
  rw [h1, h2] at h
  exact h
end Go.Proofs.YtdpclcopckbgeaaDoor
