/-
  Contracts over this program: strings.Index at one blank.
-/
import Derived.Test.YtaflggjgndkdlaaDoorVbTab
import Derived.Lib.Bytealg
namespace Go.Proofs.YtaflggjgndkdlaaDoor
open Go.RowKit
theorem blank_is : ∀ l : List UInt8, Lib.indexByte l 32 = if Vb.blank l < l.length then (Vb.blank l : Int) else -1
  | [] => rfl
  | c :: l => by
    have ih := blank_is l
    unfold Lib.indexByte Vb.blank
    rw [List.findIdx_cons]
    by_cases e : (c == 32) = true
    · rw [e]; simp
    · have e' : (c == 32) = false := by simpa using e
      rw [e', if_neg (by simp), ih]
      simp only [cond_false, List.length_cons, Nat.add_lt_add_iff_right]
      unfold Vb.blank
      split
      · rw [if_neg (by simp)]; simp
      · rfl
/-- where the first blank stands, or -1 -/
def bidx (s : ByteArray) : Int := Lib.indexByte s.data.toList 32
theorem ext_ib (s : ByteArray) (w : World) : (callFunc 67 #[.string s, .int .u8 32]).run Tryd.prog w = .ok (.value (.int .i64 (bidx s))) w := by
  rw [run_callFunc_extern (e := Extern.BytealgIndexByte.indexByte) Tryd.func67 (by kernel_rfl) (by kernel_rfl) (by kernel_rfl) (by kernel_rfl), Lib.run_indexByteString]
  rfl
theorem sib_any (s : ByteArray) (w : World) : Calls Tryd.prog 62 #[.string s, .int .u8 32] w fun e w' => e = .returned (.int .i64 (bidx s)) ∧ w' = w := by
  have hx := ext_ib s
  go_enter Tryd.func62, Tryd.ntmps62
  go_wp2
  go_ret
  exact ⟨rfl, rfl⟩
theorem b32 (h : 0 < (⟨#[32]⟩ : ByteArray).size) : ((⟨#[32]⟩ : ByteArray)[0]'h) = 32 := by decide +revert
set_option maxHeartbeats 1000000 in
theorem six_any (s : ByteArray) (w : World) : Calls Tryd.prog 53 #[.string s, .string ⟨#[32]⟩] w fun e w' => e = .returned (.int .i64 (bidx s)) ∧ w' = w := by
  have e0 := b32 (by decide)
  cases c : (([32] : List UInt8) == s.toList) with
  | true =>
    have hs : bidx s = 0 := by
      rw [beq_iff_eq, ByteArray.toList_eq] at c
      unfold bidx
      rw [← c]
      rfl
    rw [hs]
    clear hs
    go_enter Tryd.func53, Tryd.ntmps53
    go_wp2_with fail
    go_ret
    exact ⟨rfl, rfl⟩
  | false =>
    have m := keep (sib_any s)
    go_enter Tryd.func53, Tryd.ntmps53
    go_wp2_with fail
    refine (m.out _).mono ?_
    rintro _ w' ⟨rfl, rfl⟩
    go_wp2
    go_ret
    exact ⟨rfl, rfl⟩
theorem index_any (s : ByteArray) (w : World) : Calls Tryd.prog 38 #[.string s, .string ⟨#[32]⟩] w fun e w' => e = .returned (.int .i64 (bidx s)) ∧ w' = w := by
  have m := keep (six_any s)
  go_enter Tryd.func38, Tryd.ntmps38
  go_wp2_with fail
  refine (m.out _).mono ?_
  rintro _ w' ⟨rfl, rfl⟩
  go_wp2
  go_ret
  exact ⟨rfl, rfl⟩
end Go.Proofs.YtaflggjgndkdlaaDoor
