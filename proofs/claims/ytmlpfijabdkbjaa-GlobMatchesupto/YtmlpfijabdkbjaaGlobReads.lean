/-
  Contracts over this program: what glob.readByte and glob.setMeans answer at any row of bytes.
-/
import Derived.Test.YtmlpfijabdkbjaaProg
import Derived.Test.YtmlpfijabdkbjaaGlobs
import Derived.WalkKit
import Derived.OpenShut
import Derived.Outline
import Derived.WalkLawsBesides
namespace Go.Proofs.Ytmlpfijabdkbjaa
open Go.RowKit
namespace Gb
/-- what stands in a text from a place on -/
def D (s : ByteArray) (k : Nat) : List UInt8 := s.data.toList.drop k
theorem len (s : ByteArray) : s.data.toList.length = s.size := Array.length_toList
theorem D_cons (s : ByteArray) (k : Nat) (h : k < s.size) : D s k = s[k] :: D s (k + 1) := by
  unfold D
  rw [List.drop_eq_getElem_cons (by rw [len]; exact h)]
  rfl
theorem D_nil (s : ByteArray) (k : Nat) (h : s.size ≤ k) : D s k = [] := List.drop_of_length_le (by rw [len]; exact h)
theorem D_len (s : ByteArray) (k : Nat) : (D s k).length = s.size - k := by unfold D; rw [List.length_drop, len]
theorem D_zero (s : ByteArray) : D s 0 = s.data.toList := rfl
theorem D_ne (s : ByteArray) (k : Nat) (h : k < s.size) : D s k ≠ [] := by rw [D_cons s k h]; simp
theorem byte_is {a b : UInt8} (h : (a.toNat : Int) = (b.toNat : Int)) : a = b := UInt8.toNat_inj.1 (by omega)
theorem byte_no {a b : UInt8} (h : ¬ (a.toNat : Int) = (b.toNat : Int)) : a ≠ b := by
  intro e; apply h; rw [e]
theorem rb_two {s : ByteArray} {k : Nat} (h : k + 1 < s.size) (h0 : k < s.size) (hb : (s[k].toNat : Int) = 92) : rb (D s k) = (s[k+1], D s (k + 2)) := by
  rw [D_cons s k h0, D_cons s (k + 1) h, byte_is (b := 92) hb]
  rfl
theorem rb_one {s : ByteArray} {k : Nat} (h0 : k < s.size) (hb : ¬ (s[k].toNat : Int) = 92) : rb (D s k) = (s[k], D s (k + 1)) := by
  rw [D_cons s k h0]
  by_cases h : k + 1 < s.size
  · rw [D_cons s (k + 1) h]
    have := byte_no (b := 92) hb
    simp only [rb]
    rw [if_neg this]
  · rw [D_nil s (k + 1) (by omega)]; rfl
theorem rb_last {s : ByteArray} {k : Nat} (h0 : k < s.size) (h : ¬ k + 1 < s.size) : rb (D s k) = (s[k], D s (k + 1)) := by
  rw [D_cons s k h0, D_nil s (k + 1) (by omega)]; rfl
end Gb
theorem ret_ii {k l : IntKind} {a b c d : Int} (h : a = c) (g : b = d) : Ending.returned (.tuple #[.int k a, .int l b]) = .returned (.tuple #[.int k c, .int l d]) := by rw [h, g]
set_option maxHeartbeats 400000 in
theorem readByte_any (s : ByteArray) (k : Nat) (w : World) (hs : s.size ≤ 1099511627776) (hk : k < s.size) :
    Calls Try.prog 13 #[.string s, .int .i64 k] w fun e w' => ∃ (b : UInt8) (n : Nat), e = .returned (.tuple #[.int .u8 b.toNat, .int .i64 n]) ∧ w' = w ∧ Gb.rb (Gb.D s k) = (b, Gb.D s n) ∧ k < n ∧ n ≤ s.size := by
  by_cases c1 : (s[k].toNat : Int) = 92
  · by_cases c2 : k + 1 < s.size
    · have st := keep (Gb.rb_two c2 hk c1)
      go_enter Try.func13, Try.ntmps13
      go_wp2
      go_ret2
      exact ⟨s[k+1], k + 2, ret_ii (by omega) (by omega), rfl, st.out, by omega, by omega⟩
    · have st := keep (Gb.rb_last hk c2)
      go_enter Try.func13, Try.ntmps13
      go_wp2
      go_ret2
      exact ⟨s[k], k + 1, ret_ii (by omega) (by omega), rfl, st.out, by omega, by omega⟩
  · have st := keep (Gb.rb_one hk c1)
    go_enter Try.func13, Try.ntmps13
    go_wp2
    go_ret2
    exact ⟨s[k], k + 1, ret_ii (by omega) (by omega), rfl, st.out, by omega, by omega⟩
end Go.Proofs.Ytmlpfijabdkbjaa
