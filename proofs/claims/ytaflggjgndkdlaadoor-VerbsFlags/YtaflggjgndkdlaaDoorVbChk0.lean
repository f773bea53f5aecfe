/-
  Contracts over this program: words that are too long, how many words a row asks for.
-/
import Derived.Test.YtaflggjgndkdlaaDoorVbFind
namespace Go.Proofs.YtaflggjgndkdlaaDoor
open Go.RowKit
set_option linter.unusedVariables false
/-- texts that lie in a row -/
def Wd (w : World) (so : Option Addr) (S : List ByteArray) : Prop :=
  ∀ j (h : j < S.length), ∃ a, so = some a ∧ a.block < w.heap.size ∧ S[j].size ≤ maxLen ∧ w.cell? (a.add j) = some (.string S[j])
theorem Wd.below {w w' : World} {so : Option Addr} {S : List ByteArray} (h : Wd w so S) (hb : Below w.heap.size w w') : Wd w' so S := fun j hj => by
  obtain ⟨a, h1, h2, h3, h4⟩ := h j hj
  refine ⟨a, h1, Nat.lt_of_lt_of_le h2 hb.size, h3, ?_⟩
  rw [hb.cell (by have : (a.add j).block = a.block := by unfold Addr.add; split <;> rfl
                  rw [this]; exact h2)]
  exact h4
theorem Wd.take {w : World} {so : Option Addr} {S : List ByteArray} (h : Wd w so S) (n : Nat) : Wd w so (S.take n) := fun j hj => by
  have hj' : j < S.length := by rw [List.length_take] at hj; omega
  obtain ⟨a, h1, h2, h3, h4⟩ := h j hj'
  rw [List.getElem_take]
  exact ⟨a, h1, h2, h3, h4⟩
/-- too many words, or bytes in one or in all -/
def longW (S : List ByteArray) : Bool := decide (1024 < S.length) || (S.any (fun s => decide (1048576 < s.size)) || decide (4194304 < (S.map ByteArray.size).sum))
theorem sum_le (S : List ByteArray) (h : ∀ s ∈ S, s.size ≤ 1048576) : (S.map ByteArray.size).sum ≤ 1048576 * S.length := by
  induction S with
  | nil => exact Nat.le_refl _
  | cons s S ih =>
    have h1 := h s (by simp)
    have h2 := ih (fun x hx => h x (by simp [hx]))
    rw [List.map_cons, List.sum_cons, List.length_cons]
    omega
set_option maxRecDepth 100000 in
set_option maxHeartbeats 2000000 in
theorem tooLong_any (so : Option Addr) (cap : Nat) (S : List ByteArray) (w : World) (hT : Wd w so S) : Calls Tryd.prog 26 #[.slice so S.length cap] w fun e w' => e = .returned (.bool (longW S)) ∧ w' = w := by
  obtain ⟨q, hq⟩ : ∃ q, q = longW S := ⟨_, rfl⟩
  rw [← hq]
  by_cases hn : 1024 < S.length
  · have hq1 : q = true := by rw [hq]; unfold longW; rw [decide_eq_true hn]; rfl
    rw [hq1]
    have hn' : (1024 : Int) < (S.length : Int) := by omega
    clear hT hq hq1 hn
    go_enter Tryd.func26, Tryd.ntmps26
    go_wp2_with fail
    go_ret
    exact ⟨rfl, rfl⟩
  · have hn' : ¬ (1024 : Int) < (S.length : Int) := by omega
    obtain ⟨N, hN⟩ : ∃ N, S.length = N := ⟨_, rfl⟩
    rw [hN] at hn'
    have HN := keep hN
    have HQ := keep hq
    have HT := keep hT
    have HNN := keep hn
    rw [hN]
    clear hT hq hN hn
    go_enter Tryd.func26, Tryd.ntmps26
    go_wp2_with fail
    go_loopw [3, 5, 11] (fun v3 v5 v11 wr => ∃ j : Nat, j ≤ N ∧ v3 = .int .i64 (((S.take j).map ByteArray.size).sum : Nat) ∧ v11 = .int .i64 (j : Nat) ∧ (∀ s ∈ S.take j, s.size ≤ 1048576) ∧ wr = w) (fun _ _ v11 _ => N - (intOf v11).toNat)
    case atStart => exact ⟨0, Nat.zero_le _, rfl, rfl, by simp, rfl⟩
    case round =>
      obtain ⟨j, hj, rfl, rfl, ha, hw⟩ := hrel
      obtain rfl := hw.symm
      clear hw
      have hsum := sum_le _ ha
      have hn24 : N ≤ 1024 := by omega
      rw [List.length_take, HN.out] at hsum
      have hs30 : ((S.take j).map ByteArray.size).sum ≤ 1073741824 := Nat.le_trans hsum (Nat.mul_le_mul_left 1048576 (show min j N ≤ 1024 by omega))
      have HA := keep ha
      by_cases hlt : j < N
      · have hjS : j < S.length := by rw [HN.out]; exact hlt
        obtain ⟨a, rfl, h2, h3, h4⟩ := HT.out j hjS
        have htk : S.take (j + 1) = S.take j ++ [S[j]] := by rw [List.take_add_one, List.getElem?_eq_getElem hjS]; rfl
        obtain ⟨x, hx⟩ : ∃ x, x = S[j] := ⟨_, rfl⟩
        rw [← hx] at h3 h4 htk
        have hz : (j : Int) < (N : Int) := by omega
        have hz0 : (0 : Int) ≤ (j : Int) := by omega
        obtain ⟨T, hTT⟩ : ∃ T, T = ((S.take j).map ByteArray.size).sum := ⟨_, rfl⟩
        rw [← hTT] at hs30
        rw [← hTT]
        have HTT := keep hTT
        have HTK := keep htk
        by_cases hx1 : 1048576 < x.size
        · have hx1' : (1048576 : Int) < (x.size : Int) := by omega
          have hq1 : q = true := by
            rw [HQ.out]; unfold longW
            have : S.any (fun s => decide (1048576 < s.size)) = true := List.any_eq_true.2 ⟨x, by rw [hx]; exact List.getElem_mem _, by simpa using hx1⟩
            rw [this]; simp
          clear hTT htk hx hx1 ha hsum hs30 h2 h3 hn24 hjS
          go_wp2_with fail
          go_ret
          exact ⟨by first | rfl | (rw [hq1]; rfl), rfl⟩
        · have hx1' : ¬ (1048576 : Int) < (x.size : Int) := by omega
          have hx2 : x.size ≤ 1048576 := by omega
          have hw1 : IntKind.i64.wrap ((T : Int) + (x.size : Int)) = ((T + x.size : Nat) : Int) := by rw [IntKind.wrap_i64]; omega
          have hw2 : IntKind.i64.wrap ((j : Int) + 1) = ((j + 1 : Nat) : Int) := by rw [IntKind.wrap_i64]; omega
          have HX2 := keep hx2
          have HW1 := keep hw1
          clear hTT htk hx hx1 ha hsum hs30 h2 h3 hn24 hjS hx2
          go_wp2_with fail
          go_roundw
          case measure => simp [intOf]; omega
          case rel =>
            refine ⟨j + 1, by omega, ?_, by rfl, ?_, by first | trivial | rfl⟩
            · rw [HTK.out, List.map_append, List.sum_append, ← HTT.out]
              simp
            · intro s hs
              rw [HTK.out] at hs
              rcases List.mem_append.1 hs with hs | hs
              · exact HA.out s hs
              · rw [List.mem_singleton] at hs; rw [hs]; exact HX2.out
      · obtain rfl : j = N := by omega
        have hz : ¬ (j : Int) < (j : Int) := by omega
        have htk : S.take j = S := List.take_of_length_le (by rw [HN.out]; exact Nat.le_refl _)
        rw [htk] at ha hs30
        rw [htk]
        have hq1 : q = decide ((4194304 : Int) < (((S.map ByteArray.size).sum : Nat) : Int)) := by
          rw [HQ.out]; unfold longW
          have h1 : decide (1024 < S.length) = false := decide_eq_false HNN.out
          have h2 : S.any (fun s => decide (1048576 < s.size)) = false := by
            rw [List.any_eq_false]
            intro s hs
            have := ha s hs
            simp; omega
          rw [h1, h2, Bool.false_or, Bool.false_or]
          exact decide_eq_decide.2 (by omega)
        obtain ⟨T, hTT⟩ : ∃ T, T = (S.map ByteArray.size).sum := ⟨_, rfl⟩
        rw [← hTT] at hq1
        rw [← hTT]
        have HQ1 := keep hq1
        clear hTT ha hs30 htk hsum hn24 hq1
        go_wp2_with fail
        go_ret
        exact ⟨by rw [HQ1.out]; rfl, rfl⟩
def many (n : Nat) (a : Int) : Bool := if a < 0 then decide (-a ≤ (n : Int)) else decide ((n : Int) = a)
theorem asMany_any (n : Nat) (a : Int) (w : World) (h1 : -1000 ≤ a) (h2 : a ≤ 1000) : Calls Tryd.prog 27 #[.int .i64 n, .int .i64 a] w fun e w' => e = .returned (.bool (many n a)) ∧ w' = w := by
  unfold many
  by_cases c : a < 0
  · rw [if_pos c]
    have hw : IntKind.i64.wrap (-a) = -a := by rw [IntKind.wrap_i64]; omega
    go_enter Tryd.func27, Tryd.ntmps27
    go_wp2_with fail
    go_ret
    exact ⟨by simp, rfl⟩
  · rw [if_neg c]
    go_enter Tryd.func27, Tryd.ntmps27
    go_wp2_with fail
    go_ret
    exact ⟨by first | rfl | simp, rfl⟩
end Go.Proofs.YtaflggjgndkdlaaDoor
