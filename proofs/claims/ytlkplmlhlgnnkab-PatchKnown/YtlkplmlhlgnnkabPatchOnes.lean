/-
  Contracts over this program: patch.Ones at any input.
-/
import Derived.Test.YtlkplmlhlgnnkabPatchCalls
namespace Go.Proofs.Ytlkplmlhlgnnkab
open Go.RowKit
set_option linter.unusedVariables false
set_option maxHeartbeats 1000000 in
theorem ones_any (s : ByteArray) (a b : Int) (w : World) (h1 : -9223372036854775808 ≤ a) (h2 : a ≤ 9223372036854775807) (h3 : -9223372036854775808 ≤ b) (h4 : b ≤ 9223372036854775807) (hs : s.size ≤ reachBytes) :
    Calls Try.prog 9 #[.string s, .int .i64 a, .int .i64 b] w fun e w' => e = .returned (.int .i64 (Pt.ones (s.extract (sf a b s.size) (st a b s.size)).data.toList : Nat)) ∧ Below w.heap.size w w' := by
  have hst := fun w => stretch_any s a b w h1 h2 h3 h4 (Nat.le_trans hs (by decide))
  obtain ⟨x, hx⟩ : ∃ x, x = s.extract (sf a b s.size) (st a b s.size) := ⟨_, rfl⟩
  have hxs : x.size ≤ s.size := by rw [hx, ByteArray.size_extract]; omega
  unfold reachBytes at hs
  rw [← hx] at hst ⊢
  clear hx
  have r1 := run_bytes_of_string (P := Try.prog) w 9 33 5 x Try.underlying9 Try.underlying33 Try.underlying5
  have hbr := Br.text w.drew x (grownCap w x.size 0 5) (grownCap_ge w x.size 0 5) 0 (grownCap_ge w x.size 0 5)
  rw [List.replicate_zero, List.append_nil] at hbr
  have hbr2 : Br (w.drew.alloc (.cells (bytesRow x (grownCap w x.size 0 5)) 5 ((bytesRow x (grownCap w x.size 0 5)).size, (bytesRow x (grownCap w x.size 0 5)).size + 1))) w.heap.size x.data.toList := hbr
  have hB : Below w.heap.size w (w.drew.alloc (.cells (bytesRow x (grownCap w x.size 0 5)) 5 ((bytesRow x (grownCap w x.size 0 5)).size, (bytesRow x (grownCap w x.size 0 5)).size + 1))) := ((Below.refl w.heap.size w).drew).alloc (by exact Nat.le_refl _) _
  clear hbr
  generalize w.drew.alloc (.cells (bytesRow x (grownCap w x.size 0 5)) 5 ((bytesRow x (grownCap w x.size 0 5)).size, (bytesRow x (grownCap w x.size 0 5)).size + 1)) = w2 at *
  generalize grownCap w x.size 0 5 = c at *
  have HB := keep hB
  have HR := keep hbr2
  have hl := len_is x
  have hon := Pt.ones_le x.data.toList
  generalize x.data.toList = l at *
  obtain ⟨L, hL⟩ : ∃ L, L = x.size := ⟨_, rfl⟩
  rw [← hL] at hl r1 hxs
  have HL := keep hl
  have hLL : L ≤ 140737488351232 := by omega
  have tot : ∀ j, Pt.ones (l.take j) ≤ 1125899906809856 := fun j => by
    have := Pt.ones_le (l.take j); rw [List.length_take] at this; omega
  have TOT := keep tot
  have e0 : l.take L = l := List.take_of_length_le (by omega)
  clear hB hbr2 hl hon hL hxs hs tot
  rw [← e0]
  have E0 := keep e0
  clear e0
  go_enter Try.func9, Try.ntmps9
  go_wp2_with fail
  refine (hst _).mono ?_
  rintro e w' ⟨rfl, rfl⟩
  go_wp2
  go_loopw [7, 16] (fun u i wr => ∃ (j : Nat), j ≤ L ∧ i = .int .i64 j ∧ u = .int .i64 (Pt.ones (l.take j) : Nat) ∧ wr = w2) (fun _ i _ => L - (intOf i).toNat)
  case atStart => exact ⟨0, Nat.zero_le _, rfl, rfl, rfl⟩
  case round =>
    obtain ⟨j, hj, rfl, rfl, hw⟩ := hrel
    obtain rfl := hw.symm
    by_cases hlt : j < L
    · have hz : (j : Int) < (L : Int) := by omega
      have hz0 : (0 : Int) ≤ (j : Int) := by omega
      obtain ⟨k1, _⟩ := HR.out.2 j (by rw [HL.out]; exact hlt)
      have tk := Pt.ones_take_succ l j (by rw [HL.out]; exact hlt)
      have tg : l[j]'(by rw [HL.out]; exact hlt) = l.getD j 0 := by
        rw [List.getD_eq_getElem?_getD, List.getElem?_eq_getElem (by rw [HL.out]; exact hlt)]; rfl
      rw [tg] at k1
      have CN := keep fun w => count_any (l.getD j 0) w
      have t1 := TOT.out j
      have t2 := Pt.pc_le (l.getD j 0).toNat
      generalize l.getD j 0 = z at *
      generalize Pt.ones (l.take j) = o1 at *
      generalize Pt.pc z.toNat = pz at *
      have TK := keep tk
      clear tg tk
      go_wp2_with fail
      refine (CN.out _).mono ?_
      rintro e w' ⟨rfl, rfl⟩
      go_wp2
      go_roundw
      case measure => simp [intOf]; omega
      case rel => exact ⟨j + 1, by omega, by go_num, by rw [TK.out]; go_num, trivial⟩
    · obtain rfl : j = L := by omega
      have hz : ¬ (j : Int) < (j : Int) := by omega
      go_wp2
      go_ret
      exact ⟨rfl, HB.out⟩
end Go.Proofs.Ytlkplmlhlgnnkab
