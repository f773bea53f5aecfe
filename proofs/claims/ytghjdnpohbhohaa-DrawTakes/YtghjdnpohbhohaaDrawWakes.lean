/-
  Contracts over this program: the statements' own first question (wakes), and the chapter's examples.
-/
import Derived.Test.YtghjdnpohbhohaaDrawSrc
namespace Go.Proofs.Ytghjdnpohbhohaa
open Go.RowKit
theorem hash_at (seed v : Nat) (l : Array UInt8) (w : World) (hs : l.size ≤ maxLen) (hsd : seed < Dw.M) (h : Dw.hsh seed l.toList = v) :
    Calls Try.prog 8 #[.int .u64 seed, .string ⟨l⟩] w fun e w' => e = .returned (.int .u64 v) ∧ w' = w := by
  rw [← h]
  exact hash_any seed ⟨l⟩ w hs hsd
theorem ints_two (w : World) (x y : Nat) : Ints (w.alloc (.cells #[.int .u64 x, .int .u64 y] 22)) (.slice (some ⟨w.heap.size, 0, none⟩) 2 2) [x, y] := by
  refine .inr ⟨⟨w.heap.size, 0, none⟩, 2, rfl, by simp, by decide, ?_⟩
  intro j hj
  match j, hj with
  | 0, _ => simp [Addr.add]
  | 1, _ => simp [Addr.add]
theorem bel_trans {B : Nat} {a b c : World} (h : Below B a b) (hs : B ≤ b.heap.size) (g : Below b.heap.size b c) : Below B a c := h.trans (g.mono hs)
set_option maxHeartbeats 400000 in
theorem wakes_any (w : World) :
    Calls Try.prog 17 #[] w fun e w' => e = .returned (.bool true) ∧ Below w.heap.size w w' := by
  have mH := fun w => hash_at 0 9417481573473063714 #[97] w (by decide) (by decide +kernel) (by decide +kernel)
  go_enter Try.func17, Try.ntmps17
  go_wp2_with fail
  refine (new_any _ _ [7, 3] (ints_two w 7 3) (by decide)).mono ?_
  rintro e w1 ⟨b, g, rfl, hsrc, hb1, hb2, hg1, hg2, hbel⟩
  go_wp2_with fail
  refine (mH _).mono ?_
  rintro e w2 ⟨rfl, rfl⟩
  go_wp2_with fail
  refine (below_any _ b g 5 _ hsrc (by decide)).mono ?_
  rintro e w3 ⟨rfl, hsrc3, ho3⟩
  go_wp2_with fail
  refine (next_any _ b g _ hsrc3).mono ?_
  rintro e w4 ⟨rfl, hsrc4, ho4⟩
  go_wp2
  go_ret
  have hs : w.heap.size ≤ b := by simp at hb1; omega
  refine ⟨rfl, ?_⟩
  exact (((Below.refl _ _).alloc (Nat.le_refl _) _).trans (hbel.mono (by simp))).trans ((ho3.1 _ hs).trans (ho4.1 _ hs))
set_option maxHeartbeats 800000 in
theorem known_any (w : World) :
    Calls Try.prog 7 #[] w fun e w' => e = .returned (.bool true) ∧ Below w.heap.size w w' := by
  have m1 := fun w => hash_at 0 9615434041927672947 #[] w (by decide) (by decide +kernel) (by decide +kernel)
  have m2 := fun w => hash_at 1 15918890184967323160 #[97] w (by decide) (by decide +kernel) (by decide +kernel)
  have m3 := fun w => hash_at 0 6757428951546481954 #[112, 97, 110, 116, 114, 121] w (by decide) (by decide +kernel) (by decide +kernel)
  have m4 := fun w => hash_at 0 8203627883128763089 #[0] w (by decide) (by decide +kernel) (by decide +kernel)
  have m5 := fun w => hash_at 18446744073709551615 12634129523333122895 #[107, 101, 121] w (by decide) (by decide +kernel) (by decide +kernel)
  go_enter Try.func7, Try.ntmps7
  go_wp2_with fail
  refine (new_any _ _ [7, 3] (ints_two w 7 3) (by decide)).mono ?_
  rintro e w1 ⟨b, g, rfl, hsrc, hb1, hb2, hg1, hg2, hbel⟩
  go_wp2_with fail
  refine (wakes_any _).mono ?_
  rintro e w2 ⟨rfl, hbel2⟩
  have hsrc2 := hsrc.kept (hbel2.block b hb2) (hbel2.block g hg2)
  clear hsrc
  go_wp2_with fail
  refine (below_any _ b g 5 _ hsrc2 (by decide)).mono ?_
  rintro e w3 ⟨rfl, hsrc3, ho3⟩
  go_wp2_with fail
  refine (left_any _ b g _ hsrc3).mono ?_
  rintro e w' ⟨rfl, rfl⟩
  go_wp2_with fail
  refine (below_any _ b g 0 _ hsrc3 (by decide)).mono ?_
  rintro e w4 ⟨rfl, hsrc4, ho4⟩
  go_wp2_with fail
  refine (left_any _ b g _ hsrc4).mono ?_
  rintro e w' ⟨rfl, rfl⟩
  go_wp2_with fail
  refine (next_any _ b g _ hsrc4).mono ?_
  rintro e w5 ⟨rfl, hsrc5, ho5⟩
  go_wp2_with fail
  refine (left_any _ b g _ hsrc5).mono ?_
  rintro e w' ⟨rfl, rfl⟩
  go_wp2_with fail
  refine (m1 _).mono ?_
  rintro e w' ⟨rfl, rfl⟩
  go_wp2_with fail
  refine (m2 _).mono ?_
  rintro e w' ⟨rfl, rfl⟩
  go_wp2_with fail
  refine (m3 _).mono ?_
  rintro e w' ⟨rfl, rfl⟩
  go_wp2_with fail
  refine (m4 _).mono ?_
  rintro e w' ⟨rfl, rfl⟩
  go_wp2_with fail
  refine (m5 _).mono ?_
  rintro e w' ⟨rfl, rfl⟩
  go_wp2
  go_ret
  have hs : w.heap.size ≤ b := by simp at hb1; omega
  have h1 := hbel.size
  have h2 := hbel2.size
  refine ⟨rfl, ?_⟩
  exact ((((Below.refl _ _).alloc (Nat.le_refl _) _).trans (hbel.mono (by simp))).trans (hbel2.mono (by simp at h1; omega))).trans (((ho3.1 _ hs).trans (ho4.1 _ hs)).trans (ho5.1 _ hs))
end Go.Proofs.Ytghjdnpohbhohaa
