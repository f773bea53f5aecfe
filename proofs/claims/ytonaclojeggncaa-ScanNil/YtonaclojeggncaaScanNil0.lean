/-
  Contracts over this program: the statement ScanNil's own walk.
-/
import Derived.Test.YtonaclojeggncaaScanWakes
namespace Go.Proofs.Ytonaclojeggncaa
open Go.RowKit Go.Shelf
attribute [local go_sem] Oper.semAt_some
set_option maxRecDepth 100000 in
set_option maxHeartbeats 1000000 in
theorem nil_walk (w : World) (c : Nat) (cnt : Int) : Calls Try.prog 4 #[.int .u64 c, .int .i64 cnt] w fun e w' => e = .returned (.bool true) ∧ Below w.heap.size w w' := by
  have mN := next_str w (.pointer none) c cnt ((sizes_nilS w).mono fun e w' h => ⟨h.1, by rw [h.2]; exact Below.refl _ _⟩)
  go_enter Try.func4, Try.ntmps4
  go_wp2_with fail
  refine mN.mono ?_
  rintro _ w1 ⟨rfl, hb1⟩
  have mS := new_str w1 c
  have HB := keep hb1
  clear mN hb1
  go_wp2_with fail
  refine mS.mono ?_
  rintro _ w2 ⟨rfl, hw2⟩
  have hd : Ds w2 w1.heap.size c := by rw [hw2]; exact heap_alloc_new _ _
  have mX := next_str w2 _ c cnt (sizes_str w2 _ c hd)
  have HB2 : Kept (Below w.heap.size w w2) := by rw [hw2]; exact HB.out.alloc HB.out.size _
  clear mS hw2 hd HB
  go_wp2_with fail
  refine mX.mono ?_
  rintro _ w3 ⟨rfl, hb3⟩
  have mW := wakes_any w3
  have HB3 := keep (HB2.out.trans (hb3.mono HB2.out.size))
  clear mX hb3 HB2
  go_wp2_with fail
  refine mW.mono ?_
  rintro _ w4 ⟨rfl, hb4⟩
  have HB4 := keep (HB3.out.trans (hb4.mono HB3.out.size))
  clear mW hb4 HB3
  go_wp2
  go_ret
  exact ⟨rfl, HB4.out⟩
end Go.Proofs.Ytonaclojeggncaa
