/-
  Contracts over this program: what the document's own set answers, where the pattern ends ahead of it.
-/
import Derived.Test.YtmlpfijabdkbjaaGlobRefSet
import Derived.Deep.LoopGhost
namespace Go.Proofs.Ytmlpfijabdkbjaa
open Go.RowKit
set_option maxHeartbeats 8000000 in
set_option maxRecDepth 100000 in
theorem rset_end (p : ByteArray) (a : Nat) (w : World) (ha : a ≤ p.size) (hlt0 : ¬ a < p.size) :
    Calls Try.prog 15 #[.string p, .int .i64 a] w fun e w' => ∃ n : Nat, e = .returned (.tuple #[.agg (row false (fun i => Gb.setM (Gb.ins p a) (UInt8.ofNat i)) 0 false).toArray, .int .i64 n]) ∧ Below w.heap.size w w' ∧ Kept (Gb.beh p a = Gb.D p n) ∧ a ≤ n ∧ n ≤ p.size := by
  have hz := zero_sign.1
  have zs := zeroRow_size
  have T0 : Kept (tabAt ((w.alloc (Obj.cells zeroRow 36)).alloc (Obj.cells zeroRow 36)) (w.heap.size + 1) false (fun _ => false) 0 false) := by
    have h := tab_new (w.alloc (Obj.cells zeroRow 36))
    rw [World.size_alloc] at h
    exact h
  have T1 := keep (tab_below (tab_new w) (bel_alloc0 _ (Obj.cells zeroRow 36)))
  have T2 := belTrans (bel_alloc0 w (Obj.cells zeroRow 36)) (bel_alloc0 _ (Obj.cells zeroRow 36))
  have h94n := keep (show ∀ h : a < p.size, ¬ (p[a].toNat : Int) = 94 from fun h => absurd h hlt0)
  go_enter Try.func15, Try.ntmps15
  go_wp2
  go_loopg [1] (p.size - a) (fun g v1 wx => ∃ (n : Nat) (f : Nat → Bool), n + g = p.size ∧ a ≤ n ∧ v1 = .int .i64 n ∧ Kept (tabAt wx (w.heap.size + 1) false f 0 false) ∧ Kept (tabAt wx w.heap.size false (fun _ => false) 0 false) ∧ Kept (Gb.tabRel p a n f) ∧ Below w.heap.size w wx)
  case atStart => exact ⟨a, fun _ => false, by omega, by omega, by first | rfl | go_num, T0, T1, Gb.tabRel_zero p a, T2⟩
  case round =>
    obtain ⟨n, f, hng, hn0, rfl, hT, hR, hrl, hbw⟩ := hrel
    have hov : Gb.over p n := .inl (by omega)
    have hf := keep (Gb.tabRel_end hrl.out hov)
    have io := fun w => item_over p n w hov
    have ho : p.size ≤ n := by omega
    have hnx : Kept (Gb.beh p a = Gb.D p n) := by
      show _ = _
      rw [← hrl.out.2]
      unfold Gb.beh
      rw [Gb.cutEnd p n ho, Gb.D_nil p n ho]
    clear T0 T1 T2
    have hbw := keep hbw
    go_wp2_with fail
    refine (io _).mono ?_
    rintro e w' ⟨rfl, hw⟩; obtain rfl := hw.symm
    clear io hz
    have hrg := keep hT.out.1
    have hth := keep (there_row hR.out.2 false f 0 false)
    go_wp2_with (first
      | (refine wpList_load_mid rfl 36 (.tmp 6) rfl (w.heap.size + 1) 0 rfl (row false f 0 false) _ hrg.out Try.underlying36 rfl (info_list false f 0 false) ?_)
      | (refine wpList_store_mid rfl 36 (.tmp 4) (.tmp 110) rfl w.heap.size 0 (row false f 0 false).toArray rfl rfl hth.out (info_arr false f 0 false) (row_one_cell false f 0 false) ?_))
    refine bodyPost_ret (ret_cell rfl rfl (load_row hR.out.2)) rfl ?_
    exact ⟨n, ret_agg (row_same (fun i hi => tab_names p a h94n.out hf.out hi)) (by omega), Go.Lib.below_setCells w.heap.size (Nat.le_refl _) (row false f 0 false) 0 hbw.out, hnx, by omega, by omega⟩
end Go.Proofs.Ytmlpfijabdkbjaa
