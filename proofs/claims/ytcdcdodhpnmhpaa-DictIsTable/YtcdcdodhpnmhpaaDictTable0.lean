/-
  The walk of DictIsTable: for every seed and every script a dict tells what a plain list of entries tells.
-/
import Derived.Test.YtcdcdodhpnmhpaaDictOnce
namespace Go.Proofs.Ytcdcdodhpnmhpaa
open Go.RowKit Go.Shelf
set_option maxRecDepth 100000 in
set_option maxHeartbeats 4000000 in
theorem table_walk {h : ByteArray → Nat} (W : World) (seed : Nat) (hH : HashIs seed h) (so : Option Addr) (cs : Nat) (S : List Stp) (hS : Steps W so S) (hn : S.length ≤ 2513169434844) :
    Calls Try.prog 4 #[.int .u64 seed, .slice so S.length cs] W fun e w' => e = .returned (.bool true) ∧ Below W.heap.size W w' := by
  obtain ⟨L, hL⟩ : ∃ L, S.length = L := ⟨_, rfl⟩
  rw [hL] at hn ⊢
  have HL := keep hL
  have HS := keep hS
  clear hL hS
  go_enter Try.func4, Try.ntmps4
  go_wp2_with fail
  refine (wakes_any _).mono ?_
  rintro _ w0 ⟨rfl, hb0⟩
  go_wp2_with fail
  refine (new_any h w0 seed 0).mono ?_
  rintro _ w1 ⟨rfl, hb1, hz1, hd1⟩
  have HB := keep (both_new hb0 hb1 hd1)
  generalize (fun k => if k = w0.heap.size then (5, 0) else (0, 0) : Roles) = r0 at HB
  obtain ⟨b, hb⟩ : ∃ x, x = w0.heap.size := ⟨_, rfl⟩
  rw [← hb] at HB ⊢
  clear hb0 hb1 hz1 hd1 hb
  go_wp2
  go_loopw [6, 17] (fun u6 i wr => ∃ k : Nat, k ≤ L ∧ i = .int .i64 k ∧ ∃ r s l, u6 = u6 ∧ Kept (Both h k W wr r b seed s u6 l)) (fun _ i _ => L - (intOf i).toNat)
  case atStart => exact ⟨0, Nat.zero_le _, rfl, r0, _, _, rfl, HB⟩
  case round =>
    obtain ⟨k, hk, rfl, r, s, l, _, PB0⟩ := hrel
    by_cases hlt : k < L
    · have hltz : (k : Int) < (L : Int) := by omega
      obtain ⟨a, rfl, hab, hkyo, _, hst0⟩ := HS.out k (by rw [HL.out]; exact hlt)
      have hst := hst0.bel PB0.out.2.2.2.2.1 (by rw [add_block]; exact hab)
      clear hst0
      generalize S[k]'(by rw [HL.out]; exact hlt) = o at hst hkyo
      have hnew := stp_box wr o
      have hbx := (Below.refl wr.heap.size wr).alloc (Nat.le_refl _) (.cells o.cells 33)
      have PB := keep (PB0.out.below hbx)
      have hN1 : k + 1 ≤ 2600000000000 := by omega
      obtain ⟨t0, t1, t2, t3, t4, t5⟩ := hst
      have mD := does_any hH (wr.alloc (.cells o.cells 33)) r b s u6 l o PB.out.1 hN1 hkyo PB.out.2.1 PB.out.2.2.1 PB.out.2.2.2.1
      have hr7 : role r u6 (7, 0) wr.heap.size = (0, 0) := by
        refine role_zero.2 ⟨fun e => ?_, Classical.byContradiction fun e => ?_⟩
        · have := own_lt PB0.out.2.2.1 e; omega
        · have := PB0.out.1.1.1 _ e; omega
      have hHl : wr.heap.size < (wr.alloc (.cells o.cells 33)).heap.size := by simp
      have HR7 := keep hr7
      have HDN := keep (fun e w' hh => PB.out.done (o := o) (e := e) (w' := w') hh)
      clear hnew hbx PB0 hr7
      obtain ⟨who, op, nn, v, ky, R⟩ := o
      unfold Stp.cells at mD PB HDN hHl
      dsimp only at t0 t1 t2 t3 t4 t5 mD PB HDN hHl
      have hbxc : ∀ (i : Nat) (hi : i < 6), (wr.alloc (.cells #[.int .i64 who, .int .i64 op, .int .i64 nn, .int .i64 v, .string ky, .int .u64 R] 33)).cell? ⟨wr.heap.size, i, none⟩ = some (#[Value.int .i64 who, .int .i64 op, .int .i64 nn, .int .i64 v, .string ky, .int .u64 R][i]'hi) := fun i hi => by
        rw [cell_of_row _ _ _ _ _ _ (heap_alloc_new _ _)]; exact Array.getElem?_eq_getElem hi
      have b0 := hbxc 0 (by omega)
      have b1 := hbxc 1 (by omega)
      have b2 := hbxc 2 (by omega)
      have b3 := hbxc 3 (by omega)
      have b4 := hbxc 4 (by omega)
      have b5 := hbxc 5 (by omega)
      clear hbxc
      obtain ⟨W1, hW1⟩ : ∃ W1, wr.alloc (.cells #[.int .i64 who, .int .i64 op, .int .i64 nn, .int .i64 v, .string ky, .int .u64 R] 33) = W1 := ⟨_, rfl⟩
      obtain ⟨X, hX⟩ : ∃ x, wr.heap.size = x := ⟨_, rfl⟩
      rw [hW1] at mD PB HDN b0 b1 b2 b3 b4 b5 hHl
      rw [hX] at b0 b1 b2 b3 b4 b5 HR7 hHl
      obtain ⟨wo, hwo⟩ : ∃ x, x = wr := ⟨_, rfl⟩
      subst hwo
      go_wp2_with fail
      refine mD.mono ?_
      rintro e w3 hDone
      have hX3 : w3.heap[X]? = W1.heap[X]? := by obtain ⟨_, _, _, _, _, _, _, _, h6⟩ := hDone; exact (h6.2.2 X hHl HR7.out).1
      obtain ⟨lv', l', r', he, hB3⟩ := HDN.out e w3 hDone
      subst he
      have hop3 : w3.cell? ⟨X, 1, none⟩ = some (.int .i64 op) := (World.cell?_of_block hX3).trans b1
      have mL := len_t w3 r' b _ hB3.1
      have hln : ln (doS h s ⟨who, op, nn, v, ky, R⟩) = l'.length := hB3.2.1.2.2.symm
      rw [hln] at mL
      obtain ⟨ao', cap', hlv, _⟩ := hB3.2.2.1.form
      have mO := once_any w3 r' b _ lv' l' hB3.1 (by omega) hB3.2.1 hB3.2.2.1
      have HB3 := keep hB3
      have HLV := keep hlv
      rw [hlv] at mO
      subst hlv
      clear mD HDN hDone hB3 PB b0 b1 b2 b3 b4 b5 hln HR7 hHl hX3
      go_wp2_with fail
      refine mL.mono ?_
      rintro _ w4 ⟨rfl, hw4⟩
      obtain rfl := hw4.symm
      clear mL
      by_cases ho6 : op = 6
      · subst ho6
        go_wp2_with fail
        refine mO.mono ?_
        rintro _ w5 ⟨rfl, hb5⟩
        have HB5 := keep (HB3.out.below hb5)
        clear HB3 hb5 mO
        go_wp2
        go_roundw
        case measure => simp [intOf]; omega
        case rel => exact ⟨k + 1, by omega, by go_num, _, _, _, trivial, HB5⟩
      · have ho6b : (op == 6) = false := beq_eq_false_iff_ne.2 ho6
        clear mO
        go_wp2
        go_roundw
        case measure => simp [intOf]; omega
        case rel => exact ⟨k + 1, by omega, by go_num, _, _, _, trivial, HB3⟩
    · have hltz : ¬ (k : Int) < (L : Int) := by omega
      have mO := once_any wr r b s u6 l PB0.out.1 (by omega) PB0.out.2.1 PB0.out.2.2.1
      go_wp2_with fail
      refine mO.mono ?_
      rintro _ w5 ⟨rfl, hb5⟩
      have HB5 := keep (PB0.out.below hb5)
      clear hb5 mO PB0
      go_wp2
      go_ret
      exact ⟨rfl, HB5.out.2.2.2.2.1⟩
end Go.Proofs.Ytcdcdodhpnmhpaa
