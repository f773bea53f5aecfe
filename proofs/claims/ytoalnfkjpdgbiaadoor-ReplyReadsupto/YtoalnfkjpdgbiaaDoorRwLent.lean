/-
  Contracts over this program: the statements' own lent and kept.
-/
import Derived.Test.YtoalnfkjpdgbiaaDoorRwDec
import Derived.Test.YtoalnfkjpdgbiaaDoorRwApp
import Derived.Test.YtoalnfkjpdgbiaaDoorRpBackW
namespace Go.Proofs.YtoalnfkjpdgbiaaDoor
open Go.RowKit
set_option linter.unusedVariables false
theorem Kb.pre {w : World} {g m c : Nat} {l r : List UInt8} (h : Kb w (.slice (some ⟨g, 0, none⟩) m c) (l ++ r)) : Kb w (.slice (some ⟨g, 0, none⟩) l.length c) l := by
  obtain ⟨h0, h1⟩ := h
  rcases h1 with ⟨e, _⟩ | ⟨g', cap, cur, e, hb, hg, q1, q2, q3, q4⟩
  · cases e
  · cases e
    refine ⟨by simp [bcells], .inr ⟨g, c, cur, rfl, hb, hg, by rw [List.length_append] at q1; omega, q2, q3, ?_⟩⟩
    have h5 := congrArg (List.take (l.length * 1)) q4
    rw [List.take_take, Nat.min_eq_left (by rw [List.length_append]; omega)] at h5
    rw [h5, bcells_app, List.take_append_of_le_length (by simp [bcells]), List.take_of_length_le (by simp [bcells])]
theorem Kb.room {w : World} {g m c : Nat} {l : List UInt8} (h : Kb w (.slice (some ⟨g, 0, none⟩) m c) l) : l.length ≤ c := by
  obtain ⟨h0, h1⟩ := h
  rcases h1 with ⟨e, _⟩ | ⟨g', cap, cur, e, hb, hg, q1, q2, q3, q4⟩
  · cases e
  · cases e
    exact q1
theorem Kb.cell {w : World} {g m c : Nat} {l : List UInt8} (h : Kb w (.slice (some ⟨g, 0, none⟩) m c) l) (j : Nat) (x : UInt8) (hx : l[j]? = some x) : w.cell? ⟨g, j, none⟩ = some (.int .u8 (x.toNat : Int)) := by
  obtain ⟨ao, c', e, _, hl⟩ := h.bs
  injection e with e1 e2 e3
  rcases hl with e | ⟨g', o, e', _, hc⟩
  · rw [e] at hx; simp at hx
  · rw [e'] at e1
    injection e1 with e1
    injection e1 with e1 e4
    have := hc j x hx
    rw [← e1, ← e4, Nat.zero_add] at this
    exact this
theorem slice_cap {P : Program} (w : World) (t e : TypeId) (ht : P.underlying t = some (.slice e)) (i : TypeInfo) (hi : P.info? e = some i) (h1 : i.size = 1) (g o n c k : Nat) (hk : k ≤ c) :
    (Instr.slice t (.slice (some ⟨g, o, none⟩) n c) none (some (.int .i64 (k : Int))) none).run P w = .ok (.slice (some ⟨g, o, none⟩) k c) w := by
  have hz : (Go.sizeOf e).run P w = .ok 1 w := by simp [Go.sizeOf, typeInfo, hi, h1]
  have hb : ∀ (x y : Nat) code, x ≤ y → (Instr.sliceBound (.int .i64 (x : Int)) y code).run P w = .ok x w := fun x y code hxy => by
    have := run_sliceBound (P := P) (w := w) .i64 (x : Int) y code (by omega) (by omega)
    simpa using this
  simp (disch := omega) only [Instr.slice, Instr.sliceBounds, run_underlying ht, Sem.run_bind, Sem.run_pure, Result.andThen_ok, hb, hz]
  split
  · simp
  · simp [Addr.add]
def tag5 (j : Nat) : List UInt8 := List.replicate j 165
theorem tag5_more (j : Nat) : tag5 j ++ [165] = tag5 (j + 1) := by unfold tag5; rw [List.replicate_succ']
theorem tag5_len (j : Nat) : (tag5 j).length = j := List.length_replicate
set_option maxRecDepth 100000 in
set_option maxHeartbeats 4000000 in
theorem lent_any (v : Value) (b : List UInt8) (w : World) (h : Bs (· < w.heap.size) w v b) (hb : b.length ≤ 1048576) :
    Calls Tryd.prog 17 #[v] w fun e w' => ∃ g c, e = .returned (.slice (some ⟨g, 0, none⟩) b.length c) ∧ Kb w' (.slice (some ⟨g, 0, none⟩) (b.length + 70) c) (b ++ tag5 70) ∧ w.heap.size ≤ g ∧ Below w.heap.size w w' := by
  obtain ⟨PP, hPP⟩ : ∃ PP : Ending → World → Prop, PP = fun e w' => ∃ g c, e = .returned (.slice (some ⟨g, 0, none⟩) b.length c) ∧ Kb w' (.slice (some ⟨g, 0, none⟩) (b.length + 70) c) (b ++ tag5 70) ∧ w.heap.size ≤ g ∧ Below w.heap.size w w' := ⟨_, rfl⟩
  rw [← hPP]
  have HP := keep hPP
  clear hPP
  obtain ⟨i0, hi0, hz0, hz1, hz2⟩ := parts_of info_u8'
  have hmk := run_makeSlice_owned (P := Tryd.prog) w 0 29 5 i0 _ 1 Tryd.underlying29 hi0 hz0 hz1 .i64 .i64 (b.length + 70) (by omega) (by rw [hz2]; omega) (by unfold maxLen; omega) (Nat.zero_le _)
  obtain ⟨w1, r1, k1, g1⟩ := hmk
  have b1 : Below w.heap.size w w1 := (Below.refl _ w).grown g1 (Nat.le_refl _) (fun k hk => by cases hk)
  have k1' : Kb w1 (.slice (some ⟨w.heap.size, 0, none⟩) 0 (b.length + 70)) [] := k1
  obtain ⟨v2, w2, r2, k2, g2⟩ := app_bs k1' (h.later b1) (by simp; omega) 29
  rw [List.nil_append] at k2
  have b2 : Below w.heap.size w w2 := b1.trans (g2.below b1.size (fun k hk => Nat.le_of_eq (Option.some.inj hk)))
  have o2 : ∀ k, v2.ownBlock = some k → w.heap.size ≤ k := fun k hk => by
    rcases g2.2 k hk with h | h
    · exact Nat.le_of_eq (Option.some.inj h)
    · exact Nat.le_trans b1.size h
  obtain ⟨ao2, c2, hv2⟩ := k2.form
  subst hv2
  have HCUT := keep (fun (w' : World) (g n c : Nat) (hk : b.length ≤ n) (hn : n ≤ c) => slice_to (P := Tryd.prog) w' 29 5 Tryd.underlying29 i0 hi0 hz1 g 0 n c b.length hk hn)
  obtain ⟨ao, c, rfl, hc, _⟩ := h
  obtain ⟨N, hN⟩ : ∃ N, b.length = N := ⟨_, rfl⟩
  have HN := keep hN
  rw [hN] at r1 r2 k2 hb o2 HCUT HP g2 hc ⊢
  have hw70 : IntKind.i64.wrap ((N : Int) + 70) = ((N + 70 : Nat) : Int) := by rw [IntKind.wrap_i64]; omega
  obtain ⟨M, hM⟩ : ∃ M, N + 70 = M := ⟨_, rfl⟩
  rw [hM] at hw70 r1 r2
  have HM := keep hM
  have R2 := keep r2
  have K2 := keep k2
  have B2 := keep b2
  have O2 := keep o2
  have HB := keep hb
  clear hi0 hz0 hz1 hz2 k1 g1 b1 k1' r2 k2 g2 b2 o2 hN hM hb hc
  go_enter Tryd.func17, Tryd.ntmps17
  go_wp2_with (first | (at_builtin; refine wpList_app_run rfl _ _ _ _ rfl _ _ _ rfl rfl R2.out ?_; clear R2))
  clear r1 hw70
  go_loopw [3, 11] (fun v3 v11 wr => ∃ (j nj : Nat) (aoj : Option Addr) (cj : Nat), j ≤ 70 ∧ v3 = .slice aoj nj cj ∧ v11 = .int .i64 (j : Nat) ∧ Kept (Kb wr (.slice aoj nj cj) (b ++ tag5 j)) ∧ Kept (Below w.heap.size w wr) ∧ Kept (∀ k, (Value.slice aoj nj cj).ownBlock = some k → w.heap.size ≤ k)) (fun _ v11 _ => 70 - (intOf v11).toNat)
  case atStart => exact ⟨0, _, _, _, Nat.zero_le _, rfl, rfl, keep (by show Kb _ _ (b ++ []); rw [List.append_nil]; exact K2.out), B2, O2⟩
  case round =>
    obtain ⟨j, nj, aoj, cj, hj, rfl, rfl, KJ, BJ, OJ⟩ := hrel
    have hnj := KJ.out.len
    by_cases hlt : j < 70
    · have h1 : (j : Int) < 70 := by omega
      have nw : IntKind.i64.wrap ((j : Int) + 1) = ((j + 1 : Nat) : Int) := by rw [IntKind.wrap_i64]; omega
      obtain ⟨v', w', hrun, hks, hgr⟩ := app_byte 165 KJ.out (by rw [List.length_append, tag5_len, HN.out]; have := HB.out; omega) 29
      have k3 : Kb w' v' (b ++ tag5 (j + 1)) := by rw [← tag5_more, ← List.append_assoc]; exact hks
      obtain ⟨ao3, c3, hv3⟩ := k3.form
      subst hv3
      have K3 := keep k3
      have B3 := keep (BJ.out.trans (hgr.below BJ.out.size OJ.out))
      have O3 : Kept (∀ k, (Value.slice ao3 (b ++ tag5 (j + 1)).length c3).ownBlock = some k → w.heap.size ≤ k) := keep (fun k hk => by
        rcases hgr.2 k hk with h | h
        · exact OJ.out k h
        · exact Nat.le_trans BJ.out.size h)
      generalize (b ++ tag5 (j + 1)).length = n3 at *
      have HRUN := keep hrun
      have HLT := keep hlt
      clear hrun hks hgr k3 hnj hlt
      go_wp2_with (first | (at_builtin; refine wpList_app_run rfl _ _ _ _ rfl _ _ _ rfl rfl HRUN.out ?_; clear HRUN))
      go_roundw
      case measure => have := HLT.out; simp [intOf]; omega
      case rel => exact ⟨j + 1, n3, ao3, c3, HLT.out, rfl, by rfl, K3, B3, O3⟩
    · obtain rfl : j = 70 := by omega
      have h1 : ¬ (((70 : Nat) : Int)) < 70 := by omega
      rw [List.length_append, tag5_len, HN.out] at hnj
      subst hnj
      obtain ⟨g, rfl⟩ : ∃ g, aoj = some ⟨g, 0, none⟩ := by
        rcases KJ.out.2 with ⟨_, hn⟩ | ⟨g, cap, cur, e, _⟩
        · rw [List.length_append, tag5_len] at hn; omega
        · injection e with e1; exact ⟨g, e1⟩
      have hroom := KJ.out.room
      rw [List.length_append, tag5_len, HN.out] at hroom
      have hst := HCUT.out wr g (N + 70) cj (by omega) hroom
      have FIN : Kept (PP (.returned (.slice (some ⟨g, 0, none⟩) N cj)) wr) := keep (by
        rw [HP.out]
        exact ⟨g, cj, rfl, KJ.out, OJ.out g rfl, BJ.out⟩)
      obtain ⟨M2, hM2⟩ : ∃ M2, N + 70 = M2 := ⟨_, rfl⟩
      rw [hM2] at hst ⊢
      clear hlt hroom
      go_wp2_with fail
      exact FIN.out
set_option maxRecDepth 100000 in
set_option maxHeartbeats 4000000 in
theorem kept_any (g c : Nat) (vb : Value) (b : List UInt8) (w : World) (hK : Kb w (.slice (some ⟨g, 0, none⟩) (b.length + 70) c) (b ++ tag5 70)) (h : Bs (· < w.heap.size) w vb b) (hb : b.length ≤ 1048576) :
    Calls Tryd.prog 20 #[.slice (some ⟨g, 0, none⟩) b.length c, vb] w fun e w' => e = .returned (.bool true) ∧ Below w.heap.size w w' := by
  obtain ⟨PP, hPP⟩ : ∃ PP : Ending → World → Prop, PP = fun e w' => e = .returned (.bool true) ∧ Below w.heap.size w w' := ⟨_, rfl⟩
  rw [← hPP]
  have HP := keep hPP
  clear hPP
  have SM := keep (same_any _ vb b b w hK.pre.bs h (by omega))
  obtain ⟨i0, hi0, hz0, hz1, hz2⟩ := parts_of info_u8'
  have hroom := hK.room
  rw [List.length_append, tag5_len] at hroom
  have hst := fun w' => slice_cap (P := Tryd.prog) w' 29 5 Tryd.underlying29 i0 hi0 hz1 g 0 b.length c (b.length + 70) hroom
  have HK := keep hK
  obtain ⟨N, hN⟩ : ∃ N, b.length = N := ⟨_, rfl⟩
  have HN := keep hN
  rw [hN] at hst hb hroom SM HK ⊢
  have hw70 : IntKind.i64.wrap ((N : Int) + 70) = ((N + 70 : Nat) : Int) := by rw [IntKind.wrap_i64]; omega
  obtain ⟨M, hM⟩ : ∃ M, N + 70 = M := ⟨_, rfl⟩
  rw [hM] at hw70 hst
  have HM := keep hM
  have HB := keep hb
  clear hi0 hz0 hz1 hz2 hK h hb hN hM hroom
  go_enter Tryd.func20, Tryd.ntmps20
  go_wp2_with fail
  refine SM.out.mono ?_
  rintro e w1 ⟨⟨z, rfl, hz⟩, b1⟩
  obtain rfl : z = true := hz.2 (by trivial)
  have B1 := keep b1
  have K1 := keep (HK.out.later b1)
  clear b1 hz
  have hst1 := hst w1
  clear hst
  go_wp2_with fail
  clear hst1 hw70
  go_loopw [6] (fun v6 wr => ∃ i : Nat, N ≤ i ∧ i ≤ M ∧ v6 = .int .i64 (i : Nat) ∧ wr = w1) (fun v6 _ => M - (intOf v6).toNat)
  case atStart => exact ⟨N, Nat.le_refl _, by have := HM.out; omega, rfl, rfl⟩
  case round =>
    obtain ⟨i, hi0, hi, rfl, hwr⟩ := hrel
    obtain rfl := hwr.symm
    clear hwr
    by_cases hlt : i < M
    · have h0 : (0 : Int) ≤ (i : Int) := by omega
      have h1 : (i : Int) < (M : Int) := by omega
      have nw : IntKind.i64.wrap ((i : Int) + 1) = ((i + 1 : Nat) : Int) := by have := HM.out; have := HB.out; rw [IntKind.wrap_i64]; omega
      have hc : w1.cell? ⟨g, i, none⟩ = some (.int .u8 165) := K1.out.cell i 165 (by
        rw [List.getElem?_append_right (by rw [HN.out]; exact hi0)]
        unfold tag5
        rw [List.getElem?_replicate, if_pos (by have := HM.out; rw [HN.out]; omega)])
      have HI := keep hi0
      have HLT := keep hlt
      clear hi0 hi hlt
      go_wp2_with fail
      go_roundw
      case measure => have := HLT.out; simp [intOf]; omega
      case rel => exact ⟨i + 1, by have := HI.out; omega, HLT.out, by rfl, by trivial⟩
    · obtain rfl : i = M := by omega
      have h1 : ¬ (i : Int) < (i : Int) := by omega
      clear hi0 hi hlt
      go_wp2_with fail
      rw [HP.out]
      exact ⟨rfl, B1.out⟩
end Go.Proofs.YtoalnfkjpdgbiaaDoor
