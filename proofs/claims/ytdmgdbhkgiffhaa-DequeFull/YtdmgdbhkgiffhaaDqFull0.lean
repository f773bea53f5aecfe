/-
  The statement's own walk: as many texts as may be, and not one more.
-/
import Derived.Test.YtdmgdbhkgiffhaaDqOne
namespace Go.Proofs.Ytdmgdbhkgiffhaa
open Go.RowKit
set_option linter.unusedVariables false
theorem info_u8C : (Try.prog.info? 5).map (fun i => (i.zero, i.size, i.bytes)) = some (some (.int .u8 0), 1, 1) := by kernel_rfl
theorem own_at {B : Nat} {w : World} {e g n cap j : Nat} {xs : List Value} {x : Value} (h : w.ownsRow B e 1 (.slice (some ⟨g, 0, none⟩) n cap) n xs) (hx : xs[j]? = some x) : w.cell? ⟨g, j, none⟩ = some x := by
  have add : ∀ i, (⟨g, 0, none⟩ : Addr).add i = ⟨g, i, none⟩ := by intro i; unfold Addr.add; split <;> simp_all
  have := h.cells (g := g) rfl j x hx
  rwa [add] at this
/-- the text of n bytes 0, as make and a conversion lay it -/
theorem zeros_text (w : World) (n : Nat) (hn : n ≤ 2097152) :
    ∃ w' z, (Instr.makeSlice 47 (.int .i64 (n : Int)) (.int .i64 (n : Int))).run Try.prog w = .ok (.slice (some ⟨w.heap.size, 0, none⟩) n n) w' ∧ (convert 47 9 (.slice (some ⟨w.heap.size, 0, none⟩) n n)).run Try.prog w' = .ok (.string z) w' ∧ z.size = n ∧ Below w.heap.size w w' := by
  obtain ⟨i0, hi0, hz0, hz1, hz2⟩ := parts_of info_u8C
  obtain ⟨w', h1, h2, h3⟩ := run_make_full (P := Try.prog) w w.heap.size 47 5 i0 (.int .u8 0) 1 Try.underlying47 hi0 hz0 hz1 .i64 .i64 n (by rw [hz2]; omega) (by unfold maxLen; omega) (Nat.le_refl _)
  have hl : (List.replicate n (0 : UInt8)).length = n := List.length_replicate
  refine ⟨w', ⟨(List.replicate n (0 : UInt8)).toArray⟩, h1, ?_, by show (List.replicate n (0 : UInt8)).toArray.size = n; simp, (Below.refl _ w).grown h3 (Nat.le_refl _) (fun k hk => by cases hk)⟩
  have hb := run_convert_bytes_back (P := Try.prog) w' 47 9 5 ⟨w.heap.size, 0, none⟩ n (List.replicate n 0) Try.underlying47 Try.underlying5 Try.underlying9 (fun j hj => by
    rw [hl] at hj
    have e : (⟨w.heap.size, 0, none⟩ : Addr).add j = ⟨w.heap.size, j, none⟩ := by unfold Addr.add; split <;> simp_all
    rw [e, List.getElem_replicate]
    refine own_at h2 ?_
    show (madeCells #[.int .u8 0] (n * 1)).toList[j]? = _
    rw [toList_madeCells_one, Nat.mul_one, List.getElem?_replicate, if_pos hj]
    rfl)
  rw [hl] at hb
  exact hb
theorem rep_len (n : Nat) : (List.replicate n ByteArray.empty).length = n := List.length_replicate
set_option maxRecDepth 100000 in
set_option maxHeartbeats 4000000 in
theorem full_walk (W : World) : Calls Try.prog 7 #[] W fun e w' => e = .returned (.bool true) ∧ Below W.heap.size W w' := by
  obtain ⟨M, hM⟩ : ∃ M : Nat, M = 1048576 := ⟨_, rfl⟩
  have HM := keep hM
  clear hM
  go_enter Try.func7, Try.ntmps7
  go_wp2_with fail
  refine (wakes_any W).mono ?_
  rintro _ w1 ⟨rfl, hb1⟩
  have HB1 := keep hb1
  clear hb1
  go_wp2_with fail
  refine (new_any w1).mono ?_
  rintro _ w2 ⟨rfl, hd2, hb2, hz2⟩
  have O2 := keep (on_new HB1.out hd2 hb2)
  obtain ⟨b, hb⟩ : ∃ b, w1.heap.size = b := ⟨_, rfl⟩
  rw [hb] at O2
  rw [hb]
  clear hd2 hb2 hz2 hb HB1
  go_wp2
  go_loopw [7] (fun i wr => ∃ k : Nat, k ≤ M ∧ i = .int .i64 k ∧ Kept (On W b (List.replicate k .empty) wr)) (fun i _ => M - (intOf i).toNat)
  case atStart => exact ⟨0, Nat.zero_le _, rfl, O2⟩
  case round =>
    obtain ⟨k, hk, rfl, KO⟩ := hrel
    clear O2
    by_cases hlt : k < M
    · have hl1 : decide ((k : Int) < 1048576) = true := decide_eq_true (by have := HM.out; omega)
      have hl1' : (k : Int) < 1048576 := by have := HM.out; omega
      have hkw : IntKind.i64.wrap ((k : Int) + 1) = ((k + 1 : Nat) : Int) := by have := HM.out; rw [IntKind.wrap_i64]; omega
      have m1 := keep (on_push KO.out false .empty (by decide) (by rw [rep_len]; have := HM.out; omega))
      rw [show (if false = true then ByteArray.empty :: List.replicate k ByteArray.empty else List.replicate k ByteArray.empty ++ [ByteArray.empty]) = List.replicate (k + 1) ByteArray.empty by rw [if_neg (by decide), List.replicate_succ']] at m1
      clear KO
      go_wp2_with fail
      refine m1.out.mono ?_
      rintro _ w3 ⟨rfl, o3⟩
      have O3 := keep o3
      clear m1 o3
      go_wp2
      go_roundw
      case measure => simp [intOf]; omega
      case rel => exact ⟨k + 1, by omega, by rfl, O3⟩
    · obtain rfl : k = M := by omega
      have hl1 : decide ((k : Int) < 1048576) = false := decide_eq_false (by have := HM.out; omega)
      have hl1' : ¬ (k : Int) < 1048576 := by have := HM.out; omega
      obtain ⟨x, hx⟩ : ∃ x : ByteArray, x = ⟨#[120]⟩ := ⟨_, rfl⟩
      have c4 : refC (List.replicate k ByteArray.empty).length ⟨#[120]⟩ = 4 := by
        rw [rep_len, HM.out]; rfl
      have m1 := keep (on_push_no KO.out true ⟨#[120]⟩ (by decide) c4 (by decide))
      have m2 := keep (on_ins_no KO.out 5 ⟨#[120]⟩ (by rw [rep_len, HM.out]; decide) (by decide) c4 (by decide))
      have m3 := keep (on_ins_out KO.out 1048577 ⟨#[120]⟩ (by rw [rep_len, HM.out]; omega))
      have m4 := keep (on_len KO.out)
      rw [rep_len, show ((k : Nat) : Int) = 1048576 by rw [HM.out]; rfl] at m4
      have m5 := keep (on_cost KO.out)
      rw [costL_rep, show ((16 * k : Nat) : Int) = 16777216 by rw [HM.out]; rfl] at m5
      obtain ⟨w4, z, mk, cv, hz, hb4⟩ := zeros_text wr 1048577 (by decide)
      have c2 : refC (List.replicate k ByteArray.empty).length z = 2 := by
        unfold refC; rw [hz]; rfl
      have O4 := keep (KO.out.below hb4)
      have m6 := keep (on_push_no O4.out true z (by rw [hz]; decide) c2 (by decide))
      have m7 := keep (on_pop (f := true) (l := List.replicate (k - 1) .empty) (s := .empty) (by
        have e : (if true = true then ByteArray.empty :: List.replicate (k - 1) ByteArray.empty else List.replicate (k - 1) ByteArray.empty ++ [ByteArray.empty]) = List.replicate k ByteArray.empty := by
          rw [if_pos rfl, ← List.replicate_succ, show k - 1 + 1 = k by have := HM.out; omega]
        rw [e]
        exact O4.out))
      have MK := keep mk
      have CV := keep cv
      clear hx x c4 c2 KO hlt hk mk cv hz hb4
      obtain ⟨wo, hwo⟩ : ∃ o, o = wr := ⟨_, rfl⟩
      subst hwo
      go_wp2_with fail
      refine m1.out.mono ?_
      rintro _ w' ⟨rfl, e⟩
      subst e
      clear m1
      go_wp2_with fail
      refine m2.out.mono ?_
      rintro _ w' ⟨rfl, e⟩
      subst e
      clear m2
      go_wp2_with fail
      refine m3.out.mono ?_
      rintro _ w' ⟨rfl, e⟩
      subst e
      clear m3
      go_wp2_with fail
      refine m4.out.mono ?_
      rintro _ w' ⟨rfl, e⟩
      subst e
      clear m4
      go_wp2_with fail
      refine m5.out.mono ?_
      rintro _ w' ⟨rfl, e⟩
      subst e
      clear m5
      have mk : (Instr.makeSlice 47 (.int .i64 1048577) (.int .i64 1048577)).run Try.prog w' = .ok (.slice (some ⟨w'.heap.size, 0, none⟩) 1048577 1048577) w4 := MK.out
      have cv := CV.out
      clear MK CV
      go_wp2_with fail
      refine m6.out.mono ?_
      rintro _ w'' ⟨rfl, e⟩
      subst e
      clear m6 mk cv
      go_wp2_with fail
      refine m7.out.mono ?_
      rintro _ w5 ⟨rfl, o5⟩
      have m8 := keep (on_ins o5 7 ⟨#[121]⟩ (by rw [rep_len]; have := HM.out; omega) (by decide) (by rw [rep_len]; have := HM.out; omega))
      clear m7 o5 O4
      go_wp2_with fail
      refine m8.out.mono ?_
      rintro _ w6 ⟨rfl, o6⟩
      have hl6 : ((List.replicate (k - 1) ByteArray.empty).take 7 ++ (⟨#[121]⟩ : ByteArray) :: (List.replicate (k - 1) ByteArray.empty).drop 7).length = 1048576 := by
        have := HM.out
        simp only [List.length_append, List.length_cons, List.length_take, List.length_drop, rep_len]
        omega
      have m9 := keep (on_push_no o6 true .empty (by decide) (c := 4) (by rw [hl6]; rfl) (by decide))
      have O6 := keep o6
      clear m8 o6 hl6
      go_wp2_with fail
      refine m9.out.mono ?_
      rintro _ w7 ⟨rfl, e⟩
      subst e
      go_wp2
      go_ret
      exact ⟨rfl, O6.out.base⟩
end Go.Proofs.Ytdmgdbhkgiffhaa
