/-
  Contracts over this program: the statements' own even.
-/
import Derived.Test.YtlfkdohajfkhdaaDqWakes
import Derived.Test.YtlfkdohajfkhdaaDqTrim0
namespace Go.Proofs.Ytlfkdohajfkhdaa
open Go.RowKit
set_option linter.unusedVariables false
theorem chk_len {w : World} {b : Nat} {cs : List Chk} (hd : Dq w b cs) {k : Nat} {t : List ByteArray} (h : (tx cs)[k]? = some t) : 1 ≤ t.length ∧ t.length ≤ 32 := by
  rw [List.getElem?_map] at h
  cases e : cs[k]? with
  | none => rw [e] at h; cases h
  | some x =>
    rw [e] at h
    have hx : x.2 = t := by simpa using h
    have hm := List.mem_of_getElem? e
    obtain ⟨pv, nv, hc⟩ := hd.1.2.1.mem x hm
    rw [← hx]
    exact ⟨hd.2 x hm, hc.le⟩
theorem take_flat {L : List (List ByteArray)} {k : Nat} {t : List ByteArray} (h : L[k]? = some t) : (L.take (k + 1)).flatten.length = (L.take k).flatten.length + t.length := by
  rw [List.take_add_one, h, List.flatten_append, List.length_append]
  simp
theorem flat_le (L : List (List ByteArray)) (k : Nat) : (L.take k).flatten.length ≤ L.flatten.length := by
  have := congrArg (fun x => x.flatten.length) (List.take_append_drop k L)
  simp only [List.flatten_append, List.length_append] at this
  omega
set_option maxRecDepth 100000 in
set_option maxHeartbeats 2000000 in
theorem even_any (w : World) (b : Nat) (cs : List Chk) (hd : Dq w b cs) (B : Nat) (v : Value) (hk : Ks B w v (row cs)) :
    Calls Try.prog 27 #[ptr b, v] w fun e w' => e = .returned (.bool true) ∧ Below w.heap.size w w' := by
  obtain ⟨ao, cp, rfl⟩ := ks_len hk
  obtain ⟨N, hN⟩ : ∃ N, (row cs).length = N := ⟨_, rfl⟩
  obtain ⟨C, hC⟩ : ∃ C, costL (row cs) = C := ⟨_, rfl⟩
  have HNb : Kept (N ≤ 1048576) := by rw [← hN]; exact hd.1.2.2.2.2
  have HCb : Kept (C ≤ 1099528404992) := by
    have := costL_le hd.1.2.2.2.1
    have := hd.1.2.2.2.2
    show C ≤ _
    rw [← hC]
    omega
  have HD := keep hd
  have HK := keep hk
  have HN := keep hN
  have HC := keep hC
  rw [hN]
  clear hd hk hN hC
  go_enter Try.func27, Try.ntmps27
  go_wp2_with fail
  refine (chunks_ki w b cs HD.out).mono ?_
  rintro _ w1 ⟨⟨u, rfl, ku⟩, hb1⟩
  obtain ⟨ux, uc, rfl⟩ := ki_len ku
  obtain ⟨m, hm⟩ : ∃ m, ((tx cs).map fun t => ((t.length : Nat) : Int)).length = m := ⟨_, rfl⟩
  have HM := keep hm
  have hmb : m ≤ 1048576 := by
    have := cs_len HD.out.2
    have := HD.out.1.2.2.2.2
    simp only [List.length_map] at hm
    omega
  have HMB := keep hmb
  rw [hm] at ku ⊢
  have KU := keep ku
  have HB1 := keep hb1
  have hmt : (tx cs).length = m := by simpa using hm
  have HMT := keep hmt
  clear hm ku hb1 hmb hmt
  go_wp2
  go_loopw [14, 5] (fun i s wr => ∃ k : Nat, k ≤ m ∧ i = .int .i64 k ∧ s = .int .i64 (((tx cs).take k).flatten.length : Nat) ∧ wr = w1) (fun i _ _ => m - (intOf i).toNat)
  case atStart => exact ⟨0, Nat.zero_le _, rfl, rfl, rfl⟩
  case round =>
    obtain ⟨k, hk, rfl, rfl, rfl⟩ := hrel
    by_cases hlt : k < m
    · have hz : (k : Int) < (m : Int) := by omega
      have hz0 : (0 : Int) ≤ (k : Int) := by omega
      obtain ⟨t, ht⟩ : ∃ t, (tx cs)[k]? = some t := ⟨_, List.getElem?_eq_getElem (by rw [HMT.out]; exact hlt)⟩
      obtain ⟨l1, l2⟩ := chk_len HD.out ht
      have hfl := take_flat ht
      have hle := flat_le (tx cs) (k + 1)
      rw [row_len_tx, HN.out] at hle
      obtain ⟨g, rfl⟩ : ∃ g, ux = some ⟨g, 0, none⟩ := by
        obtain ⟨ao', cp', e, h⟩ := own_form KU.out
        injection e with e1 e2 e3
        rcases h with h | ⟨g, h, _⟩
        · have := HM.out; omega
        · exact ⟨g, e1.trans h⟩
      have cx : wr.cell? ⟨g, k, none⟩ = some (.int .i64 ((t.length : Nat) : Int)) := KU.out.at (by rw [List.getElem?_map, ht]; rfl)
      obtain ⟨n, hn⟩ : ∃ n, t.length = n := ⟨_, rfl⟩
      obtain ⟨a, ha⟩ : ∃ a, ((tx cs).take k).flatten.length = a := ⟨_, rfl⟩
      obtain ⟨a1, ha1⟩ : ∃ a, ((tx cs).take (k + 1)).flatten.length = a := ⟨_, rfl⟩
      rw [hn] at l1 l2 hfl cx
      rw [ha, ha1] at hfl
      rw [ha1] at hle
      rw [ha]
      have wr1 : IntKind.i64.wrap ((a : Int) + (n : Int)) = (a1 : Int) := by have := HNb.out; rw [IntKind.wrap_i64]; omega
      have wr2 : IntKind.i64.wrap ((k : Int) + 1) = ((k + 1 : Nat) : Int) := by have := HMB.out; rw [IntKind.wrap_i64]; omega
      have d1 : decide ((n : Int) < 1) = false := decide_eq_false (by omega)
      have d2 : decide ((32 : Int) < (n : Int)) = false := decide_eq_false (by omega)
      have HA1 := keep ha1
      clear ht hfl hle hn ha ha1 l1 l2
      go_wp2
      go_roundw
      case measure => simp [intOf]; omega
      case rel => exact ⟨k + 1, by omega, by rfl, by rw [HA1.out], trivial⟩
    · have hz : ¬ (k : Int) < (m : Int) := by omega
      obtain rfl : k = m := by omega
      have hall : ((tx cs).take k).flatten.length = N := by rw [List.take_of_length_le (by rw [HMT.out]; exact Nat.le_refl _), row_len_tx]; exact HN.out
      rw [hall]
      clear hall hlt
      obtain ⟨wo, hwo⟩ : ∃ o, o = wr := ⟨_, rfl⟩
      subst hwo
      have HD1 := keep (HD.out.below HB1.out)
      have HK1 : Kept (Ks B wo (.slice ao N cp) (row cs)) := by rw [← HN.out]; exact own_kept HK.out (fun k hk => HB1.out.block k (own_lt HK.out hk))
      go_wp2
      go_loopw [30, 8] (fun i s wr => ∃ j : Nat, j ≤ N ∧ i = .int .i64 j ∧ s = .int .i64 (costL ((row cs).take j) : Nat) ∧ wr = wo) (fun i _ _ => N - (intOf i).toNat)
      case atStart => exact ⟨0, Nat.zero_le _, rfl, rfl, rfl⟩
      case round =>
        obtain ⟨j, hj, rfl, rfl, rfl⟩ := hrel
        by_cases hjt : j < N
        · have hz2 : (j : Int) < (N : Int) := by omega
          have hz0 : (0 : Int) ≤ (j : Int) := by omega
          obtain ⟨t, ht⟩ : ∃ t, (row cs)[j]? = some t := ⟨_, List.getElem?_eq_getElem (by rw [HN.out]; exact hjt)⟩
          obtain ⟨g, rfl⟩ : ∃ g, ao = some ⟨g, 0, none⟩ := by
            obtain ⟨ao', cp', e, h⟩ := own_form HK1.out
            injection e with e1 e2 e3
            rcases h with h | ⟨g, h, _⟩
            · have := HN.out; omega
            · exact ⟨g, e1.trans h⟩
          have cx := HK1.out.at ht
          have hct := costL_take ht
          have hcp := costL_part (row cs) (j + 1)
          rw [HC.out] at hcp
          obtain ⟨n, hn⟩ : ∃ n, t.size = n := ⟨_, rfl⟩
          obtain ⟨a, ha⟩ : ∃ a, costL ((row cs).take j) = a := ⟨_, rfl⟩
          obtain ⟨a1, ha1⟩ : ∃ a, costL ((row cs).take (j + 1)) = a := ⟨_, rfl⟩
          rw [ha, ha1, hn] at hct
          rw [ha1] at hcp
          rw [ha]
          have wr1 : IntKind.i64.wrap ((16 : Int) + (n : Int)) = ((16 + n : Nat) : Int) := by have := HCb.out; rw [IntKind.wrap_i64]; omega
          have wr3 : IntKind.i64.wrap ((a : Int) + ((16 + n : Nat) : Int)) = (a1 : Int) := by have := HCb.out; rw [IntKind.wrap_i64]; omega
          have wr4 : IntKind.i64.wrap ((a : Int) + (16 + (n : Int))) = (a1 : Int) := by have := HCb.out; rw [IntKind.wrap_i64]; omega
          have wr2 : IntKind.i64.wrap ((j : Int) + 1) = ((j + 1 : Nat) : Int) := by have := HNb.out; rw [IntKind.wrap_i64]; omega
          have HA1 := keep ha1
          clear ht hct hcp ha ha1
          go_wp2
          go_roundw
          case measure => simp [intOf]; omega
          case rel => exact ⟨j + 1, by omega, by rfl, by rw [HA1.out], trivial⟩
        · have hz2 : ¬ (j : Int) < (N : Int) := by omega
          obtain rfl : j = N := by omega
          have hall : costL ((row cs).take j) = C := by rw [List.take_of_length_le (by rw [HN.out]; exact Nat.le_refl _)]; exact HC.out
          rw [hall]
          have mL := keep (len_any wr b _ _ _ _ HD1.out.1.1)
          rw [HN.out] at mL
          have mC := keep (cost_any wr b _ _ _ _ HD1.out.1.1)
          rw [HC.out] at mC
          clear hall hjt
          go_wp2_with fail
          refine mL.out.mono ?_
          rintro _ w' ⟨rfl, e⟩
          obtain rfl := e.symm
          go_wp2_with fail
          refine mC.out.mono ?_
          rintro _ w' ⟨rfl, e⟩
          obtain rfl := e.symm
          go_wp2
          go_ret
          exact ⟨rfl, HB1.out⟩
end Go.Proofs.Ytlfkdohajfkhdaa
