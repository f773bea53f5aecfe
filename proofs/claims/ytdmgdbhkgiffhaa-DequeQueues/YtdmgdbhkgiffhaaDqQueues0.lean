/-
  The statement's own walk: in at the one end, out at the other.
-/
import Derived.Test.YtdmgdbhkgiffhaaDqTwo
import Derived.Test.YtdmgdbhkgiffhaaDqOpen
namespace Go.Proofs.Ytdmgdbhkgiffhaa
open Go.RowKit
set_option linter.unusedVariables false
theorem drop_at {xs : List ByteArray} {j : Nat} {x : ByteArray} (h : xs[j]? = some x) : xs.drop j = x :: xs.drop (j + 1) := by
  obtain ⟨hj, rfl⟩ := List.getElem?_eq_some_iff.1 h
  exact List.drop_eq_getElem_cons hj
theorem take_at {xs : List ByteArray} {q m j : Nat} {y : ByteArray} (hq : m - j = q + 1) (h : xs[q]? = some y) : xs.take (m - j) = xs.take (m - (j + 1)) ++ [y] := by
  obtain ⟨hj, rfl⟩ := List.getElem?_eq_some_iff.1 h
  rw [hq, show m - (j + 1) = q by omega]
  exact List.take_succ_eq_append_getElem hj
theorem Tw.ks {W : World} {a : Bool} {b1 b2 : Nat} {v : Value} {xs ys zs : List ByteArray} {w : World} (h : Tw W a b1 b2 v xs ys zs w) : Ks W.heap.size w v xs := by
  obtain ⟨c1, c2, h⟩ := h
  exact h.2.2.1.1
theorem Tw.base {W : World} {a : Bool} {b1 b2 : Nat} {v : Value} {xs ys zs : List ByteArray} {w : World} (h : Tw W a b1 b2 v xs ys zs w) : Below W.heap.size W w := by
  obtain ⟨c1, c2, h⟩ := h
  exact h.2.2.2
set_option maxRecDepth 100000 in
set_option maxHeartbeats 4000000 in
theorem queues_walk (W : World) (so : Option Addr) (cap : Nat) (F : List ByteArray) (hF : Txts W so F) (hlen : F.length ≤ maxLen) (a : Bool) :
    Calls Try.prog 6 #[.slice so F.length cap, .bool a] W fun e w' => e = .returned (.bool true) ∧ Below W.heap.size W w' := by
  obtain ⟨nF, hnF⟩ : ∃ nF, F.length = nF := ⟨_, rfl⟩
  have HF := keep hF
  have HNF := keep hnF
  rw [hnF] at hlen ⊢
  have HLEN := keep hlen
  clear hF hnF hlen
  go_enter Try.func6, Try.ntmps6
  go_wp2_with fail
  refine (wakes_any W).mono ?_
  rintro _ w1 ⟨rfl, hb1⟩
  have HB1 := keep hb1
  clear hb1
  go_wp2_with fail
  refine (new_any w1).mono ?_
  rintro _ w2 ⟨rfl, hd2, hb2, hz2⟩
  have H2 := keep (And.intro hd2 (And.intro hb2 hz2))
  clear hd2 hb2 hz2
  go_wp2_with fail
  refine (new_any w2).mono ?_
  rintro _ w3 ⟨rfl, hd3, hb3, hz3⟩
  have T0 := keep (tw_new a HB1.out H2.out.1 H2.out.2.1 H2.out.2.2 hd3 hb3)
  obtain ⟨b1, hb1⟩ : ∃ b, w1.heap.size = b := ⟨_, rfl⟩
  obtain ⟨b2, hb2⟩ : ∃ b, w2.heap.size = b := ⟨_, rfl⟩
  rw [hb1, hb2] at T0
  rw [hb1, hb2]
  clear hd3 hb3 hz3 hb1 hb2 H2 HB1
  go_wp2
  go_loopw [26, 7] (fun i u wr => ∃ (k m : Nat) (ao : Option Addr) (cp : Nat) (xs : List ByteArray), k ≤ nF ∧ i = .int .i64 k ∧ u = .slice ao m cp ∧ Kept (xs.length = m) ∧ Kept (m ≤ 1048576) ∧ Kept (Tw W a b1 b2 (.slice ao m cp) xs xs xs wr)) (fun i _ _ => nF - (intOf i).toNat)
  case atStart => exact ⟨0, 0, none, 0, [], Nat.zero_le _, rfl, rfl, rfl, Nat.zero_le _, T0⟩
  case round =>
    obtain ⟨k, m, ao, cp, xs, hk, rfl, rfl, HM, HMM, KT⟩ := hrel
    clear T0
    by_cases hlt : k < nF
    · have hl1 : decide ((k : Int) < (nF : Int)) = true := decide_eq_true (by omega)
      have hl1' : (k : Int) < (nF : Int) := by omega
      have hk0 : (0 : Int) ≤ (k : Int) := by omega
      have hkw : IntKind.i64.wrap ((k : Int) + 1) = ((k + 1 : Nat) : Int) := by have := HLEN.out; unfold maxLen at this; rw [IntKind.wrap_i64]; omega
      have hkF : k < F.length := by rw [HNF.out]; exact hlt
      obtain ⟨c, rfl, ha, hsz, hc⟩ := HF.out k hkF
      have hc' : wr.cell? (c.add k) = some (.string (F[k]'hkF)) := (KT.out.base.cell (p := c.add k) (by rw [add_block]; exact ha)).trans hc
      obtain ⟨s, hs⟩ : ∃ s, F[k]'hkF = s := ⟨_, rfl⟩
      rw [hs] at hc' hsz
      clear hc hs ha hsz hkF
      by_cases q1 : 1048576 < s.size
      · have q1z : decide (1048576 < (s.size : Int)) = true := decide_eq_true (by omega)
        clear q1
        go_wp2
        go_roundw
        case measure => simp [intOf]; omega
        case rel => exact ⟨k + 1, m, ao, cp, xs, by omega, by rfl, rfl, HM, HMM, KT⟩
      · have q1z : decide (1048576 < (s.size : Int)) = false := decide_eq_false (by omega)
        have Q1 := keep q1
        clear q1
        by_cases q2 : 1048576 ≤ m
        · have q2z : decide (1048576 ≤ (m : Int)) = true := decide_eq_true (by omega)
          clear q2
          go_wp2
          go_roundw
          case measure => simp [intOf]; omega
          case rel => exact ⟨k + 1, m, ao, cp, xs, by omega, by rfl, rfl, HM, HMM, KT⟩
        · have q2z : decide (1048576 ≤ (m : Int)) = false := decide_eq_false (by omega)
          have Q2 := keep q2
          clear q2
          have m1 := keep (tw_push1 KT.out s (by have := Q1.out; omega) (by have := Q2.out; have := HM.out; omega))
          clear KT
          go_wp2_with fail
          refine m1.out.mono ?_
          rintro _ w4 ⟨rfl, t4⟩
          have m2 := keep (tw_push2 t4 s (by have := Q1.out; omega) (by have := Q2.out; have := HM.out; omega))
          clear m1 t4
          go_wp2_with fail
          refine m2.out.mono ?_
          rintro _ w5 ⟨rfl, t5⟩
          obtain ⟨g, cp', w6, hrun, t6⟩ := tw_app t5 s (by have := HMM.out; have := HM.out; omega)
          rw [HM.out] at hrun t6
          have MA := keep hrun
          have T6 := keep t6
          clear m2 t5 hrun t6
          go_wp2_with (first | (show wpList _ _ _ ({ dst := some 53, op := Op.call { callee := Callee.builtin Builtin.append, args := _, argTypes := _ }, type := _, pos := _, after := _, guard := _ } :: _) _ _; refine wpL_app_run rfl (.tmp 50) (.tmp 52) 32 rfl _ _ _ rfl rfl MA.out ?_))
          go_roundw
          case measure => simp [intOf]; omega
          case rel => exact ⟨k + 1, m + 1, _, _, xs ++ [s], by omega, by rfl, rfl, by have := HM.out; show _ = _; simp [this], by have := Q2.out; show _ ≤ _; omega, T6⟩
    · have hltz : ¬ (k : Int) < (nF : Int) := by omega
      have TZ : Kept (Tw W a b1 b2 (.slice ao m cp) xs (xs.drop 0) (xs.take (m - 0)) wr) := by
        have e : xs.take (m - 0) = xs := List.take_of_length_le (by rw [HM.out]; omega)
        rw [e]
        exact KT
      clear KT hlt
      obtain ⟨wo, hwo⟩ : ∃ o, o = wr := ⟨_, rfl⟩
      subst hwo
      go_wp2
      go_loopw [58] (fun i wr => ∃ j : Nat, j ≤ m ∧ i = .int .i64 j ∧ Kept (Tw W a b1 b2 (.slice ao m cp) xs (xs.drop j) (xs.take (m - j)) wr)) (fun i _ => m - (intOf i).toNat)
      case atStart => exact ⟨0, Nat.zero_le _, rfl, TZ⟩
      case round =>
        obtain ⟨j, hj, rfl, KT⟩ := hrel
        clear TZ
        by_cases hjm : j < m
        · have hj1 : (j : Int) < (m : Int) := by omega
          have hj0 : (0 : Int) ≤ (j : Int) := by omega
          obtain ⟨q, hq⟩ : ∃ q, m - j = q + 1 := ⟨m - j - 1, by omega⟩
          have hjw : IntKind.i64.wrap ((j : Int) + 1) = ((j + 1 : Nat) : Int) := by have := HMM.out; rw [IntKind.wrap_i64]; omega
          have hqw1 : IntKind.i64.wrap ((m : Int) - 1) = ((j + q : Nat) : Int) := by have := HMM.out; rw [IntKind.wrap_i64]; omega
          have hqw2 : IntKind.i64.wrap (((j + q : Nat) : Int) - (j : Int)) = (q : Int) := by have := HMM.out; rw [IntKind.wrap_i64]; omega
          have hqw3 : IntKind.i64.wrap ((j : Int) + (q : Int) - (j : Int)) = (q : Int) := by have := HMM.out; rw [IntKind.wrap_i64]; omega
          have hq0 : (0 : Int) ≤ (q : Int) := by omega
          have hqm : (q : Int) < (m : Int) := by omega
          obtain ⟨x, hx⟩ : ∃ x, xs[j]? = some x := ⟨_, List.getElem?_eq_getElem (by rw [HM.out]; exact hjm)⟩
          obtain ⟨y, hy⟩ : ∃ y, xs[q]? = some y := ⟨_, List.getElem?_eq_getElem (by rw [HM.out]; omega)⟩
          obtain ⟨g, rfl⟩ : ∃ g, ao = some ⟨g, 0, none⟩ := by
            obtain ⟨ao', cp', e, h⟩ := own_form KT.out.ks
            injection e with e1 e2 e3
            rcases h with h | ⟨g, h, _⟩
            · have := HM.out; omega
            · exact ⟨g, e1.trans h⟩
          rw [drop_at hx, take_at hq hy] at KT
          have m1 := keep (tw_pop1 KT.out)
          have HX := keep hx
          have HY := keep hy
          clear KT hx hy
          go_wp2_with fail
          refine m1.out.mono ?_
          rintro _ w4 ⟨rfl, t4⟩
          have m2 := keep (tw_pop2 t4)
          clear m1 t4
          go_wp2_with fail
          refine m2.out.mono ?_
          rintro _ w5 ⟨rfl, t5⟩
          have cx := t5.ks.at HX.out
          have cy := t5.ks.at HY.out
          have T5 := keep t5
          have bx : (x.toList == x.toList) = true := beq_self_eq_true _
          have by' : (y.toList == y.toList) = true := beq_self_eq_true _
          clear m2 t5
          go_wp2
          go_roundw
          case measure => simp [intOf]; omega
          case rel => exact ⟨j + 1, by omega, by rfl, T5⟩
        · obtain rfl : j = m := by omega
          have hjz : ¬ (j : Int) < (j : Int) := by omega
          rw [List.drop_of_length_le (by rw [HM.out]; exact Nat.le_refl _), Nat.sub_self, List.take_zero] at KT
          have m1 := keep (tw_none1 KT.out true)
          clear KT hjm
          obtain ⟨wo2, hwo2⟩ : ∃ o, o = wr := ⟨_, rfl⟩
          subst hwo2
          go_wp2_with fail
          refine m1.out.mono ?_
          rintro _ w4 ⟨rfl, t4⟩
          have m2 := keep (tw_none2 t4 false)
          clear m1 t4
          go_wp2_with fail
          refine m2.out.mono ?_
          rintro _ w5 ⟨rfl, t5⟩
          have m3 := keep (tw_chunks t5)
          clear m2 t5
          go_wp2_with fail
          refine m3.out.mono ?_
          rintro _ w6 ⟨⟨ao6, cp6, rfl⟩, t6⟩
          have m4 := keep (tw_cost t6)
          have T6 := keep t6
          clear m3 t6
          go_wp2_with fail
          refine m4.out.mono ?_
          rintro _ w7 ⟨rfl, e7⟩
          subst e7
          clear m4
          go_wp2
          go_ret
          exact ⟨rfl, T6.out.base⟩
end Go.Proofs.Ytdmgdbhkgiffhaa
