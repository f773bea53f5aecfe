/-
  The statement's own walk: whatever is done, the deque is the row to which the same is done.
-/
import Derived.Test.YtlfkdohajfkhdaaDqRowsA
import Derived.Deep.CutRange
namespace Go.Proofs.Ytlfkdohajfkhdaa
open Go.RowKit Go.Shelf
set_option linter.unusedVariables false
theorem Rx.rd {W : World} {b : Nat} {v : Value} {l l' : List ByteArray} {X : Nat} {o : Opn} {t : TypeId} {w : World} (h : Rx W b v l l' X (.cells o.cells t (0, 0)) w) :
    w.cell? ⟨X, 1, none⟩ = some (.int .i64 o.act) ∧ w.cell? ⟨X, 2, none⟩ = some (.int .i64 o.i) ∧ w.cell? ⟨X, 3, none⟩ = some (.int .i64 o.j) ∧ w.cell? ⟨X, 4, none⟩ = some (.bool o.fl) ∧ w.cell? ⟨X, 5, none⟩ = some (.string o.s) := by
  refine ⟨?_, ?_, ?_, ?_, ?_⟩ <;> (rw [cell_of_row _ _ _ _ _ _ h.box]; rfl)
set_option maxRecDepth 100000 in
set_option maxHeartbeats 60000000 in
theorem rows_walk (W : World) (so : Option Addr) (cap : Nat) (S : List Opn) (hS : Opns W so S) (hlen : S.length ≤ maxLen) :
    Calls Try.prog 5 #[.slice so S.length cap] W fun e w' => e = .returned (.bool true) ∧ Below W.heap.size W w' := by
  obtain ⟨nS, hnS⟩ : ∃ nS, S.length = nS := ⟨_, rfl⟩
  have HS := keep hS
  have HNS := keep hnS
  rw [hnS] at hlen ⊢
  have HLEN := keep hlen
  clear hS hnS hlen
  go_enter Try.func5, Try.ntmps5
  go_wp2_with fail
  refine (wakes_any W).mono ?_
  rintro _ w1 ⟨rfl, hb1⟩
  have HB1 := keep hb1
  clear hb1
  go_wp2_with fail
  refine (new_any w1).mono ?_
  rintro _ w2 ⟨rfl, hd2, hb2, hz2⟩
  have R0 := keep (ro_new HB1.out hd2 hb2)
  obtain ⟨b, hb⟩ : ∃ b, w1.heap.size = b := ⟨_, rfl⟩
  rw [hb] at R0
  rw [hb]
  clear hd2 hb2 hz2 hb HB1
  go_wp2
  go_loopw [4, 31] (fun u i wr => ∃ (k m : Nat) (ao : Option Addr) (cp : Nat) (l : List ByteArray), k ≤ nS ∧ i = .int .i64 k ∧ u = .slice ao m cp ∧ Kept (l.length = m) ∧ Kept (Ro W b (.slice ao m cp) l l wr)) (fun _ i _ => nS - (intOf i).toNat)
  case atStart => exact ⟨0, 0, none, 0, [], Nat.zero_le _, rfl, rfl, rfl, R0⟩
  case round =>
    obtain ⟨k, m, ao, cp, l, hk, rfl, rfl, HM, KR⟩ := hrel
    clear R0
    by_cases hlt : k < nS
    · have hltz : (k : Int) < (nS : Int) := by omega
      have hk0 : (0 : Int) ≤ (k : Int) := by omega
      have hwk : IntKind.i64.wrap ((k : Int) + 1) = (k : Int) + 1 := by have := HLEN.out; unfold maxLen at this; rw [IntKind.wrap_i64]; omega
      obtain ⟨c, rfl, ha, hok, hat⟩ := HS.out k (by rw [HNS.out]; exact hlt)
      obtain ⟨o, ho⟩ : ∃ o, S[k]'(by rw [HNS.out]; exact hlt) = o := ⟨_, rfl⟩
      rw [ho] at hok hat
      have hat' := hat.bel KR.out.base (by rw [add_block]; exact ha)
      obtain ⟨who, act, oi, oj, fl, s, big⟩ := o
      obtain ⟨X, hX⟩ : ∃ X, wr.heap.size = X := ⟨_, rfl⟩
      have hbox := KR.out.boxed (Opn.cells ⟨who, act, oi, oj, fl, s, big⟩) 28
      obtain ⟨W1, hW1⟩ : ∃ x, wr.alloc (.cells #[.int .i64 who, .int .i64 act, .int .i64 oi, .int .i64 oj, .bool fl, .string s, .int .i64 big] 28) = x := ⟨_, rfl⟩
      rw [hX] at hbox
      have HX : Kept (Rx W b (.slice ao m cp) l l X (.cells (Opn.cells ⟨who, act, oi, oj, fl, s, big⟩) 28 (0, 0)) W1) := by rw [← hW1]; exact hbox
      obtain ⟨x1, x2, x3, x4, x5⟩ := HX.out.rd
      dsimp only at x1 x2 x3 x4 x5
      have HOK := keep hok
      obtain ⟨y0, y1, y2, y3, y4, y5, y6⟩ := hat'
      dsimp only at y0 y1 y2 y3 y4 y5 y6
      have hfw : m ≤ 1048576 := by rw [← HM.out]; exact KR.out.few
      have HFW := keep hfw
      have HLT := keep hlt
      clear ho hok hat ha hbox hfw hlt KR
      obtain ⟨q, hq⟩ : ∃ q : Bool, (decide (0 ≤ oi) && decide (oi < (m : Int))) = q := ⟨_, rfl⟩
      have HQ := keep hq
      clear hq
      go_upto_region 8 with fail
      go_cut [7] from 32 to 230 (fun c w' => c = .bool q ∧ w' = W1)
      case first =>
        clear x1 x3 x4 x5 y0 y1 y2 y3 y4 y5 y6
        by_cases h1 : 0 ≤ oi
        · have h1b : decide (0 ≤ oi) = true := decide_eq_true h1
          by_cases h2 : oi < (m : Int)
          · have h2b : decide (oi < (m : Int)) = true := decide_eq_true h2
            obtain rfl : true = q := by rw [← HQ.out, h1b, h2b]; rfl
            go_wp2
            go_meet
            case rel => exact ⟨rfl, rfl⟩
          · have h2b : decide (oi < (m : Int)) = false := decide_eq_false h2
            obtain rfl : false = q := by rw [← HQ.out, h1b, h2b]; rfl
            go_wp2
            go_meet
            case rel => exact ⟨rfl, rfl⟩
        · have h1b : decide (0 ≤ oi) = false := decide_eq_false h1
          obtain rfl : false = q := by rw [← HQ.out, h1b]; rfl
          go_wp2
          go_meet
          case rel => exact ⟨rfl, rfl⟩
      case rest =>
        obtain ⟨rfl, hwc⟩ := hcut
        obtain rfl := hwc.symm
        clear hW1 hX y0 y1 y2 y3 y4 y5 y6
        by_cases a0 : act = 0
        · subst a0
          by_cases hs : s.size ≤ 1048576
          · have hsz : decide ((1048576 : Int) < (s.size : Int)) = false := decide_eq_false (by omega)
            by_cases hm2 : m < 1048576
            · have hmz : decide ((1048576 : Int) ≤ (m : Int)) = false := decide_eq_false (by omega)
              cases fl with
              | true =>
                as_aux_lemma =>
                  have mP := rx_push HX.out true s hs (by rw [HM.out]; exact hm2)
                  rw [if_pos rfl] at mP
                  go_wp2_with fail
                  refine mP.mono ?_
                  rintro _ w2 ⟨rfl, hx2⟩
                  have mU := ro_put hx2.ro 0 s (by rw [HM.out]; omega) (by rw [HM.out]; omega)
                  obtain ⟨_, z2, z3, z4, z5⟩ := hx2.rd
                  dsimp only at z2 z3 z4 z5
                  rw [show ((0 : Nat) : Int) = 0 from rfl, List.take_zero, List.drop_zero, List.nil_append] at mU
                  clear mP hx2

                  rw [HM.out] at mU
                  clear x1 x2 x3 x4 x5
                  go_wp2_with fail
                  refine mU.mono ?_
                  rintro _ w3 ⟨ao3, cp3, rfl, h3⟩
                  clear mU z2 z3 z4 z5

                  obtain ⟨m4, hm4⟩ : ∃ m4, m + 1 = m4 := ⟨_, rfl⟩
                  rw [hm4] at h3 ⊢
                  have HM4 : Kept ((s :: l : List ByteArray).length = m4) := by show _ = _; rw [← hm4, ← HM.out]; rfl
                  have I4 := keep h3
                  clear h3 hm4

                  have mL := ro_len I4.out
                  rw [HM4.out] at mL
                  go_wp2_with fail
                  refine mL.mono ?_
                  rintro _ w' ⟨rfl, hw'⟩
                  obtain rfl := hw'.symm
                  clear mL
                  go_wp2
                  go_roundw
                  case measure => simp [intOf]; have := HLT.out; omega
                  case rel => exact ⟨k + 1, _, _, _, _, by have := HLT.out; omega, by go_num, rfl, HM4, I4⟩
              | false =>
                as_aux_lemma =>
                  have mP := rx_push HX.out false s hs (by rw [HM.out]; exact hm2)
                  rw [if_neg (by decide)] at mP
                  go_wp2_with fail
                  refine mP.mono ?_
                  rintro _ w2 ⟨rfl, hx2⟩
                  have mU := ro_put hx2.ro m s (by rw [HM.out]; omega) (by rw [HM.out]; omega)
                  obtain ⟨_, z2, z3, z4, z5⟩ := hx2.rd
                  dsimp only at z2 z3 z4 z5
                  rw [List.take_of_length_le (by rw [HM.out]; exact Nat.le_refl _), List.drop_eq_nil_of_le (by rw [HM.out]; exact Nat.le_refl _)] at mU
                  clear mP hx2

                  rw [HM.out] at mU
                  clear x1 x2 x3 x4 x5
                  go_wp2_with fail
                  refine mU.mono ?_
                  rintro _ w3 ⟨ao3, cp3, rfl, h3⟩
                  clear mU z2 z3 z4 z5

                  obtain ⟨m4, hm4⟩ : ∃ m4, m + 1 = m4 := ⟨_, rfl⟩
                  rw [hm4] at h3 ⊢
                  have HM4 : Kept ((l ++ [s] : List ByteArray).length = m4) := by show _ = _; rw [← hm4, ← HM.out]; rw [List.length_append]; rfl
                  have I4 := keep h3
                  clear h3 hm4

                  have mL := ro_len I4.out
                  rw [HM4.out] at mL
                  go_wp2_with fail
                  refine mL.mono ?_
                  rintro _ w' ⟨rfl, hw'⟩
                  obtain rfl := hw'.symm
                  clear mL
                  go_wp2
                  go_roundw
                  case measure => simp [intOf]; have := HLT.out; omega
                  case rel => exact ⟨k + 1, _, _, _, _, by have := HLT.out; omega, by go_num, rfl, HM4, I4⟩
            · have hmz : decide ((1048576 : Int) ≤ (m : Int)) = true := decide_eq_true (by omega)
              have I4 := keep HX.out.ro
              as_aux_lemma =>
                go_wp2
                go_roundw
                case measure => simp [intOf]; have := HLT.out; omega
                case rel => exact ⟨k + 1, _, _, _, _, by have := HLT.out; omega, by go_num, rfl, HM, I4⟩
          · have hsz : decide ((1048576 : Int) < (s.size : Int)) = true := decide_eq_true (by omega)
            have I4 := keep HX.out.ro
            as_aux_lemma =>
              go_wp2
              go_roundw
              case measure => simp [intOf]; have := HLT.out; omega
              case rel => exact ⟨k + 1, _, _, _, _, by have := HLT.out; omega, by go_num, rfl, HM, I4⟩
        · have a0b : (act == 0) = false := beq_eq_false_iff_ne.2 a0
          by_cases a1 : act = 1
          · subst a1
            by_cases hm0 : m = 0
            · subst hm0
              obtain rfl : l = [] := List.length_eq_zero_iff.1 HM.out
              have mP := ro_pop_no HX.out.ro fl
              as_aux_lemma =>
                go_wp2_with fail
                refine mP.mono ?_
                rintro _ w2 ⟨rfl, h2⟩
                have I4 := keep h2
                clear mP h2 x1 x2 x3 x4 x5

                go_wp2
                go_roundw
                case measure => simp [intOf]; have := HLT.out; omega
                case rel => exact ⟨k + 1, _, _, _, _, by have := HLT.out; omega, by go_num, rfl, HM, I4⟩

            · have hm0b : ((m : Int) == 0) = false := beq_eq_false_iff_ne.2 (by omega)
              obtain ⟨g, rfl, hg⟩ := ro_g HX.out.ro HM.out (by omega)
              have hcap := ro_cap HX.out.ro HM.out
              have HCAP := keep hcap
              clear hg hcap
              obtain ⟨m4, hm4⟩ : ∃ m4, m - 1 = m4 := ⟨_, rfl⟩
              have HMM := keep hm4
              clear hm4
              cases fl with
              | true =>
                obtain ⟨s0, l1, hl⟩ : ∃ s0 l1, l = s0 :: l1 := by
                  cases l with
                  | nil => exact absurd HM.out.symm hm0
                  | cons a b => exact ⟨a, b, rfl⟩
                have hl0 : l[0]? = some s0 := by rw [hl]; rfl
                have hlt' : l.take 0 ++ l.drop (0 + 1) = l1 := by rw [hl]; rfl
                have mP := rx_pop (f := true) (l' := l1) (s := s0) (by rw [if_pos rfl, ← hl]; exact HX.out)
                as_aux_lemma =>
                  have HL0 := keep hl0
                  have HLT' := keep hlt'
                  have hm1w : IntKind.i64.wrap ((m : Int) - 1) = (m4 : Int) := by have := HFW.out; have := HMM.out; rw [IntKind.wrap_i64]; omega
                  clear hl0 hlt' hl
                  go_wp2_with fail
                  refine mP.mono ?_
                  rintro _ w2 ⟨rfl, hx2⟩
                  have c0 := hx2.ro.ks.at HL0.out
                  obtain ⟨_, z2, z3, z4, z5⟩ := hx2.rd
                  dsimp only at z2 z3 z4 z5
                  have hg2 : g < w2.drew.heap.size := lt_cell c0
                  have hig : 0 < m := Nat.pos_of_ne_zero hm0
                  have higz : (0 : Int) < (m : Int) := by omega

                  obtain ⟨v1, w3, o2, c2, w4, a2, r1, r2, ha2, k4, b3, b4⟩ := del_runs w2.drew W.heap.size g m cp l (hx2.ro.below (Below.refl _ w2).drew).ks HM.out 0 hig HFW.out hg2
                  rw [show w2.drew.heap.size = w2.heap.size from rfl] at r1
                  have H4 := (hx2.ro.below (Below.refl _ w2).drew).row k4 b4
                  have B3 := keep b3

                  rw [HLT'.out, HMM.out] at H4
                  rw [Nat.zero_add, HMM.out] at r2
                  rw [Nat.zero_add] at ha2
                  have R1 := keep r1
                  have R2 := keep r2
                  have I4 := keep H4
                  have HM4 : Kept (l1.length = m4) := by show _ = _; rw [← HLT'.out, List.take_zero, List.nil_append, List.length_drop, HM.out]; exact HMM.out
                  clear mP hx2 r1 r2 k4 b3 b4 B3 H4 x1 x2 x3 x4 x5 z2 z3 z5 hg2
                  have hcz : (1 : Int) ≤ (cp : Int) := by have := HCAP.out; omega
                  have hcm : (m : Int) ≤ (cp : Int) := by have := HCAP.out; omega
                  have h1m : (1 : Int) ≤ (m : Int) := by omega
                  have hmz4 : (m - 1 : Nat) = m4 := HMM.out
                  have hw1 : IntKind.i64.wrap 1 = 1 := by rw [IntKind.wrap_i64]; omega
                  by_cases hci : cp = 1
                  · rw [if_pos hci] at ha2
                    subst ha2
                    go_wp2_with fail
                    refine wp_region_held_drew (S := fun _ => True) (by kernel_rfl) trivial (fun hHeld => ?_)
                    refine wpAnyH_take (i := 1) (oi := { dst := some 107, op := _, type := _, pos := _, after := _, guard := _ }) (v := ?v1) rfl (by kernel_rfl) (by kernel_rfl) (by kernel_rfl) (fun _ _ _ h => h) (Or.inl ⟨by rfl, ?hy1⟩) (by assumption) ?rest1
                    case hy1 => (intro w hSw; go_simp; try with_reducible rfl)
                    try simp only [Act.put, List.setIfInBounds_toArray, List.set_cons_zero, List.set_cons_succ]
                    refine wpAnyH_take (i := 2) (oi := { dst := some 108, op := _, type := _, pos := _, after := _, guard := _ }) (v := ?v2) rfl (by kernel_rfl) (by kernel_rfl) (by kernel_rfl) (fun _ _ _ h => h) (Or.inl ⟨by rfl, ?hy2⟩) (by assumption) ?rest2
                    case hy2 => (intro w hSw; go_simp; try with_reducible rfl)
                    try simp only [Act.put, List.setIfInBounds_toArray, List.set_cons_zero, List.set_cons_succ]
                    refine wpAnyH_take (i := 3) (oi := { dst := some 109, op := _, type := _, pos := _, after := _, guard := _ }) (v := (.slice (some ⟨g, 0, none⟩) 0 cp)) rfl (by kernel_rfl) (by kernel_rfl) (by kernel_rfl) (fun _ _ _ h => h) (Or.inl ⟨by rfl, ?hy3⟩) (by assumption) ?rest3
                    case hy3 => (intro w hSw; first | (go_simp; done) | (go_simp; simp [*]; done) | (simp [*]; go_simp; done))
                    try simp only [Act.put, List.setIfInBounds_toArray, List.set_cons_zero, List.set_cons_succ]
                    refine wpAnyH_take (i := 5) (oi := { dst := some 111, op := _, type := _, pos := _, after := _, guard := _ }) (v := ?v4) rfl (by kernel_rfl) (by kernel_rfl) (by kernel_rfl) (fun _ _ _ h => h) (Or.inl ⟨by rfl, ?hy4⟩) (by assumption) ?rest4
                    case hy4 => (intro w hSw; go_simp; try with_reducible rfl)
                    try simp only [Act.put, List.setIfInBounds_toArray, List.set_cons_zero, List.set_cons_succ]
                    refine wpAnyH_take (i := 6) (oi := { dst := some 112, op := _, type := _, pos := _, after := _, guard := _ }) (v := ?v5) rfl (by kernel_rfl) (by kernel_rfl) (by kernel_rfl) (fun _ _ _ h => h) (Or.inl ⟨by rfl, ?hy5⟩) (by assumption) ?rest5
                    case hy5 => (intro w hSw; go_simp; try with_reducible rfl)
                    try simp only [Act.put, List.setIfInBounds_toArray, List.set_cons_zero, List.set_cons_succ]
                    refine wpAnyH_take (i := 7) (oi := { dst := some 113, op := _, type := _, pos := _, after := _, guard := _ }) (v := (.int .i64 1)) rfl (by kernel_rfl) (by kernel_rfl) (by kernel_rfl) (fun _ _ _ h => h) (Or.inl ⟨by rfl, ?hy6⟩) (by assumption) ?rest6
                    case hy6 => (intro w hSw; first | (go_simp; done) | (go_simp; simp [*]; done) | (simp [*]; go_simp; done))
                    try simp only [Act.put, List.setIfInBounds_toArray, List.set_cons_zero, List.set_cons_succ]
                    refine wpAnyH_take (i := 8) (oi := { dst := some 114, op := _, type := _, pos := _, after := _, guard := _ }) (v := (.slice (some ⟨g, 0, none⟩) m4 (cp - 1))) rfl (by kernel_rfl) (by kernel_rfl) (by kernel_rfl) (fun _ _ _ h => h) (Or.inl ⟨by rfl, ?hy7⟩) (by assumption) ?rest7
                    case hy7 => (intro w hSw; first | (go_simp; done) | (go_simp; simp [*]; done) | (simp [*]; go_simp; done))
                    try simp only [Act.put, List.setIfInBounds_toArray, List.set_cons_zero, List.set_cons_succ]
                    refine wpAnyH_ready (rs := [0]) (by kernel_rfl) (by simp) ?_
                    refine AllReadyH.cons (o := { dst := some 106, op := _, type := _, pos := _, after := _, guard := _ }) rfl (fun K hK => ?_) AllReadyH.nil
                    go_simp
                    refine hK.out _ _ trivial (fun hHeld => ?_)
                    try simp only [Act.put, List.setIfInBounds_toArray, List.set_cons_zero, List.set_cons_succ]
                    clear hK
                    refine wpAnyH_ready (rs := [4]) (by kernel_rfl) (by simp) ?_
                    refine AllReadyH.cons (o := { dst := some 110, op := _, type := _, pos := _, after := _, guard := _ }) rfl (fun K hK => ?_) AllReadyH.nil
                    rw [if_pos (by rfl)]
                    refine wp_app_run (.tmp 106) (.tmp 109) 32 rfl _ _ _ rfl rfl R1.out ?_
                    refine hK.out _ _ trivial (fun hHeld => ?_)
                    try simp only [Act.put, List.setIfInBounds_toArray, List.set_cons_zero, List.set_cons_succ]
                    clear hK
                    refine wpAnyH_ready (rs := [9]) (by kernel_rfl) (by simp) ?_
                    refine AllReadyH.cons (o := { dst := some 115, op := _, type := _, pos := _, after := _, guard := _ }) rfl (fun K hK => ?_) AllReadyH.nil
                    rw [if_pos (by rfl)]
                    refine wp_app_run (.tmp 110) (.tmp 114) 32 rfl _ _ _ rfl rfl R2.out ?_
                    refine hK.out _ _ trivial (fun hHeld => ?_)
                    try simp only [Act.put, List.setIfInBounds_toArray, List.set_cons_zero, List.set_cons_succ]
                    clear hK
                    refine wpAnyH_take (i := 10) (oi := { dst := some 4, op := _, type := _, pos := _, after := _, guard := _ }) (v := ?v8) rfl (by kernel_rfl) (by kernel_rfl) (by kernel_rfl) (fun _ _ _ h => h) (Or.inl ⟨by rfl, ?hy8⟩) (by assumption) ?rest8
                    case hy8 => (intro w hSw; go_simp; try with_reducible rfl)
                    try simp only [Act.put, List.setIfInBounds_toArray, List.set_cons_zero, List.set_cons_succ]
                    refine wpAnyH_done (by kernel_rfl) ?_ _
                    clear hHeld R1 R2

                    have mL := ro_len I4.out
                    rw [HM4.out] at mL
                    go_wp2_with fail
                    refine mL.mono ?_
                    rintro _ w' ⟨rfl, hw'⟩
                    obtain rfl := hw'.symm
                    clear mL
                    go_wp2
                    go_roundw
                    case measure => simp [intOf]; have := HLT.out; omega
                    case rel => exact ⟨k + 1, _, _, _, _, by have := HLT.out; omega, by go_num, rfl, HM4, I4⟩

                  · rw [if_neg hci] at ha2
                    subst ha2
                    go_wp2_with fail
                    refine wp_region_held_drew (S := fun _ => True) (by kernel_rfl) trivial (fun hHeld => ?_)
                    refine wpAnyH_take (i := 1) (oi := { dst := some 107, op := _, type := _, pos := _, after := _, guard := _ }) (v := ?v9) rfl (by kernel_rfl) (by kernel_rfl) (by kernel_rfl) (fun _ _ _ h => h) (Or.inl ⟨by rfl, ?hy9⟩) (by assumption) ?rest9
                    case hy9 => (intro w hSw; go_simp; try with_reducible rfl)
                    try simp only [Act.put, List.setIfInBounds_toArray, List.set_cons_zero, List.set_cons_succ]
                    refine wpAnyH_take (i := 2) (oi := { dst := some 108, op := _, type := _, pos := _, after := _, guard := _ }) (v := ?v10) rfl (by kernel_rfl) (by kernel_rfl) (by kernel_rfl) (fun _ _ _ h => h) (Or.inl ⟨by rfl, ?hy10⟩) (by assumption) ?rest10
                    case hy10 => (intro w hSw; go_simp; try with_reducible rfl)
                    try simp only [Act.put, List.setIfInBounds_toArray, List.set_cons_zero, List.set_cons_succ]
                    refine wpAnyH_take (i := 3) (oi := { dst := some 109, op := _, type := _, pos := _, after := _, guard := _ }) (v := (.slice (some ⟨g, 0, none⟩) 0 cp)) rfl (by kernel_rfl) (by kernel_rfl) (by kernel_rfl) (fun _ _ _ h => h) (Or.inl ⟨by rfl, ?hy11⟩) (by assumption) ?rest11
                    case hy11 => (intro w hSw; first | (go_simp; done) | (go_simp; simp [*]; done) | (simp [*]; go_simp; done))
                    try simp only [Act.put, List.setIfInBounds_toArray, List.set_cons_zero, List.set_cons_succ]
                    refine wpAnyH_take (i := 5) (oi := { dst := some 111, op := _, type := _, pos := _, after := _, guard := _ }) (v := ?v12) rfl (by kernel_rfl) (by kernel_rfl) (by kernel_rfl) (fun _ _ _ h => h) (Or.inl ⟨by rfl, ?hy12⟩) (by assumption) ?rest12
                    case hy12 => (intro w hSw; go_simp; try with_reducible rfl)
                    try simp only [Act.put, List.setIfInBounds_toArray, List.set_cons_zero, List.set_cons_succ]
                    refine wpAnyH_take (i := 6) (oi := { dst := some 112, op := _, type := _, pos := _, after := _, guard := _ }) (v := ?v13) rfl (by kernel_rfl) (by kernel_rfl) (by kernel_rfl) (fun _ _ _ h => h) (Or.inl ⟨by rfl, ?hy13⟩) (by assumption) ?rest13
                    case hy13 => (intro w hSw; go_simp; try with_reducible rfl)
                    try simp only [Act.put, List.setIfInBounds_toArray, List.set_cons_zero, List.set_cons_succ]
                    refine wpAnyH_take (i := 7) (oi := { dst := some 113, op := _, type := _, pos := _, after := _, guard := _ }) (v := (.int .i64 1)) rfl (by kernel_rfl) (by kernel_rfl) (by kernel_rfl) (fun _ _ _ h => h) (Or.inl ⟨by rfl, ?hy14⟩) (by assumption) ?rest14
                    case hy14 => (intro w hSw; first | (go_simp; done) | (go_simp; simp [*]; done) | (simp [*]; go_simp; done))
                    try simp only [Act.put, List.setIfInBounds_toArray, List.set_cons_zero, List.set_cons_succ]
                    refine wpAnyH_take (i := 8) (oi := { dst := some 114, op := _, type := _, pos := _, after := _, guard := _ }) (v := (.slice (some ⟨g, 1, none⟩) m4 (cp - 1))) rfl (by kernel_rfl) (by kernel_rfl) (by kernel_rfl) (fun _ _ _ h => h) (Or.inl ⟨by rfl, ?hy15⟩) (by assumption) ?rest15
                    case hy15 => (intro w hSw; first | (go_simp; done) | (go_simp; simp [*]; done) | (simp [*]; go_simp; done))
                    try simp only [Act.put, List.setIfInBounds_toArray, List.set_cons_zero, List.set_cons_succ]
                    refine wpAnyH_ready (rs := [0]) (by kernel_rfl) (by simp) ?_
                    refine AllReadyH.cons (o := { dst := some 106, op := _, type := _, pos := _, after := _, guard := _ }) rfl (fun K hK => ?_) AllReadyH.nil
                    go_simp
                    refine hK.out _ _ trivial (fun hHeld => ?_)
                    try simp only [Act.put, List.setIfInBounds_toArray, List.set_cons_zero, List.set_cons_succ]
                    clear hK
                    refine wpAnyH_ready (rs := [4]) (by kernel_rfl) (by simp) ?_
                    refine AllReadyH.cons (o := { dst := some 110, op := _, type := _, pos := _, after := _, guard := _ }) rfl (fun K hK => ?_) AllReadyH.nil
                    rw [if_pos (by rfl)]
                    refine wp_app_run (.tmp 106) (.tmp 109) 32 rfl _ _ _ rfl rfl R1.out ?_
                    refine hK.out _ _ trivial (fun hHeld => ?_)
                    try simp only [Act.put, List.setIfInBounds_toArray, List.set_cons_zero, List.set_cons_succ]
                    clear hK
                    refine wpAnyH_ready (rs := [9]) (by kernel_rfl) (by simp) ?_
                    refine AllReadyH.cons (o := { dst := some 115, op := _, type := _, pos := _, after := _, guard := _ }) rfl (fun K hK => ?_) AllReadyH.nil
                    rw [if_pos (by rfl)]
                    refine wp_app_run (.tmp 110) (.tmp 114) 32 rfl _ _ _ rfl rfl R2.out ?_
                    refine hK.out _ _ trivial (fun hHeld => ?_)
                    try simp only [Act.put, List.setIfInBounds_toArray, List.set_cons_zero, List.set_cons_succ]
                    clear hK
                    refine wpAnyH_take (i := 10) (oi := { dst := some 4, op := _, type := _, pos := _, after := _, guard := _ }) (v := ?v16) rfl (by kernel_rfl) (by kernel_rfl) (by kernel_rfl) (fun _ _ _ h => h) (Or.inl ⟨by rfl, ?hy16⟩) (by assumption) ?rest16
                    case hy16 => (intro w hSw; go_simp; try with_reducible rfl)
                    try simp only [Act.put, List.setIfInBounds_toArray, List.set_cons_zero, List.set_cons_succ]
                    refine wpAnyH_done (by kernel_rfl) ?_ _
                    clear hHeld R1 R2

                    have mL := ro_len I4.out
                    rw [HM4.out] at mL
                    go_wp2_with fail
                    refine mL.mono ?_
                    rintro _ w' ⟨rfl, hw'⟩
                    obtain rfl := hw'.symm
                    clear mL
                    go_wp2
                    go_roundw
                    case measure => simp [intOf]; have := HLT.out; omega
                    case rel => exact ⟨k + 1, _, _, _, _, by have := HLT.out; omega, by go_num, rfl, HM4, I4⟩

              | false =>
                obtain ⟨l1, s0, hl⟩ : ∃ l1 s0, l = l1 ++ [s0] := by
                  rcases List.eq_nil_or_concat l with h | ⟨a, b, h⟩
                  · rw [h] at HM; exact absurd HM.out.symm hm0
                  · exact ⟨a, b, by rw [h, List.concat_eq_append]⟩
                have hl1 : l1.length = m4 := by have := HM.out; rw [hl, List.length_append] at this; have := HMM.out; simp at *; omega
                have hl0 : l[m4]? = some s0 := by rw [hl, List.getElem?_append_right (by omega), hl1, Nat.sub_self]; rfl
                have hlt' : l.take m4 ++ l.drop (m4 + 1) = l1 := by rw [hl, List.take_append_of_le_length (by omega), List.take_of_length_le (by omega), List.drop_eq_nil_of_le (by rw [List.length_append, hl1]; simp), List.append_nil]
                have mP := rx_pop (f := false) (l' := l1) (s := s0) (by rw [if_neg (by decide), ← hl]; exact HX.out)
                as_aux_lemma =>
                  have HL0 := keep hl0
                  have HLT' := keep hlt'
                  have HM4 := keep hl1
                  have hm1w : IntKind.i64.wrap ((m : Int) - 1) = (m4 : Int) := by have := HFW.out; have := HMM.out; rw [IntKind.wrap_i64]; omega
                  have hm2w : IntKind.i64.wrap ((m4 : Int) + 1) = (m : Int) := by have := HFW.out; have := HMM.out; rw [IntKind.wrap_i64]; omega
                  clear hl0 hlt' hl hl1
                  go_wp2_with fail
                  refine mP.mono ?_
                  rintro _ w2 ⟨rfl, hx2⟩
                  have c0 := hx2.ro.ks.at HL0.out
                  obtain ⟨_, z2, z3, z4, z5⟩ := hx2.rd
                  dsimp only at z2 z3 z4 z5
                  have hg2 : g < w2.drew.heap.size := lt_cell c0
                  have hig : m4 < m := by have := HMM.out; omega
                  have hm41 : m4 + 1 = m := by have := HMM.out; omega

                  obtain ⟨v1, w3, o2, c2, w4, a2, r1, r2, ha2, k4, b3, b4⟩ := del_runs w2.drew W.heap.size g m cp l (hx2.ro.below (Below.refl _ w2).drew).ks HM.out m4 hig HFW.out hg2
                  rw [show w2.drew.heap.size = w2.heap.size from rfl] at r1
                  have H4 := (hx2.ro.below (Below.refl _ w2).drew).row k4 b4
                  have B3 := keep b3

                  rw [HLT'.out, HMM.out] at H4
                  rw [hm41, HMM.out, Nat.sub_self] at r2
                  rw [hm41] at ha2
                  have R1 := keep r1
                  have R2 := keep r2
                  have I4 := keep H4
                  clear mP hx2 r1 r2 k4 b3 b4 B3 H4 x1 x2 x3 x4 x5 z2 z3 z5 hg2 hm41
                  have hig0 : (0 : Int) ≤ (m4 : Int) := by omega
                  have higz : (m4 : Int) < (m : Int) := by omega
                  have higy : (m4 : Int) ≤ (m : Int) := by omega
                  have higc : (m4 : Int) ≤ (cp : Int) := by have := HCAP.out; omega
                  have hcm : (m : Int) ≤ (cp : Int) := by have := HCAP.out; omega
                  have hmz0 : (0 : Int) ≤ (m : Int) := by omega
                  have hii2 : ¬ m < m4 := by omega
                  clear hig
                  by_cases hci : cp = m
                  · rw [if_pos hci] at ha2
                    subst ha2
                    go_wp2_with fail
                    refine wp_region_held_drew (S := fun _ => True) (by kernel_rfl) trivial (fun hHeld => ?_)
                    refine wpAnyH_take (i := 1) (oi := { dst := some 107, op := _, type := _, pos := _, after := _, guard := _ }) (v := ?v17) rfl (by kernel_rfl) (by kernel_rfl) (by kernel_rfl) (fun _ _ _ h => h) (Or.inl ⟨by rfl, ?hy17⟩) (by assumption) ?rest17
                    case hy17 => (intro w hSw; go_simp; try with_reducible rfl)
                    try simp only [Act.put, List.setIfInBounds_toArray, List.set_cons_zero, List.set_cons_succ]
                    refine wpAnyH_take (i := 2) (oi := { dst := some 108, op := _, type := _, pos := _, after := _, guard := _ }) (v := ?v18) rfl (by kernel_rfl) (by kernel_rfl) (by kernel_rfl) (fun _ _ _ h => h) (Or.inl ⟨by rfl, ?hy18⟩) (by assumption) ?rest18
                    case hy18 => (intro w hSw; go_simp; try with_reducible rfl)
                    try simp only [Act.put, List.setIfInBounds_toArray, List.set_cons_zero, List.set_cons_succ]
                    refine wpAnyH_take (i := 3) (oi := { dst := some 109, op := _, type := _, pos := _, after := _, guard := _ }) (v := (.slice (some ⟨g, 0, none⟩) m4 cp)) rfl (by kernel_rfl) (by kernel_rfl) (by kernel_rfl) (fun _ _ _ h => h) (Or.inl ⟨by rfl, ?hy19⟩) (by assumption) ?rest19
                    case hy19 => (intro w hSw; first | (go_simp; done) | (go_simp; simp [*]; done) | (simp [*]; go_simp; done))
                    try simp only [Act.put, List.setIfInBounds_toArray, List.set_cons_zero, List.set_cons_succ]
                    refine wpAnyH_take (i := 5) (oi := { dst := some 111, op := _, type := _, pos := _, after := _, guard := _ }) (v := ?v20) rfl (by kernel_rfl) (by kernel_rfl) (by kernel_rfl) (fun _ _ _ h => h) (Or.inl ⟨by rfl, ?hy20⟩) (by assumption) ?rest20
                    case hy20 => (intro w hSw; go_simp; try with_reducible rfl)
                    try simp only [Act.put, List.setIfInBounds_toArray, List.set_cons_zero, List.set_cons_succ]
                    refine wpAnyH_take (i := 6) (oi := { dst := some 112, op := _, type := _, pos := _, after := _, guard := _ }) (v := ?v21) rfl (by kernel_rfl) (by kernel_rfl) (by kernel_rfl) (fun _ _ _ h => h) (Or.inl ⟨by rfl, ?hy21⟩) (by assumption) ?rest21
                    case hy21 => (intro w hSw; go_simp; try with_reducible rfl)
                    try simp only [Act.put, List.setIfInBounds_toArray, List.set_cons_zero, List.set_cons_succ]
                    refine wpAnyH_take (i := 7) (oi := { dst := some 113, op := _, type := _, pos := _, after := _, guard := _ }) (v := (.int .i64 (m : Int))) rfl (by kernel_rfl) (by kernel_rfl) (by kernel_rfl) (fun _ _ _ h => h) (Or.inl ⟨by rfl, ?hy22⟩) (by assumption) ?rest22
                    case hy22 => (intro w hSw; first | (go_simp; done) | (go_simp; simp [*]; done) | (simp [*]; go_simp; done))
                    try simp only [Act.put, List.setIfInBounds_toArray, List.set_cons_zero, List.set_cons_succ]
                    refine wpAnyH_take (i := 8) (oi := { dst := some 114, op := _, type := _, pos := _, after := _, guard := _ }) (v := (.slice (some ⟨g, 0, none⟩) 0 (cp - m))) rfl (by kernel_rfl) (by kernel_rfl) (by kernel_rfl) (fun _ _ _ h => h) (Or.inl ⟨by rfl, ?hy23⟩) (by assumption) ?rest23
                    case hy23 => (intro w hSw; first | (go_simp; done) | (go_simp; simp [*]; done) | (simp [*]; go_simp; done))
                    try simp only [Act.put, List.setIfInBounds_toArray, List.set_cons_zero, List.set_cons_succ]
                    refine wpAnyH_ready (rs := [0]) (by kernel_rfl) (by simp) ?_
                    refine AllReadyH.cons (o := { dst := some 106, op := _, type := _, pos := _, after := _, guard := _ }) rfl (fun K hK => ?_) AllReadyH.nil
                    go_simp
                    refine hK.out _ _ trivial (fun hHeld => ?_)
                    try simp only [Act.put, List.setIfInBounds_toArray, List.set_cons_zero, List.set_cons_succ]
                    clear hK
                    refine wpAnyH_ready (rs := [4]) (by kernel_rfl) (by simp) ?_
                    refine AllReadyH.cons (o := { dst := some 110, op := _, type := _, pos := _, after := _, guard := _ }) rfl (fun K hK => ?_) AllReadyH.nil
                    rw [if_pos (by rfl)]
                    refine wp_app_run (.tmp 106) (.tmp 109) 32 rfl _ _ _ rfl rfl R1.out ?_
                    refine hK.out _ _ trivial (fun hHeld => ?_)
                    try simp only [Act.put, List.setIfInBounds_toArray, List.set_cons_zero, List.set_cons_succ]
                    clear hK
                    refine wpAnyH_ready (rs := [9]) (by kernel_rfl) (by simp) ?_
                    refine AllReadyH.cons (o := { dst := some 115, op := _, type := _, pos := _, after := _, guard := _ }) rfl (fun K hK => ?_) AllReadyH.nil
                    rw [if_pos (by rfl)]
                    refine wp_app_run (.tmp 110) (.tmp 114) 32 rfl _ _ _ rfl rfl R2.out ?_
                    refine hK.out _ _ trivial (fun hHeld => ?_)
                    try simp only [Act.put, List.setIfInBounds_toArray, List.set_cons_zero, List.set_cons_succ]
                    clear hK
                    refine wpAnyH_take (i := 10) (oi := { dst := some 4, op := _, type := _, pos := _, after := _, guard := _ }) (v := ?v24) rfl (by kernel_rfl) (by kernel_rfl) (by kernel_rfl) (fun _ _ _ h => h) (Or.inl ⟨by rfl, ?hy24⟩) (by assumption) ?rest24
                    case hy24 => (intro w hSw; go_simp; try with_reducible rfl)
                    try simp only [Act.put, List.setIfInBounds_toArray, List.set_cons_zero, List.set_cons_succ]
                    refine wpAnyH_done (by kernel_rfl) ?_ _
                    clear hHeld R1 R2

                    have mL := ro_len I4.out
                    rw [HM4.out] at mL
                    go_wp2_with fail
                    refine mL.mono ?_
                    rintro _ w' ⟨rfl, hw'⟩
                    obtain rfl := hw'.symm
                    clear mL
                    go_wp2
                    go_roundw
                    case measure => simp [intOf]; have := HLT.out; omega
                    case rel => exact ⟨k + 1, _, _, _, _, by have := HLT.out; omega, by go_num, rfl, HM4, I4⟩

                  · rw [if_neg hci] at ha2
                    subst ha2
                    go_wp2_with fail
                    refine wp_region_held_drew (S := fun _ => True) (by kernel_rfl) trivial (fun hHeld => ?_)
                    refine wpAnyH_take (i := 1) (oi := { dst := some 107, op := _, type := _, pos := _, after := _, guard := _ }) (v := ?v25) rfl (by kernel_rfl) (by kernel_rfl) (by kernel_rfl) (fun _ _ _ h => h) (Or.inl ⟨by rfl, ?hy25⟩) (by assumption) ?rest25
                    case hy25 => (intro w hSw; go_simp; try with_reducible rfl)
                    try simp only [Act.put, List.setIfInBounds_toArray, List.set_cons_zero, List.set_cons_succ]
                    refine wpAnyH_take (i := 2) (oi := { dst := some 108, op := _, type := _, pos := _, after := _, guard := _ }) (v := ?v26) rfl (by kernel_rfl) (by kernel_rfl) (by kernel_rfl) (fun _ _ _ h => h) (Or.inl ⟨by rfl, ?hy26⟩) (by assumption) ?rest26
                    case hy26 => (intro w hSw; go_simp; try with_reducible rfl)
                    try simp only [Act.put, List.setIfInBounds_toArray, List.set_cons_zero, List.set_cons_succ]
                    refine wpAnyH_take (i := 3) (oi := { dst := some 109, op := _, type := _, pos := _, after := _, guard := _ }) (v := (.slice (some ⟨g, 0, none⟩) m4 cp)) rfl (by kernel_rfl) (by kernel_rfl) (by kernel_rfl) (fun _ _ _ h => h) (Or.inl ⟨by rfl, ?hy27⟩) (by assumption) ?rest27
                    case hy27 => (intro w hSw; first | (go_simp; done) | (go_simp; simp [*]; done) | (simp [*]; go_simp; done))
                    try simp only [Act.put, List.setIfInBounds_toArray, List.set_cons_zero, List.set_cons_succ]
                    refine wpAnyH_take (i := 5) (oi := { dst := some 111, op := _, type := _, pos := _, after := _, guard := _ }) (v := ?v28) rfl (by kernel_rfl) (by kernel_rfl) (by kernel_rfl) (fun _ _ _ h => h) (Or.inl ⟨by rfl, ?hy28⟩) (by assumption) ?rest28
                    case hy28 => (intro w hSw; go_simp; try with_reducible rfl)
                    try simp only [Act.put, List.setIfInBounds_toArray, List.set_cons_zero, List.set_cons_succ]
                    refine wpAnyH_take (i := 6) (oi := { dst := some 112, op := _, type := _, pos := _, after := _, guard := _ }) (v := ?v29) rfl (by kernel_rfl) (by kernel_rfl) (by kernel_rfl) (fun _ _ _ h => h) (Or.inl ⟨by rfl, ?hy29⟩) (by assumption) ?rest29
                    case hy29 => (intro w hSw; go_simp; try with_reducible rfl)
                    try simp only [Act.put, List.setIfInBounds_toArray, List.set_cons_zero, List.set_cons_succ]
                    refine wpAnyH_take (i := 7) (oi := { dst := some 113, op := _, type := _, pos := _, after := _, guard := _ }) (v := (.int .i64 (m : Int))) rfl (by kernel_rfl) (by kernel_rfl) (by kernel_rfl) (fun _ _ _ h => h) (Or.inl ⟨by rfl, ?hy30⟩) (by assumption) ?rest30
                    case hy30 => (intro w hSw; first | (go_simp; done) | (go_simp; simp [*]; done) | (simp [*]; go_simp; done))
                    try simp only [Act.put, List.setIfInBounds_toArray, List.set_cons_zero, List.set_cons_succ]
                    refine wpAnyH_take (i := 8) (oi := { dst := some 114, op := _, type := _, pos := _, after := _, guard := _ }) (v := (.slice (some ⟨g, m, none⟩) 0 (cp - m))) rfl (by kernel_rfl) (by kernel_rfl) (by kernel_rfl) (fun _ _ _ h => h) (Or.inl ⟨by rfl, ?hy31⟩) (by assumption) ?rest31
                    case hy31 => (intro w hSw; first | (go_simp; done) | (go_simp; simp [*]; done) | (simp [*]; go_simp; done))
                    try simp only [Act.put, List.setIfInBounds_toArray, List.set_cons_zero, List.set_cons_succ]
                    refine wpAnyH_ready (rs := [0]) (by kernel_rfl) (by simp) ?_
                    refine AllReadyH.cons (o := { dst := some 106, op := _, type := _, pos := _, after := _, guard := _ }) rfl (fun K hK => ?_) AllReadyH.nil
                    go_simp
                    refine hK.out _ _ trivial (fun hHeld => ?_)
                    try simp only [Act.put, List.setIfInBounds_toArray, List.set_cons_zero, List.set_cons_succ]
                    clear hK
                    refine wpAnyH_ready (rs := [4]) (by kernel_rfl) (by simp) ?_
                    refine AllReadyH.cons (o := { dst := some 110, op := _, type := _, pos := _, after := _, guard := _ }) rfl (fun K hK => ?_) AllReadyH.nil
                    rw [if_pos (by rfl)]
                    refine wp_app_run (.tmp 106) (.tmp 109) 32 rfl _ _ _ rfl rfl R1.out ?_
                    refine hK.out _ _ trivial (fun hHeld => ?_)
                    try simp only [Act.put, List.setIfInBounds_toArray, List.set_cons_zero, List.set_cons_succ]
                    clear hK
                    refine wpAnyH_ready (rs := [9]) (by kernel_rfl) (by simp) ?_
                    refine AllReadyH.cons (o := { dst := some 115, op := _, type := _, pos := _, after := _, guard := _ }) rfl (fun K hK => ?_) AllReadyH.nil
                    rw [if_pos (by rfl)]
                    refine wp_app_run (.tmp 110) (.tmp 114) 32 rfl _ _ _ rfl rfl R2.out ?_
                    refine hK.out _ _ trivial (fun hHeld => ?_)
                    try simp only [Act.put, List.setIfInBounds_toArray, List.set_cons_zero, List.set_cons_succ]
                    clear hK
                    refine wpAnyH_take (i := 10) (oi := { dst := some 4, op := _, type := _, pos := _, after := _, guard := _ }) (v := ?v32) rfl (by kernel_rfl) (by kernel_rfl) (by kernel_rfl) (fun _ _ _ h => h) (Or.inl ⟨by rfl, ?hy32⟩) (by assumption) ?rest32
                    case hy32 => (intro w hSw; go_simp; try with_reducible rfl)
                    try simp only [Act.put, List.setIfInBounds_toArray, List.set_cons_zero, List.set_cons_succ]
                    refine wpAnyH_done (by kernel_rfl) ?_ _
                    clear hHeld R1 R2

                    have mL := ro_len I4.out
                    rw [HM4.out] at mL
                    go_wp2_with fail
                    refine mL.mono ?_
                    rintro _ w' ⟨rfl, hw'⟩
                    obtain rfl := hw'.symm
                    clear mL
                    go_wp2
                    go_roundw
                    case measure => simp [intOf]; have := HLT.out; omega
                    case rel => exact ⟨k + 1, _, _, _, _, by have := HLT.out; omega, by go_num, rfl, HM4, I4⟩
          · have a1b : (act == 1) = false := beq_eq_false_iff_ne.2 a1
            by_cases a4 : act = 4
            · subst a4
              by_cases hs : s.size ≤ 1048576
              · have hsz : decide ((1048576 : Int) < (s.size : Int)) = false := decide_eq_false (by omega)
                by_cases hm2 : m < 1048576
                · have hmz : decide ((1048576 : Int) ≤ (m : Int)) = false := decide_eq_false (by omega)
                  by_cases hin : 0 ≤ oi ∧ oi ≤ (m : Int)
                  · obtain ⟨i, rfl⟩ : ∃ i : Nat, oi = (i : Int) := ⟨oi.toNat, by omega⟩
                    have hil : i ≤ m := by omega
                    by_cases him : i < m
                    · obtain rfl : true = q := by rw [← HQ.out]; simp; omega
                      as_aux_lemma =>
                        have mP := rx_ins HX.out i s (by rw [HM.out]; omega) hs (by rw [HM.out]; exact hm2)
                        go_wp2_with fail
                        refine mP.mono ?_
                        rintro _ w2 ⟨rfl, hx2⟩
                        have mU := ro_put hx2.ro i s (by rw [HM.out]; omega) (by rw [HM.out]; omega)
                        obtain ⟨_, z2, z3, z4, z5⟩ := hx2.rd
                        dsimp only at z2 z3 z4 z5
                        clear mP hx2

                        rw [HM.out] at mU
                        clear x1 x2 x3 x4 x5
                        go_wp2_with fail
                        refine mU.mono ?_
                        rintro _ w3 ⟨ao3, cp3, rfl, h3⟩
                        clear mU z2 z3 z4 z5

                        obtain ⟨m4, hm4⟩ : ∃ m4, m + 1 = m4 := ⟨_, rfl⟩
                        rw [hm4] at h3 ⊢
                        have HM4 : Kept ((l.take i ++ s :: l.drop i : List ByteArray).length = m4) := by show _ = _; rw [← hm4, ← HM.out]; simp only [List.length_append, List.length_cons, List.length_take, List.length_drop]; have := HM.out; omega
                        have I4 := keep h3
                        clear h3 hm4

                        have mL := ro_len I4.out
                        rw [HM4.out] at mL
                        go_wp2_with fail
                        refine mL.mono ?_
                        rintro _ w' ⟨rfl, hw'⟩
                        obtain rfl := hw'.symm
                        clear mL
                        go_wp2
                        go_roundw
                        case measure => simp [intOf]; have := HLT.out; omega
                        case rel => exact ⟨k + 1, _, _, _, _, by have := HLT.out; omega, by go_num, rfl, HM4, I4⟩

                    · obtain rfl : false = q := by rw [← HQ.out]; simp; omega
                      obtain rfl : m = i := by omega
                      as_aux_lemma =>
                        have mP := rx_ins HX.out m s (by rw [HM.out]; omega) hs (by rw [HM.out]; exact hm2)
                        go_wp2_with fail
                        refine mP.mono ?_
                        rintro _ w2 ⟨rfl, hx2⟩
                        have mU := ro_put hx2.ro m s (by rw [HM.out]; omega) (by rw [HM.out]; omega)
                        obtain ⟨_, z2, z3, z4, z5⟩ := hx2.rd
                        dsimp only at z2 z3 z4 z5
                        clear mP hx2

                        rw [HM.out] at mU
                        clear x1 x2 x3 x4 x5
                        go_wp2_with fail
                        refine mU.mono ?_
                        rintro _ w3 ⟨ao3, cp3, rfl, h3⟩
                        clear mU z2 z3 z4 z5

                        obtain ⟨m4, hm4⟩ : ∃ m4, m + 1 = m4 := ⟨_, rfl⟩
                        rw [hm4] at h3 ⊢
                        have HM4 : Kept ((l.take m ++ s :: l.drop m : List ByteArray).length = m4) := by show _ = _; rw [← hm4, ← HM.out]; simp only [List.length_append, List.length_cons, List.length_take, List.length_drop]; have := HM.out; omega
                        have I4 := keep h3
                        clear h3 hm4

                        have mL := ro_len I4.out
                        rw [HM4.out] at mL
                        go_wp2_with fail
                        refine mL.mono ?_
                        rintro _ w' ⟨rfl, hw'⟩
                        obtain rfl := hw'.symm
                        clear mL
                        go_wp2
                        go_roundw
                        case measure => simp [intOf]; have := HLT.out; omega
                        case rel => exact ⟨k + 1, _, _, _, _, by have := HLT.out; omega, by go_num, rfl, HM4, I4⟩

                  · have hqf : false = q := by
                      rw [← HQ.out]
                      by_cases h1 : 0 ≤ oi
                      · have : ¬ oi < (m : Int) := by omega
                        simp [this]
                      · simp [h1]
                    obtain rfl := hqf
                    have hne : (oi == (m : Int)) = false := beq_eq_false_iff_ne.2 (by omega)
                    have mP := ro_ins_out HX.out.ro oi s (by rw [HM.out]; omega)
                    have I4 := keep HX.out.ro
                    have HM4 := keep HM.out
                    as_aux_lemma =>
                      go_wp2_with fail
                      refine mP.mono ?_
                      rintro _ w' ⟨rfl, hw'⟩
                      obtain rfl := hw'.symm
                      clear mP

                      have mL := ro_len I4.out
                      rw [HM4.out] at mL
                      go_wp2_with fail
                      refine mL.mono ?_
                      rintro _ w' ⟨rfl, hw'⟩
                      obtain rfl := hw'.symm
                      clear mL
                      go_wp2
                      go_roundw
                      case measure => simp [intOf]; have := HLT.out; omega
                      case rel => exact ⟨k + 1, _, _, _, _, by have := HLT.out; omega, by go_num, rfl, HM4, I4⟩
                · have hmz : decide ((1048576 : Int) ≤ (m : Int)) = true := decide_eq_true (by omega)
                  have I4 := keep HX.out.ro
                  as_aux_lemma =>
                    go_wp2
                    go_roundw
                    case measure => simp [intOf]; have := HLT.out; omega
                    case rel => exact ⟨k + 1, _, _, _, _, by have := HLT.out; omega, by go_num, rfl, HM, I4⟩
              · have hsz : decide ((1048576 : Int) < (s.size : Int)) = true := decide_eq_true (by omega)
                have I4 := keep HX.out.ro
                as_aux_lemma =>
                  go_wp2
                  go_roundw
                  case measure => simp [intOf]; have := HLT.out; omega
                  case rel => exact ⟨k + 1, _, _, _, _, by have := HLT.out; omega, by go_num, rfl, HM, I4⟩
            · have a4b : (act == 4) = false := beq_eq_false_iff_ne.2 a4
              by_cases a5 : act = 5
              · subst a5
                by_cases hin : 0 ≤ oi ∧ oi < (m : Int)
                · obtain ⟨i, rfl⟩ : ∃ i : Nat, oi = (i : Int) := ⟨oi.toNat, by omega⟩
                  have hig : i < m := by omega
                  obtain rfl : true = q := by rw [← HQ.out]; simp; omega
                  obtain ⟨g, rfl, hg⟩ := ro_g HX.out.ro HM.out (by omega)
                  have hcap := ro_cap HX.out.ro HM.out
                  have HCAP := keep hcap
                  clear hg hcap
                  have mP := rx_rem HX.out i (by rw [HM.out]; exact hig)
                  obtain ⟨m4, hm4⟩ : ∃ m4, m - 1 = m4 := ⟨_, rfl⟩
                  have HMM := keep hm4
                  clear hm4
                  as_aux_lemma =>
                    go_wp2_with fail
                    refine mP.mono ?_
                    rintro _ w2 ⟨rfl, hx2⟩
                    have c0 := hx2.ro.ks.at (List.getElem?_eq_getElem (by rw [HM.out]; exact hig) : l[i]? = some _)
                    obtain ⟨_, z2, z3, z4, z5⟩ := hx2.rd
                    dsimp only at z2 z3 z4 z5
                    have hg2 : g < w2.drew.heap.size := lt_cell c0
                    have hX2 : X < w2.drew.heap.size := lt_cell z2
                    clear c0

                    obtain ⟨v1, w3, o2, c2, w4, a2, r1, r2, ha2, k4, b3, b4⟩ := del_runs w2.drew W.heap.size g m cp l (hx2.ro.below (Below.refl _ w2).drew).ks HM.out i hig HFW.out hg2
                    rw [show w2.drew.heap.size = w2.heap.size from rfl] at r1
                    have H4 := (hx2.ro.below (Below.refl _ w2).drew).row k4 b4
                    have B3 := keep b3

                    obtain ⟨i1, hi1⟩ : ∃ i1, i + 1 = i1 := ⟨_, rfl⟩
                    rw [HMM.out] at H4
                    rw [hi1, HMM.out] at r2
                    rw [hi1] at ha2 H4
                    have E2 : Kept (w2.drew.cell? ⟨X, 2, none⟩ = some (.int .i64 (i : Int))) := z2
                    have E2a : Kept ((w2.drew.alloc (.cells #[] 9)).cell? ⟨X, 2, none⟩ = some (.int .i64 (i : Int))) := ((((Below.refl w2.drew.heap.size w2.drew).alloc (Nat.le_refl _) _).cell (p := ⟨X, 2, none⟩) hX2).trans z2 : _)
                    have E3 : Kept (w3.cell? ⟨X, 2, none⟩ = some (.int .i64 (i : Int))) := ((b3.cell (p := ⟨X, 2, none⟩) hX2).trans z2 : _)
                    have E4 : Kept (w4.cell? ⟨X, 2, none⟩ = some (.int .i64 (i : Int))) := ((b4.cell (p := ⟨X, 2, none⟩) hX2).trans z2 : _)
                    have HM4 : Kept ((l.take i ++ l.drop i1).length = m4) := by show _ = _; simp only [List.length_append, List.length_take, List.length_drop]; have := HM.out; have := HMM.out; omega
                    have hwi : IntKind.i64.wrap ((i : Int) + 1) = (i1 : Int) := by have := HFW.out; rw [IntKind.wrap_i64]; omega
                    have R1 := keep r1
                    have R2 := keep r2
                    have I4 := keep H4
                    have hig0 : (0 : Int) ≤ (i : Int) := by omega
                    have higz : (i : Int) < (m : Int) := by omega
                    have higy : (i : Int) ≤ (m : Int) := by omega
                    have higc : (i : Int) ≤ (cp : Int) := by have := HCAP.out; omega
                    have hcm : (m : Int) ≤ (cp : Int) := by have := HCAP.out; omega
                    have hi10 : (0 : Int) ≤ (i1 : Int) := by omega
                    have hi1m : (i1 : Int) ≤ (m : Int) := by omega
                    have hi1c : (i1 : Int) ≤ (cp : Int) := by omega
                    have hii : (i : Int) ≤ (i1 : Int) := by omega
                    have hii2 : ¬ i1 < i := by omega
                    clear mP hx2 r1 r2 k4 b3 b4 B3 H4 x1 x2 x3 x4 x5 z3 z4 z5 hg2 hX2 hin hig hi1
                    by_cases hci : cp = i1
                    · rw [if_pos hci] at ha2
                      subst ha2
                      go_wp2_with fail
                      refine wp_region_held_drew (S := fun W => W.cell? ⟨X, 2, none⟩ = some (.int .i64 (i : Int))) (by kernel_rfl) E2.out (fun hHeld => ?_)
                      refine wpAnyH_take (i := 1) (oi := { dst := some 162, op := _, type := _, pos := _, after := _, guard := _ }) (v := ?v33) rfl (by kernel_rfl) (by kernel_rfl) (by kernel_rfl) (fun _ _ _ h => h) (Or.inl ⟨by rfl, ?hy33⟩) (by assumption) ?rest33
                      case hy33 => (intro w hSw; obtain p1 := hSw; go_simp; try with_reducible rfl)
                      try simp only [Act.put, List.setIfInBounds_toArray, List.set_cons_zero, List.set_cons_succ]
                      refine wpAnyH_take (i := 2) (oi := { dst := some 163, op := _, type := _, pos := _, after := _, guard := _ }) (v := ?v34) rfl (by kernel_rfl) (by kernel_rfl) (by kernel_rfl) (fun _ _ _ h => h) (Or.inl ⟨by rfl, ?hy34⟩) (by assumption) ?rest34
                      case hy34 => (intro w hSw; obtain p1 := hSw; go_simp; try with_reducible rfl)
                      try simp only [Act.put, List.setIfInBounds_toArray, List.set_cons_zero, List.set_cons_succ]
                      refine wpAnyH_take (i := 3) (oi := { dst := some 164, op := _, type := _, pos := _, after := _, guard := _ }) (v := ?v35) rfl (by kernel_rfl) (by kernel_rfl) (by kernel_rfl) (fun _ _ _ h => h) (Or.inl ⟨by rfl, ?hy35⟩) (by assumption) ?rest35
                      case hy35 => (intro w hSw; obtain p1 := hSw; go_simp; try with_reducible rfl)
                      try simp only [Act.put, List.setIfInBounds_toArray, List.set_cons_zero, List.set_cons_succ]
                      refine wpAnyH_take (i := 4) (oi := { dst := some 165, op := _, type := _, pos := _, after := _, guard := _ }) (v := (.slice (some ⟨g, 0, none⟩) i cp)) rfl (by kernel_rfl) (by kernel_rfl) (by kernel_rfl) (fun _ _ _ h => h) (Or.inl ⟨by rfl, ?hy36⟩) (by assumption) ?rest36
                      case hy36 => (intro w hSw; obtain p1 := hSw; first | (go_simp; done) | (go_simp; simp [*]; done) | (simp [*]; go_simp; done))
                      try simp only [Act.put, List.setIfInBounds_toArray, List.set_cons_zero, List.set_cons_succ]
                      refine wpAnyH_take (i := 6) (oi := { dst := some 167, op := _, type := _, pos := _, after := _, guard := _ }) (v := ?v37) rfl (by kernel_rfl) (by kernel_rfl) (by kernel_rfl) (fun _ _ _ h => h) (Or.inl ⟨by rfl, ?hy37⟩) (by assumption) ?rest37
                      case hy37 => (intro w hSw; obtain p1 := hSw; go_simp; try with_reducible rfl)
                      try simp only [Act.put, List.setIfInBounds_toArray, List.set_cons_zero, List.set_cons_succ]
                      refine wpAnyH_take (i := 7) (oi := { dst := some 168, op := _, type := _, pos := _, after := _, guard := _ }) (v := ?v38) rfl (by kernel_rfl) (by kernel_rfl) (by kernel_rfl) (fun _ _ _ h => h) (Or.inl ⟨by rfl, ?hy38⟩) (by assumption) ?rest38
                      case hy38 => (intro w hSw; obtain p1 := hSw; go_simp; try with_reducible rfl)
                      try simp only [Act.put, List.setIfInBounds_toArray, List.set_cons_zero, List.set_cons_succ]
                      refine wpAnyH_take (i := 8) (oi := { dst := some 169, op := _, type := _, pos := _, after := _, guard := _ }) (v := ?v39) rfl (by kernel_rfl) (by kernel_rfl) (by kernel_rfl) (fun _ _ _ h => h) (Or.inl ⟨by rfl, ?hy39⟩) (by assumption) ?rest39
                      case hy39 => (intro w hSw; obtain p1 := hSw; go_simp; try with_reducible rfl)
                      try simp only [Act.put, List.setIfInBounds_toArray, List.set_cons_zero, List.set_cons_succ]
                      refine wpAnyH_take (i := 9) (oi := { dst := some 170, op := _, type := _, pos := _, after := _, guard := _ }) (v := (.int .i64 (i1 : Int))) rfl (by kernel_rfl) (by kernel_rfl) (by kernel_rfl) (fun _ _ _ h => h) (Or.inl ⟨by rfl, ?hy40⟩) (by assumption) ?rest40
                      case hy40 => (intro w hSw; obtain p1 := hSw; first | (go_simp; done) | (go_simp; simp [*]; done) | (simp [*]; go_simp; done))
                      try simp only [Act.put, List.setIfInBounds_toArray, List.set_cons_zero, List.set_cons_succ]
                      refine wpAnyH_take (i := 10) (oi := { dst := some 171, op := _, type := _, pos := _, after := _, guard := _ }) (v := (.slice (some ⟨g, 0, none⟩) (m - i1) (cp - i1))) rfl (by kernel_rfl) (by kernel_rfl) (by kernel_rfl) (fun _ _ _ h => h) (Or.inl ⟨by rfl, ?hy41⟩) (by assumption) ?rest41
                      case hy41 => (intro w hSw; obtain p1 := hSw; first | (go_simp; done) | (go_simp; simp [*]; done) | (simp [*]; go_simp; done))
                      try simp only [Act.put, List.setIfInBounds_toArray, List.set_cons_zero, List.set_cons_succ]
                      refine wpAnyH_ready (rs := [0]) (by kernel_rfl) (by simp) ?_
                      refine AllReadyH.cons (o := { dst := some 161, op := _, type := _, pos := _, after := _, guard := _ }) rfl (fun K hK => ?_) AllReadyH.nil
                      go_simp
                      refine hK.out _ _ E2a.out (fun hHeld => ?_)
                      try simp only [Act.put, List.setIfInBounds_toArray, List.set_cons_zero, List.set_cons_succ]
                      clear hK
                      refine wpAnyH_ready (rs := [5]) (by kernel_rfl) (by simp) ?_
                      refine AllReadyH.cons (o := { dst := some 166, op := _, type := _, pos := _, after := _, guard := _ }) rfl (fun K hK => ?_) AllReadyH.nil
                      rw [if_pos (by rfl)]
                      refine wp_app_run (.tmp 161) (.tmp 165) 32 rfl _ _ _ rfl rfl R1.out ?_
                      refine hK.out _ _ E3.out (fun hHeld => ?_)
                      try simp only [Act.put, List.setIfInBounds_toArray, List.set_cons_zero, List.set_cons_succ]
                      clear hK
                      refine wpAnyH_ready (rs := [11]) (by kernel_rfl) (by simp) ?_
                      refine AllReadyH.cons (o := { dst := some 172, op := _, type := _, pos := _, after := _, guard := _ }) rfl (fun K hK => ?_) AllReadyH.nil
                      rw [if_pos (by rfl)]
                      refine wp_app_run (.tmp 166) (.tmp 171) 32 rfl _ _ _ rfl rfl R2.out ?_
                      refine hK.out _ _ E4.out (fun hHeld => ?_)
                      try simp only [Act.put, List.setIfInBounds_toArray, List.set_cons_zero, List.set_cons_succ]
                      clear hK
                      refine wpAnyH_take (i := 12) (oi := { dst := some 4, op := _, type := _, pos := _, after := _, guard := _ }) (v := ?v42) rfl (by kernel_rfl) (by kernel_rfl) (by kernel_rfl) (fun _ _ _ h => h) (Or.inl ⟨by rfl, ?hy42⟩) (by assumption) ?rest42
                      case hy42 => (intro w hSw; go_simp; try with_reducible rfl)
                      try simp only [Act.put, List.setIfInBounds_toArray, List.set_cons_zero, List.set_cons_succ]
                      refine wpAnyH_done (by kernel_rfl) ?_ _
                      clear hHeld R1 R2 E2 E2a E3 E4

                      have mL := ro_len I4.out
                      rw [HM4.out] at mL
                      go_wp2_with fail
                      refine mL.mono ?_
                      rintro _ w' ⟨rfl, hw'⟩
                      obtain rfl := hw'.symm
                      clear mL
                      go_wp2
                      go_roundw
                      case measure => simp [intOf]; have := HLT.out; omega
                      case rel => exact ⟨k + 1, _, _, _, _, by have := HLT.out; omega, by go_num, rfl, HM4, I4⟩

                    · rw [if_neg hci] at ha2
                      subst ha2
                      go_wp2_with fail
                      refine wp_region_held_drew (S := fun W => W.cell? ⟨X, 2, none⟩ = some (.int .i64 (i : Int))) (by kernel_rfl) E2.out (fun hHeld => ?_)
                      refine wpAnyH_take (i := 1) (oi := { dst := some 162, op := _, type := _, pos := _, after := _, guard := _ }) (v := ?v43) rfl (by kernel_rfl) (by kernel_rfl) (by kernel_rfl) (fun _ _ _ h => h) (Or.inl ⟨by rfl, ?hy43⟩) (by assumption) ?rest43
                      case hy43 => (intro w hSw; obtain p1 := hSw; go_simp; try with_reducible rfl)
                      try simp only [Act.put, List.setIfInBounds_toArray, List.set_cons_zero, List.set_cons_succ]
                      refine wpAnyH_take (i := 2) (oi := { dst := some 163, op := _, type := _, pos := _, after := _, guard := _ }) (v := ?v44) rfl (by kernel_rfl) (by kernel_rfl) (by kernel_rfl) (fun _ _ _ h => h) (Or.inl ⟨by rfl, ?hy44⟩) (by assumption) ?rest44
                      case hy44 => (intro w hSw; obtain p1 := hSw; go_simp; try with_reducible rfl)
                      try simp only [Act.put, List.setIfInBounds_toArray, List.set_cons_zero, List.set_cons_succ]
                      refine wpAnyH_take (i := 3) (oi := { dst := some 164, op := _, type := _, pos := _, after := _, guard := _ }) (v := ?v45) rfl (by kernel_rfl) (by kernel_rfl) (by kernel_rfl) (fun _ _ _ h => h) (Or.inl ⟨by rfl, ?hy45⟩) (by assumption) ?rest45
                      case hy45 => (intro w hSw; obtain p1 := hSw; go_simp; try with_reducible rfl)
                      try simp only [Act.put, List.setIfInBounds_toArray, List.set_cons_zero, List.set_cons_succ]
                      refine wpAnyH_take (i := 4) (oi := { dst := some 165, op := _, type := _, pos := _, after := _, guard := _ }) (v := (.slice (some ⟨g, 0, none⟩) i cp)) rfl (by kernel_rfl) (by kernel_rfl) (by kernel_rfl) (fun _ _ _ h => h) (Or.inl ⟨by rfl, ?hy46⟩) (by assumption) ?rest46
                      case hy46 => (intro w hSw; obtain p1 := hSw; first | (go_simp; done) | (go_simp; simp [*]; done) | (simp [*]; go_simp; done))
                      try simp only [Act.put, List.setIfInBounds_toArray, List.set_cons_zero, List.set_cons_succ]
                      refine wpAnyH_take (i := 6) (oi := { dst := some 167, op := _, type := _, pos := _, after := _, guard := _ }) (v := ?v47) rfl (by kernel_rfl) (by kernel_rfl) (by kernel_rfl) (fun _ _ _ h => h) (Or.inl ⟨by rfl, ?hy47⟩) (by assumption) ?rest47
                      case hy47 => (intro w hSw; obtain p1 := hSw; go_simp; try with_reducible rfl)
                      try simp only [Act.put, List.setIfInBounds_toArray, List.set_cons_zero, List.set_cons_succ]
                      refine wpAnyH_take (i := 7) (oi := { dst := some 168, op := _, type := _, pos := _, after := _, guard := _ }) (v := ?v48) rfl (by kernel_rfl) (by kernel_rfl) (by kernel_rfl) (fun _ _ _ h => h) (Or.inl ⟨by rfl, ?hy48⟩) (by assumption) ?rest48
                      case hy48 => (intro w hSw; obtain p1 := hSw; go_simp; try with_reducible rfl)
                      try simp only [Act.put, List.setIfInBounds_toArray, List.set_cons_zero, List.set_cons_succ]
                      refine wpAnyH_take (i := 8) (oi := { dst := some 169, op := _, type := _, pos := _, after := _, guard := _ }) (v := ?v49) rfl (by kernel_rfl) (by kernel_rfl) (by kernel_rfl) (fun _ _ _ h => h) (Or.inl ⟨by rfl, ?hy49⟩) (by assumption) ?rest49
                      case hy49 => (intro w hSw; obtain p1 := hSw; go_simp; try with_reducible rfl)
                      try simp only [Act.put, List.setIfInBounds_toArray, List.set_cons_zero, List.set_cons_succ]
                      refine wpAnyH_take (i := 9) (oi := { dst := some 170, op := _, type := _, pos := _, after := _, guard := _ }) (v := (.int .i64 (i1 : Int))) rfl (by kernel_rfl) (by kernel_rfl) (by kernel_rfl) (fun _ _ _ h => h) (Or.inl ⟨by rfl, ?hy50⟩) (by assumption) ?rest50
                      case hy50 => (intro w hSw; obtain p1 := hSw; first | (go_simp; done) | (go_simp; simp [*]; done) | (simp [*]; go_simp; done))
                      try simp only [Act.put, List.setIfInBounds_toArray, List.set_cons_zero, List.set_cons_succ]
                      refine wpAnyH_take (i := 10) (oi := { dst := some 171, op := _, type := _, pos := _, after := _, guard := _ }) (v := (.slice (some ⟨g, i1, none⟩) (m - i1) (cp - i1))) rfl (by kernel_rfl) (by kernel_rfl) (by kernel_rfl) (fun _ _ _ h => h) (Or.inl ⟨by rfl, ?hy51⟩) (by assumption) ?rest51
                      case hy51 => (intro w hSw; obtain p1 := hSw; first | (go_simp; done) | (go_simp; simp [*]; done) | (simp [*]; go_simp; done))
                      try simp only [Act.put, List.setIfInBounds_toArray, List.set_cons_zero, List.set_cons_succ]
                      refine wpAnyH_ready (rs := [0]) (by kernel_rfl) (by simp) ?_
                      refine AllReadyH.cons (o := { dst := some 161, op := _, type := _, pos := _, after := _, guard := _ }) rfl (fun K hK => ?_) AllReadyH.nil
                      go_simp
                      refine hK.out _ _ E2a.out (fun hHeld => ?_)
                      try simp only [Act.put, List.setIfInBounds_toArray, List.set_cons_zero, List.set_cons_succ]
                      clear hK
                      refine wpAnyH_ready (rs := [5]) (by kernel_rfl) (by simp) ?_
                      refine AllReadyH.cons (o := { dst := some 166, op := _, type := _, pos := _, after := _, guard := _ }) rfl (fun K hK => ?_) AllReadyH.nil
                      rw [if_pos (by rfl)]
                      refine wp_app_run (.tmp 161) (.tmp 165) 32 rfl _ _ _ rfl rfl R1.out ?_
                      refine hK.out _ _ E3.out (fun hHeld => ?_)
                      try simp only [Act.put, List.setIfInBounds_toArray, List.set_cons_zero, List.set_cons_succ]
                      clear hK
                      refine wpAnyH_ready (rs := [11]) (by kernel_rfl) (by simp) ?_
                      refine AllReadyH.cons (o := { dst := some 172, op := _, type := _, pos := _, after := _, guard := _ }) rfl (fun K hK => ?_) AllReadyH.nil
                      rw [if_pos (by rfl)]
                      refine wp_app_run (.tmp 166) (.tmp 171) 32 rfl _ _ _ rfl rfl R2.out ?_
                      refine hK.out _ _ E4.out (fun hHeld => ?_)
                      try simp only [Act.put, List.setIfInBounds_toArray, List.set_cons_zero, List.set_cons_succ]
                      clear hK
                      refine wpAnyH_take (i := 12) (oi := { dst := some 4, op := _, type := _, pos := _, after := _, guard := _ }) (v := ?v52) rfl (by kernel_rfl) (by kernel_rfl) (by kernel_rfl) (fun _ _ _ h => h) (Or.inl ⟨by rfl, ?hy52⟩) (by assumption) ?rest52
                      case hy52 => (intro w hSw; go_simp; try with_reducible rfl)
                      try simp only [Act.put, List.setIfInBounds_toArray, List.set_cons_zero, List.set_cons_succ]
                      refine wpAnyH_done (by kernel_rfl) ?_ _
                      clear hHeld R1 R2 E2 E2a E3 E4

                      have mL := ro_len I4.out
                      rw [HM4.out] at mL
                      go_wp2_with fail
                      refine mL.mono ?_
                      rintro _ w' ⟨rfl, hw'⟩
                      obtain rfl := hw'.symm
                      clear mL
                      go_wp2
                      go_roundw
                      case measure => simp [intOf]; have := HLT.out; omega
                      case rel => exact ⟨k + 1, _, _, _, _, by have := HLT.out; omega, by go_num, rfl, HM4, I4⟩

                · have hqf : false = q := by
                    rw [← HQ.out]
                    by_cases h1 : 0 ≤ oi
                    · have : ¬ oi < (m : Int) := by omega
                      simp [this]
                    · simp [h1]
                  obtain rfl := hqf
                  have mP := ro_rem_no HX.out.ro oi (by rw [HM.out]; omega)
                  have HM4 := keep HM.out
                  as_aux_lemma =>
                    go_wp2_with fail
                    refine mP.mono ?_
                    rintro _ w2 ⟨rfl, h2⟩
                    have I4 := keep h2
                    clear mP h2 x1 x2 x3 x4 x5

                    have mL := ro_len I4.out
                    rw [HM4.out] at mL
                    go_wp2_with fail
                    refine mL.mono ?_
                    rintro _ w' ⟨rfl, hw'⟩
                    obtain rfl := hw'.symm
                    clear mL
                    go_wp2
                    go_roundw
                    case measure => simp [intOf]; have := HLT.out; omega
                    case rel => exact ⟨k + 1, _, _, _, _, by have := HLT.out; omega, by go_num, rfl, HM4, I4⟩
              · have a5b : (act == 5) = false := beq_eq_false_iff_ne.2 a5
                by_cases a6 : act = 6
                · subst a6
                  by_cases hneg : oi < 0
                  · have mP := rx_trim HX.out oi oj
                    by_cases hmo : (m : Int) < oj
                    · as_aux_lemma =>
                        go_wp2_with fail
                        refine mP.mono ?_
                        rintro _ w2 ⟨rfl, hx2⟩
                        obtain ⟨_, z2, z3, z4, z5⟩ := hx2.rd
                        dsimp only at z2 z3 z4 z5
                        by_cases hft : (m : Int) ≤ (0 : Int)
                        · have hftb : decide ((m : Int) ≤ (0 : Int)) = true := decide_eq_true hft
                          have hl0 := rtrim_none (l := l) (f := oi) (t := oj) HM.out (by omega)
                          rw [hl0] at hx2
                          have I4 : Kept (Ro W b (.slice none 0 0) [] [] w2) := hx2.ro.row (ks_nil _ _) (Below.refl _ _)
                          have HM4 : Kept (([] : List ByteArray).length = 0) := rfl
                          clear mP hx2 hl0 x1 x2 x3 x4 x5 z4 z5
                          have mL := ro_len I4.out
                          rw [HM4.out] at mL
                          go_wp2_with fail
                          refine mL.mono ?_
                          rintro _ w' ⟨rfl, hw'⟩
                          obtain rfl := hw'.symm
                          clear mL
                          go_wp2
                          go_roundw
                          case measure => simp [intOf]; have := HLT.out; omega
                          case rel => exact ⟨k + 1, _, _, _, _, by have := HLT.out; omega, by go_num, rfl, HM4, I4⟩

                        · have hftb : decide ((m : Int) ≤ (0 : Int)) = false := decide_eq_false hft
  
                          have hfj : 0 < m := by omega
                          have hjm : m ≤ m := by omega
                          have hl0 := rtrim_some (l := l) (f := oi) (t := oj) (i := 0) (j := m) HM.out (by omega) (by omega)
                          rw [hl0] at hx2
                          obtain ⟨g, rfl, hg2⟩ := ro_g hx2.ro HM.out (by omega)
                          have hcap := ro_cap hx2.ro HM.out
                          obtain ⟨o2, c2, w4, r1, k4, b4⟩ := cut_runs w2 W.heap.size g m cp l hx2.ro.ks HM.out 0 m hfj hjm HFW.out hg2
                          have H4 := hx2.ro.row k4 b4
                          have hm4 : ((l.take m).drop 0).length = m - 0 := by rw [List.length_drop, List.length_take, HM.out]; omega
                          obtain ⟨m4, hm4'⟩ : ∃ m4, m - 0 = m4 := ⟨_, rfl⟩
                          rw [hm4'] at r1 H4 hm4
                          try rw [Nat.sub_zero] at r1
                          have HM4 := keep hm4
                          have R1 := keep r1
                          have I4 := keep H4
                          have e1 : (0 : Int) ≤ (0 : Int) := by omega
                          have e2 : (0 : Int) ≤ (m : Int) := by omega
                          have e3 : (m : Int) ≤ (m : Int) := by omega
                          have e4 : (m : Int) ≤ (cp : Int) := by omega
                          have e5 : (0 : Int) ≤ (m : Int) := by omega
                          have e6 : ¬ cp = 0 := by omega
                          have e7 : (m : Int) ≤ (cp : Int) := by omega
                          clear mP hx2 hl0 x1 x2 x3 x4 x5 z4 z5 hg2 hcap r1 k4 b4 H4 hm4 hjm
                          go_wp2_with (first | (show wpList _ _ _ ({ dst := some 197, op := Op.call { callee := Callee.builtin Builtin.append, args := _, argTypes := _ }, type := _, pos := _, after := _, guard := _ } :: _) _ _; refine wpL_app_run rfl (.tmp 192) (.tmp 196) 32 rfl _ _ _ rfl rfl R1.out ?_) | fail)
                          clear R1
                          have mL := ro_len I4.out
                          rw [HM4.out] at mL
                          refine mL.mono ?_
                          rintro _ w' ⟨rfl, hw'⟩
                          obtain rfl := hw'.symm
                          clear mL
                          go_wp2
                          go_roundw
                          case measure => simp [intOf]; have := HLT.out; omega
                          case rel => exact ⟨k + 1, _, _, _, _, by have := HLT.out; omega, by go_num, rfl, HM4, I4⟩
                    · as_aux_lemma =>
                        go_wp2_with fail
                        refine mP.mono ?_
                        rintro _ w2 ⟨rfl, hx2⟩
                        obtain ⟨_, z2, z3, z4, z5⟩ := hx2.rd
                        dsimp only at z2 z3 z4 z5
                        by_cases hft : oj ≤ (0 : Int)
                        · have hftb : decide (oj ≤ (0 : Int)) = true := decide_eq_true hft
                          have hl0 := rtrim_none (l := l) (f := oi) (t := oj) HM.out (by omega)
                          rw [hl0] at hx2
                          have I4 : Kept (Ro W b (.slice none 0 0) [] [] w2) := hx2.ro.row (ks_nil _ _) (Below.refl _ _)
                          have HM4 : Kept (([] : List ByteArray).length = 0) := rfl
                          clear mP hx2 hl0 x1 x2 x3 x4 x5 z4 z5
                          have mL := ro_len I4.out
                          rw [HM4.out] at mL
                          go_wp2_with fail
                          refine mL.mono ?_
                          rintro _ w' ⟨rfl, hw'⟩
                          obtain rfl := hw'.symm
                          clear mL
                          go_wp2
                          go_roundw
                          case measure => simp [intOf]; have := HLT.out; omega
                          case rel => exact ⟨k + 1, _, _, _, _, by have := HLT.out; omega, by go_num, rfl, HM4, I4⟩

                        · have hftb : decide (oj ≤ (0 : Int)) = false := decide_eq_false hft
                          obtain ⟨j, rfl⟩ : ∃ j : Nat, oj = (j : Int) := ⟨oj.toNat, by omega⟩
                          have hfj : 0 < j := by omega
                          have hjm : j ≤ m := by omega
                          have hl0 := rtrim_some (l := l) (f := oi) (t := (j : Int)) (i := 0) (j := j) HM.out (by omega) (by omega)
                          rw [hl0] at hx2
                          obtain ⟨g, rfl, hg2⟩ := ro_g hx2.ro HM.out (by omega)
                          have hcap := ro_cap hx2.ro HM.out
                          obtain ⟨o2, c2, w4, r1, k4, b4⟩ := cut_runs w2 W.heap.size g m cp l hx2.ro.ks HM.out 0 j hfj hjm HFW.out hg2
                          have H4 := hx2.ro.row k4 b4
                          have hm4 : ((l.take j).drop 0).length = j - 0 := by rw [List.length_drop, List.length_take, HM.out]; omega
                          obtain ⟨m4, hm4'⟩ : ∃ m4, j - 0 = m4 := ⟨_, rfl⟩
                          rw [hm4'] at r1 H4 hm4
                          try rw [Nat.sub_zero] at r1
                          have HM4 := keep hm4
                          have R1 := keep r1
                          have I4 := keep H4
                          have e1 : (0 : Int) ≤ (0 : Int) := by omega
                          have e2 : (0 : Int) ≤ (j : Int) := by omega
                          have e3 : (j : Int) ≤ (m : Int) := by omega
                          have e4 : (j : Int) ≤ (cp : Int) := by omega
                          have e5 : (0 : Int) ≤ (j : Int) := by omega
                          have e6 : ¬ cp = 0 := by omega
                          have e7 : (m : Int) ≤ (cp : Int) := by omega
                          clear mP hx2 hl0 x1 x2 x3 x4 x5 z4 z5 hg2 hcap r1 k4 b4 H4 hm4 hjm
                          go_wp2_with (first | (show wpList _ _ _ ({ dst := some 197, op := Op.call { callee := Callee.builtin Builtin.append, args := _, argTypes := _ }, type := _, pos := _, after := _, guard := _ } :: _) _ _; refine wpL_app_run rfl (.tmp 192) (.tmp 196) 32 rfl _ _ _ rfl rfl R1.out ?_) | fail)
                          clear R1
                          have mL := ro_len I4.out
                          rw [HM4.out] at mL
                          refine mL.mono ?_
                          rintro _ w' ⟨rfl, hw'⟩
                          obtain rfl := hw'.symm
                          clear mL
                          go_wp2
                          go_roundw
                          case measure => simp [intOf]; have := HLT.out; omega
                          case rel => exact ⟨k + 1, _, _, _, _, by have := HLT.out; omega, by go_num, rfl, HM4, I4⟩

                  · obtain ⟨f, rfl⟩ : ∃ f : Nat, oi = (f : Int) := ⟨oi.toNat, by omega⟩
                    have mP := rx_trim HX.out (f : Int) oj
                    by_cases hmo : (m : Int) < oj
                    · as_aux_lemma =>
                        go_wp2_with fail
                        refine mP.mono ?_
                        rintro _ w2 ⟨rfl, hx2⟩
                        obtain ⟨_, z2, z3, z4, z5⟩ := hx2.rd
                        dsimp only at z2 z3 z4 z5
                        by_cases hft : (m : Int) ≤ (f : Int)
                        · have hftb : decide ((m : Int) ≤ (f : Int)) = true := decide_eq_true hft
                          have hl0 := rtrim_none (l := l) (f := (f : Int)) (t := oj) HM.out (by omega)
                          rw [hl0] at hx2
                          have I4 : Kept (Ro W b (.slice none 0 0) [] [] w2) := hx2.ro.row (ks_nil _ _) (Below.refl _ _)
                          have HM4 : Kept (([] : List ByteArray).length = 0) := rfl
                          clear mP hx2 hl0 x1 x2 x3 x4 x5 z4 z5
                          have mL := ro_len I4.out
                          rw [HM4.out] at mL
                          go_wp2_with fail
                          refine mL.mono ?_
                          rintro _ w' ⟨rfl, hw'⟩
                          obtain rfl := hw'.symm
                          clear mL
                          go_wp2
                          go_roundw
                          case measure => simp [intOf]; have := HLT.out; omega
                          case rel => exact ⟨k + 1, _, _, _, _, by have := HLT.out; omega, by go_num, rfl, HM4, I4⟩

                        · have hftb : decide ((m : Int) ≤ (f : Int)) = false := decide_eq_false hft
  
                          have hfj : f < m := by omega
                          have hjm : m ≤ m := by omega
                          have hl0 := rtrim_some (l := l) (f := (f : Int)) (t := oj) (i := f) (j := m) HM.out (by omega) (by omega)
                          rw [hl0] at hx2
                          obtain ⟨g, rfl, hg2⟩ := ro_g hx2.ro HM.out (by omega)
                          have hcap := ro_cap hx2.ro HM.out
                          obtain ⟨o2, c2, w4, r1, k4, b4⟩ := cut_runs w2 W.heap.size g m cp l hx2.ro.ks HM.out f m hfj hjm HFW.out hg2
                          have H4 := hx2.ro.row k4 b4
                          have hm4 : ((l.take m).drop f).length = m - f := by rw [List.length_drop, List.length_take, HM.out]; omega
                          obtain ⟨m4, hm4'⟩ : ∃ m4, m - f = m4 := ⟨_, rfl⟩
                          rw [hm4'] at r1 H4 hm4
  
                          have HM4 := keep hm4
                          have R1 := keep r1
                          have I4 := keep H4
                          have e1 : (0 : Int) ≤ (f : Int) := by omega
                          have e2 : (f : Int) ≤ (m : Int) := by omega
                          have e3 : (m : Int) ≤ (m : Int) := by omega
                          have e4 : (m : Int) ≤ (cp : Int) := by omega
                          have e5 : (0 : Int) ≤ (m : Int) := by omega
                          have e6 : ¬ cp = f := by omega
                          have e7 : (m : Int) ≤ (cp : Int) := by omega
                          clear mP hx2 hl0 x1 x2 x3 x4 x5 z4 z5 hg2 hcap r1 k4 b4 H4 hm4 hjm
                          go_wp2_with (first | (show wpList _ _ _ ({ dst := some 197, op := Op.call { callee := Callee.builtin Builtin.append, args := _, argTypes := _ }, type := _, pos := _, after := _, guard := _ } :: _) _ _; refine wpL_app_run rfl (.tmp 192) (.tmp 196) 32 rfl _ _ _ rfl rfl R1.out ?_) | fail)
                          clear R1
                          have mL := ro_len I4.out
                          rw [HM4.out] at mL
                          refine mL.mono ?_
                          rintro _ w' ⟨rfl, hw'⟩
                          obtain rfl := hw'.symm
                          clear mL
                          go_wp2
                          go_roundw
                          case measure => simp [intOf]; have := HLT.out; omega
                          case rel => exact ⟨k + 1, _, _, _, _, by have := HLT.out; omega, by go_num, rfl, HM4, I4⟩
                    · as_aux_lemma =>
                        go_wp2_with fail
                        refine mP.mono ?_
                        rintro _ w2 ⟨rfl, hx2⟩
                        obtain ⟨_, z2, z3, z4, z5⟩ := hx2.rd
                        dsimp only at z2 z3 z4 z5
                        by_cases hft : oj ≤ (f : Int)
                        · have hftb : decide (oj ≤ (f : Int)) = true := decide_eq_true hft
                          have hl0 := rtrim_none (l := l) (f := (f : Int)) (t := oj) HM.out (by omega)
                          rw [hl0] at hx2
                          have I4 : Kept (Ro W b (.slice none 0 0) [] [] w2) := hx2.ro.row (ks_nil _ _) (Below.refl _ _)
                          have HM4 : Kept (([] : List ByteArray).length = 0) := rfl
                          clear mP hx2 hl0 x1 x2 x3 x4 x5 z4 z5
                          have mL := ro_len I4.out
                          rw [HM4.out] at mL
                          go_wp2_with fail
                          refine mL.mono ?_
                          rintro _ w' ⟨rfl, hw'⟩
                          obtain rfl := hw'.symm
                          clear mL
                          go_wp2
                          go_roundw
                          case measure => simp [intOf]; have := HLT.out; omega
                          case rel => exact ⟨k + 1, _, _, _, _, by have := HLT.out; omega, by go_num, rfl, HM4, I4⟩

                        · have hftb : decide (oj ≤ (f : Int)) = false := decide_eq_false hft
                          obtain ⟨j, rfl⟩ : ∃ j : Nat, oj = (j : Int) := ⟨oj.toNat, by omega⟩
                          have hfj : f < j := by omega
                          have hjm : j ≤ m := by omega
                          have hl0 := rtrim_some (l := l) (f := (f : Int)) (t := (j : Int)) (i := f) (j := j) HM.out (by omega) (by omega)
                          rw [hl0] at hx2
                          obtain ⟨g, rfl, hg2⟩ := ro_g hx2.ro HM.out (by omega)
                          have hcap := ro_cap hx2.ro HM.out
                          obtain ⟨o2, c2, w4, r1, k4, b4⟩ := cut_runs w2 W.heap.size g m cp l hx2.ro.ks HM.out f j hfj hjm HFW.out hg2
                          have H4 := hx2.ro.row k4 b4
                          have hm4 : ((l.take j).drop f).length = j - f := by rw [List.length_drop, List.length_take, HM.out]; omega
                          obtain ⟨m4, hm4'⟩ : ∃ m4, j - f = m4 := ⟨_, rfl⟩
                          rw [hm4'] at r1 H4 hm4
  
                          have HM4 := keep hm4
                          have R1 := keep r1
                          have I4 := keep H4
                          have e1 : (0 : Int) ≤ (f : Int) := by omega
                          have e2 : (f : Int) ≤ (j : Int) := by omega
                          have e3 : (j : Int) ≤ (m : Int) := by omega
                          have e4 : (j : Int) ≤ (cp : Int) := by omega
                          have e5 : (0 : Int) ≤ (j : Int) := by omega
                          have e6 : ¬ cp = f := by omega
                          have e7 : (m : Int) ≤ (cp : Int) := by omega
                          clear mP hx2 hl0 x1 x2 x3 x4 x5 z4 z5 hg2 hcap r1 k4 b4 H4 hm4 hjm
                          go_wp2_with (first | (show wpList _ _ _ ({ dst := some 197, op := Op.call { callee := Callee.builtin Builtin.append, args := _, argTypes := _ }, type := _, pos := _, after := _, guard := _ } :: _) _ _; refine wpL_app_run rfl (.tmp 192) (.tmp 196) 32 rfl _ _ _ rfl rfl R1.out ?_) | fail)
                          clear R1
                          have mL := ro_len I4.out
                          rw [HM4.out] at mL
                          refine mL.mono ?_
                          rintro _ w' ⟨rfl, hw'⟩
                          obtain rfl := hw'.symm
                          clear mL
                          go_wp2
                          go_roundw
                          case measure => simp [intOf]; have := HLT.out; omega
                          case rel => exact ⟨k + 1, _, _, _, _, by have := HLT.out; omega, by go_num, rfl, HM4, I4⟩
                · have a6b : (act == 6) = false := beq_eq_false_iff_ne.2 a6
                  by_cases a7 : act = 7
                  · subst a7
                    by_cases hneg : oj < 0
                    · as_aux_lemma =>
                        have I0 := keep HX.out.ro
                        clear HX HOK HQ
                        go_wp2
                        clear x1 x2 x3 x4 x5
                        go_loopw [4, 204] (fun u i wr => i = .int .i64 0 ∧ u = .slice ao m cp ∧ Kept (Ro W b (.slice ao m cp) l l wr)) (fun _ _ _ => 0)
                        case atStart => exact ⟨rfl, rfl, I0⟩
                        case round =>
                          clear I0
                          obtain ⟨rfl, rfl, KR⟩ := hrel
                          have I4 := keep KR.out
                          have HM4 := keep HM.out
                          have mL := ro_len I4.out
                          rw [HM4.out] at mL
                          go_wp2_with fail
                          refine mL.mono ?_
                          rintro _ w' ⟨rfl, hw'⟩
                          obtain rfl := hw'.symm
                          clear mL
                          go_wp2
                          go_roundw
                          case measure => simp [intOf]; have := HLT.out; omega
                          case rel => exact ⟨k + 1, _, _, _, _, by have := HLT.out; omega, by go_num, rfl, HM4, I4⟩
                    · by_cases h100 : 100 < oj
                      · as_aux_lemma =>
                          have I0 := keep HX.out.ro

                          have hN1 : 100 ≤ 100 := by omega
                          have HN1 := keep hN1
                          clear hN1 HX HOK HQ
                          go_wp2
                          clear x1 x2 x3 x4 x5
                          go_loopw [4, 204] (fun u i wr => ∃ (j m : Nat) (ao : Option Addr) (cp : Nat) (l : List ByteArray), j ≤ 100 ∧ i = .int .i64 j ∧ u = .slice ao m cp ∧ Kept (l.length = m) ∧ Kept (Ro W b (.slice ao m cp) l l wr)) (fun _ i _ => 100 - (intOf i).toNat)
                          case atStart => exact ⟨0, m, ao, cp, l, Nat.zero_le _, rfl, rfl, HM, I0⟩
                          case round =>
                            clear I0 HM HFW
                            obtain ⟨j, m, ao, cp, l, hj, rfl, rfl, HM, KR⟩ := hrel
                            by_cases hjl : j < 100
                            · have hjz : (j : Int) < (100 : Int) := by omega
                              have hj0 : (0 : Int) ≤ (j : Int) := by omega
                              have hwj : IntKind.i64.wrap ((j : Int) + 1) = (j : Int) + 1 := by rw [IntKind.wrap_i64]; have := HN1.out; omega
                              have hw8 : IntKind.u8.wrap (j : Int) = (j : Int) := by rw [IntKind.wrap_u8]; have := HN1.out; omega
                              by_cases hm2 : m < 1048576
                              · have hmz : decide ((1048576 : Int) ≤ (m : Int)) = false := decide_eq_false (by omega)
                                have cv := conv1 wr j (by have := HN1.out; omega)
                                have hba : Below wr.heap.size wr (wr.alloc (.cells #[.int .u8 (j : Int)] 5)) := (Below.refl _ _).alloc (Nat.le_refl _) _
                                have mP := ro_push (KR.out.below hba) false (bt1 j) (by show 1 ≤ _; decide) (by rw [HM.out]; exact hm2)
                                rw [if_neg (by decide)] at mP
                                have HJL := keep hjl
                                have HM2 := keep hm2
                                clear hba KR hjl hm2
                                go_wp2_with fail
                                refine mP.mono ?_
                                rintro _ w2 ⟨rfl, h2⟩
                                have cv2 := conv1 w2 j (by have := HN1.out; have := HJL.out; omega)
                                have hba2 : Below w2.heap.size w2 (w2.alloc (.cells #[.int .u8 (j : Int)] 5)) := (Below.refl _ _).alloc (Nat.le_refl _) _
                                obtain ⟨W2, hW2⟩ : ∃ W2, w2.alloc (.cells #[.int .u8 (j : Int)] 5) = W2 := ⟨_, rfl⟩
                                have h2a := h2.below hba2
                                rw [hW2] at cv2 h2a
                                obtain ⟨g4, cp4, w4, r4, h4⟩ := ro_app h2a (bt1 j) (by rw [HM.out]; have := HM2.out; omega)
                                rw [HM.out] at r4 h4
                                obtain ⟨m4, hm4⟩ : ∃ m4, m + 1 = m4 := ⟨_, rfl⟩
                                rw [hm4] at r4 h4
                                have HM4 : Kept ((l ++ [bt1 j]).length = m4) := by show _ = _; rw [List.length_append, HM.out]; exact hm4
                                have R4 := keep r4
                                have I4 := keep h4
                                clear mP cv hba2 h2 h2a r4 h4 hm4
                                go_wp2_with (first | (show wpList _ _ _ ({ dst := some 223, op := Op.call { callee := Callee.builtin Builtin.append, args := _, argTypes := _ }, type := _, pos := _, after := _, guard := _ } :: _) _ _; refine wpL_app_run rfl (.tmp 217) (.tmp 222) 32 rfl _ _ _ rfl rfl R4.out ?_) | fail)
                                go_roundw
                                case measure => simp [intOf]; have := HJL.out; omega
                                case rel => exact ⟨j + 1, _, _, _, _, by have := HJL.out; omega, by go_num, rfl, HM4, I4⟩
                              · have hmz : decide ((1048576 : Int) ≤ (m : Int)) = true := decide_eq_true (by omega)
                                have I4 := keep KR.out
                                have HM4 := keep HM.out
                                have mL := ro_len I4.out
                                rw [HM4.out] at mL
                                go_wp2_with fail
                                refine mL.mono ?_
                                rintro _ w' ⟨rfl, hw'⟩
                                obtain rfl := hw'.symm
                                clear mL
                                go_wp2
                                go_roundw
                                case measure => simp [intOf]; have := HLT.out; omega
                                case rel => exact ⟨k + 1, _, _, _, _, by have := HLT.out; omega, by go_num, rfl, HM4, I4⟩

                            · have hjz : ¬ (j : Int) < (100 : Int) := by omega
                              have I4 := keep KR.out
                              have HM4 := keep HM.out
                              have mL := ro_len I4.out
                              rw [HM4.out] at mL
                              go_wp2_with fail
                              refine mL.mono ?_
                              rintro _ w' ⟨rfl, hw'⟩
                              obtain rfl := hw'.symm
                              clear mL
                              go_wp2
                              go_roundw
                              case measure => simp [intOf]; have := HLT.out; omega
                              case rel => exact ⟨k + 1, _, _, _, _, by have := HLT.out; omega, by go_num, rfl, HM4, I4⟩
                      · as_aux_lemma =>
                          have I0 := keep HX.out.ro
                          obtain ⟨N, rfl⟩ : ∃ N : Nat, oj = (N : Int) := ⟨oj.toNat, by omega⟩
                          have hN1 : N ≤ 100 := by omega
                          have HN1 := keep hN1
                          clear hN1 HX HOK HQ
                          go_wp2
                          clear x1 x2 x3 x4 x5
                          go_loopw [4, 204] (fun u i wr => ∃ (j m : Nat) (ao : Option Addr) (cp : Nat) (l : List ByteArray), j ≤ N ∧ i = .int .i64 j ∧ u = .slice ao m cp ∧ Kept (l.length = m) ∧ Kept (Ro W b (.slice ao m cp) l l wr)) (fun _ i _ => N - (intOf i).toNat)
                          case atStart => exact ⟨0, m, ao, cp, l, Nat.zero_le _, rfl, rfl, HM, I0⟩
                          case round =>
                            clear I0 HM HFW
                            obtain ⟨j, m, ao, cp, l, hj, rfl, rfl, HM, KR⟩ := hrel
                            by_cases hjl : j < N
                            · have hjz : (j : Int) < (N : Int) := by omega
                              have hj0 : (0 : Int) ≤ (j : Int) := by omega
                              have hwj : IntKind.i64.wrap ((j : Int) + 1) = (j : Int) + 1 := by rw [IntKind.wrap_i64]; have := HN1.out; omega
                              have hw8 : IntKind.u8.wrap (j : Int) = (j : Int) := by rw [IntKind.wrap_u8]; have := HN1.out; omega
                              by_cases hm2 : m < 1048576
                              · have hmz : decide ((1048576 : Int) ≤ (m : Int)) = false := decide_eq_false (by omega)
                                have cv := conv1 wr j (by have := HN1.out; omega)
                                have hba : Below wr.heap.size wr (wr.alloc (.cells #[.int .u8 (j : Int)] 5)) := (Below.refl _ _).alloc (Nat.le_refl _) _
                                have mP := ro_push (KR.out.below hba) false (bt1 j) (by show 1 ≤ _; decide) (by rw [HM.out]; exact hm2)
                                rw [if_neg (by decide)] at mP
                                have HJL := keep hjl
                                have HM2 := keep hm2
                                clear hba KR hjl hm2
                                go_wp2_with fail
                                refine mP.mono ?_
                                rintro _ w2 ⟨rfl, h2⟩
                                have cv2 := conv1 w2 j (by have := HN1.out; have := HJL.out; omega)
                                have hba2 : Below w2.heap.size w2 (w2.alloc (.cells #[.int .u8 (j : Int)] 5)) := (Below.refl _ _).alloc (Nat.le_refl _) _
                                obtain ⟨W2, hW2⟩ : ∃ W2, w2.alloc (.cells #[.int .u8 (j : Int)] 5) = W2 := ⟨_, rfl⟩
                                have h2a := h2.below hba2
                                rw [hW2] at cv2 h2a
                                obtain ⟨g4, cp4, w4, r4, h4⟩ := ro_app h2a (bt1 j) (by rw [HM.out]; have := HM2.out; omega)
                                rw [HM.out] at r4 h4
                                obtain ⟨m4, hm4⟩ : ∃ m4, m + 1 = m4 := ⟨_, rfl⟩
                                rw [hm4] at r4 h4
                                have HM4 : Kept ((l ++ [bt1 j]).length = m4) := by show _ = _; rw [List.length_append, HM.out]; exact hm4
                                have R4 := keep r4
                                have I4 := keep h4
                                clear mP cv hba2 h2 h2a r4 h4 hm4
                                go_wp2_with (first | (show wpList _ _ _ ({ dst := some 223, op := Op.call { callee := Callee.builtin Builtin.append, args := _, argTypes := _ }, type := _, pos := _, after := _, guard := _ } :: _) _ _; refine wpL_app_run rfl (.tmp 217) (.tmp 222) 32 rfl _ _ _ rfl rfl R4.out ?_) | fail)
                                go_roundw
                                case measure => simp [intOf]; have := HJL.out; omega
                                case rel => exact ⟨j + 1, _, _, _, _, by have := HJL.out; omega, by go_num, rfl, HM4, I4⟩
                              · have hmz : decide ((1048576 : Int) ≤ (m : Int)) = true := decide_eq_true (by omega)
                                have I4 := keep KR.out
                                have HM4 := keep HM.out
                                have mL := ro_len I4.out
                                rw [HM4.out] at mL
                                go_wp2_with fail
                                refine mL.mono ?_
                                rintro _ w' ⟨rfl, hw'⟩
                                obtain rfl := hw'.symm
                                clear mL
                                go_wp2
                                go_roundw
                                case measure => simp [intOf]; have := HLT.out; omega
                                case rel => exact ⟨k + 1, _, _, _, _, by have := HLT.out; omega, by go_num, rfl, HM4, I4⟩

                            · have hjz : ¬ (j : Int) < (N : Int) := by omega
                              have I4 := keep KR.out
                              have HM4 := keep HM.out
                              have mL := ro_len I4.out
                              rw [HM4.out] at mL
                              go_wp2_with fail
                              refine mL.mono ?_
                              rintro _ w' ⟨rfl, hw'⟩
                              obtain rfl := hw'.symm
                              clear mL
                              go_wp2
                              go_roundw
                              case measure => simp [intOf]; have := HLT.out; omega
                              case rel => exact ⟨k + 1, _, _, _, _, by have := HLT.out; omega, by go_num, rfl, HM4, I4⟩
                  · have a7b : (act == 7) = false := beq_eq_false_iff_ne.2 a7
                    as_aux_lemma =>
                      have I4 := keep HX.out.ro
                      have HM4 := keep HM.out

                      have mL := ro_len I4.out
                      rw [HM4.out] at mL
                      go_wp2_with fail
                      refine mL.mono ?_
                      rintro _ w' ⟨rfl, hw'⟩
                      obtain rfl := hw'.symm
                      clear mL
                      go_wp2
                      go_roundw
                      case measure => simp [intOf]; have := HLT.out; omega
                      case rel => exact ⟨k + 1, _, _, _, _, by have := HLT.out; omega, by go_num, rfl, HM4, I4⟩
    · have hltz : ¬ (k : Int) < (nS : Int) := by omega
      obtain rfl : k = nS := by omega
      as_aux_lemma =>
        have hfw : m ≤ 1048576 := by rw [← HM.out]; exact KR.out.few
        have HFW := keep hfw
        have mR := ro_row KR.out
        go_wp2_with fail
        refine mR.mono ?_
        rintro _ w2 ⟨⟨u, rfl, hu⟩, h2⟩
        have mS := same_any w2 _ _ u (.slice ao m cp) l hu h2.ks
        have H2 := keep h2
        clear mR hu h2 KR hfw
        go_wp2_with fail
        refine mS.mono ?_
        rintro _ w3 ⟨rfl, hb3⟩
        have H3 := keep (H2.out.below hb3)
        have mE := ro_even H3.out
        clear mS hb3 H2
        go_wp2_with fail
        refine mE.mono ?_
        rintro _ w4 ⟨rfl, h4⟩
        have I0 := keep h4
        clear mE h4 H3
        go_wp2
        go_loopw [252] (fun i wr => ∃ j : Nat, j ≤ m ∧ i = .int .i64 j ∧ Kept (Ro W b (.slice ao m cp) l l wr)) (fun i _ => m - (intOf i).toNat)
        case atStart => exact ⟨0, Nat.zero_le _, rfl, I0⟩
        case round =>
          clear I0
          obtain ⟨j, hj, rfl, KR⟩ := hrel
          by_cases hjl : j < m
          · have hjz : (j : Int) < (m : Int) := by omega
            have hj0 : (0 : Int) ≤ (j : Int) := by omega
            have hwj : IntKind.i64.wrap ((j : Int) + 1) = (j : Int) + 1 := by rw [IntKind.wrap_i64]; have := HFW.out; omega
            obtain ⟨e, he⟩ : ∃ e, l[j]? = some e := ⟨_, List.getElem?_eq_getElem (by rw [HM.out]; exact hjl)⟩
            obtain ⟨g, rfl, hg⟩ := ro_g KR.out HM.out (by omega)
            have c0 := KR.out.ks.at he
            have mA := ro_at KR.out j e he
            clear he hg KR
            go_wp2_with fail
            refine mA.mono ?_
            rintro _ w5 ⟨rfl, h5⟩
            have I5 := keep h5
            clear mA h5 c0
            go_wp2
            go_roundw
            case measure => simp [intOf]; omega
            case rel => exact ⟨j + 1, by omega, by go_num, I5⟩
          · have hjz : ¬ (j : Int) < (m : Int) := by omega
            obtain rfl : j = m := by omega
            have mA := ro_at_no KR.out (-1) (.inl (by omega))
            clear KR
            go_wp2_with fail
            refine mA.mono ?_
            rintro _ w5 ⟨rfl, h5⟩
            have mB := ro_at_no h5 (j : Int) (.inr (by rw [HM.out]; omega))
            clear mA h5
            go_wp2_with fail
            refine mB.mono ?_
            rintro _ w6 ⟨rfl, h6⟩
            have I6 := keep h6.base
            clear mB h6
            go_wp2
            go_ret
            exact ⟨rfl, I6.out⟩
end Go.Proofs.Ytlfkdohajfkhdaa
