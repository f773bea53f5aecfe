/-
  The statement's own walk: who is in a union, in what all have, in a difference.
-/
import Derived.Test.YtmokahcjkokanaaFlAlg6
import Derived.Deep.CutBlock
namespace Go.Proofs.Ytmokahcjkokanaa
open Go.RowKit Go.Shelf
set_option linter.unusedVariables false
theorem bel_trans {W a b : World} (h : Below W.heap.size W a) (g : Below a.heap.size a b) : Below W.heap.size W b := h.trans (g.mono h.size)
theorem bel_up {W a b : World} (h : Below W.heap.size W a) (g : Below a.heap.size a b) : Below W.heap.size W b := h.trans (g.mono h.size)
/-- how many texts the first k rows have -/
def smk (R : List (List ByteArray)) (k : Nat) : Nat := ((R.take k).map List.length).sum
theorem smk_step {R : List (List ByteArray)} {k : Nat} (hk : k < R.length) : smk R (k + 1) = smk R k + R[k].length := by
  unfold smk
  rw [List.take_succ_eq_append_getElem hk, List.map_append, List.sum_append]
  simp
theorem smk_le (R : List (List ByteArray)) (k : Nat) : smk R k ≤ (R.map List.length).sum := by
  unfold smk
  conv => rhs; rw [← List.take_append_drop k R, List.map_append, List.sum_append]
  exact Nat.le_add_right _ _
/-- what the flocks have, all together -/
def lns (L : List Fk) : Nat := (L.map fun f => ln f.s).sum
theorem lns_app (L : List Fk) (f : Fk) : lns (L ++ [f]) = lns L + ln f.s := by
  unfold lns
  rw [List.map_append, List.sum_append]
  simp
/-- behind k rows -/
def AlI (W : World) (R : List (List ByteArray)) (nA k : Nat) (v5 v6 : Value) (L : List Fk) (tx : List ByteArray) (w : World) : Prop :=
  Alg W w v5 v6 L (L.map (·.R)) tx ∧ L.length = k ∧ (∀ f ∈ L, f.N ≤ 1048576) ∧ lns L ≤ smk R k ∧ tx.length ≤ nA + smk R k ∧ ∀ x ∈ tx, x.size ≤ maxLen
set_option maxRecDepth 100000 in
set_option maxHeartbeats 60000000 in
theorem alg_walk [Inhabited Txt] (W0 : World) (so : Option Addr) (cap : Nat) (R : List (List ByteArray)) (hR : Rowss W0 so R) (sa : Option Addr) (ca : Nat) (A : List ByteArray) (hA : Txts W0 sa A) (hca : sa = none → ca = 0) (hn1 : R.length ≤ 1048576) (hn2 : A.length + (R.map List.length).sum ≤ 1048576) :
    Calls Try.prog 4 #[.slice so R.length cap, .slice sa A.length ca] W0 fun e w' => e = .returned (.bool true) ∧ Below W0.heap.size W0 w' := by
  obtain ⟨n, hn⟩ : ∃ n, R.length = n := ⟨_, rfl⟩
  obtain ⟨nA, hnA⟩ : ∃ nA, A.length = nA := ⟨_, rfl⟩
  have HR := keep hR
  have HA := keep hA
  have HCA := keep hca
  have HN := keep hn
  have HNA := keep hnA
  rw [hn] at hn1 ⊢
  rw [hnA] at hn2 ⊢
  have HN1 := keep hn1
  have HN2 := keep hn2
  clear hR hA hca hn hnA hn1 hn2
  go_enter Try.func4, Try.ntmps4
  go_wp2_with fail
  refine (wakes_any W0).mono ?_
  rintro _ W ⟨rfl, hbW⟩
  have HBW := keep hbW
  clear hbW
  have hAW : Txts W sa A := HA.out.bel HBW.out (Nat.le_refl _)
  have hRW : Rowss W so R := HR.out.bel HBW.out (Nat.le_refl _)
  have A0 := alg_start (W := W) (w := W.alloc (.cells #[] 9)) ((Below.refl _ W).alloc (Nat.le_refl _) _) (v6 := .slice (some ⟨W.heap.size, 0, none⟩) 0 0) (tx := []) (ks_none_new W)
  obtain ⟨ao6, cp6, w1, r1, A1⟩ := alg_app A0 hAW ca HCA.out (by rw [HNA.out]; simp; have := HN2.out; omega)
  rw [HNA.out] at r1 A1
  rw [List.length_nil, Nat.zero_add] at r1 A1
  rw [List.nil_append] at A1
  have R1 := keep r1
  have I1 : Kept (AlI W R nA 0 (.slice none 0 0) (.slice ao6 nA cp6) [] A w1) := ⟨A1, rfl, (fun f hf => by cases hf), Nat.zero_le _, by rw [HNA.out]; exact Nat.le_add_right _ _, (fun x hx => by
    obtain ⟨j, hj, e⟩ := List.mem_iff_getElem.1 hx
    obtain ⟨_, _, _, h1, _⟩ := hAW j hj
    rw [← e]; exact h1)⟩
  have HAW := keep hAW
  have HRW := keep hRW
  clear hAW hRW A0 r1 A1
  go_wp2_with (first | (show wpList _ _ _ ({ dst := some 29, op := Op.call { callee := Callee.builtin Builtin.append, args := _, argTypes := _ }, type := _, pos := _, after := _, guard := _ } :: _) _ _; refine wpL_app_run rfl (.tmp 27) (.tmp 28) 27 rfl _ _ _ rfl rfl R1.out ?_) | fail)
  clear R1
  go_loopw [5, 6, 32] (fun v5 v6 i wr => ∃ (k m6 : Nat) (ao5 ao6 : Option Addr) (cp5 cp6 : Nat) (L : List Fk) (tx : List ByteArray), k ≤ n ∧ i = .int .i64 k ∧ v5 = .slice ao5 k cp5 ∧ v6 = .slice ao6 m6 cp6 ∧ Kept (tx.length = m6) ∧ Kept (k = 0 → ao5 = none ∧ cp5 = 0) ∧ Kept (AlI W R nA k (.slice ao5 k cp5) (.slice ao6 m6 cp6) L tx wr)) (fun _ _ i _ => n - (intOf i).toNat)
  case atStart => exact ⟨0, nA, none, ao6, 0, cp6, [], A, Nat.zero_le _, rfl, rfl, rfl, HNA, (fun _ => ⟨rfl, rfl⟩ : _), I1⟩
  case round =>
    clear I1
    obtain ⟨k, m6, ao5, ao6, cp5, cp6, L, tx, hk, rfl, rfl, rfl, HM6, HZ5, KI⟩ := hrel
    by_cases hlt : k < n
    · as_aux_lemma =>
        have hltz : (k : Int) < (n : Int) := by omega
        have hk0 : (0 : Int) ≤ (k : Int) := by omega
        have hk1 : k ≤ 1048576 := by have := HN1.out; omega
        have hwk : IntKind.i64.wrap ((k : Int) + 1) = (k : Int) + 1 := by rw [IntKind.wrap_i64]; omega
        have hwu : IntKind.u64.wrap (k : Int) = (k : Int) := by rw [IntKind.wrap_u64]; omega
        have hkR : k < R.length := by rw [HN.out]; exact hlt
        obtain ⟨a, rfl, hab, so', cap', hc0, hT, hTl, hTc⟩ := HRW.out k hkR
        have hst := smk_step hkR
        have hsl := smk_le R (k + 1)
        obtain ⟨Sk, hSk⟩ : ∃ Sk, R[k]'hkR = Sk := ⟨_, rfl⟩
        rw [hSk] at hc0 hT hTl hst
        clear hSk
        obtain ⟨q, hq⟩ : ∃ q, Sk.length = q := ⟨_, rfl⟩
        rw [hq] at hc0 hTl hst
        have hc1 := (KI.out.1.1.2.2.cell (p := a.add k) (by rw [add_block]; exact hab)).trans hc0
        have mN := rnew_any (hs k) wr k 0
        have hH := hs_is k (by show k < 18446744073709551616; omega)
        have HH := keep hH
        have HT := keep hT
        have HTC := keep hTc
        have HQ := keep hq
        have HST := keep hst
        have HSL := keep hsl
        have HLT := keep hlt
        have HK1 := keep hk1
        clear hH hT hTc hq hst hsl hlt hk1 hc0 hab hkR hTl
        go_wp2_with fail
        refine mN.mono ?_
        rintro _ w2 ⟨rfl, hb2, hr2⟩
        have J0 := keep (KI.out.1.new hb2 HH.out hr2)
        have hqb : q ≤ 1048576 := by have := HSL.out; have := HST.out; have := HN2.out; omega
        have HQB := keep hqb
        obtain ⟨R0, hR0⟩ : ∃ R0, wr.heap.size + 1 = R0 := ⟨_, rfl⟩
        have F0 : Kept (∃ f : Fk, f.R = R0 ∧ Alg W w2 (.slice ao5 k cp5) (.slice ao6 m6 cp6) (L ++ [f]) (L.map (·.R)) tx ∧ f.N ≤ 0 ∧ ln f.s ≤ 0) := ⟨_, hR0, J0.out, Nat.le_refl _, by show ln Dc.none0 ≤ 0; rw [ln_none]; omega⟩
        rw [hR0]
        clear mN hb2 hr2 hR0 J0 hqb hc1
        go_wp2
        go_loopw [42] (fun i wr => ∃ j : Nat, j ≤ q ∧ i = .int .i64 j ∧ Kept (∃ f : Fk, f.R = R0 ∧ Alg W wr (.slice ao5 k cp5) (.slice ao6 m6 cp6) (L ++ [f]) (L.map (·.R)) tx ∧ f.N ≤ j ∧ ln f.s ≤ j)) (fun i _ => q - (intOf i).toNat)
        case atStart => exact ⟨0, Nat.zero_le _, rfl, F0⟩
        case round =>
          clear F0
          obtain ⟨j, hj, rfl, KF⟩ := hrel
          obtain ⟨f, hfR, hAl, hfN, hfl⟩ := KF.out
          by_cases hjl : j < q
          · have hjz : (j : Int) < (q : Int) := by omega
            have hj0 : (0 : Int) ≤ (j : Int) := by omega
            have hqb := HQB.out
            have hwj : IntKind.i64.wrap ((j : Int) + 1) = (j : Int) + 1 := by rw [IntKind.wrap_i64]; omega
            obtain ⟨a2, rfl, ha2, hsz, hc2⟩ := HT.out j (by rw [HQ.out]; exact hjl)
            have hc3 := (hAl.1.2.2.cell (p := a2.add j) (by rw [add_block]; exact ha2)).trans hc2
            obtain ⟨y, hy⟩ : ∃ y, Sk[j]'(by rw [HQ.out]; exact hjl) = y := ⟨_, rfl⟩
            rw [hy] at hc3
            have mA := alg_add (B := []) hAl (by omega) y
            rw [hfR] at mA
            have HFR := keep hfR
            have HFN := keep hfN
            have HFL := keep hfl
            have HJL := keep hjl
            clear hy hc2 ha2 hsz hAl KF hfR hfN hfl hjl hqb
            go_wp2_with fail
            refine mA.mono ?_
            rintro _ w3 ⟨⟨x, c, rfl⟩, r', s', hl', h3⟩
            have F1 : Kept (∃ f : Fk, f.R = R0 ∧ Alg W w3 (.slice ao5 k cp5) (.slice ao6 m6 cp6) (L ++ [f]) (L.map (·.R)) tx ∧ f.N ≤ j + 1 ∧ ln f.s ≤ j + 1) := ⟨⟨f.h, f.N + 1, r', R0, f.b, f.x, s'⟩, rfl, h3, by have := HFN.out; show f.N + 1 ≤ j + 1; omega, by have := HFL.out; show ln s' ≤ j + 1; omega⟩
            clear mA h3 hl' hc3
            go_wp2
            go_roundw
            case measure => simp [intOf]; have := HJL.out; omega
            case rel => exact ⟨j + 1, by have := HJL.out; omega, by go_num, F1⟩
          · have hjz : ¬ (j : Int) < (q : Int) := by omega
            obtain rfl : q = j := by omega
            obtain ⟨hA0, hLk, hLN, hLs, htl, htx⟩ := KI.out
            obtain ⟨ao7, cp7, w3, r3, A3⟩ := alg_app hAl HT.out cap' HTC.out (by rw [HM6.out, HQ.out]; have := HM6.out; have := HQB.out; have := HN2.out; have := HSL.out; have := HST.out; omega)
            rw [HM6.out, HQ.out] at r3 A3
            obtain ⟨g5, c5, w4, r4, A4⟩ := alg_ptr A3 f.R (by rw [List.length_map, hLk]; have := HK1.out; omega)
            rw [List.length_map, hLk, hfR] at r4
            rw [List.length_map, hLk] at A4
            obtain ⟨m7, hm7⟩ : ∃ m7, m6 + q = m7 := ⟨_, rfl⟩
            rw [hm7] at r3 A4
            have HM7 : Kept ((tx ++ Sk).length = m7) := by show _ = _; rw [List.length_append, HM6.out, HQ.out]; exact hm7
            have I4 : Kept (AlI W R nA (k + 1) (.slice (some ⟨g5, 0, none⟩) (k + 1) c5) (.slice ao7 m7 cp7) (L ++ [f]) (tx ++ Sk) w4) := by
              refine ⟨by rw [List.map_append]; exact A4, by rw [List.length_append, hLk]; rfl, fun f' hf' => ?_, ?_, ?_, fun x hx => ?_⟩
              · rcases List.mem_append.1 hf' with e | e
                · exact hLN f' e
                · rw [List.mem_singleton.1 e]; have := HQB.out; omega
              · rw [lns_app, HST.out]; omega
              · rw [List.length_append, HST.out, HQ.out]; omega
              · rcases List.mem_append.1 hx with e | e
                · exact htx x e
                · obtain ⟨i, hi, e⟩ := List.mem_iff_getElem.1 e
                  obtain ⟨_, _, _, h1, _⟩ := HT.out i hi
                  rw [← e]; exact h1
            have R3 := keep r3
            have R4 := keep r4
            clear hA0 hLk hLN hLs htl htx r3 A3 r4 A4 hm7 hAl KF hfN hfl hfR
            go_wp2_with (first | (show wpList _ _ _ ({ dst := some 52, op := Op.call { callee := Callee.builtin Builtin.append, args := _, argTypes := _ }, type := _, pos := _, after := _, guard := _ } :: _) _ _; refine wpL_app_run rfl (.tmp 50) (.tmp 51) 27 rfl _ _ _ rfl rfl R3.out ?_) | (show wpList _ _ _ ({ dst := some 56, op := Op.call { callee := Callee.builtin Builtin.append, args := _, argTypes := _ }, type := _, pos := _, after := _, guard := _ } :: _) _ _; refine wpL_app_run rfl (.tmp 53) (.tmp 55) 42 rfl _ _ _ rfl rfl R4.out ?_) | fail)
            go_roundw
            case measure => simp [intOf]; have := HLT.out; omega
            case rel => exact ⟨k + 1, _, _, _, _, _, _, _, by have := HLT.out; omega, by go_num, rfl, rfl, HM7, (fun e => absurd e (by omega) : _), I4⟩
    · have hltz : ¬ (k : Int) < (n : Int) := by omega
      obtain rfl : n = k := by omega
      obtain ⟨hA0, hLk, hLN, hLs, htl, htx⟩ := KI.out
      have hs1 : lns L ≤ 1048576 := by have := smk_le R n; have := HN2.out; omega
      by_cases hn0 : n = 0
      · as_aux_lemma =>
          subst hn0
          obtain rfl : L = [] := List.length_eq_zero_iff.1 hLk
          obtain ⟨rfl, rfl⟩ := HZ5.out rfl
          have mU := union_of (L' := []) hA0.2.1.1 rfl hA0.1 (by simp) hLN (by omega) (by simp [psl])
          have HB0 := keep (bel_trans HBW.out hA0.1.2.2)
          clear hA0 hLk hLN hLs htl htx hs1 KI
          go_wp2_with fail
          refine mU.mono ?_
          rintro _ w2 ⟨v, rfl, U, hU, hkU, hb2⟩
          have hU0 : U = [] := List.perm_nil.1 hU.1
          obtain ⟨aoU, cpU, rfl, _⟩ := ks_form hkU
          subst hU0
          have HB1 := keep (bel_up HB0.out hb2)
          clear mU hU hkU hb2 HB0
          go_wp2_with fail
          refine (inter_nil w2).mono ?_
          rintro _ w3 ⟨rfl, hb3⟩
          have HB2 := keep (bel_up HB1.out hb3)
          clear hb3 HB1
          go_wp2_with fail
          refine (diff_nil w3).mono ?_
          rintro _ w4 ⟨rfl, hb4⟩
          have HB3 := keep (bel_up HB2.out hb4)
          clear hb4 HB2
          go_wp2
          go_ret
          exact ⟨rfl, HB3.out⟩
      · as_aux_lemma =>
          obtain ⟨f0, Lr, rfl⟩ : ∃ f0 Lr, L = f0 :: Lr := by
            cases L with
            | nil => exact absurd hLk.symm hn0
            | cons a b => exact ⟨a, b, rfl⟩
          obtain ⟨g, rfl, hc0, hg0⟩ := pr_cells hA0.2.1.1 (j := 0) (R := f0.R) rfl
          have hn1 := HN1.out
          have hs2 : ((psl (f0 :: Lr)).map (fun p => p.2.length)).sum ≤ 2600000000000 := by rw [psl_lns]; exact Nat.le_trans hs1 (by omega)
          have hs3 : ((psl Lr).map (fun p => p.2.length)).sum ≤ 2600000000000 := by rw [psl_lns]; rw [psl_lns, List.map_cons, List.sum_cons] at hs2; omega
          have mU := union_of (L' := f0 :: Lr) hA0.2.1.1 hLk hA0.1 (fun f hf => hf) hLN (by omega) hs2
          have T0 : Al3 W wr (.slice (some ⟨g, 0, none⟩) n cp5) (.slice ao6 m6 cp6) (f0 :: Lr) ((f0 :: Lr).map (·.R)) tx [] := ⟨hA0, (fun p hp => by cases hp)⟩
          have HT0 := keep T0
          have HLK := keep hLk
          have HLN := keep hLN
          have HTX := keep htx
          have HTL := keep htl
          have HS2 := keep hs2
          have HS1 := keep hs1
          have HS3 := keep hs3
          have hn0b : ((n : Int) == 0) = false := beq_eq_false_iff_ne.2 (by omega)
          clear hA0 hLk hLN hLs htl htx hs1 KI T0 hc0 hg0 hs2 hs3
          go_wp2_with fail
          refine mU.mono ?_
          rintro _ w2 ⟨vU, rfl, U, hU, hkU, hb2⟩
          have HU := keep hU
          have HT1 := keep (HT0.out.told hb2 hkU)
          have mI := inter_of (f0 := f0) (L' := Lr) HT1.out.1.2.1.1 (by rw [← HLK.out]; rfl) HT1.out.1.1 (fun f hf => hf) HLN.out (by omega) HS3.out
          clear mU hU hkU hb2 HT0
          go_wp2_with fail
          refine mI.mono ?_
          rintro _ w3 ⟨vN, rfl, V, hV, hkV, hb3⟩
          have HV := keep hV
          have HT2 := keep (HT1.out.told hb3 hkV)
          have mD := diff_of (f0 := f0) (L' := Lr) HT2.out.1.2.1.1 (by rw [← HLK.out]; rfl) HT2.out.1.1 (fun f hf => hf) HLN.out (by omega) HS3.out
          clear mI hV hkV hb3 HT1
          go_wp2_with fail
          refine mD.mono ?_
          rintro _ w4 ⟨vD, rfl, D, hD, hkD, hb4⟩
          have HD := keep hD
          have HT3 := keep (HT2.out.told hb4 hkD)
          rw [show [] ++ [(vU, U)] ++ [(vN, V)] ++ [(vD, D)] = [(vU, U), (vN, V), (vD, D)] from rfl] at HT3
          clear mD hD hkD hb4 HT2
          obtain ⟨L0, hL0⟩ : ∃ L0, f0 :: Lr = L0 := ⟨_, rfl⟩
          rw [hL0] at HT3 HLK HLN HU HS2 HS1
          have HL0 := keep hL0
          have HM7 : Kept (m6 ≤ 2097152) := by show _ ≤ _; have := HTL.out; have := HM6.out; have := smk_le R n; have := HN2.out; omega
          clear hL0 HZ5
          go_wp2
          go_loopw [82] (fun i wr => ∃ (i0 : Nat) (L1 : List Fk), i0 ≤ m6 ∧ i = .int .i64 i0 ∧ Kept (Smf L0 L1) ∧ Kept (Al3 W wr (.slice (some ⟨g, 0, none⟩) n cp5) (.slice ao6 m6 cp6) L1 (L0.map (·.R)) tx [(vU, U), (vN, V), (vD, D)])) (fun i _ => m6 - (intOf i).toNat)
          case atStart => exact ⟨0, L0, Nat.zero_le _, rfl, Smf.refl _, HT3⟩
          case round =>
            obtain ⟨i, L1, hi, rfl, KS, KA⟩ := hrel
            by_cases hil : i < m6
            · as_aux_lemma =>
                have hiz : (i : Int) < (m6 : Int) := by omega
                have hi0 : (0 : Int) ≤ (i : Int) := by omega
                have hwi : IntKind.i64.wrap ((i : Int) + 1) = (i : Int) + 1 := by rw [IntKind.wrap_i64]; have := HM7.out; omega
                obtain ⟨x, hx⟩ : ∃ x, tx[i]? = some x := ⟨_, List.getElem?_eq_getElem (by rw [HM6.out]; exact hil)⟩
                have hxs : x.size ≤ maxLen := HTX.out x (List.mem_of_getElem? hx)
                obtain ⟨g6, rfl⟩ : ∃ g6, ao6 = some ⟨g6, 0, none⟩ := by
                  obtain ⟨ao, cap, e, h⟩ := ks_form KA.out.1.2.2.1.1
                  injection e with e1 e2 e3
                  subst e1
                  rcases h with h | ⟨g6, h, _⟩
                  · rw [h] at hx; simp at hx
                  · exact ⟨g6, h⟩
                have cx := KA.out.1.2.2.1.1.at hx
                have HUX : Kept (inB x U = decide ((0 : Int) < ((cn L0 x n : Nat) : Int))) := by
                  show _ = _
                  rw [in_union HU.out, cn_all (by rw [HLK.out]; exact Nat.le_refl _)]
                  rw [Bool.eq_iff_iff, decide_eq_true_iff, decide_eq_true_iff]; omega
                have HVX : Kept (inB x V = (((cn L0 x n : Nat) : Int) == (n : Int))) := by
                  show _ = _
                  rw [in_inter HV.out, cn_all (by rw [HLK.out]; exact Nat.le_refl _), ← HL0.out, List.map_cons]
                  rw [Bool.eq_iff_iff, decide_eq_true_iff, beq_iff_eq, List.length_map]
                  have := HLK.out
                  rw [← HL0.out, List.length_cons] at this
                  omega
                have HDX : Kept (inB x D = ((((cn L0 x n : Nat) : Int) == 1) && inB x (kys f0.s))) := by
                  show _ = _
                  rw [in_diff HD.out, cn_all (by rw [HLK.out]; exact Nat.le_refl _), ← HL0.out, List.map_cons]
                  congr 1
                  rw [Bool.eq_iff_iff, decide_eq_true_iff, beq_iff_eq]
                  omega
                have HXS := keep hxs
                have HIL := keep hil
                clear hx hxs hil
                go_wp2
                go_loopw [17, 88] (fun c i wr => ∃ (j : Nat) (L2 : List Fk), j ≤ n ∧ i = .int .i64 j ∧ c = .int .i64 ((cn L0 x j : Nat) : Int) ∧ Kept (Smf L0 L2) ∧ Kept (Al3 W wr (.slice (some ⟨g, 0, none⟩) n cp5) (.slice (some ⟨g6, 0, none⟩) m6 cp6) L2 (L0.map (·.R)) tx [(vU, U), (vN, V), (vD, D)])) (fun _ i _ => n - (intOf i).toNat)
                case atStart => exact ⟨0, L1, Nat.zero_le _, rfl, rfl, KS, KA⟩
                case round =>
                  clear KS KA cx
                  obtain ⟨j, L2, hj, rfl, rfl, KS, KA⟩ := hrel
                  by_cases hjl : j < n
                  · have hjz : (j : Int) < (n : Int) := by omega
                    have hj0 : (0 : Int) ≤ (j : Int) := by omega
                    have hn1 := HN1.out
                    have hwj : IntKind.i64.wrap ((j : Int) + 1) = (j : Int) + 1 := by rw [IntKind.wrap_i64]; omega
                    have hL2 : L2.length = n := by rw [KS.out.len, HLK.out]
                    obtain ⟨f2, hf2⟩ : ∃ f, L2[j]? = some f := ⟨_, List.getElem?_eq_getElem (by rw [hL2]; exact hjl)⟩
                    obtain ⟨f, hf, hfR, hfN, hlk⟩ := KS.out.at hf2
                    obtain ⟨g', e', hcf, _⟩ := pr_cells KA.out.1.2.1.1 (j := j) (R := f.R) (by rw [List.getElem?_map, hf]; rfl)
                    cases e'
                    have hfm : f ∈ L0 := List.mem_of_getElem? hf
                    have hbq : (lk f2.s x).isSome = inB x (kys f.s) := by rw [hlk x, inB_kys (HT3.out.1.1.1 f hfm).1.1]
                    have mH := al3_has (A := L2.take j) (f := f2) (B := L2.drop (j + 1)) (by rw [← fk_split hf2]; exact KA.out) (by rw [hfN]; have := HLN.out f hfm; omega) x HXS.out
                    rw [hfR, hbq] at mH
                    have HFR := keep hfR
                    have hst := cn_step (x := x) hf
                    have hcl : cn L0 x j ≤ 1048576 := by
                      have h1 : cn L0 x j ≤ _ := tal_max _ x
                      rw [List.length_map, List.length_take] at h1
                      omega
                    have HSM := keep (fk_split hf2 ▸ KS.out : Smf L0 (L2.take j ++ f2 :: L2.drop (j + 1)))
                    obtain ⟨C, hC⟩ : ∃ C, cn L0 x j = C := ⟨_, rfl⟩
                    have HCC := keep hC
                    rw [hC] at hst hcl ⊢
                    have hwc : IntKind.i64.wrap ((C : Int) + 1) = (C : Int) + 1 := by rw [IntKind.wrap_i64]; omega
                    have HJL := keep hjl
                    cases hq : inB x (kys f.s) with
                    | true =>
                      rw [hq] at mH hst
                      rw [if_pos rfl] at hst
                      have HST := keep hst
                      clear hst hcl hC hq hbq hlk hfN hfR hf hf2 hL2 hfm KS KA hjl hn1
                      go_wp2_with fail
                      refine mH.mono ?_
                      rintro _ w5 ⟨rfl, r', s', hs', h5⟩
                      have K5 := keep h5
                      have h6 := HSM.out.put (r' := r') hs'
                      rw [HFR.out] at h6
                      have S5 := keep h6
                      clear mH h5 h6 hs' hcf
                      go_wp2
                      go_roundw
                      case measure => simp [intOf]; have := HJL.out; omega
                      case rel => exact ⟨j + 1, _, by have := HJL.out; omega, by go_num, by rw [HST.out]; go_num, S5, K5⟩
                    | false =>
                      rw [hq] at mH hst
                      rw [if_neg (by decide), Nat.add_zero] at hst
                      have HST := keep hst
                      clear hst hcl hC hq hbq hlk hfN hfR hf hf2 hL2 hfm KS KA hjl hn1
                      go_wp2_with fail
                      refine mH.mono ?_
                      rintro _ w5 ⟨rfl, r', s', hs', h5⟩
                      have K5 := keep h5
                      have h6 := HSM.out.put (r' := r') hs'
                      rw [HFR.out] at h6
                      have S5 := keep h6
                      clear mH h5 h6 hs' hcf
                      go_wp2
                      go_roundw
                      case measure => simp [intOf]; have := HJL.out; omega
                      case rel => exact ⟨j + 1, _, by have := HJL.out; omega, by go_num, by first | (rw [HST.out]; done) | (rw [HST.out]; go_num) | (simp [HST.out]; done), S5, K5⟩
                  · have hjz : ¬ (j : Int) < (n : Int) := by omega
                    obtain rfl : n = j := by omega
                    have m1 := hasl_any _ wr vU U (KA.out.2 (vU, U) (by simp)).1 x
                    have m2 := hasl_any _ wr vN V (KA.out.2 (vN, V) (by simp)).1 x
                    have m3 := hasl_any _ wr vD D (KA.out.2 (vD, D) (by simp)).1 x
                    rw [HUX.out] at m1
                    rw [HVX.out] at m2
                    rw [HDX.out] at m3
                    have hL2 : L2.length = n := by rw [KS.out.len, HLK.out]
                    obtain ⟨f2, hf2⟩ : ∃ f, L2[0]? = some f := ⟨_, List.getElem?_eq_getElem (by omega)⟩
                    obtain ⟨f, hf, hfR, hfN, hlk⟩ := KS.out.at hf2
                    obtain ⟨g', e', hcf, _⟩ := pr_cells KA.out.1.2.1.1 (j := 0) (R := f.R) (by rw [List.getElem?_map, hf]; rfl)
                    cases e'
                    have hff : f = f0 := by rw [← HL0.out] at hf; simpa using hf.symm
                    have hfm : f ∈ L0 := List.mem_of_getElem? hf
                    have hbq : (lk f2.s x).isSome = inB x (kys f0.s) := by rw [hlk x, ← inB_kys (HT3.out.1.1.1 f hfm).1.1 x, hff]
                    have mH := al3_has (A := L2.take 0) (f := f2) (B := L2.drop (0 + 1)) (by rw [← fk_split hf2]; exact KA.out) (by rw [hfN]; have := HLN.out f hfm; omega) x HXS.out
                    rw [hfR, hbq] at mH
                    have HFR := keep hfR
                    have HSM := keep (fk_split hf2 ▸ KS.out : Smf L0 (L2.take 0 ++ f2 :: L2.drop (0 + 1)))
                    have hnz : (0 : Int) < (n : Int) := by omega
                    obtain ⟨C, hC⟩ : ∃ C, cn L0 x n = C := ⟨_, rfl⟩
                    rw [hC] at m1 m2 m3 ⊢
                    obtain ⟨q0, hq0⟩ : ∃ q0, inB x (kys f0.s) = q0 := ⟨_, rfl⟩
                    rw [hq0] at m3 mH
                    by_cases hC1 : C = 1
                    · subst hC1
                      rw [show (((1 : Nat) : Int) == 1 && q0) = q0 by simp] at m3
                      clear HUX HVX HDX hC hq0 hbq hlk hfN hfR hf hf2 hL2 hfm hff KS
                      go_wp2_with fail
                      refine m1.mono ?_
                      rintro _ w' ⟨rfl, hw'⟩
                      obtain rfl := hw'.symm
                      go_wp2_with fail
                      refine m2.mono ?_
                      rintro _ w' ⟨rfl, hw'⟩
                      obtain rfl := hw'.symm
                      go_wp2_with fail
                      refine m3.mono ?_
                      rintro _ w' ⟨rfl, hw'⟩
                      obtain rfl := hw'.symm
                      clear m1 m2 m3
                      go_wp2_with fail
                      refine mH.mono ?_
                      rintro _ w5 ⟨rfl, r', s', hs', h5⟩
                      have K5 := keep h5
                      have h6 := HSM.out.put (r' := r') hs'
                      rw [HFR.out] at h6
                      have S5 := keep h6
                      clear mH h5 h6 hs' hcf KA
                      go_wp2
                      go_roundw
                      case measure => simp [intOf]; have := HIL.out; omega
                      case rel => exact ⟨i + 1, _, by have := HIL.out; omega, by go_num, S5, K5⟩
                    · have hC1b : ((C : Int) == 1) = false := beq_eq_false_iff_ne.2 (by omega)
                      rw [hC1b, Bool.false_and] at m3
                      have HKS := keep KS.out
                      clear HUX HVX HDX hC hq0 hbq hlk hfN hfR hf hf2 hL2 hfm hff KS mH hcf
                      go_wp2_with fail
                      refine m1.mono ?_
                      rintro _ w' ⟨rfl, hw'⟩
                      obtain rfl := hw'.symm
                      go_wp2_with fail
                      refine m2.mono ?_
                      rintro _ w' ⟨rfl, hw'⟩
                      obtain rfl := hw'.symm
                      go_wp2_with fail
                      refine m3.mono ?_
                      rintro _ w' ⟨rfl, hw'⟩
                      obtain rfl := hw'.symm
                      clear m1 m2 m3
                      go_wp2
                      go_roundw
                      case measure => simp [intOf]; have := HIL.out; omega
                      case rel => exact ⟨i + 1, _, by have := HIL.out; omega, by go_num, HKS, KA⟩
            · as_aux_lemma =>
                have hiz : ¬ (i : Int) < (m6 : Int) := by omega
                have hn1 := HN1.out
                have hL1 : L1.length = n := by rw [KS.out.len, HLK.out]
                obtain ⟨e0, E, rfl⟩ : ∃ e0 E, L1 = e0 :: E := by
                  cases L1 with
                  | nil => exact absurd hL1.symm hn0
                  | cons a b => exact ⟨a, b, rfl⟩
                have hE : E.length + 1 = n := hL1
                have hP : Pr W.heap.size wr (.slice (some ⟨g, 0, none⟩) n cp5) ((e0 :: E).map (·.R)) := by rw [KS.out.1]; exact KA.out.1.2.1.1
                obtain ⟨g', e', hcf, hgl⟩ := pr_cells hP (j := 0) (R := e0.R) rfl
                cases e'
                have HP := keep hP
                have HE := keep hE
                have hnz : (0 : Int) < (n : Int) := by omega
                obtain ⟨p0, hp0⟩ : ∃ p0, n - 1 = p0 := ⟨_, rfl⟩
                have hwn : IntKind.i64.wrap ((n : Int) - 1) = (p0 : Int) := by rw [IntKind.wrap_i64]; omega
                have B0 : Kept (Pr wr.heap.size (wr.alloc (.cells #[.pointer (some ⟨e0.R, 0, none⟩)] 25)) (.slice (some ⟨wr.heap.size, 0, none⟩) 1 1) ((e0 :: (E.drop p0).reverse).map (·.R))) := by
                  show Pr _ _ _ _
                  rw [List.drop_eq_nil_of_le (by omega)]
                  exact ⟨rfl, .inr ⟨wr.heap.size, 1, _, rfl, Nat.le_refl _, heap_alloc_new _ _, Nat.le_refl _, by unfold maxLen; omega, rfl, rfl⟩⟩
                have B1 : Kept (Below wr.heap.size wr (wr.alloc (.cells #[.pointer (some ⟨e0.R, 0, none⟩)] 25))) := (Below.refl _ _).alloc (Nat.le_refl _) _
                have M0 : Kept (1 = n - p0) := by show _ = _; omega
                have HGL := keep hgl
                have hp0n : p0 < n := by omega
                clear hP hE hL1 hil hgl hp0 hn1
                go_wp2
                clear hcf
                obtain ⟨wb, hwb⟩ : ∃ wb, wr = wb := ⟨_, rfl⟩
                rw [hwb] at KA HP B0 B1 HGL ⊢
                clear hwb
                go_loopw [20, 21] (fun v i wx => ∃ (p mB cpB : Nat) (aoB : Option Addr), p < n ∧ i = .int .i64 p ∧ v = .slice aoB mB cpB ∧ Kept (mB = n - p) ∧ Kept (Pr wb.heap.size wx (.slice aoB mB cpB) ((e0 :: (E.drop p).reverse).map (·.R))) ∧ Kept (Below wb.heap.size wb wx)) (fun _ i _ => (intOf i).toNat)
                case atStart => exact ⟨p0, 1, 1, _, hp0n, rfl, rfl, M0, B0, B1⟩
                case round =>
                  clear B0 B1 M0
                  obtain ⟨p, mB, cpB, aoB, hp, rfl, rfl, HMB, KP, KB⟩ := hrel
                  have hn1 := HN1.out
                  by_cases hpz : 0 < p
                  · obtain ⟨p1, hp1⟩ : ∃ p1, p = p1 + 1 := ⟨p - 1, by omega⟩
                    have hpi : (0 : Int) < (p : Int) := by omega
                    have hpi0 : (0 : Int) ≤ (p : Int) := by omega
                    have hpn : (p : Int) < (n : Int) := by omega
                    have hwp : IntKind.i64.wrap ((p : Int) - 1) = (p1 : Int) := by rw [IntKind.wrap_i64]; omega
                    have hlE : p1 < E.length := by have := HE.out; omega
                    obtain ⟨e, he⟩ : ∃ e, E[p1]? = some e := ⟨_, List.getElem?_eq_getElem hlE⟩
                    obtain ⟨g', e', hcf, _⟩ := pr_cells HP.out (j := p) (R := e.R) (by rw [List.getElem?_map, hp1, List.getElem?_cons_succ, he]; rfl)
                    cases e'
                    have hcx := (KB.out.cell (p := ⟨g, p, none⟩) HGL.out).trans hcf
                    obtain ⟨g2, c2, w7, r7, P7, b7⟩ := pr_push KP.out KB.out.size e.R (by rw [List.length_map, List.length_cons, List.length_reverse, List.length_drop]; have := HE.out; omega)
                    have hlen : ((e0 :: (E.drop p).reverse).map (·.R)).length = mB := by rw [List.length_map, List.length_cons, List.length_reverse, List.length_drop, HMB.out]; have := HE.out; omega
                    rw [hlen] at r7 P7
                    have hdr : (e0 :: (E.drop p).reverse).map (·.R) ++ [e.R] = (e0 :: (E.drop p1).reverse).map (·.R) := by
                      obtain ⟨h1, h2⟩ := List.getElem?_eq_some_iff.1 he
                      rw [List.drop_eq_getElem_cons h1, h2, hp1]
                      simp
                    rw [hdr] at P7
                    obtain ⟨m7, hm7⟩ : ∃ m7, mB + 1 = m7 := ⟨_, rfl⟩
                    rw [hm7] at r7 P7
                    have HM7' : Kept (m7 = n - p1) := by show _ = _; have := HMB.out; omega
                    have R7 := keep r7
                    have KP7 := keep P7
                    have KB7 := keep (KB.out.trans b7)
                    have HPZ := keep hpz
                    have hp1n : p1 < n := by omega
                    have HP1 := keep hp1
                    clear hp1 he hcf r7 P7 b7 hlen hdr hm7 hlE KP KB hpz hn1
                    go_wp2_with (first | (show wpList _ _ _ ({ dst := some 147, op := Op.call { callee := Callee.builtin Builtin.append, args := _, argTypes := _ }, type := _, pos := _, after := _, guard := _ } :: _) _ _; refine wpL_app_run rfl (.tmp 141) (.tmp 146) 42 rfl _ _ _ rfl rfl R7.out ?_) | fail)
                    go_roundw
                    case measure => simp [intOf]; have := HP1.out; omega
                    case rel => exact ⟨p1, m7, c2, _, hp1n, by go_num, rfl, HM7', KP7, KB7⟩
                  · have hpi : ¬ (0 : Int) < (p : Int) := by omega
                    obtain rfl : p = 0 := by omega
                    have hmn : mB = n := by have := HMB.out; omega
                    subst hmn
                    have hKA := KA.out.below' KB.out
                    rw [List.drop_zero] at KP
                    have hpm : (e0 :: E.reverse).Perm (e0 :: E) := (List.reverse_perm E).cons e0
                    have hsub : ∀ f ∈ e0 :: E.reverse, f ∈ e0 :: E := fun f hf => hpm.subset hf
                    have hNN := KS.out.few HLN.out
                    have hsum : ∀ M : List Fk, M.Perm (e0 :: E) → ((psl M).map (fun p => p.2.length)).sum ≤ 2600000000000 := fun M hM => by
                      rw [psl_lns, (hM.map _).sum_nat, KS.out.2.2.2, ← psl_lns]
                      exact HS2.out
                    have hsumr : ((psl E.reverse).map (fun p => p.2.length)).sum ≤ 2600000000000 := by
                      have := hsum _ hpm
                      rw [psl_lns, List.map_cons, List.sum_cons] at this
                      rw [psl_lns]; omega
                    have hleE : (e0 :: E.reverse).length = mB := by rw [List.length_cons, List.length_reverse]; exact HE.out
                    have hlEr : E.reverse.length + 1 = mB := by rw [List.length_reverse]; exact HE.out
                    have htal : ∀ x, tal ((e0 :: E.reverse).map fun f => kys f.s) x = tal (L0.map fun f => kys f.s) x := fun x => by
                      rw [tal_perm (hpm.map _) x]; exact tal_same HT3.out.1.1 hKA.1.1 KS.out x
                    obtain ⟨gB, rfl, _, _⟩ := pr_cells KP.out (j := 0) (R := e0.R) rfl
                    have HKA := keep hKA
                    have HTAL := keep htal
                    have HSUB := keep hsub
                    have HNN := keep hNN
                    have HSR := keep hsumr
                    have HLE := keep hlEr
                    have mU2 := union_of (L' := e0 :: E.reverse) KP.out hleE hKA.1.1 hsub hNN (by omega) (hsum _ hpm)
                    clear hKA htal hsub hNN hsumr hlEr hleE hsum KA
                    go_wp2_with fail
                    refine mU2.mono ?_
                    rintro _ w8 ⟨v8, rfl, U8, hU8, hk8, hb8⟩
                    have eU : U8 = U := srs_ext hU8 HU.out fun x => by rw [in_union hU8, in_union HU.out, HTAL.out x]
                    rw [eU] at hk8
                    have HK8 := keep (HKA.out.below hb8)
                    have KP8 := keep (own_kept KP.out (fun k hk => hb8.block k (own_lt KP.out hk)) : Pr _ w8 _ _)
                    have m8 := same_any w8 _ _ v8 vU U hk8 (HK8.out.2 (vU, U) (by simp)).1
                    clear mU2 hU8 hk8 hb8 eU HKA KP
                    go_wp2_with fail
                    refine m8.mono ?_
                    rintro _ w9 ⟨rfl, hb9⟩
                    have HK9 := keep (HK8.out.below hb9)
                    have KP9 := keep (own_kept KP8.out (fun k hk => hb9.block k (own_lt KP8.out hk)) : Pr _ w9 _ _)
                    have mI2 := inter_of (f0 := e0) (L' := E.reverse) KP9.out HLE.out HK9.out.1.1 HSUB.out HNN.out (by omega) HSR.out
                    clear m8 hb9 HK8 KP8
                    go_wp2_with fail
                    refine mI2.mono ?_
                    rintro _ w10 ⟨v10, rfl, V10, hV10, hk10, hb10⟩
                    have eV : V10 = V := srs_ext hV10 HV.out fun x => by
                      rw [in_inter hV10, in_inter HV.out, ← List.map_cons (f := fun f : Fk => kys f.s), ← List.map_cons (f := fun f : Fk => kys f.s), HL0.out, HTAL.out x, List.length_map, List.length_map, List.length_reverse]
                      have h1 := HLK.out
                      rw [← HL0.out, List.length_cons] at h1
                      have h2 := HE.out
                      rw [show E.length = Lr.length by omega]
                    rw [eV] at hk10
                    have HK10 := keep (HK9.out.below hb10)
                    have KP10 := keep (own_kept KP9.out (fun k hk => hb10.block k (own_lt KP9.out hk)) : Pr _ w10 _ _)
                    have m10 := same_any w10 _ _ v10 vN V hk10 (HK10.out.2 (vN, V) (by simp)).1
                    clear mI2 hV10 hk10 hb10 eV HK9 KP9
                    go_wp2_with fail
                    refine m10.mono ?_
                    rintro _ w11 ⟨rfl, hb11⟩
                    have HK11 := keep (HK10.out.below hb11)
                    have KP11 := keep (own_kept KP10.out (fun k hk => hb11.block k (own_lt KP10.out hk)) : Pr _ w11 _ _)
                    have mD2 := diff_of (f0 := e0) (L' := E.reverse) KP11.out HLE.out HK11.out.1.1 HSUB.out HNN.out (by omega) HSR.out
                    clear m10 hb11 HK10 KP10
                    go_wp2_with fail
                    refine mD2.mono ?_
                    rintro _ w12 ⟨v12, rfl, D12, hD12, hk12, hb12⟩
                    have eD : D12 = D := srs_ext hD12 HD.out fun x => by
                      rw [in_diff hD12, in_diff HD.out, ← List.map_cons (f := fun f : Fk => kys f.s), ← List.map_cons (f := fun f : Fk => kys f.s), HL0.out, HTAL.out x]
                      congr 1
                      obtain ⟨f, hf, _, _, hlk⟩ := KS.out.at (j := 0) (f' := e0) rfl
                      have hff : f = f0 := by rw [← HL0.out] at hf; simpa using hf.symm
                      rw [inB_kys (HK11.out.1.1.1 e0 (by simp)).1.1, hlk x, hff, inB_kys (HT3.out.1.1.1 f0 (by rw [← HL0.out]; simp)).1.1]
                    rw [eD] at hk12
                    have HK12 := keep (HK11.out.below hb12)
                    have m12 := same_any w12 _ _ v12 vD D hk12 (HK12.out.2 (vD, D) (by simp)).1
                    clear mD2 hD12 hk12 hb12 eD HK11 KP11
                    go_wp2_with fail
                    refine m12.mono ?_
                    rintro _ w13 ⟨rfl, hb13⟩
                    have HK13 := keep (HK12.out.below hb13)
                    clear m12 hb13 HK12
                    as_aux_lemma =>
                      obtain ⟨aoU, cpU, rfl, hoU⟩ := ks_form (show Ks W.heap.size w13 vU U from (HK13.out.2 (vU, U) (by simp)).1)
                      obtain ⟨aoV, cpV, rfl, hoV⟩ := ks_form (show Ks W.heap.size w13 vN V from (HK13.out.2 (vN, V) (by simp)).1)
                      obtain ⟨aoD, cpD, rfl, hoD⟩ := ks_form (show Ks W.heap.size w13 vD D from (HK13.out.2 (vD, D) (by simp)).1)
                      obtain ⟨w14, hw14⟩ : ∃ w14, w13.alloc (.cells #[.slice aoU U.length cpU, .slice aoV V.length cpV, .slice aoD D.length cpD] 27) = w14 := ⟨_, rfl⟩
                      obtain ⟨X3, hX3⟩ : ∃ X3, w13.heap.size = X3 := ⟨_, rfl⟩
                      have hbx : Below w13.heap.size w13 w14 := by rw [← hw14]; exact (Below.refl _ _).alloc (Nat.le_refl _) _
                      have hnew : w14.heap[X3]? = some (.cells #[.slice aoU U.length cpU, .slice aoV V.length cpV, .slice aoD D.length cpD] 27 (0, 0)) := by rw [← hw14, ← hX3]; exact heap_alloc_new _ _
                      have c0 : w14.cell? ⟨X3, 0, none⟩ = some (.slice aoU U.length cpU) := by rw [cell_of_row _ _ _ _ _ _ hnew]; rfl
                      have c1 : w14.cell? ⟨X3, 1, none⟩ = some (.slice aoV V.length cpV) := by rw [cell_of_row _ _ _ _ _ _ hnew]; rfl
                      have c2 : w14.cell? ⟨X3, 2, none⟩ = some (.slice aoD D.length cpD) := by rw [cell_of_row _ _ _ _ _ _ hnew]; rfl
                      have HK14 := keep (HK13.out.below hbx)
                      have HOU := keep hoU
                      have HOV := keep hoV
                      have HOD := keep hoD
                      clear hbx hnew HK13 hoU hoV hoD
                      go_wp2
                      clear hw14 hX3
                      go_loopw [172] (fun i wx => ∃ t : Nat, t ≤ 3 ∧ i = .int .i64 t ∧ Kept (Below w14.heap.size w14 wx)) (fun i _ => 3 - (intOf i).toNat)
                      case atStart => exact ⟨0, by omega, rfl, Below.refl _ _⟩
                      case round =>
                        obtain ⟨t, ht, rfl, KB⟩ := hrel
                        by_cases ht3 : t < 3
                        · rcases (by omega : t = 0 ∨ t = 1 ∨ t = 2) with rfl | rfl | rfl
                          · have KK := keep (HK14.out.2 (.slice aoU U.length cpU, U) (by simp)).1
                            have HO := HOU
                            have HSR := keep (⟨HU.out.1, HU.out.2⟩ : Srs _ U)
                            dsimp only at KK
                            as_aux_lemma =>
                              obtain ⟨lx, hlx⟩ : ∃ lx, U.length = lx := ⟨_, rfl⟩
                              have HLX := keep hlx
                              have cc := (KB.out.cell (p := ⟨X3, 0, none⟩) (lt_cell c0)).trans c0
                              rw [hlx] at cc KK
                              have hlm : lx ≤ 9223372036854775807 := by have := ks_max KK.out; rw [hlx] at this; exact this
                              clear hlx
                              go_wp2
                              go_loopw [24] (fun i wx => ∃ p : Nat, 1 ≤ p ∧ (p ≤ lx ∨ p = 1) ∧ i = .int .i64 p ∧ Kept (Below w14.heap.size w14 wx)) (fun i _ => lx + 1 - (intOf i).toNat)
                              case atStart => exact ⟨1, Nat.le_refl _, .inr rfl, rfl, KB⟩
                              case round =>
                                clear KB cc
                                obtain ⟨p, hp1, hp2, rfl, KB⟩ := hrel
                                by_cases hpl : p < lx
                                · have hplz : (p : Int) < (lx : Int) := by omega
                                  obtain ⟨p1, hpp⟩ : ∃ p1, p = p1 + 1 := ⟨p - 1, by omega⟩
                                  have hwp : IntKind.i64.wrap ((p : Int) - 1) = (p1 : Int) := by rw [IntKind.wrap_i64]; omega
                                  have hwq : IntKind.i64.wrap ((p : Int) + 1) = (p : Int) + 1 := by rw [IntKind.wrap_i64]; omega
                                  have hiw : IntKind.i64.wrap (p1 : Int) = (p1 : Int) := by rw [IntKind.wrap_i64]; omega
                                  have hjw' : (p : Int) - 1 = (p1 : Int) := by omega
                                  have h10 : (0 : Int) ≤ (p1 : Int) := by omega
                                  have h11 : (p1 : Int) < (lx : Int) := by omega
                                  have h12 : (0 : Int) ≤ (p : Int) := by omega
                                  obtain ⟨y1, hy1⟩ : ∃ y, U[p1]? = some y := ⟨_, List.getElem?_eq_getElem (by rw [HLX.out]; omega)⟩
                                  obtain ⟨y2, hy2⟩ : ∃ y, U[p]? = some y := ⟨_, List.getElem?_eq_getElem (by rw [HLX.out]; omega)⟩
                                  obtain ⟨gx, rfl⟩ : ∃ gx, aoU = some ⟨gx, 0, none⟩ := by
                                    rcases HO.out with h | ⟨gx, h, _⟩
                                    · rw [h] at hy1; simp at hy1
                                    · exact ⟨gx, h⟩
                                  have d1 := (KB.out.cell (p := ⟨gx, p1, none⟩) (lt_cell (KK.out.at hy1))).trans (KK.out.at hy1)
                                  have d2 := (KB.out.cell (p := ⟨gx, p, none⟩) (lt_cell (KK.out.at hy2))).trans (KK.out.at hy2)
                                  have hkl : ky y1 < ky y2 := by
                                    have := HSR.out.2
                                    rw [List.pairwise_iff_getElem] at this
                                    obtain ⟨u1, u2⟩ := List.getElem?_eq_some_iff.1 hy1
                                    obtain ⟨u3, u4⟩ := List.getElem?_eq_some_iff.1 hy2
                                    have := this p1 p u1 u3 (by omega)
                                    rw [u2, u4] at this
                                    exact this
                                  have hq1 : Op.bytesLess y1.toList y2.toList = true := by
                                    rw [less_is, Lib.toList_data, Lib.toList_data]
                                    exact decide_eq_true hkl
                                  have HPL := keep hpl
                                  have HPP := keep hpp
                                  have B5 := keep KB.out.drew
                                  clear hy1 hy2 hkl hpp hpl KB
                                  go_wp2_with fail
                                  refine wp_region_held_drew (S := fun W => W.cell? ⟨gx, p1, none⟩ = some (.string y1) ∧ W.cell? ⟨gx, p, none⟩ = some (.string y2)) (by kernel_rfl) ⟨(by simpa using d1), (by simpa using d2)⟩ (fun hHeld => ?_)
                                  refine wpAnyH_take (i := 0) (oi := { dst := some 182, op := _, type := _, pos := _, after := _, guard := _ }) (v := ?v1) rfl (by kernel_rfl) (by kernel_rfl) (by kernel_rfl) (fun _ _ _ h => h) (Or.inl ⟨by rfl, ?hy1⟩) (by assumption) ?rest1
                                  case hy1 => (intro w hSw; obtain ⟨q1, q2⟩ := hSw; go_simp; try with_reducible rfl)
                                  try simp only [Act.put, List.setIfInBounds_toArray, List.set_cons_zero, List.set_cons_succ]
                                  refine wpAnyH_take (i := 1) (oi := { dst := some 183, op := _, type := _, pos := _, after := _, guard := _ }) (v := ?v2) rfl (by kernel_rfl) (by kernel_rfl) (by kernel_rfl) (fun _ _ _ h => h) (Or.inl ⟨by rfl, ?hy2⟩) (by assumption) ?rest2
                                  case hy2 => (intro w hSw; obtain ⟨q1, q2⟩ := hSw; go_simp; try with_reducible rfl)
                                  try simp only [Act.put, List.setIfInBounds_toArray, List.set_cons_zero, List.set_cons_succ]
                                  refine wpAnyH_take (i := 2) (oi := { dst := some 184, op := _, type := _, pos := _, after := _, guard := _ }) (v := (.int .i64 (p1 : Int))) rfl (by kernel_rfl) (by kernel_rfl) (by kernel_rfl) (fun _ _ _ h => h) (Or.inl ⟨by rfl, ?hy3⟩) (by assumption) ?rest3
                                  case hy3 => (intro w hSw; obtain ⟨q1, q2⟩ := hSw; first | (go_simp; done) | (go_simp; simp [*]; done) | (simp [*]; go_simp; done))
                                  try simp only [Act.put, List.setIfInBounds_toArray, List.set_cons_zero, List.set_cons_succ]
                                  refine wpAnyH_take (i := 3) (oi := { dst := some 185, op := _, type := _, pos := _, after := _, guard := _ }) (v := ?v4) rfl (by kernel_rfl) (by kernel_rfl) (by kernel_rfl) (fun _ _ _ h => h) (Or.inl ⟨by rfl, ?hy4⟩) (by assumption) ?rest4
                                  case hy4 => (intro w hSw; obtain ⟨q1, q2⟩ := hSw; go_simp; try with_reducible rfl)
                                  try simp only [Act.put, List.setIfInBounds_toArray, List.set_cons_zero, List.set_cons_succ]
                                  refine wpAnyH_take (i := 4) (oi := { dst := some 186, op := _, type := _, pos := _, after := _, guard := _ }) (v := ?v5) rfl (by kernel_rfl) (by kernel_rfl) (by kernel_rfl) (fun _ _ _ h => h) (Or.inl ⟨by rfl, ?hy5⟩) (by assumption) ?rest5
                                  case hy5 => (intro w hSw; obtain ⟨q1, q2⟩ := hSw; go_simp; try with_reducible rfl)
                                  try simp only [Act.put, List.setIfInBounds_toArray, List.set_cons_zero, List.set_cons_succ]
                                  refine wpAnyH_take (i := 5) (oi := { dst := some 187, op := _, type := _, pos := _, after := _, guard := _ }) (v := ?v6) rfl (by kernel_rfl) (by kernel_rfl) (by kernel_rfl) (fun _ _ _ h => h) (Or.inl ⟨by rfl, ?hy6⟩) (by assumption) ?rest6
                                  case hy6 => (intro w hSw; obtain ⟨q1, q2⟩ := hSw; go_simp; try with_reducible rfl)
                                  try simp only [Act.put, List.setIfInBounds_toArray, List.set_cons_zero, List.set_cons_succ]
                                  refine wpAnyH_take (i := 6) (oi := { dst := some 188, op := _, type := _, pos := _, after := _, guard := _ }) (v := ?v7) rfl (by kernel_rfl) (by kernel_rfl) (by kernel_rfl) (fun _ _ _ h => h) (Or.inl ⟨by rfl, ?hy7⟩) (by assumption) ?rest7
                                  case hy7 => (intro w hSw; obtain ⟨q1, q2⟩ := hSw; go_simp; try with_reducible rfl)
                                  try simp only [Act.put, List.setIfInBounds_toArray, List.set_cons_zero, List.set_cons_succ]
                                  refine wpAnyH_take (i := 7) (oi := { dst := some 189, op := _, type := _, pos := _, after := _, guard := _ }) (v := ?v8) rfl (by kernel_rfl) (by kernel_rfl) (by kernel_rfl) (fun _ _ _ h => h) (Or.inl ⟨by rfl, ?hy8⟩) (by assumption) ?rest8
                                  case hy8 => (intro w hSw; obtain ⟨q1, q2⟩ := hSw; go_simp; try with_reducible rfl)
                                  try simp only [Act.put, List.setIfInBounds_toArray, List.set_cons_zero, List.set_cons_succ]
                                  refine wpAnyH_take (i := 8) (oi := { dst := some 190, op := _, type := _, pos := _, after := _, guard := _ }) (v := ?v9) rfl (by kernel_rfl) (by kernel_rfl) (by kernel_rfl) (fun _ _ _ h => h) (Or.inl ⟨by rfl, ?hy9⟩) (by assumption) ?rest9
                                  case hy9 => (intro w hSw; obtain ⟨q1, q2⟩ := hSw; go_simp; try with_reducible rfl)
                                  try simp only [Act.put, List.setIfInBounds_toArray, List.set_cons_zero, List.set_cons_succ]
                                  refine wpAnyH_take (i := 9) (oi := { dst := some 191, op := _, type := _, pos := _, after := _, guard := _ }) (v := (.bool false)) rfl (by kernel_rfl) (by kernel_rfl) (by kernel_rfl) (fun _ _ _ h => h) (Or.inl ⟨by rfl, ?hy10⟩) (by assumption) ?rest10
                                  case hy10 => (intro w hSw; obtain ⟨q1, q2⟩ := hSw; first | (go_simp; done) | (go_simp; simp [*]; done) | (simp [*]; go_simp; done))
                                  try simp only [Act.put, List.setIfInBounds_toArray, List.set_cons_zero, List.set_cons_succ]
                                  refine wpAnyH_done (by kernel_rfl) ?_ _
                                  clear hHeld d1 d2
                                  go_wp2
                                  go_roundw
                                  case measure => simp [intOf]; have := HPL.out; omega
                                  case rel => exact ⟨p + 1, by omega, .inl (by have := HPL.out; omega), by go_num, B5⟩
                                · have hplz : ¬ (p : Int) < (lx : Int) := by omega
                                  go_wp2
                                  go_roundw
                                  case measure => simp [intOf]
                                  case rel => exact ⟨1, by omega, by go_num, KB⟩
                          · have KK := keep (HK14.out.2 (.slice aoV V.length cpV, V) (by simp)).1
                            have HO := HOV
                            have HSR := keep (⟨HV.out.1, HV.out.2⟩ : Srs _ V)
                            dsimp only at KK
                            as_aux_lemma =>
                              obtain ⟨lx, hlx⟩ : ∃ lx, V.length = lx := ⟨_, rfl⟩
                              have HLX := keep hlx
                              have cc := (KB.out.cell (p := ⟨X3, 1, none⟩) (lt_cell c1)).trans c1
                              rw [hlx] at cc KK
                              have hlm : lx ≤ 9223372036854775807 := by have := ks_max KK.out; rw [hlx] at this; exact this
                              clear hlx
                              go_wp2
                              go_loopw [24] (fun i wx => ∃ p : Nat, 1 ≤ p ∧ (p ≤ lx ∨ p = 1) ∧ i = .int .i64 p ∧ Kept (Below w14.heap.size w14 wx)) (fun i _ => lx + 1 - (intOf i).toNat)
                              case atStart => exact ⟨1, Nat.le_refl _, .inr rfl, rfl, KB⟩
                              case round =>
                                clear KB cc
                                obtain ⟨p, hp1, hp2, rfl, KB⟩ := hrel
                                by_cases hpl : p < lx
                                · have hplz : (p : Int) < (lx : Int) := by omega
                                  obtain ⟨p1, hpp⟩ : ∃ p1, p = p1 + 1 := ⟨p - 1, by omega⟩
                                  have hwp : IntKind.i64.wrap ((p : Int) - 1) = (p1 : Int) := by rw [IntKind.wrap_i64]; omega
                                  have hwq : IntKind.i64.wrap ((p : Int) + 1) = (p : Int) + 1 := by rw [IntKind.wrap_i64]; omega
                                  have hiw : IntKind.i64.wrap (p1 : Int) = (p1 : Int) := by rw [IntKind.wrap_i64]; omega
                                  have hjw' : (p : Int) - 1 = (p1 : Int) := by omega
                                  have h10 : (0 : Int) ≤ (p1 : Int) := by omega
                                  have h11 : (p1 : Int) < (lx : Int) := by omega
                                  have h12 : (0 : Int) ≤ (p : Int) := by omega
                                  obtain ⟨y1, hy1⟩ : ∃ y, V[p1]? = some y := ⟨_, List.getElem?_eq_getElem (by rw [HLX.out]; omega)⟩
                                  obtain ⟨y2, hy2⟩ : ∃ y, V[p]? = some y := ⟨_, List.getElem?_eq_getElem (by rw [HLX.out]; omega)⟩
                                  obtain ⟨gx, rfl⟩ : ∃ gx, aoV = some ⟨gx, 0, none⟩ := by
                                    rcases HO.out with h | ⟨gx, h, _⟩
                                    · rw [h] at hy1; simp at hy1
                                    · exact ⟨gx, h⟩
                                  have d1 := (KB.out.cell (p := ⟨gx, p1, none⟩) (lt_cell (KK.out.at hy1))).trans (KK.out.at hy1)
                                  have d2 := (KB.out.cell (p := ⟨gx, p, none⟩) (lt_cell (KK.out.at hy2))).trans (KK.out.at hy2)
                                  have hkl : ky y1 < ky y2 := by
                                    have := HSR.out.2
                                    rw [List.pairwise_iff_getElem] at this
                                    obtain ⟨u1, u2⟩ := List.getElem?_eq_some_iff.1 hy1
                                    obtain ⟨u3, u4⟩ := List.getElem?_eq_some_iff.1 hy2
                                    have := this p1 p u1 u3 (by omega)
                                    rw [u2, u4] at this
                                    exact this
                                  have hq1 : Op.bytesLess y1.toList y2.toList = true := by
                                    rw [less_is, Lib.toList_data, Lib.toList_data]
                                    exact decide_eq_true hkl
                                  have HPL := keep hpl
                                  have HPP := keep hpp
                                  have B5 := keep KB.out.drew
                                  clear hy1 hy2 hkl hpp hpl KB
                                  go_wp2_with fail
                                  refine wp_region_held_drew (S := fun W => W.cell? ⟨gx, p1, none⟩ = some (.string y1) ∧ W.cell? ⟨gx, p, none⟩ = some (.string y2)) (by kernel_rfl) ⟨(by simpa using d1), (by simpa using d2)⟩ (fun hHeld => ?_)
                                  refine wpAnyH_take (i := 0) (oi := { dst := some 182, op := _, type := _, pos := _, after := _, guard := _ }) (v := ?v11) rfl (by kernel_rfl) (by kernel_rfl) (by kernel_rfl) (fun _ _ _ h => h) (Or.inl ⟨by rfl, ?hy11⟩) (by assumption) ?rest11
                                  case hy11 => (intro w hSw; obtain ⟨q1, q2⟩ := hSw; go_simp; try with_reducible rfl)
                                  try simp only [Act.put, List.setIfInBounds_toArray, List.set_cons_zero, List.set_cons_succ]
                                  refine wpAnyH_take (i := 1) (oi := { dst := some 183, op := _, type := _, pos := _, after := _, guard := _ }) (v := ?v12) rfl (by kernel_rfl) (by kernel_rfl) (by kernel_rfl) (fun _ _ _ h => h) (Or.inl ⟨by rfl, ?hy12⟩) (by assumption) ?rest12
                                  case hy12 => (intro w hSw; obtain ⟨q1, q2⟩ := hSw; go_simp; try with_reducible rfl)
                                  try simp only [Act.put, List.setIfInBounds_toArray, List.set_cons_zero, List.set_cons_succ]
                                  refine wpAnyH_take (i := 2) (oi := { dst := some 184, op := _, type := _, pos := _, after := _, guard := _ }) (v := (.int .i64 (p1 : Int))) rfl (by kernel_rfl) (by kernel_rfl) (by kernel_rfl) (fun _ _ _ h => h) (Or.inl ⟨by rfl, ?hy13⟩) (by assumption) ?rest13
                                  case hy13 => (intro w hSw; obtain ⟨q1, q2⟩ := hSw; first | (go_simp; done) | (go_simp; simp [*]; done) | (simp [*]; go_simp; done))
                                  try simp only [Act.put, List.setIfInBounds_toArray, List.set_cons_zero, List.set_cons_succ]
                                  refine wpAnyH_take (i := 3) (oi := { dst := some 185, op := _, type := _, pos := _, after := _, guard := _ }) (v := ?v14) rfl (by kernel_rfl) (by kernel_rfl) (by kernel_rfl) (fun _ _ _ h => h) (Or.inl ⟨by rfl, ?hy14⟩) (by assumption) ?rest14
                                  case hy14 => (intro w hSw; obtain ⟨q1, q2⟩ := hSw; go_simp; try with_reducible rfl)
                                  try simp only [Act.put, List.setIfInBounds_toArray, List.set_cons_zero, List.set_cons_succ]
                                  refine wpAnyH_take (i := 4) (oi := { dst := some 186, op := _, type := _, pos := _, after := _, guard := _ }) (v := ?v15) rfl (by kernel_rfl) (by kernel_rfl) (by kernel_rfl) (fun _ _ _ h => h) (Or.inl ⟨by rfl, ?hy15⟩) (by assumption) ?rest15
                                  case hy15 => (intro w hSw; obtain ⟨q1, q2⟩ := hSw; go_simp; try with_reducible rfl)
                                  try simp only [Act.put, List.setIfInBounds_toArray, List.set_cons_zero, List.set_cons_succ]
                                  refine wpAnyH_take (i := 5) (oi := { dst := some 187, op := _, type := _, pos := _, after := _, guard := _ }) (v := ?v16) rfl (by kernel_rfl) (by kernel_rfl) (by kernel_rfl) (fun _ _ _ h => h) (Or.inl ⟨by rfl, ?hy16⟩) (by assumption) ?rest16
                                  case hy16 => (intro w hSw; obtain ⟨q1, q2⟩ := hSw; go_simp; try with_reducible rfl)
                                  try simp only [Act.put, List.setIfInBounds_toArray, List.set_cons_zero, List.set_cons_succ]
                                  refine wpAnyH_take (i := 6) (oi := { dst := some 188, op := _, type := _, pos := _, after := _, guard := _ }) (v := ?v17) rfl (by kernel_rfl) (by kernel_rfl) (by kernel_rfl) (fun _ _ _ h => h) (Or.inl ⟨by rfl, ?hy17⟩) (by assumption) ?rest17
                                  case hy17 => (intro w hSw; obtain ⟨q1, q2⟩ := hSw; go_simp; try with_reducible rfl)
                                  try simp only [Act.put, List.setIfInBounds_toArray, List.set_cons_zero, List.set_cons_succ]
                                  refine wpAnyH_take (i := 7) (oi := { dst := some 189, op := _, type := _, pos := _, after := _, guard := _ }) (v := ?v18) rfl (by kernel_rfl) (by kernel_rfl) (by kernel_rfl) (fun _ _ _ h => h) (Or.inl ⟨by rfl, ?hy18⟩) (by assumption) ?rest18
                                  case hy18 => (intro w hSw; obtain ⟨q1, q2⟩ := hSw; go_simp; try with_reducible rfl)
                                  try simp only [Act.put, List.setIfInBounds_toArray, List.set_cons_zero, List.set_cons_succ]
                                  refine wpAnyH_take (i := 8) (oi := { dst := some 190, op := _, type := _, pos := _, after := _, guard := _ }) (v := ?v19) rfl (by kernel_rfl) (by kernel_rfl) (by kernel_rfl) (fun _ _ _ h => h) (Or.inl ⟨by rfl, ?hy19⟩) (by assumption) ?rest19
                                  case hy19 => (intro w hSw; obtain ⟨q1, q2⟩ := hSw; go_simp; try with_reducible rfl)
                                  try simp only [Act.put, List.setIfInBounds_toArray, List.set_cons_zero, List.set_cons_succ]
                                  refine wpAnyH_take (i := 9) (oi := { dst := some 191, op := _, type := _, pos := _, after := _, guard := _ }) (v := (.bool false)) rfl (by kernel_rfl) (by kernel_rfl) (by kernel_rfl) (fun _ _ _ h => h) (Or.inl ⟨by rfl, ?hy20⟩) (by assumption) ?rest20
                                  case hy20 => (intro w hSw; obtain ⟨q1, q2⟩ := hSw; first | (go_simp; done) | (go_simp; simp [*]; done) | (simp [*]; go_simp; done))
                                  try simp only [Act.put, List.setIfInBounds_toArray, List.set_cons_zero, List.set_cons_succ]
                                  refine wpAnyH_done (by kernel_rfl) ?_ _
                                  clear hHeld d1 d2
                                  go_wp2
                                  go_roundw
                                  case measure => simp [intOf]; have := HPL.out; omega
                                  case rel => exact ⟨p + 1, by omega, .inl (by have := HPL.out; omega), by go_num, B5⟩
                                · have hplz : ¬ (p : Int) < (lx : Int) := by omega
                                  go_wp2
                                  go_roundw
                                  case measure => simp [intOf]
                                  case rel => exact ⟨2, by omega, by go_num, KB⟩
                          · have KK := keep (HK14.out.2 (.slice aoD D.length cpD, D) (by simp)).1
                            have HO := HOD
                            have HSR := keep (⟨HD.out.1, HD.out.2⟩ : Srs _ D)
                            dsimp only at KK
                            as_aux_lemma =>
                              obtain ⟨lx, hlx⟩ : ∃ lx, D.length = lx := ⟨_, rfl⟩
                              have HLX := keep hlx
                              have cc := (KB.out.cell (p := ⟨X3, 2, none⟩) (lt_cell c2)).trans c2
                              rw [hlx] at cc KK
                              have hlm : lx ≤ 9223372036854775807 := by have := ks_max KK.out; rw [hlx] at this; exact this
                              clear hlx
                              go_wp2
                              go_loopw [24] (fun i wx => ∃ p : Nat, 1 ≤ p ∧ (p ≤ lx ∨ p = 1) ∧ i = .int .i64 p ∧ Kept (Below w14.heap.size w14 wx)) (fun i _ => lx + 1 - (intOf i).toNat)
                              case atStart => exact ⟨1, Nat.le_refl _, .inr rfl, rfl, KB⟩
                              case round =>
                                clear KB cc
                                obtain ⟨p, hp1, hp2, rfl, KB⟩ := hrel
                                by_cases hpl : p < lx
                                · have hplz : (p : Int) < (lx : Int) := by omega
                                  obtain ⟨p1, hpp⟩ : ∃ p1, p = p1 + 1 := ⟨p - 1, by omega⟩
                                  have hwp : IntKind.i64.wrap ((p : Int) - 1) = (p1 : Int) := by rw [IntKind.wrap_i64]; omega
                                  have hwq : IntKind.i64.wrap ((p : Int) + 1) = (p : Int) + 1 := by rw [IntKind.wrap_i64]; omega
                                  have hiw : IntKind.i64.wrap (p1 : Int) = (p1 : Int) := by rw [IntKind.wrap_i64]; omega
                                  have hjw' : (p : Int) - 1 = (p1 : Int) := by omega
                                  have h10 : (0 : Int) ≤ (p1 : Int) := by omega
                                  have h11 : (p1 : Int) < (lx : Int) := by omega
                                  have h12 : (0 : Int) ≤ (p : Int) := by omega
                                  obtain ⟨y1, hy1⟩ : ∃ y, D[p1]? = some y := ⟨_, List.getElem?_eq_getElem (by rw [HLX.out]; omega)⟩
                                  obtain ⟨y2, hy2⟩ : ∃ y, D[p]? = some y := ⟨_, List.getElem?_eq_getElem (by rw [HLX.out]; omega)⟩
                                  obtain ⟨gx, rfl⟩ : ∃ gx, aoD = some ⟨gx, 0, none⟩ := by
                                    rcases HO.out with h | ⟨gx, h, _⟩
                                    · rw [h] at hy1; simp at hy1
                                    · exact ⟨gx, h⟩
                                  have d1 := (KB.out.cell (p := ⟨gx, p1, none⟩) (lt_cell (KK.out.at hy1))).trans (KK.out.at hy1)
                                  have d2 := (KB.out.cell (p := ⟨gx, p, none⟩) (lt_cell (KK.out.at hy2))).trans (KK.out.at hy2)
                                  have hkl : ky y1 < ky y2 := by
                                    have := HSR.out.2
                                    rw [List.pairwise_iff_getElem] at this
                                    obtain ⟨u1, u2⟩ := List.getElem?_eq_some_iff.1 hy1
                                    obtain ⟨u3, u4⟩ := List.getElem?_eq_some_iff.1 hy2
                                    have := this p1 p u1 u3 (by omega)
                                    rw [u2, u4] at this
                                    exact this
                                  have hq1 : Op.bytesLess y1.toList y2.toList = true := by
                                    rw [less_is, Lib.toList_data, Lib.toList_data]
                                    exact decide_eq_true hkl
                                  have HPL := keep hpl
                                  have HPP := keep hpp
                                  have B5 := keep KB.out.drew
                                  clear hy1 hy2 hkl hpp hpl KB
                                  go_wp2_with fail
                                  refine wp_region_held_drew (S := fun W => W.cell? ⟨gx, p1, none⟩ = some (.string y1) ∧ W.cell? ⟨gx, p, none⟩ = some (.string y2)) (by kernel_rfl) ⟨(by simpa using d1), (by simpa using d2)⟩ (fun hHeld => ?_)
                                  refine wpAnyH_take (i := 0) (oi := { dst := some 182, op := _, type := _, pos := _, after := _, guard := _ }) (v := ?v21) rfl (by kernel_rfl) (by kernel_rfl) (by kernel_rfl) (fun _ _ _ h => h) (Or.inl ⟨by rfl, ?hy21⟩) (by assumption) ?rest21
                                  case hy21 => (intro w hSw; obtain ⟨q1, q2⟩ := hSw; go_simp; try with_reducible rfl)
                                  try simp only [Act.put, List.setIfInBounds_toArray, List.set_cons_zero, List.set_cons_succ]
                                  refine wpAnyH_take (i := 1) (oi := { dst := some 183, op := _, type := _, pos := _, after := _, guard := _ }) (v := ?v22) rfl (by kernel_rfl) (by kernel_rfl) (by kernel_rfl) (fun _ _ _ h => h) (Or.inl ⟨by rfl, ?hy22⟩) (by assumption) ?rest22
                                  case hy22 => (intro w hSw; obtain ⟨q1, q2⟩ := hSw; go_simp; try with_reducible rfl)
                                  try simp only [Act.put, List.setIfInBounds_toArray, List.set_cons_zero, List.set_cons_succ]
                                  refine wpAnyH_take (i := 2) (oi := { dst := some 184, op := _, type := _, pos := _, after := _, guard := _ }) (v := (.int .i64 (p1 : Int))) rfl (by kernel_rfl) (by kernel_rfl) (by kernel_rfl) (fun _ _ _ h => h) (Or.inl ⟨by rfl, ?hy23⟩) (by assumption) ?rest23
                                  case hy23 => (intro w hSw; obtain ⟨q1, q2⟩ := hSw; first | (go_simp; done) | (go_simp; simp [*]; done) | (simp [*]; go_simp; done))
                                  try simp only [Act.put, List.setIfInBounds_toArray, List.set_cons_zero, List.set_cons_succ]
                                  refine wpAnyH_take (i := 3) (oi := { dst := some 185, op := _, type := _, pos := _, after := _, guard := _ }) (v := ?v24) rfl (by kernel_rfl) (by kernel_rfl) (by kernel_rfl) (fun _ _ _ h => h) (Or.inl ⟨by rfl, ?hy24⟩) (by assumption) ?rest24
                                  case hy24 => (intro w hSw; obtain ⟨q1, q2⟩ := hSw; go_simp; try with_reducible rfl)
                                  try simp only [Act.put, List.setIfInBounds_toArray, List.set_cons_zero, List.set_cons_succ]
                                  refine wpAnyH_take (i := 4) (oi := { dst := some 186, op := _, type := _, pos := _, after := _, guard := _ }) (v := ?v25) rfl (by kernel_rfl) (by kernel_rfl) (by kernel_rfl) (fun _ _ _ h => h) (Or.inl ⟨by rfl, ?hy25⟩) (by assumption) ?rest25
                                  case hy25 => (intro w hSw; obtain ⟨q1, q2⟩ := hSw; go_simp; try with_reducible rfl)
                                  try simp only [Act.put, List.setIfInBounds_toArray, List.set_cons_zero, List.set_cons_succ]
                                  refine wpAnyH_take (i := 5) (oi := { dst := some 187, op := _, type := _, pos := _, after := _, guard := _ }) (v := ?v26) rfl (by kernel_rfl) (by kernel_rfl) (by kernel_rfl) (fun _ _ _ h => h) (Or.inl ⟨by rfl, ?hy26⟩) (by assumption) ?rest26
                                  case hy26 => (intro w hSw; obtain ⟨q1, q2⟩ := hSw; go_simp; try with_reducible rfl)
                                  try simp only [Act.put, List.setIfInBounds_toArray, List.set_cons_zero, List.set_cons_succ]
                                  refine wpAnyH_take (i := 6) (oi := { dst := some 188, op := _, type := _, pos := _, after := _, guard := _ }) (v := ?v27) rfl (by kernel_rfl) (by kernel_rfl) (by kernel_rfl) (fun _ _ _ h => h) (Or.inl ⟨by rfl, ?hy27⟩) (by assumption) ?rest27
                                  case hy27 => (intro w hSw; obtain ⟨q1, q2⟩ := hSw; go_simp; try with_reducible rfl)
                                  try simp only [Act.put, List.setIfInBounds_toArray, List.set_cons_zero, List.set_cons_succ]
                                  refine wpAnyH_take (i := 7) (oi := { dst := some 189, op := _, type := _, pos := _, after := _, guard := _ }) (v := ?v28) rfl (by kernel_rfl) (by kernel_rfl) (by kernel_rfl) (fun _ _ _ h => h) (Or.inl ⟨by rfl, ?hy28⟩) (by assumption) ?rest28
                                  case hy28 => (intro w hSw; obtain ⟨q1, q2⟩ := hSw; go_simp; try with_reducible rfl)
                                  try simp only [Act.put, List.setIfInBounds_toArray, List.set_cons_zero, List.set_cons_succ]
                                  refine wpAnyH_take (i := 8) (oi := { dst := some 190, op := _, type := _, pos := _, after := _, guard := _ }) (v := ?v29) rfl (by kernel_rfl) (by kernel_rfl) (by kernel_rfl) (fun _ _ _ h => h) (Or.inl ⟨by rfl, ?hy29⟩) (by assumption) ?rest29
                                  case hy29 => (intro w hSw; obtain ⟨q1, q2⟩ := hSw; go_simp; try with_reducible rfl)
                                  try simp only [Act.put, List.setIfInBounds_toArray, List.set_cons_zero, List.set_cons_succ]
                                  refine wpAnyH_take (i := 9) (oi := { dst := some 191, op := _, type := _, pos := _, after := _, guard := _ }) (v := (.bool false)) rfl (by kernel_rfl) (by kernel_rfl) (by kernel_rfl) (fun _ _ _ h => h) (Or.inl ⟨by rfl, ?hy30⟩) (by assumption) ?rest30
                                  case hy30 => (intro w hSw; obtain ⟨q1, q2⟩ := hSw; first | (go_simp; done) | (go_simp; simp [*]; done) | (simp [*]; go_simp; done))
                                  try simp only [Act.put, List.setIfInBounds_toArray, List.set_cons_zero, List.set_cons_succ]
                                  refine wpAnyH_done (by kernel_rfl) ?_ _
                                  clear hHeld d1 d2
                                  go_wp2
                                  go_roundw
                                  case measure => simp [intOf]; have := HPL.out; omega
                                  case rel => exact ⟨p + 1, by omega, .inl (by have := HPL.out; omega), by go_num, B5⟩
                                · have hplz : ¬ (p : Int) < (lx : Int) := by omega
                                  go_wp2
                                  go_roundw
                                  case measure => simp [intOf]
                                  case rel => exact ⟨3, by omega, by go_num, KB⟩
                        · obtain rfl : t = 3 := by omega
                          as_aux_lemma =>
                            have HKr := keep (HK14.out.below KB.out)
                            have hP14 : Pr W.heap.size wr (.slice (some ⟨g, 0, none⟩) mB cp5) ((e0 :: E).map (·.R)) := by rw [KS.out.1]; exact HKr.out.1.2.1.1
                            obtain ⟨g', e', hcf, hgl⟩ := pr_cells hP14 (j := 0) (R := e0.R) rfl
                            cases e'
                            have hmz : (0 : Int) < (mB : Int) := by omega
                            clear hP14 c0 c1 c2
                            have hmem : e0 ∈ e0 :: E := by simp
                            have hln0 : ln e0.s ≤ 1048576 := by
                              have h1 := KS.out.2.2.2
                              have h2 := HS1.out
                              unfold lns at h2
                              rw [← h1, List.map_cons, List.sum_cons] at h2
                              omega
                            have hKd := HKr.out.below (Below.refl _ wr).drew
                            have hbA : Below wr.drew.heap.size wr.drew (wr.drew.alloc (.cells #[.pointer (some ⟨e0.R, 0, none⟩), .pointer (some ⟨e0.R, 0, none⟩)] 25)) := (Below.refl _ _).alloc (Nat.le_refl _) _
                            have hPA : Pr wr.heap.size (wr.drew.alloc (.cells #[.pointer (some ⟨e0.R, 0, none⟩), .pointer (some ⟨e0.R, 0, none⟩)] 25)) (.slice (some ⟨wr.heap.size, 0, none⟩) 2 2) ([e0, e0].map (·.R)) := ⟨rfl, .inr ⟨wr.drew.heap.size, 2, _, rfl, Nat.le_refl _, heap_alloc_new _ _, Nat.le_refl _, by unfold maxLen; omega, rfl, rfl⟩⟩
                            have hKA2 := hKd.below hbA
                            have mU3 := union_of (L' := [e0, e0]) hPA rfl hKA2.1.1 (by simp) HNN.out (by omega) (by rw [psl_lns]; simp; omega)
                            have E0 : Kept (wr.drew.cell? ⟨g, 0, none⟩ = some (.pointer (some ⟨e0.R, 0, none⟩))) := hcf
                            have EA : Kept ((wr.drew.alloc (.cells #[.pointer (some ⟨e0.R, 0, none⟩), .pointer (some ⟨e0.R, 0, none⟩)] 25)).cell? ⟨g, 0, none⟩ = some (.pointer (some ⟨e0.R, 0, none⟩))) := ((hbA.cell (p := ⟨g, 0, none⟩) hgl).trans hcf : _)
                            have HKA2 := keep hKA2
                            have HLN0 := keep hln0
                            have MU3 := keep mU3
                            have HGL2 := keep hgl
                            clear hKd hbA hPA hKA2 mU3 hln0 hgl
                            go_wp2_with fail
                            refine wp_region_held_drew (S := fun W => W.cell? ⟨g, 0, none⟩ = some (.pointer (some ⟨e0.R, 0, none⟩))) (by kernel_rfl) E0.out (fun hHeld => ?_)
                            refine wpAnyH_take (i := 0) (oi := { dst := some 193, op := _, type := _, pos := _, after := _, guard := _ }) (v := ?v31) rfl (by kernel_rfl) (by kernel_rfl) (by kernel_rfl) (fun _ _ _ h => h) (Or.inl ⟨by rfl, ?hy31⟩) (by assumption) ?rest31
                            case hy31 => (intro w hSw; obtain p1 := hSw; go_simp; try with_reducible rfl)
                            try simp only [Act.put, List.setIfInBounds_toArray, List.set_cons_zero, List.set_cons_succ]
                            refine wpAnyH_take (i := 1) (oi := { dst := some 194, op := _, type := _, pos := _, after := _, guard := _ }) (v := ?v32) rfl (by kernel_rfl) (by kernel_rfl) (by kernel_rfl) (fun _ _ _ h => h) (Or.inl ⟨by rfl, ?hy32⟩) (by assumption) ?rest32
                            case hy32 => (intro w hSw; obtain p1 := hSw; go_simp; try with_reducible rfl)
                            try simp only [Act.put, List.setIfInBounds_toArray, List.set_cons_zero, List.set_cons_succ]
                            refine wpAnyH_take (i := 2) (oi := { dst := some 195, op := _, type := _, pos := _, after := _, guard := _ }) (v := ?v33) rfl (by kernel_rfl) (by kernel_rfl) (by kernel_rfl) (fun _ _ _ h => h) (Or.inl ⟨by rfl, ?hy33⟩) (by assumption) ?rest33
                            case hy33 => (intro w hSw; obtain p1 := hSw; go_simp; try with_reducible rfl)
                            try simp only [Act.put, List.setIfInBounds_toArray, List.set_cons_zero, List.set_cons_succ]
                            refine wpAnyH_take (i := 3) (oi := { dst := some 196, op := _, type := _, pos := _, after := _, guard := _ }) (v := ?v34) rfl (by kernel_rfl) (by kernel_rfl) (by kernel_rfl) (fun _ _ _ h => h) (Or.inl ⟨by rfl, ?hy34⟩) (by assumption) ?rest34
                            case hy34 => (intro w hSw; obtain p1 := hSw; go_simp; try with_reducible rfl)
                            try simp only [Act.put, List.setIfInBounds_toArray, List.set_cons_zero, List.set_cons_succ]
                            refine wpAnyH_take (i := 4) (oi := { dst := some 197, op := _, type := _, pos := _, after := _, guard := _ }) (v := ?v35) rfl (by kernel_rfl) (by kernel_rfl) (by kernel_rfl) (fun _ _ _ h => h) (Or.inl ⟨by rfl, ?hy35⟩) (by assumption) ?rest35
                            case hy35 => (intro w hSw; obtain p1 := hSw; go_simp; try with_reducible rfl)
                            try simp only [Act.put, List.setIfInBounds_toArray, List.set_cons_zero, List.set_cons_succ]
                            refine wpAnyH_take (i := 5) (oi := { dst := some 198, op := _, type := _, pos := _, after := _, guard := _ }) (v := ?v36) rfl (by kernel_rfl) (by kernel_rfl) (by kernel_rfl) (fun _ _ _ h => h) (Or.inl ⟨by rfl, ?hy36⟩) (by assumption) ?rest36
                            case hy36 => (intro w hSw; obtain p1 := hSw; go_simp; try with_reducible rfl)
                            try simp only [Act.put, List.setIfInBounds_toArray, List.set_cons_zero, List.set_cons_succ]
                            refine wpAnyH_take (i := 8) (oi := { dst := some 201, op := _, type := _, pos := _, after := _, guard := _ }) (v := ?v37) rfl (by kernel_rfl) (by kernel_rfl) (by kernel_rfl) (fun _ _ _ h => h) (Or.inl ⟨by rfl, ?hy37⟩) (by assumption) ?rest37
                            case hy37 => (intro w hSw; obtain p1 := hSw; go_simp; try with_reducible rfl)
                            try simp only [Act.put, List.setIfInBounds_toArray, List.set_cons_zero, List.set_cons_succ]
                            refine wpAnyH_take (i := 9) (oi := { dst := some 202, op := _, type := _, pos := _, after := _, guard := _ }) (v := ?v38) rfl (by kernel_rfl) (by kernel_rfl) (by kernel_rfl) (fun _ _ _ h => h) (Or.inl ⟨by rfl, ?hy38⟩) (by assumption) ?rest38
                            case hy38 => (intro w hSw; obtain p1 := hSw; go_simp; try with_reducible rfl)
                            try simp only [Act.put, List.setIfInBounds_toArray, List.set_cons_zero, List.set_cons_succ]
                            refine wpAnyH_take (i := 10) (oi := { dst := some 203, op := _, type := _, pos := _, after := _, guard := _ }) (v := ?v39) rfl (by kernel_rfl) (by kernel_rfl) (by kernel_rfl) (fun _ _ _ h => h) (Or.inl ⟨by rfl, ?hy39⟩) (by assumption) ?rest39
                            case hy39 => (intro w hSw; obtain p1 := hSw; go_simp; try with_reducible rfl)
                            try simp only [Act.put, List.setIfInBounds_toArray, List.set_cons_zero, List.set_cons_succ]
                            refine wpAnyH_ready (rs := [6]) (by kernel_rfl) (by simp) ?_
                            refine AllReadyH.cons (o := { dst := some 199, op := _, type := _, pos := _, after := _, guard := _ }) rfl (fun K hK => ?_) AllReadyH.nil
                            go_simp
                            refine hK.out _ _ EA.out (fun hHeld => ?_)
                            try simp only [Act.put, List.setIfInBounds_toArray, List.set_cons_zero, List.set_cons_succ]
                            clear hK
                            refine wpAnyH_ready (rs := [7]) (by kernel_rfl) (by simp) ?_
                            refine AllReadyH.cons (o := { dst := some 200, op := _, type := _, pos := _, after := _, guard := _ }) rfl (fun K hK => ?_) AllReadyH.nil
                            go_simp
                            refine MU3.out.mono ?_
                            rintro _ w15 ⟨v15, rfl, U3, hU3, hk15, hb15⟩
                            have HK15 := keep (HKA2.out.below hb15)
                            have E15 : Kept (w15.cell? ⟨g, 0, none⟩ = some (.pointer (some ⟨e0.R, 0, none⟩))) := ((hb15.cell (p := ⟨g, 0, none⟩) (lt_cell EA.out)).trans EA.out : _)
                            have MM := keep (fmembers_any w15 e0.r e0.R e0.b e0.s (HK15.out.1.1.1 e0 (by simp)).1.1 (by have := HNN.out e0 (by simp); omega))
                            have HU3 := keep hU3
                            have HK15' := keep hk15
                            clear hU3 hk15 hb15 MU3
                            refine hK.out _ _ E15.out (fun hHeld => ?_)
                            try simp only [Act.put, List.setIfInBounds_toArray, List.set_cons_zero, List.set_cons_succ]
                            clear hK
                            refine wpAnyH_ready (rs := [11]) (by kernel_rfl) (by simp) ?_
                            refine AllReadyH.cons (o := { dst := some 204, op := _, type := _, pos := _, after := _, guard := _ }) rfl (fun K hK => ?_) AllReadyH.nil
                            go_simp
                            refine MM.out.mono ?_
                            rintro _ w16 ⟨v16, M, rfl, hM, hPM, hb16⟩
                            have eM : U3 = M := union_self (srs_nodup hM) HU3.out hM
                            have HK16 := keep (HK15.out.below hb16)
                            have E16 : Kept (w16.cell? ⟨g, 0, none⟩ = some (.pointer (some ⟨e0.R, 0, none⟩))) := ((hb16.cell (p := ⟨g, 0, none⟩) (lt_cell E15.out)).trans E15.out : _)
                            have hk15' := HK15'.out
                            rw [eM] at hk15'
                            have MS := keep (same_any w16 _ _ v15 v16 M (own_kept hk15' (fun k hk => hb16.block k (own_lt hk15' hk))) (ks_prs hPM))
                            clear hM hPM hb16 eM hk15' HK15' HU3 MM HK15
                            refine hK.out _ _ E16.out (fun hHeld => ?_)
                            try simp only [Act.put, List.setIfInBounds_toArray, List.set_cons_zero, List.set_cons_succ]
                            clear hK
                            refine wpAnyH_ready (rs := [12]) (by kernel_rfl) (by simp) ?_
                            refine AllReadyH.cons (o := { dst := some 205, op := _, type := _, pos := _, after := _, guard := _ }) rfl (fun K hK => ?_) AllReadyH.nil
                            go_simp
                            refine MS.out.mono ?_
                            rintro _ w17 ⟨rfl, hb17⟩
                            have HK17 := keep (HK16.out.below hb17)
                            have E17 : Kept (w17.cell? ⟨g, 0, none⟩ = some (.pointer (some ⟨e0.R, 0, none⟩))) := ((hb17.cell (p := ⟨g, 0, none⟩) (lt_cell E16.out)).trans E16.out : _)
                            have hbB : Below w17.heap.size w17 (w17.alloc (.cells #[.pointer (some ⟨e0.R, 0, none⟩), .pointer (some ⟨e0.R, 0, none⟩)] 25)) := (Below.refl _ _).alloc (Nat.le_refl _) _
                            have hPB : Pr w17.heap.size (w17.alloc (.cells #[.pointer (some ⟨e0.R, 0, none⟩), .pointer (some ⟨e0.R, 0, none⟩)] 25)) (.slice (some ⟨w17.heap.size, 0, none⟩) 2 2) ((e0 :: [e0]).map (·.R)) := ⟨rfl, .inr ⟨w17.heap.size, 2, _, rfl, Nat.le_refl _, heap_alloc_new _ _, Nat.le_refl _, by unfold maxLen; omega, rfl, rfl⟩⟩
                            have HKB := keep (HK17.out.below hbB)
                            have EB : Kept ((w17.alloc (.cells #[.pointer (some ⟨e0.R, 0, none⟩), .pointer (some ⟨e0.R, 0, none⟩)] 25)).cell? ⟨g, 0, none⟩ = some (.pointer (some ⟨e0.R, 0, none⟩))) := ((hbB.cell (p := ⟨g, 0, none⟩) (lt_cell E17.out)).trans E17.out : _)
                            have MD3 := keep (diff_of (f0 := e0) (L' := [e0]) hPB rfl HKB.out.1.1 (by simp) HNN.out (by omega) (by rw [psl_lns]; simp; have := HLN0.out; omega))
                            clear hb17 hbB hPB MS HK16
                            refine hK.out _ _ E17.out (fun hHeld => ?_)
                            try simp only [Act.put, List.setIfInBounds_toArray, List.set_cons_zero, List.set_cons_succ]
                            clear hK
                            refine wpAnyH_take (i := 13) (oi := { dst := some 206, op := _, type := _, pos := _, after := _, guard := _ }) (v := ?v40) rfl (by kernel_rfl) (by kernel_rfl) (by kernel_rfl) (fun _ _ _ h => h) (Or.inl ⟨by rfl, ?hy40⟩) (by assumption) ?rest40
                            case hy40 => (intro w hSw; go_simp; try with_reducible rfl)
                            try simp only [Act.put, List.setIfInBounds_toArray, List.set_cons_zero, List.set_cons_succ]
                            refine wpAnyH_take (i := 14) (oi := { dst := some 207, op := _, type := _, pos := _, after := _, guard := _ }) (v := ?v41) rfl (by kernel_rfl) (by kernel_rfl) (by kernel_rfl) (fun _ _ _ h => h) (Or.inl ⟨by rfl, ?hy41⟩) (by assumption) ?rest41
                            case hy41 => (intro w hSw; obtain p1 := hSw; go_simp; try with_reducible rfl)
                            try simp only [Act.put, List.setIfInBounds_toArray, List.set_cons_zero, List.set_cons_succ]
                            refine wpAnyH_take (i := 15) (oi := { dst := some 208, op := _, type := _, pos := _, after := _, guard := _ }) (v := ?v42) rfl (by kernel_rfl) (by kernel_rfl) (by kernel_rfl) (fun _ _ _ h => h) (Or.inl ⟨by rfl, ?hy42⟩) (by assumption) ?rest42
                            case hy42 => (intro w hSw; obtain p1 := hSw; go_simp; try with_reducible rfl)
                            try simp only [Act.put, List.setIfInBounds_toArray, List.set_cons_zero, List.set_cons_succ]
                            refine wpAnyH_take (i := 16) (oi := { dst := some 209, op := _, type := _, pos := _, after := _, guard := _ }) (v := ?v43) rfl (by kernel_rfl) (by kernel_rfl) (by kernel_rfl) (fun _ _ _ h => h) (Or.inl ⟨by rfl, ?hy43⟩) (by assumption) ?rest43
                            case hy43 => (intro w hSw; obtain p1 := hSw; go_simp; try with_reducible rfl)
                            try simp only [Act.put, List.setIfInBounds_toArray, List.set_cons_zero, List.set_cons_succ]
                            refine wpAnyH_take (i := 17) (oi := { dst := some 210, op := _, type := _, pos := _, after := _, guard := _ }) (v := ?v44) rfl (by kernel_rfl) (by kernel_rfl) (by kernel_rfl) (fun _ _ _ h => h) (Or.inl ⟨by rfl, ?hy44⟩) (by assumption) ?rest44
                            case hy44 => (intro w hSw; obtain p1 := hSw; go_simp; try with_reducible rfl)
                            try simp only [Act.put, List.setIfInBounds_toArray, List.set_cons_zero, List.set_cons_succ]
                            refine wpAnyH_take (i := 18) (oi := { dst := some 211, op := _, type := _, pos := _, after := _, guard := _ }) (v := ?v45) rfl (by kernel_rfl) (by kernel_rfl) (by kernel_rfl) (fun _ _ _ h => h) (Or.inl ⟨by rfl, ?hy45⟩) (by assumption) ?rest45
                            case hy45 => (intro w hSw; obtain p1 := hSw; go_simp; try with_reducible rfl)
                            try simp only [Act.put, List.setIfInBounds_toArray, List.set_cons_zero, List.set_cons_succ]
                            refine wpAnyH_take (i := 19) (oi := { dst := some 212, op := _, type := _, pos := _, after := _, guard := _ }) (v := ?v46) rfl (by kernel_rfl) (by kernel_rfl) (by kernel_rfl) (fun _ _ _ h => h) (Or.inl ⟨by rfl, ?hy46⟩) (by assumption) ?rest46
                            case hy46 => (intro w hSw; obtain p1 := hSw; go_simp; try with_reducible rfl)
                            try simp only [Act.put, List.setIfInBounds_toArray, List.set_cons_zero, List.set_cons_succ]
                            refine wpAnyH_ready (rs := [20]) (by kernel_rfl) (by simp) ?_
                            refine AllReadyH.cons (o := { dst := some 213, op := _, type := _, pos := _, after := _, guard := _ }) rfl (fun K hK => ?_) AllReadyH.nil
                            go_simp
                            refine hK.out _ _ EB.out (fun hHeld => ?_)
                            try simp only [Act.put, List.setIfInBounds_toArray, List.set_cons_zero, List.set_cons_succ]
                            clear hK
                            refine wpAnyH_ready (rs := [21]) (by kernel_rfl) (by simp) ?_
                            refine AllReadyH.cons (o := { dst := some 214, op := _, type := _, pos := _, after := _, guard := _ }) rfl (fun K hK => ?_) AllReadyH.nil
                            go_simp
                            refine MD3.out.mono ?_
                            rintro _ w18 ⟨v18, rfl, D3, hD3, hk18, hb18⟩
                            have eD3 : D3 = [] := diff_self hD3
                            subst eD3
                            obtain ⟨ao18, cp18, rfl, _⟩ := ks_form hk18
                            have E18 : Kept (w18.cell? ⟨g, 0, none⟩ = some (.pointer (some ⟨e0.R, 0, none⟩))) := ((hb18.cell (p := ⟨g, 0, none⟩) (lt_cell EB.out)).trans EB.out : _)
                            have HB18 := keep (bel_up HBW.out ((HKB.out.below hb18).1.1.2.2))
                            clear hD3 hk18 hb18 MD3
                            refine hK.out _ _ E18.out (fun hHeld => ?_)
                            try simp only [Act.put, List.setIfInBounds_toArray, List.set_cons_zero, List.set_cons_succ]
                            clear hK
                            refine wpAnyH_take (i := 22) (oi := { dst := some 215, op := _, type := _, pos := _, after := _, guard := _ }) (v := ?v47) rfl (by kernel_rfl) (by kernel_rfl) (by kernel_rfl) (fun _ _ _ h => h) (Or.inl ⟨by rfl, ?hy47⟩) (by assumption) ?rest47
                            case hy47 => (intro w hSw; go_simp; try with_reducible rfl)
                            try simp only [Act.put, List.setIfInBounds_toArray, List.set_cons_zero, List.set_cons_succ]
                            refine wpAnyH_take (i := 23) (oi := { dst := some 216, op := _, type := _, pos := _, after := _, guard := _ }) (v := ?v48) rfl (by kernel_rfl) (by kernel_rfl) (by kernel_rfl) (fun _ _ _ h => h) (Or.inl ⟨by rfl, ?hy48⟩) (by assumption) ?rest48
                            case hy48 => (intro w hSw; go_simp; try with_reducible rfl)
                            try simp only [Act.put, List.setIfInBounds_toArray, List.set_cons_zero, List.set_cons_succ]
                            refine wpAnyH_take (i := 24) (oi := { dst := some 217, op := _, type := _, pos := _, after := _, guard := _ }) (v := ?v49) rfl (by kernel_rfl) (by kernel_rfl) (by kernel_rfl) (fun _ _ _ h => h) (Or.inl ⟨by rfl, ?hy49⟩) (by assumption) ?rest49
                            case hy49 => (intro w hSw; go_simp; try with_reducible rfl)
                            try simp only [Act.put, List.setIfInBounds_toArray, List.set_cons_zero, List.set_cons_succ]
                            refine wpAnyH_take (i := 25) (oi := { dst := some 4, op := _, type := _, pos := _, after := _, guard := _ }) (v := ?v50) rfl (by kernel_rfl) (by kernel_rfl) (by kernel_rfl) (fun _ _ _ h => h) (Or.inl ⟨by rfl, ?hy50⟩) (by assumption) ?rest50
                            case hy50 => (intro w hSw; go_simp; try with_reducible rfl)
                            try simp only [Act.put, List.setIfInBounds_toArray, List.set_cons_zero, List.set_cons_succ]
                            refine wpAnyH_done (by kernel_rfl) ?_ _
                            clear hHeld
                            go_wp2
                            go_ret
                            exact ⟨rfl, HB18.out⟩
end Go.Proofs.Ytmokahcjkokanaa
