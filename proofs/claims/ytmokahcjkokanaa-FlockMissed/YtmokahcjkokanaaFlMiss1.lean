/-
  The statement's own walk: a scan of a flock with changes between has told each member that was one all the while.
-/
import Derived.Test.YtmokahcjkokanaaFlMiss0
import Derived.Test.YtmokahcjkokanaaFlSet1
import Derived.Test.YtmokahcjkokanaaFlOpen2
namespace Go.Proofs.Ytmokahcjkokanaa
open Go.RowKit Go.Shelf
set_option maxRecDepth 100000 in
set_option maxHeartbeats 8000000 in
theorem miss_walk [Inhabited Txt] {h : ByteArray → Nat} (W0 : World) (x : Nat) (hH : HashIs x h) (so : Option Addr) (cap : Nat) (T1 : List ByteArray) (hT1 : Txts W0 so T1) (hn1 : T1.length ≤ 8796093022208)
    (so2 : Option Addr) (cap2 : Nat) (C2 : List Int) (hC2 : Nums (fun x => (Lit.int .i64 x).wf = true) .i64 W0 so2 C2) (so3 : Option Addr) (cap3 : Nat) (S3 : List Stp) (hS3 : Steps W0 so3 S3) :
    Calls Try.prog 5 #[.int .u64 x, .slice so T1.length cap, .slice so2 C2.length cap2, .slice so3 S3.length cap3] W0 fun e w' => e = .returned (.bool true) ∧ Below W0.heap.size W0 w' := by
  obtain ⟨n1, hn⟩ : ∃ n1, T1.length = n1 := ⟨_, rfl⟩
  obtain ⟨n2, hn2⟩ : ∃ n2, C2.length = n2 := ⟨_, rfl⟩
  obtain ⟨n3, hn3⟩ : ∃ n3, S3.length = n3 := ⟨_, rfl⟩
  rw [hn] at hn1
  rw [hn, hn2, hn3]
  have HT1 := keep hT1
  have HC2 := keep hC2
  have HS3 := keep hS3
  have HN := keep hn
  have HN2 := keep hn2
  have HN3 := keep hn3
  have HN1 := keep hn1
  clear hT1 hC2 hS3 hn hn2 hn3 hn1
  go_enter Try.func5, Try.ntmps5
  go_wp2_with fail
  refine (wakes_any W0).mono ?_
  rintro _ W ⟨rfl, hbW⟩
  have HBW := keep hbW
  clear hbW
  go_wp2_with fail
  refine (rnew_any h W x 0).mono ?_
  rintro _ w1 ⟨rfl, hb1, hr1⟩
  have R1 : Kept (Rn h (min 0 2000) W w1 (fun k => if k = W.heap.size then (5, 0) else (0, 0)) (W.heap.size + 1) W.heap.size x Dc.none0) :=
    ⟨hr1, by omega, fun k hk => by simp; omega, hb1⟩
  clear hb1 hr1
  go_wp2
  go_loopw [31] (fun i wr => ∃ (k : Nat) (r : Roles) (s : Sx), k ≤ n1 ∧ i = .int .i64 k ∧ Kept (Rn h (min k 2000) W wr r (W.heap.size + 1) W.heap.size x s) ∧ Kept (ln s ≤ min k 2000)) (fun i _ => n1 - (intOf i).toNat)
  case atStart => exact ⟨0, _, _, Nat.zero_le _, rfl, R1, by rw [ln_none]; exact Nat.zero_le _⟩
  case round =>
    obtain ⟨k, r, s, hk, rfl, KR, KL⟩ := hrel
    by_cases hlt : k < n1
    · have hltz : (k : Int) < (n1 : Int) := by omega
      have hk0 : (0 : Int) ≤ (k : Int) := by omega
      have hwk : IntKind.i64.wrap ((k : Int) + 1) = (k : Int) + 1 := by rw [IntKind.wrap_i64]; have := HN1.out; omega
      have hkT : k < T1.length := by rw [HN.out]; exact hlt
      obtain ⟨a, rfl, hab, hsz, hc0⟩ := HT1.out k hkT
      have hb0 : Below W0.heap.size W0 wr := HBW.out.trans (KR.out.2.2.2.mono HBW.out.size)
      have c0 := (hb0.cell (p := a.add k) (by rw [add_block]; exact hab)).trans hc0
      obtain ⟨e, he⟩ : ∃ e, T1[k]'hkT = e := ⟨_, rfl⟩
      rw [he] at c0
      have HLT := keep hlt
      clear hc0 he hab hsz hb0 hlt hkT
      by_cases hk2 : k < 2000
      · have hk2d : decide ((k : Int) < 2000) = true := decide_eq_true (by omega)
        have mA := fadd_some hH KR.out.1 (by omega) e
        go_wp2_with fail
        refine mA.mono ?_
        rintro _ w2 ⟨⟨xb, cc, rfl⟩, r2, s2, q1, q2, q3, q4⟩
        have I4 : Kept (Rn h (min (k + 1) 2000) W w2 r2 (W.heap.size + 1) W.heap.size x s2) := ((KR.out.step q1 q4).more (by omega))
        have L4 : Kept (ln s2 ≤ min (k + 1) 2000) := by have := KL.out; show _ ≤ _; omega
        clear mA q1 q2 q3 q4
        go_wp2
        go_roundw
        case measure => simp [intOf]; have := HLT.out; omega
        case rel => exact ⟨k + 1, r2, s2, by have := HLT.out; omega, by go_num, I4, L4⟩
      · have hk2d : decide ((k : Int) < 2000) = false := decide_eq_false (by omega)
        have I4 : Kept (Rn h (min (k + 1) 2000) W wr r (W.heap.size + 1) W.heap.size x s) := KR.out.more (by omega)
        have L4 : Kept (ln s ≤ min (k + 1) 2000) := by have := KL.out; show _ ≤ _; omega
        go_wp2
        go_roundw
        case measure => simp [intOf]; have := HLT.out; omega
        case rel => exact ⟨k + 1, r, s, by have := HLT.out; omega, by go_num, I4, L4⟩
    · have hltz : ¬ (k : Int) < (n1 : Int) := by omega
      obtain rfl : k = n1 := by omega
      have mM := fmembers_any wr r (W.heap.size + 1) W.heap.size s KR.out.1 (by omega)
      go_wp2_with fail
      refine mM.mono ?_
      rintro _ w5 ⟨v5, L, rfl, hLs, hP, hb5⟩
      have hI := KR.out.1.1.2.1
      have MI := keep (mf_new KR.out hb5 (ks_prs hP) (Below.refl _ _) (ks_nil w5.heap.size w5))
      have HIN : Kept (∀ e ∈ L, Has s e) := fun e he => (has_mem hI).2 (hLs.1.subset he)
      have hLl : L.length ≤ 2000 := by rw [hLs.1.length_eq, kys_len]; have := KL.out; omega
      have D0 : Kept (Dp h 0 L []) := fun e _ hp => by rw [Rv.plc_zero] at hp; exact absurd hp (Nat.not_lt_zero _)
      have HM : Kept (Mf h (2000 + 0) W w5 r x s (.slice none 0 0) [] v5 L) := by
        exact MI.out.more (by omega)
      have HL0 : Kept (ln s ≤ 2000 + 0) := by have := KL.out; show _ ≤ _; omega
      obtain ⟨ao5, cp5, rfl, _⟩ := ks_form (ks_prs hP)
      clear mM hLs hP hb5 hI MI KR KL R1
      go_wp2
      go_loopw [12, 13, 14, 15] (fun A T cv i wr => ∃ (c j : Nat) (r : Roles) (s : Sx) (tl al : List ByteArray), c < 2 ^ 64 ∧ j ≤ 100001 ∧ tl.length ≤ j * 204100 ∧ al.length ≤ 2000 ∧ cv = .int .u64 (c : Int) ∧ i = .int .i64 (j : Int) ∧ Kept (Mf h (2000 + j) W wr r x s T tl A al) ∧ Kept (∀ e ∈ al, Has s e) ∧ Kept (Dp h c al tl) ∧ Kept (ln s ≤ 2000 + j)) (fun _ _ _ i _ => 100001 - (intOf i).toNat)
      case atStart => exact ⟨0, 0, r, s, [], L, by decide, Nat.zero_le _, Nat.zero_le _, hLl, rfl, rfl, HM, HIN, D0, HL0⟩
      case round =>
        clear HM HIN D0 HL0 hLl
        obtain ⟨c, j, r, s, tl, al, hc, hj, htl, hall, rfl, rfl, KM, KI, KD, KLN⟩ := hrel
        have hj0 : (0 : Int) ≤ (j : Int) := by omega
        have hwj : IntKind.i64.wrap ((j : Int) + 1) = (j : Int) + 1 := by rw [IntKind.wrap_i64]; omega
        have hb0 : Below W0.heap.size W0 wr := HBW.out.trans (KM.out.fb.1.2.2.2.mono HBW.out.size)
        obtain ⟨aoA, cpA, rfl, haoA⟩ := ks_form KM.out.fb.2.1
        obtain ⟨aoT, cpT, rfl, _⟩ := ks_form KM.out.told
        obtain ⟨q, hq⟩ : ∃ q, al.length = q := ⟨_, rfl⟩
        obtain ⟨p, hp⟩ : ∃ p, tl.length = p := ⟨_, rfl⟩
        rw [hq] at hall KM ⊢
        rw [hp] at htl KM ⊢
        have HQ := keep hq
        have HP := keep hp
        have HALL := keep hall
        have HTL := keep htl
        have HJ := keep hj
        have HB0 := keep hb0
        have HAO := keep haoA
        have HC := keep hc
        clear hq hp hb0 haoA hall htl hj hc
        by_cases hcn : j < n2
        · have hcnd : decide ((j : Int) < (n2 : Int)) = true := decide_eq_true (by omega)
          have hcnz : (j : Int) < (n2 : Int) := by omega
          have hkC : j < C2.length := by rw [HN2.out]; exact hcn
          obtain ⟨a2, rfl, hab2, hjk, hc2⟩ := HC2.out j hkC
          have e2 := (HB0.out.cell (p := a2.add j) (by rw [add_block]; exact hab2)).trans hc2
          obtain ⟨cc, hcc⟩ : ∃ cc, C2[j]'hkC = cc := ⟨_, rfl⟩
          rw [hcc] at e2
          obtain ⟨cnt, hcnt⟩ : ∃ cnt : Int, min cc 1048576 = cnt := ⟨_, rfl⟩
          clear hc2 hab2 hcc hjk hkC hcn
          obtain ⟨c', l', mN, hc', hl', hcov, _, _, _⟩ := fscan_any wr r _ _ s KM.out.fb.1.1 (by have := HJ.out; omega) c HC.out cnt
          go_wp2_with fail
          refine mN.mono ?_
          rintro _ w9 ⟨⟨v9, rfl, hk9⟩, hb9⟩
          have hsum : tl.length + l'.length ≤ (j + 1) * 204100 := by have := HTL.out; have := HP.out; have := HJ.out; omega
          have hsum8 : tl.length + l'.length ≤ 8000000000000 := by have := HJ.out; omega
          have KM' := KM.out
          rw [← HP.out, ← HQ.out] at KM'
          obtain ⟨T', w10, r1, m10⟩ := KM'.add hb9 hk9 hsum8
          obtain ⟨ao9, cp9, rfl, _⟩ := ks_form hk9
          obtain ⟨aoN, cpN, rfl, _⟩ := ks_form m10.told
          obtain ⟨hall0, hD'⟩ := KD.out.next KI.out hcov
          obtain ⟨p', hp'⟩ : ∃ p', (tl ++ l').length = p' := ⟨_, rfl⟩
          rw [HP.out] at r1
          rw [HQ.out] at m10
          have hp'' : tl.length + l'.length = p' := by rw [← hp', List.length_append]
          have R1 := keep r1
          have M10 := keep m10
          have HA0 := keep hall0
          have HD' := keep hD'
          have HSUM : Kept ((tl ++ l').length ≤ (j + 1) * 204100) := by show (tl ++ l').length ≤ _; rw [List.length_append]; exact hsum
          have HC' := keep hc'
          rw [hp'] at R1 M10
          have HP' := keep hp'
          obtain ⟨ll, hll⟩ : ∃ ll, l'.length = ll := ⟨_, rfl⟩
          rw [hll] at R1 ⊢
          clear mN hk9 hb9 r1 m10 hall0 hD' hsum hsum8 hc' hcov hl' KM' hp' hp'' hll KM KD
          by_cases hz : c' = 0
          · subst hz
            rw [show ((0 : Nat) : Int) = 0 from rfl]
            go_wp2_with (first | (show wpList _ _ _ ({ dst := some 64, op := Op.call { callee := Callee.builtin Builtin.append, args := _, argTypes := _ }, type := _, pos := _, after := _, guard := _ } :: _) _ _; refine wpL_app_run rfl (.tmp 62) (.tmp 63) 27 rfl _ _ _ rfl rfl R1.out ?_))
            go_loopw [107] (fun i wq => ∃ z : Nat, z ≤ q ∧ i = .int .i64 z ∧ Kept (wq = w10)) (fun i _ => q - (intOf i).toNat)
            case atStart => exact ⟨0, Nat.zero_le _, rfl, rfl⟩
            case round =>
              obtain ⟨z, hz, rfl, KW⟩ := hrel
              obtain rfl := KW.out
              by_cases hzl : z < q
              · have hzz : (z : Int) < (q : Int) := by omega
                have hz0 : (0 : Int) ≤ (z : Int) := by omega
                have hwz : IntKind.i64.wrap ((z : Int) + 1) = (z : Int) + 1 := by rw [IntKind.wrap_i64]; have := HALL.out; omega
                obtain ⟨e, he⟩ : ∃ e, al[z]? = some e := ⟨_, List.getElem?_eq_getElem (by rw [HQ.out]; exact hzl)⟩
                obtain ⟨g, rfl⟩ : ∃ g, aoA = some ⟨g, 0, none⟩ := by
                  rcases HAO.out with h | ⟨g, h, _⟩
                  · rw [h] at he; simp at he
                  · exact ⟨g, h⟩
                have c0 := M10.out.fb.2.1.at he
                have mH := hasl_any _ _ _ _ M10.out.told e
                rw [(inB_iff _ _).2 (HA0.out (by first | exact rfl | trivial) e (List.mem_of_getElem? he))] at mH
                clear he
                go_wp2_with fail
                refine mH.mono ?_
                rintro _ w' ⟨rfl, hw'⟩
                obtain rfl := hw'.symm
                clear mH
                go_wp2
                go_roundw
                case measure => simp [intOf]; omega
                case rel => exact ⟨z + 1, by omega, by go_num, by first | exact rfl | exact trivial⟩
              · have hzz : ¬ (z : Int) < (q : Int) := by omega
                go_wp2
                go_ret
                exact ⟨rfl, HBW.out.trans (M10.out.fb.1.2.2.2.mono HBW.out.size)⟩
          · have hzb : ((c' : Int) == 0) = false := beq_eq_false_iff_ne.2 (by omega)
            by_cases hj5 : j = 100001
            · have hj5d : decide ((100000 : Int) < (j : Int)) = true := decide_eq_true (by omega)
              go_wp2_with (first | (show wpList _ _ _ ({ dst := some 64, op := Op.call { callee := Callee.builtin Builtin.append, args := _, argTypes := _ }, type := _, pos := _, after := _, guard := _ } :: _) _ _; refine wpL_app_run rfl (.tmp 62) (.tmp 63) 27 rfl _ _ _ rfl rfl R1.out ?_))
              go_ret
              exact ⟨rfl, HBW.out.trans (M10.out.fb.1.2.2.2.mono HBW.out.size)⟩
            · have hj5d : decide ((100000 : Int) < (j : Int)) = false := decide_eq_false (by have := HJ.out; omega)
              have HJ5 : Kept (j < 100001) := by have := HJ.out; show _ < _; omega
              by_cases hs3 : j < n3
              · have hs3d : decide ((n3 : Int) ≤ (j : Int)) = false := decide_eq_false (by omega)
                have hs3z : (j : Int) < (n3 : Int) := by omega
                have hs3n : ¬ (n3 : Int) ≤ (j : Int) := by omega
                have hkS : j < S3.length := by rw [HN3.out]; exact hs3
                obtain ⟨a3, rfl, hab, hsz, hjunk, hst0⟩ := HS3.out j hkS
                have hst := hst0.bel (HBW.out.trans (M10.out.fb.1.2.2.2.mono HBW.out.size)) (by rw [add_block]; exact hab)
                obtain ⟨o, ho⟩ : ∃ o, S3[j]'hkS = o := ⟨_, rfl⟩
                rw [ho] at hst hsz
                clear ho hst0 hjunk
                obtain ⟨who, op, f, big, nn, cn⟩ := o
                obtain ⟨t0, t1, t2, t3, t4, t5⟩ := hst
                dsimp only at t0 t1 t2 t3 t4 t5 hsz
                obtain ⟨X, hX⟩ : ∃ X, w10.heap.size = X := ⟨_, rfl⟩
                obtain ⟨W1, hW1⟩ : ∃ W1, w10.alloc (.cells #[.int .i64 who, .int .i64 op, .string f, .int .i64 big, .int .u64 nn, .int .i64 cn] 29) = W1 := ⟨_, rfl⟩
                have hbx : Below w10.heap.size w10 W1 := by rw [← hW1]; exact (Below.refl _ _).alloc (Nat.le_refl _) _
                have hz1 : X < W1.heap.size := by rw [← hW1, ← hX]; simp
                have hx1 : W1.heap[X]? = some (.cells (Stp.cells ⟨who, op, f, big, nn, cn⟩) 29 (0, 0)) := by rw [← hW1, ← hX]; exact heap_alloc_new _ _
                have hXr : rr r (W.heap.size + 1) X = (0, 0) := M10.out.fb.1.fresh (by omega)
                have hBX := box_at hx1
                dsimp only at hBX
                obtain ⟨b1, b2⟩ := hBX
                have M11 := keep (M10.out.below hbx)
                have HX1 := keep hx1
                have HXR := keep hXr
                have HZ1 := keep hz1
                have HSZ := keep hsz
                clear hbx hz1 hx1 hXr hsz hkS hab hs3
                by_cases ho3 : op < 3
                · have ho3d : decide (op < 3) = true := decide_eq_true ho3
                  have mA := fadd_some hH M11.out.fb.1.1 (by have := HJ.out; omega) f
                  go_wp2_with (first | (show wpList _ _ _ ({ dst := some 64, op := Op.call { callee := Callee.builtin Builtin.append, args := _, argTypes := _ }, type := _, pos := _, after := _, guard := _ } :: _) _ _; refine wpL_app_run rfl (.tmp 62) (.tmp 63) 27 rfl _ _ _ rfl rfl R1.out ?_))
                  refine mA.mono ?_
                  rintro _ w2 ⟨⟨xb, cc, rfl⟩, r2, s2, q1, q2, q3, q4⟩
                  have M12 : Kept (Mf h (2000 + (j + 1)) W w2 r2 x s2 (.slice aoN p' cpN) (tl ++ l') (.slice aoA q cpA) al) := M11.out.op q1 q4
                  have K12 : Kept (∀ e ∈ al, Has s2 e) := fun e he => q2 e (KI.out e he)
                  have L12 : Kept (ln s2 ≤ 2000 + (j + 1)) := by have := KLN.out; show _ ≤ _; omega
                  clear mA q1 q2 q3 q4 b1 b2 t0 t1 t2 t3 t4 t5 R1
                  go_wp2
                  go_roundw
                  case measure => simp [intOf]; have := HJ5.out; omega
                  case rel => exact ⟨c', j + 1, r2, s2, tl ++ l', al, HC'.out, by have := HJ5.out; omega, HSUM.out, by have := HALL.out; have := HQ.out; omega, rfl, by go_num, M12, K12, HD', L12⟩
                · have ho3d : decide (op < 3) = false := decide_eq_false ho3
                  have mD := fdel_any hH M11.out.fb.1.1 (by have := HJ.out; omega) f HSZ.out
                  go_wp2_with (first | (show wpList _ _ _ ({ dst := some 64, op := Op.call { callee := Callee.builtin Builtin.append, args := _, argTypes := _ }, type := _, pos := _, after := _, guard := _ } :: _) _ _; refine wpL_app_run rfl (.tmp 62) (.tmp 63) 27 rfl _ _ _ rfl rfl R1.out ?_))
                  refine mD.mono ?_
                  rintro _ w2 ⟨rfl, r2, s2, q1, q2, q3⟩
                  have M12 := keep (M11.out.op q1 q3)
                  have hX2 := (q3.2.2 X HZ1.out HXR.out).1.trans HX1.out
                  have HD2 := keep (box_at hX2).2
                  have HXL : Kept (X < w2.heap.size) := Nat.lt_of_lt_of_le HZ1.out q3.2.1
                  have Q2 := keep q2
                  have L12 : Kept (ln s2 ≤ 2000 + (j + 1)) := by have := KLN.out; rw [q2.2]; show _ ≤ _; omega
                  clear mD q1 q2 q3 b1 b2 t0 t1 t2 t3 t4 t5 R1 hX2
                  go_wp2
                  go_loopw [20, 91] (fun m i wq => ∃ z : Nat, z ≤ q ∧ i = .int .i64 z ∧ Kept (Ks w2.heap.size wq m ((al.take z).filter (fun x => decide (x ≠ f)))) ∧ Kept (Below w2.heap.size w2 wq)) (fun _ i _ => q - (intOf i).toNat)
                  case atStart => exact ⟨0, Nat.zero_le _, rfl, ks_nil _ _, Below.refl _ _⟩
                  case round =>
                    obtain ⟨z, hz, rfl, KR, KB⟩ := hrel
                    by_cases hzl : z < q
                    · have hzz : (z : Int) < (q : Int) := by omega
                      have hz0 : (0 : Int) ≤ (z : Int) := by omega
                      have hwz : IntKind.i64.wrap ((z : Int) + 1) = (z : Int) + 1 := by rw [IntKind.wrap_i64]; have := HALL.out; omega
                      obtain ⟨e, he⟩ : ∃ e, al[z]? = some e := ⟨_, List.getElem?_eq_getElem (by rw [HQ.out]; exact hzl)⟩
                      obtain ⟨g, rfl, hg⟩ : ∃ g, aoA = some ⟨g, 0, none⟩ ∧ g < w2.heap.size := by
                        have hR2 := M12.out.fb.2.1
                        rcases HAO.out with h | ⟨g, h, _⟩
                        · rw [h] at he; simp at he
                        · subst h; exact ⟨g, rfl, own_lt hR2 rfl⟩
                      have c0 := (KB.out.cell (p := ⟨g, z, none⟩) hg).trans (M12.out.fb.2.1.at he)
                      have d2 := (KB.out.cell (p := ⟨X, 2, none⟩) HXL.out).trans HD2.out

                      have hft := filter_take (f := f) he
                      by_cases hef : e = f
                      · rw [if_pos hef, List.append_nil] at hft
                        have HFT := keep hft
                        subst hef
                        clear he hft hg
                        go_wp2
                        go_roundw
                        case measure => simp [intOf]; omega
                        case rel => exact ⟨z + 1, by omega, by go_num, by rw [HFT.out]; exact KR, KB⟩
                      · rw [if_neg hef] at hft
                        have hefb : (e.toList == f.toList) = false := beq_eq_false_iff_ne.2 (fun h => hef (bytes_eq h))
                        have HFT := keep hft
                        have hfl : ((al.take z).filter (fun x => decide (x ≠ f))).length ≤ 8000000000000 := by
                          have h1 := List.length_filter_le (fun x => decide (x ≠ f)) (al.take z)
                          rw [List.length_take] at h1
                          have := HALL.out
                          omega
                        obtain ⟨ao', cp', rfl, _⟩ := ks_form KR.out
                        obtain ⟨g', cp2, W3, hrun, hR, hs3, ho3, hat, hsame⟩ := push_txt e KR.out KB.out.size hfl
                        have hb3 : Below w2.heap.size w2 W3 := KB.out.trans ⟨ho3.1, ho3.2.1, ho3.2.2, by omega, fun i hi => hsame i (by have := KB.out.size; omega) (fun e => by have := (World.ownsRow.lt KR.out i e).1; omega)⟩
                        have MA := keep hrun
                        have HR := keep hR
                        have HB3 := keep hb3
                        obtain ⟨mm, hmm⟩ : ∃ mm, ((al.take z).filter (fun x => decide (x ≠ f))).length = mm := ⟨_, rfl⟩
                        rw [hmm] at MA HR ⊢
                        clear he hft hg hef hrun hR hs3 ho3 hat hsame hb3 hfl hmm
                        go_wp2_with (first | (show wpList _ _ _ ({ dst := some 102, op := Op.call { callee := Callee.builtin Builtin.append, args := _, argTypes := _ }, type := _, pos := _, after := _, guard := _ } :: _) _ _; refine wpL_app_run rfl (.tmp 99) (.tmp 101) 27 rfl _ _ _ rfl rfl MA.out ?_))
                        go_roundw
                        case measure => simp [intOf]; omega
                        case rel => exact ⟨z + 1, by omega, by go_num, by rw [HFT.out]; exact HR, HB3⟩
                    · have hzz : ¬ (z : Int) < (q : Int) := by omega
                      obtain rfl : z = q := by omega
                      rw [List.take_of_length_le (by rw [HQ.out]; exact Nat.le_refl _)] at KR
                      obtain ⟨ao', cp', rfl, _⟩ := ks_form KR.out
                      have hfl : (al.filter (fun x => decide (x ≠ f))).length ≤ 2000 := by
                        have h1 := List.length_filter_le (fun x => decide (x ≠ f)) al
                        have := HALL.out
                        have := HQ.out
                        omega
                      have M13 : Kept (Mf h (2000 + (j + 1)) W wr r2 x s2 (.slice aoN p' cpN) (tl ++ l') (.slice ao' (al.filter (fun x => decide (x ≠ f))).length cp') (al.filter (fun x => decide (x ≠ f)))) := (M12.out.stay KB.out KR.out).more (by omega)
                      have K13 : Kept (∀ e ∈ al.filter (fun x => decide (x ≠ f)), Has s2 e) := fun e he => has_del Q2.out (KI.out e (List.mem_filter.1 he).1) (by simpa using (List.mem_filter.1 he).2)
                      have D13 : Kept (Dp h c' (al.filter (fun x => decide (x ≠ f))) (tl ++ l')) := fun e he hp => HD'.out e (List.mem_filter.1 he).1 hp
                      obtain ⟨mm, hmm⟩ : ∃ mm, (al.filter (fun x => decide (x ≠ f))).length = mm := ⟨_, rfl⟩
                      have HFL := keep hfl
                      rw [hmm] at M13 ⊢
                      clear hmm KR KB hfl
                      go_wp2
                      go_roundw
                      case measure => simp [intOf]; have := HJ5.out; omega
                      case rel => exact ⟨c', j + 1, r2, s2, tl ++ l', _, HC'.out, by have := HJ5.out; omega, HSUM.out, HFL.out, rfl, by go_num, M13, K13, D13, L12⟩
              · have hs3d : decide ((n3 : Int) ≤ (j : Int)) = true := decide_eq_true (by omega)
                have hs3z : (n3 : Int) ≤ (j : Int) := by omega
                have M12 : Kept (Mf h (2000 + (j + 1)) W w10 r x s (.slice aoN p' cpN) (tl ++ l') (.slice aoA q cpA) al) := M10.out.more (by omega)
                have L12 : Kept (ln s ≤ 2000 + (j + 1)) := by have := KLN.out; show _ ≤ _; omega
                go_wp2_with (first | (show wpList _ _ _ ({ dst := some 64, op := Op.call { callee := Callee.builtin Builtin.append, args := _, argTypes := _ }, type := _, pos := _, after := _, guard := _ } :: _) _ _; refine wpL_app_run rfl (.tmp 62) (.tmp 63) 27 rfl _ _ _ rfl rfl R1.out ?_))
                go_roundw
                case measure => simp [intOf]; have := HJ5.out; omega
                case rel => exact ⟨c', j + 1, r, s, tl ++ l', al, HC'.out, by have := HJ5.out; omega, HSUM.out, by have := HALL.out; have := HQ.out; omega, rfl, by go_num, M12, KI, HD', L12⟩
        · have hcnd : decide ((j : Int) < (n2 : Int)) = false := decide_eq_false (by omega)
          have hcnz : ¬ (j : Int) < (n2 : Int) := by omega
          obtain ⟨cnt, hcnt⟩ : ∃ cnt : Int, (2 : Int) = cnt := ⟨_, rfl⟩
          obtain ⟨c', l', mN, hc', hl', hcov, _, _, _⟩ := fscan_any wr r _ _ s KM.out.fb.1.1 (by have := HJ.out; omega) c HC.out 2
          clear hcnt
          go_wp2_with fail
          refine mN.mono ?_
          rintro _ w9 ⟨⟨v9, rfl, hk9⟩, hb9⟩
          have hsum : tl.length + l'.length ≤ (j + 1) * 204100 := by have := HTL.out; have := HP.out; have := HJ.out; omega
          have hsum8 : tl.length + l'.length ≤ 8000000000000 := by have := HJ.out; omega
          have KM' := KM.out
          rw [← HP.out, ← HQ.out] at KM'
          obtain ⟨T', w10, r1, m10⟩ := KM'.add hb9 hk9 hsum8
          obtain ⟨ao9, cp9, rfl, _⟩ := ks_form hk9
          obtain ⟨aoN, cpN, rfl, _⟩ := ks_form m10.told
          obtain ⟨hall0, hD'⟩ := KD.out.next KI.out hcov
          obtain ⟨p', hp'⟩ : ∃ p', (tl ++ l').length = p' := ⟨_, rfl⟩
          rw [HP.out] at r1
          rw [HQ.out] at m10
          have hp'' : tl.length + l'.length = p' := by rw [← hp', List.length_append]
          have R1 := keep r1
          have M10 := keep m10
          have HA0 := keep hall0
          have HD' := keep hD'
          have HSUM : Kept ((tl ++ l').length ≤ (j + 1) * 204100) := by show (tl ++ l').length ≤ _; rw [List.length_append]; exact hsum
          have HC' := keep hc'
          rw [hp'] at R1 M10
          have HP' := keep hp'
          obtain ⟨ll, hll⟩ : ∃ ll, l'.length = ll := ⟨_, rfl⟩
          rw [hll] at R1 ⊢
          clear mN hk9 hb9 r1 m10 hall0 hD' hsum hsum8 hc' hcov hl' KM' hp' hp'' hll KM KD
          by_cases hz : c' = 0
          · subst hz
            rw [show ((0 : Nat) : Int) = 0 from rfl]
            go_wp2_with (first | (show wpList _ _ _ ({ dst := some 64, op := Op.call { callee := Callee.builtin Builtin.append, args := _, argTypes := _ }, type := _, pos := _, after := _, guard := _ } :: _) _ _; refine wpL_app_run rfl (.tmp 62) (.tmp 63) 27 rfl _ _ _ rfl rfl R1.out ?_))
            go_loopw [107] (fun i wq => ∃ z : Nat, z ≤ q ∧ i = .int .i64 z ∧ Kept (wq = w10)) (fun i _ => q - (intOf i).toNat)
            case atStart => exact ⟨0, Nat.zero_le _, rfl, rfl⟩
            case round =>
              obtain ⟨z, hz, rfl, KW⟩ := hrel
              obtain rfl := KW.out
              by_cases hzl : z < q
              · have hzz : (z : Int) < (q : Int) := by omega
                have hz0 : (0 : Int) ≤ (z : Int) := by omega
                have hwz : IntKind.i64.wrap ((z : Int) + 1) = (z : Int) + 1 := by rw [IntKind.wrap_i64]; have := HALL.out; omega
                obtain ⟨e, he⟩ : ∃ e, al[z]? = some e := ⟨_, List.getElem?_eq_getElem (by rw [HQ.out]; exact hzl)⟩
                obtain ⟨g, rfl⟩ : ∃ g, aoA = some ⟨g, 0, none⟩ := by
                  rcases HAO.out with h | ⟨g, h, _⟩
                  · rw [h] at he; simp at he
                  · exact ⟨g, h⟩
                have c0 := M10.out.fb.2.1.at he
                have mH := hasl_any _ _ _ _ M10.out.told e
                rw [(inB_iff _ _).2 (HA0.out (by first | exact rfl | trivial) e (List.mem_of_getElem? he))] at mH
                clear he
                go_wp2_with fail
                refine mH.mono ?_
                rintro _ w' ⟨rfl, hw'⟩
                obtain rfl := hw'.symm
                clear mH
                go_wp2
                go_roundw
                case measure => simp [intOf]; omega
                case rel => exact ⟨z + 1, by omega, by go_num, by first | exact rfl | exact trivial⟩
              · have hzz : ¬ (z : Int) < (q : Int) := by omega
                go_wp2
                go_ret
                exact ⟨rfl, HBW.out.trans (M10.out.fb.1.2.2.2.mono HBW.out.size)⟩
          · have hzb : ((c' : Int) == 0) = false := beq_eq_false_iff_ne.2 (by omega)
            by_cases hj5 : j = 100001
            · have hj5d : decide ((100000 : Int) < (j : Int)) = true := decide_eq_true (by omega)
              go_wp2_with (first | (show wpList _ _ _ ({ dst := some 64, op := Op.call { callee := Callee.builtin Builtin.append, args := _, argTypes := _ }, type := _, pos := _, after := _, guard := _ } :: _) _ _; refine wpL_app_run rfl (.tmp 62) (.tmp 63) 27 rfl _ _ _ rfl rfl R1.out ?_))
              go_ret
              exact ⟨rfl, HBW.out.trans (M10.out.fb.1.2.2.2.mono HBW.out.size)⟩
            · have hj5d : decide ((100000 : Int) < (j : Int)) = false := decide_eq_false (by have := HJ.out; omega)
              have HJ5 : Kept (j < 100001) := by have := HJ.out; show _ < _; omega
              by_cases hs3 : j < n3
              · have hs3d : decide ((n3 : Int) ≤ (j : Int)) = false := decide_eq_false (by omega)
                have hs3z : (j : Int) < (n3 : Int) := by omega
                have hs3n : ¬ (n3 : Int) ≤ (j : Int) := by omega
                have hkS : j < S3.length := by rw [HN3.out]; exact hs3
                obtain ⟨a3, rfl, hab, hsz, hjunk, hst0⟩ := HS3.out j hkS
                have hst := hst0.bel (HBW.out.trans (M10.out.fb.1.2.2.2.mono HBW.out.size)) (by rw [add_block]; exact hab)
                obtain ⟨o, ho⟩ : ∃ o, S3[j]'hkS = o := ⟨_, rfl⟩
                rw [ho] at hst hsz
                clear ho hst0 hjunk
                obtain ⟨who, op, f, big, nn, cn⟩ := o
                obtain ⟨t0, t1, t2, t3, t4, t5⟩ := hst
                dsimp only at t0 t1 t2 t3 t4 t5 hsz
                obtain ⟨X, hX⟩ : ∃ X, w10.heap.size = X := ⟨_, rfl⟩
                obtain ⟨W1, hW1⟩ : ∃ W1, w10.alloc (.cells #[.int .i64 who, .int .i64 op, .string f, .int .i64 big, .int .u64 nn, .int .i64 cn] 29) = W1 := ⟨_, rfl⟩
                have hbx : Below w10.heap.size w10 W1 := by rw [← hW1]; exact (Below.refl _ _).alloc (Nat.le_refl _) _
                have hz1 : X < W1.heap.size := by rw [← hW1, ← hX]; simp
                have hx1 : W1.heap[X]? = some (.cells (Stp.cells ⟨who, op, f, big, nn, cn⟩) 29 (0, 0)) := by rw [← hW1, ← hX]; exact heap_alloc_new _ _
                have hXr : rr r (W.heap.size + 1) X = (0, 0) := M10.out.fb.1.fresh (by omega)
                have hBX := box_at hx1
                dsimp only at hBX
                obtain ⟨b1, b2⟩ := hBX
                have M11 := keep (M10.out.below hbx)
                have HX1 := keep hx1
                have HXR := keep hXr
                have HZ1 := keep hz1
                have HSZ := keep hsz
                clear hbx hz1 hx1 hXr hsz hkS hab hs3
                by_cases ho3 : op < 3
                · have ho3d : decide (op < 3) = true := decide_eq_true ho3
                  have mA := fadd_some hH M11.out.fb.1.1 (by have := HJ.out; omega) f
                  go_wp2_with (first | (show wpList _ _ _ ({ dst := some 64, op := Op.call { callee := Callee.builtin Builtin.append, args := _, argTypes := _ }, type := _, pos := _, after := _, guard := _ } :: _) _ _; refine wpL_app_run rfl (.tmp 62) (.tmp 63) 27 rfl _ _ _ rfl rfl R1.out ?_))
                  refine mA.mono ?_
                  rintro _ w2 ⟨⟨xb, cc, rfl⟩, r2, s2, q1, q2, q3, q4⟩
                  have M12 : Kept (Mf h (2000 + (j + 1)) W w2 r2 x s2 (.slice aoN p' cpN) (tl ++ l') (.slice aoA q cpA) al) := M11.out.op q1 q4
                  have K12 : Kept (∀ e ∈ al, Has s2 e) := fun e he => q2 e (KI.out e he)
                  have L12 : Kept (ln s2 ≤ 2000 + (j + 1)) := by have := KLN.out; show _ ≤ _; omega
                  clear mA q1 q2 q3 q4 b1 b2 t0 t1 t2 t3 t4 t5 R1
                  go_wp2
                  go_roundw
                  case measure => simp [intOf]; have := HJ5.out; omega
                  case rel => exact ⟨c', j + 1, r2, s2, tl ++ l', al, HC'.out, by have := HJ5.out; omega, HSUM.out, by have := HALL.out; have := HQ.out; omega, rfl, by go_num, M12, K12, HD', L12⟩
                · have ho3d : decide (op < 3) = false := decide_eq_false ho3
                  have mD := fdel_any hH M11.out.fb.1.1 (by have := HJ.out; omega) f HSZ.out
                  go_wp2_with (first | (show wpList _ _ _ ({ dst := some 64, op := Op.call { callee := Callee.builtin Builtin.append, args := _, argTypes := _ }, type := _, pos := _, after := _, guard := _ } :: _) _ _; refine wpL_app_run rfl (.tmp 62) (.tmp 63) 27 rfl _ _ _ rfl rfl R1.out ?_))
                  refine mD.mono ?_
                  rintro _ w2 ⟨rfl, r2, s2, q1, q2, q3⟩
                  have M12 := keep (M11.out.op q1 q3)
                  have hX2 := (q3.2.2 X HZ1.out HXR.out).1.trans HX1.out
                  have HD2 := keep (box_at hX2).2
                  have HXL : Kept (X < w2.heap.size) := Nat.lt_of_lt_of_le HZ1.out q3.2.1
                  have Q2 := keep q2
                  have L12 : Kept (ln s2 ≤ 2000 + (j + 1)) := by have := KLN.out; rw [q2.2]; show _ ≤ _; omega
                  clear mD q1 q2 q3 b1 b2 t0 t1 t2 t3 t4 t5 R1 hX2
                  go_wp2
                  go_loopw [20, 91] (fun m i wq => ∃ z : Nat, z ≤ q ∧ i = .int .i64 z ∧ Kept (Ks w2.heap.size wq m ((al.take z).filter (fun x => decide (x ≠ f)))) ∧ Kept (Below w2.heap.size w2 wq)) (fun _ i _ => q - (intOf i).toNat)
                  case atStart => exact ⟨0, Nat.zero_le _, rfl, ks_nil _ _, Below.refl _ _⟩
                  case round =>
                    obtain ⟨z, hz, rfl, KR, KB⟩ := hrel
                    by_cases hzl : z < q
                    · have hzz : (z : Int) < (q : Int) := by omega
                      have hz0 : (0 : Int) ≤ (z : Int) := by omega
                      have hwz : IntKind.i64.wrap ((z : Int) + 1) = (z : Int) + 1 := by rw [IntKind.wrap_i64]; have := HALL.out; omega
                      obtain ⟨e, he⟩ : ∃ e, al[z]? = some e := ⟨_, List.getElem?_eq_getElem (by rw [HQ.out]; exact hzl)⟩
                      obtain ⟨g, rfl, hg⟩ : ∃ g, aoA = some ⟨g, 0, none⟩ ∧ g < w2.heap.size := by
                        have hR2 := M12.out.fb.2.1
                        rcases HAO.out with h | ⟨g, h, _⟩
                        · rw [h] at he; simp at he
                        · subst h; exact ⟨g, rfl, own_lt hR2 rfl⟩
                      have c0 := (KB.out.cell (p := ⟨g, z, none⟩) hg).trans (M12.out.fb.2.1.at he)
                      have d2 := (KB.out.cell (p := ⟨X, 2, none⟩) HXL.out).trans HD2.out

                      have hft := filter_take (f := f) he
                      by_cases hef : e = f
                      · rw [if_pos hef, List.append_nil] at hft
                        have HFT := keep hft
                        subst hef
                        clear he hft hg
                        go_wp2
                        go_roundw
                        case measure => simp [intOf]; omega
                        case rel => exact ⟨z + 1, by omega, by go_num, by rw [HFT.out]; exact KR, KB⟩
                      · rw [if_neg hef] at hft
                        have hefb : (e.toList == f.toList) = false := beq_eq_false_iff_ne.2 (fun h => hef (bytes_eq h))
                        have HFT := keep hft
                        have hfl : ((al.take z).filter (fun x => decide (x ≠ f))).length ≤ 8000000000000 := by
                          have h1 := List.length_filter_le (fun x => decide (x ≠ f)) (al.take z)
                          rw [List.length_take] at h1
                          have := HALL.out
                          omega
                        obtain ⟨ao', cp', rfl, _⟩ := ks_form KR.out
                        obtain ⟨g', cp2, W3, hrun, hR, hs3, ho3, hat, hsame⟩ := push_txt e KR.out KB.out.size hfl
                        have hb3 : Below w2.heap.size w2 W3 := KB.out.trans ⟨ho3.1, ho3.2.1, ho3.2.2, by omega, fun i hi => hsame i (by have := KB.out.size; omega) (fun e => by have := (World.ownsRow.lt KR.out i e).1; omega)⟩
                        have MA := keep hrun
                        have HR := keep hR
                        have HB3 := keep hb3
                        obtain ⟨mm, hmm⟩ : ∃ mm, ((al.take z).filter (fun x => decide (x ≠ f))).length = mm := ⟨_, rfl⟩
                        rw [hmm] at MA HR ⊢
                        clear he hft hg hef hrun hR hs3 ho3 hat hsame hb3 hfl hmm
                        go_wp2_with (first | (show wpList _ _ _ ({ dst := some 102, op := Op.call { callee := Callee.builtin Builtin.append, args := _, argTypes := _ }, type := _, pos := _, after := _, guard := _ } :: _) _ _; refine wpL_app_run rfl (.tmp 99) (.tmp 101) 27 rfl _ _ _ rfl rfl MA.out ?_))
                        go_roundw
                        case measure => simp [intOf]; omega
                        case rel => exact ⟨z + 1, by omega, by go_num, by rw [HFT.out]; exact HR, HB3⟩
                    · have hzz : ¬ (z : Int) < (q : Int) := by omega
                      obtain rfl : z = q := by omega
                      rw [List.take_of_length_le (by rw [HQ.out]; exact Nat.le_refl _)] at KR
                      obtain ⟨ao', cp', rfl, _⟩ := ks_form KR.out
                      have hfl : (al.filter (fun x => decide (x ≠ f))).length ≤ 2000 := by
                        have h1 := List.length_filter_le (fun x => decide (x ≠ f)) al
                        have := HALL.out
                        have := HQ.out
                        omega
                      have M13 : Kept (Mf h (2000 + (j + 1)) W wr r2 x s2 (.slice aoN p' cpN) (tl ++ l') (.slice ao' (al.filter (fun x => decide (x ≠ f))).length cp') (al.filter (fun x => decide (x ≠ f)))) := (M12.out.stay KB.out KR.out).more (by omega)
                      have K13 : Kept (∀ e ∈ al.filter (fun x => decide (x ≠ f)), Has s2 e) := fun e he => has_del Q2.out (KI.out e (List.mem_filter.1 he).1) (by simpa using (List.mem_filter.1 he).2)
                      have D13 : Kept (Dp h c' (al.filter (fun x => decide (x ≠ f))) (tl ++ l')) := fun e he hp => HD'.out e (List.mem_filter.1 he).1 hp
                      obtain ⟨mm, hmm⟩ : ∃ mm, (al.filter (fun x => decide (x ≠ f))).length = mm := ⟨_, rfl⟩
                      have HFL := keep hfl
                      rw [hmm] at M13 ⊢
                      clear hmm KR KB hfl
                      go_wp2
                      go_roundw
                      case measure => simp [intOf]; have := HJ5.out; omega
                      case rel => exact ⟨c', j + 1, r2, s2, tl ++ l', _, HC'.out, by have := HJ5.out; omega, HSUM.out, HFL.out, rfl, by go_num, M13, K13, D13, L12⟩
              · have hs3d : decide ((n3 : Int) ≤ (j : Int)) = true := decide_eq_true (by omega)
                have hs3z : (n3 : Int) ≤ (j : Int) := by omega
                have M12 : Kept (Mf h (2000 + (j + 1)) W w10 r x s (.slice aoN p' cpN) (tl ++ l') (.slice aoA q cpA) al) := M10.out.more (by omega)
                have L12 : Kept (ln s ≤ 2000 + (j + 1)) := by have := KLN.out; show _ ≤ _; omega
                go_wp2_with (first | (show wpList _ _ _ ({ dst := some 64, op := Op.call { callee := Callee.builtin Builtin.append, args := _, argTypes := _ }, type := _, pos := _, after := _, guard := _ } :: _) _ _; refine wpL_app_run rfl (.tmp 62) (.tmp 63) 27 rfl _ _ _ rfl rfl R1.out ?_))
                go_roundw
                case measure => simp [intOf]; have := HJ5.out; omega
                case rel => exact ⟨c', j + 1, r, s, tl ++ l', al, HC'.out, by have := HJ5.out; omega, HSUM.out, by have := HALL.out; have := HQ.out; omega, rfl, by go_num, M12, KI, HD', L12⟩
end Go.Proofs.Ytmokahcjkokanaa
