/-
  The walk of ScanTells: from any cursors, with any counts, what is told is what the document tells.
-/
import Derived.Test.YtnkladifalnmnaaScanTell0
import Derived.Deep.CutRange
namespace Go.Proofs.Ytnkladifalnmnaa
open Go.RowKit Go.Shelf
set_option linter.unusedVariables false
attribute [local go_sem] Oper.semAt_some
set_option maxRecDepth 100000 in
set_option maxHeartbeats 8000000 in
theorem tells_walk {h : ByteArray → Nat} (W : World) (seed : Nat) (hH : HashIs seed h) (so : Option Addr) (cs : Nat) (S : List Cg) (hS : Cgs W so S) (hcap : S.length ≤ cs)
    (co : Option Addr) (cc : Nat) (C : List Int) (hC : Nums (fun x => 0 ≤ x ∧ x < 18446744073709551616) .u64 W co C) (ko : Option Addr) (kc : Nat) (K : List Int) (hK : Nums (fun _ => True) .i64 W ko K) :
    Calls Try.prog 3 #[.int .u64 seed, .slice so S.length cs, .slice co C.length cc, .slice ko K.length kc] W fun e w' => e = .returned (.bool true) ∧ Below W.heap.size W w' := by
  have mF := fun w => few_any w so S.length cs hcap (fun h0 => by obtain ⟨a, e, _⟩ := hS 0 h0; exact ⟨a, e⟩)
  obtain ⟨L, hL⟩ : ∃ L, min S.length 1048576 = L := ⟨_, rfl⟩
  obtain ⟨L0, hL0⟩ : ∃ L, S.length = L := ⟨_, rfl⟩
  obtain ⟨Lc, hLc⟩ : ∃ L, C.length = L := ⟨_, rfl⟩
  obtain ⟨Lk, hLk⟩ : ∃ L, K.length = L := ⟨_, rfl⟩
  have hn : L ≤ 1048576 := by omega
  have hLS : L ≤ S.length := by omega
  rw [hL] at mF
  rw [hL0] at mF ⊢
  rw [hLc, hLk]
  have HN := keep hn
  have hLb : (L : Int) ≤ 1048576 := by omega
  have HLS := keep hLS
  have HS := keep hS
  have MF := keep mF
  have HC := keep hC
  have HK := keep hK
  have HLC := keep hLc
  have HLK := keep hLk
  clear hL hS hL0 hLS hcap mF hC hK hLc hLk hn
  go_enter Try.func3, Try.ntmps3
  go_wp2_with fail
  refine (wakes_any _).mono ?_
  rintro _ w0 ⟨rfl, hb0⟩
  go_wp2_with fail
  refine (new_any h w0 seed 0).mono ?_
  rintro _ w1 ⟨rfl, hb1, hz1, hd1⟩
  have SC := keep (sc_new hb0 hb1 hd1)
  generalize (fun k => if k = w0.heap.size then (5, 0) else (0, 0) : Roles) = r0 at SC
  obtain ⟨b, hb⟩ : ∃ x, x = w0.heap.size := ⟨_, rfl⟩
  rw [← hb] at SC ⊢
  clear hb0 hb1 hz1 hd1 hb
  have mF := MF.out w1
  clear MF
  go_wp2_with fail
  refine mF.mono ?_
  rintro _ w2 ⟨rfl, hw⟩
  subst hw
  clear mF
  go_wp2
  go_loopw [10] (fun i wr => ∃ k : Nat, k ≤ L ∧ i = .int .i64 k ∧ ∃ r s, Kept (Sc h k W wr r b seed s)) (fun i _ => L - (intOf i).toNat)
  case atStart => exact ⟨0, Nat.zero_le _, rfl, r0, _, SC⟩
  case round =>
    clear SC
    obtain ⟨k, hk, rfl, r, s, SK⟩ := hrel
    by_cases hlt : k < L
    · have hltz : (k : Int) < (L : Int) := by omega
      obtain ⟨a, rfl, hab, hky, hst0⟩ := HS.out k (by have := HLS.out; omega)
      have hst := hst0.bel SK.out.2.1 (by rw [add_block]; exact hab)
      clear hst0
      generalize S[k]'(by have := HLS.out; omega) = o at hst hky
      have mC := change_any hH wr r b s o SK.out.1 (by have := HN.out; omega) hky
      obtain ⟨op, ky⟩ := o
      obtain ⟨t0, t1⟩ := hst
      dsimp only at t0 t1 mC
      go_wp2_with fail
      refine mC.mono ?_
      rintro _ w3 ⟨rfl, r', s', hd3, _, hf3⟩
      have SC3 := keep (SK.out.go hd3 hf3)
      clear mC hd3 hf3 SK t0 t1 hab hky
      by_cases hci : k < Lc
      · have hci1 : (k : Int) < (Lc : Int) := by omega
        obtain ⟨ca, rfl, hcb, ⟨hx0, hx1⟩, hcc⟩ := HC.out k (by rw [HLC.out]; exact hci)
        have hcw : w3.cell? (ca.add k) = some (.int .u64 (C[k]'(by rw [HLC.out]; exact hci))) := (SC3.out.2.1.cell (by rw [add_block]; exact hcb)).trans hcc
        generalize C[k]'(by rw [HLC.out]; exact hci) = x at *
        obtain ⟨x, rfl⟩ : ∃ n : Nat, x = (n : Int) := ⟨x.toNat, by omega⟩
        have hx : x < 2 ^ 64 := by omega
        have HX := keep hx
        clear hx0 hx1 hx hcc
        by_cases hki : k < Lk
        · have hki1 : (k : Int) < (Lk : Int) := by omega
          obtain ⟨na, rfl, hnb, _, hnc⟩ := HK.out k (by rw [HLK.out]; exact hki)
          have hnw : w3.cell? (na.add k) = some (.int .i64 (K[k]'(by rw [HLK.out]; exact hki))) := (SC3.out.2.1.cell (by rw [add_block]; exact hnb)).trans hnc
          generalize K[k]'(by rw [HLK.out]; exact hki) = cnt at *
          clear hnc hnb
          obtain ⟨wo, hwo⟩ : ∃ x, x = wr := ⟨_, rfl⟩
          subst hwo
          have hN3 : k + 1 ≤ 1048576 := by have := HN.out; omega
          have hol : s'.old.length ≤ 2 * (k + 1) + 4 := SC3.out.1.2.2.2.2.1
          have hyl : s'.young.length ≤ 2 * (k + 1) + 4 := SC3.out.1.2.2.2.2.2
          obtain ⟨nx, tl, htl, N1, N2⟩ := nexts w3 r' b seed (k + 1) s' SC3.out.1 (by omega) x HX.out cnt
          have hFw := few_of SC3.out.1.2 (by omega)
          have MT := keep fun (w : World) (hb : Below w3.heap.size w3 w) => tabs_any w r' b seed _ s' (SC3.out.1.below hb).1 hFw (by omega) (by omega)
          have MN := keep N1
          have MR := keep N2
          have HTL := keep (show tl.length ≤ 4194304 by omega)
          have hXl : (s'.old.map Dc.keys).length ≤ 4194304 := by rw [List.length_map]; omega
          generalize s'.old.map Dc.keys = X at MT MR hXl
          have hXb : (X.length : Int) ≤ 4194304 := by omega
          clear hXl
          generalize s'.young.map Dc.keys = Y at MT MR
          clear N1 N2 htl hFw hol hyl hN3
          have mT := MT.out w3 (Below.refl _ _)
          go_wp2_with fail
          refine mT.mono ?_
          rintro _ w4 ⟨⟨v1, v2, rfl, hr1, hr2⟩, hb4⟩
          have HR1 := keep hr1
          have HR2 := keep hr2
          have HB4 := keep hb4
          have hca : ca.block < w3.heap.size := Nat.lt_of_lt_of_le hcb SC3.out.2.1.size
          have hcw4 : w4.cell? (ca.add k) = some (.int .u64 (x : Int)) := (hb4.cell (by rw [add_block]; exact hca)).trans hcw
          have HCW := keep hcw
          have HCA := keep hca
          have mN := MN.out w4 hb4
          obtain ⟨o1, c1, hv1⟩ := hr1.form
          obtain ⟨o2, c2, hv2⟩ := hr2.form
          subst hv1 hv2
          clear mT hr1 hr2 hb4 hcw hca hcb
          go_wp2_with fail
          refine mN.mono ?_
          rintro _ w5 ⟨⟨va, rfl, hka⟩, hb5⟩
          have hb45 := HB4.out.trans (hb5.mono HB4.out.size)
          have hcw5 : w5.cell? (ca.add k) = some (.int .u64 (x : Int)) := (hb45.cell (by rw [add_block]; exact HCA.out)).trans HCW.out
          have mR := MR.out w5 w3.heap.size _ _ (HR1.out.kept hb5) (HR2.out.kept hb5)
          have HB5 := keep hb45
          have HB5' := keep hb5
          have HKA := keep hka
          clear mN hcw4 hb5 hb45 hka
          go_wp2_with fail
          refine mR.mono ?_
          rintro _ w6 ⟨⟨vm, rfl, hkm⟩, hb6⟩
          have hb46 := HB5.out.trans (hb6.mono HB5.out.size)
          have hcw6 : w6.cell? (ca.add k) = some (.int .u64 (x : Int)) := (hb46.cell (by rw [add_block]; exact HCA.out)).trans HCW.out
          have mN := MN.out w6 hb46
          have HB6 := keep hb46
          have HKA6 := keep (show Ks w4.heap.size w6 va tl from own_kept HKA.out (fun k hk => hb6.block k (own_lt HKA.out hk)))
          have HKM := keep hkm
          have HR6 := keep ((HR1.out.kept HB5'.out).kept hb6)
          clear mR hcw5 hb6 hb46 hkm HKA HR1 HR2 HB5'
          go_wp2_with fail
          refine mN.mono ?_
          rintro _ w7 ⟨⟨vk, rfl, hkk⟩, hb7⟩
          have e1 : ((nx : Int) != (nx : Int)) = false := by simp
          have hka7 : Ks w4.heap.size w7 va tl := own_kept HKA6.out (fun k hk => hb7.block k (own_lt HKA6.out hk))
          have hkm7 : Ks w5.heap.size w7 vm tl := own_kept HKM.out (fun k hk => hb7.block k (own_lt HKM.out hk))
          have E1 := keep (same_any w7 va vm tl hka7.rd hkm7.rd)
          have HB7 := keep hb7
          have HKK := keep hkk
          have HKM7 := keep hkm7
          clear mN hcw6 hb7 hkk hka7 hkm7
          go_wp2_with fail
          refine E1.out.mono ?_
          rintro _ w8 ⟨rfl, hb8⟩
          have hkk8 : Ks w6.heap.size w8 vk tl := own_kept HKK.out (fun k hk => hb8.block k (own_lt HKK.out hk))
          have hkm8 : Ks w5.heap.size w8 vm tl := own_kept HKM7.out (fun k hk => hb8.block k (own_lt HKM7.out hk))
          have E2 := keep (same_any w8 vk vm tl hkk8.rd hkm8.rd)
          have HB8 := keep (HB7.out.trans (hb8.mono HB7.out.size))
          have HKK8 := keep hkk8
          clear E1 hb8 hkk8 hkm8 HKK HKM7
          go_wp2_with fail
          refine E2.out.mono ?_
          rintro _ w9 ⟨rfl, hb9⟩
          have hkk9 : Ks w6.heap.size w9 vk tl := own_kept HKK8.out (fun k hk => hb9.block k (own_lt HKK8.out hk))
          obtain ⟨ok, ck, hvk⟩ := hkk9.len'
          obtain ⟨T, hT⟩ : ∃ T, T = tl.length := ⟨_, rfl⟩
          rw [← hT] at hvk
          subst hvk
          have HT := keep hT
          have HKK9 := keep hkk9
          have HB9 := keep (HB8.out.trans (hb9.mono HB8.out.size))
          have Tb : (T : Int) ≤ 4194304 := by have := HTL.out; omega
          clear E2 hb9 hkk9 HKK8 hT e1 HB7 HB8
          go_wp2
          go_loopw [20] (fun i wq => ∃ j : Nat, j ≤ T ∧ i = .int .i64 j ∧ ∃ xs : List ByteArray, Kept (xs.length = T) ∧ Kept (Ks w6.heap.size wq (.slice ok T ck) xs) ∧ Kept (Below w6.heap.size w9 wq)) (fun i _ => T - (intOf i).toNat)
          case atStart => exact ⟨0, Nat.zero_le _, rfl, tl, HT.out.symm, HKK9, Below.refl _ _⟩
          case round =>
            obtain ⟨j, hj, rfl, xs, KX, KK, KB⟩ := hrel
            by_cases hltj : j < T
            · have hzj : (j : Int) < (T : Int) := by omega
              have hzj0 : (0 : Int) ≤ (j : Int) := by omega
              obtain ⟨g, rfl, hgb, ⟨u, hu⟩, hfz, hks⟩ := ks_set KK.out j hltj ⟨#[63, 33]⟩
              have KK2 := keep hks
              have KB2 := keep (KB.out.setCell (p := ⟨g, j, none⟩) hgb (.string ⟨#[63, 33]⟩))
              have KX2 : Kept ((xs.set j ⟨#[63, 33]⟩).length = T) := by show _ = _; rw [List.length_set]; exact KX.out
              clear hks KK KB KX hgb
              go_wp2
              go_roundw
              case measure => simp [intOf]; omega
              case rel => exact ⟨j + 1, by omega, by go_num, _, KX2, KK2, KB2⟩
            · have hzj : ¬ (j : Int) < (T : Int) := by omega
              obtain ⟨w10, hw10⟩ : ∃ x, x = wr := ⟨_, rfl⟩
              subst hw10
              clear HKK9
              go_wp2
              go_loopw [19, 21] (fun u i wq => ∃ m : Nat, m ≤ 20 ∧ i = .int .i64 m ∧ ∃ ys : List ByteArray, Kept (ys.length = T + m) ∧ Kept (Ks w6.heap.size wq u ys) ∧ Kept (Below w6.heap.size w9 wq)) (fun _ i _ => 20 - (intOf i).toNat)
              case atStart => exact ⟨0, Nat.zero_le _, rfl, xs, KX, KK, KB⟩
              case round =>
                clear KX KK KB
                obtain ⟨m, hm, rfl, ys, KX, KK, KB⟩ := hrel
                obtain ⟨oq, cq, hu⟩ := KK.out.len'
                rw [KX.out] at hu
                by_cases hltm : m < 20
                · have hzm : (m : Int) < 20 := by omega
                  have hw69 := HB9.out.size
                  obtain ⟨v', w', r1, r2, r3⟩ := app_one w6.heap.size wr _ ys ⟨#[33, 63]⟩ KK.out (Nat.le_trans hw69 KB.out.size) (by have := KX.out; omega)
                  have R2 := keep r2
                  have R3 := keep (KB.out.trans r3)
                  have RX : Kept ((ys ++ [(⟨#[33, 63]⟩ : ByteArray)]).length = T + (m + 1)) := by show _ = _; rw [List.length_append, KX.out]; rfl
                  rw [hu] at r1
                  have R1 := keep r1
                  subst hu
                  generalize T + m = Tm at *
                  clear r1 r2 r3 KX KK KB hw69
                  go_wp2_with (first | (at_builtin; refine wpList_app_run rfl _ _ _ rfl _ _ _ rfl rfl R1.out ?_))
                  go_roundw
                  case measure => simp [intOf]; omega
                  case rel => exact ⟨m + 1, by omega, by go_num, _, RX, R2, R3⟩
                · obtain rfl : m = 20 := by omega
                  have hzm : ¬ ((20 : Nat) : Int) < 20 := by omega
                  obtain ⟨w11, hw11⟩ : ∃ x, x = wr := ⟨_, rfl⟩
                  subst hw11
                  have hbk := HB9.out.trans KB.out
                  have hbw := HB6.out.trans (hbk.mono HB6.out.size)
                  have mT := MT.out w11 hbw
                  have HBK := keep hbk
                  have HBW := keep hbw
                  obtain ⟨Tm, hTm⟩ : ∃ t, t = T + 20 := ⟨_, rfl⟩
                  rw [← hTm] at hu
                  subst hu
                  have hTm1 : decide ((Tm : Int) < 20) = false := decide_eq_false (by omega)
                  clear hTm KX KK KB hbk hbw MT MN MR
                  go_wp2_with fail
                  refine mT.mono ?_
                  rintro _ w12 ⟨⟨y1, y2, rfl, hs1, hs2⟩, hb12⟩
                  have hsz : w6.heap.size ≤ w11.heap.size := HBK.out.size
                  have hb612 := HBK.out.trans (hb12.mono hsz)
                  have hka : Ks w4.heap.size w12 va tl := own_kept HKA6.out (fun k hk => hb612.block k (own_lt HKA6.out hk))
                  have hkm : Ks w5.heap.size w12 vm tl := own_kept HKM.out (fun k hk => hb612.block k (own_lt HKM.out hk))
                  have E3 := keep (same_any w12 va vm tl hka.rd hkm.rd)
                  obtain ⟨p1, d1, hy1⟩ := hs1.form
                  obtain ⟨p2, d2, hy2⟩ := hs2.form
                  subst hy1 hy2
                  have HS1 := keep hs1
                  have HR12 := keep (show Rr w3.heap.size w12 (.slice o1 X.length c1) X from HR6.out.kept hb612)
                  have HB12 := keep (HBW.out.trans (hb12.mono HBW.out.size))
                  have ex : ((X.length : Int) != (X.length : Int)) = false := by simp
                  have ey : ((Y.length : Int) != (Y.length : Int)) = false := by simp
                  clear mT hs1 hs2 hka hkm hb612 hsz hb12 HKA6 HKM HR6 HBK HBW
                  go_wp2_with fail
                  refine E3.out.mono ?_
                  rintro _ w13 ⟨rfl, hb13⟩
                  have HS13 := keep (HS1.out.kept hb13)
                  have HR13 := keep (HR12.out.kept hb13)
                  have HB13 := keep (HB12.out.trans (hb13.mono HB12.out.size))
                  clear E3 hb13 HS1 HR12 HB12
                  obtain ⟨n, hn⟩ : ∃ n, n = X.length := ⟨_, rfl⟩
                  rw [← hn] at HS13 HR13 hXb
                  rw [← hn]
                  have HXN := keep hn
                  clear hn ex ey
                  go_wp2
                  go_loopw [24] (fun i wq => ∃ j : Nat, j ≤ n ∧ i = .int .i64 j ∧ Kept (Below w13.heap.size w13 wq)) (fun i _ => n - (intOf i).toNat)
                  case atStart => exact ⟨0, Nat.zero_le _, rfl, Below.refl _ _⟩
                  case round =>
                    obtain ⟨q, hq, rfl, KB⟩ := hrel
                    by_cases hltq : q < n
                    · have hzq : (q : Int) < (n : Int) := by omega
                      have hzq0 : (0 : Int) ≤ (q : Int) := by omega
                      obtain ⟨xs', hxs⟩ : ∃ x, X[q]? = some x := ⟨_, List.getElem?_eq_getElem (by rw [← HXN.out]; exact hltq)⟩
                      obtain ⟨g1, u1, n1, e1, rfl, k1, kk1⟩ := (HR13.out.kept KB.out).at hxs
                      obtain ⟨g2, u2, n2, e2, rfl, k2, kk2⟩ := (HS13.out.kept KB.out).at hxs
                      have hb0 : Below wr.heap.size wr wr.drew := (Below.refl wr.heap.size wr).drew
                      have E4 := keep (same_any wr.drew _ _ xs' (kk1.rd.below hb0) (kk2.rd.below hb0))
                      have K1 : wr.drew.cell? ⟨g1, q, none⟩ = some (.slice (some ⟨u1, 0, none⟩) n1 e1) := by simpa using k1
                      have K2 : wr.drew.cell? ⟨g2, q, none⟩ = some (.slice (some ⟨u2, 0, none⟩) n2 e2) := by simpa using k2
                      have L1 := keep (lt_cell K1)
                      have L2 := keep (lt_cell K2)
                      clear kk1 kk2 hxs k1 k2
                      go_wp2_with fail
                      refine wp_region_held_drew (S := fun W => W.cell? ⟨g1, q, none⟩ = some (.slice (some ⟨u1, 0, none⟩) n1 e1) ∧ W.cell? ⟨g2, q, none⟩ = some (.slice (some ⟨u2, 0, none⟩) n2 e2)) (by kernel_rfl) ⟨K1, K2⟩ (fun hHeld => ?_)
                      refine wpAnyH_take (i := 0) (oi := { dst := some 163, op := _, type := _, pos := _, after := _, guard := _ }) (v := ?v1) rfl (by kernel_rfl) (by kernel_rfl) (by kernel_rfl) (fun _ _ _ h => h) (Or.inl ⟨by rfl, ?hy1⟩) (by assumption) ?rest1
                      case hy1 => (intro w hSw; obtain ⟨q1,q2⟩ := hSw; go_simp; try with_reducible rfl)
                      try simp only [Act.put, List.setIfInBounds_toArray, List.set_cons_zero, List.set_cons_succ]
                      refine wpAnyH_take (i := 1) (oi := { dst := some 164, op := _, type := _, pos := _, after := _, guard := _ }) (v := ?v2) rfl (by kernel_rfl) (by kernel_rfl) (by kernel_rfl) (fun _ _ _ h => h) (Or.inl ⟨by rfl, ?hy2⟩) (by assumption) ?rest2
                      case hy2 => (intro w hSw; obtain ⟨q1,q2⟩ := hSw; go_simp; try with_reducible rfl)
                      try simp only [Act.put, List.setIfInBounds_toArray, List.set_cons_zero, List.set_cons_succ]
                      refine wpAnyH_take (i := 2) (oi := { dst := some 165, op := _, type := _, pos := _, after := _, guard := _ }) (v := ?v3) rfl (by kernel_rfl) (by kernel_rfl) (by kernel_rfl) (fun _ _ _ h => h) (Or.inl ⟨by rfl, ?hy3⟩) (by assumption) ?rest3
                      case hy3 => (intro w hSw; obtain ⟨q1,q2⟩ := hSw; go_simp; try with_reducible rfl)
                      try simp only [Act.put, List.setIfInBounds_toArray, List.set_cons_zero, List.set_cons_succ]
                      refine wpAnyH_take (i := 3) (oi := { dst := some 166, op := _, type := _, pos := _, after := _, guard := _ }) (v := ?v4) rfl (by kernel_rfl) (by kernel_rfl) (by kernel_rfl) (fun _ _ _ h => h) (Or.inl ⟨by rfl, ?hy4⟩) (by assumption) ?rest4
                      case hy4 => (intro w hSw; obtain ⟨q1,q2⟩ := hSw; go_simp; try with_reducible rfl)
                      try simp only [Act.put, List.setIfInBounds_toArray, List.set_cons_zero, List.set_cons_succ]
                      refine wpAnyH_take (i := 4) (oi := { dst := some 167, op := _, type := _, pos := _, after := _, guard := _ }) (v := ?v5) rfl (by kernel_rfl) (by kernel_rfl) (by kernel_rfl) (fun _ _ _ h => h) (Or.inl ⟨by rfl, ?hy5⟩) (by assumption) ?rest5
                      case hy5 => (intro w hSw; obtain ⟨q1,q2⟩ := hSw; go_simp; try with_reducible rfl)
                      try simp only [Act.put, List.setIfInBounds_toArray, List.set_cons_zero, List.set_cons_succ]
                      refine wpAnyH_take (i := 5) (oi := { dst := some 168, op := _, type := _, pos := _, after := _, guard := _ }) (v := ?v6) rfl (by kernel_rfl) (by kernel_rfl) (by kernel_rfl) (fun _ _ _ h => h) (Or.inl ⟨by rfl, ?hy6⟩) (by assumption) ?rest6
                      case hy6 => (intro w hSw; obtain ⟨q1,q2⟩ := hSw; go_simp; try with_reducible rfl)
                      try simp only [Act.put, List.setIfInBounds_toArray, List.set_cons_zero, List.set_cons_succ]
                      refine wpAnyH_take (i := 6) (oi := { dst := some 169, op := _, type := _, pos := _, after := _, guard := _ }) (v := ?v7) rfl (by kernel_rfl) (by kernel_rfl) (by kernel_rfl) (fun _ _ _ h => h) (Or.inl ⟨by rfl, ?hy7⟩) (by assumption) ?rest7
                      case hy7 => (intro w hSw; obtain ⟨q1,q2⟩ := hSw; go_simp; try with_reducible rfl)
                      try simp only [Act.put, List.setIfInBounds_toArray, List.set_cons_zero, List.set_cons_succ]
                      refine wpAnyH_take (i := 7) (oi := { dst := some 170, op := _, type := _, pos := _, after := _, guard := _ }) (v := ?v8) rfl (by kernel_rfl) (by kernel_rfl) (by kernel_rfl) (fun _ _ _ h => h) (Or.inl ⟨by rfl, ?hy8⟩) (by assumption) ?rest8
                      case hy8 => (intro w hSw; obtain ⟨q1,q2⟩ := hSw; go_simp; try with_reducible rfl)
                      try simp only [Act.put, List.setIfInBounds_toArray, List.set_cons_zero, List.set_cons_succ]
                      refine wpAnyH_ready (rs := [8]) (by kernel_rfl) (by simp) ?_
                      refine AllReadyH.cons (o := { dst := some 171, op := _, type := _, pos := _, after := _, guard := _ }) rfl (fun K hK => ?_) AllReadyH.nil
                      go_simp
                      refine E4.out.mono ?_
                      rintro _ w14 ⟨rfl, hb14⟩
                      refine hK.out _ _ ⟨(hb14.cell (p := ⟨g1, q, none⟩) L1.out).trans K1, (hb14.cell (p := ⟨g2, q, none⟩) L2.out).trans K2⟩ (fun hHeld => ?_)
                      try simp only [Act.put, List.setIfInBounds_toArray, List.set_cons_zero, List.set_cons_succ]
                      have KB2 := keep (KB.out.trans ((hb0.trans (hb14.mono hb0.size)).mono KB.out.size))
                      clear hK E4 hb14 hb0 K1 K2 L1 L2 KB
                      refine wpAnyH_take (i := 9) (oi := { dst := some 172, op := _, type := _, pos := _, after := _, guard := _ }) (v := (.bool false)) rfl (by kernel_rfl) (by kernel_rfl) (by kernel_rfl) (fun _ _ _ h => h) (Or.inl ⟨by rfl, ?hy9⟩) (by assumption) ?rest9
                      case hy9 => (intro w hSw; first | (go_simp; done) | (go_simp; simp [*]; done) | (simp [*]; go_simp; done))
                      try simp only [Act.put, List.setIfInBounds_toArray, List.set_cons_zero, List.set_cons_succ]
                      refine wpAnyH_done (by kernel_rfl) ?_ _
                      clear hHeld
                      go_wp2
                      exact ⟨⟨q + 1, by omega, by go_num, KB2⟩, by simp [intOf]; omega⟩
                    · have hzq : ¬ (q : Int) < (n : Int) := by omega
                      have SCE := keep (SC3.out.below (HB13.out.trans (KB.out.mono HB13.out.size)))
                      go_wp2
                      exact ⟨⟨k + 1, by omega, by go_num, r', s', SCE⟩, by simp [intOf]; omega⟩
        · have hki1 : ¬ (k : Int) < (Lk : Int) := by omega
          obtain ⟨wo, hwo⟩ : ∃ x, x = wr := ⟨_, rfl⟩
          subst hwo
          have hN3 : k + 1 ≤ 1048576 := by have := HN.out; omega
          have hol : s'.old.length ≤ 2 * (k + 1) + 4 := SC3.out.1.2.2.2.2.1
          have hyl : s'.young.length ≤ 2 * (k + 1) + 4 := SC3.out.1.2.2.2.2.2
          obtain ⟨nx, tl, htl, N1, N2⟩ := nexts w3 r' b seed (k + 1) s' SC3.out.1 (by omega) x HX.out 10
          have hFw := few_of SC3.out.1.2 (by omega)
          have MT := keep fun (w : World) (hb : Below w3.heap.size w3 w) => tabs_any w r' b seed _ s' (SC3.out.1.below hb).1 hFw (by omega) (by omega)
          have MN := keep N1
          have MR := keep N2
          have HTL := keep (show tl.length ≤ 4194304 by omega)
          have hXl : (s'.old.map Dc.keys).length ≤ 4194304 := by rw [List.length_map]; omega
          generalize s'.old.map Dc.keys = X at MT MR hXl
          have hXb : (X.length : Int) ≤ 4194304 := by omega
          clear hXl
          generalize s'.young.map Dc.keys = Y at MT MR
          clear N1 N2 htl hFw hol hyl hN3
          have mT := MT.out w3 (Below.refl _ _)
          go_wp2_with fail
          refine mT.mono ?_
          rintro _ w4 ⟨⟨v1, v2, rfl, hr1, hr2⟩, hb4⟩
          have HR1 := keep hr1
          have HR2 := keep hr2
          have HB4 := keep hb4
          have hca : ca.block < w3.heap.size := Nat.lt_of_lt_of_le hcb SC3.out.2.1.size
          have hcw4 : w4.cell? (ca.add k) = some (.int .u64 (x : Int)) := (hb4.cell (by rw [add_block]; exact hca)).trans hcw
          have HCW := keep hcw
          have HCA := keep hca
          have mN := MN.out w4 hb4
          obtain ⟨o1, c1, hv1⟩ := hr1.form
          obtain ⟨o2, c2, hv2⟩ := hr2.form
          subst hv1 hv2
          clear mT hr1 hr2 hb4 hcw hca hcb
          go_wp2_with fail
          refine mN.mono ?_
          rintro _ w5 ⟨⟨va, rfl, hka⟩, hb5⟩
          have hb45 := HB4.out.trans (hb5.mono HB4.out.size)
          have hcw5 : w5.cell? (ca.add k) = some (.int .u64 (x : Int)) := (hb45.cell (by rw [add_block]; exact HCA.out)).trans HCW.out
          have mR := MR.out w5 w3.heap.size _ _ (HR1.out.kept hb5) (HR2.out.kept hb5)
          have HB5 := keep hb45
          have HB5' := keep hb5
          have HKA := keep hka
          clear mN hcw4 hb5 hb45 hka
          go_wp2_with fail
          refine mR.mono ?_
          rintro _ w6 ⟨⟨vm, rfl, hkm⟩, hb6⟩
          have hb46 := HB5.out.trans (hb6.mono HB5.out.size)
          have hcw6 : w6.cell? (ca.add k) = some (.int .u64 (x : Int)) := (hb46.cell (by rw [add_block]; exact HCA.out)).trans HCW.out
          have mN := MN.out w6 hb46
          have HB6 := keep hb46
          have HKA6 := keep (show Ks w4.heap.size w6 va tl from own_kept HKA.out (fun k hk => hb6.block k (own_lt HKA.out hk)))
          have HKM := keep hkm
          have HR6 := keep ((HR1.out.kept HB5'.out).kept hb6)
          clear mR hcw5 hb6 hb46 hkm HKA HR1 HR2 HB5'
          go_wp2_with fail
          refine mN.mono ?_
          rintro _ w7 ⟨⟨vk, rfl, hkk⟩, hb7⟩
          have e1 : ((nx : Int) != (nx : Int)) = false := by simp
          have hka7 : Ks w4.heap.size w7 va tl := own_kept HKA6.out (fun k hk => hb7.block k (own_lt HKA6.out hk))
          have hkm7 : Ks w5.heap.size w7 vm tl := own_kept HKM.out (fun k hk => hb7.block k (own_lt HKM.out hk))
          have E1 := keep (same_any w7 va vm tl hka7.rd hkm7.rd)
          have HB7 := keep hb7
          have HKK := keep hkk
          have HKM7 := keep hkm7
          clear mN hcw6 hb7 hkk hka7 hkm7
          go_wp2_with fail
          refine E1.out.mono ?_
          rintro _ w8 ⟨rfl, hb8⟩
          have hkk8 : Ks w6.heap.size w8 vk tl := own_kept HKK.out (fun k hk => hb8.block k (own_lt HKK.out hk))
          have hkm8 : Ks w5.heap.size w8 vm tl := own_kept HKM7.out (fun k hk => hb8.block k (own_lt HKM7.out hk))
          have E2 := keep (same_any w8 vk vm tl hkk8.rd hkm8.rd)
          have HB8 := keep (HB7.out.trans (hb8.mono HB7.out.size))
          have HKK8 := keep hkk8
          clear E1 hb8 hkk8 hkm8 HKK HKM7
          go_wp2_with fail
          refine E2.out.mono ?_
          rintro _ w9 ⟨rfl, hb9⟩
          have hkk9 : Ks w6.heap.size w9 vk tl := own_kept HKK8.out (fun k hk => hb9.block k (own_lt HKK8.out hk))
          obtain ⟨ok, ck, hvk⟩ := hkk9.len'
          obtain ⟨T, hT⟩ : ∃ T, T = tl.length := ⟨_, rfl⟩
          rw [← hT] at hvk
          subst hvk
          have HT := keep hT
          have HKK9 := keep hkk9
          have HB9 := keep (HB8.out.trans (hb9.mono HB8.out.size))
          have Tb : (T : Int) ≤ 4194304 := by have := HTL.out; omega
          clear E2 hb9 hkk9 HKK8 hT e1 HB7 HB8
          go_wp2
          go_loopw [20] (fun i wq => ∃ j : Nat, j ≤ T ∧ i = .int .i64 j ∧ ∃ xs : List ByteArray, Kept (xs.length = T) ∧ Kept (Ks w6.heap.size wq (.slice ok T ck) xs) ∧ Kept (Below w6.heap.size w9 wq)) (fun i _ => T - (intOf i).toNat)
          case atStart => exact ⟨0, Nat.zero_le _, rfl, tl, HT.out.symm, HKK9, Below.refl _ _⟩
          case round =>
            obtain ⟨j, hj, rfl, xs, KX, KK, KB⟩ := hrel
            by_cases hltj : j < T
            · have hzj : (j : Int) < (T : Int) := by omega
              have hzj0 : (0 : Int) ≤ (j : Int) := by omega
              obtain ⟨g, rfl, hgb, ⟨u, hu⟩, hfz, hks⟩ := ks_set KK.out j hltj ⟨#[63, 33]⟩
              have KK2 := keep hks
              have KB2 := keep (KB.out.setCell (p := ⟨g, j, none⟩) hgb (.string ⟨#[63, 33]⟩))
              have KX2 : Kept ((xs.set j ⟨#[63, 33]⟩).length = T) := by show _ = _; rw [List.length_set]; exact KX.out
              clear hks KK KB KX hgb
              go_wp2
              go_roundw
              case measure => simp [intOf]; omega
              case rel => exact ⟨j + 1, by omega, by go_num, _, KX2, KK2, KB2⟩
            · have hzj : ¬ (j : Int) < (T : Int) := by omega
              obtain ⟨w10, hw10⟩ : ∃ x, x = wr := ⟨_, rfl⟩
              subst hw10
              clear HKK9
              go_wp2
              go_loopw [19, 21] (fun u i wq => ∃ m : Nat, m ≤ 20 ∧ i = .int .i64 m ∧ ∃ ys : List ByteArray, Kept (ys.length = T + m) ∧ Kept (Ks w6.heap.size wq u ys) ∧ Kept (Below w6.heap.size w9 wq)) (fun _ i _ => 20 - (intOf i).toNat)
              case atStart => exact ⟨0, Nat.zero_le _, rfl, xs, KX, KK, KB⟩
              case round =>
                clear KX KK KB
                obtain ⟨m, hm, rfl, ys, KX, KK, KB⟩ := hrel
                obtain ⟨oq, cq, hu⟩ := KK.out.len'
                rw [KX.out] at hu
                by_cases hltm : m < 20
                · have hzm : (m : Int) < 20 := by omega
                  have hw69 := HB9.out.size
                  obtain ⟨v', w', r1, r2, r3⟩ := app_one w6.heap.size wr _ ys ⟨#[33, 63]⟩ KK.out (Nat.le_trans hw69 KB.out.size) (by have := KX.out; omega)
                  have R2 := keep r2
                  have R3 := keep (KB.out.trans r3)
                  have RX : Kept ((ys ++ [(⟨#[33, 63]⟩ : ByteArray)]).length = T + (m + 1)) := by show _ = _; rw [List.length_append, KX.out]; rfl
                  rw [hu] at r1
                  have R1 := keep r1
                  subst hu
                  generalize T + m = Tm at *
                  clear r1 r2 r3 KX KK KB hw69
                  go_wp2_with (first | (at_builtin; refine wpList_app_run rfl _ _ _ rfl _ _ _ rfl rfl R1.out ?_))
                  go_roundw
                  case measure => simp [intOf]; omega
                  case rel => exact ⟨m + 1, by omega, by go_num, _, RX, R2, R3⟩
                · obtain rfl : m = 20 := by omega
                  have hzm : ¬ ((20 : Nat) : Int) < 20 := by omega
                  obtain ⟨w11, hw11⟩ : ∃ x, x = wr := ⟨_, rfl⟩
                  subst hw11
                  have hbk := HB9.out.trans KB.out
                  have hbw := HB6.out.trans (hbk.mono HB6.out.size)
                  have mT := MT.out w11 hbw
                  have HBK := keep hbk
                  have HBW := keep hbw
                  obtain ⟨Tm, hTm⟩ : ∃ t, t = T + 20 := ⟨_, rfl⟩
                  rw [← hTm] at hu
                  subst hu
                  have hTm1 : decide ((Tm : Int) < 20) = false := decide_eq_false (by omega)
                  clear hTm KX KK KB hbk hbw MT MN MR
                  go_wp2_with fail
                  refine mT.mono ?_
                  rintro _ w12 ⟨⟨y1, y2, rfl, hs1, hs2⟩, hb12⟩
                  have hsz : w6.heap.size ≤ w11.heap.size := HBK.out.size
                  have hb612 := HBK.out.trans (hb12.mono hsz)
                  have hka : Ks w4.heap.size w12 va tl := own_kept HKA6.out (fun k hk => hb612.block k (own_lt HKA6.out hk))
                  have hkm : Ks w5.heap.size w12 vm tl := own_kept HKM.out (fun k hk => hb612.block k (own_lt HKM.out hk))
                  have E3 := keep (same_any w12 va vm tl hka.rd hkm.rd)
                  obtain ⟨p1, d1, hy1⟩ := hs1.form
                  obtain ⟨p2, d2, hy2⟩ := hs2.form
                  subst hy1 hy2
                  have HS1 := keep hs1
                  have HR12 := keep (show Rr w3.heap.size w12 (.slice o1 X.length c1) X from HR6.out.kept hb612)
                  have HB12 := keep (HBW.out.trans (hb12.mono HBW.out.size))
                  have ex : ((X.length : Int) != (X.length : Int)) = false := by simp
                  have ey : ((Y.length : Int) != (Y.length : Int)) = false := by simp
                  clear mT hs1 hs2 hka hkm hb612 hsz hb12 HKA6 HKM HR6 HBK HBW
                  go_wp2_with fail
                  refine E3.out.mono ?_
                  rintro _ w13 ⟨rfl, hb13⟩
                  have HS13 := keep (HS1.out.kept hb13)
                  have HR13 := keep (HR12.out.kept hb13)
                  have HB13 := keep (HB12.out.trans (hb13.mono HB12.out.size))
                  clear E3 hb13 HS1 HR12 HB12
                  obtain ⟨n, hn⟩ : ∃ n, n = X.length := ⟨_, rfl⟩
                  rw [← hn] at HS13 HR13 hXb
                  rw [← hn]
                  have HXN := keep hn
                  clear hn ex ey
                  go_wp2
                  go_loopw [24] (fun i wq => ∃ j : Nat, j ≤ n ∧ i = .int .i64 j ∧ Kept (Below w13.heap.size w13 wq)) (fun i _ => n - (intOf i).toNat)
                  case atStart => exact ⟨0, Nat.zero_le _, rfl, Below.refl _ _⟩
                  case round =>
                    obtain ⟨q, hq, rfl, KB⟩ := hrel
                    by_cases hltq : q < n
                    · have hzq : (q : Int) < (n : Int) := by omega
                      have hzq0 : (0 : Int) ≤ (q : Int) := by omega
                      obtain ⟨xs', hxs⟩ : ∃ x, X[q]? = some x := ⟨_, List.getElem?_eq_getElem (by rw [← HXN.out]; exact hltq)⟩
                      obtain ⟨g1, u1, n1, e1, rfl, k1, kk1⟩ := (HR13.out.kept KB.out).at hxs
                      obtain ⟨g2, u2, n2, e2, rfl, k2, kk2⟩ := (HS13.out.kept KB.out).at hxs
                      have hb0 : Below wr.heap.size wr wr.drew := (Below.refl wr.heap.size wr).drew
                      have E4 := keep (same_any wr.drew _ _ xs' (kk1.rd.below hb0) (kk2.rd.below hb0))
                      have K1 : wr.drew.cell? ⟨g1, q, none⟩ = some (.slice (some ⟨u1, 0, none⟩) n1 e1) := by simpa using k1
                      have K2 : wr.drew.cell? ⟨g2, q, none⟩ = some (.slice (some ⟨u2, 0, none⟩) n2 e2) := by simpa using k2
                      have L1 := keep (lt_cell K1)
                      have L2 := keep (lt_cell K2)
                      clear kk1 kk2 hxs k1 k2
                      go_wp2_with fail
                      refine wp_region_held_drew (S := fun W => W.cell? ⟨g1, q, none⟩ = some (.slice (some ⟨u1, 0, none⟩) n1 e1) ∧ W.cell? ⟨g2, q, none⟩ = some (.slice (some ⟨u2, 0, none⟩) n2 e2)) (by kernel_rfl) ⟨K1, K2⟩ (fun hHeld => ?_)
                      refine wpAnyH_take (i := 0) (oi := { dst := some 163, op := _, type := _, pos := _, after := _, guard := _ }) (v := ?v10) rfl (by kernel_rfl) (by kernel_rfl) (by kernel_rfl) (fun _ _ _ h => h) (Or.inl ⟨by rfl, ?hy10⟩) (by assumption) ?rest10
                      case hy10 => (intro w hSw; obtain ⟨q1,q2⟩ := hSw; go_simp; try with_reducible rfl)
                      try simp only [Act.put, List.setIfInBounds_toArray, List.set_cons_zero, List.set_cons_succ]
                      refine wpAnyH_take (i := 1) (oi := { dst := some 164, op := _, type := _, pos := _, after := _, guard := _ }) (v := ?v11) rfl (by kernel_rfl) (by kernel_rfl) (by kernel_rfl) (fun _ _ _ h => h) (Or.inl ⟨by rfl, ?hy11⟩) (by assumption) ?rest11
                      case hy11 => (intro w hSw; obtain ⟨q1,q2⟩ := hSw; go_simp; try with_reducible rfl)
                      try simp only [Act.put, List.setIfInBounds_toArray, List.set_cons_zero, List.set_cons_succ]
                      refine wpAnyH_take (i := 2) (oi := { dst := some 165, op := _, type := _, pos := _, after := _, guard := _ }) (v := ?v12) rfl (by kernel_rfl) (by kernel_rfl) (by kernel_rfl) (fun _ _ _ h => h) (Or.inl ⟨by rfl, ?hy12⟩) (by assumption) ?rest12
                      case hy12 => (intro w hSw; obtain ⟨q1,q2⟩ := hSw; go_simp; try with_reducible rfl)
                      try simp only [Act.put, List.setIfInBounds_toArray, List.set_cons_zero, List.set_cons_succ]
                      refine wpAnyH_take (i := 3) (oi := { dst := some 166, op := _, type := _, pos := _, after := _, guard := _ }) (v := ?v13) rfl (by kernel_rfl) (by kernel_rfl) (by kernel_rfl) (fun _ _ _ h => h) (Or.inl ⟨by rfl, ?hy13⟩) (by assumption) ?rest13
                      case hy13 => (intro w hSw; obtain ⟨q1,q2⟩ := hSw; go_simp; try with_reducible rfl)
                      try simp only [Act.put, List.setIfInBounds_toArray, List.set_cons_zero, List.set_cons_succ]
                      refine wpAnyH_take (i := 4) (oi := { dst := some 167, op := _, type := _, pos := _, after := _, guard := _ }) (v := ?v14) rfl (by kernel_rfl) (by kernel_rfl) (by kernel_rfl) (fun _ _ _ h => h) (Or.inl ⟨by rfl, ?hy14⟩) (by assumption) ?rest14
                      case hy14 => (intro w hSw; obtain ⟨q1,q2⟩ := hSw; go_simp; try with_reducible rfl)
                      try simp only [Act.put, List.setIfInBounds_toArray, List.set_cons_zero, List.set_cons_succ]
                      refine wpAnyH_take (i := 5) (oi := { dst := some 168, op := _, type := _, pos := _, after := _, guard := _ }) (v := ?v15) rfl (by kernel_rfl) (by kernel_rfl) (by kernel_rfl) (fun _ _ _ h => h) (Or.inl ⟨by rfl, ?hy15⟩) (by assumption) ?rest15
                      case hy15 => (intro w hSw; obtain ⟨q1,q2⟩ := hSw; go_simp; try with_reducible rfl)
                      try simp only [Act.put, List.setIfInBounds_toArray, List.set_cons_zero, List.set_cons_succ]
                      refine wpAnyH_take (i := 6) (oi := { dst := some 169, op := _, type := _, pos := _, after := _, guard := _ }) (v := ?v16) rfl (by kernel_rfl) (by kernel_rfl) (by kernel_rfl) (fun _ _ _ h => h) (Or.inl ⟨by rfl, ?hy16⟩) (by assumption) ?rest16
                      case hy16 => (intro w hSw; obtain ⟨q1,q2⟩ := hSw; go_simp; try with_reducible rfl)
                      try simp only [Act.put, List.setIfInBounds_toArray, List.set_cons_zero, List.set_cons_succ]
                      refine wpAnyH_take (i := 7) (oi := { dst := some 170, op := _, type := _, pos := _, after := _, guard := _ }) (v := ?v17) rfl (by kernel_rfl) (by kernel_rfl) (by kernel_rfl) (fun _ _ _ h => h) (Or.inl ⟨by rfl, ?hy17⟩) (by assumption) ?rest17
                      case hy17 => (intro w hSw; obtain ⟨q1,q2⟩ := hSw; go_simp; try with_reducible rfl)
                      try simp only [Act.put, List.setIfInBounds_toArray, List.set_cons_zero, List.set_cons_succ]
                      refine wpAnyH_ready (rs := [8]) (by kernel_rfl) (by simp) ?_
                      refine AllReadyH.cons (o := { dst := some 171, op := _, type := _, pos := _, after := _, guard := _ }) rfl (fun K hK => ?_) AllReadyH.nil
                      go_simp
                      refine E4.out.mono ?_
                      rintro _ w14 ⟨rfl, hb14⟩
                      refine hK.out _ _ ⟨(hb14.cell (p := ⟨g1, q, none⟩) L1.out).trans K1, (hb14.cell (p := ⟨g2, q, none⟩) L2.out).trans K2⟩ (fun hHeld => ?_)
                      try simp only [Act.put, List.setIfInBounds_toArray, List.set_cons_zero, List.set_cons_succ]
                      have KB2 := keep (KB.out.trans ((hb0.trans (hb14.mono hb0.size)).mono KB.out.size))
                      clear hK E4 hb14 hb0 K1 K2 L1 L2 KB
                      refine wpAnyH_take (i := 9) (oi := { dst := some 172, op := _, type := _, pos := _, after := _, guard := _ }) (v := (.bool false)) rfl (by kernel_rfl) (by kernel_rfl) (by kernel_rfl) (fun _ _ _ h => h) (Or.inl ⟨by rfl, ?hy18⟩) (by assumption) ?rest18
                      case hy18 => (intro w hSw; first | (go_simp; done) | (go_simp; simp [*]; done) | (simp [*]; go_simp; done))
                      try simp only [Act.put, List.setIfInBounds_toArray, List.set_cons_zero, List.set_cons_succ]
                      refine wpAnyH_done (by kernel_rfl) ?_ _
                      clear hHeld
                      go_wp2
                      exact ⟨⟨q + 1, by omega, by go_num, KB2⟩, by simp [intOf]; omega⟩
                    · have hzq : ¬ (q : Int) < (n : Int) := by omega
                      have SCE := keep (SC3.out.below (HB13.out.trans (KB.out.mono HB13.out.size)))
                      go_wp2
                      exact ⟨⟨k + 1, by omega, by go_num, r', s', SCE⟩, by simp [intOf]; omega⟩
      · have hci1 : ¬ (k : Int) < (Lc : Int) := by omega
        go_wp2
        exact ⟨⟨k + 1, by omega, by go_num, r', s', SC3⟩, by simp [intOf]; omega⟩
    · have hltz : ¬ (k : Int) < (L : Int) := by omega
      go_wp2
      go_ret
      exact ⟨rfl, SK.out.2.1⟩
end Go.Proofs.Ytnkladifalnmnaa
