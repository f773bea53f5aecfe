/-
  The walk of ScanOnce: nothing changed between, each key is told just once.
-/
import Derived.Test.YtnkladifalnmnaaScanRest1
import Derived.Test.YtnkladifalnmnaaScanChange
import Derived.Test.YtnkladifalnmnaaScanWakes
import Derived.Deep.CutRange
namespace Go.Proofs.Ytnkladifalnmnaa
open Go.RowKit Go.Shelf
attribute [local go_sem] Oper.semAt_some
/-- a dict beside what the caller holds -/
def Sc (h : ByteArray → Nat) (N : Nat) (W w : World) (r : Roles) (b seed : Nat) (s : Sd) : Prop := Dd h N w r b seed s ∧ Below W.heap.size W w ∧ ∀ k, k < W.heap.size → r k = (0, 0)
theorem Sc.go {h : ByteArray → Nat} {N N' : Nat} {W w w' : World} {r r' : Roles} {b seed : Nat} {s s' : Sd} (c : Sc h N W w r b seed s) (hd : Dd h N' w' r' b seed s') (hf : Fr w r w' r') : Sc h N' W w' r' b seed s' :=
  ⟨hd, c.2.1.trans (hf.below c.2.1.size c.2.2), fun k hk => (hf.2.2 k (Nat.lt_of_lt_of_le hk c.2.1.size) (c.2.2 k hk)).2⟩
theorem Sc.below {h : ByteArray → Nat} {N : Nat} {W w w' : World} {r : Roles} {b seed : Nat} {s : Sd} (c : Sc h N W w r b seed s) (hb : Below w.heap.size w w') : Sc h N W w' r b seed s :=
  ⟨c.1.below hb, c.2.1.trans (hb.mono c.2.1.size), c.2.2⟩
theorem sc_new {h : ByteArray → Nat} {W w0 w1 : World} {seed N : Nat} {s : Sd} (hb0 : Below W.heap.size W w0) (hb1 : Below w0.heap.size w0 w1) (hd : Dd h N w1 (fun k => if k = w0.heap.size then (5, 0) else (0, 0)) w0.heap.size seed s) : Sc h N W w1 (fun k => if k = w0.heap.size then (5, 0) else (0, 0)) w0.heap.size seed s :=
  ⟨hd, hb0.trans (hb1.mono hb0.size), fun k hk => by show (if k = w0.heap.size then _ else _) = _; rw [if_neg (by have := hb0.size; omega)]⟩
def alw : ByteArray := { data := #[97, 108, 119, 97, 121, 115] }
theorem alw_size : alw.size ≤ maxLen := by decide
theorem Rd.below {w w' : World} {v : Value} {xs : List ByteArray} (h : Rd w v xs) (hb : Below w.heap.size w w') : Rd w' v xs := by
  obtain ⟨ao, cap, e, hm, hx⟩ := h
  refine ⟨ao, cap, e, hm, hx.imp id ?_⟩
  rintro ⟨g, e2, hc⟩
  exact ⟨g, e2, fun m y hy => (hb.cell (p := ⟨g, m, none⟩) (lt_cellS (hc m y hy))).trans (hc m y hy)⟩
theorem Rd.cut {w : World} {g n cap : Nat} {xs : List ByteArray} (h : Rd w (.slice (some ⟨g, 0, none⟩) n cap) xs) {j : Nat} (hj : j ≤ xs.length) : Rd w (.slice (some ⟨g, 0, none⟩) j cap) (xs.take j) := by
  obtain ⟨ao, ca, e, hm, hx⟩ := h
  cases e
  have hl : (xs.take j).length = j := by rw [List.length_take]; omega
  refine ⟨some ⟨g, 0, none⟩, cap, by rw [hl], by rw [hl]; omega, ?_⟩
  rcases hx with rfl | ⟨g', e2, hc⟩
  · left; simp
  · cases e2
    exact .inr ⟨g, rfl, fun m y hy => hc m y (by
      have := List.getElem?_eq_some_iff.1 hy
      rw [List.getElem?_take] at hy
      split at hy
      · exact hy
      · cases hy)⟩
theorem most_pow {h : ByteArray → Nat} {s : Sd} (hI : Dc.Inv h s) (hA : s.old.length ≤ 4398046511104) (hB : s.young.length ≤ 4398046511104) : ∃ E, E ≤ 64 ∧ max (max s.old.length s.young.length) 1 = 2 ^ E := by
  by_cases h0 : s.old.length = 0
  · exact ⟨0, by omega, by rw [h0, (none_of hI h0).1]; rfl⟩
  · obtain ⟨A, d, hL, hM, hM0⟩ := Rv.lay_of hI h0 hA hB
    by_cases hy : 0 < s.young.length
    · exact ⟨A + d, by have := hL.few; omega, by rw [hM hy]; omega⟩
    · have hs := hL.small
      have hz : smN s = 0 := by unfold smN; rw [if_neg (fun e => hy e.1)]
      rw [hz] at hs
      have hs : s.old.length = 2 ^ A := hs
      exact ⟨A, by have := hL.few; omega, by rw [← hs]; omega⟩
theorem mix_is {M E cur high : Nat} (hE : E ≤ 64) (hM : M = 2 ^ E) (hh : high < 2 ^ 64) : cur % M < M ∧ high / M * M + cur % M < 2 ^ 64 ∧ (cur % M + high / M * M) % M = cur % M := by
  have hp : 0 < M := by rw [hM]; exact Nat.pow_pos (by omega)
  have h1 := Nat.mod_lt cur hp
  refine ⟨h1, ?_, ?_⟩
  · obtain ⟨q, hq⟩ : M ∣ 2 ^ 64 := by rw [hM]; exact Nat.pow_dvd_pow 2 hE
    rw [hq] at hh ⊢
    have h2 : high / M < q := by rw [Nat.div_lt_iff_lt_mul hp, Nat.mul_comm]; exact hh
    have h3 : (high / M + 1) * M ≤ q * M := Nat.mul_le_mul_right M h2
    rw [Nat.add_mul, Nat.one_mul] at h3
    rw [Nat.mul_comm M q]
    omega
  · rw [Nat.add_mul_mod_self_right, Nat.mod_mod]
theorem Rd.same {w w' : World} {v : Value} {xs : List ByteArray} (h : Rd w v xs) (hs : ∀ a, w'.cell? a = w.cell? a) : Rd w' v xs := by
  obtain ⟨ao, cap, e, hm, hx⟩ := h
  refine ⟨ao, cap, e, hm, hx.imp id ?_⟩
  rintro ⟨g, e2, hc⟩
  exact ⟨g, e2, fun m y hy => (hs _).trans (hc m y hy)⟩
theorem Rd.open {w : World} {ao : Option Addr} {n cap j : Nat} {xs : List ByteArray} {x : ByteArray} (h : Rd w (.slice ao n cap) xs) (hj : xs[j]? = some x) : ∃ g, ao = some ⟨g, 0, none⟩ ∧ w.cell? ⟨g, j, none⟩ = some (.string x) := by
  obtain ⟨ao', ca', e, _, hx⟩ := h
  cases e
  rcases hx with rfl | ⟨g, rfl, hc⟩
  · simp at hj
  · exact ⟨g, rfl, hc j x hj⟩
set_option maxRecDepth 100000 in
set_option maxHeartbeats 4000000 in
theorem once_walk {h : ByteArray → Nat} (W : World) (seed : Nat) (hH : HashIs seed h) (so : Option Addr) (cs : Nat) (S : List Cg) (hS : Cgs W so S) (hcap : S.length ≤ cs) (cnt : Int) (cur high : Nat) (hcur : cur < 2 ^ 64) (hhigh : high < 2 ^ 64) :
    Calls Try.prog 6 #[.int .u64 seed, .slice so S.length cs, .int .i64 cnt, .int .u64 cur, .int .u64 high] W fun e w' => e = .returned (.bool true) ∧ Below W.heap.size W w' := by
  have mF := fun w => few_any w so S.length cs hcap (fun h0 => by obtain ⟨a, e, _⟩ := hS 0 h0; exact ⟨a, e⟩)
  obtain ⟨L, hL⟩ : ∃ L, min S.length 1048576 = L := ⟨_, rfl⟩
  obtain ⟨L0, hL0⟩ : ∃ L, S.length = L := ⟨_, rfl⟩
  have hn : L ≤ 1048576 := by omega
  have hLS : L ≤ S.length := by omega
  rw [hL] at mF
  rw [hL0] at mF ⊢
  have HLS := keep hLS
  have HS := keep hS
  have MF := keep mF
  clear hL hS hL0 hLS hcap mF
  go_enter Try.func6, Try.ntmps6
  go_wp2_with fail
  refine (wakes_any _).mono ?_
  rintro _ w0 ⟨rfl, hb0⟩
  go_wp2_with fail
  refine (new_any h w0 seed 0).mono ?_
  rintro _ w1 ⟨rfl, hb1, hz1, hd1⟩
  have SC := keep (sc_new hb0 hb1 hd1)
  generalize (fun k => if k = w0.heap.size then (5, 0) else (0, 0) : Roles) = r0 at SC
  obtain ⟨b, hb⟩ : ∃ x, x = w0.heap.size := ⟨_, rfl⟩
  rw [← hb] at SC ⊢
  clear hb0 hb1 hz1 hd1 hb
  have mS := set_any hH w1 r0 b _ alw 1 SC.out.1 (by omega) alw_size
  go_wp2_with fail
  refine mS.mono ?_
  rintro _ w2 ⟨rfl, r2, hd2, hf2⟩
  have SC2 := keep (SC.out.go hd2 hf2)
  generalize (Dc.set h Dc.none0 alw (1 : Int)).1 = s2 at SC2
  clear mS hd2 hf2 SC
  have mF := MF.out w2
  clear MF
  go_wp2_with fail
  refine mF.mono ?_
  rintro _ w2' ⟨rfl, hw⟩
  subst hw
  clear mF
  go_wp2
  go_loopw [12] (fun i wr => ∃ k : Nat, k ≤ L ∧ i = .int .i64 k ∧ ∃ r s, Kept (Sc h (k + 1) W wr r b seed s)) (fun i _ => L - (intOf i).toNat)
  case atStart => exact ⟨0, Nat.zero_le _, rfl, r2, s2, SC2⟩
  case round =>
    clear SC2
    obtain ⟨k, hk, rfl, r, s, SK⟩ := hrel
    by_cases hlt : k < L
    · have hltz : (k : Int) < (L : Int) := by omega
      obtain ⟨a, rfl, hab, hky, hst0⟩ := HS.out k (by have := HLS.out; omega)
      have hst := hst0.bel SK.out.2.1 (by rw [add_block]; exact hab)
      clear hst0
      generalize S[k]'(by have := HLS.out; omega) = o at hst hky
      have mC := change_any hH wr r b s o SK.out.1 (by omega) hky
      obtain ⟨op, ky⟩ := o
      obtain ⟨t0, t1⟩ := hst
      dsimp only at t0 t1 mC
      go_wp2_with fail
      refine mC.mono ?_
      rintro _ w3 ⟨rfl, r', s', hd3, _, hf3⟩
      have SC3 := keep (SK.out.go hd3 hf3)
      clear mC hd3 hf3 SK t0 t1
      go_wp2
      go_roundw
      case measure => simp [intOf]; omega
      case rel => exact ⟨k + 1, by omega, by go_num, r', s', SC3⟩
    · have hltz : ¬ (k : Int) < (L : Int) := by omega
      obtain ⟨wo, hwo⟩ : ∃ x, x = wr := ⟨_, rfl⟩
      subst hwo
      clear HS HLS
      have hI := SK.out.1.2.1
      have hnd : (Dc.keys (Dc.all s)).Nodup := by rw [Dc.all_eq hI]; exact hI.nodup
      have hkn : (Dc.keys (Dc.all s)).length = (Dc.all s).length := by unfold Dc.keys; rw [List.length_map]
      have hal : (Dc.all s).length ≤ k + 1 := SK.out.1.2.2.2.1
      have hol : s.old.length ≤ 2 * (k + 1) + 4 := SK.out.1.2.2.2.2.1
      have hyl : s.young.length ≤ 2 * (k + 1) + 4 := SK.out.1.2.2.2.2.2
      have mK := keys_any wo r b seed (k + 1) s SK.out.1 (by omega)
      have RZ := keep (fun l (hr : Rs h s 0 l) => rs_zero hI hr)
      have ML := keep fun (w : World) (hb : Below wo.heap.size wo w) => len_any w r b seed _ s (SK.out.1.below hb).1
      have MR := keep fun (w : World) (hb : Below wo.heap.size wo w) => rest_any w r b seed (k + 1) s (SK.out.1.below hb) (by omega) 0 (by decide) cnt
      have MZ := keep fun (w : World) (hb : Below wo.heap.size wo w) => sizes_any w r b seed _ s (SK.out.1.below hb).1
      obtain ⟨nx1, tl1, N1, N2, _⟩ := next_any wo r b seed (k + 1) s SK.out.1 (by omega) (((Dc.all s).length : Int) + 1)
      obtain ⟨n2, tl2⟩ := N2 (by omega)
      have M1 := N1 0
      rw [n2] at M1
      have MX := keep M1
      clear N1 N2 n2 M1
      obtain ⟨nx, tl, N1, _, N3⟩ := next_any wo r b seed (k + 1) s SK.out.1 (by omega) cnt
      have MN := keep N1
      have MM := keep N3
      obtain ⟨E, hE, hpow⟩ := most_pow hI (by omega) (by omega)
      clear N1 N3 hI
      have hBo := keep SK.out.2.1
      clear SK
      generalize Dc.keys (Dc.all s) = K at *
      generalize (Dc.all s).length = n at *
      generalize s.old.length = so' at *
      generalize s.young.length = sy' at *
      generalize s.pos = sp' at *
      have HT1 := keep tl2
      have HND := keep hnd
      have HKN := keep hkn
      have HPW := keep hpow
      clear tl2 hnd hkn hpow
      go_wp2_with fail
      refine mK.mono ?_
      rintro _ w3 ⟨⟨va, rfl, hka⟩, hb3⟩
      have mR := MR.out w3 hb3
      clear mK MR
      go_wp2_with fail
      refine mR.mono ?_
      rintro _ w4 ⟨⟨vl, l, rfl, hkl, hrs⟩, hb4⟩
      have hpl := RZ.out l hrs
      have hb4' := hb3.trans (hb4.mono hb3.size)
      have hka4 : Ks wo.heap.size w4 va K := own_kept hka (fun k hk => hb4.block k (own_lt hka hk))
      have hll : l.length = n := by rw [hpl.length_eq, HKN.out]
      obtain ⟨ao, ca, hva⟩ := hka4.len
      obtain ⟨lo, cl, hvl⟩ := hkl.len
      rw [HKN.out] at hva
      rw [hll] at hvl
      subst hva hvl
      have RA := keep hka4.rd
      have RL := keep hkl.rd
      have hca : n ≤ ca := by
        rcases hka4.2 with ⟨e, h0⟩ | ⟨g', cap', cur', e, _, _, h1, _⟩
        · rw [HKN.out] at h0; omega
        · cases e; rw [HKN.out] at h1; exact h1
      have HP := keep hpl
      have HB4 := keep hb4'
      have mL := ML.out w4 hb4'
      clear hka hb3 hkl hrs hb4 hpl hb4' hka4 hll mR ML RZ
      go_wp2_with fail
      refine mL.mono ?_
      rintro _ w4' ⟨rfl, hw⟩
      subst hw
      clear mL
      go_wp2
      go_loopw [16] (fun i wq => ∃ j : Nat, j ≤ n ∧ i = .int .i64 j ∧ Kept (Below w4'.heap.size w4' wq)) (fun i _ => n - (intOf i).toNat)
      case atStart => exact ⟨0, Nat.zero_le _, rfl, Below.refl _ _⟩
      case round =>
        obtain ⟨j, hj, rfl, KB⟩ := hrel
        by_cases hltj : j < n
        · have hzj : (j : Int) < (n : Int) := by omega
          have hz0 : (0 : Int) ≤ (j : Int) := by omega
          have hzc : (j : Int) ≤ (ca : Int) := by omega
          obtain ⟨x, hx⟩ : ∃ x, K[j]? = some x := ⟨_, List.getElem?_eq_getElem (by rw [HKN.out]; exact hltj)⟩
          have ra := RA.out.below KB.out
          have rl := RL.out.below KB.out
          obtain ⟨g, rfl, c0⟩ := ra.open hx
          have hin : x ∈ l := HP.out.mem_iff.2 (List.mem_of_getElem? hx)
          have hout : x ∉ K.take j := fun hm => by
            obtain ⟨i, hi, e⟩ := List.mem_iff_getElem.1 hm
            rw [List.length_take] at hi
            have e2 : K[i]? = some x := by rw [← e, List.getElem_take]; exact List.getElem?_eq_getElem (by omega)
            have h3 := (List.getElem?_eq_some_iff.1 hx).1
            have h4 := (List.getElem?_inj h3 HND.out).1 (hx.trans e2.symm)
            omega
          have A1 := keep fun (w : World) (hs : ∀ a, w.cell? a = wr.cell? a) => among_any w _ l x true ⟨fun _ => hin, fun _ => rfl⟩ (rl.same hs)
          have A2 := keep fun (w : World) (hs : ∀ a, w.cell? a = wr.cell? a) => among_any w _ (K.take j) x false ⟨fun e => Bool.noConfusion e, fun e => absurd e hout⟩ ((ra.cut (by rw [HKN.out]; exact hj)).same hs)
          clear hx ra rl hin hout
          go_wp2_with fail
          have hb0 : Below wr.heap.size wr wr.drew := (Below.refl wr.heap.size wr).drew
          have hc1 : wr.drew.cell? ⟨g, j, none⟩ = some (.string x) := by simpa using c0
          refine wp_region_held_drew (S := fun W => W.cell? ⟨g, j, none⟩ = some (.string x) ∧ True) (by kernel_rfl) ⟨hc1, trivial⟩ (fun hHeld => ?_)
          refine wpAnyH_take (i := 0) (oi := { dst := some 79, op := _, type := _, pos := _, after := _, guard := _ }) (v := ?v1) rfl (by kernel_rfl) (by kernel_rfl) (by kernel_rfl) (fun _ _ _ h => h) (Or.inl ⟨by rfl, ?hy1⟩) (by assumption) ?rest1
          case hy1 => (intro w hSw; obtain ⟨q1,q2⟩ := hSw; go_simp; try with_reducible rfl)
          try simp only [Act.put, List.setIfInBounds_toArray, List.set_cons_zero, List.set_cons_succ]
          refine wpAnyH_take (i := 1) (oi := { dst := some 80, op := _, type := _, pos := _, after := _, guard := _ }) (v := ?v2) rfl (by kernel_rfl) (by kernel_rfl) (by kernel_rfl) (fun _ _ _ h => h) (Or.inl ⟨by rfl, ?hy2⟩) (by assumption) ?rest2
          case hy2 => (intro w hSw; obtain ⟨q1,q2⟩ := hSw; go_simp; try with_reducible rfl)
          try simp only [Act.put, List.setIfInBounds_toArray, List.set_cons_zero, List.set_cons_succ]
          refine wpAnyH_take (i := 2) (oi := { dst := some 81, op := _, type := _, pos := _, after := _, guard := _ }) (v := ?v3) rfl (by kernel_rfl) (by kernel_rfl) (by kernel_rfl) (fun _ _ _ h => h) (Or.inl ⟨by rfl, ?hy3⟩) (by assumption) ?rest3
          case hy3 => (intro w hSw; obtain ⟨q1,q2⟩ := hSw; go_simp; try with_reducible rfl)
          try simp only [Act.put, List.setIfInBounds_toArray, List.set_cons_zero, List.set_cons_succ]
          refine wpAnyH_take (i := 3) (oi := { dst := some 82, op := _, type := _, pos := _, after := _, guard := _ }) (v := ?v4) rfl (by kernel_rfl) (by kernel_rfl) (by kernel_rfl) (fun _ _ _ h => h) (Or.inl ⟨by rfl, ?hy4⟩) (by assumption) ?rest4
          case hy4 => (intro w hSw; obtain ⟨q1,q2⟩ := hSw; go_simp; try with_reducible rfl)
          try simp only [Act.put, List.setIfInBounds_toArray, List.set_cons_zero, List.set_cons_succ]
          refine wpAnyH_take (i := 4) (oi := { dst := some 83, op := _, type := _, pos := _, after := _, guard := _ }) (v := ?v5) rfl (by kernel_rfl) (by kernel_rfl) (by kernel_rfl) (fun _ _ _ h => h) (Or.inl ⟨by rfl, ?hy5⟩) (by assumption) ?rest5
          case hy5 => (intro w hSw; obtain ⟨q1,q2⟩ := hSw; go_simp; try with_reducible rfl)
          try simp only [Act.put, List.setIfInBounds_toArray, List.set_cons_zero, List.set_cons_succ]
          refine wpAnyH_ready (rs := [5]) (by kernel_rfl) (by simp) ?_
          refine AllReadyH.cons (o := { dst := some 84, op := _, type := _, pos := _, after := _, guard := _ }) rfl (fun K hK => ?_) AllReadyH.nil
          go_simp
          refine (A1.out _ (fun a => by simp)).mono ?_
          rintro _ w' ⟨rfl, hw'⟩
          subst hw'
          refine hK.out _ _ hHeld (fun hHeld => ?_)
          try simp only [Act.put, List.setIfInBounds_toArray, List.set_cons_zero, List.set_cons_succ]
          clear hK A1
          refine wpAnyH_take (i := 6) (oi := { dst := some 85, op := _, type := _, pos := _, after := _, guard := _ }) (v := (.bool false)) rfl (by kernel_rfl) (by kernel_rfl) (by kernel_rfl) (fun _ _ _ h => h) (Or.inl ⟨by rfl, ?hy6⟩) (by assumption) ?rest6
          case hy6 => (intro w hSw; obtain ⟨q1,q2⟩ := hSw; first | (go_simp; done) | (go_simp; simp [*]; done) | (simp [*]; go_simp; done))
          try simp only [Act.put, List.setIfInBounds_toArray, List.set_cons_zero, List.set_cons_succ]
          refine wpAnyH_take (i := 7) (oi := { dst := some 86, op := _, type := _, pos := _, after := _, guard := _ }) (v := (.bool false)) rfl (by kernel_rfl) (by kernel_rfl) (by kernel_rfl) (fun _ _ _ h => h) (Or.inl ⟨by rfl, ?hy7⟩) (by assumption) ?rest7
          case hy7 => (intro w hSw; obtain ⟨q1,q2⟩ := hSw; first | (go_simp; done) | (go_simp; simp [*]; done) | (simp [*]; go_simp; done))
          try simp only [Act.put, List.setIfInBounds_toArray, List.set_cons_zero, List.set_cons_succ]
          refine wpAnyH_take (i := 8) (oi := { dst := some 87, op := _, type := _, pos := _, after := _, guard := _ }) (v := ?v8) rfl (by kernel_rfl) (by kernel_rfl) (by kernel_rfl) (fun _ _ _ h => h) (Or.inl ⟨by rfl, ?hy8⟩) (by assumption) ?rest8
          case hy8 => (intro w hSw; obtain ⟨q1,q2⟩ := hSw; go_simp; try with_reducible rfl)
          try simp only [Act.put, List.setIfInBounds_toArray, List.set_cons_zero, List.set_cons_succ]
          refine wpAnyH_take (i := 9) (oi := { dst := some 88, op := _, type := _, pos := _, after := _, guard := _ }) (v := ?v9) rfl (by kernel_rfl) (by kernel_rfl) (by kernel_rfl) (fun _ _ _ h => h) (Or.inl ⟨by rfl, ?hy9⟩) (by assumption) ?rest9
          case hy9 => (intro w hSw; obtain ⟨q1,q2⟩ := hSw; go_simp; try with_reducible rfl)
          try simp only [Act.put, List.setIfInBounds_toArray, List.set_cons_zero, List.set_cons_succ]
          refine wpAnyH_take (i := 10) (oi := { dst := some 89, op := _, type := _, pos := _, after := _, guard := _ }) (v := ?v10) rfl (by kernel_rfl) (by kernel_rfl) (by kernel_rfl) (fun _ _ _ h => h) (Or.inl ⟨by rfl, ?hy10⟩) (by assumption) ?rest10
          case hy10 => (intro w hSw; obtain ⟨q1,q2⟩ := hSw; go_simp; try with_reducible rfl)
          try simp only [Act.put, List.setIfInBounds_toArray, List.set_cons_zero, List.set_cons_succ]
          refine wpAnyH_take (i := 11) (oi := { dst := some 90, op := _, type := _, pos := _, after := _, guard := _ }) (v := ?v11) rfl (by kernel_rfl) (by kernel_rfl) (by kernel_rfl) (fun _ _ _ h => h) (Or.inl ⟨by rfl, ?hy11⟩) (by assumption) ?rest11
          case hy11 => (intro w hSw; obtain ⟨q1,q2⟩ := hSw; go_simp; try with_reducible rfl)
          try simp only [Act.put, List.setIfInBounds_toArray, List.set_cons_zero, List.set_cons_succ]
          refine wpAnyH_take (i := 12) (oi := { dst := some 91, op := _, type := _, pos := _, after := _, guard := _ }) (v := ?v12) rfl (by kernel_rfl) (by kernel_rfl) (by kernel_rfl) (fun _ _ _ h => h) (Or.inl ⟨by rfl, ?hy12⟩) (by assumption) ?rest12
          case hy12 => (intro w hSw; obtain ⟨q1,q2⟩ := hSw; go_simp; try with_reducible rfl)
          try simp only [Act.put, List.setIfInBounds_toArray, List.set_cons_zero, List.set_cons_succ]
          refine wpAnyH_take (i := 13) (oi := { dst := some 92, op := _, type := _, pos := _, after := _, guard := _ }) (v := ?v13) rfl (by kernel_rfl) (by kernel_rfl) (by kernel_rfl) (fun _ _ _ h => h) (Or.inl ⟨by rfl, ?hy13⟩) (by assumption) ?rest13
          case hy13 => (intro w hSw; obtain ⟨q1,q2⟩ := hSw; go_simp; try with_reducible rfl)
          try simp only [Act.put, List.setIfInBounds_toArray, List.set_cons_zero, List.set_cons_succ]
          refine wpAnyH_take (i := 14) (oi := { dst := some 93, op := _, type := _, pos := _, after := _, guard := _ }) (v := ?v14) rfl (by kernel_rfl) (by kernel_rfl) (by kernel_rfl) (fun _ _ _ h => h) (Or.inl ⟨by rfl, ?hy14⟩) (by assumption) ?rest14
          case hy14 => (intro w hSw; obtain ⟨q1,q2⟩ := hSw; go_simp; try with_reducible rfl)
          try simp only [Act.put, List.setIfInBounds_toArray, List.set_cons_zero, List.set_cons_succ]
          refine wpAnyH_ready (rs := [15]) (by kernel_rfl) (by simp) ?_
          refine AllReadyH.cons (o := { dst := some 94, op := _, type := _, pos := _, after := _, guard := _ }) rfl (fun K hK => ?_) AllReadyH.nil
          go_simp
          refine (A2.out _ (fun a => by simp)).mono ?_
          rintro _ w' ⟨rfl, hw'⟩
          subst hw'
          refine hK.out _ _ hHeld (fun hHeld => ?_)
          try simp only [Act.put, List.setIfInBounds_toArray, List.set_cons_zero, List.set_cons_succ]
          clear hK A2
          refine wpAnyH_take (i := 16) (oi := { dst := some 95, op := _, type := _, pos := _, after := _, guard := _ }) (v := (.bool false)) rfl (by kernel_rfl) (by kernel_rfl) (by kernel_rfl) (fun _ _ _ h => h) (Or.inl ⟨by rfl, ?hy15⟩) (by assumption) ?rest15
          case hy15 => (intro w hSw; first | (go_simp; done) | (go_simp; simp [*]; done) | (simp [*]; go_simp; done))
          try simp only [Act.put, List.setIfInBounds_toArray, List.set_cons_zero, List.set_cons_succ]
          refine wpAnyH_done (by kernel_rfl) ?_ _
          clear hHeld
          have KB2 := keep (KB.out.trans (hb0.mono KB.out.size))
          clear hb0 hc1 KB
          go_wp2
          go_roundw
          case measure => simp [intOf]; omega
          case rel => exact ⟨j + 1, by omega, by go_num, KB2⟩
        · have hzj : ¬ (j : Int) < (n : Int) := by omega
          have hbw := HB4.out.trans (KB.out.mono HB4.out.size)
          have mX := MX.out wr (by decide) hbw
          have HBW := keep hbw
          clear MX hbw HB4 RA RL HP HND
          go_wp2_with fail
          refine mX.mono ?_
          rintro _ w5 ⟨⟨v5, rfl, hk5⟩, hb5⟩
          obtain ⟨o5, c5, hv5⟩ := hk5.len
          rw [HT1.out.length_eq, HKN.out] at hv5
          subst hv5
          have hbw5 := HBW.out.trans (hb5.mono HBW.out.size)
          have mZ := MZ.out w5 hbw5
          have HB5 := keep hbw5
          clear mX hk5 hb5 hbw5 HBW MZ HT1 HKN
          go_wp2_with fail
          refine mZ.mono ?_
          rintro _ w6 ⟨rfl, q6, hw6⟩
          have HB6 : Kept (Below wo.heap.size wo w6) := by rw [hw6]; exact below_drewN HB5.out q6
          clear mZ hw6 HB5
          have mN := MN.out cur w6 hcur HB6.out
          obtain ⟨M, hM⟩ : ∃ x, max (max so' sy') 1 = x := ⟨_, rfl⟩
          have hMz : max (max (so' : Int) (sy' : Int)) 1 = (M : Int) := by omega
          have hpw := HPW.out
          rw [hM] at hpw
          rw [hM] at MM
          have HX := keep (mix_is (cur := cur) hE hpw hhigh)
          have HMX := keep (Nat.le_refl M)
          have hMp : 0 < M := by omega
          have hMu : (M : Int) < 18446744073709551616 := by omega
          have HE := keep hM
          have HMU := keep (And.intro hMp hMu)
          have KE := keep hE
          clear HPW hpw HMX hMp hMu hE
          go_wp2_with fail
          · first
              | rw [show (so' : Int) = (M : Int) by omega]
              | rw [show (sy' : Int) = (M : Int) by omega]
              | rw [show (1 : Int) = (M : Int) by omega]
            clear hMz hM
            refine mN.mono ?_
            rintro _ w7 ⟨⟨v7, rfl, hk7⟩, hb7⟩
            have hbw7 := HB6.out.trans (hb7.mono HB6.out.size)
            have HK7 := keep hk7
            have HB7 := keep hbw7
            clear mN hk7 hb7 hbw7 HB6
            obtain ⟨y1, y2, y3⟩ := HX.out
            obtain ⟨mMp, mMu⟩ := HMU.out
            obtain ⟨a, ha⟩ : ∃ x, cur % M = x := ⟨_, rfl⟩
            obtain ⟨q, hq⟩ : ∃ x, high / M = x := ⟨_, rfl⟩
            obtain ⟨t, ht⟩ : ∃ x, q * M = x := ⟨_, rfl⟩
            obtain ⟨z, hz⟩ : ∃ x, a + t = x := ⟨_, rfl⟩
            have yq : q < 2 ^ 64 := by rw [← hq]; exact Nat.lt_of_le_of_lt (Nat.div_le_self _ _) hhigh
            rw [ha, hq, ht] at y2
            rw [ha, hq, ht, hz, ← ha] at y3
            have MQ := MM.out cur z y3.symm
            have hz64 : z < 2 ^ 64 := by omega
            have mN := MN.out z
            rw [← MQ.1, ← MQ.2] at mN
            have F1 := keep (show (cur : Int).tmod (M : Int) = (a : Int) by rw [Int.tmod_eq_emod_of_nonneg (by omega), ← ha]; simp)
            have F2 := keep (show (cur : Int) % (M : Int) = (a : Int) by rw [← ha]; simp)
            have F3 := keep (show (high : Int).tdiv (M : Int) = (q : Int) by rw [Int.tdiv_eq_ediv_of_nonneg (by omega), ← hq]; simp)
            have F4 := keep (show (high : Int) / (M : Int) = (q : Int) by rw [← hq]; simp)
            have F5 := keep (show (q : Int) * (M : Int) = (t : Int) by rw [← ht]; simp)
            have F6 := keep (show IntKind.u64.wrap (t : Int) = (t : Int) by rw [IntKind.wrap_u64]; omega)
            have F7 := keep (show (a : Int) + (t : Int) = (z : Int) by rw [← hz]; simp)
            have F8 := keep (show IntKind.u64.wrap (z : Int) = (z : Int) by rw [IntKind.wrap_u64]; omega)
            have FA := keep (show IntKind.u64.wrap (q : Int) = (q : Int) by rw [IntKind.wrap_u64]; omega)
            have F9 := keep (show ¬ (M : Int) = 0 by omega)
            have MNz := keep mN
            have HZ := keep hz64
            clear y1 y2 y3 yq mMp mMu ha hq ht hz MQ hz64 mN HX HMU MM MN
            go_wp2_with fail
            have hb0 : Below w7.heap.size w7 w7.drew := (Below.refl w7.heap.size w7).drew
            refine wp_region_held_drew (S := fun _ => True) (by kernel_rfl) trivial (fun hHeld => ?_)
            refine wpAnyH_take (i := 0) (oi := { dst := some 131, op := _, type := _, pos := _, after := _, guard := _ }) (v := ?v16) rfl (by kernel_rfl) (by kernel_rfl) (by kernel_rfl) (fun _ _ _ h => h) (Or.inl ⟨by rfl, ?hy16⟩) (by assumption) ?rest16
            case hy16 => (intro w hSw; go_simp; try with_reducible rfl)
            try simp only [Act.put, List.setIfInBounds_toArray, List.set_cons_zero, List.set_cons_succ]
            refine wpAnyH_take (i := 1) (oi := { dst := some 132, op := _, type := _, pos := _, after := _, guard := _ }) (v := ?v17) rfl (by kernel_rfl) (by kernel_rfl) (by kernel_rfl) (fun _ _ _ h => h) (Or.inl ⟨by rfl, ?hy17⟩) (by assumption) ?rest17
            case hy17 => (intro w hSw; go_simp; try with_reducible rfl)
            try simp only [Act.put, List.setIfInBounds_toArray, List.set_cons_zero, List.set_cons_succ]
            refine wpAnyH_take (i := 2) (oi := { dst := some 133, op := _, type := _, pos := _, after := _, guard := _ }) (v := ?v18) rfl (by kernel_rfl) (by kernel_rfl) (by kernel_rfl) (fun _ _ _ h => h) (Or.inl ⟨by rfl, ?hy18⟩) (by assumption) ?rest18
            case hy18 => (intro w hSw; go_simp; try with_reducible rfl)
            try simp only [Act.put, List.setIfInBounds_toArray, List.set_cons_zero, List.set_cons_succ]
            have f1 := F1.out
            have f2 := F2.out
            have f9 := F9.out
            have f10 : ¬ M = 0 := by omega
            refine wpAnyH_take (i := 3) (oi := { dst := some 134, op := _, type := _, pos := _, after := _, guard := _ }) (v := (.int .u64 (a : Int))) rfl (by kernel_rfl) (by kernel_rfl) (by kernel_rfl) (fun _ _ _ h => h) (Or.inl ⟨by rfl, ?hy19⟩) (by assumption) ?rest19
            case hy19 => (intro w hSw; first | (go_simp; done) | (go_simp; simp [*]; done) | (simp [*]; go_simp; done))
            try simp only [Act.put, List.setIfInBounds_toArray, List.set_cons_zero, List.set_cons_succ]
            clear f1 f2
            refine wpAnyH_take (i := 4) (oi := { dst := some 135, op := _, type := _, pos := _, after := _, guard := _ }) (v := ?v20) rfl (by kernel_rfl) (by kernel_rfl) (by kernel_rfl) (fun _ _ _ h => h) (Or.inl ⟨by rfl, ?hy20⟩) (by assumption) ?rest20
            case hy20 => (intro w hSw; go_simp; try with_reducible rfl)
            try simp only [Act.put, List.setIfInBounds_toArray, List.set_cons_zero, List.set_cons_succ]
            refine wpAnyH_take (i := 5) (oi := { dst := some 136, op := _, type := _, pos := _, after := _, guard := _ }) (v := ?v21) rfl (by kernel_rfl) (by kernel_rfl) (by kernel_rfl) (fun _ _ _ h => h) (Or.inl ⟨by rfl, ?hy21⟩) (by assumption) ?rest21
            case hy21 => (intro w hSw; go_simp; try with_reducible rfl)
            try simp only [Act.put, List.setIfInBounds_toArray, List.set_cons_zero, List.set_cons_succ]
            have f3 := F3.out
            have f4 := F4.out
            have fa := FA.out
            refine wpAnyH_take (i := 6) (oi := { dst := some 137, op := _, type := _, pos := _, after := _, guard := _ }) (v := (.int .u64 (q : Int))) rfl (by kernel_rfl) (by kernel_rfl) (by kernel_rfl) (fun _ _ _ h => h) (Or.inl ⟨by rfl, ?hy22⟩) (by assumption) ?rest22
            case hy22 => (intro w hSw; first | (go_simp; done) | (go_simp; simp [*]; done) | (simp [*]; go_simp; done))
            try simp only [Act.put, List.setIfInBounds_toArray, List.set_cons_zero, List.set_cons_succ]
            clear f3 f4 f9 f10 fa
            refine wpAnyH_take (i := 7) (oi := { dst := some 138, op := _, type := _, pos := _, after := _, guard := _ }) (v := ?v23) rfl (by kernel_rfl) (by kernel_rfl) (by kernel_rfl) (fun _ _ _ h => h) (Or.inl ⟨by rfl, ?hy23⟩) (by assumption) ?rest23
            case hy23 => (intro w hSw; go_simp; try with_reducible rfl)
            try simp only [Act.put, List.setIfInBounds_toArray, List.set_cons_zero, List.set_cons_succ]
            have f5 := F5.out
            have f6 := F6.out
            refine wpAnyH_take (i := 8) (oi := { dst := some 139, op := _, type := _, pos := _, after := _, guard := _ }) (v := (.int .u64 (t : Int))) rfl (by kernel_rfl) (by kernel_rfl) (by kernel_rfl) (fun _ _ _ h => h) (Or.inl ⟨by rfl, ?hy24⟩) (by assumption) ?rest24
            case hy24 => (intro w hSw; first | (go_simp; done) | (go_simp; simp [*]; done) | (simp [*]; go_simp; done))
            try simp only [Act.put, List.setIfInBounds_toArray, List.set_cons_zero, List.set_cons_succ]
            clear f5 f6
            have f7 := F7.out
            have f8 := F8.out
            refine wpAnyH_take (i := 9) (oi := { dst := some 140, op := _, type := _, pos := _, after := _, guard := _ }) (v := (.int .u64 (z : Int))) rfl (by kernel_rfl) (by kernel_rfl) (by kernel_rfl) (fun _ _ _ h => h) (Or.inl ⟨by rfl, ?hy25⟩) (by assumption) ?rest25
            case hy25 => (intro w hSw; first | (go_simp; done) | (go_simp; simp [*]; done) | (simp [*]; go_simp; done))
            try simp only [Act.put, List.setIfInBounds_toArray, List.set_cons_zero, List.set_cons_succ]
            clear f7 f8
            refine wpAnyH_take (i := 10) (oi := { dst := some 141, op := _, type := _, pos := _, after := _, guard := _ }) (v := ?v26) rfl (by kernel_rfl) (by kernel_rfl) (by kernel_rfl) (fun _ _ _ h => h) (Or.inl ⟨by rfl, ?hy26⟩) (by assumption) ?rest26
            case hy26 => (intro w hSw; go_simp; try with_reducible rfl)
            try simp only [Act.put, List.setIfInBounds_toArray, List.set_cons_zero, List.set_cons_succ]
            refine wpAnyH_ready (rs := [11]) (by kernel_rfl) (by simp) ?_
            refine AllReadyH.cons (o := { dst := some 142, op := _, type := _, pos := _, after := _, guard := _ }) rfl (fun K hK => ?_) AllReadyH.nil
            go_simp
            refine (MNz.out _ HZ.out (HB7.out.trans (hb0.mono HB7.out.size))).mono ?_
            rintro _ w8 ⟨⟨v8, rfl, hk8⟩, hb8⟩
            have hb78 := hb0.trans (hb8.mono hb0.size)
            have mE := same_any w8 v7 v8 (tl cur) (Ks.rd (own_kept HK7.out (fun k hk => hb78.block k (own_lt HK7.out hk)))) hk8.rd
            have HB8 := keep (HB7.out.trans (hb78.mono HB7.out.size))
            refine hK.out _ _ trivial (fun hHeld => ?_)
            try simp only [Act.put, List.setIfInBounds_toArray, List.set_cons_zero, List.set_cons_succ]
            clear hK hk8 hb8 hb78 hb0 MNz HZ F1 F2 F3 F4 F5 F6 F7 F8 F9 FA
            refine wpAnyH_take (i := 12) (oi := { dst := some 130, op := _, type := _, pos := _, after := _, guard := _ }) (v := ?v27) rfl (by kernel_rfl) (by kernel_rfl) (by kernel_rfl) (fun _ _ _ h => h) (Or.inl ⟨by rfl, ?hy27⟩) (by assumption) ?rest27
            case hy27 => (intro w hSw; go_simp; try with_reducible rfl)
            try simp only [Act.put, List.setIfInBounds_toArray, List.set_cons_zero, List.set_cons_succ]
            refine wpAnyH_take (i := 13) (oi := { dst := some 143, op := _, type := _, pos := _, after := _, guard := _ }) (v := ?v28) rfl (by kernel_rfl) (by kernel_rfl) (by kernel_rfl) (fun _ _ _ h => h) (Or.inl ⟨by rfl, ?hy28⟩) (by assumption) ?rest28
            case hy28 => (intro w hSw; go_simp; try with_reducible rfl)
            try simp only [Act.put, List.setIfInBounds_toArray, List.set_cons_zero, List.set_cons_succ]
            refine wpAnyH_take (i := 14) (oi := { dst := some 144, op := _, type := _, pos := _, after := _, guard := _ }) (v := ?v29) rfl (by kernel_rfl) (by kernel_rfl) (by kernel_rfl) (fun _ _ _ h => h) (Or.inl ⟨by rfl, ?hy29⟩) (by assumption) ?rest29
            case hy29 => (intro w hSw; go_simp; try with_reducible rfl)
            try simp only [Act.put, List.setIfInBounds_toArray, List.set_cons_zero, List.set_cons_succ]
            refine wpAnyH_take (i := 15) (oi := { dst := some 25, op := _, type := _, pos := _, after := _, guard := _ }) (v := ?v30) rfl (by kernel_rfl) (by kernel_rfl) (by kernel_rfl) (fun _ _ _ h => h) (Or.inl ⟨by rfl, ?hy30⟩) (by assumption) ?rest30
            case hy30 => (intro w hSw; go_simp; try with_reducible rfl)
            try simp only [Act.put, List.setIfInBounds_toArray, List.set_cons_zero, List.set_cons_succ]
            refine wpAnyH_take (i := 16) (oi := { dst := some 26, op := _, type := _, pos := _, after := _, guard := _ }) (v := ?v31) rfl (by kernel_rfl) (by kernel_rfl) (by kernel_rfl) (fun _ _ _ h => h) (Or.inl ⟨by rfl, ?hy31⟩) (by assumption) ?rest31
            case hy31 => (intro w hSw; go_simp; try with_reducible rfl)
            try simp only [Act.put, List.setIfInBounds_toArray, List.set_cons_zero, List.set_cons_succ]
            refine wpAnyH_done (by kernel_rfl) ?_ _
            clear hHeld
            go_wp2_with fail
            refine mE.mono ?_
            rintro _ w9 ⟨rfl, hb9⟩
            have HB9 := keep (hBo.out.trans ((HB8.out.trans (hb9.mono HB8.out.size)).mono hBo.out.size))
            clear mE hb9 HB8
            go_wp2
            go_ret
            exact ⟨rfl, HB9.out⟩
          · first
              | rw [show (so' : Int) = (M : Int) by omega]
              | rw [show (sy' : Int) = (M : Int) by omega]
              | rw [show (1 : Int) = (M : Int) by omega]
            clear hMz hM
            refine mN.mono ?_
            rintro _ w7 ⟨⟨v7, rfl, hk7⟩, hb7⟩
            have hbw7 := HB6.out.trans (hb7.mono HB6.out.size)
            have HK7 := keep hk7
            have HB7 := keep hbw7
            clear mN hk7 hb7 hbw7 HB6
            obtain ⟨y1, y2, y3⟩ := HX.out
            obtain ⟨mMp, mMu⟩ := HMU.out
            obtain ⟨a, ha⟩ : ∃ x, cur % M = x := ⟨_, rfl⟩
            obtain ⟨q, hq⟩ : ∃ x, high / M = x := ⟨_, rfl⟩
            obtain ⟨t, ht⟩ : ∃ x, q * M = x := ⟨_, rfl⟩
            obtain ⟨z, hz⟩ : ∃ x, a + t = x := ⟨_, rfl⟩
            have yq : q < 2 ^ 64 := by rw [← hq]; exact Nat.lt_of_le_of_lt (Nat.div_le_self _ _) hhigh
            rw [ha, hq, ht] at y2
            rw [ha, hq, ht, hz, ← ha] at y3
            have MQ := MM.out cur z y3.symm
            have hz64 : z < 2 ^ 64 := by omega
            have mN := MN.out z
            rw [← MQ.1, ← MQ.2] at mN
            have F1 := keep (show (cur : Int).tmod (M : Int) = (a : Int) by rw [Int.tmod_eq_emod_of_nonneg (by omega), ← ha]; simp)
            have F2 := keep (show (cur : Int) % (M : Int) = (a : Int) by rw [← ha]; simp)
            have F3 := keep (show (high : Int).tdiv (M : Int) = (q : Int) by rw [Int.tdiv_eq_ediv_of_nonneg (by omega), ← hq]; simp)
            have F4 := keep (show (high : Int) / (M : Int) = (q : Int) by rw [← hq]; simp)
            have F5 := keep (show (q : Int) * (M : Int) = (t : Int) by rw [← ht]; simp)
            have F6 := keep (show IntKind.u64.wrap (t : Int) = (t : Int) by rw [IntKind.wrap_u64]; omega)
            have F7 := keep (show (a : Int) + (t : Int) = (z : Int) by rw [← hz]; simp)
            have F8 := keep (show IntKind.u64.wrap (z : Int) = (z : Int) by rw [IntKind.wrap_u64]; omega)
            have FA := keep (show IntKind.u64.wrap (q : Int) = (q : Int) by rw [IntKind.wrap_u64]; omega)
            have F9 := keep (show ¬ (M : Int) = 0 by omega)
            have MNz := keep mN
            have HZ := keep hz64
            clear y1 y2 y3 yq mMp mMu ha hq ht hz MQ hz64 mN HX HMU MM MN
            go_wp2_with fail
            have hb0 : Below w7.heap.size w7 w7.drew := (Below.refl w7.heap.size w7).drew
            refine wp_region_held_drew (S := fun _ => True) (by kernel_rfl) trivial (fun hHeld => ?_)
            refine wpAnyH_take (i := 0) (oi := { dst := some 131, op := _, type := _, pos := _, after := _, guard := _ }) (v := ?v32) rfl (by kernel_rfl) (by kernel_rfl) (by kernel_rfl) (fun _ _ _ h => h) (Or.inl ⟨by rfl, ?hy32⟩) (by assumption) ?rest32
            case hy32 => (intro w hSw; go_simp; try with_reducible rfl)
            try simp only [Act.put, List.setIfInBounds_toArray, List.set_cons_zero, List.set_cons_succ]
            refine wpAnyH_take (i := 1) (oi := { dst := some 132, op := _, type := _, pos := _, after := _, guard := _ }) (v := ?v33) rfl (by kernel_rfl) (by kernel_rfl) (by kernel_rfl) (fun _ _ _ h => h) (Or.inl ⟨by rfl, ?hy33⟩) (by assumption) ?rest33
            case hy33 => (intro w hSw; go_simp; try with_reducible rfl)
            try simp only [Act.put, List.setIfInBounds_toArray, List.set_cons_zero, List.set_cons_succ]
            refine wpAnyH_take (i := 2) (oi := { dst := some 133, op := _, type := _, pos := _, after := _, guard := _ }) (v := ?v34) rfl (by kernel_rfl) (by kernel_rfl) (by kernel_rfl) (fun _ _ _ h => h) (Or.inl ⟨by rfl, ?hy34⟩) (by assumption) ?rest34
            case hy34 => (intro w hSw; go_simp; try with_reducible rfl)
            try simp only [Act.put, List.setIfInBounds_toArray, List.set_cons_zero, List.set_cons_succ]
            have f1 := F1.out
            have f2 := F2.out
            have f9 := F9.out
            have f10 : ¬ M = 0 := by omega
            refine wpAnyH_take (i := 3) (oi := { dst := some 134, op := _, type := _, pos := _, after := _, guard := _ }) (v := (.int .u64 (a : Int))) rfl (by kernel_rfl) (by kernel_rfl) (by kernel_rfl) (fun _ _ _ h => h) (Or.inl ⟨by rfl, ?hy35⟩) (by assumption) ?rest35
            case hy35 => (intro w hSw; first | (go_simp; done) | (go_simp; simp [*]; done) | (simp [*]; go_simp; done))
            try simp only [Act.put, List.setIfInBounds_toArray, List.set_cons_zero, List.set_cons_succ]
            clear f1 f2
            refine wpAnyH_take (i := 4) (oi := { dst := some 135, op := _, type := _, pos := _, after := _, guard := _ }) (v := ?v36) rfl (by kernel_rfl) (by kernel_rfl) (by kernel_rfl) (fun _ _ _ h => h) (Or.inl ⟨by rfl, ?hy36⟩) (by assumption) ?rest36
            case hy36 => (intro w hSw; go_simp; try with_reducible rfl)
            try simp only [Act.put, List.setIfInBounds_toArray, List.set_cons_zero, List.set_cons_succ]
            refine wpAnyH_take (i := 5) (oi := { dst := some 136, op := _, type := _, pos := _, after := _, guard := _ }) (v := ?v37) rfl (by kernel_rfl) (by kernel_rfl) (by kernel_rfl) (fun _ _ _ h => h) (Or.inl ⟨by rfl, ?hy37⟩) (by assumption) ?rest37
            case hy37 => (intro w hSw; go_simp; try with_reducible rfl)
            try simp only [Act.put, List.setIfInBounds_toArray, List.set_cons_zero, List.set_cons_succ]
            have f3 := F3.out
            have f4 := F4.out
            have fa := FA.out
            refine wpAnyH_take (i := 6) (oi := { dst := some 137, op := _, type := _, pos := _, after := _, guard := _ }) (v := (.int .u64 (q : Int))) rfl (by kernel_rfl) (by kernel_rfl) (by kernel_rfl) (fun _ _ _ h => h) (Or.inl ⟨by rfl, ?hy38⟩) (by assumption) ?rest38
            case hy38 => (intro w hSw; first | (go_simp; done) | (go_simp; simp [*]; done) | (simp [*]; go_simp; done))
            try simp only [Act.put, List.setIfInBounds_toArray, List.set_cons_zero, List.set_cons_succ]
            clear f3 f4 f9 f10 fa
            refine wpAnyH_take (i := 7) (oi := { dst := some 138, op := _, type := _, pos := _, after := _, guard := _ }) (v := ?v39) rfl (by kernel_rfl) (by kernel_rfl) (by kernel_rfl) (fun _ _ _ h => h) (Or.inl ⟨by rfl, ?hy39⟩) (by assumption) ?rest39
            case hy39 => (intro w hSw; go_simp; try with_reducible rfl)
            try simp only [Act.put, List.setIfInBounds_toArray, List.set_cons_zero, List.set_cons_succ]
            have f5 := F5.out
            have f6 := F6.out
            refine wpAnyH_take (i := 8) (oi := { dst := some 139, op := _, type := _, pos := _, after := _, guard := _ }) (v := (.int .u64 (t : Int))) rfl (by kernel_rfl) (by kernel_rfl) (by kernel_rfl) (fun _ _ _ h => h) (Or.inl ⟨by rfl, ?hy40⟩) (by assumption) ?rest40
            case hy40 => (intro w hSw; first | (go_simp; done) | (go_simp; simp [*]; done) | (simp [*]; go_simp; done))
            try simp only [Act.put, List.setIfInBounds_toArray, List.set_cons_zero, List.set_cons_succ]
            clear f5 f6
            have f7 := F7.out
            have f8 := F8.out
            refine wpAnyH_take (i := 9) (oi := { dst := some 140, op := _, type := _, pos := _, after := _, guard := _ }) (v := (.int .u64 (z : Int))) rfl (by kernel_rfl) (by kernel_rfl) (by kernel_rfl) (fun _ _ _ h => h) (Or.inl ⟨by rfl, ?hy41⟩) (by assumption) ?rest41
            case hy41 => (intro w hSw; first | (go_simp; done) | (go_simp; simp [*]; done) | (simp [*]; go_simp; done))
            try simp only [Act.put, List.setIfInBounds_toArray, List.set_cons_zero, List.set_cons_succ]
            clear f7 f8
            refine wpAnyH_take (i := 10) (oi := { dst := some 141, op := _, type := _, pos := _, after := _, guard := _ }) (v := ?v42) rfl (by kernel_rfl) (by kernel_rfl) (by kernel_rfl) (fun _ _ _ h => h) (Or.inl ⟨by rfl, ?hy42⟩) (by assumption) ?rest42
            case hy42 => (intro w hSw; go_simp; try with_reducible rfl)
            try simp only [Act.put, List.setIfInBounds_toArray, List.set_cons_zero, List.set_cons_succ]
            refine wpAnyH_ready (rs := [11]) (by kernel_rfl) (by simp) ?_
            refine AllReadyH.cons (o := { dst := some 142, op := _, type := _, pos := _, after := _, guard := _ }) rfl (fun K hK => ?_) AllReadyH.nil
            go_simp
            refine (MNz.out _ HZ.out (HB7.out.trans (hb0.mono HB7.out.size))).mono ?_
            rintro _ w8 ⟨⟨v8, rfl, hk8⟩, hb8⟩
            have hb78 := hb0.trans (hb8.mono hb0.size)
            have mE := same_any w8 v7 v8 (tl cur) (Ks.rd (own_kept HK7.out (fun k hk => hb78.block k (own_lt HK7.out hk)))) hk8.rd
            have HB8 := keep (HB7.out.trans (hb78.mono HB7.out.size))
            refine hK.out _ _ trivial (fun hHeld => ?_)
            try simp only [Act.put, List.setIfInBounds_toArray, List.set_cons_zero, List.set_cons_succ]
            clear hK hk8 hb8 hb78 hb0 MNz HZ F1 F2 F3 F4 F5 F6 F7 F8 F9 FA
            refine wpAnyH_take (i := 12) (oi := { dst := some 130, op := _, type := _, pos := _, after := _, guard := _ }) (v := ?v43) rfl (by kernel_rfl) (by kernel_rfl) (by kernel_rfl) (fun _ _ _ h => h) (Or.inl ⟨by rfl, ?hy43⟩) (by assumption) ?rest43
            case hy43 => (intro w hSw; go_simp; try with_reducible rfl)
            try simp only [Act.put, List.setIfInBounds_toArray, List.set_cons_zero, List.set_cons_succ]
            refine wpAnyH_take (i := 13) (oi := { dst := some 143, op := _, type := _, pos := _, after := _, guard := _ }) (v := ?v44) rfl (by kernel_rfl) (by kernel_rfl) (by kernel_rfl) (fun _ _ _ h => h) (Or.inl ⟨by rfl, ?hy44⟩) (by assumption) ?rest44
            case hy44 => (intro w hSw; go_simp; try with_reducible rfl)
            try simp only [Act.put, List.setIfInBounds_toArray, List.set_cons_zero, List.set_cons_succ]
            refine wpAnyH_take (i := 14) (oi := { dst := some 144, op := _, type := _, pos := _, after := _, guard := _ }) (v := ?v45) rfl (by kernel_rfl) (by kernel_rfl) (by kernel_rfl) (fun _ _ _ h => h) (Or.inl ⟨by rfl, ?hy45⟩) (by assumption) ?rest45
            case hy45 => (intro w hSw; go_simp; try with_reducible rfl)
            try simp only [Act.put, List.setIfInBounds_toArray, List.set_cons_zero, List.set_cons_succ]
            refine wpAnyH_take (i := 15) (oi := { dst := some 25, op := _, type := _, pos := _, after := _, guard := _ }) (v := ?v46) rfl (by kernel_rfl) (by kernel_rfl) (by kernel_rfl) (fun _ _ _ h => h) (Or.inl ⟨by rfl, ?hy46⟩) (by assumption) ?rest46
            case hy46 => (intro w hSw; go_simp; try with_reducible rfl)
            try simp only [Act.put, List.setIfInBounds_toArray, List.set_cons_zero, List.set_cons_succ]
            refine wpAnyH_take (i := 16) (oi := { dst := some 26, op := _, type := _, pos := _, after := _, guard := _ }) (v := ?v47) rfl (by kernel_rfl) (by kernel_rfl) (by kernel_rfl) (fun _ _ _ h => h) (Or.inl ⟨by rfl, ?hy47⟩) (by assumption) ?rest47
            case hy47 => (intro w hSw; go_simp; try with_reducible rfl)
            try simp only [Act.put, List.setIfInBounds_toArray, List.set_cons_zero, List.set_cons_succ]
            refine wpAnyH_done (by kernel_rfl) ?_ _
            clear hHeld
            go_wp2_with fail
            refine mE.mono ?_
            rintro _ w9 ⟨rfl, hb9⟩
            have HB9 := keep (hBo.out.trans ((HB8.out.trans (hb9.mono HB8.out.size)).mono hBo.out.size))
            clear mE hb9 HB8
            go_wp2
            go_ret
            exact ⟨rfl, HB9.out⟩
          · first
              | rw [show (so' : Int) = (M : Int) by omega]
              | rw [show (sy' : Int) = (M : Int) by omega]
              | rw [show (1 : Int) = (M : Int) by omega]
            clear hMz hM
            refine mN.mono ?_
            rintro _ w7 ⟨⟨v7, rfl, hk7⟩, hb7⟩
            have hbw7 := HB6.out.trans (hb7.mono HB6.out.size)
            have HK7 := keep hk7
            have HB7 := keep hbw7
            clear mN hk7 hb7 hbw7 HB6
            obtain ⟨y1, y2, y3⟩ := HX.out
            obtain ⟨mMp, mMu⟩ := HMU.out
            obtain ⟨a, ha⟩ : ∃ x, cur % M = x := ⟨_, rfl⟩
            obtain ⟨q, hq⟩ : ∃ x, high / M = x := ⟨_, rfl⟩
            obtain ⟨t, ht⟩ : ∃ x, q * M = x := ⟨_, rfl⟩
            obtain ⟨z, hz⟩ : ∃ x, a + t = x := ⟨_, rfl⟩
            have yq : q < 2 ^ 64 := by rw [← hq]; exact Nat.lt_of_le_of_lt (Nat.div_le_self _ _) hhigh
            rw [ha, hq, ht] at y2
            rw [ha, hq, ht, hz, ← ha] at y3
            have MQ := MM.out cur z y3.symm
            have hz64 : z < 2 ^ 64 := by omega
            have mN := MN.out z
            rw [← MQ.1, ← MQ.2] at mN
            have F1 := keep (show (cur : Int).tmod (M : Int) = (a : Int) by rw [Int.tmod_eq_emod_of_nonneg (by omega), ← ha]; simp)
            have F2 := keep (show (cur : Int) % (M : Int) = (a : Int) by rw [← ha]; simp)
            have F3 := keep (show (high : Int).tdiv (M : Int) = (q : Int) by rw [Int.tdiv_eq_ediv_of_nonneg (by omega), ← hq]; simp)
            have F4 := keep (show (high : Int) / (M : Int) = (q : Int) by rw [← hq]; simp)
            have F5 := keep (show (q : Int) * (M : Int) = (t : Int) by rw [← ht]; simp)
            have F6 := keep (show IntKind.u64.wrap (t : Int) = (t : Int) by rw [IntKind.wrap_u64]; omega)
            have F7 := keep (show (a : Int) + (t : Int) = (z : Int) by rw [← hz]; simp)
            have F8 := keep (show IntKind.u64.wrap (z : Int) = (z : Int) by rw [IntKind.wrap_u64]; omega)
            have FA := keep (show IntKind.u64.wrap (q : Int) = (q : Int) by rw [IntKind.wrap_u64]; omega)
            have F9 := keep (show ¬ (M : Int) = 0 by omega)
            have MNz := keep mN
            have HZ := keep hz64
            clear y1 y2 y3 yq mMp mMu ha hq ht hz MQ hz64 mN HX HMU MM MN
            go_wp2_with fail
            have hb0 : Below w7.heap.size w7 w7.drew := (Below.refl w7.heap.size w7).drew
            refine wp_region_held_drew (S := fun _ => True) (by kernel_rfl) trivial (fun hHeld => ?_)
            refine wpAnyH_take (i := 0) (oi := { dst := some 131, op := _, type := _, pos := _, after := _, guard := _ }) (v := ?v48) rfl (by kernel_rfl) (by kernel_rfl) (by kernel_rfl) (fun _ _ _ h => h) (Or.inl ⟨by rfl, ?hy48⟩) (by assumption) ?rest48
            case hy48 => (intro w hSw; go_simp; try with_reducible rfl)
            try simp only [Act.put, List.setIfInBounds_toArray, List.set_cons_zero, List.set_cons_succ]
            refine wpAnyH_take (i := 1) (oi := { dst := some 132, op := _, type := _, pos := _, after := _, guard := _ }) (v := ?v49) rfl (by kernel_rfl) (by kernel_rfl) (by kernel_rfl) (fun _ _ _ h => h) (Or.inl ⟨by rfl, ?hy49⟩) (by assumption) ?rest49
            case hy49 => (intro w hSw; go_simp; try with_reducible rfl)
            try simp only [Act.put, List.setIfInBounds_toArray, List.set_cons_zero, List.set_cons_succ]
            refine wpAnyH_take (i := 2) (oi := { dst := some 133, op := _, type := _, pos := _, after := _, guard := _ }) (v := ?v50) rfl (by kernel_rfl) (by kernel_rfl) (by kernel_rfl) (fun _ _ _ h => h) (Or.inl ⟨by rfl, ?hy50⟩) (by assumption) ?rest50
            case hy50 => (intro w hSw; go_simp; try with_reducible rfl)
            try simp only [Act.put, List.setIfInBounds_toArray, List.set_cons_zero, List.set_cons_succ]
            have f1 := F1.out
            have f2 := F2.out
            have f9 := F9.out
            have f10 : ¬ M = 0 := by omega
            refine wpAnyH_take (i := 3) (oi := { dst := some 134, op := _, type := _, pos := _, after := _, guard := _ }) (v := (.int .u64 (a : Int))) rfl (by kernel_rfl) (by kernel_rfl) (by kernel_rfl) (fun _ _ _ h => h) (Or.inl ⟨by rfl, ?hy51⟩) (by assumption) ?rest51
            case hy51 => (intro w hSw; first | (go_simp; done) | (go_simp; simp [*]; done) | (simp [*]; go_simp; done))
            try simp only [Act.put, List.setIfInBounds_toArray, List.set_cons_zero, List.set_cons_succ]
            clear f1 f2
            refine wpAnyH_take (i := 4) (oi := { dst := some 135, op := _, type := _, pos := _, after := _, guard := _ }) (v := ?v52) rfl (by kernel_rfl) (by kernel_rfl) (by kernel_rfl) (fun _ _ _ h => h) (Or.inl ⟨by rfl, ?hy52⟩) (by assumption) ?rest52
            case hy52 => (intro w hSw; go_simp; try with_reducible rfl)
            try simp only [Act.put, List.setIfInBounds_toArray, List.set_cons_zero, List.set_cons_succ]
            refine wpAnyH_take (i := 5) (oi := { dst := some 136, op := _, type := _, pos := _, after := _, guard := _ }) (v := ?v53) rfl (by kernel_rfl) (by kernel_rfl) (by kernel_rfl) (fun _ _ _ h => h) (Or.inl ⟨by rfl, ?hy53⟩) (by assumption) ?rest53
            case hy53 => (intro w hSw; go_simp; try with_reducible rfl)
            try simp only [Act.put, List.setIfInBounds_toArray, List.set_cons_zero, List.set_cons_succ]
            have f3 := F3.out
            have f4 := F4.out
            have fa := FA.out
            refine wpAnyH_take (i := 6) (oi := { dst := some 137, op := _, type := _, pos := _, after := _, guard := _ }) (v := (.int .u64 (q : Int))) rfl (by kernel_rfl) (by kernel_rfl) (by kernel_rfl) (fun _ _ _ h => h) (Or.inl ⟨by rfl, ?hy54⟩) (by assumption) ?rest54
            case hy54 => (intro w hSw; first | (go_simp; done) | (go_simp; simp [*]; done) | (simp [*]; go_simp; done))
            try simp only [Act.put, List.setIfInBounds_toArray, List.set_cons_zero, List.set_cons_succ]
            clear f3 f4 f9 f10 fa
            refine wpAnyH_take (i := 7) (oi := { dst := some 138, op := _, type := _, pos := _, after := _, guard := _ }) (v := ?v55) rfl (by kernel_rfl) (by kernel_rfl) (by kernel_rfl) (fun _ _ _ h => h) (Or.inl ⟨by rfl, ?hy55⟩) (by assumption) ?rest55
            case hy55 => (intro w hSw; go_simp; try with_reducible rfl)
            try simp only [Act.put, List.setIfInBounds_toArray, List.set_cons_zero, List.set_cons_succ]
            have f5 := F5.out
            have f6 := F6.out
            refine wpAnyH_take (i := 8) (oi := { dst := some 139, op := _, type := _, pos := _, after := _, guard := _ }) (v := (.int .u64 (t : Int))) rfl (by kernel_rfl) (by kernel_rfl) (by kernel_rfl) (fun _ _ _ h => h) (Or.inl ⟨by rfl, ?hy56⟩) (by assumption) ?rest56
            case hy56 => (intro w hSw; first | (go_simp; done) | (go_simp; simp [*]; done) | (simp [*]; go_simp; done))
            try simp only [Act.put, List.setIfInBounds_toArray, List.set_cons_zero, List.set_cons_succ]
            clear f5 f6
            have f7 := F7.out
            have f8 := F8.out
            refine wpAnyH_take (i := 9) (oi := { dst := some 140, op := _, type := _, pos := _, after := _, guard := _ }) (v := (.int .u64 (z : Int))) rfl (by kernel_rfl) (by kernel_rfl) (by kernel_rfl) (fun _ _ _ h => h) (Or.inl ⟨by rfl, ?hy57⟩) (by assumption) ?rest57
            case hy57 => (intro w hSw; first | (go_simp; done) | (go_simp; simp [*]; done) | (simp [*]; go_simp; done))
            try simp only [Act.put, List.setIfInBounds_toArray, List.set_cons_zero, List.set_cons_succ]
            clear f7 f8
            refine wpAnyH_take (i := 10) (oi := { dst := some 141, op := _, type := _, pos := _, after := _, guard := _ }) (v := ?v58) rfl (by kernel_rfl) (by kernel_rfl) (by kernel_rfl) (fun _ _ _ h => h) (Or.inl ⟨by rfl, ?hy58⟩) (by assumption) ?rest58
            case hy58 => (intro w hSw; go_simp; try with_reducible rfl)
            try simp only [Act.put, List.setIfInBounds_toArray, List.set_cons_zero, List.set_cons_succ]
            refine wpAnyH_ready (rs := [11]) (by kernel_rfl) (by simp) ?_
            refine AllReadyH.cons (o := { dst := some 142, op := _, type := _, pos := _, after := _, guard := _ }) rfl (fun K hK => ?_) AllReadyH.nil
            go_simp
            refine (MNz.out _ HZ.out (HB7.out.trans (hb0.mono HB7.out.size))).mono ?_
            rintro _ w8 ⟨⟨v8, rfl, hk8⟩, hb8⟩
            have hb78 := hb0.trans (hb8.mono hb0.size)
            have mE := same_any w8 v7 v8 (tl cur) (Ks.rd (own_kept HK7.out (fun k hk => hb78.block k (own_lt HK7.out hk)))) hk8.rd
            have HB8 := keep (HB7.out.trans (hb78.mono HB7.out.size))
            refine hK.out _ _ trivial (fun hHeld => ?_)
            try simp only [Act.put, List.setIfInBounds_toArray, List.set_cons_zero, List.set_cons_succ]
            clear hK hk8 hb8 hb78 hb0 MNz HZ F1 F2 F3 F4 F5 F6 F7 F8 F9 FA
            refine wpAnyH_take (i := 12) (oi := { dst := some 130, op := _, type := _, pos := _, after := _, guard := _ }) (v := ?v59) rfl (by kernel_rfl) (by kernel_rfl) (by kernel_rfl) (fun _ _ _ h => h) (Or.inl ⟨by rfl, ?hy59⟩) (by assumption) ?rest59
            case hy59 => (intro w hSw; go_simp; try with_reducible rfl)
            try simp only [Act.put, List.setIfInBounds_toArray, List.set_cons_zero, List.set_cons_succ]
            refine wpAnyH_take (i := 13) (oi := { dst := some 143, op := _, type := _, pos := _, after := _, guard := _ }) (v := ?v60) rfl (by kernel_rfl) (by kernel_rfl) (by kernel_rfl) (fun _ _ _ h => h) (Or.inl ⟨by rfl, ?hy60⟩) (by assumption) ?rest60
            case hy60 => (intro w hSw; go_simp; try with_reducible rfl)
            try simp only [Act.put, List.setIfInBounds_toArray, List.set_cons_zero, List.set_cons_succ]
            refine wpAnyH_take (i := 14) (oi := { dst := some 144, op := _, type := _, pos := _, after := _, guard := _ }) (v := ?v61) rfl (by kernel_rfl) (by kernel_rfl) (by kernel_rfl) (fun _ _ _ h => h) (Or.inl ⟨by rfl, ?hy61⟩) (by assumption) ?rest61
            case hy61 => (intro w hSw; go_simp; try with_reducible rfl)
            try simp only [Act.put, List.setIfInBounds_toArray, List.set_cons_zero, List.set_cons_succ]
            refine wpAnyH_take (i := 15) (oi := { dst := some 25, op := _, type := _, pos := _, after := _, guard := _ }) (v := ?v62) rfl (by kernel_rfl) (by kernel_rfl) (by kernel_rfl) (fun _ _ _ h => h) (Or.inl ⟨by rfl, ?hy62⟩) (by assumption) ?rest62
            case hy62 => (intro w hSw; go_simp; try with_reducible rfl)
            try simp only [Act.put, List.setIfInBounds_toArray, List.set_cons_zero, List.set_cons_succ]
            refine wpAnyH_take (i := 16) (oi := { dst := some 26, op := _, type := _, pos := _, after := _, guard := _ }) (v := ?v63) rfl (by kernel_rfl) (by kernel_rfl) (by kernel_rfl) (fun _ _ _ h => h) (Or.inl ⟨by rfl, ?hy63⟩) (by assumption) ?rest63
            case hy63 => (intro w hSw; go_simp; try with_reducible rfl)
            try simp only [Act.put, List.setIfInBounds_toArray, List.set_cons_zero, List.set_cons_succ]
            refine wpAnyH_done (by kernel_rfl) ?_ _
            clear hHeld
            go_wp2_with fail
            refine mE.mono ?_
            rintro _ w9 ⟨rfl, hb9⟩
            have HB9 := keep (hBo.out.trans ((HB8.out.trans (hb9.mono HB8.out.size)).mono hBo.out.size))
            clear mE hb9 HB8
            go_wp2
            go_ret
            exact ⟨rfl, HB9.out⟩
end Go.Proofs.Ytnkladifalnmnaa
