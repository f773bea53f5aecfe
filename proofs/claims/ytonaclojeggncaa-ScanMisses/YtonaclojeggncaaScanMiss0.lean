/-
  The walk of ScanMisses: a scan with changes between has told each key that was there all the while.
-/
import Derived.Test.YtonaclojeggncaaScanOnce0
import Derived.Test.YtonaclojeggncaaScanCov
import Derived.Test.YtonaclojeggncaaScanStays
import Derived.Test.YtonaclojeggncaaScanOpen2
import Derived.Maps.AppendAt
namespace Go.Proofs.Ytonaclojeggncaa
open Go.RowKit Go.Shelf
attribute [local go_sem] Oper.semAt_some
theorem app_at (B : Nat) (w : World) (v v2 : Value) (xs ys : List ByteArray) (B2 : Nat) (h1 : Ks B w v xs) (h2 : Ks B2 w v2 ys) (hb : B ≤ w.heap.size) (hl : xs.length + ys.length ≤ 8000000000000) :
    ∃ v' w', (Builtin.append_ #[36, 36] 36 #[v, v2]).run Try.prog w = .ok v' w' ∧ Ks B w' v' (xs ++ ys) ∧ Below B w w' ∧ w.grownBy w' v.ownBlock ∧ (v'.ownBlock = v.ownBlock ∨ v'.ownBlock = some w.heap.size) := by
  obtain ⟨i0, hi0, hz0, hz1, hz2⟩ := info_parts info_strK
  have h2' := h2
  unfold Ks at h2'
  rcases h2'.2 with ⟨rfl, h0⟩ | ⟨g, cap, cur, rfl, _⟩
  · have e : ys = [] := List.length_eq_zero_iff.1 h0
    subst e
    rw [List.append_nil]
    unfold Ks at h1
    exact ⟨v, w, run_append_owned_none (P := Try.prog) (w := w) B _ _ 9 i0 1 Try.underlying36 hi0 _ xs.length _ h1, h1, Below.refl _ _, ⟨rfl, rfl, rfl, Nat.le_refl _, fun _ _ _ => rfl⟩, .inl rfl⟩
  · unfold Ks at h1 h2
    obtain ⟨v', w', r1, r2, r3, _, r5⟩ := run_append_own_at (P := Try.prog) w B 36 36 9 i0 (.string .empty) 1 16 Try.underlying36 hi0 hz0 hz1 hz2 rfl (by decide) v xs.length _ h1 ⟨g, 0, none⟩ ys.length cap (ys.map Value.string) (by simp) (fun j u hu => h2.cells (g := g) rfl j u hu) (fun u hu => by
      obtain ⟨y, _, rfl⟩ := List.mem_map.1 hu
      rfl) (by unfold maxLen; omega) (by omega) hb
    refine ⟨v', w', r1, ?_, (Below.refl B w).grown r3 hb (fun k hk => (h1.lt k hk).1), r3, r5⟩
    unfold Ks
    rw [List.length_append, List.map_append]
    exact r2
/-- a dict, what was told so far, and the keys that were there all the while -/
structure Mi (h : ByteArray → Nat) (N : Nat) (W w : World) (r : Roles) (b seed : Nat) (s : Sd) (T : Value) (tl : List ByteArray) (A : Value) (al : List ByteArray) : Prop where
  dict : Dd h N w r b seed s
  base : Below W.heap.size W w
  low : ∀ k, k < W.heap.size → r k = (0, 0)
  told : Ks W.heap.size w T tl
  all : Ks W.heap.size w A al
  rT : ∀ k, T.ownBlock = some k → r k = (0, 0)
  rA : ∀ k, A.ownBlock = some k → r k = (0, 0)
  ne : ∀ k, T.ownBlock = some k → A.ownBlock ≠ some k
section
variable {h : ByteArray → Nat} {N N' : Nat} {W w w' : World} {r r' : Roles} {b seed : Nat} {s s' : Sd} {T A : Value} {tl al : List ByteArray}
theorem free_new (hd : Dd h N w r b seed s) {k : Nat} (hk : w.heap.size ≤ k) : r k = (0, 0) := Classical.byContradiction fun e => by have := hd.1.1 k e; omega
theorem Mi.chg (m : Mi h N W w r b seed s T tl A al) (hd : Dd h N' w' r' b seed s') (hf : Fr w r w' r') : Mi h N' W w' r' b seed s' T tl A al :=
  ⟨hd, m.base.trans (hf.below m.base.size m.low), fun k hk => (hf.2.2 k (Nat.lt_of_lt_of_le hk m.base.size) (m.low k hk)).2,
    own_kept m.told (fun k hk => (hf.2.2 k (own_lt m.told hk) (m.rT k hk)).1), own_kept m.all (fun k hk => (hf.2.2 k (own_lt m.all hk) (m.rA k hk)).1),
    fun k hk => (hf.2.2 k (own_lt m.told hk) (m.rT k hk)).2, fun k hk => (hf.2.2 k (own_lt m.all hk) (m.rA k hk)).2, m.ne⟩
theorem Mi.below (m : Mi h N W w r b seed s T tl A al) (hb : Below w.heap.size w w') : Mi h N W w' r b seed s T tl A al :=
  ⟨m.dict.below hb, m.base.trans (hb.mono m.base.size), m.low, own_kept m.told (fun k hk => hb.block k (own_lt m.told hk)), own_kept m.all (fun k hk => hb.block k (own_lt m.all hk)), m.rT, m.rA, m.ne⟩
theorem Mi.stay {A' : Value} {al' : List ByteArray} (m : Mi h N W w r b seed s T tl A al) (hb : Below w.heap.size w w') (hA : Ks w.heap.size w' A' al') : Mi h N W w' r b seed s T tl A' al' := by
  have m2 := m.below hb
  have hlt : ∀ k, A'.ownBlock = some k → w.heap.size ≤ k := fun k hk => (World.ownsRow.lt hA k hk).1
  exact ⟨m2.dict, m2.base, m2.low, m2.told, own_mono hA m.base.size, m2.rT, fun k hk => free_new m.dict (hlt k hk), fun k hk e => by have := hlt k e; have := own_lt m.told hk; omega⟩
theorem Mi.add {v2 : Value} {l2 : List ByteArray} (m : Mi h N W w r b seed s T tl A al) (hb : Below w.heap.size w w') (h2 : Ks w.heap.size w' v2 l2) (hl : tl.length + l2.length ≤ 8000000000000) :
    ∃ T' w3, (Builtin.append_ #[36, 36] 36 #[T, v2]).run Try.prog w' = .ok T' w3 ∧ Mi h N W w3 r b seed s T' (tl ++ l2) A al := by
  have m2 := m.below hb
  obtain ⟨T', w3, r1, r2, r3, r4, r5⟩ := app_at W.heap.size w' T v2 tl l2 w.heap.size m2.told h2 m2.base.size hl
  refine ⟨T', w3, r1, m2.dict.kept r4.size (fun k hk hr => r4.block k hk (fun e => hr (m2.rT k e.symm))), m2.base.trans r3, m2.low, r2, own_kept m2.all (fun k hk => r4.block k (own_lt m2.all hk) (fun e => m2.ne k e.symm hk)), ?_, m2.rA, ?_⟩
  · intro k hk
    rcases r5 with e | e
    · exact m2.rT k (e ▸ hk)
    · rw [e] at hk
      cases hk
      exact free_new m2.dict (Nat.le_refl _)
  · intro k hk e2
    rcases r5 with e | e
    · exact m2.ne k (e ▸ hk) e2
    · rw [e] at hk
      cases hk
      have := own_lt m2.all e2
      omega
theorem mi_new {w1 w2 : World} (c : Sc h N W w r b seed s) (hb1 : Below w.heap.size w w1) (hA : Ks w.heap.size w1 A al) (hb2 : Below w1.heap.size w1 w2) (hT : Ks w1.heap.size w2 T tl) : Mi h N W w2 r b seed s T tl A al := by
  have c1 := c.below hb1
  have c2 := c1.below hb2
  have hlA : ∀ k, A.ownBlock = some k → w.heap.size ≤ k ∧ k < w1.heap.size := fun k hk => World.ownsRow.lt hA k hk
  have hlT : ∀ k, T.ownBlock = some k → w1.heap.size ≤ k := fun k hk => (World.ownsRow.lt hT k hk).1
  exact ⟨c2.1, c2.2.1, c2.2.2, own_mono hT c1.2.1.size, own_mono (own_kept hA (fun k hk => hb2.block k (hlA k hk).2)) c.2.1.size, fun k hk => free_new c1.1 (hlT k hk), fun k hk => free_new c.1 (hlA k hk).1, fun k hk e => by have := hlT k hk; have := (hlA k e).2; omega⟩
end
/-- done: each of the keys that lies ahead of the cursor is told -/
def Don (h : ByteArray → Nat) (c : Nat) (al tl : List ByteArray) : Prop := ∀ k ∈ al, (c = 0 ∨ Rv.plc (h k) < Rv.plc c) → k ∈ tl
theorem Don.next {h : ByteArray → Nat} {c c' : Nat} {al tl l : List ByteArray} {s : Sd} (hd : Don h c al tl) (hin : ∀ k ∈ al, Has s k) (hcov : ∀ k, Has s k → Rv.plc c ≤ Rv.plc (h k) → (c' = 0 ∨ Rv.plc (h k) < Rv.plc c') → k ∈ l) : Don h c' al (tl ++ l) := by
  intro k hk hdn
  rcases Nat.lt_or_ge (Rv.plc (h k)) (Rv.plc c) with q | q
  · exact List.mem_append_left _ (hd k hk (.inr q))
  · exact List.mem_append_right _ (hcov k (hin k hk) q hdn)
theorem Don.rest {h : ByteArray → Nat} {c : Nat} {al tl l : List ByteArray} {s : Sd} (hd : Don h c al tl) (hin : ∀ k ∈ al, Has s k) (hcov : ∀ k, Has s k → Rv.plc c ≤ Rv.plc (h k) → k ∈ l) : ∀ k ∈ al, k ∈ tl ++ l :=
  fun k hk => hd.next hin (c' := 0) (fun k a b _ => hcov k a b) k hk (.inl rfl)
set_option maxRecDepth 100000 in
set_option maxHeartbeats 4000000 in
theorem misses_walk {h : ByteArray → Nat} (W : World) (seed : Nat) (hH : HashIs seed h) (so : Option Addr) (cs : Nat) (S : List Cg) (hS : Cgs W so S) (hcap : S.length ≤ cs) (so2 : Option Addr) (cs2 : Nat) (S2 : List Sp) (hS2 : Sps W so2 S2) :
    Calls Try.prog 5 #[.int .u64 seed, .slice so S.length cs, .slice so2 S2.length cs2] W fun e w' => e = .returned (.bool true) ∧ Below W.heap.size W w' := by
  have mF := fun w => few_any w so S.length cs hcap (fun h0 => by obtain ⟨a, e, _⟩ := hS 0 h0; exact ⟨a, e⟩)
  obtain ⟨L, hL⟩ : ∃ L, min S.length 1048576 = L := ⟨_, rfl⟩
  obtain ⟨L0, hL0⟩ : ∃ L, S.length = L := ⟨_, rfl⟩
  obtain ⟨L2, hL2⟩ : ∃ L, S2.length = L := ⟨_, rfl⟩
  have hn : L ≤ 1048576 := by omega
  have hLS : L ≤ S.length := by omega
  rw [hL] at mF
  rw [hL0] at mF ⊢
  rw [hL2]
  have HLS := keep hLS
  have HS := keep hS
  have HS2 := keep hS2
  have HL2 := keep hL2
  have MF := keep mF
  clear hL hS hL0 hLS hcap mF hS2 hL2
  go_enter Try.func5, Try.ntmps5
  go_wp2_with fail
  refine (wakes_any _).mono ?_
  rintro _ w0 ⟨rfl, hb0⟩
  go_wp2_with fail
  refine (new_any h w0 seed 0).mono ?_
  rintro _ w1 ⟨rfl, hb1, hz1, hd1⟩
  have SC := keep (sc_new hb0 hb1 hd1)
  generalize (fun k => if k = w0.heap.size then (5, 0) else (0, 0) : Roles) = r0 at SC
  obtain ⟨b, hb⟩ : ∃ x, x = w0.heap.size := ⟨_, rfl⟩
  rw [← hb] at SC ⊢
  clear hb0 hb1 hz1 hd1 hb
  have mS := set_any hH w1 r0 b _ alw 1 SC.out.1 (by omega) alw_size
  go_wp2_with fail
  refine mS.mono ?_
  rintro _ w2 ⟨rfl, r2, hd2, hf2⟩
  have SC2 := keep (SC.out.go hd2 hf2)
  generalize (Dc.set h Dc.none0 alw (1 : Int)).1 = s2 at SC2
  clear mS hd2 hf2 SC
  have mF := MF.out w2
  clear MF
  go_wp2_with fail
  refine mF.mono ?_
  rintro _ w2' ⟨rfl, hw⟩
  subst hw
  clear mF
  go_wp2
  go_loopw [8] (fun i wr => ∃ k : Nat, k ≤ L ∧ i = .int .i64 k ∧ ∃ r s, Kept (Sc h (k + 1) W wr r b seed s)) (fun i _ => L - (intOf i).toNat)
  case atStart => exact ⟨0, Nat.zero_le _, rfl, r2, s2, SC2⟩
  case round =>
    clear SC2
    obtain ⟨k, hk, rfl, r, s, SK⟩ := hrel
    by_cases hlt : k < L
    · have hltz : (k : Int) < (L : Int) := by omega
      obtain ⟨a, rfl, hab, hky, hst0⟩ := HS.out k (by have := HLS.out; omega)
      have hst := hst0.bel SK.out.2.1 (by rw [add_block]; exact hab)
      clear hst0
      generalize S[k]'(by have := HLS.out; omega) = o at hst hky
      have mC := change_any hH wr r b s o SK.out.1 (by omega) hky
      obtain ⟨op, ky⟩ := o
      obtain ⟨t0, t1⟩ := hst
      dsimp only at t0 t1 mC
      go_wp2_with fail
      refine mC.mono ?_
      rintro _ w3 ⟨rfl, r', s', hd3, _, hf3⟩
      have SC3 := keep (SK.out.go hd3 hf3)
      clear mC hd3 hf3 SK t0 t1
      go_wp2
      go_roundw
      case measure => simp [intOf]; omega
      case rel => exact ⟨k + 1, by omega, by go_num, r', s', SC3⟩
    · have hltz : ¬ (k : Int) < (L : Int) := by omega
      obtain ⟨wo, hwo⟩ : ∃ x, x = wr := ⟨_, rfl⟩
      subst hwo
      clear HS HLS
      have hI := SK.out.1.2.1
      have hkn : (Dc.keys (Dc.all s)).length = (Dc.all s).length := by unfold Dc.keys; rw [List.length_map]
      have hal : (Dc.all s).length ≤ k + 1 := SK.out.1.2.2.2.1
      have mK := keys_any wo r b seed (k + 1) s SK.out.1 (by omega)
      have HIN := keep fun x (hx : x ∈ Dc.keys (Dc.all s)) => (has_mem hI).2 hx
      have ML := keep fun (w : World) (hb : Below wo.heap.size wo w) => len_any w r b seed _ s (SK.out.1.below hb).1
      clear hI
      generalize Dc.keys (Dc.all s) = K at *
      generalize (Dc.all s).length = n at *
      have HKN := keep hkn
      clear hkn
      go_wp2_with fail
      refine mK.mono ?_
      rintro _ w3 ⟨⟨va, rfl, hka⟩, hb3⟩
      have mL := ML.out w3 hb3
      obtain ⟨ao, ca, hva⟩ := hka.len
      rw [HKN.out] at hva
      subst hva
      have HKA := keep hka
      have HB3 := keep hb3
      clear mK ML hka hb3
      go_wp2_with fail
      refine mL.mono ?_
      rintro _ w3' ⟨rfl, hw⟩
      subst hw
      clear mL
      obtain ⟨c1, l1, mN, hc1, hl1, hcov⟩ := next_cov w3' r b seed (k + 1) s (SK.out.1.below HB3.out) (by omega) 0 (by decide) 1
      have HD1 : Kept (Don h c1 K l1) := fun x hx hdn => hcov x (HIN.out x hx) (by rw [Rv.plc_zero]; exact Nat.zero_le _) hdn
      clear hcov
      go_wp2_with fail
      refine mN.mono ?_
      rintro _ w4 ⟨⟨vt, rfl, hkt⟩, hb4⟩
      have MI := keep (mi_new SK.out HB3.out HKA.out hb4 hkt)
      clear mN hkt hb4 HKA HB3 SK
      go_wp2
      go_loopw [9, 10, 11, 12, 13, 14] (fun A cv T i _ _ wr => ∃ (c j : Nat) (r : Roles) (s : Sd) (tl al : List ByteArray), c < 2 ^ 64 ∧ j ≤ L2 ∧ j ≤ 1048576 ∧ tl.length ≤ (j + 1) * 4194308 ∧ al.length ≤ 1048577 ∧ cv = .int .u64 (c : Int) ∧ i = .int .i64 (j : Int) ∧ Kept (Mi h (k + 1 + j) W wr r b seed s T tl A al) ∧ Kept (∀ x ∈ al, Has s x) ∧ Kept (Don h c al tl)) (fun _ _ _ i _ _ _ => L2 - (intOf i).toNat)
      case atStart => exact ⟨c1, 0, r, s, l1, K, hc1, Nat.zero_le _, Nat.zero_le _, by omega, by rw [HKN.out]; omega, rfl, rfl, MI, HIN, HD1⟩
      case round =>
        clear MI HIN HD1 HKN hl1 hc1
        obtain ⟨c, j, r, s, tl, al, hc, hj, hj2, htl, hall, rfl, rfl, KM, KI, KD⟩ := hrel
        by_cases hgo : j < L2 ∧ j < 1048576 ∧ c ≠ 0
        · obtain ⟨g1, g2, g3⟩ := hgo
          have z1 : (j : Int) < (L2 : Int) := by omega
          have z2 : (j : Int) < 1048576 := by omega
          have z3 : ((c : Int) != 0) = true := by simp; omega
          have z4 : ((c : Int) == 0) = false := beq_eq_false_iff_ne.2 (by omega)
          obtain ⟨a, rfl, hab, hky, hst0⟩ := HS2.out j (by rw [HL2.out]; exact g1)
          generalize S2[j]'(by rw [HL2.out]; exact g1) = o at hst0 hky
          have HST := keep fun (w : World) (hb : Below W.heap.size W w) => hst0.bel hb (by rw [add_block]; exact hab)
          obtain ⟨t0, t1, t2⟩ := HST.out wr KM.out.base
          obtain ⟨op, ky, cn⟩ := o
          dsimp only at t0 t1 t2 hky
          have mC := change_any hH wr r b s ⟨op, ky⟩ KM.out.dict (by omega) hky
          dsimp only at mC
          clear hst0
          go_wp2_with fail
          refine mC.mono ?_
          rintro _ w5 ⟨rfl, r', s', hd5, hst5, hf5⟩
          have M5 := keep (KM.out.chg hd5 hf5)
          have HST5 := keep hst5
          clear mC hd5 hf5 KM t0 t1 t2 hst5
          obtain ⟨t0, t1, t2⟩ := HST.out w5 M5.out.base
          dsimp only at t0 t1 t2
          have mS := stays_any w5 _ al ⟨op, ky⟩ M5.out.all.rd (by omega)
          dsimp only at mS
          go_wp2_with fail
          refine mS.mono ?_
          rintro _ w6 ⟨⟨A', al', rfl, hkA, hsty⟩, hb6⟩
          have M6 := keep (M5.out.stay hb6 hkA)
          have KI6 : Kept (∀ x ∈ al', Has s' x) := fun x hx => HST5.out (hsty.1 x hx).2.1 x (KI.out x (hsty.1 x hx).1) (hsty.1 x hx).2.2
          have KD6 : Kept (Don h c al' tl) := fun x hx hd => KD.out x (hsty.1 x hx).1 hd
          have hal6 : al'.length ≤ 1048577 := Nat.le_trans hsty.2 hall
          clear mS hkA hsty hb6 M5 HST5 KI KD t0 t1 t2 hall
          obtain ⟨t0, t1, t2⟩ := HST.out w6 M6.out.base
          dsimp only at t0 t1 t2
          have HTL := keep htl
          have HCC := keep hc
          by_cases qc : 0 ≤ cn
          · obtain ⟨c', l', mN, hc', hl', hcov⟩ := next_cov w6 r' b seed (k + 1 + j + 1) s' M6.out.dict (by omega) c hc cn
            have HCV := keep hcov
            clear hcov
            go_wp2_with fail
            refine mN.mono ?_
            rintro _ w7 ⟨⟨v7, rfl, hk7⟩, hb7⟩
            have hsum : tl.length + l'.length ≤ (j + 1 + 1) * 4194308 := by omega
            obtain ⟨T', w8, r1, m8⟩ := M6.out.add hb7 hk7 (by omega)
            have R1 := keep r1
            have M8 := keep m8
            have KD8 := keep (KD6.out.next KI6.out HCV.out)
            have HSUM := keep hsum
            have HC' := keep hc'
            have HC := keep hc
            clear mN hk7 hb7 r1 m8 HCV M6 KD6 t0 t1 t2 hsum hl' htl hc' hc hky z1 z2 z3 z4
            go_wp2_with (at_builtin; refine wpList_app_run rfl _ _ _ rfl _ _ _ rfl rfl R1.out ?_)
            go_roundw
            case measure => simp [intOf]; omega
            case rel => exact ⟨c', j + 1, r', s', tl ++ l', al', HC'.out, by omega, by omega, by rw [List.length_append]; exact HSUM.out, hal6, rfl, by go_num, M8, KI6, KD8⟩
          · clear hc hky z1 z2 z3 z4 htl
            go_wp2
            go_roundw
            case measure => simp [intOf]; omega
            case rel =>
              clear qc
              have h9 : tl.length ≤ (j + 1 + 1) * 4194308 := Nat.le_trans HTL.out (Nat.mul_le_mul_right 4194308 (Nat.le_succ (j + 1)))
              exact ⟨c, j + 1, r', s', tl, al', HCC.out, by omega, by omega, h9, hal6, rfl, by go_num, M6, KI6, KD6⟩
        · have hex : (¬ j < L2) ∨ (j < L2 ∧ ¬ j < 1048576) ∨ (j < L2 ∧ j < 1048576 ∧ c = 0) := by omega
          clear HS2 HL2 hgo
          have HTL := keep htl
          have HCC := keep hc
          have hall2 : al.length ≤ 9000000000000000000 := by omega
          have htl2 : tl.length ≤ 4400000000000 := by omega
          have HT2 := keep htl2
          obtain ⟨ao', ca', hva⟩ := KM.out.all.len
          obtain ⟨m, hm⟩ : ∃ x, al.length = x := ⟨_, rfl⟩
          rw [hm] at hva hall2
          subst hva
          have HM := keep hm
          have kN : k + 1 + j ≤ 2097154 := by omega
          clear htl hc htl2 hall hm hal
          have MR := rest_any wr r b seed (k + 1 + j) s KM.out.dict (by omega) c HCC.out 3
          by_cases q0 : c = 0
          · subst q0
            have KT : Kept (∀ x ∈ al, x ∈ tl) := fun x hx => KD.out x hx (.inl rfl)
            clear MR
            rcases hex with q | ⟨q, q'⟩ | ⟨q, q', _⟩
            · have z1 : ¬ (j : Int) < (L2 : Int) := by omega
              go_wp2
              go_loopw [17] (fun i wq => ∃ y : Nat, y ≤ m ∧ i = .int .i64 (y : Int) ∧ wq = wr) (fun i _ => m - (intOf i).toNat)
              case atStart => exact ⟨0, Nat.zero_le _, rfl, rfl⟩
              case round =>
                obtain ⟨y, hy, rfl, hwq⟩ := hrel
                subst hwq
                by_cases hlty : y < m
                · have hzy : (y : Int) < (m : Int) := by omega
                  have hz0 : (0 : Int) ≤ (y : Int) := by omega
                  obtain ⟨x, hx⟩ : ∃ x, al[y]? = some x := ⟨_, List.getElem?_eq_getElem (by rw [HM.out]; exact hlty)⟩
                  obtain ⟨g, rfl, c0⟩ := (KM.out.all.rd).open hx
                  have mA := among_any _ _ tl x true ⟨fun _ => KT.out x (List.mem_of_getElem? hx), fun _ => rfl⟩ KM.out.told.rd
                  clear hx
                  go_wp2_with fail
                  refine mA.mono ?_
                  rintro _ w9 ⟨rfl, hw9⟩
                  obtain rfl := hw9
                  clear mA c0
                  go_wp2
                  go_roundw
                  case measure => simp [intOf]; omega
                  case rel => exact ⟨y + 1, by omega, by go_num, by trivial⟩
                · have hzy : ¬ (y : Int) < (m : Int) := by omega
                  go_wp2
                  go_ret
                  exact ⟨rfl, KM.out.base⟩
            · have z1 : (j : Int) < (L2 : Int) := by omega
              have z2 : ¬ (j : Int) < 1048576 := by omega
              go_wp2
              go_loopw [17] (fun i wq => ∃ y : Nat, y ≤ m ∧ i = .int .i64 (y : Int) ∧ wq = wr) (fun i _ => m - (intOf i).toNat)
              case atStart => exact ⟨0, Nat.zero_le _, rfl, rfl⟩
              case round =>
                obtain ⟨y, hy, rfl, hwq⟩ := hrel
                subst hwq
                by_cases hlty : y < m
                · have hzy : (y : Int) < (m : Int) := by omega
                  have hz0 : (0 : Int) ≤ (y : Int) := by omega
                  obtain ⟨x, hx⟩ : ∃ x, al[y]? = some x := ⟨_, List.getElem?_eq_getElem (by rw [HM.out]; exact hlty)⟩
                  obtain ⟨g, rfl, c0⟩ := (KM.out.all.rd).open hx
                  have mA := among_any _ _ tl x true ⟨fun _ => KT.out x (List.mem_of_getElem? hx), fun _ => rfl⟩ KM.out.told.rd
                  clear hx
                  go_wp2_with fail
                  refine mA.mono ?_
                  rintro _ w9 ⟨rfl, hw9⟩
                  obtain rfl := hw9
                  clear mA c0
                  go_wp2
                  go_roundw
                  case measure => simp [intOf]; omega
                  case rel => exact ⟨y + 1, by omega, by go_num, by trivial⟩
                · have hzy : ¬ (y : Int) < (m : Int) := by omega
                  go_wp2
                  go_ret
                  exact ⟨rfl, KM.out.base⟩
            · have z1 : (j : Int) < (L2 : Int) := by omega
              have z2 : (j : Int) < 1048576 := by omega
              go_wp2
              go_loopw [17] (fun i wq => ∃ y : Nat, y ≤ m ∧ i = .int .i64 (y : Int) ∧ wq = wr) (fun i _ => m - (intOf i).toNat)
              case atStart => exact ⟨0, Nat.zero_le _, rfl, rfl⟩
              case round =>
                obtain ⟨y, hy, rfl, hwq⟩ := hrel
                subst hwq
                by_cases hlty : y < m
                · have hzy : (y : Int) < (m : Int) := by omega
                  have hz0 : (0 : Int) ≤ (y : Int) := by omega
                  obtain ⟨x, hx⟩ : ∃ x, al[y]? = some x := ⟨_, List.getElem?_eq_getElem (by rw [HM.out]; exact hlty)⟩
                  obtain ⟨g, rfl, c0⟩ := (KM.out.all.rd).open hx
                  have mA := among_any _ _ tl x true ⟨fun _ => KT.out x (List.mem_of_getElem? hx), fun _ => rfl⟩ KM.out.told.rd
                  clear hx
                  go_wp2_with fail
                  refine mA.mono ?_
                  rintro _ w9 ⟨rfl, hw9⟩
                  obtain rfl := hw9
                  clear mA c0
                  go_wp2
                  go_roundw
                  case measure => simp [intOf]; omega
                  case rel => exact ⟨y + 1, by omega, by go_num, by trivial⟩
                · have hzy : ¬ (y : Int) < (m : Int) := by omega
                  go_wp2
                  go_ret
                  exact ⟨rfl, KM.out.base⟩
          · have hex2 : (¬ j < L2) ∨ (j < L2 ∧ ¬ j < 1048576) := by omega
            have z3 : ((c : Int) != 0) = true := by simp; omega
            have z4 : ((c : Int) == 0) = false := beq_eq_false_iff_ne.2 (by omega)
            clear hex
            rcases hex2 with q | ⟨q, q'⟩
            · have z1 : ¬ (j : Int) < (L2 : Int) := by omega
              go_wp2_with fail
              refine MR.mono ?_
              rintro _ w7 ⟨⟨v7, l7, rfl, hk7, hrs⟩, hb7⟩
              obtain ⟨hl7, hcov⟩ := rest_cov KM.out.dict.2 hrs
              obtain ⟨T', w8, r1, m8⟩ := KM.out.add hb7 hk7 (by have := HT2.out; omega)
              have R1 := keep r1
              have M8 := keep m8
              have KT : Kept (∀ x ∈ al, x ∈ tl ++ l7) := KD.out.rest KI.out hcov
              clear MR hk7 hrs hb7 hl7 hcov r1 m8 KM KD KI
              go_wp2_with (at_builtin; refine wpList_app_run rfl _ _ _ rfl _ _ _ rfl rfl R1.out ?_)
              go_loopw [17] (fun i wq => ∃ y : Nat, y ≤ m ∧ i = .int .i64 (y : Int) ∧ wq = w8) (fun i _ => m - (intOf i).toNat)
              case atStart => exact ⟨0, Nat.zero_le _, rfl, rfl⟩
              case round =>
                obtain ⟨y, hy, rfl, hwq⟩ := hrel
                subst hwq
                by_cases hlty : y < m
                · have hzy : (y : Int) < (m : Int) := by omega
                  have hz0 : (0 : Int) ≤ (y : Int) := by omega
                  obtain ⟨x, hx⟩ : ∃ x, al[y]? = some x := ⟨_, List.getElem?_eq_getElem (by rw [HM.out]; exact hlty)⟩
                  obtain ⟨g, rfl, c0⟩ := (M8.out.all.rd).open hx
                  have mA := among_any _ _ (tl ++ l7) x true ⟨fun _ => KT.out x (List.mem_of_getElem? hx), fun _ => rfl⟩ M8.out.told.rd
                  clear hx
                  go_wp2_with fail
                  refine mA.mono ?_
                  rintro _ w9 ⟨rfl, hw9⟩
                  obtain rfl := hw9
                  clear mA c0
                  go_wp2
                  go_roundw
                  case measure => simp [intOf]; omega
                  case rel => exact ⟨y + 1, by omega, by go_num, by trivial⟩
                · have hzy : ¬ (y : Int) < (m : Int) := by omega
                  go_wp2
                  go_ret
                  exact ⟨rfl, M8.out.base⟩
            · have z1 : (j : Int) < (L2 : Int) := by omega
              have z2 : ¬ (j : Int) < 1048576 := by omega
              go_wp2_with fail
              refine MR.mono ?_
              rintro _ w7 ⟨⟨v7, l7, rfl, hk7, hrs⟩, hb7⟩
              obtain ⟨hl7, hcov⟩ := rest_cov KM.out.dict.2 hrs
              obtain ⟨T', w8, r1, m8⟩ := KM.out.add hb7 hk7 (by have := HT2.out; omega)
              have R1 := keep r1
              have M8 := keep m8
              have KT : Kept (∀ x ∈ al, x ∈ tl ++ l7) := KD.out.rest KI.out hcov
              clear MR hk7 hrs hb7 hl7 hcov r1 m8 KM KD KI
              go_wp2_with (at_builtin; refine wpList_app_run rfl _ _ _ rfl _ _ _ rfl rfl R1.out ?_)
              go_loopw [17] (fun i wq => ∃ y : Nat, y ≤ m ∧ i = .int .i64 (y : Int) ∧ wq = w8) (fun i _ => m - (intOf i).toNat)
              case atStart => exact ⟨0, Nat.zero_le _, rfl, rfl⟩
              case round =>
                obtain ⟨y, hy, rfl, hwq⟩ := hrel
                subst hwq
                by_cases hlty : y < m
                · have hzy : (y : Int) < (m : Int) := by omega
                  have hz0 : (0 : Int) ≤ (y : Int) := by omega
                  obtain ⟨x, hx⟩ : ∃ x, al[y]? = some x := ⟨_, List.getElem?_eq_getElem (by rw [HM.out]; exact hlty)⟩
                  obtain ⟨g, rfl, c0⟩ := (M8.out.all.rd).open hx
                  have mA := among_any _ _ (tl ++ l7) x true ⟨fun _ => KT.out x (List.mem_of_getElem? hx), fun _ => rfl⟩ M8.out.told.rd
                  clear hx
                  go_wp2_with fail
                  refine mA.mono ?_
                  rintro _ w9 ⟨rfl, hw9⟩
                  obtain rfl := hw9
                  clear mA c0
                  go_wp2
                  go_roundw
                  case measure => simp [intOf]; omega
                  case rel => exact ⟨y + 1, by omega, by go_num, by trivial⟩
                · have hzy : ¬ (y : Int) < (m : Int) := by omega
                  go_wp2
                  go_ret
                  exact ⟨rfl, M8.out.base⟩
end Go.Proofs.Ytonaclojeggncaa
