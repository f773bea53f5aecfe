/-
  The statement's own walk: a copy of ranks goes its own way, and the same way ends alike.
-/
import Derived.Test.YtapehjlpiobeaaaRkQuad
namespace Go.Proofs.Ytapehjlpiobeaaa
open Go.RowKit Go.Shelf
set_option linter.unusedVariables false
set_option linter.unusedSimpArgs false
set_option maxRecDepth 100000 in
set_option maxHeartbeats 8000000 in
theorem copies_walk (W : World) (seed : Nat) (hseed : seed < Dw.M) (so : Option Addr) (cap : Nat) (S : List Stp) (hS : Steps W so S) (hl : S.length ≤ maxLen) (so2 : Option Addr) (cap2 : Nat) (S2 : List Stp) (hS2 : Steps W so2 S2) (hl2 : S2.length ≤ maxLen) :
    Calls Try.prog 5 #[.int .u64 seed, .slice so S.length cap, .slice so2 S2.length cap2] W fun e w' => e = .returned (.bool true) ∧ Below W.heap.size W w' := by
  have mW := kwakes_any W
  have MB := keep (fun w1 (hb : Below W.heap.size W w1) => built_any w1 seed hseed so cap S (hS.bel hb) hl)
  have HSD := keep hseed
  obtain ⟨n2, hn2⟩ : ∃ n, S2.length = n := ⟨_, rfl⟩
  have HS2 := keep hS2
  have HL2 := keep hl2
  have HN2 := keep hn2
  rw [hn2]
  generalize S.length = nS at *
  clear hS hl hS2 hl2 hn2 hseed
  go_enter Try.func5, Try.ntmps5
  go_wp2_with fail
  refine mW.mono ?_
  rintro _ w1 ⟨rfl, hb1⟩
  have mB := MB.out w1 hb1
  have HB1 := keep hb1
  clear mW MB hb1
  go_wp2_with fail
  refine mB.mono ?_
  rintro _ w2 ⟨⟨R1, lv, rfl, O1, L, M, hBt, hOB⟩, hb2⟩
  have hmath := hBt.1.math
  have hlen := hBt.2.2.2.len hmath.2.2.2
  obtain ⟨lo, lc, hlv⟩ := hBt.2.1.form
  subst hlv
  rw [← hlen] at hBt hOB ⊢
  obtain ⟨n, hn⟩ : ∃ n, L.length = n := ⟨_, rfl⟩
  rw [hn] at hBt hOB ⊢
  have HBt := keep hBt
  have HOB := keep hOB
  have HB2 := keep (Below.up HB1.out hb2)
  have HM := keep hmath
  have HN : Kept (L.length = n ∧ M.length = n ∧ n ≤ 1048576) := ⟨hn, by rw [← hlen]; exact hn, by rw [← hn]; exact hmath.2.2.1⟩
  have HOBW : Kept (∀ k, OB O1 (.slice lo n lc) k → W.heap.size ≤ k) := fun k hk => Nat.le_trans HB1.out.size (hOB k hk)
  clear mB hBt hOB hmath hlen hb2 hn HB1
  -- what it tells now
  have KL := keep (klen_any HBt.out.1)
  have KR := keep (krange_all HBt.out.1)
  rw [HN.out.1] at KL KR
  go_wp2_with fail
  refine KL.out.mono ?_
  rintro _ wl ⟨rfl, hw⟩
  obtain rfl := hw.symm
  go_wp2_with fail
  refine KR.out.mono ?_
  rintro _ w3 ⟨⟨wo, wc, rfl, hmw⟩, hb3⟩
  clear KL KR
  -- the copy
  have Bt3 := keep (HBt.out.below hb3)
  have HW3 := keep hmw
  have B3 := keep hb3
  have MC := keep (kcopy_any Bt3.out.1 HSD.out)
  clear hmw hb3
  go_wp2_with fail
  refine MC.out.mono ?_
  rintro _ w4 ⟨⟨R2, O2, rfl, hK4, hO4⟩, hb4⟩
  clear MC
  have K4 := keep hK4
  have O4 := keep hO4
  have B4 := keep hb4
  clear hK4 hO4 hb4
  have KL := keep (klen_any K4.out)
  have KR := keep (krange_all K4.out)
  rw [HN.out.1] at KL KR
  go_wp2_with fail
  refine KL.out.mono ?_
  rintro _ wl ⟨rfl, hw⟩
  obtain rfl := hw.symm
  go_wp2_with fail
  refine KR.out.mono ?_
  rintro _ w5 ⟨⟨co, cc, rfl, hm5⟩, hb5⟩
  clear KL KR
  have hw5 : Mr w2.heap.size w5 (.slice wo n wc) L := own_kept HW3.out (fun k hk => by
    have hlt := own_lt HW3.out hk
    exact (hb5.block k (Nat.lt_of_lt_of_le hlt B4.out.size)).trans (B4.out.block k hlt))
  have MS := keep (rsame_any w5 w4.heap.size w2.heap.size n cc wc co wo L hm5 hw5 HN.out.1 (by have := HN.out; omega))
  have B5 := keep hb5
  have W5 := keep hw5
  clear hm5 hb5 hw5
  go_wp2_with fail
  refine MS.out.mono ?_
  rintro _ w6 ⟨rfl, hb6⟩
  clear MS
  have B56 := keep (Below.up B5.out hb6)
  have K6 := keep (K4.out.below B56.out)
  have Bt6 := keep ((Bt3.out.below B4.out).below B56.out)
  have W6 : Kept (Mr w2.heap.size w6 (.slice wo n wc) L) := own_kept W5.out (fun k hk => hb6.block k (own_lt W5.out hk))
  clear hb6
  have C1 := keep (kcost_any K6.out)
  have C2 := keep (kcost_any Bt6.out.1)
  have hcb : ((rcst L : Nat) : Int) = ((rcst L : Nat) : Int) := rfl
  generalize (rcst L : Nat) = ct at C1 C2
  clear hcb
  go_wp2_with fail
  refine C1.out.mono ?_
  rintro _ wl ⟨rfl, hw⟩
  obtain rfl := hw.symm
  go_wp2_with fail
  refine C2.out.mono ?_
  rintro _ wl ⟨rfl, hw⟩
  obtain rfl := hw.symm
  clear C1 C2
  -- a list of its own
  obtain ⟨W7, a7, mo, mc', W8, a8, hE8, hN8, hb8⟩ := mk_list w6 _ M n Bt6.out.2.1 HN.out.2.1 (by have := HN.out; omega)
  have A8 := keep a8
  have Q0 : Kept (∃ X, Qd W X seed W8 O1 R1 L (.slice lo n lc) M O2 R2 L (.slice mo n mc') M ∧ MrR X (.slice wo n wc) L) := by
    have b24 := Below.up B3.out B4.out
    have b26 := Below.up b24 B56.out
    have b28 := Below.up b26 hb8
    have hlt1 : ∀ k, OB O1 (.slice lo n lc) k → k < w2.heap.size := fun k hk => hk.elim (HBt.out.1.lt k) (fun e => own_lt HBt.out.2.1 e)
    have h4 : ∀ k, O2 k → w3.heap.size ≤ k := O4.out
    have hO2lt : ∀ k, O2 k → k < w4.heap.size := K4.out.lt
    have hmlt : ∀ k, (Value.slice mo n mc').ownBlock = some k → w6.heap.size ≤ k := hN8
    have s23 := B3.out.size
    have s34 := B4.out.size
    have s46 := B56.out.size
    have hQ : Qd W [] seed W8 O1 R1 L (.slice lo n lc) M O2 R2 L (.slice mo n mc') M := by
      refine ⟨Bt6.out.below hb8, ⟨K6.out.below hb8, hE8, fun k hk hO => ?_, Bt6.out.2.2.2⟩, fun k h1 h2 => ?_, HOBW.out, fun k hk => ?_, Below.up HB2.out b28, fun p hp => by cases hp⟩
      · have := hmlt k hk; have := hO2lt k hO; omega
      · have := hlt1 k h1
        rcases h2 with h2 | h2
        · have := h4 k h2; omega
        · have := hmlt k h2; omega
      · have := HB2.out.size
        rcases hk with hk | hk
        · have := h4 k hk; omega
        · have := hmlt k hk; omega
    have hm8 : Mr w2.heap.size W8 (.slice wo n wc) L := own_kept W6.out (fun k hk => hb8.block k (own_lt W6.out hk))
    rcases hm8.2 with ⟨e1, e2⟩ | ⟨g, cap', cur, e1, e2, e3, rest⟩
    · exact ⟨[], hQ, fun w'' _ => ⟨hm8.1, .inl ⟨e1, e2⟩⟩⟩
    · have hgw : g < w3.heap.size := own_lt HW3.out (by rw [e1]; rfl)
      refine ⟨[(g, .cells cur 46 (0, 0))], ⟨hQ.b1, hQ.b2, hQ.dis, hQ.new1, hQ.new2, hQ.bel, fun p hp => ?_⟩, fun w'' hX => ⟨hm8.1, .inr ⟨g, cap', cur, e1, Nat.zero_le _, hX (g, _) (by simp), rest⟩⟩⟩
      simp only [List.mem_singleton] at hp
      subst hp
      refine ⟨e3, fun h1 => by have := hlt1 _ h1; omega, fun h2 => ?_⟩
      rcases h2 with h2 | h2
      · have := h4 _ h2; dsimp only at this; omega
      · have := hmlt _ h2; omega
  obtain ⟨X, q0, mr0⟩ := Q0.out
  have QD := keep q0
  have MR0 := keep mr0
  have BTM : Kept (Bt w2 O1 R1 seed L (.slice lo n lc) M) := HBt
  clear a8 hE8 hN8 hb8 q0 mr0 Q0 W5 W6 K4 K6 Bt3 Bt6 HW3 B3 B4 B5 B56 O4 HOB HOBW
  go_wp2_with (at_builtin; refine wpList_app_run rfl _ _ _ _ rfl _ _ _ rfl rfl A8.out ?_)
  go_loopg [12, 65] n2 (fun kx s12 s wz => ∃ (k : Nat) (o : Option Addr) (l c : Nat), s12 = .slice o l c ∧ s = .int .i64 k ∧ k ≤ n2 ∧ n2 - k ≤ kx ∧ ∃ Ok Lk Mk, Kept (Qd W X seed wz O1 R1 L (.slice lo n lc) M Ok R2 Lk (.slice o l c) Mk ∧ runR (S2.take k) M Mk ∧ Mk.length = l))
  case atStart => exact ⟨0, mo, n, mc', rfl, rfl, Nat.zero_le _, by omega, O2, L, M, QD.out, rfl, HN.out.2.1⟩
  case round =>
    obtain ⟨k, o, l, c, rfl, rfl, hk1, hg1, Ok, Lk, Mk, KQ⟩ := hrel
    clear QD
    by_cases hlt : k < n2
    · skip
      have k0 : (0 : Int) ≤ (k : Int) := by omega
      have k1 : (k : Int) < (n2 : Int) := by omega
      have kw : IntKind.i64.wrap ((k : Int) + 1) = ((k + 1 : Nat) : Int) := by have := HL2.out; have := HN2.out; unfold maxLen at *; rw [IntKind.wrap_i64]; omega
      have hkS : k < S2.length := by rw [HN2.out]; exact hlt
      obtain ⟨a, rfl, hab, hsz, hst0⟩ := HS2.out k hkS
      have hst := hst0.bel KQ.out.1.bel (by rw [add_block]; exact hab)
      obtain ⟨st, ho⟩ : ∃ o, S2[k]'hkS = o := ⟨_, rfl⟩
      have HO : Kept (S2[k]? = some st) := by show _ = _; rw [List.getElem?_eq_getElem hkS, ho]
      rw [ho] at hst hsz
      obtain ⟨who, act, sa, sb, key, x, y, ox, oy⟩ := st
      obtain ⟨t0, t1, t2, t3, t4, t5, t6, t7, t8⟩ := hst
      dsimp only at t0 t1 t2 t3 t4 t5 t6 t7 t8 hsz
      obtain ⟨W5, hW5⟩ : ∃ W5, wr.alloc (.cells #[.int .i64 who, .int .i64 act, .int .i64 sa, .int .i64 sb, .string key, .int .u64 (x : Int), .int .u64 (y : Int), .bool ox, .bool oy] 31) = W5 := ⟨_, rfl⟩
      have hb5 : Below wr.heap.size wr W5 := by rw [← hW5]; exact (Below.refl _ wr).alloc (Nat.le_refl _) _
      have mD := doneF_any W5 _ R2 seed _ _ _ who act sa sb key x y ox oy (KQ.out.1.b2.below hb5) hsz.1
      unfold stV at mD
      have hh5 : W5.heap[wr.heap.size]? = some (.cells #[.int .i64 who, .int .i64 act, .int .i64 sa, .int .i64 sb, .string key, .int .u64 (x : Int), .int .u64 (y : Int), .bool ox, .bool oy] 31 (0, 0)) := by rw [← hW5]; exact heap_alloc_new _ _
      have y0 : W5.cell? ⟨wr.heap.size, 0, none⟩ = some (.int .i64 who) := by simp [World.cell?, hh5]
      have y1 : W5.cell? ⟨wr.heap.size, 1, none⟩ = some (.int .i64 act) := by simp [World.cell?, hh5]
      have y2 : W5.cell? ⟨wr.heap.size, 2, none⟩ = some (.int .i64 sa) := by simp [World.cell?, hh5]
      have y3 : W5.cell? ⟨wr.heap.size, 3, none⟩ = some (.int .i64 sb) := by simp [World.cell?, hh5]
      have y4 : W5.cell? ⟨wr.heap.size, 4, none⟩ = some (.string key) := by simp [World.cell?, hh5]
      have y5 : W5.cell? ⟨wr.heap.size, 5, none⟩ = some (.int .u64 (x : Int)) := by simp [World.cell?, hh5]
      have y6 : W5.cell? ⟨wr.heap.size, 6, none⟩ = some (.int .u64 (y : Int)) := by simp [World.cell?, hh5]
      have y7 : W5.cell? ⟨wr.heap.size, 7, none⟩ = some (.bool ox) := by simp [World.cell?, hh5]
      have y8 : W5.cell? ⟨wr.heap.size, 8, none⟩ = some (.bool oy) := by simp [World.cell?, hh5]
      have HX : Kept (∀ e w', DnF Mk act key x W5 Ok R2 seed (.slice o l c) e w' → ∃ o' l' c', e = .returned (.tuple #[.slice o' l' c', .bool true]) ∧ ∃ O' L' M', Kept (Qd W X seed w' O1 R1 L (.slice lo n lc) M O' R2 L' (.slice o' l' c') M' ∧ runR (S2.take (k + 1)) M M' ∧ M'.length = l')) := by
        rintro e w' ⟨lv', rfl, O', L', M', hB, hF, hdn⟩
        obtain ⟨o', c', hlv⟩ := hB.2.1.form
        subst hlv
        refine ⟨o', _, c', rfl, O', L', M', (KQ.out.1.below hb5).swap.step hB hF |>.swap, ?_, rfl⟩
        rw [List.take_add_one, HO.out]
        exact runR_snoc KQ.out.2.1 KQ.out.1.b2.2.2.2.2 hdn
      have HLT := keep hlt
      have MD := keep mD
      clear hst0 hab hsz ho hb5 hh5 KQ mD hkS
      go_wp2_with fail
      try rw [hW5]
      refine MD.out.mono ?_
      rintro e w' hdn
      obtain ⟨o', l', c', rfl, O', L', M', KQ'⟩ := HX.out e w' hdn
      clear hdn MD HX t0 t1 t2 t3 t4 t5 t6 t7 t8 y0 y1 y2 y3 y4 y5 y6 y7 y8
      go_wp2
      go_roundg (n2 - (k + 1))
      case measure => have := HLT.out; omega
      case rel => exact ⟨k + 1, o', l', c', rfl, by first | rfl | simp, HLT.out, by have := HLT.out; omega, O', L', M', KQ'⟩
    · obtain rfl : k = n2 := by omega
      obtain ⟨l2, hl2⟩ : ∃ x, Lk.length = x := ⟨_, rfl⟩
      have hll : l = l2 := by rw [← KQ.out.2.2, ← hl2]; exact (KQ.out.1.b2.2.2.2.len KQ.out.1.b2.1.math.2.2.2).symm
      subst hll
      have HL2' : Kept (Lk.length = l ∧ l ≤ 1048576) := ⟨hl2, by rw [← hl2]; exact KQ.out.1.b2.1.math.2.2.1⟩
      clear hl2
      have KL := keep (klen_any KQ.out.1.b1.1)
      have KR := keep (krange_all KQ.out.1.b1.1)
      rw [HN.out.1] at KL KR
      go_wp2_with fail
      refine KL.out.mono ?_
      rintro _ wl ⟨rfl, hw⟩
      obtain rfl := hw.symm
      go_wp2_with fail
      refine KR.out.mono ?_
      rintro _ wa ⟨⟨oa, ca, rfl, hmr⟩, hbr⟩
      clear KL KR
      obtain ⟨Y1, q1, _⟩ := KQ.out.1.copy hmr hbr
      have MS := keep (rsame_any wa wr.heap.size 0 n ca wc oa wo L hmr (KQ.out.1.below hbr |>.rides MR0.out) HN.out.1 (by have := HN.out; omega))
      have QA := keep (KQ.out.1.below hbr)
      clear hmr hbr q1
      go_wp2_with fail
      refine MS.out.mono ?_
      rintro _ wb ⟨rfl, hbb⟩
      have QB := keep (QA.out.below hbb)
      clear hbb MS QA
      have KL := keep (klen_any QB.out.b2.1)
      rw [HL2'.out.1] at KL
      go_wp2_with fail
      refine KL.out.mono ?_
      rintro _ wl ⟨rfl, hw⟩
      obtain rfl := hw.symm
      clear KL
      have KL := keep (klen_any QB.out.b2.1)
      have KR := keep (krange_all QB.out.b2.1)
      rw [HL2'.out.1] at KL KR
      go_wp2_with fail
      refine KL.out.mono ?_
      rintro _ wl ⟨rfl, hw⟩
      obtain rfl := hw.symm
      go_wp2_with fail
      refine KR.out.mono ?_
      rintro _ wn ⟨⟨no, nc, rfl, hmr⟩, hbr⟩
      clear KL KR
      obtain ⟨Y2, q2, mr2⟩ := QB.out.copy hmr hbr
      obtain ⟨X2, hX2⟩ : ∃ x, Y2 ++ X = x := ⟨_, rfl⟩
      rw [hX2] at q2 mr2
      have Q2 := keep q2
      have MR2 := keep mr2
      have RUN := keep KQ.out.2.1
      obtain ⟨o0, ho0⟩ : ∃ x, x = o := ⟨_, rfl⟩
      subst ho0
      clear hmr hbr q2 mr2 hX2 KQ QB
      go_wp2_with fail
      go_loopg [8, 100] k (fun kx s8 s wz => ∃ (k' : Nat) (o : Option Addr) (l' c' : Nat), s8 = .slice o l' c' ∧ s = .int .i64 k' ∧ k' ≤ k ∧ k - k' ≤ kx ∧ ∃ O L' M', Kept (Qd W X2 seed wz O R1 L' (.slice o l' c') M' Ok R2 Lk (.slice o0 l c) Mk ∧ runR (S2.take k') M M' ∧ M'.length = l'))
      case atStart => exact ⟨0, lo, n, lc, rfl, rfl, Nat.zero_le _, by omega, O1, L, M, Q2.out, rfl, HN.out.2.1⟩
      case round =>
        obtain ⟨O2, hO2⟩ : ∃ x, x = Ok := ⟨_, rfl⟩
        obtain ⟨L2, hL2⟩ : ∃ x, x = Lk := ⟨_, rfl⟩
        obtain ⟨M2, hM2⟩ : ∃ x, x = Mk := ⟨_, rfl⟩
        subst hO2 hL2 hM2
        obtain ⟨mo2, hmo2⟩ : ∃ x, x = o0 := ⟨_, rfl⟩
        obtain ⟨mc2, hmc2⟩ : ∃ x, x = c := ⟨_, rfl⟩
        obtain ⟨l2, hl2⟩ : ∃ x, x = l := ⟨_, rfl⟩
        obtain ⟨n2, hn2⟩ : ∃ x, x = k := ⟨_, rfl⟩
        subst hmo2 hmc2 hl2 hn2
        obtain ⟨k, o, l, c, rfl, rfl, hk2, hg2, Ok, Lk, Mk, KQ⟩ := hrel
        clear Q2
        by_cases hlt : k < n2
        · skip
          have k0 : (0 : Int) ≤ (k : Int) := by omega
          have k1 : (k : Int) < (n2 : Int) := by omega
          have kw : IntKind.i64.wrap ((k : Int) + 1) = ((k + 1 : Nat) : Int) := by have := HL2.out; have := HN2.out; unfold maxLen at *; rw [IntKind.wrap_i64]; omega
          have hkS : k < S2.length := by rw [HN2.out]; exact hlt
          obtain ⟨a, rfl, hab, hsz, hst0⟩ := HS2.out k hkS
          have hst := hst0.bel KQ.out.1.bel (by rw [add_block]; exact hab)
          obtain ⟨st, ho⟩ : ∃ o, S2[k]'hkS = o := ⟨_, rfl⟩
          have HO : Kept (S2[k]? = some st) := by show _ = _; rw [List.getElem?_eq_getElem hkS, ho]
          rw [ho] at hst hsz
          obtain ⟨who, act, sa, sb, key, x, y, ox, oy⟩ := st
          obtain ⟨t0, t1, t2, t3, t4, t5, t6, t7, t8⟩ := hst
          dsimp only at t0 t1 t2 t3 t4 t5 t6 t7 t8 hsz
          obtain ⟨W5, hW5⟩ : ∃ W5, wr.alloc (.cells #[.int .i64 who, .int .i64 act, .int .i64 sa, .int .i64 sb, .string key, .int .u64 (x : Int), .int .u64 (y : Int), .bool ox, .bool oy] 31) = W5 := ⟨_, rfl⟩
          have hb5 : Below wr.heap.size wr W5 := by rw [← hW5]; exact (Below.refl _ wr).alloc (Nat.le_refl _) _
          have mD := doneF_any W5 _ R1 seed _ _ _ who act sa sb key x y ox oy (KQ.out.1.b1.below hb5) hsz.1
          unfold stV at mD
          have hh5 : W5.heap[wr.heap.size]? = some (.cells #[.int .i64 who, .int .i64 act, .int .i64 sa, .int .i64 sb, .string key, .int .u64 (x : Int), .int .u64 (y : Int), .bool ox, .bool oy] 31 (0, 0)) := by rw [← hW5]; exact heap_alloc_new _ _
          have y0 : W5.cell? ⟨wr.heap.size, 0, none⟩ = some (.int .i64 who) := by simp [World.cell?, hh5]
          have y1 : W5.cell? ⟨wr.heap.size, 1, none⟩ = some (.int .i64 act) := by simp [World.cell?, hh5]
          have y2 : W5.cell? ⟨wr.heap.size, 2, none⟩ = some (.int .i64 sa) := by simp [World.cell?, hh5]
          have y3 : W5.cell? ⟨wr.heap.size, 3, none⟩ = some (.int .i64 sb) := by simp [World.cell?, hh5]
          have y4 : W5.cell? ⟨wr.heap.size, 4, none⟩ = some (.string key) := by simp [World.cell?, hh5]
          have y5 : W5.cell? ⟨wr.heap.size, 5, none⟩ = some (.int .u64 (x : Int)) := by simp [World.cell?, hh5]
          have y6 : W5.cell? ⟨wr.heap.size, 6, none⟩ = some (.int .u64 (y : Int)) := by simp [World.cell?, hh5]
          have y7 : W5.cell? ⟨wr.heap.size, 7, none⟩ = some (.bool ox) := by simp [World.cell?, hh5]
          have y8 : W5.cell? ⟨wr.heap.size, 8, none⟩ = some (.bool oy) := by simp [World.cell?, hh5]
          have HX : Kept (∀ e w', DnF Mk act key x W5 Ok R1 seed (.slice o l c) e w' → ∃ o' l' c', e = .returned (.tuple #[.slice o' l' c', .bool true]) ∧ ∃ O' L' M', Kept (Qd W X2 seed w' O' R1 L' (.slice o' l' c') M' O2 R2 L2 (.slice mo2 l2 mc2) M2 ∧ runR (S2.take (k + 1)) M M' ∧ M'.length = l')) := by
            rintro e w' ⟨lv', rfl, O', L', M', hB, hF, hdn⟩
            obtain ⟨o', c', hlv⟩ := hB.2.1.form
            subst hlv
            refine ⟨o', _, c', rfl, O', L', M', (KQ.out.1.below hb5).step hB hF, ?_, rfl⟩
            rw [List.take_add_one, HO.out]
            exact runR_snoc KQ.out.2.1 KQ.out.1.b1.2.2.2.2 hdn
          have HLT := keep hlt
          have MD := keep mD
          clear hst0 hab hsz ho hb5 hh5 KQ mD hkS
          go_wp2_with fail
          try rw [hW5]
          refine MD.out.mono ?_
          rintro e w' hdn
          obtain ⟨o', l', c', rfl, O', L', M', KQ'⟩ := HX.out e w' hdn
          clear hdn MD HX t0 t1 t2 t3 t4 t5 t6 t7 t8 y0 y1 y2 y3 y4 y5 y6 y7 y8
          go_wp2
          go_roundg (n2 - (k + 1))
          case measure => have := HLT.out; omega
          case rel => exact ⟨k + 1, o', l', c', rfl, by first | rfl | simp, HLT.out, by have := HLT.out; omega, O', L', M', KQ'⟩
        · obtain rfl : k = n2 := by omega
          have hM : Mk = M2 := runR_fun KQ.out.2.1 RUN.out
          subst hM
          have hLe : Lk = L2 := ends_alike KQ.out.1.b1 KQ.out.1.b2
          subst hLe
          have KL := keep (klen_any KQ.out.1.b2.1)
          have KR := keep (krange_all KQ.out.1.b2.1)
          rw [HL2'.out.1] at KL KR
          go_wp2_with fail
          refine KL.out.mono ?_
          rintro _ wl ⟨rfl, hw⟩
          obtain rfl := hw.symm
          go_wp2_with fail
          refine KR.out.mono ?_
          rintro _ wa ⟨⟨oa, ca, rfl, hmr⟩, hbr⟩
          clear KL KR
          have MS := keep (rsame_any wa wr.heap.size 0 l2 ca _ oa _ Lk hmr (KQ.out.1.below hbr |>.rides MR2.out) HL2'.out.1 (by have := HL2'.out; omega))
          have QA := keep (KQ.out.1.below hbr)
          clear hmr hbr
          go_wp2_with fail
          refine MS.out.mono ?_
          rintro _ wb ⟨rfl, hbb⟩
          have QB := keep (QA.out.below hbb)
          clear hbb MS QA KQ
          have KL := keep (klen_any QB.out.b1.1)
          have KR := keep (krange_all QB.out.b1.1)
          rw [HL2'.out.1] at KL KR
          go_wp2_with fail
          refine KL.out.mono ?_
          rintro _ wl ⟨rfl, hw⟩
          obtain rfl := hw.symm
          go_wp2_with fail
          refine KR.out.mono ?_
          rintro _ wc ⟨⟨od, cd, rfl, hmr⟩, hbr⟩
          clear KL KR
          have MS := keep (rsame_any wc wb.heap.size 0 l2 cd _ od _ Lk hmr (QB.out.below hbr |>.rides MR2.out) HL2'.out.1 (by have := HL2'.out; omega))
          have QC := keep (QB.out.below hbr)
          clear hmr hbr QB
          go_wp2_with fail
          refine MS.out.mono ?_
          rintro _ wz ⟨rfl, hbz⟩
          have BF := keep (QC.out.below hbz).bel
          clear hbz MS QC
          go_wp2
          go_ret
          exact ⟨by simp, BF.out⟩
end Go.Proofs.Ytapehjlpiobeaaa
