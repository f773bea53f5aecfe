/-
  Contracts over this program: the statement RankKnown.
-/
import Derived.Test.YtcknmenhjipaeabRkKn0
namespace Go.Proofs.Ytcknmenhjipaeab
open Go.RowKit Go.Shelf
set_option linter.unusedVariables false
set_option linter.unusedSimpArgs false
theorem neg_inf (w : World) : (Op.unary UnOp.neg (.float .f64 infB)).run Try.prog w = .ok (.float .f64 ninfB) w := by
  first | rfl | kernel_rfl | (unfold Op.unary; rfl)
def aIts : Array Value := #[.string { data := #[98] }, .float .f64 4607182418800017408, .string { data := #[97] }, .float .f64 4607182418800017408, .string { data := #[99] }, .float .f64 nz, .string { data := #[100] }, .float .f64 ninfB]
theorem aIts_is : aIts = (enR its).toArray := by rfl
def aL4 : Array Value := #[.string { data := #[100] }, .float .f64 ninfB, .string { data := #[99] }, .float .f64 nz, .string { data := #[97] }, .float .f64 4607182418800017408, .string { data := #[98] }, .float .f64 4607182418800017408]
theorem aL4_is : aL4 = (enR L4).toArray := by rfl
def aBds : Array Value := #[.float .f64 0, .bool false, .float .f64 4607182418800017408, .bool false, .int .i64 1, .int .i64 3,
  .float .f64 0, .bool true, .float .f64 4607182418800017408, .bool false, .int .i64 2, .int .i64 3,
  .float .f64 4611686018427387904, .bool false, .float .f64 4611686018427387904, .bool true, .int .i64 3, .int .i64 3,
  .float .f64 ninfB, .bool false, .float .f64 infB, .bool false, .int .i64 0, .int .i64 4,
  .float .f64 4617315517961601024, .bool false, .float .f64 13840687554816376832, .bool false, .int .i64 4, .int .i64 4,
  .float .f64 nanB, .bool false, .float .f64 4607182418800017408, .bool false, .int .i64 0, .int .i64 0]
theorem bd_at {k : Nat} {d : Bd} (h : bds[k]? = some d) : aBds[k * 6]? = some (.float .f64 d.1) ∧ aBds[k * 6 + 1]? = some (.bool d.2.1) ∧ aBds[k * 6 + 2]? = some (.float .f64 d.2.2.1) ∧ aBds[k * 6 + 3]? = some (.bool d.2.2.2.1) ∧ aBds[k * 6 + 4]? = some (.int .i64 (d.2.2.2.2.1 : Int)) ∧ aBds[k * 6 + 5]? = some (.int .i64 (d.2.2.2.2.2 : Int)) := by
  have hk : k < 6 := (List.getElem?_eq_some_iff.1 h).1
  match k, hk with
  | 0, _ => obtain rfl := Option.some.inj h; exact ⟨rfl, rfl, rfl, rfl, rfl, rfl⟩
  | 1, _ => obtain rfl := Option.some.inj h; exact ⟨rfl, rfl, rfl, rfl, rfl, rfl⟩
  | 2, _ => obtain rfl := Option.some.inj h; exact ⟨rfl, rfl, rfl, rfl, rfl, rfl⟩
  | 3, _ => obtain rfl := Option.some.inj h; exact ⟨rfl, rfl, rfl, rfl, rfl, rfl⟩
  | 4, _ => obtain rfl := Option.some.inj h; exact ⟨rfl, rfl, rfl, rfl, rfl, rfl⟩
  | 5, _ => obtain rfl := Option.some.inj h; exact ⟨rfl, rfl, rfl, rfl, rfl, rfl⟩
theorem cell_of {w : World} {g i : Nat} {cur : Array Value} {t : TypeId} {v : Value} (h : w.heap[g]? = some (.cells cur t (0, 0))) (hv : cur[i]? = some v) : w.cell? ⟨g, i, none⟩ = some v := by
  simp [World.cell?, h, hv]
theorem mr_kept {B : Nat} {w w' : World} {v : Value} {M : List Ent} (h : Mr B w v M) (hb : Below w.heap.size w w') : Mr B w' v M := own_kept h (fun k hk => hb.block k (own_lt h hk))
theorem al_below (w : World) (o : Obj) : Below w.heap.size w (w.alloc o) := (Below.refl _ w).alloc (Nat.le_refl _) _
set_option maxRecDepth 100000 in
set_option maxHeartbeats 8000000 in
theorem known_walk (W : World) : Calls Try.prog 3 #[] W fun e w' => e = .returned (.bool true) ∧ Below W.heap.size W w' := by
  have sf : ∀ (x : Nat) (w : World) (a : Addr), (store a (.float .f64 x)).run Try.prog w = stored Try.prog w a (.float .f64 x) .plain := fun x w a => run_store _ w a _ _ rfl
  have ng : ∀ w : World, (Op.unary UnOp.neg (.float .f64 infB)).run Try.prog w = .ok (.float .f64 ninfB) w := fun w => neg_inf w
  have mW := kwakes_any W
  go_enter Try.func3, Try.ntmps3
  go_wp2_with fail
  refine mW.mono ?_
  rintro _ w1 ⟨rfl, hb1⟩
  have HB1 := keep hb1
  have mI := inf_any w1
  clear mW hb1
  go_wp2_with fail
  refine mI.mono ?_
  rintro _ _ ⟨rfl, hw⟩
  obtain rfl := hw.symm
  have mC := copysign_any w1
  clear mI
  go_wp2_with fail
  refine mC.mono ?_
  rintro _ _ ⟨rfl, hw⟩
  obtain rfl := hw.symm
  have mN := knew_any w1 9 (by decide)
  clear mC
  go_wp2_with fail
  refine mN.mono ?_
  rintro _ w2 ⟨⟨R, O, rfl, hK, hO⟩, hb2⟩
  have HK := keep hK
  have HO := keep hO
  have HB2 := keep hb2
  clear mN hK hO hb2
  obtain ⟨W3, hW3⟩ : ∃ W3, w2.alloc (.cells #[.string { data := #[98] }, .float .f64 4607182418800017408, .string { data := #[97] }, .float .f64 4607182418800017408, .string { data := #[99] }, .float .f64 nz, .string { data := #[100] }, .float .f64 ninfB] 30) = W3 := ⟨_, rfl⟩
  obtain ⟨G, hG⟩ : ∃ G, w2.heap.size = G := ⟨_, rfl⟩
  have hh3 : W3.heap[G]? = some (.cells aIts 30 (0, 0)) := by rw [← hW3, ← hG]; exact heap_alloc_new _ _
  have hb3 : Below w2.heap.size w2 W3 := by rw [← hW3]; exact al_below _ _
  have K3 : Kept (Kn W.heap.size W W3 R (LL 0) (fun k => k = G)) := by
    have hbW : Below W.heap.size W w2 := Below.up HB1.out HB2.out
    have h0 : Kn W.heap.size W w2 R (LL 0) (fun _ => False) := ⟨O, HK.out, fun k hk => Nat.le_trans HB1.out.size (HO.out k hk), hbW, fun k hk => hk.elim, Nat.le_refl _⟩
    refine h0.own W3 hb3 (fun k hk => .inr ⟨by omega, ?_⟩)
    subst hk
    exact (Array.getElem?_eq_some_iff.1 hh3).1
  have HG := keep hG
  have HW3 := keep hW3
  have H3 := keep hh3
  clear hh3 hb3 hG HK HO HB2 HB1 hW3
  go_wp2
  rw [HW3.out, HG.out]
  clear HW3
  go_loopg [5, 6, 7, 34] 4 (fun kx s5 s6 s7 s34 wr => ∃ k : Nat, s34 = .int .i64 k ∧ k ≤ 4 ∧ 4 - k ≤ kx ∧ Kept (Kn W.heap.size W wr R (LL k) (fun k => k = G) ∧ wr.heap[G]? = some (.cells aIts 30 (0, 0))))
  case atStart => exact ⟨0, rfl, Nat.zero_le _, by omega, ⟨K3.out, H3.out⟩⟩
  case round =>
    obtain ⟨k, rfl, hk1, hg1, KI⟩ := hrel
    obtain ⟨hKn, hGr⟩ := KI.out
    by_cases hlt : k < 4
    · have k0 : (0 : Int) ≤ (k : Int) := by omega
      have k1 : (k : Int) < 4 := by omega
      have kw : IntKind.i64.wrap ((k : Int) + 1) = ((k + 1 : Nat) : Int) := by rw [IntKind.wrap_i64]; omega
      obtain ⟨e, he⟩ : ∃ e, its[k]? = some e := ⟨_, List.getElem?_eq_getElem (show k < its.length from hlt)⟩
      obtain ⟨l1, l2⟩ := (lit (n := 4) (by rw [← aIts_is]; exact hGr) rfl (by decide)).at he
      obtain ⟨W5, hW5⟩ : ∃ W5, wr.alloc (.cells #[.string e.1, .float .f64 e.2] 30) = W5 := ⟨_, rfl⟩
      have hb5 : Below wr.heap.size wr W5 := by rw [← hW5]; exact al_below _ _
      have hh5 : W5.heap[wr.heap.size]? = some (.cells #[.string e.1, .float .f64 e.2] 30 (0, 0)) := by rw [← hW5]; exact heap_alloc_new _ _
      obtain ⟨y0, y1⟩ := two_c hh5
      have hg5 : W5.heap[G]? = some (.cells aIts 30 (0, 0)) := (hb5.block G (Array.getElem?_eq_some_iff.1 hGr).1).trans hGr
      have mS := kn_set (hKn.below hb5) he
      have HG5 := keep hg5
      have HLT := keep hlt
      obtain ⟨e1, e2⟩ := e
      dsimp only at *
      clear hKn hGr KI he hb5 hh5 hg5
      go_wp2_with fail
      try rw [hW5]
      refine mS.mono ?_
      rintro _ w6 ⟨rfl, K6⟩
      clear mS
      go_wp2
      go_roundg (4 - (k + 1))
      case measure => have := HLT.out; omega
      case rel => exact ⟨k + 1, by first | rfl | simp, HLT.out, by have := HLT.out; omega, ⟨K6.out.1, (K6.out.2 G rfl).trans HG5.out⟩⟩
    · obtain rfl : k = 4 := by omega
      have K4 : Kept (Kn W.heap.size W wr R L4 (fun _ => False)) := hKn.own wr (Below.refl _ _) (fun _ h => h.elim)
      have mR := kn_all K4.out
      clear hKn hGr KI K3 H3
      go_wp2_with fail
      refine mR.mono ?_
      rintro _ w7 ⟨⟨o, c, rfl, hM⟩, hb7⟩
      obtain ⟨W8, hW8⟩ : ∃ W8, w7.alloc (.cells #[.string { data := #[100] }, .float .f64 ninfB, .string { data := #[99] }, .float .f64 nz, .string { data := #[97] }, .float .f64 4607182418800017408, .string { data := #[98] }, .float .f64 4607182418800017408] 30) = W8 := ⟨_, rfl⟩
      have hb8 : Below w7.heap.size w7 W8 := by rw [← hW8]; exact al_below _ _
      have hh8 : W8.heap[w7.heap.size]? = some (.cells aL4 30 (0, 0)) := by rw [← hW8]; exact heap_alloc_new _ _
      have mS := rsame_any W8 _ _ 4 c 4 o (some ⟨w7.heap.size, 0, none⟩) L4 (mr_kept hM.out hb8) (lit (by rw [← aL4_is]; exact hh8) rfl (by decide)) rfl (by decide)
      have K8 : Kept (Kn W.heap.size W W8 R L4 (fun _ => False)) := (K4.out.below hb7.out).below hb8
      have HW8 := keep hW8
      clear hM hb7 hb8 hh8 mR K4 hW8
      go_wp2_with fail
      rw [HW8.out]
      refine mS.mono ?_
      rintro _ w9 ⟨rfl, hb9⟩
      have K9 : Kept (Kn W.heap.size W w9 R L4 (fun _ => False)) := K8.out.below hb9
      have m1 := kn_rank4 K9.out
      clear mS hb9 K8 HW8
      go_wp2_with fail
      refine m1.mono ?_
      rintro _ w10 ⟨rfl, K10⟩
      have m2 := kn_same K10.out
      clear m1 K9
      go_wp2_with fail
      refine m2.mono ?_
      rintro _ w11 ⟨rfl, K11⟩
      have m3 := kn_score K11.out
      clear m2 K10
      go_wp2_with fail
      refine m3.mono ?_
      rintro _ w12 ⟨rfl, K12⟩
      clear m3 K11
      go_wp2_with fail
      refine (alike_any _ _ _).mono ?_
      rintro _ _ ⟨rfl, hw⟩
      obtain rfl := hw.symm
      rw [alk_self]
      have m4 := kn_alter K12.out
      go_wp2_with fail
      refine m4.mono ?_
      rintro _ w13 ⟨rfl, K13⟩
      have m5 := kn_rank5 K13.out
      clear m4 K12
      go_wp2_with fail
      refine m5.mono ?_
      rintro _ w14 ⟨rfl, K14⟩
      have m6 := nan_any w14
      clear m5 K13
      go_wp2_with fail
      refine m6.mono ?_
      rintro _ _ ⟨rfl, hw⟩
      obtain rfl := hw.symm
      clear m6
      obtain ⟨W15, hW15⟩ : ∃ W15, w14.alloc (.cells #[.float .f64 0, .bool false, .float .f64 4607182418800017408, .bool false, .int .i64 1, .int .i64 3, .float .f64 0, .bool true, .float .f64 4607182418800017408, .bool false, .int .i64 2, .int .i64 3, .float .f64 4611686018427387904, .bool false, .float .f64 4611686018427387904, .bool true, .int .i64 3, .int .i64 3, .float .f64 ninfB, .bool false, .float .f64 infB, .bool false, .int .i64 0, .int .i64 4, .float .f64 4617315517961601024, .bool false, .float .f64 13840687554816376832, .bool false, .int .i64 4, .int .i64 4, .float .f64 nanB, .bool false, .float .f64 4607182418800017408, .bool false, .int .i64 0, .int .i64 0] 44) = W15 := ⟨_, rfl⟩
      obtain ⟨G2, hG2⟩ : ∃ G2, w14.heap.size = G2 := ⟨_, rfl⟩
      have hh15 : W15.heap[G2]? = some (.cells aBds 44 (0, 0)) := by rw [← hW15, ← hG2]; exact heap_alloc_new _ _
      have hb15 : Below w14.heap.size w14 W15 := by rw [← hW15]; exact al_below _ _
      have K15 : Kept (Kn W.heap.size W W15 R L5 (fun _ => False)) := K14.out.below hb15
      have HW15 := keep hW15
      have HG2 := keep hG2
      have H15 := keep hh15
      clear hh15 hb15 K14 hW15 hG2
      go_wp2
      rw [HW15.out, HG2.out]
      clear HW15
      go_loopg [15, 16, 17, 129] 6 (fun kx s15 s16 s17 s129 wx => ∃ j : Nat, s129 = .int .i64 j ∧ j ≤ 6 ∧ 6 - j ≤ kx ∧ Kept (Below W15.heap.size W15 wx))
      case atStart => exact ⟨0, rfl, Nat.zero_le _, by omega, Below.refl _ _⟩
      case round =>
        obtain ⟨j, rfl, hj1, hj2, KJ⟩ := hrel
        by_cases hjn : j < 6
        · have j0 : (0 : Int) ≤ (j : Int) := by omega
          have j1 : (j : Int) < 6 := by omega
          have jw : IntKind.i64.wrap ((j : Int) + 1) = ((j + 1 : Nat) : Int) := by rw [IntKind.wrap_i64]; omega
          obtain ⟨d, hd⟩ : ∃ d, bds[j]? = some d := ⟨_, List.getElem?_eq_getElem (show j < bds.length from hjn)⟩
          have hGr : wr.heap[G2]? = some (.cells aBds 44 (0, 0)) := (KJ.out.block G2 (Array.getElem?_eq_some_iff.1 H15.out).1).trans H15.out
          obtain ⟨q0, q1, q2, q3, q4, q5⟩ := bd_at hd
          have c0 := cell_of hGr q0
          have c1 := cell_of hGr q1
          have c2 := cell_of hGr q2
          have c3 := cell_of hGr q3
          have c4 := cell_of hGr q4
          have c5 := cell_of hGr q5
          obtain ⟨W16, hW16⟩ : ∃ W16, wr.alloc (.cells #[.float .f64 d.1, .bool d.2.1, .float .f64 d.2.2.1, .bool d.2.2.2.1, .int .i64 (d.2.2.2.2.1 : Int), .int .i64 (d.2.2.2.2.2 : Int)] 44) = W16 := ⟨_, rfl⟩
          have hb16 : Below wr.heap.size wr W16 := by rw [← hW16]; exact al_below _ _
          have hh16 : W16.heap[wr.heap.size]? = some (.cells #[.float .f64 d.1, .bool d.2.1, .float .f64 d.2.2.1, .bool d.2.2.2.1, .int .i64 (d.2.2.2.2.1 : Int), .int .i64 (d.2.2.2.2.2 : Int)] 44 (0, 0)) := by rw [← hW16]; exact heap_alloc_new _ _
          have y0 := cell_of (i := 0) hh16 rfl
          have y1 := cell_of (i := 1) hh16 rfl
          have y2 := cell_of (i := 2) hh16 rfl
          have y3 := cell_of (i := 3) hh16 rfl
          have hbx := Below.up KJ.out hb16
          have mI : Kept (Calls Try.prog 15 #[.pointer (some ⟨R, 0, none⟩), .agg #[.float .f64 d.1, .bool d.2.1], .agg #[.float .f64 d.2.2.1, .bool d.2.2.2.1]] W16 fun en w' => en = .returned (.tuple #[.int .i64 (d.2.2.2.2.1 : Int), .int .i64 (d.2.2.2.2.2 : Int)]) ∧ (w'.cell? ⟨wr.heap.size, 4, none⟩ = some (.int .i64 (d.2.2.2.2.1 : Int)) ∧ w'.cell? ⟨wr.heap.size, 5, none⟩ = some (.int .i64 (d.2.2.2.2.2 : Int))) ∧ Kept (Below W15.heap.size W15 w')) := by
            refine (kn_within (K15.out.below hbx) hd).mono ?_
            rintro _ w' ⟨rfl, hb⟩
            have hh := (hb.block _ (Array.getElem?_eq_some_iff.1 hh16).1).trans hh16
            exact ⟨rfl, ⟨cell_of (i := 4) hh rfl, cell_of (i := 5) hh rfl⟩, Below.up hbx hb⟩
          have HJ := keep hjn
          obtain ⟨a, pp, b, qq, A, C⟩ := d
          dsimp only at *
          obtain ⟨j6, hj6⟩ : ∃ j6, j * 6 = j6 := ⟨_, rfl⟩
          rw [hj6] at c0 c1 c2 c3 c4 c5
          clear hd hGr q0 q1 q2 q3 q4 q5 hb16 hh16 hbx KJ hjn
          go_wp2_with fail
          try rw [hW16]
          refine mI.out.mono ?_
          rintro _ w17 ⟨rfl, ⟨z4, z5⟩, K17⟩
          clear mI
          go_wp2
          go_roundg (6 - (j + 1))
          case measure => have := HJ.out; omega
          case rel => exact ⟨j + 1, by first | rfl | simp, HJ.out, by have := HJ.out; omega, K17.out⟩
        · obtain rfl : j = 6 := by omega
          have K20 : Kept (Kn W.heap.size W wr R L5 (fun _ => False)) := K15.out.below KJ.out
          have m1 := nan_any wr
          have m2 := kset_nan (w := wr) (R := R) { data := #[101] } nanB (by decide) (by decide +kernel)
          have m3 := kn_first K20.out
          clear K15 KJ H15
          go_wp2_with fail
          refine m1.mono ?_
          rintro _ _ ⟨rfl, hw⟩
          obtain rfl := hw.symm
          clear m1
          go_wp2_with fail
          refine m2.mono ?_
          rintro _ _ ⟨rfl, hw⟩
          obtain rfl := hw.symm
          clear m2
          go_wp2_with fail
          refine m3.mono ?_
          rintro _ w21 ⟨⟨o2, c2, rfl, hM⟩, hb21⟩
          obtain ⟨W22, hW22⟩ : ∃ W22, w21.alloc (.cells #[.string { data := #[100] }, .float .f64 ninfB] 30) = W22 := ⟨_, rfl⟩
          have hb22 : Below w21.heap.size w21 W22 := by rw [← hW22]; exact al_below _ _
          have hh22 : W22.heap[w21.heap.size]? = some (.cells #[.string { data := #[100] }, .float .f64 ninfB] 30 (0, 0)) := by rw [← hW22]; exact heap_alloc_new _ _
          have m4 := rsame_any W22 _ _ 1 c2 1 o2 (some ⟨w21.heap.size, 0, none⟩) [eD] (mr_kept hM.out hb22) (lit hh22 rfl (by decide)) rfl (by decide)
          have K22 : Kept (Kn W.heap.size W W22 R L5 (fun _ => False)) := (K20.out.below hb21.out).below hb22
          have HW22 := keep hW22
          clear hM hb21 hb22 hh22 m3 K20 hW22
          go_wp2_with fail
          rw [HW22.out]
          refine m4.mono ?_
          rintro _ w23 ⟨rfl, hb23⟩
          have K23 : Kept (Kn W.heap.size W w23 R L5 (fun _ => False)) := K22.out.below hb23
          have m5 := kn_out K23.out
          have m6 := kn_second K23.out
          clear m4 hb23 K22 HW22
          go_wp2_with fail
          refine m5.mono ?_
          rintro _ _ ⟨rfl, hw⟩
          obtain rfl := hw.symm
          clear m5
          go_wp2_with fail
          refine m6.mono ?_
          rintro _ w24 ⟨⟨o3, c3, rfl, hM⟩, hb24⟩
          obtain ⟨W25, hW25⟩ : ∃ W25, w24.alloc (.cells #[.string { data := #[99] }, .float .f64 nz] 30) = W25 := ⟨_, rfl⟩
          have hb25 : Below w24.heap.size w24 W25 := by rw [← hW25]; exact al_below _ _
          have hh25 : W25.heap[w24.heap.size]? = some (.cells #[.string { data := #[99] }, .float .f64 nz] 30 (0, 0)) := by rw [← hW25]; exact heap_alloc_new _ _
          have m7 := rsame_any W25 _ _ 1 c3 1 o3 (some ⟨w24.heap.size, 0, none⟩) [eC] (mr_kept hM.out hb25) (lit hh25 rfl (by decide)) rfl (by decide)
          have K25 : Kept (Kn W.heap.size W W25 R L5 (fun _ => False)) := (K23.out.below hb24.out).below hb25
          have HW25 := keep hW25
          clear hM hb24 hb25 hh25 m6 K23 hW25
          go_wp2_with fail
          rw [HW25.out]
          refine m7.mono ?_
          rintro _ w26 ⟨rfl, hb26⟩
          have K26 : Kept (Kn W.heap.size W w26 R L5 (fun _ => False)) := K25.out.below hb26
          have m8 := kn_cost K26.out
          clear m7 hb26 K25 HW25
          go_wp2_with fail
          refine m8.mono ?_
          rintro _ _ ⟨rfl, hw⟩
          obtain rfl := hw.symm
          clear m8
          go_wp2
          go_ret
          obtain ⟨O9, _, _, hbe, _, _⟩ := K26.out
          exact ⟨rfl, hbe⟩
end Go.Proofs.Ytcknmenhjipaeab
