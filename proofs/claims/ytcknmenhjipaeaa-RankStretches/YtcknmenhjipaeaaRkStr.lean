/-
  Contracts over this program: the statement RankStretches.
-/
import Derived.Test.YtcknmenhjipaeaaRkStr0
namespace Go.Proofs.Ytcknmenhjipaeaa
open Go.RowKit Go.Shelf
set_option linter.unusedVariables false
set_option linter.unusedSimpArgs false
set_option maxRecDepth 100000 in
set_option maxHeartbeats 8000000 in
theorem stretch_walk (W : World) (seed : Nat) (hseed : seed < Dw.M) (so : Option Addr) (cap : Nat) (S : List Stp) (hS : Steps W so S) (hl : S.length ≤ maxLen) (a b : Nat) (p q : Bool) :
    Calls Try.prog 6 #[.int .u64 seed, .slice so S.length cap, .int .u64 a, .int .u64 b, .bool p, .bool q] W fun e w' => e = .returned (.bool true) ∧ Below W.heap.size W w' := by
  have sf : ∀ (x : Nat) (w : World) (a : Addr), (store a (.float .f64 x)).run Try.prog w = stored Try.prog w a (.float .f64 x) .plain := fun x w a => run_store _ w a _ _ rfl
  have fba : ∀ w, (callFunc 27 #[.int .u64 (a : Int)]).run Try.prog w = .ok (.value (.float .f64 a)) w := fun w => by have := run_frombits (a : Int) w; simpa using this
  have fbb : ∀ w, (callFunc 27 #[.int .u64 (b : Int)]).run Try.prog w = .ok (.value (.float .f64 b)) w := fun w => by have := run_frombits (b : Int) w; simpa using this
  have mW := kwakes_any W
  have MB := keep (fun w1 (hb : Below W.heap.size W w1) => built_any w1 seed hseed so cap S (hS.bel hb) hl)
  clear hS hl hseed
  go_enter Try.func6, Try.ntmps6
  go_wp2_with fail
  refine mW.mono ?_
  rintro _ w1 ⟨rfl, hb1⟩
  have mB := MB.out w1 hb1
  have HB1 := keep hb1
  clear mW MB hb1
  go_wp2_with fail
  refine mB.mono ?_
  rintro _ w2 ⟨⟨R, lv, rfl, O, L, M, hBt, hOB⟩, hb2⟩
  have hmath := hBt.1.math
  have hlen := hBt.2.2.2.len hmath.2.2.2
  have hperm := hBt.2.2.2.perm hmath.2.2.2
  obtain ⟨lo, lc, hlv⟩ := hBt.2.1.form
  subst hlv
  rw [← hlen] at hBt hOB ⊢
  obtain ⟨n, hn⟩ : ∃ n, L.length = n := ⟨_, rfl⟩
  rw [hn] at hBt hOB ⊢
  obtain ⟨W3, hW3⟩ : ∃ W3, (w2.alloc (.cells #[.float .f64 a, .bool p] 49)).alloc (.cells #[.float .f64 b, .bool q] 49) = W3 := ⟨_, rfl⟩
  have hb3 : Below w2.heap.size w2 W3 := by rw [← hW3]; exact ((Below.refl _ w2).alloc (Nat.le_refl _) _).alloc (by simp) _
  have s3 : W3.heap.size = w2.heap.size + 2 := by rw [← hW3]; simp
  have hh0 : W3.heap[w2.heap.size]? = some (.cells #[.float .f64 a, .bool p] 49 (0, 0)) := by rw [← hW3, Below.heap_alloc _ _ _ (by simp)]; exact heap_alloc_new _ _
  have hh1 : W3.heap[w2.heap.size + 1]? = some (.cells #[.float .f64 b, .bool q] 49 (0, 0)) := by
    have := heap_alloc_new (w2.alloc (.cells #[.float .f64 a, .bool p] 49)) (.cells #[.float .f64 b, .bool q] 49)
    rw [hW3] at this
    simpa using this
  obtain ⟨z0, z1⟩ := two_c hh0
  obtain ⟨z2, z3⟩ := two_c hh1
  have hBW : Below W.heap.size W W3 := Below.up (Below.up HB1.out hb2) hb3
  -- what stays from here on
  have ST : Kept (∀ w, Below W3.heap.size W3 w → RK w O R seed L ∧ En w (.slice lo n lc) M ∧ (w.cell? ⟨w2.heap.size, 0, none⟩ = some (.float .f64 a) ∧ w.cell? ⟨w2.heap.size, 1, none⟩ = some (.bool p)) ∧ (w.cell? ⟨w2.heap.size + 1, 0, none⟩ = some (.float .f64 b) ∧ w.cell? ⟨w2.heap.size + 1, 1, none⟩ = some (.bool q)) ∧ Below W.heap.size W w) := fun w hw => by
    have hb := Below.up hb3 hw
    refine ⟨hBt.1.below hb, own_kept hBt.2.1 (fun k hk => hb.block k (own_lt hBt.2.1 hk)), two_c (t := 49) ?_, two_c (t := 49) ?_, Below.up hBW hw⟩
    · rw [hw.block _ (by omega)]; exact hh0
    · rw [hw.block _ (by omega)]; exact hh1
  have mI := kwithin_any (hBt.1.below hb3) a b p q
  have HM := keep hmath
  have HN := keep hn
  have HLN := keep hlen
  have HP := keep hperm
  clear mB hBt hOB hb2 hmath hlen hn hperm hb3 s3 hh0 hh1 hBW HB1
  go_wp2_with fail
  try rw [hW3]
  refine mI.mono ?_
  rintro _ w4 ⟨⟨A, d, rfl, hAd, hdc, hseg⟩, hb4⟩
  obtain ⟨B, hB⟩ : ∃ B, A + d = B := ⟨_, rfl⟩
  rw [hB] at hAd hseg ⊢
  have mL := klen_any (ST.out w4 hb4).1
  rw [HN.out] at mL hAd
  have hn1 : n ≤ 1048576 := by have := HM.out.2.2.1; have := HN.out; omega
  have t1 : A ≤ B := by omega
  have t2 : ¬ B < A := by omega
  have t3 : ¬ n < B := by omega
  have wsub : IntKind.i64.wrap ((B : Int) - A) = (d : Int) := by rw [IntKind.wrap_i64]; omega
  have WS := keep wsub
  have HBB := keep hB
  have HAd := keep hAd
  have HD := keep hdc
  have HSEG := keep hseg
  have HB4 := keep hb4
  have HN1 := keep hn1
  clear mI hAd hdc hseg hb4 hB hn1 wsub
  go_wp2_with fail
  refine mL.mono ?_
  rintro _ _ ⟨rfl, hw⟩
  obtain rfl := hw.symm
  clear mL
  clear z0 z1 z2 z3 hW3 fba fbb
  go_wp2
  go_loopg [20, 22, 67] n (fun kx s20 s22 s67 wr => ∃ (k cc : Nat), s20 = .int .i64 cc ∧ s67 = .int .i64 k ∧ k ≤ n ∧ n - k ≤ kx ∧ Kept (cc = (M.take k).countP (fun e => wi e.2 a p b q) ∧ Below W3.heap.size W3 wr))
  case atStart => exact ⟨0, 0, rfl, rfl, Nat.zero_le _, by omega, ⟨by simp, HB4.out⟩⟩
  case round =>
    obtain ⟨k, cc, rfl, rfl, hk1, hg1, KI⟩ := hrel
    obtain ⟨hcc, hbr⟩ := KI.out
    by_cases hlt : k < n
    · obtain ⟨r1, r2, r3, r4, r5⟩ := ST.out wr hbr
      have k0 : (0 : Int) ≤ (k : Int) := by omega
      have k1 : (k : Int) < (n : Int) := by omega
      have kw : IntKind.i64.wrap ((k : Int) + 1) = ((k + 1 : Nat) : Int) := by have := HN1.out; rw [IntKind.wrap_i64]; omega
      have hMl : M.length = n := by rw [← HLN.out]; exact HN.out
      obtain ⟨e, he⟩ : ∃ e, M[k]? = some e := ⟨_, List.getElem?_eq_getElem (by omega)⟩
      have hlos : ∃ g, lo = some ⟨g, 0, none⟩ := by obtain ⟨g, c', hlv⟩ := r2.some (by omega); injection hlv with h1 h2 h3; exact ⟨g, h1⟩
      obtain ⟨g, rfl⟩ := hlos
      obtain ⟨l1, l2⟩ := r2.at he
      have hcl : cc ≤ k := by
        have h1 : (M.take k).countP (fun e => wi e.2 a p b q) ≤ (M.take k).length := List.countP_le_length
        rw [List.length_take] at h1; omega
      have cw : IntKind.i64.wrap ((cc : Int) + 1) = ((cc + 1 : Nat) : Int) := by have := HN1.out; rw [IntKind.wrap_i64]; omega
      have hct := count_take (f := fun e => wi e.2 a p b q) he
      obtain ⟨W5, hW5⟩ : ∃ W5, wr.alloc (.cells #[.string e.1, .float .f64 e.2] 63) = W5 := ⟨_, rfl⟩
      have hb5 : Below wr.heap.size wr W5 := by rw [← hW5]; exact (Below.refl _ wr).alloc (Nat.le_refl _) _
      have hh5 : W5.heap[wr.heap.size]? = some (.cells #[.string e.1, .float .f64 e.2] 63 (0, 0)) := by rw [← hW5]; exact heap_alloc_new _ _
      obtain ⟨y0, y1⟩ := two_c hh5
      obtain ⟨_, _, ⟨x0, x1⟩, ⟨x2, x3⟩, _⟩ := ST.out W5 (Below.up hbr hb5)
      have mI := within_any e.2 a b p q W5
      have HB5 := keep (Below.up hbr hb5)
      have HLT := keep hlt
      have HC := keep hcc
      have HCT := keep hct
      obtain ⟨e1, e2⟩ := e
      dsimp only at *
      clear r1 r2 r3 r4 r5 hbr KI hMl he hcl hct hb5 hh5 hcc hlt
      cases hwi : wi e2 a p b q
      · rw [hwi] at mI
        have HW := keep hwi
        clear hwi
        go_wp2_with fail
        try rw [hW5]
        refine mI.mono ?_
        rintro _ w6 ⟨rfl, hb6⟩
        have HB6 := keep hb6
        clear mI hb6
        go_wp2
        go_roundg (n - (k + 1))
        case measure => have := HLT.out; omega
        case rel => exact ⟨k + 1, cc, by first | rfl | simp, by first | rfl | simp, HLT.out, by have := HLT.out; omega, ⟨by rw [HCT.out, HW.out]; exact HC.out, Below.up HB5.out HB6.out⟩⟩
      · rw [hwi] at mI
        have HW := keep hwi
        clear hwi
        go_wp2_with fail
        try rw [hW5]
        refine mI.mono ?_
        rintro _ w6 ⟨rfl, hb6⟩
        have HB6 := keep hb6
        clear mI hb6
        go_wp2
        go_roundg (n - (k + 1))
        case measure => have := HLT.out; omega
        case rel => exact ⟨k + 1, cc + 1, by first | rfl | simp, by first | rfl | simp, HLT.out, by have := HLT.out; omega, ⟨by rw [HCT.out, HW.out, HC.out]; rfl, Below.up HB5.out HB6.out⟩⟩
    · obtain rfl : k = n := by omega
      have hMl : M.length = k := by rw [← HLN.out]; exact HN.out
      have hcd : cc = d := by rw [hcc, ← hMl, List.take_length, HD.out]; exact (HP.out.countP_eq _).symm
      subst hcd
      obtain ⟨r1, r2, r3, r4, r5⟩ := ST.out wr hbr
      have mR := krange_ab r1 A cc (by rw [HN.out, HBB.out]; exact HAd.out)
      rw [HBB.out] at mR
      have HBR := keep hbr
      have wsub := WS.out
      clear r1 r2 r3 r4 r5 hbr KI hMl hcc t1 t2 t3
      go_wp2_with fail
      refine mR.mono ?_
      rintro _ w7 ⟨⟨ro, rc, rfl, hMr⟩, hb7⟩
      have hNl : (seg L A B).length = cc := by rw [seg_len, HN.out, ← HBB.out]; have := HAd.out; have := HBB.out; omega
      have HMr := keep hMr.zero
      have HB7 := keep (Below.up HBR.out hb7)
      have HNl := keep hNl
      have HCN := keep (show cc ≤ 1048576 by have := HN1.out; have := HAd.out; have := HBB.out; omega)
      clear mR hMr hb7 hNl
      go_wp2
      go_loopg [25, 96] cc (fun kx s25 s96 wx => ∃ j : Nat, s96 = .int .i64 j ∧ j ≤ cc ∧ cc - j ≤ kx ∧ Kept (Below W3.heap.size W3 wx ∧ Mr 0 wx (.slice ro cc rc) (seg L A B)))
      case atStart => exact ⟨0, rfl, Nat.zero_le _, by omega, ⟨HB7.out, HMr.out⟩⟩
      case round =>
        obtain ⟨j, rfl, hj1, hj2, KJ⟩ := hrel
        obtain ⟨hbx, hMx⟩ := KJ.out
        by_cases hjn : j < cc
        · obtain ⟨e, he⟩ : ∃ e, (seg L A B)[j]? = some e := ⟨_, List.getElem?_eq_getElem (by rw [HNl.out]; exact hjn)⟩
          have j0 : (0 : Int) ≤ (j : Int) := by omega
          have j1 : (j : Int) < (cc : Int) := by omega
          have jw : IntKind.i64.wrap ((j : Int) + 1) = ((j + 1 : Nat) : Int) := by have := HCN.out; rw [IntKind.wrap_i64]; omega
          obtain ⟨g, rfl⟩ := hMx.some (by rw [HNl.out]; omega)
          obtain ⟨l1, l2⟩ := hMx.at he
          have hwi := HSEG.out e (List.mem_of_getElem? he)
          obtain ⟨W5, hW5⟩ : ∃ W5, wr.alloc (.cells #[.string e.1, .float .f64 e.2] 61) = W5 := ⟨_, rfl⟩
          have hb5 : Below wr.heap.size wr W5 := by rw [← hW5]; exact (Below.refl _ wr).alloc (Nat.le_refl _) _
          have hh5 : W5.heap[wr.heap.size]? = some (.cells #[.string e.1, .float .f64 e.2] 61 (0, 0)) := by rw [← hW5]; exact heap_alloc_new _ _
          obtain ⟨y0, y1⟩ := two_c hh5
          obtain ⟨_, _, ⟨x0, x1⟩, ⟨x2, x3⟩, _⟩ := ST.out W5 (Below.up hbx hb5)
          have mI := within_any e.2 a b p q W5
          rw [hwi] at mI
          have HB5 := keep (Below.up hbx hb5)
          have HM5 := keep (show Mr 0 W5 (.slice (some ⟨g, 0, none⟩) cc rc) (seg L A B) from own_kept hMx (fun k hk => hb5.block k (own_lt hMx hk)))
          have HJ := keep hjn
          obtain ⟨e1, e2⟩ := e
          dsimp only at *
          clear hbx hMx KJ he hwi hb5 hh5 hjn
          go_wp2_with fail
          try rw [hW5]
          refine mI.mono ?_
          rintro _ w8 ⟨rfl, hb8⟩
          have HB8 := keep hb8
          clear mI hb8
          go_wp2
          go_roundg (cc - (j + 1))
          case measure => have := HJ.out; omega
          case rel => exact ⟨j + 1, by first | rfl | simp, HJ.out, by have := HJ.out; omega, ⟨Below.up HB5.out HB8.out, own_kept HM5.out (fun k hk => HB8.out.block k (own_lt HM5.out hk))⟩⟩
        · obtain rfl : j = cc := by omega
          have HZ := keep (ST.out wr hbx).2.2.2.2
          clear hbx hMx KJ
          go_wp2
          go_ret
          exact ⟨rfl, HZ.out⟩
end Go.Proofs.Ytcknmenhjipaeaa
