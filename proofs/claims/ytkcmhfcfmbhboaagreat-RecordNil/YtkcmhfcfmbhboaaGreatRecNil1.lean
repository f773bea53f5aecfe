/-
  The statement's own walk: no record.
-/
import Derived.Test.YtkcmhfcfmbhboaaGreatRecNil0
import Derived.Test.YtkcmhfcfmbhboaaGreatRecDel
import Derived.Test.YtkcmhfcfmbhboaaGreatRecOpen
namespace Go.Proofs.YtkcmhfcfmbhboaaGreat
open Go.RowKit Go.Shelf
def aay : ByteArray := { data := #[97] }
def one1 : ByteArray := { data := #[49] }
theorem aay_sz : aay.size ≤ 1048576 := by decide
theorem one1_sz : one1.size ≤ 1048576 := by decide
theorem box6 {w : World} {X : Nat} {o : Stp} (h : w.heap[X]? = some (.cells o.cells 31 (0, 0))) :
    w.cell? ⟨X, 0, none⟩ = some (.int .i64 o.op) ∧ w.cell? ⟨X, 1, none⟩ = some (.int .i64 o.who) ∧ w.cell? ⟨X, 2, none⟩ = some (.string o.f) ∧ w.cell? ⟨X, 3, none⟩ = some (.string o.s) ∧ w.cell? ⟨X, 4, none⟩ = some (.int .u64 o.n) ∧ w.cell? ⟨X, 5, none⟩ = some (.int .i64 o.cnt) := by
  unfold Stp.cells at h
  refine ⟨?_, ?_, ?_, ?_, ?_, ?_⟩ <;> simp [World.cell?, h]
set_option maxHeartbeats 400000 in
theorem qpairs_nil (w : World) : Calls Tryz.prog 12 #[.pointer none] w fun e w' => e = .returned (.slice none 0 0) ∧ w' = w := by
  go_enter Tryz.func12, Tryz.ntmps12
  go_wp2
  go_ret
  exact ⟨rfl, rfl⟩
set_option maxRecDepth 100000 in
set_option maxHeartbeats 4000000 in
theorem asked_nil (w : World) (op who : Int) (f v : ByteArray) (n : Nat) (cnt : Int) :
    Calls Tryz.prog 9 #[.pointer none, .pointer none, .agg #[.int .i64 op, .int .i64 who, .string f, .string v, .int .u64 n, .int .i64 cnt]] w fun e w' => e = .returned (.bool true) ∧ Below w.heap.size w w' := by
  obtain ⟨W1, hW1⟩ : ∃ W1, w.alloc (.cells #[.int .i64 op, .int .i64 who, .string f, .string v, .int .u64 n, .int .i64 cnt] 31) = W1 := ⟨_, rfl⟩
  obtain ⟨X, hX⟩ : ∃ X, w.heap.size = X := ⟨_, rfl⟩
  have hb1 : Below w.heap.size w W1 := by rw [← hW1]; exact (Below.refl _ _).alloc (Nat.le_refl _) _
  have hz1 : X < W1.heap.size := by rw [← hW1, ← hX]; simp
  have hx1 : W1.heap[X]? = some (.cells (Stp.cells ⟨op, who, f, v, n, cnt⟩) 31 (0, 0)) := by rw [← hW1, ← hX]; exact heap_alloc_new _ _
  obtain ⟨b0, b1, b2, b3, b4, b5⟩ := box6 hx1
  dsimp only at b0 b1 b2 b3 b4 b5
  have HB1 := keep hb1
  have HX1 := keep hx1
  have HZ1 := keep hz1
  clear hb1 hx1 hz1
  by_cases c0 : op = 0
  · subst c0
    go_enter Tryz.func9, Tryz.ntmps9
    go_wp2
    go_ret
    exact ⟨rfl, HB1.out⟩
  have z0 : (op == 0) = false := beq_eq_false_iff_ne.2 c0
  by_cases c1 : op = 1
  · subst c1
    go_enter Tryz.func9, Tryz.ntmps9
    go_wp2_with (first | (go_at_call 21; refine (rget_nil _ f).mono ?_; rintro _ w' ⟨rfl, hw'⟩; obtain rfl := hw'.symm) | go_in)
    go_ret
    exact ⟨by simp, HB1.out⟩
  have z1 : (op == 1) = false := beq_eq_false_iff_ne.2 c1
  by_cases c2 : op = 2
  · subst c2
    go_enter Tryz.func9, Tryz.ntmps9
    go_wp2_with (first | (go_at_call 23; refine (rdel_nil _ f).mono ?_; rintro _ w' ⟨rfl, hw'⟩; obtain rfl := hw'.symm) | go_in)
    go_ret
    exact ⟨by simp, HB1.out⟩
  have z2 : (op == 2) = false := beq_eq_false_iff_ne.2 c2
  by_cases c3 : op = 3
  · subst c3
    go_enter Tryz.func9, Tryz.ntmps9
    go_wp2_with fail
    refine (rpairs_nil W1).mono ?_
    rintro _ w2 ⟨rfl, ho2, hb2⟩
    go_wp2_with fail
    refine (rpairs_nil w2).mono ?_
    rintro _ w3 ⟨rfl, ho3, hb3⟩
    have o3 := keep (own_kept ho2 (fun k hk => by cases hk; exact hb3.block _ (own_lt ho2 rfl)))
    have B3 := keep ((HB1.out.trans (hb2.mono HB1.out.size)).trans (hb3.mono (Nat.le_trans HB1.out.size hb2.size)))
    have hl23 : W1.heap.size < w2.heap.size := own_lt ho2 rfl
    have HO3 := keep ho3
    have hs3 : w2.heap.size < w3.heap.size := own_lt ho3 rfl
    have hz1 := HZ1.out
    have hs1 := HB1.out.size
    clear ho2 ho3 hb2 hb3 b0 b1 b2 b3 b4 b5
    go_wp2_with fail
    refine (qpairs_nil w3).mono ?_
    rintro _ w' ⟨rfl, hw'⟩
    obtain rfl := hw'.symm
    go_wp2_with fail
    refine (samePairs_none w3 _ _ _ _).mono ?_
    rintro _ w' ⟨rfl, hw'⟩
    obtain rfl := hw'.symm
    go_wp2_with fail
    refine (samePairs_none w3 _ _ _ _).mono ?_
    rintro _ w' ⟨rfl, hw'⟩
    obtain rfl := hw'.symm
    go_wp2_with fail
    refine (spoil_none _ w3 _ o3.out (by omega)).mono ?_
    rintro _ w4 ⟨rfl, hg4⟩
    have B4 := keep (B3.out.grown hg4 (by omega) (fun k e => by cases e; omega))
    have o4 := keep (own_kept HO3.out (fun k hk => by cases hk; exact hg4.block w2.heap.size hs3 (fun e => by have := Option.some.inj e; omega)))
    have hs4 := hg4.size
    clear hg4
    go_wp2_with fail
    refine (samePairs_none w4 _ _ _ _).mono ?_
    rintro _ w' ⟨rfl, hw'⟩
    obtain rfl := hw'.symm
    go_wp2_with fail
    refine (spoil_none _ w4 _ o4.out (by omega)).mono ?_
    rintro _ w5 ⟨rfl, hg5⟩
    have B5 := keep (B4.out.grown hg5 (by omega) (fun k e => by cases e; omega))
    have hs5 := hg5.size
    clear hg5
    go_wp2_with fail
    refine (rpairs_nil w5).mono ?_
    rintro _ w6 ⟨rfl, _, hb6⟩
    have B6 := keep (B5.out.trans (hb6.mono (by omega)))
    clear hb6
    go_wp2_with fail
    refine (samePairs_none w6 _ _ _ _).mono ?_
    rintro _ w' ⟨rfl, hw'⟩
    obtain rfl := hw'.symm
    go_wp2
    go_ret
    exact ⟨rfl, B6.out⟩
  have z3 : (op == 3) = false := beq_eq_false_iff_ne.2 c3
  by_cases c4 : op = 4
  · subst c4
    go_enter Tryz.func9, Tryz.ntmps9
    go_wp2_with fail
    refine (rsample_nil W1 n).mono ?_
    rintro _ w2 ⟨rfl, hb2⟩
    have hx2 := (hb2.block X HZ1.out).trans HX1.out
    obtain ⟨d0, d1, d2, d3, d4, d5⟩ := box6 hx2
    dsimp only at d4
    have B2 := keep (HB1.out.trans (hb2.mono HB1.out.size))
    clear hb2 hx2 d0 d1 d2 d3 d5
    go_wp2
    go_ret
    exact ⟨by simp, B2.out⟩
  have z4 : (op == 4) = false := beq_eq_false_iff_ne.2 c4
  by_cases c5 : op = 5
  · subst c5
    go_enter Tryz.func9, Tryz.ntmps9
    go_wp2_with (first | (go_at_call 28; refine (rscan_nil _ n cnt).mono ?_; rintro _ w' ⟨rfl, hw'⟩; obtain rfl := hw'.symm) | (go_at_call 30; refine (same_none _ _ _ _ _).mono ?_; rintro _ w' ⟨rfl, hw'⟩; obtain rfl := hw'.symm) | go_in)
    go_ret
    exact ⟨by simp, HB1.out⟩
  have z5 : (op == 5) = false := beq_eq_false_iff_ne.2 c5
  by_cases c6 : op = 6
  · subst c6
    go_enter Tryz.func9, Tryz.ntmps9
    go_wp2
    go_ret
    exact ⟨by simp, HB1.out⟩
  have z6 : (op == 6) = false := beq_eq_false_iff_ne.2 c6
  go_enter Tryz.func9, Tryz.ntmps9
  go_wp2
  go_ret
  exact ⟨by simp, HB1.out⟩
set_option maxHeartbeats 400000 in
theorem rcopy_nil (h : ByteArray → Nat) (w : World) (N : Nat) :
    Calls Tryz.prog 7 #[.pointer none] w fun e w' => e = .returned (.pointer (some ⟨w.heap.size + 1, 0, none⟩)) ∧ Below w.heap.size w w' ∧ Rec h N w' (fun k => if k = w.heap.size then (5, 0) else (0, 0)) (w.heap.size + 1) w.heap.size 0 Dc.none0 := by
  have mN := rnew_any h w 0 N
  go_enter Tryz.func7, Tryz.ntmps7
  go_wp2_with fail
  refine Calls.mono mN ?_
  rintro _ w1 ⟨rfl, hb, hr⟩
  have HB := keep hb
  have HR := keep hr
  clear hb hr mN
  go_wp2
  go_ret
  exact ⟨rfl, HB.out, HR.out⟩
theorem set_below {w0 w1 w2 : World} {r2 : Roles} (hb : Below w0.heap.size w0 w1) (hs : Fr w1 (rr (fun k => if k = w0.heap.size then (5, 0) else (0, 0)) (w0.heap.size + 1)) w2 r2) : Below w0.heap.size w0 w2 :=
  hb.trans (hs.below hb.size (fun k hk => rr_zero.2 ⟨by omega, by simp; omega⟩))
set_option maxRecDepth 100000 in
set_option maxHeartbeats 2000000 in
theorem nil_walk {h0 h1 : ByteArray → Nat} (hH0 : HashIs 0 h0) (hH1 : HashIs 1 h1) (W : World) (op who : Int) (f v : ByteArray) (n : Nat) (cnt : Int) :
    Calls Tryz.prog 4 #[.agg #[.int .i64 op, .int .i64 who, .string f, .string v, .int .u64 n, .int .i64 cnt]] W fun e w' => e = .returned (.bool true) ∧ Below W.heap.size W w' := by
  obtain ⟨W1, hW1⟩ : ∃ W1, W.alloc (.cells #[.int .i64 op, .int .i64 who, .string f, .string v, .int .u64 n, .int .i64 cnt] 31) = W1 := ⟨_, rfl⟩
  obtain ⟨X, hX⟩ : ∃ X, W.heap.size = X := ⟨_, rfl⟩
  have hb1 : Below W.heap.size W W1 := by rw [← hW1]; exact (Below.refl _ _).alloc (Nat.le_refl _) _
  have hz1 : X < W1.heap.size := by rw [← hW1, ← hX]; simp
  have hx1 : W1.heap[X]? = some (.cells (Stp.cells ⟨op, who, f, v, n, cnt⟩) 31 (0, 0)) := by rw [← hW1, ← hX]; exact heap_alloc_new _ _
  obtain ⟨b0, b1, b2, b3, b4, b5⟩ := box6 hx1
  dsimp only at b0 b1 b2 b3 b4 b5
  have HB1 := keep hb1
  have HX1 := keep hx1
  have HZ1 := keep hz1
  clear hb1 hx1 hz1
  by_cases c7 : op = 7
  · subst c7
    go_enter Tryz.func4, Tryz.ntmps4
    go_wp2_with fail
    refine (rcopy_nil h0 W1 0).mono ?_
    rintro _ w2 ⟨rfl, hb2, hr2⟩
    have mS := rset_ok hH0 hr2 (by omega) aay one1 aay_sz one1_sz (fun _ => by rw [ln_none]; omega)
    rw [lk_none] at mS
    have HB2 := keep hb2
    clear hr2 hb2 b0 b1 b2 b3 b4 b5
    go_wp2_with fail
    refine mS.mono ?_
    rintro _ w3 ⟨rfl, r3, s3, q1, q2, q3⟩
    have mL := rlen_any q1
    have hln : ln s3 = 1 := by rw [q2.2, lk_none, ln_none]; rfl
    rw [hln] at mL
    have hb3 := keep (HB1.out.trans ((set_below HB2.out q3).mono HB1.out.size))
    clear mS q1 q2 q3 hln
    go_wp2_with fail
    refine mL.mono ?_
    rintro _ w' ⟨rfl, hw'⟩
    obtain rfl := hw'.symm
    go_wp2
    go_ret
    exact ⟨rfl, hb3.out⟩
  · have z7 : (op == 7) = false := beq_eq_false_iff_ne.2 c7
    go_enter Tryz.func4, Tryz.ntmps4
    go_wp2_with fail
    refine Calls.mono (rnew_any h1 W1 1 0) ?_
    rintro _ w2 ⟨rfl, hb2, hr2⟩
    have mS := rset_ok hH1 hr2 (by omega) aay one1 aay_sz one1_sz (fun _ => by rw [ln_none]; omega)
    rw [lk_none] at mS
    have HB2 := keep hb2
    clear hr2 hb2 b0 b1 b2 b3 b4 b5
    go_wp2_with fail
    refine mS.mono ?_
    rintro _ w3 ⟨rfl, r3, s3, q1, q2, q3⟩
    have h13 := set_below HB2.out q3
    have hb3 := keep (HB1.out.trans (h13.mono HB1.out.size))
    have hx3 := (h13.block X HZ1.out).trans HX1.out
    obtain ⟨d0, d1, d2, d3, d4, d5⟩ := box6 hx3
    dsimp only at d0 d1 d2 d3 d4 d5
    have mA := asked_nil w3 op who f v n cnt
    clear mS q1 q2 q3 h13 hx3
    go_wp2_with fail
    refine mA.mono ?_
    rintro _ w4 ⟨rfl, hb4⟩
    have B4 := keep (hb3.out.trans (hb4.mono hb3.out.size))
    clear mA hb4
    go_wp2
    go_ret
    exact ⟨rfl, B4.out⟩
end Go.Proofs.YtkcmhfcfmbhboaaGreat
