/-
  The walk of ReplyReads.
-/
import Derived.Test.YtoalnfkjpdgbiaaDoorRwLent
import Derived.Test.YtoalnfkjpdgbiaaDoorRwLikes
import Derived.Test.YtoalnfkjpdgbiaaDoorRwSpt1
namespace Go.Proofs.YtoalnfkjpdgbiaaDoor
open Go.RowKit
set_option linter.unusedVariables false
set_option maxRecDepth 100000 in
set_option maxHeartbeats 8000000 in
theorem reads_walk (v : Value) (b : List UInt8) (w : World) (h : Bs (· < w.heap.size) w v b) (hb : b.length ≤ 1048576) (hv : Vars w) (h3 : 3 ≤ w.heap.size) :
    Calls Tryd.prog 4 #[v] w fun e w' => e = .returned (.bool true) ∧ Below w.heap.size w w' := by
  obtain ⟨PP, hPP⟩ : ∃ PP : Ending → World → Prop, PP = fun e w' => e = .returned (.bool true) ∧ Below w.heap.size w w' := ⟨_, rfl⟩
  rw [← hPP]
  have HP := keep hPP
  clear hPP
  obtain ⟨T, Z, C, hwt, hR, hD⟩ := dec_both b hb
  have LE := keep (lent_any v b w h hb)
  have DR := keep (fun w' (hb' : Below w.heap.size w w') => hR v w' (h.later hb'))
  have DP := keep (fun g c w' (hK : Kb w' (.slice (some ⟨g, 0, none⟩) (b.length + 70) c) (b ++ tag5 70)) (hb' : Below w.heap.size w w') => hD _ w' hK.pre.bs (hv.below hb') (Nat.le_trans h3 hb'.size))
  have SA := keep (fun ca cb w' (ha : Tel (· < w'.heap.size) w' 9 ca T) (hb : Tel (· < w'.heap.size) w' 9 cb T) => rsame_any 9 T T ca cb w' ha hb)
  have KE := keep (fun g c w' (hK : Kb w' (.slice (some ⟨g, 0, none⟩) (b.length + 70) c) (b ++ tag5 70)) (hb' : Below w.heap.size w w') => kept_any g c v b w' hK (h.later hb') hb)
  have SP := keep (fun g c w' (hK : Kb w' (.slice (some ⟨g, 0, none⟩) (b.length + 70) c) (b ++ tag5 70)) (hg : w.heap.size ≤ g) (hb' : w.heap.size ≤ w'.heap.size) => bspoil_any w.heap.size (.slice (some ⟨g, 0, none⟩) b.length c) b w' hK.pre (fun k hk => by rw [← Option.some.inj hk]; exact hg) hb' (by omega))
  have HWT := keep hwt
  clear h hb hv h3 hR hD hwt
  generalize b ++ tag5 70 = L at *
  generalize b.length = N at *
  have hcc : (C != C) = false := by simp
  have hzz : (Z != Z) = false := by simp
  go_enter Tryd.func4, Tryd.ntmps4
  go_wp2_with fail
  refine LE.out.mono ?_
  rintro e w1 ⟨g, c, rfl, k1, hg, b1⟩
  have HG := keep hg
  have HG1 := keep (show g < w1.heap.size from k1.lt g rfl)
  have B1 := keep b1
  have K1 := keep k1
  clear k1 hg b1 LE
  go_wp2_with fail
  refine (DR.out w1 B1.out).mono ?_
  rintro e w2 ⟨p0, p1, p2, p3, p4, p5, rfl, t2, b2⟩
  obtain ⟨W2, hW2⟩ : ∃ x, x = w2.alloc (.cells #[.int .i64 p0, .string p1, .int .i64 p2, .slice p3 p4 p5] 25) := ⟨_, rfl⟩
  have a2 : Below w2.heap.size w2 W2 := hW2 ▸ (Below.refl _ _).alloc (Nat.le_refl _) _
  have X2 := keep (show Box W2 w2.heap.size (.int .i64 p0) (.string p1) (.int .i64 p2) (.slice p3 p4 p5) from hW2 ▸ Box.new w2 _ _ _ _)
  have C2 := keep (b2.trans (a2.mono b2.size))
  have T2 := keep (show Tel (fun x => w1.heap.size ≤ x ∧ x < W2.heap.size) W2 9 [.int .i64 p0, .string p1, .int .i64 p2, .slice p3 p4 p5] T from Tel.mono (fun b h => ⟨h.1, Nat.lt_of_lt_of_le h.2 a2.size⟩) (fun b h => a2.block b h.2) _ _ _ t2)
  have S2 := keep (show w1.heap.size ≤ w2.heap.size from b2.size)
  have B2 := keep (B1.out.trans (C2.out.mono B1.out.size))
  have K2 := keep (K1.out.later C2.out)
  have hq2 := hW2.symm
  clear hW2 a2 b2 t2
  go_wp2_with fail
  refine (DP.out g c W2 K2.out B2.out).mono ?_
  rintro e w3 ⟨r0, r1, r2, r3, r4, r5, rfl, t3, b3⟩
  obtain ⟨W3, hW3⟩ : ∃ x, x = w3.alloc (.cells #[.int .i64 r0, .string r1, .int .i64 r2, .slice r3 r4 r5] 25) := ⟨_, rfl⟩
  have a3 : Below w3.heap.size w3 W3 := hW3 ▸ (Below.refl _ _).alloc (Nat.le_refl _) _
  have X3 := keep (show Box W3 w3.heap.size (.int .i64 r0) (.string r1) (.int .i64 r2) (.slice r3 r4 r5) from hW3 ▸ Box.new w3 _ _ _ _)
  have C3 := keep (b3.trans (a3.mono b3.size))
  have T3 := keep (show Tel (fun x => W2.heap.size ≤ x ∧ x < w3.heap.size) W3 9 [.int .i64 r0, .string r1, .int .i64 r2, .slice r3 r4 r5] T from Tel.mono (fun b h => h) (fun b h => a3.block b h.2) _ _ _ t3)
  have S3 := keep (show W2.heap.size ≤ w3.heap.size from b3.size)
  have S33 := keep (show w3.heap.size < W3.heap.size from X3.out.lt)
  have B3 := keep (B2.out.trans (C3.out.mono B2.out.size))
  have K3 := keep (K2.out.later C3.out)
  have hq3 := hW3.symm
  clear hW3 a3 b3 t3 hq2
  go_wp2_with fail
  refine (DP.out g c W3 K3.out B3.out).mono ?_
  rintro e w4 ⟨u0, u1, u2, u3, u4, u5, rfl, t4, b4⟩
  obtain ⟨W4, hW4⟩ : ∃ x, x = w4.alloc (.cells #[.int .i64 u0, .string u1, .int .i64 u2, .slice u3 u4 u5] 25) := ⟨_, rfl⟩
  have a4 : Below w4.heap.size w4 W4 := hW4 ▸ (Below.refl _ _).alloc (Nat.le_refl _) _
  have X4 := keep (show Box W4 w4.heap.size (.int .i64 u0) (.string u1) (.int .i64 u2) (.slice u3 u4 u5) from hW4 ▸ Box.new w4 _ _ _ _)
  have C4 := keep (b4.trans (a4.mono b4.size))
  have T4 := keep (show Tel (fun x => W3.heap.size ≤ x ∧ x < W4.heap.size) W4 9 [.int .i64 u0, .string u1, .int .i64 u2, .slice u3 u4 u5] T from Tel.mono (fun b h => ⟨h.1, Nat.lt_of_lt_of_le h.2 a4.size⟩) (fun b h => a4.block b h.2) _ _ _ t4)
  have S4 := keep (show W3.heap.size ≤ w4.heap.size from b4.size)
  have S44 := keep (show w4.heap.size < W4.heap.size from X4.out.lt)
  have B4 := keep (B3.out.trans (C4.out.mono B3.out.size))
  have K4 := keep (K3.out.later C4.out)
  have C24 := keep (C3.out.trans (C4.out.mono C3.out.size))
  have XW := keep (X2.out.below C24.out X2.out.lt)
  have XR := keep (X3.out.below C4.out X3.out.lt)
  have TW := keep (show Tel (fun x => w1.heap.size ≤ x ∧ x < W2.heap.size) W4 9 [.int .i64 p0, .string p1, .int .i64 p2, .slice p3 p4 p5] T from Tel.mono (fun b h => h) (fun b h => C24.out.block b h.2) _ _ _ T2.out)
  have TR := keep (show Tel (fun x => W2.heap.size ≤ x ∧ x < w3.heap.size) W4 9 [.int .i64 r0, .string r1, .int .i64 r2, .slice r3 r4 r5] T from Tel.mono (fun b h => h) (fun b h => C4.out.block b (Nat.lt_trans h.2 S33.out)) _ _ _ T3.out)
  have hS24 := C24.out.size
  have hS4 := S4.out
  have hS44 := S44.out
  have hS33 := S33.out
  have hS12 := C2.out.size
  have TWa := keep (show Tel (· < W4.heap.size) W4 9 [.int .i64 p0, .string p1, .int .i64 p2, .slice p3 p4 p5] T from Tel.mono (fun b h => by omega) (fun b h => rfl) _ _ _ TW.out)
  have TRa := keep (show Tel (· < W4.heap.size) W4 9 [.int .i64 r0, .string r1, .int .i64 r2, .slice r3 r4 r5] T from Tel.mono (fun b h => by omega) (fun b h => rfl) _ _ _ TR.out)
  have TQa := keep (show Tel (· < W4.heap.size) W4 9 [.int .i64 u0, .string u1, .int .i64 u2, .slice u3 u4 u5] T from Tel.mono (fun b h => h.2) (fun b h => rfl) _ _ _ T4.out)
  have ORD := keep (show g < w1.heap.size ∧ w1.heap.size ≤ w2.heap.size ∧ w2.heap.size < W2.heap.size ∧ W2.heap.size ≤ w3.heap.size ∧ w3.heap.size < W3.heap.size ∧ W3.heap.size ≤ w4.heap.size ∧ w4.heap.size < W4.heap.size from ⟨HG1.out, S2.out, X2.out.lt, S3.out, S33.out, S4.out, S44.out⟩)
  have hq4 := hW4.symm
  clear hW4 a4 b4 t4 hq3 hS24 hS4 hS44 hS33 hS12 HG1 S2 S3 S33 S4 S44
  have C5 := keep (SA.out _ _ W4 TRa.out TWa.out)
  obtain ⟨d0, d1, d2, d3⟩ := XR.out.cells
  obtain ⟨e0, e1, e2, e3⟩ := XW.out.cells
  go_wp2_with fail
  refine C5.out.mono ?_
  rintro e w5 ⟨⟨z, rfl, hz⟩, b5⟩
  obtain rfl : z = true := hz.2 (by trivial)
  have F5 := keep b5
  have C6 := keep (SA.out _ _ w5 (TQa.out.any b5) (TWa.out.any b5))
  have xq5 := X4.out.below b5 X4.out.lt
  have xw5 := XW.out.below b5 XW.out.lt
  clear b5 hz C5 d0 d1 d2 d3 e0 e1 e2 e3 hq4
  obtain ⟨d0, d1, d2, d3⟩ := xq5.cells
  obtain ⟨e0, e1, e2, e3⟩ := xw5.cells
  clear xq5 xw5
  go_wp2_with fail
  refine C6.out.mono ?_
  rintro e w6 ⟨⟨z, rfl, hz⟩, b6⟩
  obtain rfl : z = true := hz.2 (by trivial)
  have F6 := keep (F5.out.trans (b6.mono F5.out.size))
  have C7 := keep (KE.out g c w6 (K4.out.later F6.out) (B4.out.trans (F6.out.mono B4.out.size)))
  clear b6 hz C6 d0 d1 d2 d3 e0 e1 e2 e3
  go_wp2_with fail
  refine C7.out.mono ?_
  rintro e w7 ⟨rfl, b7⟩
  have F7 := keep (F6.out.trans (b7.mono F6.out.size))
  have B7 := keep (B4.out.trans (F7.out.mono B4.out.size))
  have K7 := keep (K4.out.later F7.out)
  have XR7 := keep (XR.out.below F7.out XR.out.lt)
  have XW7 := keep (XW.out.below F7.out XW.out.lt)
  have XQ7 := keep (X4.out.below F7.out X4.out.lt)
  clear b7 C7
  obtain ⟨P, hP⟩ : ∃ P : Nat → Prop, P = fun b => W2.heap.size ≤ b ∧ b < w3.heap.size := ⟨_, rfl⟩
  have hPl : ∀ b, P b → W2.heap.size ≤ b ∧ b < w3.heap.size := fun b hb => by rw [hP] at hb; exact hb
  have t7 : Tel P w7 9 [.int .i64 r0, .string r1, .int .i64 r2, .slice r3 r4 r5] T := Tel.mono (fun b h => by rw [hP]; exact h) (fun b h => F7.out.block b (by have := ORD.out; omega)) _ _ _ TR.out
  obtain ⟨lv, elv, hlst, _⟩ := t7
  have elv' : lv = .slice r3 r4 r5 := by
    injection elv with _ h2
    injection h2 with _ h3
    injection h3 with _ h4
    injection h4 with h5 _
    exact h5.symm
  subst elv'
  have hrd : Rdy P w7 8 (.slice r3 r4 r5) := Rdy.of_lst 8 _ _ hlst (by
    have h := HWT.out
    have hw' : Rp.wt 9 T = 4 + (Rp.tx T).size + ((Rp.ls T).map (Rp.wt 8)).sum := rfl
    omega)
  have SPC := keep (spoilt_any P 8 w7 r0 r1 r2 (.slice r3 r4 r5) (fun b hb => by have := hPl b hb; have := ORD.out; have := F7.out.size; omega) hrd)
  have HPL := keep hPl
  clear hP hPl elv hlst hrd
  obtain ⟨d0, d1, d2, d3⟩ := XR7.out.cells
  go_wp2_with fail
  refine SPC.out.mono ?_
  rintro e w8 ⟨rfl, sp⟩
  have bsp : Below w.heap.size w7 w8 := sp.below (fun b hb => by have := (HPL.out b hb).1; have := ORD.out; have := HG.out; omega) B7.out.size
  have B8 := keep (B7.out.trans bsp)
  have hz78 := bsp.size
  have hi8 : ∀ b, b < w7.heap.size → (b < W2.heap.size ∨ w3.heap.size ≤ b) → w8.heap[b]? = w7.heap[b]? := fun b h1 h2 => sp.2.1 b h1 (fun hp => by have := HPL.out b hp; omega)
  have hF7 := F7.out.size
  have K8 := keep (show Kb w8 (.slice (some ⟨g, 0, none⟩) (N + 70) c) L from own_kept K7.out (fun k hk => hi8 k (K7.out.lt k hk) (.inl (by have : g = k := Option.some.inj hk; have := ORD.out; omega))))
  have XW8 := keep (show Box w8 w2.heap.size (.int .i64 p0) (.string p1) (.int .i64 p2) (.slice p3 p4 p5) from (hi8 _ XW7.out.lt (.inl (by have := ORD.out; omega))).trans XW7.out)
  have XQ8 := keep (show Box w8 w4.heap.size (.int .i64 u0) (.string u1) (.int .i64 u2) (.slice u3 u4 u5) from (hi8 _ XQ7.out.lt (.inr (by have := ORD.out; omega))).trans XQ7.out)
  have TW8 := keep (show Tel (fun x => w1.heap.size ≤ x ∧ x < w8.heap.size) w8 9 [.int .i64 p0, .string p1, .int .i64 p2, .slice p3 p4 p5] T from Tel.mono (fun b h => ⟨h.1, by have := ORD.out; omega⟩) (fun b h => (hi8 b (by have := ORD.out; omega) (.inl h.2)).trans (F7.out.block b (by have := ORD.out; omega))) _ _ _ TW.out)
  have TQ8 := keep (show Tel (fun x => w1.heap.size ≤ x ∧ x < w8.heap.size) w8 9 [.int .i64 u0, .string u1, .int .i64 u2, .slice u3 u4 u5] T from Tel.mono (fun b h => ⟨by have := ORD.out; omega, by omega⟩) (fun b h => (hi8 b (by omega) (.inr (by have := ORD.out; omega))).trans (F7.out.block b h.2)) _ _ _ T4.out)
  have C9 := keep (SA.out _ _ w8 (Tel.mono (fun b h => h.2) (fun b h => rfl) _ _ _ TQ8.out) (Tel.mono (fun b h => h.2) (fun b h => rfl) _ _ _ TW8.out))
  clear d0 d1 d2 d3 sp bsp hi8 SPC hz78 hF7 K7 XW7 XQ7 XR7 F5 F6 TWa TRa TQa X2 X3 X4 T2 T3 K1 K2 K3 B1 B2 B3
  obtain ⟨d0, d1, d2, d3⟩ := XQ8.out.cells
  obtain ⟨e0, e1, e2, e3⟩ := XW8.out.cells
  go_wp2_with fail
  refine C9.out.mono ?_
  rintro e w9 ⟨⟨z, rfl, hz⟩, b9⟩
  obtain rfl : z = true := hz.2 (by trivial)
  have F9 := keep b9
  have B9 := keep (B8.out.trans (b9.mono B8.out.size))
  have C10 := keep (KE.out g c w9 (K8.out.later b9) B9.out)
  clear b9 hz C9 d0 d1 d2 d3 e0 e1 e2 e3
  go_wp2_with fail
  refine C10.out.mono ?_
  rintro e w10 ⟨rfl, b10⟩
  have F10 := keep (F9.out.trans (b10.mono F9.out.size))
  have B10 := keep (B8.out.trans (F10.out.mono B8.out.size))
  have C11 := keep (SP.out g c w10 (K8.out.later F10.out) HG.out B10.out.size)
  clear b10 C10
  go_wp2_with fail
  refine C11.out.mono ?_
  rintro e w11 ⟨rfl, b11, f11⟩
  have B11 := keep (B10.out.trans b11)
  have hz8 : w8.heap.size ≤ w10.heap.size := F10.out.size
  have hz11 : w10.heap.size ≤ w11.heap.size := b11.size
  have hi11 : ∀ b, w1.heap.size ≤ b → b < w8.heap.size → w11.heap[b]? = w8.heap[b]? := fun b h1 h2 => (f11 b (by omega) (fun e => by have : g = b := Option.some.inj e; have := ORD.out; omega)).trans (F10.out.block b h2)
  have xw11 : Box w11 w2.heap.size (.int .i64 p0) (.string p1) (.int .i64 p2) (.slice p3 p4 p5) := (hi11 _ (by have := ORD.out; omega) XW8.out.lt).trans XW8.out
  have xq11 : Box w11 w4.heap.size (.int .i64 u0) (.string u1) (.int .i64 u2) (.slice u3 u4 u5) := (hi11 _ (by have := ORD.out; omega) XQ8.out.lt).trans XQ8.out
  have C12 := keep (SA.out _ _ w11 (Tel.mono (fun b h => by omega) (fun b h => hi11 b h.1 h.2) _ _ _ TQ8.out) (Tel.mono (fun b h => by omega) (fun b h => hi11 b h.1 h.2) _ _ _ TW8.out))
  clear b11 f11 hz8 hz11 hi11 C11
  obtain ⟨d0, d1, d2, d3⟩ := xq11.cells
  obtain ⟨e0, e1, e2, e3⟩ := xw11.cells
  clear xw11 xq11
  go_wp2_with fail
  refine C12.out.mono ?_
  rintro e w12 ⟨⟨z, rfl, hz⟩, b12⟩
  obtain rfl : z = true := hz.2 (by trivial)
  have B12 := keep (B11.out.trans (b12.mono B11.out.size))
  clear b12 hz
  go_wp2_with fail
  rw [HP.out]
  exact ⟨rfl, B12.out⟩
end Go.Proofs.YtoalnfkjpdgbiaaDoor
