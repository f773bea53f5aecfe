/-
  Contracts over this program, put together.
-/
import Derived.Test.YtmgeaanbgjbkcaaGreatMVd
import Derived.Test.YtmgeaanbgjbkcaaGreatMVe
import Derived.Test.YtmgeaanbgjbkcaaGreatRows
import Derived.ChangeSlices
import Derived.SizedLaws
import Derived.ProofKit
import Derived.OpenShut
import Derived.Deep.Strs
import Derived.Deep.Slices
import Derived.Carry
import Derived.ShutString
set_option maxHeartbeats 8000000
namespace Go.Proofs.YtmgeaanbgjbkcaaGreat
open Go.RowKit Go.Shelf
set_option linter.unusedVariables false
set_option linter.unusedSimpArgs false
set_option maxRecDepth 100000
namespace Vl
def tA : ByteArray := { data := #[97] }
def tB : ByteArray := { data := #[98] }
def dW : Dt := ⟨4, et, [tB, tA], [], []⟩
theorem ab_ne : tB ≠ tA := by decide
theorem dW_ok : Rfz dW 0 := by
  have h1 : ¬ Bad dW := by
    rintro (h | h | ⟨e, he, _⟩)
    · exact h (.inr (.inl ⟨.inr rfl, rfl, rfl, rfl⟩))
    · rcases h with ⟨_, h⟩ | h | h
      · exact h (by show [tB, tA].Nodup; simp [ab_ne])
      · exact h List.nodup_nil
      · exact h List.nodup_nil
    · cases he
  have h2 : ¬ Long dW := by
    rintro (h | ⟨x, hx, h⟩ | ⟨x, hx, _⟩ | ⟨x, hx, _⟩)
    · exact absurd h (by decide)
    · have hx : x ∈ [tB, tA] := hx
      simp at hx
      rcases hx with rfl | rfl
      · exact absurd h (by decide)
      · exact absurd h (by decide)
    · cases hx
    · cases hx
  have h3 : ¬ Full dW := by
    rintro (h | h | h) <;> exact absurd h (by decide)
  exact .inr (.inr (.inr ⟨rfl, h1, h2, h3⟩))
theorem dW_wf : Wf dW := ⟨by decide, fun x hx => by
  have hx : x ∈ [tB, tA] := hx
  simp at hx
  rcases hx with rfl | rfl <;> decide, (fun x hx => by cases hx), (fun x hx => by cases hx)⟩
theorem dW_told {d' : Dt} (h : Told dW d') : d' = ⟨4, et, [tA, tB], [], []⟩ := by
  rcases h with ⟨h1, _⟩ | ⟨h1, _⟩ | ⟨h1, _⟩ | ⟨h1, L, rfl, h2⟩ | ⟨h1, _⟩
  · exact absurd h1 (by decide)
  · exact absurd h1 (by decide)
  · exact absurd h1 (by decide)
  · have hs : [tA, tB].Pairwise (fun a b => DU.ky a < DU.ky b) := by
      refine List.pairwise_cons.2 ⟨fun b hb => ?_, List.pairwise_cons.2 ⟨fun b hb => (by cases hb), List.Pairwise.nil⟩⟩
      simp at hb
      subst hb
      decide
    rw [DU.srs_eq h2.2 hs (h2.1.trans (List.Perm.swap _ _ _))]
  · exact absurd h1 (by decide)
theorem own_lit2 (w : World) (a b : ByteArray) : It (w.alloc (.cells #[.string a, .string b] 9)) (.slice (some ⟨w.heap.size, 0, none⟩) 2 2) [a, b] := by
  refine ⟨rfl, .inr ⟨w.heap.size, 2, #[.string a, .string b], rfl, Nat.zero_le _, heap_alloc_new _ _, Nat.le_refl _, by decide, rfl, rfl⟩⟩
theorem wakes_any (w : World) : Calls Tryz.prog 36 #[] w fun e w' => e = .returned (.bool true) ∧ Below w.heap.size w w' := by
  obtain ⟨W1, hW1⟩ : ∃ W1, w.alloc (.cells #[.string { data := #[98] }, .string { data := #[97] }] 9) = W1 := ⟨_, rfl⟩
  have hb1 : Below w.heap.size w W1 := by rw [← hW1]; exact (Below.refl _ w).alloc (Nat.le_refl _) _
  have hP : Pln W1 (.agg #[.int .i64 4, .string { data := #[] }, .slice (some ⟨w.heap.size, 0, none⟩) 2 2, .slice none 0 0, .slice none 0 0]) dW := ⟨_, _, _, rfl, by rw [← hW1]; exact own_lit2 w tB tA, own_nil _ _ _, own_nil _ _ _⟩
  have m1 := of_any W1 _ dW 5 hP dW_wf (by decide)
  have HB1 := keep hb1
  have HW1 := keep hW1
  clear hb1 hW1 hP
  go_enter Tryz.func36, Tryz.ntmps36
  go_wp2_with fail
  rw [HW1.out]
  refine m1.mono ?_
  rintro _ V1 ⟨hO, hb⟩
  have HBa := keep (HB1.out.trans (hb.mono HB1.out.size))
  clear hb m1
  rcases hO with ⟨c, hc0, hc, rfl⟩ | ⟨h0, b, rfl, hv⟩
  · exact absurd (hc.one dW_ok) hc0
  · have mC := vcost_any hv dW_wf
    have ec : ((cstD dW : Nat) : Int) = 50 := by decide
    rw [ec] at mC
    have mP := vplain_any hv
    clear hv h0 ec
    go_wp2_with fail
    refine mC.mono ?_
    rintro _ V2 ⟨rfl, hw⟩
    obtain rfl := hw.symm
    clear mC
    go_wp2_with fail
    refine mP.mono ?_
    rintro _ V3 ⟨⟨V, d', rfl, hPl, hT⟩, hb3⟩
    obtain rfl := dW_told hT
    obtain ⟨iv, pv, rv, rfl, q1, q2, q3⟩ := hPl
    have HB3 := keep (HBa.out.trans (hb3.mono HBa.out.size))
    have hb4 : Below V3.heap.size V3 (V3.alloc (.cells #[.string { data := #[97] }, .string { data := #[98] }] 9)) := (Below.refl _ _).alloc (Nat.le_refl _) _
    have mT := texts_any (V3.alloc (.cells #[.string { data := #[97] }, .string { data := #[98] }] 9)) iv (.slice (some ⟨V3.heap.size, 0, none⟩) 2 2) [tA, tB] (kept q1 hb4) (own_lit2 V3 tA tB)
    have HB4 := keep (HB3.out.trans (hb4.mono HB3.out.size))
    unfold plV
    have hfd : ∀ w : World, (Instr.field 30 (.agg #[.int .i64 4, .string et, iv, pv, rv]) 2).run Tryz.prog w = .ok iv w := fun _ => by rfl
    clear hT q1 q2 q3 hb3 hb4 mP
    go_wp2_with fail
    refine mT.mono ?_
    rintro _ V5 ⟨rfl, hb5⟩
    go_wp2
    go_ret
    exact ⟨rfl, HB4.out.trans (hb5.mono HB4.out.size)⟩
end Vl
end Go.Proofs.YtmgeaanbgjbkcaaGreat

namespace Go.Proofs.YtmgeaanbgjbkcaaGreat
open Go.RowKit Go.Shelf
set_option linter.unusedVariables false
set_option linter.unusedSimpArgs false
set_option maxRecDepth 100000
namespace Vl
def Arg (w : World) (kd : Int) (tx : ByteArray) (io po no so : Option Addr) (n1 n2 n3 n4 k1 k2 : Nat) (d : Dt) : Prop :=
  ∃ I P N S, d = ⟨kd, tx, I, P, rkz N S⟩ ∧ I.length = n1 ∧ P.length = n2 ∧ N.length = n3 ∧ S.length = n4 ∧ In w io (I.map Value.string) ∧ In w po (enP P) ∧ In w no (N.map Value.string) ∧ In w so (S.map fun (x : Nat) => Value.int .u64 (x : Int)) ∧
    (io = none → k1 = 0) ∧ (po = none → k2 = 0) ∧ n1 ≤ 1048576 ∧ n2 ≤ 1048576 ∧ n3 ≤ 1048576
theorem Arg.plain {w w' : World} {kd : Int} {tx : ByteArray} {io po no so : Option Addr} {n1 n2 n3 n4 k1 k2 k3 k4 : Nat} {d : Dt} (h : Arg w kd tx io po no so n1 n2 n3 n4 k1 k2 d) (hb : Below w.heap.size w w') :
    Calls Tryz.prog 9 #[.agg #[.int .i64 kd, .string tx, .slice io n1 k1, .slice po n2 k2, .slice no n3 k3, .slice so n4 k4]] w' fun e w'' => (∃ V, e = .returned V ∧ Pln w'' V d) ∧ Below w'.heap.size w' w'' := by
  obtain ⟨I, P, N, S, rfl, h1, h2, h3, h4, q1, q2, q3, q4, z1, z2, s1, s2, s3⟩ := h
  exact dplain_any w' kd tx io po no so n1 n2 n3 n4 k1 k2 k3 k4 I P N S h1 h2 h3 h4 (q1.bel (B := 0) hb) (q2.bel (B := 0) hb) (q3.bel (B := 0) hb) (q4.bel (B := 0) hb) z1 z2 s1 s2 s3
theorem Told.list {d d' : Dt} (h : Told d d') (hk : d.kind = 2) : d'.items = d.items := by
  rcases h with ⟨h1, _⟩ | ⟨h1, rfl⟩ | ⟨h1, _⟩ | ⟨h1, _⟩ | ⟨h1, _⟩
  · omega
  · rfl
  · omega
  · omega
  · omega
theorem back_walk (w : World) (kd : Int) (tx : ByteArray) (io po no so : Option Addr) (n1 n2 n3 n4 k1 k2 k3 k4 : Nat) (d : Dt) (hA : Arg w kd tx io po no so n1 n2 n3 n4 k1 k2 d) (hkd : d.kind = kd) (hwf : Wf d) (seed other : Nat) (hs : seed < Dw.M) (ho : other < Dw.M) :
    Calls Tryz.prog 5 #[.agg #[.int .i64 kd, .string tx, .slice io n1 k1, .slice po n2 k2, .slice no n3 k3, .slice so n4 k4], .int .u64 seed, .int .u64 other] w fun e w' => e = .returned (.bool true) ∧ Below w.heap.size w w' := by
  obtain ⟨W1, hW1⟩ : ∃ W1, w.alloc (.cells #[.int .i64 kd, .string tx, .slice io n1 k1, .slice po n2 k2, .slice no n3 k3, .slice so n4 k4] 26) = W1 := ⟨_, rfl⟩
  have hb1 : Below w.heap.size w W1 := by rw [← hW1]; exact (Below.refl _ w).alloc (Nat.le_refl _) _
  have g1 : W1.heap[w.heap.size]? = some (.cells #[.int .i64 kd, .string tx, .slice io n1 k1, .slice po n2 k2, .slice no n3 k3, .slice so n4 k4] 26 (0, 0)) := by rw [← hW1]; exact heap_alloc_new _ _
  have DP : Kept (∀ W', Below W1.heap.size W1 W' → Calls Tryz.prog 9 #[.agg #[.int .i64 kd, .string tx, .slice io n1 k1, .slice po n2 k2, .slice no n3 k3, .slice so n4 k4]] W' fun e w'' => (∃ V, e = .returned V ∧ Pln w'' V d) ∧ Below W'.heap.size W' w'') :=
    fun W' hb => hA.plain (hb1.trans (hb.mono hb1.size))
  have NU : Kept (∀ W', Below W1.heap.size W1 W' → (W'.cell? ⟨w.heap.size, 0, none⟩ = some (.int .i64 kd) ∧ W'.cell? ⟨w.heap.size, 1, none⟩ = some (.string tx) ∧ W'.cell? ⟨w.heap.size, 2, none⟩ = some (.slice io n1 k1) ∧ W'.cell? ⟨w.heap.size, 3, none⟩ = some (.slice po n2 k2) ∧ W'.cell? ⟨w.heap.size, 4, none⟩ = some (.slice no n3 k3) ∧ W'.cell? ⟨w.heap.size, 5, none⟩ = some (.slice so n4 k4))) :=
    fun W' hb => six_cells ((hb.block _ (Array.getElem?_eq_some_iff.1 g1).1).trans g1)
  have HB1 := keep hb1
  have HW1 := keep hW1
  have HWF := keep hwf
  have HKD := keep hkd
  clear hA hb1 hW1 g1 hwf hkd
  go_enter Tryz.func5, Tryz.ntmps5
  go_wp2_with fail
  rw [HW1.out]
  refine (wakes_any _).mono ?_
  rintro _ V0 ⟨rfl, hb0⟩
  have HB0 := keep hb0
  obtain ⟨c0, c1, c2, c3, c4, c5⟩ := NU.out V0 hb0
  have mD := DP.out V0 hb0
  clear hb0
  go_wp2_with fail
  refine mD.mono ?_
  rintro _ V1 ⟨⟨V, rfl, hP⟩, hb⟩
  have HBa := keep (HB0.out.trans (hb.mono HB0.out.size))
  have mO := of_any V1 V d seed hP HWF.out hs
  clear mD hb hP c0 c1 c2 c3 c4 c5
  go_wp2_with fail
  refine mO.mono ?_
  rintro _ V2 ⟨hO, hb⟩
  have HBb := keep (HBa.out.trans (hb.mono HBa.out.size))
  clear mO hb
  rcases hO with ⟨c, hc0, hc, rfl⟩ | ⟨h0, b, rfl, hv⟩
  · have hne : (c != 0) = true := by simpa using hc0
    have HC0 := keep hc0
    have HC := keep hc
    have hcd := hc.codes
    obtain ⟨c0, c1, c2, c3, c4, c5⟩ := NU.out V2 HBb.out
    have mD := DP.out V2 HBb.out
    clear hc0 hc
    go_wp2_with fail
    refine mD.mono ?_
    rintro _ V3 ⟨⟨V', rfl, hP⟩, hb⟩
    have HBc := keep (HBb.out.trans (hb.mono HBb.out.size))
    have mC := pcost_any V3 V' d hP HWF.out
    clear mD hb hP c0 c1 c2 c3 c4 c5
    go_wp2_with fail
    refine mC.mono ?_
    rintro _ V4 ⟨⟨k, rfl, hk⟩, hb⟩
    have hk0 : k = 0 := by
      rcases hk with ⟨h, _⟩ | ⟨_, h⟩
      · exact absurd (HC.out.one h) HC0.out
      · exact h
    subst hk0
    have HBd := keep (HBc.out.trans (hb.mono HBc.out.size))
    clear mC hb hk
    rcases hcd with rfl | rfl | rfl | rfl
    · go_wp2
      go_ret
      exact ⟨rfl, HB1.out.trans (HBd.out.mono HB1.out.size)⟩
    · go_wp2
      go_ret
      exact ⟨rfl, HB1.out.trans (HBd.out.mono HB1.out.size)⟩
    · go_wp2
      go_ret
      exact ⟨rfl, HB1.out.trans (HBd.out.mono HB1.out.size)⟩
    · exact absurd rfl HC0.out
  · have mP := vplain_any hv
    have HV := keep hv
    have H0 := keep h0
    clear hv h0
    go_wp2_with fail
    refine mP.mono ?_
    rintro _ V3 ⟨⟨V', d1, rfl, hP, hT⟩, hb⟩
    have hfit : Fit d := Classical.byContradiction (fun e => H0.out.ok.1 (.inl e))
    have hpm := hT.pm hfit
    have HBc := keep (HBb.out.trans (hb.mono HBb.out.size))
    have HV3 := keep (HV.out.bel hb)
    have HPM := keep hpm
    have HT := keep hT
    have HF := keep hfit
    have HWF1 := keep (wf_pm hpm HWF.out)
    have H01 := keep (hpm.rfz H0.out)
    obtain ⟨iv, pv, rv, rfl, q1, q2, q3⟩ := hP
    obtain ⟨io1, ic1, rfl⟩ := own_sl q1
    obtain ⟨po1, pc1, rfl⟩ := own_sl q2
    obtain ⟨ro1, rc1, rfl⟩ := own_sl q3
    obtain ⟨W4, hW4⟩ : ∃ W4, V3.alloc (.cells #[.int .i64 d1.kind, .string d1.text, .slice io1 d1.items.length ic1, .slice po1 d1.pairs.length pc1, .slice ro1 d1.ranks.length rc1] 30) = W4 := ⟨_, rfl⟩
    have hb4 : Below V3.heap.size V3 W4 := by rw [← hW4]; exact (Below.refl _ _).alloc (Nat.le_refl _) _
    have g4 : Bx W4 V3.heap.size d1.kind d1.text (.slice io1 d1.items.length ic1) (.slice po1 d1.pairs.length pc1) (.slice ro1 d1.ranks.length rc1) := by rw [← hW4]; exact heap_alloc_new _ _
    have hP4 : Pln W4 (plV d1 (.slice io1 d1.items.length ic1) (.slice po1 d1.pairs.length pc1) (.slice ro1 d1.ranks.length rc1)) d1 := ⟨_, _, _, rfl, kept q1 hb4, kept q2 hb4, kept q3 hb4⟩
    have HP4 := keep hP4
    have G4 := keep g4
    have HW4 := keep hW4
    have HBe := keep (HBc.out.trans (hb4.mono HBc.out.size))
    have HV4 := keep (HV3.out.bel hb4)
    have mO := of_any W4 _ d1 other hP4 HWF1.out ho
    unfold plV at mO HP4 ⊢
    have K1 : Kept (d1.kind = kd) := hT.kind.trans HKD.out
    rw [K1.out] at mO HP4 G4 HW4 ⊢
    generalize hn1 : d1.items.length = m1 at *
    generalize hn2 : d1.pairs.length = m2 at *
    generalize hn3 : d1.ranks.length = m3 at *
    generalize hnt : d1.text = t1 at *
    have z0 := five_cells G4.out
    obtain ⟨e0, e1, e2, e3, e4⟩ := z0
    clear mP hb hT hfit hpm q1 q2 q3 hW4 hb4 g4 hP4 hn1 hn2 hn3 hnt
    go_wp2_with fail
    rw [HW4.out]
    refine mO.mono ?_
    rintro _ V5 ⟨hO, hb⟩
    have HBf := keep (HBe.out.trans (hb.mono HBe.out.size))
    have HV5 := keep (HV4.out.bel hb)
    have HP5 := keep (HP4.out.bel hb)
    have G5 := keep (G4.out.bel hb)
    clear mO hb e0 e1 e2 e3 e4
    rcases hO with ⟨c, hc0, hc, rfl⟩ | ⟨_, b', rfl, hv'⟩
    · exact absurd (hc.one H01.out) hc0
    · have HVb := keep hv'
      clear hv'
      have hcs : cstD d1 = cstD d := cst_pm HPM.out
      have hes : empD d1 = empD d := emp_pm HPM.out
      have HCS := keep hcs
      have HES := keep hes
      have SH : Kept (∀ W : World, Below V5.heap.size V5 W → (W.cell? ⟨V3.heap.size, 0, none⟩ = some (.int .i64 kd) ∧ W.cell? ⟨V3.heap.size, 1, none⟩ = some (.string t1) ∧ W.cell? ⟨V3.heap.size, 2, none⟩ = some (.slice io1 m1 ic1) ∧ W.cell? ⟨V3.heap.size, 3, none⟩ = some (.slice po1 m2 pc1) ∧ W.cell? ⟨V3.heap.size, 4, none⟩ = some (.slice ro1 m3 rc1) ∧ W.cell? ⟨w.heap.size, 0, none⟩ = some (.int .i64 kd))) := fun W hb => by
        obtain ⟨x0, x1, x2, x3, x4⟩ := five_cells (G5.out.bel hb)
        exact ⟨x0, x1, x2, x3, x4, (NU.out W (HBf.out.trans (hb.mono HBf.out.size))).1⟩
      have mP8 := vplain_any (HVb.out.bel (Below.refl _ V5).drew)
      clear hcs hes
      go_upto_region 8 with fail
      refine wp_region_held_drew (S := fun W => W.cell? ⟨V3.heap.size, 0, none⟩ = some (.int .i64 kd) ∧ W.cell? ⟨V3.heap.size, 1, none⟩ = some (.string t1) ∧ W.cell? ⟨V3.heap.size, 2, none⟩ = some (.slice io1 m1 ic1) ∧ W.cell? ⟨V3.heap.size, 3, none⟩ = some (.slice po1 m2 pc1) ∧ W.cell? ⟨V3.heap.size, 4, none⟩ = some (.slice ro1 m3 rc1) ∧ W.cell? ⟨w.heap.size, 0, none⟩ = some (.int .i64 kd)) (by kernel_rfl) (SH.out _ (Below.refl _ V5).drew) (fun hHeld => ?_)
      refine wpAnyH_take (i := 0) (oi := ⟨some 51, _, _, _, _, _⟩) (v := ?v1) rfl (by kernel_rfl) (by kernel_rfl) (by kernel_rfl) (fun _ _ _ h => h) (Or.inl ⟨by rfl, ?hy1⟩) (by assumption) ?rest1
      case hy1 => (intro w hSw; obtain ⟨p0,p1,p2,p3,p4,p5⟩ := hSw; go_simp; try with_reducible rfl)
      try simp only [Act.put, List.setIfInBounds_toArray, List.set_cons_zero, List.set_cons_succ]
      refine wpAnyH_take (i := 1) (oi := ⟨some 52, _, _, _, _, _⟩) (v := (.bool false)) rfl (by kernel_rfl) (by kernel_rfl) (by kernel_rfl) (fun _ _ _ h => h) (Or.inl ⟨by rfl, ?hy2⟩) (by assumption) ?rest2
      case hy2 => (intro w hSw; obtain ⟨p0,p1,p2,p3,p4,p5⟩ := hSw; first | (go_simp; done) | (go_simp; simp [*]; done) | (simp [*]; go_simp; done))
      try simp only [Act.put, List.setIfInBounds_toArray, List.set_cons_zero, List.set_cons_succ]
      refine wpAnyH_take (i := 2) (oi := ⟨some 53, _, _, _, _, _⟩) (v := (.bool false)) rfl (by kernel_rfl) (by kernel_rfl) (by kernel_rfl) (fun _ _ _ h => h) (Or.inl ⟨by rfl, ?hy3⟩) (by assumption) ?rest3
      case hy3 => (intro w hSw; obtain ⟨p0,p1,p2,p3,p4,p5⟩ := hSw; first | (go_simp; done) | (go_simp; simp [*]; done) | (simp [*]; go_simp; done))
      try simp only [Act.put, List.setIfInBounds_toArray, List.set_cons_zero, List.set_cons_succ]
      refine wpAnyH_take (i := 3) (oi := ⟨some 54, _, _, _, _, _⟩) (v := ?v4) rfl (by kernel_rfl) (by kernel_rfl) (by kernel_rfl) (fun _ _ _ h => h) (Or.inl ⟨by rfl, ?hy4⟩) (by assumption) ?rest4
      case hy4 => (intro w hSw; obtain ⟨p0,p1,p2,p3,p4,p5⟩ := hSw; go_simp; try with_reducible rfl)
      try simp only [Act.put, List.setIfInBounds_toArray, List.set_cons_zero, List.set_cons_succ]
      refine wpAnyH_take (i := 4) (oi := ⟨some 55, _, _, _, _, _⟩) (v := (.bool false)) rfl (by kernel_rfl) (by kernel_rfl) (by kernel_rfl) (fun _ _ _ h => h) (Or.inl ⟨by rfl, ?hy5⟩) (by assumption) ?rest5
      case hy5 => (intro w hSw; obtain ⟨p0,p1,p2,p3,p4,p5⟩ := hSw; first | (go_simp; done) | (go_simp; simp [*]; done) | (simp [*]; go_simp; done))
      try simp only [Act.put, List.setIfInBounds_toArray, List.set_cons_zero, List.set_cons_succ]
      refine wpAnyH_take (i := 5) (oi := ⟨some 56, _, _, _, _, _⟩) (v := (.bool false)) rfl (by kernel_rfl) (by kernel_rfl) (by kernel_rfl) (fun _ _ _ h => h) (Or.inl ⟨by rfl, ?hy6⟩) (by assumption) ?rest6
      case hy6 => (intro w hSw; obtain ⟨p0,p1,p2,p3,p4,p5⟩ := hSw; first | (go_simp; done) | (go_simp; simp [*]; done) | (simp [*]; go_simp; done))
      try simp only [Act.put, List.setIfInBounds_toArray, List.set_cons_zero, List.set_cons_succ]
      refine wpAnyH_take (i := 6) (oi := ⟨some 57, _, _, _, _, _⟩) (v := (.bool false)) rfl (by kernel_rfl) (by kernel_rfl) (by kernel_rfl) (fun _ _ _ h => h) (Or.inl ⟨by rfl, ?hy7⟩) (by assumption) ?rest7
      case hy7 => (intro w hSw; obtain ⟨p0,p1,p2,p3,p4,p5⟩ := hSw; first | (go_simp; done) | (go_simp; simp [*]; done) | (simp [*]; go_simp; done))
      try simp only [Act.put, List.setIfInBounds_toArray, List.set_cons_zero, List.set_cons_succ]
      refine wpAnyH_take (i := 7) (oi := ⟨some 58, _, _, _, _, _⟩) (v := ?v8) rfl (by kernel_rfl) (by kernel_rfl) (by kernel_rfl) (fun _ _ _ h => h) (Or.inl ⟨by rfl, ?hy8⟩) (by assumption) ?rest8
      case hy8 => (intro w hSw; obtain ⟨p0,p1,p2,p3,p4,p5⟩ := hSw; go_simp; try with_reducible rfl)
      try simp only [Act.put, List.setIfInBounds_toArray, List.set_cons_zero, List.set_cons_succ]
      refine wpAnyH_take (i := 9) (oi := ⟨some 60, _, _, _, _, _⟩) (v := (.agg #[.int .i64 kd, .string t1, .slice io1 m1 ic1, .slice po1 m2 pc1, .slice ro1 m3 rc1])) rfl (by kernel_rfl) (by kernel_rfl) (by kernel_rfl) (fun _ _ _ h => h) (Or.inl ⟨by rfl, ?hy9⟩) (by assumption) ?rest9
      case hy9 => (intro w hSw; obtain ⟨p0,p1,p2,p3,p4,p5⟩ := hSw; first | (go_simp; done) | (go_simp; simp [*]; done) | (simp [*]; go_simp; done))
      try simp only [Act.put, List.setIfInBounds_toArray, List.set_cons_zero, List.set_cons_succ]
      refine wpAnyH_ready (rs := [8]) (by kernel_rfl) (by simp) ?_
      refine AllReadyH.cons (o := ⟨some 59, _, _, _, _, _⟩) rfl (fun K hK => ?_) AllReadyH.nil
      go_simp
      refine mP8.mono ?_
      rintro _ V6 ⟨⟨V'', d2, rfl, hP6, hT6⟩, hb6⟩
      replace hb6 : Below V5.heap.size V5 V6 := (Below.refl _ V5).drew.trans hb6
      obtain rfl : d1 = d2 := HT.out.one hT6 HPM.out HT.out.list
      have HB6 := keep hb6
      have mS := plain_same V6 V'' _ d1 hP6 (HP5.out.bel hb6)
      refine hK.out _ _ (SH.out _ hb6) (fun hHeld => ?_)
      try simp only [Act.put, List.setIfInBounds_toArray, List.set_cons_zero, List.set_cons_succ]
      clear hK mP8 hP6 hT6 hb6
      refine wpAnyH_ready (rs := [10]) (by kernel_rfl) (by simp) ?_
      refine AllReadyH.cons (o := ⟨some 61, _, _, _, _, _⟩) rfl (fun K hK => ?_) AllReadyH.nil
      go_simp
      refine mS.mono ?_
      rintro _ V7 ⟨rfl, hb7⟩
      have hb75 := HB6.out.trans (hb7.mono HB6.out.size)
      have HB7 := keep hb75
      have sh := SH.out _ hb75
      refine hK.out _ _ sh (fun hHeld => ?_)
      try simp only [Act.put, List.setIfInBounds_toArray, List.set_cons_zero, List.set_cons_succ]
      clear hK mS hb7 hb75
      refine wpAnyH_take (i := 11) (oi := ⟨some 62, _, _, _, _, _⟩) (v := (.bool false)) rfl (by kernel_rfl) (by kernel_rfl) (by kernel_rfl) (fun _ _ _ h => h) (Or.inl ⟨by rfl, ?hy10⟩) (by assumption) ?rest10
      case hy10 => (intro w hSw; obtain ⟨p0,p1,p2,p3,p4,p5⟩ := hSw; first | (go_simp; done) | (go_simp; simp [*]; done) | (simp [*]; go_simp; done))
      try simp only [Act.put, List.setIfInBounds_toArray, List.set_cons_zero, List.set_cons_succ]
      refine wpAnyH_take (i := 12) (oi := ⟨some 63, _, _, _, _, _⟩) (v := (.bool false)) rfl (by kernel_rfl) (by kernel_rfl) (by kernel_rfl) (fun _ _ _ h => h) (Or.inl ⟨by rfl, ?hy11⟩) (by assumption) ?rest11
      case hy11 => (intro w hSw; obtain ⟨p0,p1,p2,p3,p4,p5⟩ := hSw; first | (go_simp; done) | (go_simp; simp [*]; done) | (simp [*]; go_simp; done))
      try simp only [Act.put, List.setIfInBounds_toArray, List.set_cons_zero, List.set_cons_succ]
      refine wpAnyH_take (i := 13) (oi := ⟨some 64, _, _, _, _, _⟩) (v := (.bool false)) rfl (by kernel_rfl) (by kernel_rfl) (by kernel_rfl) (fun _ _ _ h => h) (Or.inl ⟨by rfl, ?hy12⟩) (by assumption) ?rest12
      case hy12 => (intro w hSw; obtain ⟨p0,p1,p2,p3,p4,p5⟩ := hSw; first | (go_simp; done) | (go_simp; simp [*]; done) | (simp [*]; go_simp; done))
      try simp only [Act.put, List.setIfInBounds_toArray, List.set_cons_zero, List.set_cons_succ]
      refine wpAnyH_take (i := 14) (oi := ⟨some 65, _, _, _, _, _⟩) (v := (.pointer (some ⟨V3.heap.size, 0, none⟩))) rfl (by kernel_rfl) (by kernel_rfl) (by kernel_rfl) (fun _ _ _ h => h) (Or.inl ⟨by rfl, ?hy13⟩) (by assumption) ?rest13
      case hy13 => (intro w hSw; obtain ⟨p0,p1,p2,p3,p4,p5⟩ := hSw; first | (go_simp; done) | (go_simp; simp [*]; done) | (simp [*]; go_simp; done))
      try simp only [Act.put, List.setIfInBounds_toArray, List.set_cons_zero, List.set_cons_succ]
      refine wpAnyH_take (i := 15) (oi := ⟨some 66, _, _, _, _, _⟩) (v := (.int .i64 kd)) rfl (by kernel_rfl) (by kernel_rfl) (by kernel_rfl) (fun _ _ _ h => h) (Or.inl ⟨by rfl, ?hy14⟩) (by assumption) ?rest14
      case hy14 => (intro w hSw; obtain ⟨p0,p1,p2,p3,p4,p5⟩ := hSw; first | (go_simp; done) | (go_simp; simp [*]; done) | (simp [*]; go_simp; done))
      try simp only [Act.put, List.setIfInBounds_toArray, List.set_cons_zero, List.set_cons_succ]
      refine wpAnyH_take (i := 16) (oi := ⟨some 67, _, _, _, _, _⟩) (v := (.pointer (some ⟨w.heap.size, 0, none⟩))) rfl (by kernel_rfl) (by kernel_rfl) (by kernel_rfl) (fun _ _ _ h => h) (Or.inl ⟨by rfl, ?hy15⟩) (by assumption) ?rest15
      case hy15 => (intro w hSw; obtain ⟨p0,p1,p2,p3,p4,p5⟩ := hSw; first | (go_simp; done) | (go_simp; simp [*]; done) | (simp [*]; go_simp; done))
      try simp only [Act.put, List.setIfInBounds_toArray, List.set_cons_zero, List.set_cons_succ]
      refine wpAnyH_take (i := 17) (oi := ⟨some 68, _, _, _, _, _⟩) (v := (.int .i64 kd)) rfl (by kernel_rfl) (by kernel_rfl) (by kernel_rfl) (fun _ _ _ h => h) (Or.inl ⟨by rfl, ?hy16⟩) (by assumption) ?rest16
      case hy16 => (intro w hSw; obtain ⟨p0,p1,p2,p3,p4,p5⟩ := hSw; first | (go_simp; done) | (go_simp; simp [*]; done) | (simp [*]; go_simp; done))
      try simp only [Act.put, List.setIfInBounds_toArray, List.set_cons_zero, List.set_cons_succ]
      refine wpAnyH_take (i := 18) (oi := ⟨some 69, _, _, _, _, _⟩) (v := (.bool false)) rfl (by kernel_rfl) (by kernel_rfl) (by kernel_rfl) (fun _ _ _ h => h) (Or.inl ⟨by rfl, ?hy17⟩) (by assumption) ?rest17
      case hy17 => (intro w hSw; obtain ⟨p0,p1,p2,p3,p4,p5⟩ := hSw; first | (go_simp; done) | (go_simp; simp [*]; done) | (simp [*]; go_simp; done))
      try simp only [Act.put, List.setIfInBounds_toArray, List.set_cons_zero, List.set_cons_succ]
      refine wpAnyH_take (i := 19) (oi := ⟨some 70, _, _, _, _, _⟩) (v := (.bool false)) rfl (by kernel_rfl) (by kernel_rfl) (by kernel_rfl) (fun _ _ _ h => h) (Or.inl ⟨by rfl, ?hy18⟩) (by assumption) ?rest18
      case hy18 => (intro w hSw; obtain ⟨p0,p1,p2,p3,p4,p5⟩ := hSw; first | (go_simp; done) | (go_simp; simp [*]; done) | (simp [*]; go_simp; done))
      try simp only [Act.put, List.setIfInBounds_toArray, List.set_cons_zero, List.set_cons_succ]
      refine wpAnyH_done (by kernel_rfl) ?_ _
      clear hHeld sh
      have HBg := keep (HBf.out.trans (HB7.out.mono HBf.out.size))
      have m1' := vcost_any (HVb.out.bel HB7.out) HWF1.out
      rw [HCS.out] at m1'
      have m2' := vcost_any (HV5.out.bel HB7.out) HWF.out
      obtain ⟨C, hC⟩ : ∃ C : Int, ((cstD d : Nat) : Int) = C := ⟨_, rfl⟩
      rw [hC] at m1' m2'
      have HC := keep hC
      clear hC
      go_wp2_with fail
      refine m1'.mono ?_
      rintro _ V8 ⟨rfl, hw⟩
      obtain rfl := hw.symm
      go_wp2_with fail
      refine m2'.mono ?_
      rintro _ V8 ⟨rfl, hw⟩
      obtain rfl := hw.symm
      have m3' := pcost_any V7 _ d1 (HP5.out.bel HB7.out) HWF1.out
      obtain ⟨e0, e1, e2, e3, e4, _⟩ := SH.out V7 HB7.out
      clear m1' m2'
      go_wp2_with fail
      refine m3'.mono ?_
      rintro _ V8 ⟨⟨k, rfl, hk⟩, hb8⟩
      have hkC : k = C := by
        rcases hk with ⟨_, h⟩ | ⟨h, _⟩
        · rw [h, HCS.out, HC.out]
        · exact absurd H01.out h
      subst hkC
      have HB8 := keep (HB7.out.trans (hb8.mono HB7.out.size))
      have m4' := vcost_any (HV5.out.bel HB8.out) HWF.out
      rw [HC.out] at m4'
      have HBh := keep (HBf.out.trans (HB8.out.mono HBf.out.size))
      obtain ⟨c0, c1, c2, c3, c4, c5⟩ := NU.out V8 HBh.out
      have mD := DP.out V8 HBh.out
      clear m3' hk hb8 e0 e1 e2 e3 e4
      go_wp2_with fail
      refine m4'.mono ?_
      rintro _ V9 ⟨rfl, hw⟩
      obtain rfl := hw.symm
      clear m4'
      go_wp2_with fail
      refine mD.mono ?_
      rintro _ V9 ⟨⟨Va, rfl, hPa⟩, hb9⟩
      have HB9 := keep (HB8.out.trans (hb9.mono HB8.out.size))
      have m5' := pcost_any V9 Va d hPa HWF.out
      clear mD hPa hb9 c0 c1 c2 c3 c4 c5
      go_wp2_with fail
      refine m5'.mono ?_
      rintro _ Va' ⟨⟨k', rfl, hk'⟩, hba⟩
      have hkC' : k' = k := by
        rcases hk' with ⟨_, h⟩ | ⟨h, _⟩
        · rw [h, HC.out]
        · exact absurd H0.out h
      subst hkC'
      have HBA := keep (HB9.out.trans (hba.mono HB9.out.size))
      have m6' := vcost_any (HV5.out.bel HBA.out) HWF.out
      rw [HC.out] at m6'
      have m7' := vempty_any (HVb.out.bel HBA.out)
      rw [HES.out] at m7'
      have m8' := vempty_any (HV5.out.bel HBA.out)
      generalize empD d = E at m7' m8'
      clear m5' hk' hba
      go_wp2_with fail
      refine m6'.mono ?_
      rintro _ Vb ⟨rfl, hw⟩
      obtain rfl := hw.symm
      clear m6'
      go_wp2_with fail
      refine m7'.mono ?_
      rintro _ Vb ⟨rfl, hw⟩
      obtain rfl := hw.symm
      clear m7'
      go_wp2_with fail
      refine m8'.mono ?_
      rintro _ Vb ⟨rfl, hw⟩
      obtain rfl := hw.symm
      clear m8'
      have hEE : (E == E) = true := beq_self_eq_true _
      go_wp2
      all_goals
        go_ret
        exact ⟨by first | rfl | simp, HB1.out.trans ((HBf.out.trans (HBA.out.mono HBf.out.size)).mono HB1.out.size)⟩
end Vl
end Go.Proofs.YtmgeaanbgjbkcaaGreat

namespace Go.Proofs.YtmgeaanbgjbkcaaGreat
open Go.ChangeShapes Go.WideShapes Go.ChangeAt Go.RowKit
set_option maxRecDepth 100000
set_option linter.unusedVariables false
namespace Vl
theorem cells_dt : Tryz.prog.cellsOf 26 = 6 := by kernel_rfl
theorem cells_int : Tryz.prog.cellsOf 3 = 1 := by kernel_rfl
theorem cells_u64 : Tryz.prog.cellsOf 27 = 1 := by kernel_rfl
theorem cells_str : Tryz.prog.cellsOf 9 = 1 := by kernel_rfl
theorem cells_ss : Tryz.prog.cellsOf 22 = 1 := by kernel_rfl
theorem cells_ps : Tryz.prog.cellsOf 23 = 1 := by kernel_rfl
theorem cells_us : Tryz.prog.cellsOf 24 = 1 := by kernel_rfl
theorem cells_pr : Tryz.prog.cellsOf 70 = 2 := by kernel_rfl
section
variable {H : Type} {enc : TypeId × Value → H} {W : World}
def Big (d : DataW H) (m : Nat) : Prop := (d = .nil ∧ m = 0) ∨ ∃ D E, d = .slice D E ∧ D.length = m
theorem cell_lt {w : World} {a : Addr} {v : Value} (h : w.cell? a = some v) : a.block < w.heap.size := World.block_lt_of_cell? _ _ h
theorem open_ones {t e : TypeId} {α : Type} [Inhabited α] {f : α → Value} {Q : α → Prop} (ht : Tryz.prog.underlying t = some (.slice e)) (hc : Tryz.prog.cellsOf e = 1) (he : ∀ {fuel : Nat} {cs : List Value} {x : DataW H × List MemPlace}, DataW.trod enc Tryz.prog W 0 (fun _ => true) true fuel e cs = some x → ∃ y, cs = [f y] ∧ Q y)
    {fuel : Nat} {v : Value} {x : DataW H × List MemPlace} (h : DataW.trod enc Tryz.prog W 0 (fun _ => true) true fuel t [v] = some x) :
    ∃ (so : Option Addr) (c : Nat) (S : List α), v = .slice so S.length c ∧ In W so (S.map f) ∧ (so = none → c = 0) ∧ (∀ y ∈ S, Q y) ∧ Big x.1 S.length := by
  rcases Go.Deep.open_slice ht h with ⟨hcs, hx⟩ | ⟨a, len, cap, m, n, D, Pl, hcs, _, hl, hm, hmm, hx, hel⟩
  · cases hcs
    cases hx
    exact ⟨none, 0, [], rfl, fun j u hu => (by simp at hu), fun _ => rfl, fun y hy => (by cases hy), .inl ⟨rfl, rfl⟩⟩
  · cases hcs
    simp only [if_true] at hmm
    subst hmm
    have each : ∀ i, ∃ g : α, i < len → W.cell? (a.add i) = some (f g) ∧ Q g := by
      intro i
      by_cases hi : i < len
      · obtain ⟨cs', h1, h2⟩ := hel i (by omega)
        obtain ⟨g, hg, hw⟩ := he h2
        rw [hc] at h1
        obtain ⟨_, _, hcl⟩ := World.cells?_some h1
        refine ⟨g, fun _ => ⟨?_, hw⟩⟩
        have e := hcl 0 (by omega)
        rw [hg, Nat.mul_one] at e
        exact e
      · exact ⟨default, fun h => absurd h hi⟩
    obtain ⟨F, hF⟩ := Classical.skolem.1 each
    have hL : ((List.range len).map F).length = len := by simp
    cases hx
    refine ⟨some a, _, (List.range len).map F, by rw [hL], fun j u hu => ?_, fun h => (by cases h), fun y hy => ?_, .inr ⟨_, _, rfl, by simp⟩⟩
    · rw [List.map_map, List.getElem?_map] at hu
      cases hj : (List.range len)[j]? with
      | none => rw [hj] at hu; cases hu
      | some i =>
        rw [hj] at hu
        have hlt : j < len := by have := (List.getElem?_eq_some_iff.1 hj).1; simpa using this
        have hij : i = j := by rw [List.getElem?_range hlt] at hj; cases hj; rfl
        subst hij
        cases hu
        obtain ⟨q1, q2⟩ := hF i hlt
        have := cell_lt q1
        rw [add_block'] at this
        exact ⟨a, rfl, this, q1⟩
    · obtain ⟨i, hi, rfl⟩ := List.mem_map.1 hy
      exact (hF i (by simpa using hi)).2
theorem add_step (a : Addr) (n : Nat) : (⟨(a.add n).block, (a.add n).off + 1, none⟩ : Addr) = a.add (n + 1) := by
  unfold Addr.add
  by_cases h : n = 0
  · subst h; simp
  · simp [h]; omega
theorem open_pairs {fuel : Nat} {v : Value} {x : DataW H × List MemPlace} (h : DataW.trod enc Tryz.prog W 0 (fun _ => true) true fuel 23 [v] = some x) :
    ∃ (so : Option Addr) (c : Nat) (S : List (ByteArray × ByteArray)), v = .slice so S.length c ∧ In W so (enP S) ∧ (so = none → c = 0) ∧ (∀ y ∈ S, y.1.size ≤ maxLen ∧ y.2.size ≤ maxLen) ∧ Big x.1 S.length := by
  rcases Go.Deep.open_slice Tryz.underlying23 h with ⟨hcs, hx⟩ | ⟨a, len, cap, m, n, D, Pl, hcs, _, hl, hm, hmm, hx, hel⟩
  · cases hcs
    cases hx
    exact ⟨none, 0, [], rfl, fun j u hu => (by simp [enP] at hu), fun _ => rfl, fun y hy => (by cases hy), .inl ⟨rfl, rfl⟩⟩
  · cases hcs
    simp only [if_true] at hmm
    subst hmm
    have each : ∀ i, ∃ g : ByteArray × ByteArray, i < len → (W.cell? (a.add (i * 2)) = some (.string g.1) ∧ W.cell? (a.add (i * 2 + 1)) = some (.string g.2)) ∧ g.1.size ≤ maxLen ∧ g.2.size ≤ maxLen := by
      intro i
      by_cases hi : i < len
      · obtain ⟨cs', h1, h2⟩ := hel i (by omega)
        obtain ⟨xs, n', _, hx', hlen, hlx, hf⟩ := DataW.trod_struct Tryz.underlying70 h2
        rw [cells_pr] at hlen h1
        obtain ⟨_, _, hcl⟩ := World.cells?_some h1
        match cs', hlen with
        | [c0, c1], _ =>
          match xs, hlx with
          | [y0, y1], _ =>
            have t0 : DataW.trod enc Tryz.prog W 0 (fun _ => true) true n' 9 [c0] = some y0 := by simpa [cells_str] using hf 0 _ rfl
            have t1 : DataW.trod enc Tryz.prog W 0 (fun _ => true) true n' 9 [c1] = some y1 := by simpa [cells_str] using hf 1 _ rfl
            obtain ⟨s0, e0, _, z0⟩ := DataW.trod_string Tryz.underlying9 t0
            obtain ⟨s1, e1, _, z1⟩ := DataW.trod_string Tryz.underlying9 t1
            cases e0; cases e1
            refine ⟨(s0, s1), fun _ => ⟨⟨?_, ?_⟩, z0, z1⟩⟩
            · exact hcl 0 (by omega)
            · have e := hcl 1 (by omega)
              have ea : (⟨(a.add (i * 2)).block, (a.add (i * 2)).off + 1, none⟩ : Addr) = a.add (i * 2 + 1) := add_step a (i * 2)
              rw [← ea]; exact e
      · exact ⟨(.empty, .empty), fun h => absurd h hi⟩
    obtain ⟨F, hF⟩ := Classical.skolem.1 each
    have hL : ((List.range len).map F).length = len := by simp
    cases hx
    refine ⟨some a, _, (List.range len).map F, by rw [hL], fun j u hu => ?_, fun h => (by cases h), fun y hy => ?_, .inr ⟨_, _, rfl, by simp⟩⟩
    · have hj2 : j < len * 2 := by
        have := (List.getElem?_eq_some_iff.1 hu).1
        rwa [enP_len, hL] at this
      have hk : ((List.range len).map F)[j / 2]? = some (F (j / 2)) := by rw [List.getElem?_map, List.getElem?_range (by omega)]; rfl
      have q := fm2 (f := fun e : ByteArray × ByteArray => [Value.string e.1, .string e.2]) (fun _ => rfl) hk
      obtain ⟨⟨q1, q2⟩, _⟩ := hF (j / 2) (by omega)
      have hbl := cell_lt q1
      rw [add_block'] at hbl
      refine ⟨a, rfl, hbl, ?_⟩
      rcases Nat.mod_two_eq_zero_or_one j with hm2 | hm2
      · have ej : j / 2 * 2 = j := by omega
        rw [ej] at q q1
        have := q.1
        rw [show (enP ((List.range len).map F))[j]? = some (.string (F (j / 2)).1) from this] at hu
        cases hu
        exact q1
      · have ej : j / 2 * 2 + 1 = j := by omega
        have h2 := q.2
        rw [ej] at h2 q2
        rw [show (enP ((List.range len).map F))[j]? = some (.string (F (j / 2)).2) from h2] at hu
        cases hu
        exact q2
    · obtain ⟨i, hi, rfl⟩ := List.mem_map.1 hy
      exact (hF i (by simpa using hi)).2
theorem bulk_one (d : DataW H) : 1 ≤ Rows.uptoBulk d := by
  unfold Rows.uptoBulk
  split <;> omega
theorem bulk_len (D : List (DataW H)) : D.length ≤ Rows.uptoBulkAll D := by
  induction D with
  | nil => exact Nat.zero_le _
  | cons d D ih =>
    have := bulk_one d
    simp only [Rows.uptoBulkAll, List.length_cons]
    omega
theorem bulk_big {d : DataW H} {m : Nat} (hb : Big d m) : m ≤ Rows.uptoBulk d := by
  rcases hb with ⟨rfl, rfl⟩ | ⟨D, E, rfl, rfl⟩
  · exact Nat.zero_le _
  · have := bulk_len D
    simp only [Rows.uptoBulk]
    omega
theorem u64_nat {x : Int} (h : (Lit.int .u64 x).wf = true) : ∃ y : Nat, x = (y : Int) ∧ y < Dw.M := Dw.u64_of h
theorem open_datum {v : Value} {d0 : DataW H} {p : List MemPlace} {base : Nat} (o : Value.okWide Tryz.prog W .any base 26 v) (h : DataW.Trod enc Tryz.prog W 0 (fun _ => true) true 26 v d0 p) (hk : Rows.uptoBulk d0 ≤ 1048576) :
    ∃ kd tx io po no so n1 n2 n3 n4 k1 k2 k3 k4 d, v = .agg #[.int .i64 kd, .string tx, .slice io n1 k1, .slice po n2 k2, .slice no n3 k3, .slice so n4 k4] ∧ Arg W kd tx io po no so n1 n2 n3 n4 k1 k2 d ∧ d.kind = kd ∧ d.text = tx ∧ Wf d ∧ (Lit.int .i64 kd).wf = true ∧ d.items.length ≤ 1048576 ∧ d.pairs.length ≤ 1048576 ∧ d.ranks.length ≤ 1048576 ∧ (no = none → k3 = 0) ∧ d.ranks.length = n3 := by
  obtain ⟨cs, rfl, hsz⟩ := okWide_struct Tryz.underlying26 o
  obtain ⟨fuel, hf0⟩ := h
  obtain ⟨xs, n, _, hx, hlen, hlx, hf⟩ := DataW.trod_struct Tryz.underlying26 hf0
  rw [cells_dt] at hsz
  have hcl : cs.toList.length = 6 := by rw [Array.length_toList]; exact hsz
  obtain ⟨c0, c1, c2, c3, c4, c5, hcs⟩ : ∃ c0 c1 c2 c3 c4 c5, cs.toList = [c0, c1, c2, c3, c4, c5] := by
    match cs.toList, hcl with
    | [c0, c1, c2, c3, c4, c5], _ => exact ⟨c0, c1, c2, c3, c4, c5, rfl⟩
  have hcs' : cs = #[c0, c1, c2, c3, c4, c5] := by
    have : cs = cs.toList.toArray := by simp
    rw [this, hcs]
  subst hcs'
  match xs, hlx with
  | [y0, y1, y2, y3, y4, y5], _ =>
    have t0 : DataW.trod enc Tryz.prog W 0 (fun _ => true) true n 3 [c0] = some y0 := by simpa [cells_int, Value.cells] using hf 0 _ rfl
    have t1 : DataW.trod enc Tryz.prog W 0 (fun _ => true) true n 9 [c1] = some y1 := by simpa [cells_str, Value.cells] using hf 1 _ rfl
    have t2 : DataW.trod enc Tryz.prog W 0 (fun _ => true) true n 22 [c2] = some y2 := by simpa [cells_ss, Value.cells] using hf 2 _ rfl
    have t3 : DataW.trod enc Tryz.prog W 0 (fun _ => true) true n 23 [c3] = some y3 := by simpa [cells_ps, Value.cells] using hf 3 _ rfl
    have t4 : DataW.trod enc Tryz.prog W 0 (fun _ => true) true n 22 [c4] = some y4 := by simpa [cells_ss, Value.cells] using hf 4 _ rfl
    have t5 : DataW.trod enc Tryz.prog W 0 (fun _ => true) true n 24 [c5] = some y5 := by simpa [cells_us, Value.cells] using hf 5 _ rfl
    obtain ⟨kd, e0, _, w0⟩ := DataW.trod_int Tryz.underlying3 t0
    obtain ⟨tx, e1, _, w1⟩ := DataW.trod_string Tryz.underlying9 t1
    have hstr : ∀ {fuel : Nat} {cs : List Value} {x : DataW H × List MemPlace}, DataW.trod enc Tryz.prog W 0 (fun _ => true) true fuel 9 cs = some x → ∃ y : ByteArray, cs = [.string y] ∧ y.size ≤ maxLen := fun h => by
      obtain ⟨s, e, _, z⟩ := DataW.trod_string Tryz.underlying9 h
      exact ⟨s, e, z⟩
    have hu64 : ∀ {fuel : Nat} {cs : List Value} {x : DataW H × List MemPlace}, DataW.trod enc Tryz.prog W 0 (fun _ => true) true fuel 27 cs = some x → ∃ y : Nat, cs = [.int .u64 (y : Int)] ∧ y < Dw.M := fun h => by
      obtain ⟨s, e, _, z⟩ := DataW.trod_int Tryz.underlying27 h
      obtain ⟨y, rfl, hy⟩ := u64_nat z
      exact ⟨y, e, hy⟩
    haveI : Inhabited ByteArray := ⟨.empty⟩
    obtain ⟨io, k1, I, rfl, a1, b1, g1, B1⟩ := open_ones Tryz.underlying22 cells_str hstr t2
    obtain ⟨po, k2, P, rfl, a2, b2, g2, B2⟩ := open_pairs t3
    obtain ⟨no, k3, N, rfl, a3, b3, g3, B3⟩ := open_ones Tryz.underlying22 cells_str hstr t4
    obtain ⟨so, k4, S, rfl, a4, b4, g4, B4⟩ := open_ones (α := Nat) (f := fun (y : Nat) => Value.int .u64 (y : Int)) Tryz.underlying24 cells_u64 hu64 t5
    cases e0; cases e1; cases hx
    have q1 := bulk_big B1
    have q2 := bulk_big B2
    have q3 := bulk_big B3
    simp only [Rows.uptoBulk, Rows.uptoBulkAll, List.map_cons, List.map_nil] at hk
    have s1 : I.length ≤ 1048576 := by omega
    have s2 : P.length ≤ 1048576 := by omega
    have s3 : N.length ≤ 1048576 := by omega
    refine ⟨kd, tx, io, po, no, so, _, _, _, _, k1, k2, k3, k4, ⟨kd, tx, I, P, rkz N S⟩, rfl, ⟨I, P, N, S, rfl, rfl, rfl, rfl, rfl, a1, a2, a3, a4, b1, b2, s1, s2, s3⟩, rfl, rfl, ⟨w1, g1, g2, fun x hx => ?_⟩, w0, s1, s2, by rw [rkz_len]; exact s3, b3, rkz_len N S⟩
    unfold rkz at hx
    obtain ⟨i, hi, rfl⟩ := List.mem_map.1 hx
    have hi' : i < N.length := by simpa using hi
    refine ⟨?_, ?_⟩
    · have : N.getD i .empty = N[i] := by simp [hi']
      rw [this]
      exact g3 _ (List.getElem_mem hi')
    · dsimp only
      by_cases hs : i < S.length
      · have : S.getD i f15 = S[i] := by simp [hs]
        rw [this]
        exact g4 _ (List.getElem_mem hs)
      · have : S.getD i f15 = f15 := by rw [List.getD_eq_getElem?_getD, List.getElem?_eq_none (by omega)]; rfl
        rw [this]
        decide
end
end Vl
end Go.Proofs.YtmgeaanbgjbkcaaGreat
