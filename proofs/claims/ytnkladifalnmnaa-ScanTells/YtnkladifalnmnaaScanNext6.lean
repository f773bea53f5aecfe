/-
  Contracts over this program: the document's own Next, over any row of scans.
-/
import Derived.Test.YtnkladifalnmnaaScanOnce6
namespace Go.Proofs.Ytnkladifalnmnaa
open Go.RowKit Go.Shelf
attribute [local go_sem] Oper.semAt_some
def lenV : Value → Nat
  | .slice _ n _ => n
  | _ => 0
def lag2 (P : Nat) (R : Nat → Nat) (m : Nat) (v u : Value) : Nat := if (intOf v).toNat = 0 ∨ m ≤ lenV u then 0 else P - R (intOf v).toNat
theorem lag2_less {P m x z n' n : Nat} {R : Nat → Nat} {v u v' u' : Value} (hv : v = .int .u64 (z : Int)) (hu : lenV u = n) (hv' : v' = .int .u64 (x : Int)) (hu' : lenV u' = n') (h0 : ¬ z = 0) (hn : ¬ m ≤ n) (hz : R z < P) (hg : ¬ x = 0 → ¬ m ≤ n' → R z < R x ∧ R x < P) : lag2 P R m v' u' < lag2 P R m v u := by
  subst hv hv' hu hu'
  have e1 : (intOf (.int .u64 (z : Int))).toNat = z := by simp [intOf]
  have e2 : (intOf (.int .u64 (x : Int))).toNat = x := by simp [intOf]
  unfold lag2
  have hz' : ¬ (z = 0 ∨ m ≤ lenV u) := fun e => e.elim h0 hn
  rw [e1, e2, if_neg hz']
  split
  · omega
  · rename_i q
    have := hg (fun e => q (.inl e)) (fun e => q (.inr e))
    omega
theorem Ks.lenV {B : Nat} {w : World} {v : Value} {xs : List ByteArray} (h : Ks B w v xs) : lenV v = xs.length := by
  obtain ⟨ao, cap, rfl⟩ := h.len
  rfl
set_option maxRecDepth 100000 in
set_option maxHeartbeats 2000000 in
theorem rnext_walk (W0 : World) (ao bo : Option Addr) (XL YL ca cb c m : Nat) (cnt : Int) (pf : Nat → List ByteArray) (nxt R : Nat → Nat) (gr : Nat → List ByteArray → Nat → Prop) (Res : Nat → List ByteArray → Prop) (f0 : Nat)
    (hc0 : c < 2 ^ 64) (hm : max cnt 1 = (m : Int)) (hX : XL ≠ 0)
    (KP : Kept (∀ (x : Nat) (w : World), x < 2 ^ 64 → Below W0.heap.size W0 w → Calls Try.prog 30 #[.slice ao XL ca, .slice bo YL cb, .int .u64 (x : Int)] w fun z w' => (∃ v', z = .returned (.tuple #[.int .u64 ((nxt x : Nat) : Int), v']) ∧ Ks w.heap.size w' v' (pf x)) ∧ Below w.heap.size w w'))
    (KG : Kept (∀ x f l, gr x l (f + 1) → (nxt x = 0 ∨ m ≤ (l ++ pf x).length) → Res (nxt x) (l ++ pf x)))
    (KH : Kept (∀ x f l, gr x l (f + 1) → ¬ nxt x = 0 → ¬ m ≤ (l ++ pf x).length → gr (nxt x) (l ++ pf x) f ∧ R x < R (nxt x) ∧ R (nxt x) < f0))
    (KI : Kept (∀ x f l, gr x l f → ∃ f', f = f' + 1)) (KJ : Kept (∀ x f l, gr x l (f + 1) → l.length + (pf x).length ≤ 8000000000000))
    (KS : Kept (gr c [] f0)) (KL : Kept (∀ x, nxt x < 2 ^ 64)) :
    Calls Try.prog 13 #[.slice ao XL ca, .slice bo YL cb, .int .u64 (c : Int), .int .i64 cnt] W0 fun x w' => (∃ (c' : Nat) (l' : List ByteArray) (v' : Value), x = .returned (.tuple #[.int .u64 (c' : Int), v']) ∧ Ks W0.heap.size w' v' l' ∧ Res c' l' ∧ c' < 2 ^ 64) ∧ Below W0.heap.size W0 w' := by
  have hXz : ¬ (XL : Int) = 0 := by omega
  have hXb : ((XL : Int) == 0) = false := beq_eq_false_iff_ne.2 hXz
  have m1 := KP.out c W0 hc0 (Below.refl _ _)
  obtain ⟨f1, hf1⟩ := KI.out c f0 [] KS.out
  have KS1 : Kept (gr c [] (f1 + 1)) := hf1 ▸ KS
  have KA := keep (KG.out c f1 [] KS1.out)
  have KB := keep (KH.out c f1 [] KS1.out)
  have KF := keep hf1
  have hl1 := KL.out c
  rw [List.nil_append] at KA KB
  clear hf1
  go_enter Try.func13, Try.ntmps13
  go_wp2_with fail
  refine m1.mono ?_
  rintro _ w1 ⟨⟨v1, rfl, hk1⟩, hb1⟩
  have HK1 := keep hk1
  have HB1 := keep hb1
  have HL1 := keep hl1
  clear m1 hk1 hb1 hl1 KS1 KS
  go_wp2
  go_loopw [10, 11, 12, 13] (fun cv u _ _ wr => ∃ (z f : Nat) (l : List ByteArray), cv = .int .u64 (z : Int) ∧ Kept (z < 2 ^ 64) ∧ Kept (Ks W0.heap.size wr u l) ∧ Kept (Below W0.heap.size W0 wr) ∧ Kept (z = 0 ∨ m ≤ l.length → Res z l) ∧ Kept (¬ z = 0 → ¬ m ≤ l.length → gr z l f ∧ R z < f0)) (fun cv u _ _ _ => lag2 f0 R m cv u)
  case atStart => exact ⟨nxt c, f1, pf c, rfl, HL1, HK1, HB1, KA, fun a b => ⟨(KB.out a b).1, (KB.out a b).2.2⟩⟩
  case round =>
    clear HL1 HK1 HB1 KA KB
    obtain ⟨z, f, l, rfl, KZ, KK, KW, KR, KC⟩ := hrel
    obtain ⟨ao', ca', hlv⟩ := KK.out.len
    subst hlv
    by_cases q0 : z = 0
    · have q0' : ((z : Int) != 0) = false := by subst q0; rfl
      have q0b : ((z : Int) == 0) = true := by subst q0; rfl
      have KR2 := keep (KR.out (.inl q0))
      clear q0
      go_wp2
      go_ret2
      exact ⟨⟨z, l, _, rfl, KK.out, KR2.out, KZ.out⟩, KW.out⟩
    · have q0' : ((z : Int) != 0) = true := by simp; omega
      have q0b : ((z : Int) == 0) = false := beq_eq_false_iff_ne.2 (by omega)
      by_cases q2 : m ≤ l.length
      · have q2' : ¬ (l.length : Int) < (m : Int) := by omega
        have KR2 := keep (KR.out (.inr q2))
        clear q0
        go_wp2
        go_ret2
        exact ⟨⟨z, l, _, rfl, KK.out, KR2.out, KZ.out⟩, KW.out⟩
      · have q2' : (l.length : Int) < (m : Int) := by omega
        obtain ⟨hg, hR⟩ := KC.out q0 q2
        obtain ⟨f', rfl⟩ := KI.out z f l hg
        have mP := KP.out z wr KZ.out KW.out
        have hj := KJ.out z f' l hg
        have HA := keep (KG.out z f' l hg)
        have HB := keep (KH.out z f' l hg)
        have HR := keep hR
        have Q0 := keep q0
        have Q2 := keep q2
        clear q0 q2 hg hR
        go_wp2_with fail
        refine mP.mono ?_
        rintro _ w3 ⟨⟨v3, rfl, hk3⟩, hb3⟩
        obtain ⟨v4, w4, r1, r2, r3, _⟩ := app_all W0.heap.size w3 _ v3 l (pf z) _ (own_kept KK.out (fun k hk => hb3.block k (own_lt KK.out hk))) hk3 (Nat.le_trans KW.out.size hb3.size) hj
        have R1 := keep r1
        have R2 := keep r2
        have R3 := keep ((KW.out.trans (hb3.mono KW.out.size)).trans r3)
        have HLZ := keep (KL.out z)
        clear mP hk3 hb3 r1 r2 r3 KK KW KR KC hj
        go_wp2_with (at_builtin; refine wpList_app_run rfl _ _ _ rfl _ _ _ rfl rfl R1.out ?_)
        go_roundw
        case rel => exact ⟨nxt z, f', l ++ pf z, rfl, HLZ, R2, R3, HA, fun a b => ⟨(HB.out a b).1, (HB.out a b).2.2⟩⟩
        case measure => exact lag2_less rfl rfl rfl R2.out.lenV Q0.out Q2.out HR.out (fun a b => ⟨(HB.out a b).2.1, (HB.out a b).2.2⟩)
end Go.Proofs.Ytnkladifalnmnaa
