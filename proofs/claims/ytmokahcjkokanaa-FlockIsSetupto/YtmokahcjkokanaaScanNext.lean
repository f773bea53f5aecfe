/-
  Contracts over this program: Next, over any row of scans.
-/
import Derived.Test.YtmokahcjkokanaaScanPass2
namespace Go.Proofs.Ytmokahcjkokanaa
open Go.RowKit Go.Shelf
attribute [local go_sem] Oper.semAt_some
theorem Ks.len {B : Nat} {w : World} {v : Value} {xs : List ByteArray} (h : Ks B w v xs) : ∃ ao cap, v = .slice ao xs.length cap := by
  unfold Ks at h
  obtain ⟨_, ⟨rfl, e⟩ | ⟨g, cap, cur, rfl, _⟩⟩ := h
  · exact ⟨none, 0, by rw [e]⟩
  · exact ⟨_, cap, rfl⟩
theorem ks_nil (B : Nat) (w : World) : Ks B w (.slice none 0 0) [] := World.ownsRow_nil w B 9 1
set_option maxRecDepth 100000 in
set_option maxHeartbeats 2000000 in
theorem next_walk (W0 : World) (b c m o y p : Nat) (cnt : Int) (pf : Nat → List ByteArray) (nxt R : Nat → Nat) (gr : Nat → List ByteArray → Nat → Prop) (Res : Nat → List ByteArray → Prop) (f0 : Nat)
    (hc0 : c < 2 ^ 64) (hm : max cnt 1 = (m : Int)) (ho : o ≠ 0)
    (mS : Calls Try.prog 53 #[.pointer (some ⟨b, 0, none⟩)] W0 fun e w' => e = .returned (.tuple #[.int .i64 (o : Int), .int .i64 (y : Int), .int .i64 (p : Int)]) ∧ ∃ q, w' = W0.drewN q)
    (KP : Kept (∀ (x : Nat) (xs : List ByteArray) (v : Value) (w : World), x < 2 ^ 64 → Below W0.heap.size W0 w → Ks W0.heap.size w v xs → xs.length + (pf x).length ≤ 8000000000000 → Calls Try.prog 54 #[.pointer (some ⟨b, 0, none⟩), .int .u64 (x : Int), v] w fun z w' => (∃ v', z = .returned (.tuple #[.int .u64 ((nxt x : Nat) : Int), v']) ∧ Ks W0.heap.size w' v' (xs ++ pf x)) ∧ Below W0.heap.size W0 w'))
    (KG : Kept (∀ x f l, gr x l (f + 1) → (nxt x = 0 ∨ m ≤ (l ++ pf x).length) → Res (nxt x) (l ++ pf x)))
    (KH : Kept (∀ x f l, gr x l (f + 1) → ¬ nxt x = 0 → ¬ m ≤ (l ++ pf x).length → gr (nxt x) (l ++ pf x) f ∧ R x < R (nxt x) ∧ R (nxt x) < f0))
    (KI : Kept (∀ x f l, gr x l f → ∃ f', f = f' + 1)) (KJ : Kept (∀ x f l, gr x l (f + 1) → l.length + (pf x).length ≤ 8000000000000))
    (KS : Kept (gr c [] f0)) (KL : Kept (∀ x, nxt x < 2 ^ 64)) :
    Calls Try.prog 37 #[.pointer (some ⟨b, 0, none⟩), .int .u64 (c : Int), .int .i64 cnt] W0 fun x w' => (∃ (c' : Nat) (l' : List ByteArray) (v' : Value), x = .returned (.tuple #[.int .u64 (c' : Int), v']) ∧ Ks W0.heap.size w' v' l' ∧ Res c' l' ∧ c' < 2 ^ 64) ∧ Below W0.heap.size W0 w' := by
  have ho' : ¬ (o : Int) = 0 := by omega
  have hob : ((o : Int) == 0) = false := beq_eq_false_iff_ne.2 ho'
  go_enter Try.func37, Try.ntmps37
  go_wp2_with fail
  refine mS.mono ?_
  rintro _ w1 ⟨rfl, q1, hw1⟩
  have HB : Kept (Below W0.heap.size W0 w1) := by rw [hw1]; exact below_drewN (Below.refl _ _) q1
  clear hw1 mS
  go_wp2_with fail
  go_loopw [1, 11] (fun cv u wr => ∃ (x : Nat) (l : List ByteArray) (f : Nat), x < 2 ^ 64 ∧ cv = .int .u64 (x : Int) ∧ Kept (Ks W0.heap.size wr u l) ∧ Kept (Below W0.heap.size W0 wr) ∧ Kept (gr x l f)) (fun cv _ _ => lag f0 R cv)
  case atStart => exact ⟨c, [], f0, hc0, rfl, ks_nil _ _, HB, KS⟩
  case round =>
    clear HB
    obtain ⟨x, l, f, hx, rfl, kK, kB, kg⟩ := hrel
    obtain ⟨f', rfl⟩ := KI.out x f l kg.out
    go_wp2_with fail
    refine (KP.out x l _ _ hx kB.out kK.out (KJ.out x f' l kg.out)).mono ?_
    rintro _ w2 ⟨⟨v2, rfl, hk2⟩, hb2⟩
    obtain ⟨ao, cap, rfl⟩ := hk2.len
    have HK2 := keep hk2
    have HB2 := keep hb2
    have lx := KL.out x
    have KX := keep (KG.out x f' l kg.out)
    have KY := keep (KH.out x f' l kg.out)
    clear hk2 hb2 kK kB kg
    generalize l ++ pf x = l2 at *
    generalize hnx : nxt x = z at *
    by_cases q0 : z = 0
    · have q0' : (z : Int) = 0 := by omega
      go_wp2
      go_ret2
      subst q0
      exact ⟨⟨0, l2, _, rfl, HK2.out, KX.out (.inl rfl), lx⟩, HB2.out⟩
    · have q0' : ¬ (z : Int) = 0 := by omega
      by_cases q2 : m ≤ l2.length
      · have q2' : (m : Int) ≤ (l2.length : Int) := by omega
        go_wp2
        go_ret2
        exact ⟨⟨z, l2, _, rfl, HK2.out, KX.out (.inr q2), lx⟩, HB2.out⟩
      · have q2' : ¬ (m : Int) ≤ (l2.length : Int) := by omega
        have kh := keep (KY.out q0 q2)
        go_wp2
        go_roundw
        case rel => exact ⟨z, l2, f', lx, rfl, HK2, HB2, kh.out.1⟩
        case measure =>
          have h := kh.out.2
          show lag f0 R (.int .u64 (z : Int)) < lag f0 R (.int .u64 (x : Int))
          rw [lag_int, lag_int]
          omega
end Go.Proofs.Ytmokahcjkokanaa
