/-
  Contracts over this program: the statements' own rest: Next from a cursor to 0, nothing changed between.
-/
import Derived.Test.YtnkladifalnmnaaScanKeys
namespace Go.Proofs.Ytnkladifalnmnaa
open Go.RowKit Go.Shelf
attribute [local go_sem] Oper.semAt_some
set_option maxRecDepth 100000 in
set_option maxHeartbeats 1000000 in
/-- over any row of calls: nx where a call goes, tl what it tells, Q how far it has come -/
theorem rest_walk (W : World) (b c o y p : Nat) (cnt : Int) (_ : c < 2 ^ 64) (ho : o ≤ 4398046511104) (hy : y ≤ 4398046511104) (nx : Nat → Nat) (tl : Nat → List ByteArray) (Iv : Nat → Nat → List ByteArray → Prop)
    (mS : Calls Try.prog 23 #[.pointer (some ⟨b, 0, none⟩)] W fun e w' => e = .returned (.tuple #[.int .i64 (o : Int), .int .i64 (y : Int), .int .i64 (p : Int)]) ∧ ∃ q, w' = W.drewN q)
    (KN : Kept (∀ (x : Nat) (w : World), x < 2 ^ 64 → Below W.heap.size W w → Calls Try.prog 12 #[.pointer (some ⟨b, 0, none⟩), .int .u64 x, .int .i64 cnt] w fun z w' => (∃ v', z = .returned (.tuple #[.int .u64 (nx x : Nat), v']) ∧ Ks w.heap.size w' v' (tl x)) ∧ Below w.heap.size w w'))
    (KS : Kept (Iv 0 c []))
    (KI : Kept (∀ i x l, Iv i x l → i ≤ o + y ∧ x < 2 ^ 64 ∧ nx x < 2 ^ 64 ∧ l.length + (tl x).length ≤ 8000000000000 ∧ (nx x ≠ 0 → Iv (i + 1) (nx x) (l ++ tl x))))
    (Res : List ByteArray → Prop) (KR : Kept (∀ i x l, Iv i x l → nx x = 0 → Res (l ++ tl x))) :
    Calls Try.prog 21 #[.pointer (some ⟨b, 0, none⟩), .int .u64 c, .int .i64 cnt] W fun e w' => (∃ v l, e = .returned (.tuple #[v, .bool true]) ∧ Ks W.heap.size w' v l ∧ Res l) ∧ Below W.heap.size W w' := by
  go_enter Try.func21, Try.ntmps21
  go_wp2_with fail
  refine mS.mono ?_
  rintro _ w1 ⟨rfl, q1, hw1⟩
  have HB1 : Kept (Below W.heap.size W w1) := by rw [hw1]; exact below_drewN (Below.refl _ _) q1
  clear mS hw1
  go_wp2
  go_loopw [1, 11, 12, 13, 14] (fun cv u iv _ _ wr => ∃ (i x : Nat) (l : List ByteArray), cv = .int .u64 (x : Int) ∧ iv = .int .i64 (i : Int) ∧ Kept (Ks W.heap.size wr u l) ∧ Kept (Below W.heap.size W wr) ∧ Kept (Iv i x l)) (fun _ _ iv _ _ _ => o + y + 1 - (intOf iv).toNat)
  case atStart => exact ⟨0, c, [], rfl, rfl, ks_nil _ _, HB1, KS⟩
  case round =>
    clear HB1 KS
    obtain ⟨i, x, l, rfl, rfl, KK, KB, KV⟩ := hrel
    obtain ⟨g1, g2, g3, g4, g5⟩ := KI.out i x l KV.out
    have hz : (i : Int) ≤ (o : Int) + (y : Int) := by omega
    have G5 := keep g5
    have G6 := keep (KR.out i x l KV.out)
    clear g5
    have mN := KN.out x wr g2 KB.out
    go_wp2_with fail
    refine mN.mono ?_
    rintro _ w2 ⟨⟨v2, rfl, hk2⟩, hb2⟩
    obtain ⟨v3, w3, r1, r2, r3, _⟩ := app_all W.heap.size w2 _ v2 l (tl x) _ (own_kept KK.out (fun k hk => hb2.block k (own_lt KK.out hk))) hk2 (Nat.le_trans KB.out.size hb2.size) g4
    have R1 := keep r1
    have R2 := keep r2
    have R3 := keep ((KB.out.trans (hb2.mono KB.out.size)).trans r3)
    clear r1 r2 r3 hk2 hb2 mN KK KB KV
    generalize l ++ tl x = l2 at *
    generalize nx x = z at *
    by_cases q0 : z = 0
    · have q0' : (z : Int) = 0 := by omega
      go_wp2_with (at_builtin; refine wpList_app_run rfl _ _ _ rfl _ _ _ rfl rfl R1.out ?_)
      go_ret2
      exact ⟨⟨_, l2, rfl, R2.out, G6.out q0⟩, R3.out⟩
    · have q0' : ¬ (z : Int) = 0 := by omega
      have G7 := keep (G5.out q0)
      go_wp2_with (at_builtin; refine wpList_app_run rfl _ _ _ rfl _ _ _ rfl rfl R1.out ?_)
      go_roundw
      case measure => simp [intOf]; omega
      case rel => exact ⟨i + 1, z, l2, rfl, by go_num, R2, R3, G7⟩
end Go.Proofs.Ytnkladifalnmnaa
