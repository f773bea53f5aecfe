/-
  Contracts over this program: the document's own at, and once: a table as rows of buckets is scanned from a cursor.
-/
import Derived.Test.YtnkladifalnmnaaScanKeys
namespace Go.Proofs.Ytnkladifalnmnaa
open Go.RowKit Go.Shelf
attribute [local go_sem] Oper.semAt_some
set_option maxRecDepth 100000 in
set_option maxHeartbeats 1000000 in
theorem rat_any (w : World) (B : Nat) (v : Value) (xss : List (List ByteArray)) (h : Rr B w v xss) (L c : Nat) (hL : xss.length = L) (hL0 : 0 < L) (hLm : L ≤ 4398046511104) (xs : List ByteArray) (hx : xss[c % L]? = some xs) :
    Calls Try.prog 46 #[v, .int .u64 c] w fun e w' => (∃ u, e = .returned u ∧ There u ∧ Ks B w u xs) ∧ w' = w := by
  obtain ⟨ao, ca, rfl⟩ := h.form
  rw [hL] at h ⊢
  obtain ⟨g, ug, un, uc, rfl, c0, hks⟩ := h.at hx
  have HK := keep hks
  clear h hx hks
  have hLz : ¬ (L : Int) = 0 := by omega
  have hLn : ¬ L = 0 := by omega
  have hm : (c : Int).tmod (L : Int) = ((c % L : Nat) : Int) := by rw [Int.tmod_eq_emod_of_nonneg (by omega)]; simp
  have hm2 : (c : Int) % (L : Int) = ((c % L : Nat) : Int) := by simp
  have hlt : c % L < L := Nat.mod_lt _ hL0
  generalize c % L = i at *
  have hw1 : IntKind.u64.wrap (L : Int) = (L : Int) := by rw [IntKind.wrap_u64]; omega
  have hw2 : IntKind.i64.wrap (i : Int) = (i : Int) := by rw [IntKind.wrap_i64]; omega
  have hiz : (i : Int) < (L : Int) := by omega
  go_enter Try.func46, Try.ntmps46
  go_wp2
  go_ret
  exact ⟨⟨_, rfl, ⟨_, _, _, rfl⟩, HK.out⟩, rfl⟩
end Go.Proofs.Ytnkladifalnmnaa
