/-
  What the walk of ScanTells leans on: the program's Next and the document's tell the same, and rows that are written and grown.
-/
import Derived.Test.YtnkladifalnmnaaScanNext7
import Derived.Test.YtnkladifalnmnaaScanOnce0
import Derived.Test.YtnkladifalnmnaaScanStays
import Derived.Test.YtnkladifalnmnaaScanOpen3
namespace Go.Proofs.Ytnkladifalnmnaa
open Go.RowKit Go.Shelf
set_option linter.unusedVariables false
set_option maxHeartbeats 400000 in
theorem rnext_zero (w : World) (ao bo : Option Addr) (n2 ca cb : Nat) (c : Nat) (cnt : Int) :
    Calls Try.prog 13 #[.slice ao 0 ca, .slice bo n2 cb, .int .u64 c, .int .i64 cnt] w fun e w' => e = .returned (.tuple #[.int .u64 0, .slice none 0 0]) ∧ w' = w := by
  go_enter Try.func13, Try.ntmps13
  go_wp2
  go_ret2
  exact ⟨rfl, rfl⟩
/-- both tell the same -/
theorem nexts {h : ByteArray → Nat} (W : World) (r : Roles) (b seed N : Nat) (s : Sd) (hd : Dd h N W r b seed s) (hN : N ≤ 2100000000) (x : Nat) (hx : x < 2 ^ 64) (cnt : Int) :
    ∃ (nx : Nat) (tl : List ByteArray), tl.length ≤ 2 * N ∧ (∀ w : World, Below W.heap.size W w → Calls Try.prog 12 #[.pointer (some ⟨b, 0, none⟩), .int .u64 x, .int .i64 cnt] w fun z w' => (∃ v', z = .returned (.tuple #[.int .u64 (nx : Nat), v']) ∧ Ks w.heap.size w' v' tl) ∧ Below w.heap.size w w') ∧
      (∀ (w : World) (B : Nat) (v1 v2 : Value), Rr B w v1 (s.old.map Dc.keys) → Rr B w v2 (s.young.map Dc.keys) → Calls Try.prog 13 #[v1, v2, .int .u64 x, .int .i64 cnt] w fun z w' => (∃ v', z = .returned (.tuple #[.int .u64 (nx : Nat), v']) ∧ Ks w.heap.size w' v' tl) ∧ Below w.heap.size w w') := by
  obtain ⟨hI, _, o1, o2, o3⟩ := hd.2
  have hF := few_of hd.2 (by omega)
  by_cases h0 : s.old.length = 0
  · refine ⟨0, [], Nat.zero_le _, fun w hb => ?_, fun w B v1 v2 h1 h2 => ?_⟩
    · refine (next_zero w r b seed _ s (hd.1.kept hb.size (fun k hk _ => hb.block k hk)) h0 x cnt).mono ?_
      rintro _ w' ⟨rfl, hb'⟩
      exact ⟨⟨_, rfl, ks_nil _ _⟩, hb'⟩
    · obtain ⟨ao, ca, hv1⟩ := h1.form
      obtain ⟨bo, cb, hv2⟩ := h2.form
      rw [List.length_map, h0] at hv1
      subst hv1 hv2
      refine (rnext_zero w ao bo _ ca cb x cnt).mono ?_
      rintro _ w' ⟨rfl, rfl⟩
      exact ⟨⟨_, rfl, ks_nil _ _⟩, Below.refl _ _⟩
  · obtain ⟨A, d, hL, hM, hM0⟩ := Rv.lay_of hI h0 (by omega) (by omega)
    have p0 := Rv.put_tbl hI (smN s)
    have p1 := Rv.put_tbl hI (1 - smN s)
    have hak : (Rv.allk s).length = (Dc.all s).length := by rw [(Rv.allk_perm hI).length_eq]; unfold Dc.keys; rw [List.length_map]
    refine ⟨(Rv.scanF s A d (max cnt 1).toNat (2 ^ A) x []).1, (Rv.scanF s A d (max cnt 1).toNat (2 ^ A) x []).2, ?_, fun w hb => ?_, fun w B v1 v2 h1 h2 => ?_⟩
    · have hfl := Rv.from_len h s A d x
      by_cases hz : (Rv.scanF s A d (max cnt 1).toNat (2 ^ A) x []).1 = 0
      · rw [(Rv.from_end _ hL p0 p1 x hz).length_eq]; omega
      · have hle := (Rv.from_step (max cnt 1).toNat hL p0 p1 x hz).2.2.length_eq
        rw [List.length_append] at hle
        omega
    · exact next_more w r b seed _ h s (hd.1.kept hb.size (fun k hk _ => hb.block k hk)) hI hF A d hL (by omega) h0 x hx cnt _ (max_one cnt)
    · exact rnext_more w B v1 v2 h s hI A d hL (by omega) h0 h1 h2 x hx cnt _ (max_one cnt)
theorem Ks.len' {B : Nat} {w : World} {v : Value} {xs : List ByteArray} (h : Ks B w v xs) : ∃ ao cap, v = .slice ao xs.length cap := by
  rcases h.2 with ⟨rfl, h0⟩ | ⟨g, cap, cur, rfl, _⟩
  · exact ⟨none, 0, by rw [h0]⟩
  · exact ⟨_, _, rfl⟩
/-- a text of an own row is written -/
theorem ks_set {B : Nat} {w : World} {ao : Option Addr} {n cap : Nat} {xs : List ByteArray} (h : Ks B w (.slice ao n cap) xs) (j : Nat) (hj : j < n) (y : ByteArray) :
    ∃ g, ao = some ⟨g, 0, none⟩ ∧ B ≤ g ∧ (∃ u, w.cell? ⟨g, j, none⟩ = some u) ∧ w.frozen? ⟨g, j, none⟩ = false ∧ Ks B (w.setCell ⟨g, j, none⟩ (.string y)) (.slice ao n cap) (xs.set j y) := by
  rcases h.2 with ⟨e, h0⟩ | ⟨g, cap', cur, e, hb, hg, h1, h2, h3, h4⟩
  · cases e; omega
  · cases e
    have hjc : j < cur.size := by omega
    refine ⟨g, rfl, hb, ⟨cur[j], by simp [World.cell?, hg, hjc]⟩, by simp [World.frozen?, hg], ?_⟩
    rw [setCell_eq_setRow w g j cur _ (0, 0) _ hg]
    refine ⟨by simp, .inr ⟨g, cap, _, by simp, hb, setRow_heap w g cur _ _ _ hg, by simpa using h1, h2, by simpa using h3, ?_⟩⟩
    rw [Array.toList_setIfInBounds, List.take_set, List.length_set, h4, List.map_set]
end Go.Proofs.Ytnkladifalnmnaa
