/-
  Contracts over this program: two rows of texts that are the same.
-/
import Derived.Test.YtlfpkbjiofelkaaGreatScanBucket
namespace Go.Proofs.YtlfpkbjiofelkaaGreat
open Go.RowKit Go.Shelf
theorem ks_len {B : Nat} {w : World} {v : Value} {xs : List ByteArray} (h : Ks B w v xs) : ∃ ao ca, v = .slice ao xs.length ca := by
  unfold Ks at h
  rcases h.2 with ⟨rfl, h0⟩ | ⟨g, cap, cur, rfl, _⟩
  · exact ⟨none, 0, by rw [h0]⟩
  · exact ⟨_, _, rfl⟩
theorem ks_max {B : Nat} {w : World} {v : Value} {xs : List ByteArray} (h : Ks B w v xs) : xs.length ≤ maxLen := by
  unfold Ks at h
  rcases h.2 with ⟨rfl, h0⟩ | ⟨g, cap, cur, rfl, _, _, h1, h2, _⟩
  · rw [h0]; exact Nat.zero_le _
  · exact Nat.le_trans h1 h2
set_option maxRecDepth 100000 in
set_option maxHeartbeats 1000000 in
theorem same_any (w : World) (Ba Bb : Nat) (va vb : Value) (xs : List ByteArray) (ha : Ks Ba w va xs) (hb : Ks Bb w vb xs) :
    Calls Tryz.prog 17 #[va, vb] w fun e w' => e = .returned (.bool true) ∧ Below w.heap.size w w' := by
  have hmx := ks_max ha
  unfold maxLen at hmx
  rcases Nat.eq_zero_or_pos xs.length with h0 | hpos
  · obtain ⟨ao, ca, rfl⟩ := ks_len ha
    obtain ⟨bo, cb, rfl⟩ := ks_len hb
    rw [h0]
    clear ha hb
    go_enter Tryz.func17, Tryz.ntmps17
    go_wp2
    go_loopw [13] (fun i wr => i = .int .i64 0 ∧ wr = w) (fun _ _ => 0)
    case atStart => exact ⟨rfl, rfl⟩
    case round =>
      obtain ⟨rfl, rfl⟩ := hrel
      go_wp2
      go_ret
      exact ⟨rfl, Below.refl _ _⟩
  · obtain ⟨g1, ca, rfl, _, hg1⟩ := ha.form hpos
    obtain ⟨g2, cb, rfl, _, hg2⟩ := hb.form hpos
    obtain ⟨L, hL⟩ : ∃ L, xs.length = L := ⟨_, rfl⟩
    rw [hL] at ha hb hmx ⊢
    have HA := keep ha
    have HB := keep hb
    have HL := keep hL
    clear ha hb hL hpos
    go_enter Tryz.func17, Tryz.ntmps17
    go_wp2
    go_loopw [13] (fun i wr => ∃ k : Nat, k ≤ L ∧ i = .int .i64 k ∧ Kept (Below w.heap.size w wr)) (fun i _ => L - (intOf i).toNat)
    case atStart => exact ⟨0, Nat.zero_le _, rfl, Below.refl _ _⟩
    case round =>
      obtain ⟨k, hk, rfl, KB⟩ := hrel
      by_cases hlt : k < L
      · have hz : (k : Int) < (L : Int) := by omega
        have hz0 : (0 : Int) ≤ (k : Int) := by omega
        obtain ⟨x, hx⟩ : ∃ x, xs[k]? = some x := ⟨_, List.getElem?_eq_getElem (by rw [HL.out]; exact hlt)⟩
        have c1 : wr.cell? ⟨g1, k, none⟩ = some (.string x) := (KB.out.cell (p := ⟨g1, k, none⟩) hg1).trans (HA.out.at hx)
        have c2 : wr.cell? ⟨g2, k, none⟩ = some (.string x) := (KB.out.cell (p := ⟨g2, k, none⟩) hg2).trans (HB.out.at hx)
        clear hx
        go_wp2_with fail
        go_region
        go_wp2
        go_roundw
        case measure => simp [intOf]; omega
        case rel => exact ⟨k + 1, by omega, by go_num, KB.out.drew⟩
      · have hz : ¬ (k : Int) < (L : Int) := by omega
        go_wp2
        go_ret
        exact ⟨rfl, KB.out⟩
end Go.Proofs.YtlfpkbjiofelkaaGreat
