/-
  Contracts over this program: two rows of texts that are the same.
-/
import Derived.Test.YtlfkdohajfkhdaaDqRow
namespace Go.Proofs.Ytlfkdohajfkhdaa
open Go.RowKit Go.Shelf
/-- a row of texts lies in a slice of one's own -/
def Ks (B : Nat) (w : World) (v : Value) (xs : List ByteArray) : Prop := w.ownsRow B 9 1 v xs.length (xs.map Value.string)
theorem Ks.at {B : Nat} {w : World} {g n cap m : Nat} {xs : List ByteArray} {y : ByteArray} (h : Ks B w (.slice (some ⟨g, 0, none⟩) n cap) xs) (hm : xs[m]? = some y) : w.cell? ⟨g, m, none⟩ = some (.string y) := by
  have add : ∀ i, (⟨g, 0, none⟩ : Addr).add i = ⟨g, i, none⟩ := by intro i; unfold Addr.add; split <;> simp_all
  unfold Ks at h
  have := h.cells (g := g) rfl m (.string y) (by rw [List.getElem?_map, hm]; rfl)
  rwa [add] at this
theorem ks_len {B : Nat} {w : World} {v : Value} {xs : List ByteArray} (h : Ks B w v xs) : ∃ ao ca, v = .slice ao xs.length ca := by
  unfold Ks at h
  rcases h.2 with ⟨rfl, h0⟩ | ⟨g, cap, cur, rfl, _⟩
  · exact ⟨none, 0, by rw [h0]⟩
  · exact ⟨_, _, rfl⟩
theorem ks_max {B : Nat} {w : World} {v : Value} {xs : List ByteArray} (h : Ks B w v xs) : xs.length ≤ maxLen := by
  unfold Ks at h
  rcases h.2 with ⟨rfl, h0⟩ | ⟨g, cap, cur, rfl, _, _, h1, h2, _⟩
  · rw [h0]; exact Nat.zero_le _
  · exact Nat.le_trans h1 h2
set_option maxRecDepth 100000 in
set_option maxHeartbeats 1000000 in
theorem same_any (w : World) (Ba Bb : Nat) (va vb : Value) (xs : List ByteArray) (ha : Ks Ba w va xs) (hb : Ks Bb w vb xs) :
    Calls Try.prog 26 #[va, vb] w fun e w' => e = .returned (.bool true) ∧ Below w.heap.size w w' := by
  have hmx := ks_max ha
  unfold maxLen at hmx
  rcases Nat.eq_zero_or_pos xs.length with h0 | hpos
  · obtain ⟨ao, ca, rfl⟩ := ks_len ha
    obtain ⟨bo, cb, rfl⟩ := ks_len hb
    rw [h0]
    clear ha hb
    go_enter Try.func26, Try.ntmps26
    go_wp2
    go_loopw [13] (fun i wr => i = .int .i64 0 ∧ wr = w) (fun _ _ => 0)
    case atStart => exact ⟨rfl, rfl⟩
    case round =>
      obtain ⟨rfl, rfl⟩ := hrel
      go_wp2
      go_ret
      exact ⟨rfl, Below.refl _ _⟩
  · obtain ⟨g1, ca, rfl, _, hg1⟩ := ha.form hpos
    obtain ⟨g2, cb, rfl, _, hg2⟩ := hb.form hpos
    obtain ⟨L, hL⟩ : ∃ L, xs.length = L := ⟨_, rfl⟩
    rw [hL] at ha hb hmx ⊢
    have HA := keep ha
    have HB := keep hb
    have HL := keep hL
    clear ha hb hL hpos
    go_enter Try.func26, Try.ntmps26
    go_wp2
    go_loopw [13] (fun i wr => ∃ k : Nat, k ≤ L ∧ i = .int .i64 k ∧ Kept (Below w.heap.size w wr)) (fun i _ => L - (intOf i).toNat)
    case atStart => exact ⟨0, Nat.zero_le _, rfl, Below.refl _ _⟩
    case round =>
      obtain ⟨k, hk, rfl, KB⟩ := hrel
      by_cases hlt : k < L
      · have hz : (k : Int) < (L : Int) := by omega
        have hz0 : (0 : Int) ≤ (k : Int) := by omega
        obtain ⟨x, hx⟩ : ∃ x, xs[k]? = some x := ⟨_, List.getElem?_eq_getElem (by rw [HL.out]; exact hlt)⟩
        have c1 : wr.cell? ⟨g1, k, none⟩ = some (.string x) := (KB.out.cell (p := ⟨g1, k, none⟩) hg1).trans (HA.out.at hx)
        have c2 : wr.cell? ⟨g2, k, none⟩ = some (.string x) := (KB.out.cell (p := ⟨g2, k, none⟩) hg2).trans (HB.out.at hx)
        clear hx
        go_wp2_with fail
        go_region
        go_wp2
        go_roundw
        case measure => simp [intOf]; omega
        case rel => exact ⟨k + 1, by omega, by go_num, KB.out.drew⟩
      · have hz : ¬ (k : Int) < (L : Int) := by omega
        go_wp2
        go_ret
        exact ⟨rfl, KB.out⟩
/-- a row of numbers lies in a slice of one's own -/
def Ki (B : Nat) (w : World) (v : Value) (xs : List Int) : Prop := w.ownsRow B 3 1 v xs.length (xs.map (Value.int .i64))
theorem Ki.at {B : Nat} {w : World} {g n cap m : Nat} {xs : List Int} {y : Int} (h : Ki B w (.slice (some ⟨g, 0, none⟩) n cap) xs) (hm : xs[m]? = some y) : w.cell? ⟨g, m, none⟩ = some (.int .i64 y) := by
  have add : ∀ i, (⟨g, 0, none⟩ : Addr).add i = ⟨g, i, none⟩ := by intro i; unfold Addr.add; split <;> simp_all
  unfold Ki at h
  have := h.cells (g := g) rfl m (.int .i64 y) (by rw [List.getElem?_map, hm]; rfl)
  rwa [add] at this
theorem ki_len {B : Nat} {w : World} {v : Value} {xs : List Int} (h : Ki B w v xs) : ∃ ao ca, v = .slice ao xs.length ca := by
  unfold Ki at h
  rcases h.2 with ⟨rfl, h0⟩ | ⟨g, cap, cur, rfl, _⟩
  · exact ⟨none, 0, by rw [h0]⟩
  · exact ⟨_, _, rfl⟩
theorem ki_max {B : Nat} {w : World} {v : Value} {xs : List Int} (h : Ki B w v xs) : xs.length ≤ maxLen := by
  unfold Ki at h
  rcases h.2 with ⟨rfl, h0⟩ | ⟨g, cap, cur, rfl, _, _, h1, h2, _⟩
  · rw [h0]; exact Nat.zero_le _
  · exact Nat.le_trans h1 h2
set_option maxRecDepth 100000 in
set_option maxHeartbeats 1000000 in
theorem sameInts_any (w : World) (Ba Bb : Nat) (va vb : Value) (xs : List Int) (ha : Ki Ba w va xs) (hb : Ki Bb w vb xs) :
    Calls Try.prog 32 #[va, vb] w fun e w' => e = .returned (.bool true) ∧ Below w.heap.size w w' := by
  have hmx := ki_max ha
  unfold maxLen at hmx
  rcases Nat.eq_zero_or_pos xs.length with h0 | hpos
  · obtain ⟨ao, ca, rfl⟩ := ki_len ha
    obtain ⟨bo, cb, rfl⟩ := ki_len hb
    rw [h0]
    clear ha hb
    go_enter Try.func32, Try.ntmps32
    go_wp2
    go_loopw [13] (fun i wr => i = .int .i64 0 ∧ wr = w) (fun _ _ => 0)
    case atStart => exact ⟨rfl, rfl⟩
    case round =>
      obtain ⟨rfl, rfl⟩ := hrel
      go_wp2
      go_ret
      exact ⟨rfl, Below.refl _ _⟩
  · obtain ⟨g1, ca, rfl, _, hg1⟩ := ha.form hpos
    obtain ⟨g2, cb, rfl, _, hg2⟩ := hb.form hpos
    obtain ⟨L, hL⟩ : ∃ L, xs.length = L := ⟨_, rfl⟩
    rw [hL] at ha hb hmx ⊢
    have HA := keep ha
    have HB := keep hb
    have HL := keep hL
    clear ha hb hL hpos
    go_enter Try.func32, Try.ntmps32
    go_wp2
    go_loopw [13] (fun i wr => ∃ k : Nat, k ≤ L ∧ i = .int .i64 k ∧ Kept (Below w.heap.size w wr)) (fun i _ => L - (intOf i).toNat)
    case atStart => exact ⟨0, Nat.zero_le _, rfl, Below.refl _ _⟩
    case round =>
      obtain ⟨k, hk, rfl, KB⟩ := hrel
      by_cases hlt : k < L
      · have hz : (k : Int) < (L : Int) := by omega
        have hz0 : (0 : Int) ≤ (k : Int) := by omega
        obtain ⟨x, hx⟩ : ∃ x, xs[k]? = some x := ⟨_, List.getElem?_eq_getElem (by rw [HL.out]; exact hlt)⟩
        have c1 : wr.cell? ⟨g1, k, none⟩ = some (.int .i64 x) := (KB.out.cell (p := ⟨g1, k, none⟩) hg1).trans (HA.out.at hx)
        have c2 : wr.cell? ⟨g2, k, none⟩ = some (.int .i64 x) := (KB.out.cell (p := ⟨g2, k, none⟩) hg2).trans (HB.out.at hx)
        clear hx
        go_wp2_with fail
        go_region
        go_wp2
        go_roundw
        case measure => simp [intOf]; omega
        case rel => exact ⟨k + 1, by omega, by go_num, KB.out.drew⟩
      · have hz : ¬ (k : Int) < (L : Int) := by omega
        go_wp2
        go_ret
        exact ⟨rfl, KB.out⟩
end Go.Proofs.Ytlfkdohajfkhdaa
