/-
  Contracts over this program: two rows of texts, of steps, that are the same.
-/
import Derived.Test.YtijclcedjgniaaaGreatKsVal
import Derived.Laws.StructEq
namespace Go.Proofs.YtijclcedjgniaaaGreat
open Go.RowKit Go.Shelf
set_option linter.unusedVariables false
namespace Ks
open Vl
set_option maxRecDepth 100000 in
set_option maxHeartbeats 1000000 in
theorem texts_any (w : World) (va vb : Value) (xs : List ByteArray) (ha : It w va xs) (hb : It w vb xs) :
    Calls Tryz.prog 25 #[va, vb] w fun e w' => e = .returned (.bool true) ∧ Below w.heap.size w w' := by
  have hmx := own_max ha
  unfold maxLen at hmx
  obtain ⟨ao, ca, rfl⟩ := own_sl ha
  obtain ⟨bo, cb, rfl⟩ := own_sl hb
  obtain ⟨L, hL⟩ : ∃ L, xs.length = L := ⟨_, rfl⟩
  have HA := keep ha
  have HB := keep hb
  have HL := keep hL
  rw [hL] at hmx ⊢
  clear ha hb hL
  go_enter Tryz.func25, Tryz.ntmps25
  go_wp2
  go_loopw [13] (fun i wr => ∃ k : Nat, k ≤ L ∧ i = .int .i64 k ∧ Kept (Below w.heap.size w wr)) (fun i _ => L - (intOf i).toNat)
  case atStart => exact ⟨0, Nat.zero_le _, rfl, Below.refl _ _⟩
  case round =>
    obtain ⟨k, hk, rfl, KB⟩ := hrel
    by_cases hlt : k < L
    · have hz : (k : Int) < (L : Int) := by omega
      have hz0 : (0 : Int) ≤ (k : Int) := by omega
      obtain ⟨x, hx⟩ : ∃ x, xs[k]? = some x := ⟨_, List.getElem?_eq_getElem (by rw [HL.out]; exact hlt)⟩
      have h1 := HA.out
      have h2 := HB.out
      rw [HL.out] at h1 h2
      obtain ⟨g1, rfl, hg1⟩ := own_some (n := L) (by rw [← HL.out]; rw [← HL.out] at h1; exact h1) (by omega)
      obtain ⟨g2, rfl, hg2⟩ := own_some (n := L) (by rw [← HL.out]; rw [← HL.out] at h2; exact h2) (by omega)
      have c1 : wr.cell? ⟨g1, k, none⟩ = some (.string x) := (KB.out.cell (p := ⟨g1, k, none⟩) hg1).trans (It.at h1 hx)
      have c2 : wr.cell? ⟨g2, k, none⟩ = some (.string x) := (KB.out.cell (p := ⟨g2, k, none⟩) hg2).trans (It.at h2 hx)
      clear hx h1 h2
      go_wp2_with fail
      go_region
      go_wp2
      go_roundw
      case measure => simp [intOf]; omega
      case rel => exact ⟨k + 1, by omega, by go_num, KB.out.drew⟩
    · have hz : ¬ (k : Int) < (L : Int) := by omega
      go_wp2
      go_ret
      exact ⟨rfl, KB.out⟩
theorem Sta.at {w : World} {g c k n : Nat} {l : List (Int × ByteArray)} {x : Int × ByteArray} (h : w.ownsRow 0 55 2 (.slice (some ⟨g, 0, none⟩) n c) l.length (enS l)) (hx : l[k]? = some x) :
    w.cell? ⟨g, k * 2, none⟩ = some (.int .i64 x.1) ∧ w.cell? ⟨g, k * 2 + 1, none⟩ = some (.string x.2) := by
  obtain ⟨a, b⟩ := fm2 (f := fun x : Int × ByteArray => [.int .i64 x.1, .string x.2]) (fun _ => rfl) hx
  have h1 := h.cells (g := g) rfl (k * 2) _ a
  have h2 := h.cells (g := g) rfl (k * 2 + 1) _ b
  rw [add0] at h1 h2
  exact ⟨h1, h2⟩
set_option maxRecDepth 100000 in
set_option maxHeartbeats 1000000 in
theorem steps_same (w : World) (va vb : Value) (xs : List (Int × ByteArray)) (ha : w.ownsRow 0 55 2 va xs.length (enS xs)) (hb : w.ownsRow 0 55 2 vb xs.length (enS xs)) :
    Calls Tryz.prog 24 #[va, vb] w fun e w' => e = .returned (.bool true) ∧ Below w.heap.size w w' := by
  have hmx := own_max ha
  unfold maxLen at hmx
  obtain ⟨ao, ca, rfl⟩ := own_sl ha
  obtain ⟨bo, cb, rfl⟩ := own_sl hb
  obtain ⟨L, hL⟩ : ∃ L, xs.length = L := ⟨_, rfl⟩
  have HA := keep ha
  have HB := keep hb
  have HL := keep hL
  rw [hL] at hmx ⊢
  clear ha hb hL
  go_enter Tryz.func24, Tryz.ntmps24
  go_wp2
  go_loopw [13] (fun i wr => ∃ k : Nat, k ≤ L ∧ i = .int .i64 k ∧ Kept (Below w.heap.size w wr)) (fun i _ => L - (intOf i).toNat)
  case atStart => exact ⟨0, Nat.zero_le _, rfl, Below.refl _ _⟩
  case round =>
    obtain ⟨k, hk, rfl, KB⟩ := hrel
    by_cases hlt : k < L
    · have hz : (k : Int) < (L : Int) := by omega
      have hz0 : (0 : Int) ≤ (k : Int) := by omega
      obtain ⟨x, hx⟩ : ∃ x, xs[k]? = some x := ⟨_, List.getElem?_eq_getElem (by rw [HL.out]; exact hlt)⟩
      have h1 := HA.out
      have h2 := HB.out
      rw [HL.out] at h1 h2
      obtain ⟨g1, rfl, hg1⟩ := own_some h1 (by omega)
      obtain ⟨g2, rfl, hg2⟩ := own_some h2 (by omega)
      rw [← HL.out] at h1 h2
      obtain ⟨c1, d1⟩ := Sta.at h1 hx
      obtain ⟨c2, d2⟩ := Sta.at h2 hx
      have c1 : wr.cell? ⟨g1, k * 2, none⟩ = some (.int .i64 x.1) := (KB.out.cell (p := ⟨g1, k * 2, none⟩) hg1).trans c1
      have c2 : wr.cell? ⟨g2, k * 2, none⟩ = some (.int .i64 x.1) := (KB.out.cell (p := ⟨g2, k * 2, none⟩) hg2).trans c2
      have d1 : wr.cell? ⟨g1, k * 2 + 1, none⟩ = some (.string x.2) := (KB.out.cell (p := ⟨g1, k * 2 + 1, none⟩) hg1).trans d1
      have d2 : wr.cell? ⟨g2, k * 2 + 1, none⟩ = some (.string x.2) := (KB.out.cell (p := ⟨g2, k * 2 + 1, none⟩) hg2).trans d2
      obtain ⟨x1, x2⟩ := x
      dsimp only at c1 c2 d1 d2
      clear hx h1 h2
      go_wp2_with fail
      go_region
      go_wp2
      go_roundw
      case measure => simp [intOf]; omega
      case rel => exact ⟨k + 1, by omega, by go_num, KB.out.drew⟩
    · have hz : ¬ (k : Int) < (L : Int) := by omega
      go_wp2
      go_ret
      exact ⟨rfl, KB.out⟩
end Ks
end Go.Proofs.YtijclcedjgniaaaGreat
