/-
  Contracts over this program: is a text among others; are two rows of texts the same.
-/
import Derived.Test.YtnkladifalnmnaaScanNext1
namespace Go.Proofs.Ytnkladifalnmnaa
open Go.RowKit Go.Shelf
attribute [local go_sem] Oper.semAt_some
theorem lt_cellS {w : World} {a : Addr} {v : Value} (h : w.cell? a = some v) : a.block < w.heap.size := by
  rcases Nat.lt_or_ge a.block w.heap.size with h' | h'
  · exact h'
  · simp [World.cell?, Array.getElem?_eq_none h'] at h
/-- texts that can be read in a slice -/
def Rd (w : World) (v : Value) (xs : List ByteArray) : Prop := ∃ ao cap, v = .slice ao xs.length cap ∧ xs.length ≤ maxLen ∧ (xs = [] ∨ ∃ g, ao = some ⟨g, 0, none⟩ ∧ ∀ m y, xs[m]? = some y → w.cell? ⟨g, m, none⟩ = some (.string y))
theorem Ks.rd {B : Nat} {w : World} {v : Value} {xs : List ByteArray} (h : Ks B w v xs) : Rd w v xs := by
  have h' := h
  unfold Ks at h'
  rcases h'.2 with ⟨rfl, h0⟩ | ⟨g, cap, cur, rfl, _, _, h1, h2, _⟩
  · exact ⟨none, 0, by rw [h0], by omega, .inl (List.length_eq_zero_iff.1 h0)⟩
  · exact ⟨_, cap, rfl, Nat.le_trans h1 h2, .inr ⟨g, rfl, fun m y hm => h.at hm⟩⟩
set_option maxRecDepth 100000 in
set_option maxHeartbeats 1000000 in
theorem among_any (w : World) (v : Value) (xs : List ByteArray) (k : ByteArray) (t : Bool) (ht : t = true ↔ k ∈ xs) (hv : Rd w v xs) : Calls Try.prog 22 #[v, .string k] w fun e w' => e = .returned (.bool t) ∧ w' = w := by
  have HT := keep ht
  clear ht
  obtain ⟨ao, cap, rfl, hmx, hx⟩ := hv
  unfold maxLen at hmx
  rcases hx with rfl | ⟨g, rfl, hc⟩
  · have e : t = false := by cases t with
      | false => rfl
      | true => exact absurd (HT.out.1 rfl) (by simp)
    subst e
    rw [show ([] : List ByteArray).length = 0 from rfl]
    go_enter Try.func22, Try.ntmps22
    go_wp2
    go_loopw [5] (fun i wr => i = .int .i64 0 ∧ wr = w) (fun _ _ => 0)
    case atStart => exact ⟨rfl, rfl⟩
    case round =>
      obtain ⟨rfl, rfl⟩ := hrel
      go_wp2
      go_ret
      exact ⟨rfl, rfl⟩
  · obtain ⟨L, hL⟩ : ∃ L, xs.length = L := ⟨_, rfl⟩
    rw [hL] at hmx ⊢
    have HC := keep hc
    have HL := keep hL
    clear hc hL
    go_enter Try.func22, Try.ntmps22
    go_wp2
    go_loopw [5] (fun i wr => ∃ j : Nat, j ≤ L ∧ i = .int .i64 j ∧ wr = w ∧ Kept (k ∉ xs.take j)) (fun i _ => L - (intOf i).toNat)
    case atStart => exact ⟨0, Nat.zero_le _, rfl, rfl, by intro h; simp at h⟩
    case round =>
      obtain ⟨j, hj, rfl, hw, kn⟩ := hrel
      subst hw
      by_cases hlt : j < L
      · have hz : (j : Int) < (L : Int) := by omega
        obtain ⟨x, hx⟩ : ∃ x, xs[j]? = some x := ⟨_, List.getElem?_eq_getElem (by rw [HL.out]; exact hlt)⟩
        have c1 := HC.out j x hx
        have HX := keep hx
        clear hx
        by_cases hk : x = k
        · subst hk
          have hbe : (x.toList == x.toList) = true := beq_self_eq_true _
          go_wp2
          go_ret
          refine ⟨?_, rfl⟩
          rw [HT.out.2 (List.mem_of_getElem? HX.out)]
          rfl
        · have hbe : (x.toList == k.toList) = false := beq_eq_false_iff_ne.2 (fun e => hk (bytes_eq e))
          go_wp2
          go_roundw
          case measure => simp [intOf]; omega
          case rel =>
            refine ⟨j + 1, by omega, by go_num, by trivial, ?_⟩
            intro h
            rw [List.take_add_one, HX.out] at h
            rcases List.mem_append.1 h with h | h
            · exact kn.out h
            · simp at h; exact hk h.symm
      · have hz : ¬ (j : Int) < (L : Int) := by omega
        go_wp2
        go_ret
        refine ⟨?_, rfl⟩
        have e : xs.take j = xs := List.take_of_length_le (by rw [HL.out]; omega)
        have := kn.out
        rw [e] at this
        have e2 : t = false := by cases t with
          | false => rfl
          | true => exact absurd (HT.out.1 rfl) this
        rw [e2]
        rfl
set_option maxRecDepth 100000 in
set_option maxHeartbeats 1000000 in
theorem same_any (w : World) (va vb : Value) (xs : List ByteArray) (ha : Rd w va xs) (hb : Rd w vb xs) :
    Calls Try.prog 14 #[va, vb] w fun e w' => e = .returned (.bool true) ∧ Below w.heap.size w w' := by
  obtain ⟨ao, ca, rfl, hmx, hxa⟩ := ha
  obtain ⟨bo, cb, rfl, _, hxb⟩ := hb
  unfold maxLen at hmx
  rcases Nat.eq_zero_or_pos xs.length with h0 | hpos
  · rw [h0]
    clear hxa hxb
    go_enter Try.func14, Try.ntmps14
    go_wp2
    go_loopw [5] (fun i wr => i = .int .i64 0 ∧ wr = w) (fun _ _ => 0)
    case atStart => exact ⟨rfl, rfl⟩
    case round =>
      obtain ⟨rfl, rfl⟩ := hrel
      go_wp2
      go_ret
      exact ⟨rfl, Below.refl _ _⟩
  · have hne : xs ≠ [] := fun e => by rw [e] at hpos; exact absurd hpos (by simp)
    obtain ⟨g1, rfl, hc1⟩ := hxa.resolve_left hne
    obtain ⟨g2, rfl, hc2⟩ := hxb.resolve_left hne
    obtain ⟨L, hL⟩ : ∃ L, xs.length = L := ⟨_, rfl⟩
    rw [hL] at hmx ⊢
    have H1 := keep hc1
    have H2 := keep hc2
    have HL := keep hL
    clear hc1 hc2 hL hpos hne hxa hxb
    go_enter Try.func14, Try.ntmps14
    go_wp2
    go_loopw [5] (fun i wr => ∃ k : Nat, k ≤ L ∧ i = .int .i64 k ∧ Kept (Below w.heap.size w wr)) (fun i _ => L - (intOf i).toNat)
    case atStart => exact ⟨0, Nat.zero_le _, rfl, Below.refl _ _⟩
    case round =>
      obtain ⟨k, hk, rfl, KB⟩ := hrel
      by_cases hlt : k < L
      · have hz : (k : Int) < (L : Int) := by omega
        have hz0 : (0 : Int) ≤ (k : Int) := by omega
        obtain ⟨x, hx⟩ : ∃ x, xs[k]? = some x := ⟨_, List.getElem?_eq_getElem (by rw [HL.out]; exact hlt)⟩
        have d1 := H1.out k x hx
        have d2 := H2.out k x hx
        have c1 : wr.cell? ⟨g1, k, none⟩ = some (.string x) := (KB.out.cell (p := ⟨g1, k, none⟩) (lt_cellS d1)).trans d1
        have c2 : wr.cell? ⟨g2, k, none⟩ = some (.string x) := (KB.out.cell (p := ⟨g2, k, none⟩) (lt_cellS d2)).trans d2
        clear hx d1 d2
        go_wp2_with fail
        go_region
        go_wp2
        go_roundw
        case measure => simp [intOf]; omega
        case rel => exact ⟨k + 1, by omega, by go_num, below_drewN KB.out _⟩
      · have hz : ¬ (k : Int) < (L : Int) := by omega
        go_wp2
        go_ret
        exact ⟨rfl, KB.out⟩
end Go.Proofs.Ytnkladifalnmnaa
