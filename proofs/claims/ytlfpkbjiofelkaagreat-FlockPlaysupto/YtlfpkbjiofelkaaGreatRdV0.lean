/-
  Contracts over this program: a copy of a flock, with the table that it has.
-/
import Derived.Test.YtlfpkbjiofelkaaGreatRdV1
namespace Go.Proofs.YtlfpkbjiofelkaaGreat
open Go.RowKit Go.Shelf
set_option linter.unusedVariables false
set_option linter.unusedSimpArgs false
set_option maxRecDepth 100000
namespace Rd
/-- a copy of the program's: all its blocks are new -/
def CfE (w : World) (seed : Nat) (l : List ByteArray) (e : Ending) (w' : World) : Prop :=
  ∃ R r b, e = .returned (.pointer (some ⟨R, 0, none⟩)) ∧ Below w.heap.size w w' ∧ Rec (hs seed) l.length w' r R b seed (copyS (hs seed) l) ∧ ∀ k, rr r R k ≠ (0, 0) → w.heap.size ≤ k
theorem nroles (n q : Nat) : rr (fun k => if k = n then (5, 0) else (0, 0)) (n + 1) q ≠ (0, 0) → n ≤ q ∧ q ≤ n + 1 := by
  intro hq
  by_cases e1 : q = n + 1
  · omega
  · by_cases e2 : q = n
    · omega
    · exact absurd (by simp [rr, e1, e2]) hq
set_option maxHeartbeats 1000000 in
theorem fcopy_nil (w : World) : Calls Tryz.prog 7 #[.pointer none] w (CfE w 0 []) := by
  have MN := keep (rnew_any (hs 0) w 0 0)
  go_enter Tryz.func7, Tryz.ntmps7
  go_wp2_with fail
  refine MN.out.mono ?_
  rintro _ w1 ⟨rfl, hb, hf⟩
  have HD : Kept (CfE w 0 [] (.returned (.pointer (some ⟨w.heap.size + 1, 0, none⟩))) w1) := ⟨_, _, _, rfl, hb, hf, fun k hk => (nroles _ k hk).1⟩
  generalize CfE w 0 [] = Q at *
  clear hb hf MN
  go_wp2
  first | exact HD.out | (go_ret; exact HD.out)
set_option maxHeartbeats 4000000 in
theorem fcopy_any {N : Nat} {w : World} {r : Roles} {R b seed : Nat} {s : Sf} {l : List ByteArray} (hsd : seed < Dw.M) (hr : Rec (hs seed) N w r R b seed s) (hN : N ≤ 2600000000000) (hu : ∀ L, Srs (kys s) L → L = l) (hri : Rise l) (hn : l.length ≤ 1048576) (hs1 : ∀ x ∈ l, x.size ≤ 1048576) :
    Calls Tryz.prog 7 #[.pointer (some ⟨R, 0, none⟩)] w (CfE w seed l) := by
  obtain ⟨c0, c1, c2, cf⟩ := three hr.2.2.2
  have MN := keep (rnew_any (hs seed) w seed 0)
  have MM := keep (fun (w1 : World) (hb : Below w.heap.size w w1) => fmembers_any w1 r R b s (hr.below hb) hN)
  obtain ⟨n, hln⟩ : ∃ n, l.length = n := ⟨_, rfl⟩
  rw [hln] at hn
  have HU := keep hu
  have HL := keep hln
  have HN := keep hn
  have HS := keep hs1
  have HR := keep hri
  have HH := keep (hs_is seed hsd)
  generalize hQd : CfE w seed l = Q
  have HQ : Kept (∀ R' r' b' w', Below w.heap.size w w' → Rec (hs seed) n w' r' R' b' seed (copyS (hs seed) (l.take n)) → (∀ k, rr r' R' k ≠ (0, 0) → w.heap.size ≤ k) → Q (.returned (.pointer (some ⟨R', 0, none⟩))) w') := by
    rw [← hQd]
    exact fun R' r' b' w' h1 h2 h3 => ⟨R', r', b', rfl, h1, by rw [List.take_of_length_le (by omega)] at h2; rw [hln]; exact h2, h3⟩
  clear hr hu hn hs1 hri hln hQd c1 c2 cf hsd hN
  go_enter Tryz.func7, Tryz.ntmps7
  go_wp2_with fail
  refine MN.out.mono ?_
  rintro _ w1 ⟨rfl, hb1, hr1⟩
  have H1 := keep hr1
  have B1 := keep hb1
  clear hr1 hb1 MN c0
  go_wp2_with fail
  refine (MM.out w1 B1.out).mono ?_
  rintro _ w2 ⟨v, L, rfl, hS, ⟨g, rfl, hown⟩, hb2⟩
  obtain rfl := HU.out L hS
  rw [HL.out] at hown ⊢
  obtain ⟨R1, hR1⟩ : ∃ R1, w.heap.size + 1 = R1 := ⟨_, rfl⟩
  obtain ⟨b1, hb1⟩ : ∃ b1, w.heap.size = b1 := ⟨_, rfl⟩
  have hg := (World.ownsRow.lt hown g rfl).1
  have M1 : Kept (∃ r', Rec (hs seed) 0 w2 r' R1 b1 seed (copyS (hs seed) (L.take 0)) ∧ Below w.heap.size w w2 ∧ (∀ k, rr r' R1 k ≠ (0, 0) → w.heap.size ≤ k ∧ k ≠ g) ∧ ((∀ y, (lk (copyS (hs seed) (L.take 0)) y).isSome = true ↔ y ∈ L.take 0) ∧ ln (copyS (hs seed) (L.take 0)) = 0) ∧ w2.ownsRow w1.heap.size 9 1 (.slice (some ⟨g, 0, none⟩) n n) n (enS L)) := by
    refine ⟨fun k => if k = w.heap.size then (5, 0) else (0, 0), ?_, bup B1.out hb2, fun k hk => ?_, ⟨fun y => ?_, rfl⟩, hown⟩
    · rw [← hR1, ← hb1]; exact H1.out.below hb2
    · rw [← hR1] at hk
      have h3 := nroles _ k hk
      have h4 := H1.out.lt
      exact ⟨h3.1, by omega⟩
    · show (lk Dc.none0 y).isSome = true ↔ _
      rw [lk_none]; simp
  have HG := keep (own_lt hown (k := g) rfl)
  have S12 := keep hb2.size
  rw [hR1]
  clear hown hS hb2 hR1 hb1 hg H1 MM HU
  go_wp2
  go_loopg [17] n (fun kx s17 wr => ∃ i : Nat, s17 = .int .i64 i ∧ i ≤ n ∧ n - i ≤ kx ∧ Kept (∃ r', Rec (hs seed) i wr r' R1 b1 seed (copyS (hs seed) (L.take i)) ∧ Below w.heap.size w wr ∧ (∀ k, rr r' R1 k ≠ (0, 0) → w.heap.size ≤ k ∧ k ≠ g) ∧ ((∀ y, (lk (copyS (hs seed) (L.take i)) y).isSome = true ↔ y ∈ L.take i) ∧ ln (copyS (hs seed) (L.take i)) = i) ∧ wr.ownsRow w1.heap.size 9 1 (.slice (some ⟨g, 0, none⟩) n n) n (enS L)))
  case atStart => exact ⟨0, rfl, Nat.zero_le _, by omega, M1.out⟩
  case round =>
    clear M1
    obtain ⟨i, rfl, hin, hg, KM⟩ := hrel
    by_cases hlt : i < n
    · obtain ⟨x, hx⟩ : ∃ x, L[i]? = some x := ⟨_, List.getElem?_eq_getElem (by have := HL.out; omega)⟩
      obtain ⟨r', hF, hB, hK, ⟨hy1, hy2⟩, hown⟩ := KM.out
      have e0 : wr.cell? ⟨g, i, none⟩ = some (.string x) := (show Ks w1.heap.size wr (.slice (some ⟨g, 0, none⟩) L.length n) L by rw [HL.out]; unfold Ks; rw [HL.out]; exact hown).at hx
      have i0 : (0 : Int) ≤ (i : Int) := by omega
      have i1 : (i : Int) < (n : Int) := by omega
      have hwi : IntKind.i64.wrap ((i : Int) + 1) = (i : Int) + 1 := by have := HN.out; rw [IntKind.wrap_i64]; omega
      have hnew := rise_new HR.out hx
      have hlk : lk (copyS (hs seed) (L.take i)) x = none := by
        cases e : lk (copyS (hs seed) (L.take i)) x with
        | none => rfl
        | some u => exact absurd ((hy1 x).1 (by rw [e]; rfl)) hnew
      have MA := keep (fadd_newx HH.out hF (by have := HN.out; omega) x (HS.out x (List.mem_of_getElem? hx)) hlk (by rw [hy2]; have := HN.out; omega))
      have HX := keep hx
      have HB := keep hB
      have HK := keep hK
      have HY := keep hy1
      have HY2 := keep hy2
      have HO := keep hown
      have HLK := keep hlk
      clear hx hF hB hK KM hy1 hy2 hown hnew hlk
      go_wp2_with fail
      refine MA.out.mono ?_
      rintro _ w5 ⟨rfl, r5, s5, q1, ⟨q2, rfl⟩, q3⟩
      have M5 : Kept (∃ r', Rec (hs seed) (i + 1) w5 r' R1 b1 seed (copyS (hs seed) (L.take (i + 1))) ∧ Below w.heap.size w w5 ∧ (∀ k, rr r' R1 k ≠ (0, 0) → w.heap.size ≤ k ∧ k ≠ g) ∧ ((∀ y, (lk (copyS (hs seed) (L.take (i + 1))) y).isSome = true ↔ y ∈ L.take (i + 1)) ∧ ln (copyS (hs seed) (L.take (i + 1))) = i + 1) ∧ w5.ownsRow w1.heap.size 9 1 (.slice (some ⟨g, 0, none⟩) n n) n (enS L)) := by
        have hgl : g < wr.heap.size := own_lt HO.out (k := g) rfl
        have hg0 : rr r' R1 g = (0, 0) := Classical.byContradiction fun e => (HK.out g e).2 rfl
        obtain ⟨hg1, hg2⟩ := q3.2.2 g hgl hg0
        rw [copyS_snoc HX.out]
        refine ⟨r5, q1, HB.out.trans (q3.below HB.out.size (fun k hk => Classical.byContradiction fun hne => by have := (HK.out k hne).1; omega)), fun k hk => ⟨?_, fun e => hk (by rw [e]; exact hg2)⟩, ⟨fun y => ?_, ?_⟩, own_kept HO.out (fun k hk => by cases hk; exact hg1)⟩
        · refine Classical.byContradiction fun hc => hk ?_
          exact (q3.2.2 k (by have := HB.out.size; omega) (Classical.byContradiction fun hne => hc (HK.out k hne).1)).2
        · rw [q2.1 y, List.take_add_one, HX.out]
          by_cases e : y = x
          · rw [if_pos e, e]; simp
          · rw [if_neg e, HY.out y]; simp [e]
        · rw [q2.2, HY2.out, HLK.out]; rfl
      clear q1 q2 q3 MA
      go_wp2
      go_roundg (n - (i + 1))
      case measure => omega
      case rel => exact ⟨i + 1, by simp, by omega, Nat.le_refl _, M5.out⟩
    · obtain rfl : i = n := by omega
      have HF : Kept (Q (.returned (.pointer (some ⟨R1, 0, none⟩))) wr) := by
        obtain ⟨r', hF, hB, hK, _⟩ := KM.out
        exact HQ.out _ _ _ _ hB hF (fun k hk => (hK k hk).1)
      go_wp2
      first | exact HF.out | (go_ret; exact HF.out)
end Rd
end Go.Proofs.YtlfpkbjiofelkaaGreat
