/-
  FlockPlays, walked: two flocks, and a copy, beside the document's own ones.
-/
import Derived.Test.YtlfpkbjiofelkaaGreatRdV3
import Derived.Test.YtlfpkbjiofelkaaGreatRdV4
import Derived.Test.YtlfpkbjiofelkaaGreatRdV5
namespace Go.Proofs.YtlfpkbjiofelkaaGreat
open Go.RowKit Go.Shelf
set_option linter.unusedVariables false
set_option linter.unusedSimpArgs false
set_option maxRecDepth 100000
namespace Rd
/-- the two seeds -/
def Sd2 (X x0 x1 : Nat) (w : World) : Prop := w.cell? ⟨X, 0, none⟩ = some (.int .u64 (x0 : Int)) ∧ w.cell? ⟨X, 1, none⟩ = some (.int .u64 (x1 : Int))
theorem Sd2.bel {X x0 x1 : Nat} {w w' : World} (h : Sd2 X x0 x1 w) (hb : Below w.heap.size w w') : Sd2 X x0 x1 w' := ⟨(hb.cell (World.block_lt_of_cell? _ _ h.1)).trans h.1, (hb.cell (World.block_lt_of_cell? _ _ h.2)).trans h.2⟩
theorem newf0 (w : World) : Calls Tryz.prog 5 #[.int .u64 0] w (Nw Fl w 0) := newf w 0
theorem newm0 (w : World) : Calls Tryz.prog 6 #[.int .u64 0] w (Nw Ml w 0) := newm w 0
theorem alloc3 (w : World) (t : TypeId) : Below w.heap.size w (w.alloc (.cells #[.pointer none, .pointer none, .pointer none] t)) ∧ (w.alloc (.cells #[.pointer none, .pointer none, .pointer none] t)).heap.size = w.heap.size + 1 ∧ (w.alloc (.cells #[.pointer none, .pointer none, .pointer none] t)).heap[w.heap.size]? = some (.cells #[.pointer none, .pointer none, .pointer none] t (0, 0)) := ⟨(Below.refl _ w).alloc (Nat.le_refl _) _, by simp, heap_alloc_new _ _⟩
def pt (a : Nat) : Value := .pointer (some ⟨a, 0, none⟩)
theorem store3 {w : World} {X : Nat} {t : TypeId} (h : w.heap[X]? = some (.cells #[.pointer none, .pointer none, .pointer none] t (0, 0))) (a b c : Nat) :
    (w.cell? ⟨X, 0, none⟩ = some (.pointer none) ∧ w.frozen? ⟨X, 0, none⟩ = false) ∧ ((w.setCell ⟨X, 0, none⟩ (.pointer (some ⟨a, 0, none⟩))).cell? ⟨X, 1, none⟩ = some (.pointer none) ∧ (w.setCell ⟨X, 0, none⟩ (.pointer (some ⟨a, 0, none⟩))).frozen? ⟨X, 1, none⟩ = false) ∧
    (((w.setCell ⟨X, 0, none⟩ (.pointer (some ⟨a, 0, none⟩))).setCell ⟨X, 1, none⟩ (.pointer (some ⟨b, 0, none⟩))).cell? ⟨X, 2, none⟩ = some (.pointer none) ∧ ((w.setCell ⟨X, 0, none⟩ (.pointer (some ⟨a, 0, none⟩))).setCell ⟨X, 1, none⟩ (.pointer (some ⟨b, 0, none⟩))).frozen? ⟨X, 2, none⟩ = false) ∧
    ∃ w5, (((w.setCell ⟨X, 0, none⟩ (.pointer (some ⟨a, 0, none⟩))).setCell ⟨X, 1, none⟩ (.pointer (some ⟨b, 0, none⟩))).setCell ⟨X, 2, none⟩ (.pointer (some ⟨c, 0, none⟩))) = w5 ∧ w5.heap[X]? = some (.cells (p3 a b c) t (0, 0)) ∧ (w.heap.size ≤ w5.heap.size ∧ ∀ k, k ≠ X → w5.heap[k]? = w.heap[k]?) ∧ Below X w w5 := by
  have hlt := (Array.getElem?_eq_some_iff.1 h).1
  have h1 : (w.setCell ⟨X, 0, none⟩ (.pointer (some ⟨a, 0, none⟩))).heap[X]? = some (.cells #[.pointer (some ⟨a, 0, none⟩), .pointer none, .pointer none] t (0, 0)) := by simp [World.setCell, Array.getElem?_modify, h]
  have h2 : ((w.setCell ⟨X, 0, none⟩ (.pointer (some ⟨a, 0, none⟩))).setCell ⟨X, 1, none⟩ (.pointer (some ⟨b, 0, none⟩))).heap[X]? = some (.cells #[.pointer (some ⟨a, 0, none⟩), .pointer (some ⟨b, 0, none⟩), .pointer none] t (0, 0)) := by
    generalize w.setCell ⟨X, 0, none⟩ (.pointer (some ⟨a, 0, none⟩)) = w1 at *
    have hlt := (Array.getElem?_eq_some_iff.1 h1).1
    simp [World.setCell, Array.getElem?_modify, h1]
  have bb1 : Below X w (w.setCell ⟨X, 0, none⟩ (.pointer (some ⟨a, 0, none⟩))) := (Below.refl X w).setCell (Nat.le_refl X) _
  have bb2 : Below X w ((w.setCell ⟨X, 0, none⟩ (.pointer (some ⟨a, 0, none⟩))).setCell ⟨X, 1, none⟩ (.pointer (some ⟨b, 0, none⟩))) := bb1.setCell (Nat.le_refl X) _
  have bb3 : Below X w (((w.setCell ⟨X, 0, none⟩ (.pointer (some ⟨a, 0, none⟩))).setCell ⟨X, 1, none⟩ (.pointer (some ⟨b, 0, none⟩))).setCell ⟨X, 2, none⟩ (.pointer (some ⟨c, 0, none⟩))) := bb2.setCell (Nat.le_refl X) _
  refine ⟨⟨by simp [World.cell?, h], by simp [World.frozen?, h]⟩, ⟨by simp only [World.cell?, h1]; rfl, by simp only [World.frozen?, h1]; rfl⟩, ⟨by simp only [World.cell?, h2]; rfl, by simp only [World.frozen?, h2]; rfl⟩, _, rfl, ?_, ⟨by simp, fun k hk => ?_⟩, bb3⟩
  · generalize (w.setCell ⟨X, 0, none⟩ (.pointer (some ⟨a, 0, none⟩))).setCell ⟨X, 1, none⟩ (.pointer (some ⟨b, 0, none⟩)) = w2 at *
    have hlt := (Array.getElem?_eq_some_iff.1 h2).1
    simp [World.setCell, Array.getElem?_modify, h2, p3]
  · rw [Below.heap_setCell _ _ _ _ hk, Below.heap_setCell _ _ _ _ hk, Below.heap_setCell _ _ _ _ hk]
theorem cell_blk {w w' : World} {a : Addr} (h : w'.heap[a.block]? = w.heap[a.block]?) : w'.cell? a = w.cell? a := by simp only [World.cell?, h]
theorem Sd2.but {X x0 x1 F : Nat} {w w' : World} (h : Sd2 X x0 x1 w) (hk : ∀ k, k ≠ F → w'.heap[k]? = w.heap[k]?) (hF : X ≠ F) : Sd2 X x0 x1 w' := ⟨by rw [← h.1]; simp only [World.cell?, hk X hF], by rw [← h.2]; simp only [World.cell?, hk X hF]⟩
set_option maxHeartbeats 40000000 in
theorem plays_walk (W : World) (x0 x1 : Nat) (hx0 : x0 < Dw.M) (hx1 : x1 < Dw.M) (so : Option Addr) (cap : Nat) (S : List Stp) (hS : Steps W so S) (hn : S.length ≤ 1048576) (hf : ∀ j (h : j < S.length), S[j].f.size ≤ 1048576) :
    Calls Tryz.prog 3 #[.agg #[.int .u64 (x0 : Int), .int .u64 (x1 : Int)], .slice so S.length cap] W fun e w' => e = .returned (.bool true) ∧ Below W.heap.size W w' := by
  obtain ⟨n, hn0⟩ : ∃ n, S.length = n := ⟨_, rfl⟩
  have HS := keep hS
  have HF := keep hf
  have HL := keep hn0
  rw [hn0] at hn ⊢
  have HN := keep hn
  have HX0 := keep hx0
  have HX1 := keep hx1
  obtain ⟨X, hX⟩ : ∃ X, W.heap.size = X := ⟨_, rfl⟩
  obtain ⟨W1, hW1⟩ : ∃ W1, W.alloc (.cells #[.int .u64 (x0 : Int), .int .u64 (x1 : Int)] 23) = W1 := ⟨_, rfl⟩
  have B1 : Kept (Below W.heap.size W W1) := by rw [← hW1]; exact (Below.refl _ W).alloc (Nat.le_refl _) _
  have g1 : W1.heap[X]? = some (.cells #[.int .u64 (x0 : Int), .int .u64 (x1 : Int)] 23 (0, 0)) := by rw [← hW1, ← hX]; exact heap_alloc_new _ _
  have HXW : Kept (X < W1.heap.size) := (Array.getElem?_eq_some_iff.1 g1).1
  have SDFl : Kept (Sd2 X x0 x1 W1) := ⟨by simp [World.cell?, g1], by simp [World.cell?, g1]⟩
  clear hS hf hn hn0 hx0 hx1 g1
  go_enter Tryz.func3, Tryz.ntmps3
  go_wp2_with fail
  refine code_ex (ι := Nat × Nat × Nat × Nat) (fun a i => (((((((((a.put (some 14) (.pointer (some ⟨X, 0, none⟩))).put (some 15) (.int .u64 (x0 : Int))).put (some 16) (.pointer (some ⟨i.1, 0, none⟩))).put (some 17) (.pointer (some ⟨X, 1, none⟩))).put (some 18) (.int .u64 (x1 : Int))).put (some 19) (.pointer (some ⟨i.2.1, 0, none⟩))).put (some 20) (.pointer (some ⟨i.2.2.1, 0, none⟩))).put (some 21) (.agg #[.pointer (some ⟨i.1, 0, none⟩), .pointer (some ⟨i.2.1, 0, none⟩), .pointer (some ⟨i.2.2.1, 0, none⟩)])).put (some 5) (.pointer (some ⟨i.2.2.2, 0, none⟩)))) (fun i w' => N3 Fl 27 W1.heap.size x0 x1 0 w' i.1 i.2.1 i.2.2.1 i.2.2.2 ∧ Below W1.heap.size W1 w') ?firstFl ?restFl
  case firstFl =>
    as_aux_lemma =>
      refine wp_region_held_drew (S := Sd2 X x0 x1) (by kernel_rfl) (SDFl.out.bel ((Below.refl _ _).drew)) (fun hHeld => ?_)
      refine wpAnyH_take (i := 0) (oi := { dst := some 14, op := _, type := _, pos := _, after := _, guard := _ }) (v := ?v1) rfl (by kernel_rfl) (by kernel_rfl) (by kernel_rfl) (fun _ _ _ h => h) (Or.inl ⟨by rfl, ?hy1⟩) (by assumption) ?rest1
      case hy1 => (intro w hSw; obtain ⟨q0, q1⟩ := hSw; go_simp; try with_reducible rfl)
      try simp only [Act.put, List.setIfInBounds_toArray, List.set_cons_zero, List.set_cons_succ]
      refine wpAnyH_take (i := 1) (oi := { dst := some 15, op := _, type := _, pos := _, after := _, guard := _ }) (v := ?v2) rfl (by kernel_rfl) (by kernel_rfl) (by kernel_rfl) (fun _ _ _ h => h) (Or.inl ⟨by rfl, ?hy2⟩) (by assumption) ?rest2
      case hy2 => (intro w hSw; obtain ⟨q0, q1⟩ := hSw; go_simp; try with_reducible rfl)
      try simp only [Act.put, List.setIfInBounds_toArray, List.set_cons_zero, List.set_cons_succ]
      refine wpAnyH_take (i := 3) (oi := { dst := some 17, op := _, type := _, pos := _, after := _, guard := _ }) (v := ?v3) rfl (by kernel_rfl) (by kernel_rfl) (by kernel_rfl) (fun _ _ _ h => h) (Or.inl ⟨by rfl, ?hy3⟩) (by assumption) ?rest3
      case hy3 => (intro w hSw; obtain ⟨q0, q1⟩ := hSw; go_simp; try with_reducible rfl)
      try simp only [Act.put, List.setIfInBounds_toArray, List.set_cons_zero, List.set_cons_succ]
      refine wpAnyH_take (i := 4) (oi := { dst := some 18, op := _, type := _, pos := _, after := _, guard := _ }) (v := ?v4) rfl (by kernel_rfl) (by kernel_rfl) (by kernel_rfl) (fun _ _ _ h => h) (Or.inl ⟨by rfl, ?hy4⟩) (by assumption) ?rest4
      case hy4 => (intro w hSw; obtain ⟨q0, q1⟩ := hSw; go_simp; try with_reducible rfl)
      try simp only [Act.put, List.setIfInBounds_toArray, List.set_cons_zero, List.set_cons_succ]
      have bd : Below W1.heap.size W1 W1.drew := (Below.refl _ _).drew
      generalize W1.drew = W2 at *
      have zs := bd.size
      have hxw := HXW.out
      refine wpAnyH_ready (rs := [2, 8]) (by kernel_rfl) (by simp) ?_
      refine AllReadyH.cons (o := { dst := some 16, op := _, type := _, pos := _, after := _, guard := _ }) rfl (fun K hK => ?_) (AllReadyH.cons (o := { dst := some 5, op := _, type := _, pos := _, after := _, guard := _ }) rfl (fun K hK => ?_) AllReadyH.nil)
      · go_simp
        refine (newf _ x0).mono ?_
        rintro _ wA ⟨RA, OA, rfl, hA, bA, gA⟩
        have zsA := bA.size
        refine hK.out _ _ (hHeld.bel bA) (fun hHeld => ?_)
        try simp only [Act.put, List.setIfInBounds_toArray, List.set_cons_zero, List.set_cons_succ]
        clear hK
        refine wpAnyH_ready (rs := [5, 8]) (by kernel_rfl) (by simp) ?_
        refine AllReadyH.cons (o := { dst := some 19, op := _, type := _, pos := _, after := _, guard := _ }) rfl (fun K hK => ?_) (AllReadyH.cons (o := { dst := some 5, op := _, type := _, pos := _, after := _, guard := _ }) rfl (fun K hK => ?_) AllReadyH.nil)
        · go_simp
          refine (newf _ x1).mono ?_
          rintro _ wB ⟨RB, OB, rfl, hB, bB, gB⟩
          have zsB := bB.size
          refine hK.out _ _ (hHeld.bel bB) (fun hHeld => ?_)
          try simp only [Act.put, List.setIfInBounds_toArray, List.set_cons_zero, List.set_cons_succ]
          clear hK
          refine wpAnyH_ready (rs := [6, 8]) (by kernel_rfl) (by simp) ?_
          refine AllReadyH.cons (o := { dst := some 20, op := _, type := _, pos := _, after := _, guard := _ }) rfl (fun K hK => ?_) (AllReadyH.cons (o := { dst := some 5, op := _, type := _, pos := _, after := _, guard := _ }) rfl (fun K hK => ?_) AllReadyH.nil)
          · go_simp
            refine (newf0 _).mono ?_
            rintro _ wC ⟨RC, OC, rfl, hC, bC, gC⟩
            have zsC := bC.size
            refine hK.out _ _ (hHeld.bel bC) (fun hHeld => ?_)
            try simp only [Act.put, List.setIfInBounds_toArray, List.set_cons_zero, List.set_cons_succ]
            clear hK
            refine wpAnyH_take (i := 7) (oi := { dst := some 21, op := _, type := _, pos := _, after := _, guard := _ }) (v := ?v5) rfl (by kernel_rfl) (by kernel_rfl) (by kernel_rfl) (fun _ _ _ h => h) (Or.inl ⟨by rfl, ?hy5⟩) (by assumption) ?rest5
            case hy5 => (intro w hSw; go_simp; try with_reducible rfl)
            try simp only [Act.put, List.setIfInBounds_toArray, List.set_cons_zero, List.set_cons_succ]
            refine wpAnyH_ready (rs := [8]) (by kernel_rfl) (by simp) ?_
            refine AllReadyH.cons (o := { dst := some 5, op := _, type := _, pos := _, after := _, guard := _ }) rfl (fun K hK => ?_) AllReadyH.nil
            go_simp
            refine hK.out _ _ (hHeld.bel ((Below.refl _ _).alloc (Nat.le_refl _) _)) (fun hHeld => ?_)
            try simp only [Act.put, List.setIfInBounds_toArray, List.set_cons_zero, List.set_cons_succ]
            clear hK
            obtain ⟨bX, zX, hX⟩ := alloc3 wC 27
            generalize wC.alloc (.cells #[.pointer none, .pointer none, .pointer none] 27) = wX at *
            obtain ⟨FX, hFX⟩ : ∃ FX, wC.heap.size = FX := ⟨_, rfl⟩
            rw [hFX] at hX ⊢
            have zsX := bX.size
            have hXl := ((show Below wX.heap.size wX wX from (Below.refl _ _)).block FX (by omega)).trans hX
            obtain ⟨⟨s0, z0⟩, ⟨s1, z1⟩, ⟨s2, z2⟩, w5, hw5, hS5, kS5, bS5⟩ := store3 hXl RA RB RC
            refine wpAnyH_ready (rs := [9]) (by kernel_rfl) (by simp) ?_
            refine AllReadyH.cons (o := { dst := none, op := _, type := _, pos := _, after := _, guard := _ }) rfl (fun K hK => ?_) AllReadyH.nil
            go_simp
            try rw [hw5]
            refine hK.out _ _ (hHeld.but kS5.2 (by omega)) (fun hHeld => ?_)
            try simp only [Act.put, List.setIfInBounds_toArray, List.set_cons_zero, List.set_cons_succ]
            clear hK s0 z0 s1 z1 s2 z2
            refine wpAnyH_done (by kernel_rfl) ?_ _
            first | refine ⟨(RA, RB, RC, FX), by first | rfl | simp [p3], ?_, ?_⟩ | refine ⟨RA, RB, RC, FX, by first | rfl | simp [p3], ?_, ?_⟩
            · exact leaf3 (X := FX) (a := RA) (b := RB) (c := RC) (fun h => h.kept) hA hB hC (bup (bup bB bC) bX) (bup bC bX) bX gA gB gC hS5 kS5 (by omega) (by omega) (by omega) (by omega) (by omega)
            · exact (bup (bup (bup (bup bd bA) bB) bC) bX).trans (bS5.mono (by omega))
          · go_simp
            refine hK.out _ _ (hHeld.bel ((Below.refl _ _).alloc (Nat.le_refl _) _)) (fun hHeld => ?_)
            try simp only [Act.put, List.setIfInBounds_toArray, List.set_cons_zero, List.set_cons_succ]
            clear hK
            obtain ⟨bX, zX, hX⟩ := alloc3 wB 27
            generalize wB.alloc (.cells #[.pointer none, .pointer none, .pointer none] 27) = wX at *
            obtain ⟨FX, hFX⟩ : ∃ FX, wB.heap.size = FX := ⟨_, rfl⟩
            rw [hFX] at hX ⊢
            have zsX := bX.size
            refine wpAnyH_ready (rs := [6]) (by kernel_rfl) (by simp) ?_
            refine AllReadyH.cons (o := { dst := some 20, op := _, type := _, pos := _, after := _, guard := _ }) rfl (fun K hK => ?_) AllReadyH.nil
            go_simp
            refine (newf0 _).mono ?_
            rintro _ wC ⟨RC, OC, rfl, hC, bC, gC⟩
            have zsC := bC.size
            refine hK.out _ _ (hHeld.bel bC) (fun hHeld => ?_)
            try simp only [Act.put, List.setIfInBounds_toArray, List.set_cons_zero, List.set_cons_succ]
            clear hK
            refine wpAnyH_take (i := 7) (oi := { dst := some 21, op := _, type := _, pos := _, after := _, guard := _ }) (v := ?v6) rfl (by kernel_rfl) (by kernel_rfl) (by kernel_rfl) (fun _ _ _ h => h) (Or.inl ⟨by rfl, ?hy6⟩) (by assumption) ?rest6
            case hy6 => (intro w hSw; go_simp; try with_reducible rfl)
            try simp only [Act.put, List.setIfInBounds_toArray, List.set_cons_zero, List.set_cons_succ]
            have hXl := ((show Below wX.heap.size wX wC from bC).block FX (by omega)).trans hX
            obtain ⟨⟨s0, z0⟩, ⟨s1, z1⟩, ⟨s2, z2⟩, w5, hw5, hS5, kS5, bS5⟩ := store3 hXl RA RB RC
            refine wpAnyH_ready (rs := [9]) (by kernel_rfl) (by simp) ?_
            refine AllReadyH.cons (o := { dst := none, op := _, type := _, pos := _, after := _, guard := _ }) rfl (fun K hK => ?_) AllReadyH.nil
            go_simp
            try rw [hw5]
            refine hK.out _ _ (hHeld.but kS5.2 (by omega)) (fun hHeld => ?_)
            try simp only [Act.put, List.setIfInBounds_toArray, List.set_cons_zero, List.set_cons_succ]
            clear hK s0 z0 s1 z1 s2 z2
            refine wpAnyH_done (by kernel_rfl) ?_ _
            first | refine ⟨(RA, RB, RC, FX), by first | rfl | simp [p3], ?_, ?_⟩ | refine ⟨RA, RB, RC, FX, by first | rfl | simp [p3], ?_, ?_⟩
            · exact leaf3 (X := FX) (a := RA) (b := RB) (c := RC) (fun h => h.kept) hA hB hC (bup (bup bB bX) bC) (bup bX bC) (Below.refl _ _) gA gB gC hS5 kS5 (by omega) (by omega) (by omega) (by omega) (by omega)
            · exact (bup (bup (bup (bup bd bA) bB) bX) bC).trans (bS5.mono (by omega))
        · go_simp
          refine hK.out _ _ (hHeld.bel ((Below.refl _ _).alloc (Nat.le_refl _) _)) (fun hHeld => ?_)
          try simp only [Act.put, List.setIfInBounds_toArray, List.set_cons_zero, List.set_cons_succ]
          clear hK
          obtain ⟨bX, zX, hX⟩ := alloc3 wA 27
          generalize wA.alloc (.cells #[.pointer none, .pointer none, .pointer none] 27) = wX at *
          obtain ⟨FX, hFX⟩ : ∃ FX, wA.heap.size = FX := ⟨_, rfl⟩
          rw [hFX] at hX ⊢
          have zsX := bX.size
          refine wpAnyH_ready (rs := [5]) (by kernel_rfl) (by simp) ?_
          refine AllReadyH.cons (o := { dst := some 19, op := _, type := _, pos := _, after := _, guard := _ }) rfl (fun K hK => ?_) AllReadyH.nil
          go_simp
          refine (newf _ x1).mono ?_
          rintro _ wB ⟨RB, OB, rfl, hB, bB, gB⟩
          have zsB := bB.size
          refine hK.out _ _ (hHeld.bel bB) (fun hHeld => ?_)
          try simp only [Act.put, List.setIfInBounds_toArray, List.set_cons_zero, List.set_cons_succ]
          clear hK
          refine wpAnyH_ready (rs := [6]) (by kernel_rfl) (by simp) ?_
          refine AllReadyH.cons (o := { dst := some 20, op := _, type := _, pos := _, after := _, guard := _ }) rfl (fun K hK => ?_) AllReadyH.nil
          go_simp
          refine (newf0 _).mono ?_
          rintro _ wC ⟨RC, OC, rfl, hC, bC, gC⟩
          have zsC := bC.size
          refine hK.out _ _ (hHeld.bel bC) (fun hHeld => ?_)
          try simp only [Act.put, List.setIfInBounds_toArray, List.set_cons_zero, List.set_cons_succ]
          clear hK
          refine wpAnyH_take (i := 7) (oi := { dst := some 21, op := _, type := _, pos := _, after := _, guard := _ }) (v := ?v7) rfl (by kernel_rfl) (by kernel_rfl) (by kernel_rfl) (fun _ _ _ h => h) (Or.inl ⟨by rfl, ?hy7⟩) (by assumption) ?rest7
          case hy7 => (intro w hSw; go_simp; try with_reducible rfl)
          try simp only [Act.put, List.setIfInBounds_toArray, List.set_cons_zero, List.set_cons_succ]
          have hXl := ((show Below wX.heap.size wX wC from (bup bB bC)).block FX (by omega)).trans hX
          obtain ⟨⟨s0, z0⟩, ⟨s1, z1⟩, ⟨s2, z2⟩, w5, hw5, hS5, kS5, bS5⟩ := store3 hXl RA RB RC
          refine wpAnyH_ready (rs := [9]) (by kernel_rfl) (by simp) ?_
          refine AllReadyH.cons (o := { dst := none, op := _, type := _, pos := _, after := _, guard := _ }) rfl (fun K hK => ?_) AllReadyH.nil
          go_simp
          try rw [hw5]
          refine hK.out _ _ (hHeld.but kS5.2 (by omega)) (fun hHeld => ?_)
          try simp only [Act.put, List.setIfInBounds_toArray, List.set_cons_zero, List.set_cons_succ]
          clear hK s0 z0 s1 z1 s2 z2
          refine wpAnyH_done (by kernel_rfl) ?_ _
          first | refine ⟨(RA, RB, RC, FX), by first | rfl | simp [p3], ?_, ?_⟩ | refine ⟨RA, RB, RC, FX, by first | rfl | simp [p3], ?_, ?_⟩
          · exact leaf3 (X := FX) (a := RA) (b := RB) (c := RC) (fun h => h.kept) hA hB hC (bup (bup bX bB) bC) bC (Below.refl _ _) gA gB gC hS5 kS5 (by omega) (by omega) (by omega) (by omega) (by omega)
          · exact (bup (bup (bup (bup bd bA) bX) bB) bC).trans (bS5.mono (by omega))
      · go_simp
        refine hK.out _ _ (hHeld.bel ((Below.refl _ _).alloc (Nat.le_refl _) _)) (fun hHeld => ?_)
        try simp only [Act.put, List.setIfInBounds_toArray, List.set_cons_zero, List.set_cons_succ]
        clear hK
        obtain ⟨bX, zX, hX⟩ := alloc3 W2 27
        generalize W2.alloc (.cells #[.pointer none, .pointer none, .pointer none] 27) = wX at *
        obtain ⟨FX, hFX⟩ : ∃ FX, W2.heap.size = FX := ⟨_, rfl⟩
        rw [hFX] at hX ⊢
        have zsX := bX.size
        refine wpAnyH_ready (rs := [2]) (by kernel_rfl) (by simp) ?_
        refine AllReadyH.cons (o := { dst := some 16, op := _, type := _, pos := _, after := _, guard := _ }) rfl (fun K hK => ?_) AllReadyH.nil
        go_simp
        refine (newf _ x0).mono ?_
        rintro _ wA ⟨RA, OA, rfl, hA, bA, gA⟩
        have zsA := bA.size
        refine hK.out _ _ (hHeld.bel bA) (fun hHeld => ?_)
        try simp only [Act.put, List.setIfInBounds_toArray, List.set_cons_zero, List.set_cons_succ]
        clear hK
        refine wpAnyH_ready (rs := [5]) (by kernel_rfl) (by simp) ?_
        refine AllReadyH.cons (o := { dst := some 19, op := _, type := _, pos := _, after := _, guard := _ }) rfl (fun K hK => ?_) AllReadyH.nil
        go_simp
        refine (newf _ x1).mono ?_
        rintro _ wB ⟨RB, OB, rfl, hB, bB, gB⟩
        have zsB := bB.size
        refine hK.out _ _ (hHeld.bel bB) (fun hHeld => ?_)
        try simp only [Act.put, List.setIfInBounds_toArray, List.set_cons_zero, List.set_cons_succ]
        clear hK
        refine wpAnyH_ready (rs := [6]) (by kernel_rfl) (by simp) ?_
        refine AllReadyH.cons (o := { dst := some 20, op := _, type := _, pos := _, after := _, guard := _ }) rfl (fun K hK => ?_) AllReadyH.nil
        go_simp
        refine (newf0 _).mono ?_
        rintro _ wC ⟨RC, OC, rfl, hC, bC, gC⟩
        have zsC := bC.size
        refine hK.out _ _ (hHeld.bel bC) (fun hHeld => ?_)
        try simp only [Act.put, List.setIfInBounds_toArray, List.set_cons_zero, List.set_cons_succ]
        clear hK
        refine wpAnyH_take (i := 7) (oi := { dst := some 21, op := _, type := _, pos := _, after := _, guard := _ }) (v := ?v8) rfl (by kernel_rfl) (by kernel_rfl) (by kernel_rfl) (fun _ _ _ h => h) (Or.inl ⟨by rfl, ?hy8⟩) (by assumption) ?rest8
        case hy8 => (intro w hSw; go_simp; try with_reducible rfl)
        try simp only [Act.put, List.setIfInBounds_toArray, List.set_cons_zero, List.set_cons_succ]
        have hXl := ((show Below wX.heap.size wX wC from (bup (bup bA bB) bC)).block FX (by omega)).trans hX
        obtain ⟨⟨s0, z0⟩, ⟨s1, z1⟩, ⟨s2, z2⟩, w5, hw5, hS5, kS5, bS5⟩ := store3 hXl RA RB RC
        refine wpAnyH_ready (rs := [9]) (by kernel_rfl) (by simp) ?_
        refine AllReadyH.cons (o := { dst := none, op := _, type := _, pos := _, after := _, guard := _ }) rfl (fun K hK => ?_) AllReadyH.nil
        go_simp
        try rw [hw5]
        refine hK.out _ _ (hHeld.but kS5.2 (by omega)) (fun hHeld => ?_)
        try simp only [Act.put, List.setIfInBounds_toArray, List.set_cons_zero, List.set_cons_succ]
        clear hK s0 z0 s1 z1 s2 z2
        refine wpAnyH_done (by kernel_rfl) ?_ _
        first | refine ⟨(RA, RB, RC, FX), by first | rfl | simp [p3], ?_, ?_⟩ | refine ⟨RA, RB, RC, FX, by first | rfl | simp [p3], ?_, ?_⟩
        · exact leaf3 (X := FX) (a := RA) (b := RB) (c := RC) (fun h => h.kept) hA hB hC (bup bB bC) bC (Below.refl _ _) gA gB gC hS5 kS5 (by omega) (by omega) (by omega) (by omega) (by omega)
        · exact (bup (bup (bup (bup bd bX) bA) bB) bC).trans (bS5.mono (by omega))
  case restFl =>
    rintro ⟨a, b, c, F⟩ w1 ⟨h1, hb1⟩
    dsimp only at h1 ⊢
    try simp only [Act.put, List.setIfInBounds_toArray, List.set_cons_zero, List.set_cons_succ]
    have SDMl : Kept (Sd2 X x0 x1 w1) := SDFl.out.bel hb1
    have HXW1 : Kept (X < w1.heap.size) := Nat.lt_of_lt_of_le HXW.out hb1.size
    have H1 := keep h1
    have HB1 := keep hb1
    clear h1 hb1 SDFl HXW
    have HXW := HXW1
    clear HXW1
    go_wp2_with fail
    refine code_ex (ι := Nat × Nat × Nat × Nat) (fun a i => (((((((((a.put (some 22) (.pointer (some ⟨X, 0, none⟩))).put (some 23) (.int .u64 (x0 : Int))).put (some 24) (.pointer (some ⟨i.1, 0, none⟩))).put (some 25) (.pointer (some ⟨X, 1, none⟩))).put (some 26) (.int .u64 (x1 : Int))).put (some 27) (.pointer (some ⟨i.2.1, 0, none⟩))).put (some 28) (.pointer (some ⟨i.2.2.1, 0, none⟩))).put (some 29) (.agg #[.pointer (some ⟨i.1, 0, none⟩), .pointer (some ⟨i.2.1, 0, none⟩), .pointer (some ⟨i.2.2.1, 0, none⟩)])).put (some 6) (.pointer (some ⟨i.2.2.2, 0, none⟩)))) (fun i w' => N3 Ml 30 w1.heap.size x0 x1 0 w' i.1 i.2.1 i.2.2.1 i.2.2.2 ∧ Below w1.heap.size w1 w') ?firstMl ?restMl
    case firstMl =>
      as_aux_lemma =>
        refine wp_region_held_drew (S := Sd2 X x0 x1) (by kernel_rfl) (SDMl.out.bel ((Below.refl _ _).drew)) (fun hHeld => ?_)
        refine wpAnyH_take (i := 0) (oi := { dst := some 22, op := _, type := _, pos := _, after := _, guard := _ }) (v := ?v9) rfl (by kernel_rfl) (by kernel_rfl) (by kernel_rfl) (fun _ _ _ h => h) (Or.inl ⟨by rfl, ?hy9⟩) (by assumption) ?rest9
        case hy9 => (intro w hSw; obtain ⟨q0, q1⟩ := hSw; go_simp; try with_reducible rfl)
        try simp only [Act.put, List.setIfInBounds_toArray, List.set_cons_zero, List.set_cons_succ]
        refine wpAnyH_take (i := 1) (oi := { dst := some 23, op := _, type := _, pos := _, after := _, guard := _ }) (v := ?v10) rfl (by kernel_rfl) (by kernel_rfl) (by kernel_rfl) (fun _ _ _ h => h) (Or.inl ⟨by rfl, ?hy10⟩) (by assumption) ?rest10
        case hy10 => (intro w hSw; obtain ⟨q0, q1⟩ := hSw; go_simp; try with_reducible rfl)
        try simp only [Act.put, List.setIfInBounds_toArray, List.set_cons_zero, List.set_cons_succ]
        refine wpAnyH_take (i := 3) (oi := { dst := some 25, op := _, type := _, pos := _, after := _, guard := _ }) (v := ?v11) rfl (by kernel_rfl) (by kernel_rfl) (by kernel_rfl) (fun _ _ _ h => h) (Or.inl ⟨by rfl, ?hy11⟩) (by assumption) ?rest11
        case hy11 => (intro w hSw; obtain ⟨q0, q1⟩ := hSw; go_simp; try with_reducible rfl)
        try simp only [Act.put, List.setIfInBounds_toArray, List.set_cons_zero, List.set_cons_succ]
        refine wpAnyH_take (i := 4) (oi := { dst := some 26, op := _, type := _, pos := _, after := _, guard := _ }) (v := ?v12) rfl (by kernel_rfl) (by kernel_rfl) (by kernel_rfl) (fun _ _ _ h => h) (Or.inl ⟨by rfl, ?hy12⟩) (by assumption) ?rest12
        case hy12 => (intro w hSw; obtain ⟨q0, q1⟩ := hSw; go_simp; try with_reducible rfl)
        try simp only [Act.put, List.setIfInBounds_toArray, List.set_cons_zero, List.set_cons_succ]
        have bd : Below w1.heap.size w1 w1.drew := (Below.refl _ _).drew
        generalize w1.drew = W2 at *
        have zs := bd.size
        have hxw := HXW.out
        refine wpAnyH_ready (rs := [2, 8]) (by kernel_rfl) (by simp) ?_
        refine AllReadyH.cons (o := { dst := some 24, op := _, type := _, pos := _, after := _, guard := _ }) rfl (fun K hK => ?_) (AllReadyH.cons (o := { dst := some 6, op := _, type := _, pos := _, after := _, guard := _ }) rfl (fun K hK => ?_) AllReadyH.nil)
        · go_simp
          refine (newm _ x0).mono ?_
          rintro _ wA ⟨RA, OA, rfl, hA, bA, gA⟩
          have zsA := bA.size
          refine hK.out _ _ (hHeld.bel bA) (fun hHeld => ?_)
          try simp only [Act.put, List.setIfInBounds_toArray, List.set_cons_zero, List.set_cons_succ]
          clear hK
          refine wpAnyH_ready (rs := [5, 8]) (by kernel_rfl) (by simp) ?_
          refine AllReadyH.cons (o := { dst := some 27, op := _, type := _, pos := _, after := _, guard := _ }) rfl (fun K hK => ?_) (AllReadyH.cons (o := { dst := some 6, op := _, type := _, pos := _, after := _, guard := _ }) rfl (fun K hK => ?_) AllReadyH.nil)
          · go_simp
            refine (newm _ x1).mono ?_
            rintro _ wB ⟨RB, OB, rfl, hB, bB, gB⟩
            have zsB := bB.size
            refine hK.out _ _ (hHeld.bel bB) (fun hHeld => ?_)
            try simp only [Act.put, List.setIfInBounds_toArray, List.set_cons_zero, List.set_cons_succ]
            clear hK
            refine wpAnyH_ready (rs := [6, 8]) (by kernel_rfl) (by simp) ?_
            refine AllReadyH.cons (o := { dst := some 28, op := _, type := _, pos := _, after := _, guard := _ }) rfl (fun K hK => ?_) (AllReadyH.cons (o := { dst := some 6, op := _, type := _, pos := _, after := _, guard := _ }) rfl (fun K hK => ?_) AllReadyH.nil)
            · go_simp
              refine (newm0 _).mono ?_
              rintro _ wC ⟨RC, OC, rfl, hC, bC, gC⟩
              have zsC := bC.size
              refine hK.out _ _ (hHeld.bel bC) (fun hHeld => ?_)
              try simp only [Act.put, List.setIfInBounds_toArray, List.set_cons_zero, List.set_cons_succ]
              clear hK
              refine wpAnyH_take (i := 7) (oi := { dst := some 29, op := _, type := _, pos := _, after := _, guard := _ }) (v := ?v13) rfl (by kernel_rfl) (by kernel_rfl) (by kernel_rfl) (fun _ _ _ h => h) (Or.inl ⟨by rfl, ?hy13⟩) (by assumption) ?rest13
              case hy13 => (intro w hSw; go_simp; try with_reducible rfl)
              try simp only [Act.put, List.setIfInBounds_toArray, List.set_cons_zero, List.set_cons_succ]
              refine wpAnyH_ready (rs := [8]) (by kernel_rfl) (by simp) ?_
              refine AllReadyH.cons (o := { dst := some 6, op := _, type := _, pos := _, after := _, guard := _ }) rfl (fun K hK => ?_) AllReadyH.nil
              go_simp
              refine hK.out _ _ (hHeld.bel ((Below.refl _ _).alloc (Nat.le_refl _) _)) (fun hHeld => ?_)
              try simp only [Act.put, List.setIfInBounds_toArray, List.set_cons_zero, List.set_cons_succ]
              clear hK
              obtain ⟨bX, zX, hX⟩ := alloc3 wC 30
              generalize wC.alloc (.cells #[.pointer none, .pointer none, .pointer none] 30) = wX at *
              obtain ⟨FX, hFX⟩ : ∃ FX, wC.heap.size = FX := ⟨_, rfl⟩
              rw [hFX] at hX ⊢
              have zsX := bX.size
              have hXl := ((show Below wX.heap.size wX wX from (Below.refl _ _)).block FX (by omega)).trans hX
              obtain ⟨⟨s0, z0⟩, ⟨s1, z1⟩, ⟨s2, z2⟩, w5, hw5, hS5, kS5, bS5⟩ := store3 hXl RA RB RC
              refine wpAnyH_ready (rs := [9]) (by kernel_rfl) (by simp) ?_
              refine AllReadyH.cons (o := { dst := none, op := _, type := _, pos := _, after := _, guard := _ }) rfl (fun K hK => ?_) AllReadyH.nil
              go_simp
              try rw [hw5]
              refine hK.out _ _ (hHeld.but kS5.2 (by omega)) (fun hHeld => ?_)
              try simp only [Act.put, List.setIfInBounds_toArray, List.set_cons_zero, List.set_cons_succ]
              clear hK s0 z0 s1 z1 s2 z2
              refine wpAnyH_done (by kernel_rfl) ?_ _
              first | refine ⟨(RA, RB, RC, FX), by first | rfl | simp [p3], ?_, ?_⟩ | refine ⟨RA, RB, RC, FX, by first | rfl | simp [p3], ?_, ?_⟩
              · exact leaf3 (X := FX) (a := RA) (b := RB) (c := RC) (fun h => h.kept) hA hB hC (bup (bup bB bC) bX) (bup bC bX) bX gA gB gC hS5 kS5 (by omega) (by omega) (by omega) (by omega) (by omega)
              · exact (bup (bup (bup (bup bd bA) bB) bC) bX).trans (bS5.mono (by omega))
            · go_simp
              refine hK.out _ _ (hHeld.bel ((Below.refl _ _).alloc (Nat.le_refl _) _)) (fun hHeld => ?_)
              try simp only [Act.put, List.setIfInBounds_toArray, List.set_cons_zero, List.set_cons_succ]
              clear hK
              obtain ⟨bX, zX, hX⟩ := alloc3 wB 30
              generalize wB.alloc (.cells #[.pointer none, .pointer none, .pointer none] 30) = wX at *
              obtain ⟨FX, hFX⟩ : ∃ FX, wB.heap.size = FX := ⟨_, rfl⟩
              rw [hFX] at hX ⊢
              have zsX := bX.size
              refine wpAnyH_ready (rs := [6]) (by kernel_rfl) (by simp) ?_
              refine AllReadyH.cons (o := { dst := some 28, op := _, type := _, pos := _, after := _, guard := _ }) rfl (fun K hK => ?_) AllReadyH.nil
              go_simp
              refine (newm0 _).mono ?_
              rintro _ wC ⟨RC, OC, rfl, hC, bC, gC⟩
              have zsC := bC.size
              refine hK.out _ _ (hHeld.bel bC) (fun hHeld => ?_)
              try simp only [Act.put, List.setIfInBounds_toArray, List.set_cons_zero, List.set_cons_succ]
              clear hK
              refine wpAnyH_take (i := 7) (oi := { dst := some 29, op := _, type := _, pos := _, after := _, guard := _ }) (v := ?v14) rfl (by kernel_rfl) (by kernel_rfl) (by kernel_rfl) (fun _ _ _ h => h) (Or.inl ⟨by rfl, ?hy14⟩) (by assumption) ?rest14
              case hy14 => (intro w hSw; go_simp; try with_reducible rfl)
              try simp only [Act.put, List.setIfInBounds_toArray, List.set_cons_zero, List.set_cons_succ]
              have hXl := ((show Below wX.heap.size wX wC from bC).block FX (by omega)).trans hX
              obtain ⟨⟨s0, z0⟩, ⟨s1, z1⟩, ⟨s2, z2⟩, w5, hw5, hS5, kS5, bS5⟩ := store3 hXl RA RB RC
              refine wpAnyH_ready (rs := [9]) (by kernel_rfl) (by simp) ?_
              refine AllReadyH.cons (o := { dst := none, op := _, type := _, pos := _, after := _, guard := _ }) rfl (fun K hK => ?_) AllReadyH.nil
              go_simp
              try rw [hw5]
              refine hK.out _ _ (hHeld.but kS5.2 (by omega)) (fun hHeld => ?_)
              try simp only [Act.put, List.setIfInBounds_toArray, List.set_cons_zero, List.set_cons_succ]
              clear hK s0 z0 s1 z1 s2 z2
              refine wpAnyH_done (by kernel_rfl) ?_ _
              first | refine ⟨(RA, RB, RC, FX), by first | rfl | simp [p3], ?_, ?_⟩ | refine ⟨RA, RB, RC, FX, by first | rfl | simp [p3], ?_, ?_⟩
              · exact leaf3 (X := FX) (a := RA) (b := RB) (c := RC) (fun h => h.kept) hA hB hC (bup (bup bB bX) bC) (bup bX bC) (Below.refl _ _) gA gB gC hS5 kS5 (by omega) (by omega) (by omega) (by omega) (by omega)
              · exact (bup (bup (bup (bup bd bA) bB) bX) bC).trans (bS5.mono (by omega))
          · go_simp
            refine hK.out _ _ (hHeld.bel ((Below.refl _ _).alloc (Nat.le_refl _) _)) (fun hHeld => ?_)
            try simp only [Act.put, List.setIfInBounds_toArray, List.set_cons_zero, List.set_cons_succ]
            clear hK
            obtain ⟨bX, zX, hX⟩ := alloc3 wA 30
            generalize wA.alloc (.cells #[.pointer none, .pointer none, .pointer none] 30) = wX at *
            obtain ⟨FX, hFX⟩ : ∃ FX, wA.heap.size = FX := ⟨_, rfl⟩
            rw [hFX] at hX ⊢
            have zsX := bX.size
            refine wpAnyH_ready (rs := [5]) (by kernel_rfl) (by simp) ?_
            refine AllReadyH.cons (o := { dst := some 27, op := _, type := _, pos := _, after := _, guard := _ }) rfl (fun K hK => ?_) AllReadyH.nil
            go_simp
            refine (newm _ x1).mono ?_
            rintro _ wB ⟨RB, OB, rfl, hB, bB, gB⟩
            have zsB := bB.size
            refine hK.out _ _ (hHeld.bel bB) (fun hHeld => ?_)
            try simp only [Act.put, List.setIfInBounds_toArray, List.set_cons_zero, List.set_cons_succ]
            clear hK
            refine wpAnyH_ready (rs := [6]) (by kernel_rfl) (by simp) ?_
            refine AllReadyH.cons (o := { dst := some 28, op := _, type := _, pos := _, after := _, guard := _ }) rfl (fun K hK => ?_) AllReadyH.nil
            go_simp
            refine (newm0 _).mono ?_
            rintro _ wC ⟨RC, OC, rfl, hC, bC, gC⟩
            have zsC := bC.size
            refine hK.out _ _ (hHeld.bel bC) (fun hHeld => ?_)
            try simp only [Act.put, List.setIfInBounds_toArray, List.set_cons_zero, List.set_cons_succ]
            clear hK
            refine wpAnyH_take (i := 7) (oi := { dst := some 29, op := _, type := _, pos := _, after := _, guard := _ }) (v := ?v15) rfl (by kernel_rfl) (by kernel_rfl) (by kernel_rfl) (fun _ _ _ h => h) (Or.inl ⟨by rfl, ?hy15⟩) (by assumption) ?rest15
            case hy15 => (intro w hSw; go_simp; try with_reducible rfl)
            try simp only [Act.put, List.setIfInBounds_toArray, List.set_cons_zero, List.set_cons_succ]
            have hXl := ((show Below wX.heap.size wX wC from (bup bB bC)).block FX (by omega)).trans hX
            obtain ⟨⟨s0, z0⟩, ⟨s1, z1⟩, ⟨s2, z2⟩, w5, hw5, hS5, kS5, bS5⟩ := store3 hXl RA RB RC
            refine wpAnyH_ready (rs := [9]) (by kernel_rfl) (by simp) ?_
            refine AllReadyH.cons (o := { dst := none, op := _, type := _, pos := _, after := _, guard := _ }) rfl (fun K hK => ?_) AllReadyH.nil
            go_simp
            try rw [hw5]
            refine hK.out _ _ (hHeld.but kS5.2 (by omega)) (fun hHeld => ?_)
            try simp only [Act.put, List.setIfInBounds_toArray, List.set_cons_zero, List.set_cons_succ]
            clear hK s0 z0 s1 z1 s2 z2
            refine wpAnyH_done (by kernel_rfl) ?_ _
            first | refine ⟨(RA, RB, RC, FX), by first | rfl | simp [p3], ?_, ?_⟩ | refine ⟨RA, RB, RC, FX, by first | rfl | simp [p3], ?_, ?_⟩
            · exact leaf3 (X := FX) (a := RA) (b := RB) (c := RC) (fun h => h.kept) hA hB hC (bup (bup bX bB) bC) bC (Below.refl _ _) gA gB gC hS5 kS5 (by omega) (by omega) (by omega) (by omega) (by omega)
            · exact (bup (bup (bup (bup bd bA) bX) bB) bC).trans (bS5.mono (by omega))
        · go_simp
          refine hK.out _ _ (hHeld.bel ((Below.refl _ _).alloc (Nat.le_refl _) _)) (fun hHeld => ?_)
          try simp only [Act.put, List.setIfInBounds_toArray, List.set_cons_zero, List.set_cons_succ]
          clear hK
          obtain ⟨bX, zX, hX⟩ := alloc3 W2 30
          generalize W2.alloc (.cells #[.pointer none, .pointer none, .pointer none] 30) = wX at *
          obtain ⟨FX, hFX⟩ : ∃ FX, W2.heap.size = FX := ⟨_, rfl⟩
          rw [hFX] at hX ⊢
          have zsX := bX.size
          refine wpAnyH_ready (rs := [2]) (by kernel_rfl) (by simp) ?_
          refine AllReadyH.cons (o := { dst := some 24, op := _, type := _, pos := _, after := _, guard := _ }) rfl (fun K hK => ?_) AllReadyH.nil
          go_simp
          refine (newm _ x0).mono ?_
          rintro _ wA ⟨RA, OA, rfl, hA, bA, gA⟩
          have zsA := bA.size
          refine hK.out _ _ (hHeld.bel bA) (fun hHeld => ?_)
          try simp only [Act.put, List.setIfInBounds_toArray, List.set_cons_zero, List.set_cons_succ]
          clear hK
          refine wpAnyH_ready (rs := [5]) (by kernel_rfl) (by simp) ?_
          refine AllReadyH.cons (o := { dst := some 27, op := _, type := _, pos := _, after := _, guard := _ }) rfl (fun K hK => ?_) AllReadyH.nil
          go_simp
          refine (newm _ x1).mono ?_
          rintro _ wB ⟨RB, OB, rfl, hB, bB, gB⟩
          have zsB := bB.size
          refine hK.out _ _ (hHeld.bel bB) (fun hHeld => ?_)
          try simp only [Act.put, List.setIfInBounds_toArray, List.set_cons_zero, List.set_cons_succ]
          clear hK
          refine wpAnyH_ready (rs := [6]) (by kernel_rfl) (by simp) ?_
          refine AllReadyH.cons (o := { dst := some 28, op := _, type := _, pos := _, after := _, guard := _ }) rfl (fun K hK => ?_) AllReadyH.nil
          go_simp
          refine (newm0 _).mono ?_
          rintro _ wC ⟨RC, OC, rfl, hC, bC, gC⟩
          have zsC := bC.size
          refine hK.out _ _ (hHeld.bel bC) (fun hHeld => ?_)
          try simp only [Act.put, List.setIfInBounds_toArray, List.set_cons_zero, List.set_cons_succ]
          clear hK
          refine wpAnyH_take (i := 7) (oi := { dst := some 29, op := _, type := _, pos := _, after := _, guard := _ }) (v := ?v16) rfl (by kernel_rfl) (by kernel_rfl) (by kernel_rfl) (fun _ _ _ h => h) (Or.inl ⟨by rfl, ?hy16⟩) (by assumption) ?rest16
          case hy16 => (intro w hSw; go_simp; try with_reducible rfl)
          try simp only [Act.put, List.setIfInBounds_toArray, List.set_cons_zero, List.set_cons_succ]
          have hXl := ((show Below wX.heap.size wX wC from (bup (bup bA bB) bC)).block FX (by omega)).trans hX
          obtain ⟨⟨s0, z0⟩, ⟨s1, z1⟩, ⟨s2, z2⟩, w5, hw5, hS5, kS5, bS5⟩ := store3 hXl RA RB RC
          refine wpAnyH_ready (rs := [9]) (by kernel_rfl) (by simp) ?_
          refine AllReadyH.cons (o := { dst := none, op := _, type := _, pos := _, after := _, guard := _ }) rfl (fun K hK => ?_) AllReadyH.nil
          go_simp
          try rw [hw5]
          refine hK.out _ _ (hHeld.but kS5.2 (by omega)) (fun hHeld => ?_)
          try simp only [Act.put, List.setIfInBounds_toArray, List.set_cons_zero, List.set_cons_succ]
          clear hK s0 z0 s1 z1 s2 z2
          refine wpAnyH_done (by kernel_rfl) ?_ _
          first | refine ⟨(RA, RB, RC, FX), by first | rfl | simp [p3], ?_, ?_⟩ | refine ⟨RA, RB, RC, FX, by first | rfl | simp [p3], ?_, ?_⟩
          · exact leaf3 (X := FX) (a := RA) (b := RB) (c := RC) (fun h => h.kept) hA hB hC (bup bB bC) bC (Below.refl _ _) gA gB gC hS5 kS5 (by omega) (by omega) (by omega) (by omega) (by omega)
          · exact (bup (bup (bup (bup bd bX) bA) bB) bC).trans (bS5.mono (by omega))
    case restMl =>
      rintro ⟨a2, b2, c2, G⟩ w2 ⟨h2, hb2⟩
      dsimp only at h2 ⊢
      try simp only [Act.put, List.setIfInBounds_toArray, List.set_cons_zero, List.set_cons_succ]
      obtain ⟨I, NM, hNM, e0, e1, e2, hT⟩ := tri_start HB1.out H1.out hb2 h2 HX0.out HX1.out
      have cF0 := hT.cf (i := 0) (by omega)
      have cF1 := hT.cf (i := 1) (by omega)
      have cF2 := hT.cf (i := 2) (by omega)
      rw [e0] at cF0
      rw [e1] at cF1
      rw [e2] at cF2
      have L0 : Kept (∃ I, Tri W1 w2 F G I (1048576 + 60 * 0)) := ⟨I, hT.below (Below.refl _ _) (by omega)⟩
      clear e0 e1 e2 hT hNM h2 hb2 H1 HB1 SDMl HXW
      go_wp2
      go_loopg [45] n (fun kx s45 wr => ∃ j : Nat, s45 = .int .i64 j ∧ j ≤ n ∧ n - j ≤ kx ∧ Kept (∃ I, Tri W1 wr F G I (1048576 + 60 * j)))
      case atStart => exact ⟨0, rfl, Nat.zero_le _, by omega, L0⟩
      case round =>
        clear L0 cF0 cF1 cF2
        obtain ⟨j, rfl, hj, hg, KL⟩ := hrel
        obtain ⟨I, hT⟩ := KL.out
        by_cases hlt : j < n
        · have hltz : (j : Int) < (n : Int) := by omega
          have hj0 : (0 : Int) ≤ (j : Int) := by omega
          have hwj : IntKind.i64.wrap ((j : Int) + 1) = (j : Int) + 1 := by rw [IntKind.wrap_i64]; have := HN.out; omega
          have hjS : j < S.length := by rw [HL.out]; exact hlt
          obtain ⟨ad, rfl, hab, hsz, ⟨hnn, hwf⟩, hst0⟩ := HS.out j hjS
          have hfs := HF.out j hjS
          have hst := hst0.bel (B1.out.trans (hT.bel.mono B1.out.size)) (by rw [add_block]; exact hab)
          obtain ⟨o, ho⟩ : ∃ o, S[j]'hjS = o := ⟨_, rfl⟩
          rw [ho] at hst hfs hnn
          clear hwf
          clear ho hst0 hsz hab hjS
          obtain ⟨who, op, f, big, nn, cnt⟩ := o
          obtain ⟨t0, t1, t2, t3, t4, t5⟩ := hst
          dsimp only at t0 t1 t2 t3 t4 t5 hfs hnn
          obtain ⟨Y, hY⟩ : ∃ Y, wr.heap.size = Y := ⟨_, rfl⟩
          obtain ⟨WX, hWX⟩ : ∃ WX, wr.alloc (.cells #[.int .i64 who, .int .i64 op, .string f, .int .i64 big, .int .u64 (nn : Int), .int .i64 cnt] 32) = WX := ⟨_, rfl⟩
          have hbx : Below wr.heap.size wr WX := by rw [← hWX]; exact (Below.refl _ _).alloc (Nat.le_refl _) _
          have g1 : WX.heap[Y]? = some (.cells #[.int .i64 who, .int .i64 op, .string f, .int .i64 big, .int .u64 (nn : Int), .int .i64 cnt] 32 (0, 0)) := by rw [← hWX, ← hY]; exact heap_alloc_new _ _
          have HT := keep (hT.below hbx (Nat.le_refl _))
          have HG1 := keep g1
          have HYT : Kept (Y < WX.heap.size ∧ Y ≠ F ∧ Y ≠ G) := ⟨(Array.getElem?_eq_some_iff.1 g1).1, by have := hT.lt; omega, by have := hT.lt; omega⟩
          have HYO : Kept (∀ i, i < 3 → ¬ (I i).O Y) := fun i hi e => by have := ((hT.it i hi).1 : Pf _ _ _ _ _ _ _ _ _).lt e; omega
          obtain ⟨c0, c1, c2, c3, c4, c5⟩ := sixc g1
          have HFS := keep hfs
          have HNN := keep hnn
          have HLT := keep hlt
          clear hT hbx g1 hfs hnn hlt KL
          by_cases h11 : op = 11
          · as_aux_lemma =>
              subst h11
              by_cases hw1 : who = 1
              · subst hw1
                obtain ⟨itL, itN, itS, itO⟩ := HT.out.it 1 (by omega)
                obtain ⟨r, b, q, bb, v, KV, hr, hf, ha, hO⟩ := itL.ex
                obtain ⟨rf1, rf2⟩ := row_few hr hf
                have MC := keep (fcopy_any itS hr (by have := HN.out; have := HLT.out; omega) (fun L hs => srs_row hf hs) hf.2.1 rf1 rf2)
                have cF := HT.out.cf (i := 1) (by omega)
                have HRF := keep hf
                have HSD := keep itS
                have HFW := keep rf1
                have HFW2 := keep rf2
                have HRI := keep hf.2.1
                have HO : Kept (∀ k, rf q (I 1).R2 v k ≠ (0, 0) → k ≠ F) := fun k hk => (itO k (by rw [hO]; exact .inr hk)).2.1
                generalize (I 1).seed = sd at *
                generalize hRR : (I 1).R = RR at *
                generalize (I 1).l = l at *
                generalize (I 1).s = ss at *
                clear itL itN itS itO hr hf ha hO rf1 rf2
                go_wp2_with fail
                refine MC.out.mono ?_
                rintro _ w3 ⟨R', r', b', rfl, hb3, hr3, hn3⟩
                have HT3 := HT.out.below hb3 (Nat.le_refl _)
                have f3 := HT3.f
                have d0 := HT3.cf (i := 2) (by omega)
                have d1 : w3.frozen? ⟨F, 2, none⟩ = false := by simp [World.frozen?, f3]
                obtain ⟨w4, hw4⟩ : ∃ w4, w3.setCell ⟨F, 2, none⟩ (.pointer (some ⟨R', 0, none⟩)) = w4 := ⟨_, rfl⟩
                have k4 : ∀ k, k ≠ F → w4.heap[k]? = w3.heap[k]? := fun k hk => by rw [← hw4]; exact Below.heap_setCell _ _ _ _ hk
                have s4 : w4.heap.size = w3.heap.size := by rw [← hw4]; simp
                have hfg : G ≠ F := fun e => HT3.new.2.2 e.symm
                have d2 : w4.cell? ⟨G, 1, none⟩ = some (.pointer (some ⟨(I 1).R2, 0, none⟩)) := by rw [← HT3.cg (i := 1) (by omega)]; simp only [World.cell?, k4 G hfg]
                have hf4 := (HRF.out.below hb3).kept (w' := w4) (by omega) (fun k hk hne => k4 k (HO.out k hne))
                have MR := keep (rfcopy_any (rhs_is sd HSD.out) hf4.1 HRI.out HFW.out HFW2.out)
                have K4 := keep k4
                have HW4 := keep hw4
                have HB3 := keep hb3
                have HR3 := keep hr3
                have HN3 := keep hn3
                have HT3' := keep HT3
                have S4 := keep s4
                generalize (I 1).R2 = RR2 at *
                clear c0 c1 c2 c3 c4 c5 cF hb3 hr3 hn3 HT3 f3 k4 s4 hf4 MC HRF HO
                go_wp2_with fail
                refine MR.out.mono ?_
                rintro _ w5 ⟨R2', q', bb', v', KV', rfl, hb5, hf5, hm5⟩
                have g4 : w4.heap[G]? = some (.cells (p3 (I 0).R2 (I 1).R2 (I 2).R2) 30 (0, 0)) := (K4.out G hfg).trans HT3'.out.g
                have g5 := (hb5.block G (by have := HT3'.out.lt; have := S4.out; omega)).trans g4
                have e0 : w5.cell? ⟨G, 2, none⟩ = some (.pointer (some ⟨(I 2).R2, 0, none⟩)) := by simp [World.cell?, g5, p3]
                have e1 : w5.frozen? ⟨G, 2, none⟩ = false := by simp [World.frozen?, g5]
                obtain ⟨w6, hw6⟩ : ∃ w6, w5.setCell ⟨G, 2, none⟩ (.pointer (some ⟨R2', 0, none⟩)) = w6 := ⟨_, rfl⟩
                obtain ⟨O6, HT6⟩ := Tri.third HT.out HB3.out HR3.out HN3.out HW4.out.symm hb5 hf5 hm5 hw6.symm HSD.out (NM' := 1048576 + 60 * (j + 1)) (by omega) (by have := HFW.out; omega)
                have e2 : w6.cell? ⟨F, 2, none⟩ = some (.pointer (some ⟨R', 0, none⟩)) := HT6.cf (i := 2) (by omega)
                have L6 : Kept (∃ I, Tri W1 w6 F G I (1048576 + 60 * (j + 1))) := ⟨_, HT6⟩
                clear hb5 hf5 hm5 g4 g5 HT6 MR HB3 HR3 HN3 HT3' K4 S4 d0 d1 d2 HW4
                go_wp2
                go_roundg (n - (j + 1))
                case measure => omega
                case rel => exact ⟨j + 1, by simp, by have := HLT.out; omega, Nat.le_refl _, L6⟩
              · have hw1b : (who == 1) = false := beq_eq_false_iff_ne.2 hw1
                obtain ⟨itL, itN, itS, itO⟩ := HT.out.it 0 (by omega)
                obtain ⟨r, b, q, bb, v, KV, hr, hf, ha, hO⟩ := itL.ex
                obtain ⟨rf1, rf2⟩ := row_few hr hf
                have MC := keep (fcopy_any itS hr (by have := HN.out; have := HLT.out; omega) (fun L hs => srs_row hf hs) hf.2.1 rf1 rf2)
                have cF := HT.out.cf (i := 0) (by omega)
                have HRF := keep hf
                have HSD := keep itS
                have HFW := keep rf1
                have HFW2 := keep rf2
                have HRI := keep hf.2.1
                have HO : Kept (∀ k, rf q (I 0).R2 v k ≠ (0, 0) → k ≠ F) := fun k hk => (itO k (by rw [hO]; exact .inr hk)).2.1
                generalize (I 0).seed = sd at *
                generalize hRR : (I 0).R = RR at *
                generalize (I 0).l = l at *
                generalize (I 0).s = ss at *
                clear itL itN itS itO hr hf ha hO rf1 rf2
                go_wp2_with fail
                refine MC.out.mono ?_
                rintro _ w3 ⟨R', r', b', rfl, hb3, hr3, hn3⟩
                have HT3 := HT.out.below hb3 (Nat.le_refl _)
                have f3 := HT3.f
                have d0 := HT3.cf (i := 2) (by omega)
                have d1 : w3.frozen? ⟨F, 2, none⟩ = false := by simp [World.frozen?, f3]
                obtain ⟨w4, hw4⟩ : ∃ w4, w3.setCell ⟨F, 2, none⟩ (.pointer (some ⟨R', 0, none⟩)) = w4 := ⟨_, rfl⟩
                have k4 : ∀ k, k ≠ F → w4.heap[k]? = w3.heap[k]? := fun k hk => by rw [← hw4]; exact Below.heap_setCell _ _ _ _ hk
                have s4 : w4.heap.size = w3.heap.size := by rw [← hw4]; simp
                have hfg : G ≠ F := fun e => HT3.new.2.2 e.symm
                have d2 : w4.cell? ⟨G, 0, none⟩ = some (.pointer (some ⟨(I 0).R2, 0, none⟩)) := by rw [← HT3.cg (i := 0) (by omega)]; simp only [World.cell?, k4 G hfg]
                have hf4 := (HRF.out.below hb3).kept (w' := w4) (by omega) (fun k hk hne => k4 k (HO.out k hne))
                have MR := keep (rfcopy_any (rhs_is sd HSD.out) hf4.1 HRI.out HFW.out HFW2.out)
                have K4 := keep k4
                have HW4 := keep hw4
                have HB3 := keep hb3
                have HR3 := keep hr3
                have HN3 := keep hn3
                have HT3' := keep HT3
                have S4 := keep s4
                generalize (I 0).R2 = RR2 at *
                clear c0 c1 c2 c3 c4 c5 cF hb3 hr3 hn3 HT3 f3 k4 s4 hf4 MC HRF HO
                go_wp2_with fail
                refine MR.out.mono ?_
                rintro _ w5 ⟨R2', q', bb', v', KV', rfl, hb5, hf5, hm5⟩
                have g4 : w4.heap[G]? = some (.cells (p3 (I 0).R2 (I 1).R2 (I 2).R2) 30 (0, 0)) := (K4.out G hfg).trans HT3'.out.g
                have g5 := (hb5.block G (by have := HT3'.out.lt; have := S4.out; omega)).trans g4
                have e0 : w5.cell? ⟨G, 2, none⟩ = some (.pointer (some ⟨(I 2).R2, 0, none⟩)) := by simp [World.cell?, g5, p3]
                have e1 : w5.frozen? ⟨G, 2, none⟩ = false := by simp [World.frozen?, g5]
                obtain ⟨w6, hw6⟩ : ∃ w6, w5.setCell ⟨G, 2, none⟩ (.pointer (some ⟨R2', 0, none⟩)) = w6 := ⟨_, rfl⟩
                obtain ⟨O6, HT6⟩ := Tri.third HT.out HB3.out HR3.out HN3.out HW4.out.symm hb5 hf5 hm5 hw6.symm HSD.out (NM' := 1048576 + 60 * (j + 1)) (by omega) (by have := HFW.out; omega)
                have e2 : w6.cell? ⟨F, 2, none⟩ = some (.pointer (some ⟨R', 0, none⟩)) := HT6.cf (i := 2) (by omega)
                have L6 : Kept (∃ I, Tri W1 w6 F G I (1048576 + 60 * (j + 1))) := ⟨_, HT6⟩
                clear hb5 hf5 hm5 g4 g5 HT6 MR HB3 HR3 HN3 HT3' K4 S4 d0 d1 d2 HW4
                go_wp2
                go_roundg (n - (j + 1))
                case measure => omega
                case rel => exact ⟨j + 1, by simp, by have := HLT.out; omega, Nat.le_refl _, L6⟩
          · have h11b : (op == 11) = false := beq_eq_false_iff_ne.2 h11
            by_cases hw : 0 ≤ who ∧ who < 3
            · as_aux_lemma =>
                obtain ⟨i, rfl⟩ : ∃ i : Nat, who = (i : Int) := ⟨who.toNat, by omega⟩
                have hi3 : i < 3 := by omega
                have hi0z : (0 : Int) ≤ (i : Int) := by omega
                have hi3z : (i : Int) < 3 := by omega
                obtain ⟨itL, itN, itS, itO⟩ := HT.out.it i hi3
                have MP := keep (fun (wz : World) (hb : Below WX.heap.size WX wz) => plays_any (i : Int) op f big nn cnt HFS.out HNN.out (Pf.below itL hb) itS (by have := HN.out; have := HLT.out; omega))
                have cF := HT.out.cf hi3
                have cG := HT.out.cg hi3
                have HI3 := keep hi3
                have HIN := keep itN
                clear itL itN itS itO hw
                go_wp2_with fail
                refine wp_region_held_drew (S := fun Wd => (Wd.cell? ⟨F, i, none⟩ = some (.pointer (some ⟨(I i).R, 0, none⟩)) ∧ Wd.cell? ⟨G, i, none⟩ = some (.pointer (some ⟨(I i).R2, 0, none⟩))) ∧ Wd.cell? ⟨Y, 0, none⟩ = some (.int .i64 (i : Int)) ∧ Wd.cell? ⟨Y, 1, none⟩ = some (.int .i64 op) ∧ Wd.cell? ⟨Y, 2, none⟩ = some (.string f) ∧ Wd.cell? ⟨Y, 3, none⟩ = some (.int .i64 big) ∧ Wd.cell? ⟨Y, 4, none⟩ = some (.int .u64 (nn : Int)) ∧ Wd.cell? ⟨Y, 5, none⟩ = some (.int .i64 cnt)) (by kernel_rfl) ⟨⟨(by simpa using cF), (by simpa using cG)⟩, (by simpa using c0), (by simpa using c1), (by simpa using c2), (by simpa using c3), (by simpa using c4), (by simpa using c5)⟩ (fun hHeld => ?_)
                clear c0 c1 c2 c3 c4 c5 cF cG
                refine wpAnyH_take (i := 0) (oi := { dst := some 76, op := _, type := _, pos := _, after := _, guard := _ }) (v := ?v17) rfl (by kernel_rfl) (by kernel_rfl) (by kernel_rfl) (fun _ _ _ h => h) (Or.inl ⟨by rfl, ?hy17⟩) (by assumption) ?rest17
                case hy17 => (intro w hSw; obtain ⟨⟨q1,q2⟩,q3,q4,q5,q6,q7,q8⟩ := hSw; go_simp; try with_reducible rfl)
                try simp only [Act.put, List.setIfInBounds_toArray, List.set_cons_zero, List.set_cons_succ]
                refine wpAnyH_take (i := 1) (oi := { dst := some 77, op := _, type := _, pos := _, after := _, guard := _ }) (v := ?v18) rfl (by kernel_rfl) (by kernel_rfl) (by kernel_rfl) (fun _ _ _ h => h) (Or.inl ⟨by rfl, ?hy18⟩) (by assumption) ?rest18
                case hy18 => (intro w hSw; obtain ⟨⟨q1,q2⟩,q3,q4,q5,q6,q7,q8⟩ := hSw; go_simp; try with_reducible rfl)
                try simp only [Act.put, List.setIfInBounds_toArray, List.set_cons_zero, List.set_cons_succ]
                refine wpAnyH_take (i := 2) (oi := { dst := some 78, op := _, type := _, pos := _, after := _, guard := _ }) (v := (.pointer (some ⟨F, i, none⟩))) rfl (by kernel_rfl) (by kernel_rfl) (by kernel_rfl) (fun _ _ _ h => h) (Or.inl ⟨by rfl, ?hy19⟩) (by assumption) ?rest19
                case hy19 => (intro w hSw; obtain ⟨⟨q1,q2⟩,q3,q4,q5,q6,q7,q8⟩ := hSw; first | (go_simp; done) | (go_simp; simp [*]; done) | (simp [*]; go_simp; done))
                try simp only [Act.put, List.setIfInBounds_toArray, List.set_cons_zero, List.set_cons_succ]
                refine wpAnyH_take (i := 3) (oi := { dst := some 79, op := _, type := _, pos := _, after := _, guard := _ }) (v := ?v20) rfl (by kernel_rfl) (by kernel_rfl) (by kernel_rfl) (fun _ _ _ h => h) (Or.inl ⟨by rfl, ?hy20⟩) (by assumption) ?rest20
                case hy20 => (intro w hSw; obtain ⟨⟨q1,q2⟩,q3,q4,q5,q6,q7,q8⟩ := hSw; go_simp; try with_reducible rfl)
                try simp only [Act.put, List.setIfInBounds_toArray, List.set_cons_zero, List.set_cons_succ]
                refine wpAnyH_take (i := 4) (oi := { dst := some 80, op := _, type := _, pos := _, after := _, guard := _ }) (v := ?v21) rfl (by kernel_rfl) (by kernel_rfl) (by kernel_rfl) (fun _ _ _ h => h) (Or.inl ⟨by rfl, ?hy21⟩) (by assumption) ?rest21
                case hy21 => (intro w hSw; obtain ⟨⟨q1,q2⟩,q3,q4,q5,q6,q7,q8⟩ := hSw; go_simp; try with_reducible rfl)
                try simp only [Act.put, List.setIfInBounds_toArray, List.set_cons_zero, List.set_cons_succ]
                refine wpAnyH_take (i := 5) (oi := { dst := some 81, op := _, type := _, pos := _, after := _, guard := _ }) (v := ?v22) rfl (by kernel_rfl) (by kernel_rfl) (by kernel_rfl) (fun _ _ _ h => h) (Or.inl ⟨by rfl, ?hy22⟩) (by assumption) ?rest22
                case hy22 => (intro w hSw; obtain ⟨⟨q1,q2⟩,q3,q4,q5,q6,q7,q8⟩ := hSw; go_simp; try with_reducible rfl)
                try simp only [Act.put, List.setIfInBounds_toArray, List.set_cons_zero, List.set_cons_succ]
                refine wpAnyH_take (i := 6) (oi := { dst := some 82, op := _, type := _, pos := _, after := _, guard := _ }) (v := (.pointer (some ⟨G, i, none⟩))) rfl (by kernel_rfl) (by kernel_rfl) (by kernel_rfl) (fun _ _ _ h => h) (Or.inl ⟨by rfl, ?hy23⟩) (by assumption) ?rest23
                case hy23 => (intro w hSw; obtain ⟨⟨q1,q2⟩,q3,q4,q5,q6,q7,q8⟩ := hSw; first | (go_simp; done) | (go_simp; simp [*]; done) | (simp [*]; go_simp; done))
                try simp only [Act.put, List.setIfInBounds_toArray, List.set_cons_zero, List.set_cons_succ]
                refine wpAnyH_take (i := 7) (oi := { dst := some 83, op := _, type := _, pos := _, after := _, guard := _ }) (v := ?v24) rfl (by kernel_rfl) (by kernel_rfl) (by kernel_rfl) (fun _ _ _ h => h) (Or.inl ⟨by rfl, ?hy24⟩) (by assumption) ?rest24
                case hy24 => (intro w hSw; obtain ⟨⟨q1,q2⟩,q3,q4,q5,q6,q7,q8⟩ := hSw; go_simp; try with_reducible rfl)
                try simp only [Act.put, List.setIfInBounds_toArray, List.set_cons_zero, List.set_cons_succ]
                refine wpAnyH_take (i := 8) (oi := { dst := some 84, op := _, type := _, pos := _, after := _, guard := _ }) (v := (.agg #[.int .i64 (i : Int), .int .i64 op, .string f, .int .i64 big, .int .u64 (nn : Int), .int .i64 cnt])) rfl (by kernel_rfl) (by kernel_rfl) (by kernel_rfl) (fun _ _ _ h => h) (Or.inl ⟨by rfl, ?hy25⟩) (by assumption) ?rest25
                case hy25 => (intro w hSw; obtain ⟨⟨q1,q2⟩,q3,q4,q5,q6,q7,q8⟩ := hSw; first | (go_simp; done) | (go_simp; simp [*]; done) | (simp [*]; go_simp; done))
                try simp only [Act.put, List.setIfInBounds_toArray, List.set_cons_zero, List.set_cons_succ]
                have bd : Below WX.heap.size WX WX.drew := (Below.refl _ _).drew
                have MQ := keep (MP.out WX.drew bd)
                refine wpAnyH_ready (rs := [9]) (by kernel_rfl) (by simp) ?_
                refine AllReadyH.cons (o := { dst := some 85, op := _, type := _, pos := _, after := _, guard := _ }) rfl (fun K hK => ?_) AllReadyH.nil
                go_simp
                refine MQ.out.mono ?_
                rintro _ w3 ⟨rfl, O3, l3, s3, hp3, hF3⟩
                have HT3 := (HT.out.below bd (Nat.le_refl _)).step HI3.out hp3 hF3 (NM' := 1048576 + 60 * (j + 1)) (by omega) (by have := HIN.out; omega)
                obtain ⟨⟨q1, q2⟩, q3, q4, q5, q6, q7, q8⟩ := hHeld
                have itO := (HT.out.it i HI3.out).2.2.2
                have kF : w3.heap[F]? = WX.drew.heap[F]? := (hF3.2.2 F (by have := HT.out.lt; have := bd.size; omega) (fun e => (itO F e).2.1 rfl)).1
                have kG : w3.heap[G]? = WX.drew.heap[G]? := (hF3.2.2 G (by have := HT.out.lt; have := bd.size; omega) (fun e => (itO G e).2.2 rfl)).1
                have kY : w3.heap[Y]? = WX.drew.heap[Y]? := (hF3.2.2 Y (by have := HYT.out; have := bd.size; omega) (HYO.out i HI3.out)).1
                refine hK.out _ _ ⟨⟨(cell_blk kF).trans q1, (cell_blk kG).trans q2⟩, (cell_blk kY).trans q3, (cell_blk kY).trans q4, (cell_blk kY).trans q5, (cell_blk kY).trans q6, (cell_blk kY).trans q7, (cell_blk kY).trans q8⟩ (fun hHeld => ?_)
                try simp only [Act.put, List.setIfInBounds_toArray, List.set_cons_zero, List.set_cons_succ]
                have L3 : Kept (∃ I, Tri W1 w3 F G I (1048576 + 60 * (j + 1))) := ⟨_, HT3⟩
                clear hK hp3 hF3 HT3 q1 q2 q3 q4 q5 q6 q7 q8 itO kF kG kY MP MQ bd
                refine wpAnyH_take (i := 10) (oi := { dst := some 86, op := _, type := _, pos := _, after := _, guard := _ }) (v := (.bool false)) rfl (by kernel_rfl) (by kernel_rfl) (by kernel_rfl) (fun _ _ _ h => h) (Or.inl ⟨by rfl, ?hy26⟩) (by assumption) ?rest26
                case hy26 => (intro w hSw; first | (go_simp; done) | (go_simp; simp [*]; done) | (simp [*]; go_simp; done))
                try simp only [Act.put, List.setIfInBounds_toArray, List.set_cons_zero, List.set_cons_succ]
                refine wpAnyH_done (by kernel_rfl) ?_ _
                clear hHeld
                go_wp2
                go_roundg (n - (j + 1))
                case measure => omega
                case rel => exact ⟨j + 1, by simp, by have := HLT.out; omega, Nat.le_refl _, L3⟩
            · as_aux_lemma =>
                have hwa : decide ((0 : Int) ≤ who) = true → decide (who < 3) = false := fun h => decide_eq_false (fun h2 => hw ⟨of_decide_eq_true h, h2⟩)
                have MP := keep (fun wz => plays_nil who op f big nn cnt HFS.out wz)
                have SY : Kept (∀ wz : World, Below WX.heap.size WX wz → wz.cell? ⟨Y, 0, none⟩ = some (.int .i64 who) ∧ wz.cell? ⟨Y, 1, none⟩ = some (.int .i64 op) ∧ wz.cell? ⟨Y, 2, none⟩ = some (.string f) ∧ wz.cell? ⟨Y, 3, none⟩ = some (.int .i64 big) ∧ wz.cell? ⟨Y, 4, none⟩ = some (.int .u64 (nn : Int)) ∧ wz.cell? ⟨Y, 5, none⟩ = some (.int .i64 cnt)) := fun wz hz => sixc ((hz.block Y HYT.out.1).trans HG1.out)
                have fin : Kept (∀ wz : World, Below WX.heap.size WX wz → ∃ I, Tri W1 wz F G I (1048576 + 60 * (j + 1))) := fun wz hz => ⟨I, HT.out.below hz (by omega)⟩
                have tail : Kept True := trivial
                rcases (show who < 0 ∨ (0 ≤ who ∧ ¬ who < 3) by omega) with hn0 | ⟨hn0, hn3⟩
                all_goals
                  go_wp2_with fail
                  refine (fcopy_nil WX).mono ?_
                  rintro _ w3 ⟨R', r', b', rfl, hb3, hr3, hn3'⟩
                  have HB3 := keep hb3
                  have HR3 := keep hr3
                  obtain ⟨e0, e1, e2, e3, e4, e5⟩ := SY.out w3 hb3
                  clear hb3 hr3 hn3' c0 c1 c2 c3 c4 c5
                  go_wp2_with fail
                  refine (MP.out w3).mono ?_
                  rintro _ w4 ⟨rfl, hb4⟩
                  have HB4 := keep hb4
                  clear hb4 e0 e1 e2 e3 e4 e5
                  go_wp2_with fail
                  refine (rfcopy_nil (hs 0) w4).mono ?_
                  rintro _ w5 ⟨R2', q', bb', v', KV', rfl, hb5, hf5, hm5⟩
                  have hp : Pf (hs 0) 0 w5 (Own r' R' q' R2' v') R' R2' 0 [] (copyS (hs 0) []) := ⟨r', b', q', bb', v', KV', HR3.out.below (bup HB4.out hb5), hf5, fun k => by
                    by_cases e : rr r' R' k = (0, 0)
                    · exact .inl e
                    · refine .inr (Classical.byContradiction fun e' => ?_)
                      have := HR3.out.role_lt e
                      have := hm5 k e'
                      have := HB4.out.size
                      omega, rfl⟩
                  have MS := keep (stands_any hp (by omega))
                  have HB5 := keep hb5
                  clear hp hb5 hf5 hm5
                  go_wp2_with fail
                  refine MS.out.mono ?_
                  rintro _ w6 ⟨rfl, hb6⟩
                  have L6 : Kept (∃ I, Tri W1 w6 F G I (1048576 + 60 * (j + 1))) := fin.out w6 (bup HB3.out (bup HB4.out (bup HB5.out hb6)))
                  clear MS hb6
                  go_wp2
                  go_roundg (n - (j + 1))
                  case measure => omega
                  case rel => exact ⟨j + 1, by simp, by have := HLT.out; omega, Nat.le_refl _, L6⟩
        · as_aux_lemma =>
            have hltz : ¬ (j : Int) < (n : Int) := by omega
            have HT := keep hT
            have HJ := keep hj
            have L0 : Kept (Below wr.heap.size wr wr) := Below.refl _ _
            obtain ⟨wE, hwE⟩ : ∃ wE, wr = wE := ⟨_, rfl⟩
            rw [hwE] at HT L0 ⊢
            clear hT KL hg hj hlt
            go_wp2
            go_loopg [106] 3 (fun kx s106 wq => ∃ i : Nat, s106 = .int .i64 i ∧ i ≤ 3 ∧ 3 - i ≤ kx ∧ Kept (Below wE.heap.size wE wq))
            case atStart => exact ⟨0, rfl, Nat.zero_le _, by omega, L0⟩
            case round =>
              clear L0
              obtain ⟨i, rfl, hi, hg, KB⟩ := hrel
              by_cases hil : i < 3
              · have hiz : (i : Int) < 3 := by omega
                have hi0z : (0 : Int) ≤ (i : Int) := by omega
                have hwi : IntKind.i64.wrap ((i : Int) + 1) = (i : Int) + 1 := by rw [IntKind.wrap_i64]; omega
                have hTq := HT.out.below KB.out (Nat.le_refl _)
                obtain ⟨itL, itN, itS, itO⟩ := hTq.it i hil
                have cF := hTq.cf hil
                have cG := hTq.cg hil
                have MS := keep (fun (w : World) (hb : Below wr.heap.size wr w) => stands_any (Pf.below itL hb) (by have := HN.out; have := HJ.out; omega))
                have MC := keep (fun (w : World) (hb : Below wr.heap.size wr w) => scans_any (Pf.below itL hb) (by have := HN.out; have := HJ.out; omega) 0 (by decide) 3)
                have hb0 : Below wr.heap.size wr wr.drew := (Below.refl _ _).drew
                have HIL := keep hil
                clear hTq itL itN itS itO
                go_wp2_with fail
                refine wp_region_held_drew (S := fun Wd => Wd.cell? ⟨F, i, none⟩ = some (.pointer (some ⟨(I i).R, 0, none⟩)) ∧ Wd.cell? ⟨G, i, none⟩ = some (.pointer (some ⟨(I i).R2, 0, none⟩))) (by kernel_rfl) ⟨(by simpa using cF), (by simpa using cG)⟩ (fun hHeld => ?_)
                refine wpAnyH_take (i := 0) (oi := { dst := some 109, op := _, type := _, pos := _, after := _, guard := _ }) (v := ?v27) rfl (by kernel_rfl) (by kernel_rfl) (by kernel_rfl) (fun _ _ _ h => h) (Or.inl ⟨by rfl, ?hy27⟩) (by assumption) ?rest27
                case hy27 => (intro w hSw; obtain ⟨q1,q2⟩ := hSw; go_simp; try with_reducible rfl)
                try simp only [Act.put, List.setIfInBounds_toArray, List.set_cons_zero, List.set_cons_succ]
                refine wpAnyH_take (i := 1) (oi := { dst := some 110, op := _, type := _, pos := _, after := _, guard := _ }) (v := (.pointer (some ⟨F, i, none⟩))) rfl (by kernel_rfl) (by kernel_rfl) (by kernel_rfl) (fun _ _ _ h => h) (Or.inl ⟨by rfl, ?hy28⟩) (by assumption) ?rest28
                case hy28 => (intro w hSw; obtain ⟨q1,q2⟩ := hSw; first | (go_simp; done) | (go_simp; simp [*]; done) | (simp [*]; go_simp; done))
                try simp only [Act.put, List.setIfInBounds_toArray, List.set_cons_zero, List.set_cons_succ]
                refine wpAnyH_take (i := 2) (oi := { dst := some 111, op := _, type := _, pos := _, after := _, guard := _ }) (v := ?v29) rfl (by kernel_rfl) (by kernel_rfl) (by kernel_rfl) (fun _ _ _ h => h) (Or.inl ⟨by rfl, ?hy29⟩) (by assumption) ?rest29
                case hy29 => (intro w hSw; obtain ⟨q1,q2⟩ := hSw; go_simp; try with_reducible rfl)
                try simp only [Act.put, List.setIfInBounds_toArray, List.set_cons_zero, List.set_cons_succ]
                refine wpAnyH_take (i := 3) (oi := { dst := some 112, op := _, type := _, pos := _, after := _, guard := _ }) (v := ?v30) rfl (by kernel_rfl) (by kernel_rfl) (by kernel_rfl) (fun _ _ _ h => h) (Or.inl ⟨by rfl, ?hy30⟩) (by assumption) ?rest30
                case hy30 => (intro w hSw; obtain ⟨q1,q2⟩ := hSw; go_simp; try with_reducible rfl)
                try simp only [Act.put, List.setIfInBounds_toArray, List.set_cons_zero, List.set_cons_succ]
                refine wpAnyH_take (i := 4) (oi := { dst := some 113, op := _, type := _, pos := _, after := _, guard := _ }) (v := (.pointer (some ⟨G, i, none⟩))) rfl (by kernel_rfl) (by kernel_rfl) (by kernel_rfl) (fun _ _ _ h => h) (Or.inl ⟨by rfl, ?hy31⟩) (by assumption) ?rest31
                case hy31 => (intro w hSw; obtain ⟨q1,q2⟩ := hSw; first | (go_simp; done) | (go_simp; simp [*]; done) | (simp [*]; go_simp; done))
                try simp only [Act.put, List.setIfInBounds_toArray, List.set_cons_zero, List.set_cons_succ]
                refine wpAnyH_take (i := 5) (oi := { dst := some 114, op := _, type := _, pos := _, after := _, guard := _ }) (v := ?v32) rfl (by kernel_rfl) (by kernel_rfl) (by kernel_rfl) (fun _ _ _ h => h) (Or.inl ⟨by rfl, ?hy32⟩) (by assumption) ?rest32
                case hy32 => (intro w hSw; obtain ⟨q1,q2⟩ := hSw; go_simp; try with_reducible rfl)
                try simp only [Act.put, List.setIfInBounds_toArray, List.set_cons_zero, List.set_cons_succ]
                refine wpAnyH_ready (rs := [6]) (by kernel_rfl) (by simp) ?_
                refine AllReadyH.cons (o := { dst := some 115, op := _, type := _, pos := _, after := _, guard := _ }) rfl (fun K hK => ?_) AllReadyH.nil
                go_simp
                refine (MS.out _ hb0).mono ?_
                rintro _ v2 ⟨rfl, hb2⟩
                have BB2 := keep (bup hb0 hb2)
                have e1 := (BB2.out.cell (p := ⟨F, i, none⟩) (World.block_lt_of_cell? _ _ cF)).trans cF
                have e2 := (BB2.out.cell (p := ⟨G, i, none⟩) (World.block_lt_of_cell? _ _ cG)).trans cG
                refine hK.out _ _ ⟨e1, e2⟩ (fun hHeld => ?_)
                try simp only [Act.put, List.setIfInBounds_toArray, List.set_cons_zero, List.set_cons_succ]
                clear hK MS hb2
                refine wpAnyH_take (i := 7) (oi := { dst := some 116, op := _, type := _, pos := _, after := _, guard := _ }) (v := (.bool false)) rfl (by kernel_rfl) (by kernel_rfl) (by kernel_rfl) (fun _ _ _ h => h) (Or.inl ⟨by rfl, ?hy33⟩) (by assumption) ?rest33
                case hy33 => (intro w hSw; obtain ⟨q1,q2⟩ := hSw; first | (go_simp; done) | (go_simp; simp [*]; done) | (simp [*]; go_simp; done))
                try simp only [Act.put, List.setIfInBounds_toArray, List.set_cons_zero, List.set_cons_succ]
                refine wpAnyH_take (i := 8) (oi := { dst := some 117, op := _, type := _, pos := _, after := _, guard := _ }) (v := (.bool false)) rfl (by kernel_rfl) (by kernel_rfl) (by kernel_rfl) (fun _ _ _ h => h) (Or.inl ⟨by rfl, ?hy34⟩) (by assumption) ?rest34
                case hy34 => (intro w hSw; obtain ⟨q1,q2⟩ := hSw; first | (go_simp; done) | (go_simp; simp [*]; done) | (simp [*]; go_simp; done))
                try simp only [Act.put, List.setIfInBounds_toArray, List.set_cons_zero, List.set_cons_succ]
                refine wpAnyH_take (i := 9) (oi := { dst := some 118, op := _, type := _, pos := _, after := _, guard := _ }) (v := ?v35) rfl (by kernel_rfl) (by kernel_rfl) (by kernel_rfl) (fun _ _ _ h => h) (Or.inl ⟨by rfl, ?hy35⟩) (by assumption) ?rest35
                case hy35 => (intro w hSw; obtain ⟨q1,q2⟩ := hSw; go_simp; try with_reducible rfl)
                try simp only [Act.put, List.setIfInBounds_toArray, List.set_cons_zero, List.set_cons_succ]
                refine wpAnyH_take (i := 10) (oi := { dst := some 119, op := _, type := _, pos := _, after := _, guard := _ }) (v := (.pointer (some ⟨F, i, none⟩))) rfl (by kernel_rfl) (by kernel_rfl) (by kernel_rfl) (fun _ _ _ h => h) (Or.inl ⟨by rfl, ?hy36⟩) (by assumption) ?rest36
                case hy36 => (intro w hSw; obtain ⟨q1,q2⟩ := hSw; first | (go_simp; done) | (go_simp; simp [*]; done) | (simp [*]; go_simp; done))
                try simp only [Act.put, List.setIfInBounds_toArray, List.set_cons_zero, List.set_cons_succ]
                refine wpAnyH_take (i := 11) (oi := { dst := some 120, op := _, type := _, pos := _, after := _, guard := _ }) (v := ?v37) rfl (by kernel_rfl) (by kernel_rfl) (by kernel_rfl) (fun _ _ _ h => h) (Or.inl ⟨by rfl, ?hy37⟩) (by assumption) ?rest37
                case hy37 => (intro w hSw; obtain ⟨q1,q2⟩ := hSw; go_simp; try with_reducible rfl)
                try simp only [Act.put, List.setIfInBounds_toArray, List.set_cons_zero, List.set_cons_succ]
                refine wpAnyH_take (i := 12) (oi := { dst := some 121, op := _, type := _, pos := _, after := _, guard := _ }) (v := ?v38) rfl (by kernel_rfl) (by kernel_rfl) (by kernel_rfl) (fun _ _ _ h => h) (Or.inl ⟨by rfl, ?hy38⟩) (by assumption) ?rest38
                case hy38 => (intro w hSw; obtain ⟨q1,q2⟩ := hSw; go_simp; try with_reducible rfl)
                try simp only [Act.put, List.setIfInBounds_toArray, List.set_cons_zero, List.set_cons_succ]
                refine wpAnyH_take (i := 13) (oi := { dst := some 122, op := _, type := _, pos := _, after := _, guard := _ }) (v := (.pointer (some ⟨G, i, none⟩))) rfl (by kernel_rfl) (by kernel_rfl) (by kernel_rfl) (fun _ _ _ h => h) (Or.inl ⟨by rfl, ?hy39⟩) (by assumption) ?rest39
                case hy39 => (intro w hSw; obtain ⟨q1,q2⟩ := hSw; first | (go_simp; done) | (go_simp; simp [*]; done) | (simp [*]; go_simp; done))
                try simp only [Act.put, List.setIfInBounds_toArray, List.set_cons_zero, List.set_cons_succ]
                refine wpAnyH_take (i := 14) (oi := { dst := some 123, op := _, type := _, pos := _, after := _, guard := _ }) (v := ?v40) rfl (by kernel_rfl) (by kernel_rfl) (by kernel_rfl) (fun _ _ _ h => h) (Or.inl ⟨by rfl, ?hy40⟩) (by assumption) ?rest40
                case hy40 => (intro w hSw; obtain ⟨q1,q2⟩ := hSw; go_simp; try with_reducible rfl)
                try simp only [Act.put, List.setIfInBounds_toArray, List.set_cons_zero, List.set_cons_succ]
                refine wpAnyH_ready (rs := [15]) (by kernel_rfl) (by simp) ?_
                refine AllReadyH.cons (o := { dst := some 124, op := _, type := _, pos := _, after := _, guard := _ }) rfl (fun K hK => ?_) AllReadyH.nil
                go_simp
                refine (MC.out _ BB2.out).mono ?_
                rintro _ v3 ⟨rfl, hb3⟩
                have BB3 := keep (bup BB2.out hb3)
                have f1 := (BB3.out.cell (p := ⟨F, i, none⟩) (World.block_lt_of_cell? _ _ cF)).trans cF
                have f2 := (BB3.out.cell (p := ⟨G, i, none⟩) (World.block_lt_of_cell? _ _ cG)).trans cG
                refine hK.out _ _ ⟨f1, f2⟩ (fun hHeld => ?_)
                try simp only [Act.put, List.setIfInBounds_toArray, List.set_cons_zero, List.set_cons_succ]
                clear hK MC hb3
                refine wpAnyH_take (i := 16) (oi := { dst := some 125, op := _, type := _, pos := _, after := _, guard := _ }) (v := (.bool false)) rfl (by kernel_rfl) (by kernel_rfl) (by kernel_rfl) (fun _ _ _ h => h) (Or.inl ⟨by rfl, ?hy41⟩) (by assumption) ?rest41
                case hy41 => (intro w hSw; first | (go_simp; done) | (go_simp; simp [*]; done) | (simp [*]; go_simp; done))
                try simp only [Act.put, List.setIfInBounds_toArray, List.set_cons_zero, List.set_cons_succ]
                refine wpAnyH_take (i := 17) (oi := { dst := some 126, op := _, type := _, pos := _, after := _, guard := _ }) (v := (.bool false)) rfl (by kernel_rfl) (by kernel_rfl) (by kernel_rfl) (fun _ _ _ h => h) (Or.inl ⟨by rfl, ?hy42⟩) (by assumption) ?rest42
                case hy42 => (intro w hSw; first | (go_simp; done) | (go_simp; simp [*]; done) | (simp [*]; go_simp; done))
                try simp only [Act.put, List.setIfInBounds_toArray, List.set_cons_zero, List.set_cons_succ]
                refine wpAnyH_done (by kernel_rfl) ?_ _
                have KB2 := keep (bup KB.out BB3.out)
                clear hHeld e1 e2 f1 f2 cF cG hb0 BB2 BB3 KB
                go_wp2
                go_roundg (3 - (i + 1))
                case measure => omega
                case rel => exact ⟨i + 1, by simp, by have := HIL.out; omega, Nat.le_refl _, KB2⟩
              · have hiz : ¬ (i : Int) < 3 := by omega
                have HD : Kept (Below W.heap.size W wr) := bup B1.out (HT.out.below KB.out (Nat.le_refl _)).bel
                go_wp2
                go_ret
                exact ⟨rfl, by first | exact HD.out | (rw [hX]; exact HD.out) | (rw [← hX]; exact HD.out)⟩
end Rd
end Go.Proofs.YtlfpkbjiofelkaaGreat
