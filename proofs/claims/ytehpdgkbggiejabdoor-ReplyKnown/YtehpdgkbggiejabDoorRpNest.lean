/-
  Contracts over this program: Array once more, which blocks it tells; one list in another.
-/
import Derived.Test.YtehpdgkbggiejabDoorRpMake
import Derived.Test.YtehpdgkbggiejabDoorRpDecode
namespace Go.Proofs.YtehpdgkbggiejabDoor
open Go.RowKit
set_option linter.unusedVariables false
theorem lst_of_ownP {n lo q : Nat} {P0 : Nat → Prop} {w w' : World} {v' : Value} {L : List (Rp.T n)} {cur : Array Value} (hL : L ≠ []) (ho : w'.ownsRow lo 25 4 v' L.length (cur.toList.take (L.length * 4))) (hb : Below w.heap.size w w') (hq : q < lo) (hqw : q ≤ w.heap.size)
    (h0 : ∀ b, P0 b → b < q)
    (ht : ∀ j x, L[j]? = some x → Tel P0 w n ((cur.toList.drop (j * 4)).take 4) x) : Lst (fun b => (P0 b ∨ q < b) ∧ b ≠ q ∧ b < w'.heap.size) w' (Tel (fun b => (P0 b ∨ q < b) ∧ b ≠ q ∧ b < w'.heap.size) w' n) v' L := by
  have hlt := ho.lt
  rcases ho.2 with ⟨_, e⟩ | ⟨g, cap, cu, rfl, hg, h3, h4, h5, h6, h7⟩
  · exact absurd (List.length_eq_zero_iff.1 e) hL
  · refine .inr ⟨g, cap, cu, rfl, hL, ⟨.inr (by have := (hlt g rfl).1; omega), by have := (hlt g rfl).1; omega, (hlt g rfl).2⟩, h3, h4, h5, h6, fun j t hj => ?_⟩
    have hx := ht j t hj
    have hl := (List.getElem?_eq_some_iff.1 hj).1
    have e : (cu.toList.drop (j * 4)).take 4 = (cur.toList.drop (j * 4)).take 4 := by
      have e1 := congrArg (fun l => (l.drop (j * 4)).take 4) h7
      simp only [List.drop_take, List.take_take] at e1
      rwa [show min 4 (L.length * 4 - j * 4) = 4 by omega] at e1
    rw [e]
    exact Tel.mono (fun b h => ⟨.inl h, by have := h0 b h; omega, by have := h0 b h; have := hb.size; omega⟩) (fun b h => hb.block b (by have := h0 b h; omega)) n _ _ hx
set_option maxRecDepth 100000 in
set_option maxHeartbeats 1000000 in
theorem Array_all (n : Nat) (P0 : Nat → Prop) (L : List (Rp.T n)) (v : Value) (w : World) (h0 : ∀ b, P0 b → b < w.heap.size) (h : Lst (· < w.heap.size) w (Tel P0 w n) v L) (hL : L ≠ []) (hm : L.length ≤ 1000000000) :
    Calls Tryd.prog 10 #[v] w fun e w' => (∃ v', e = .returned (.agg #[.int .i64 6, .string ⟨#[]⟩, .int .i64 0, v']) ∧ Lst (fun b => (P0 b ∨ w.heap.size < b) ∧ b < w'.heap.size) w' (Tel (fun b => (P0 b ∨ w.heap.size < b) ∧ b < w'.heap.size) w' n) v' L) ∧ Below w.heap.size w w' := by
  obtain ⟨W1, hW1, X1, B1⟩ := rep_pre w
  rcases h with ⟨e, _⟩ | ⟨g, cap, cur, rfl, _, hg, hc, h5, h6, h7, ht⟩
  · exact absurd e hL
  have T1 : ∀ j x, L[j]? = some x → Tel P0 W1 n ((cur.toList.drop (j * 4)).take 4) x := fun j x hx =>
    Tel.mono (fun b h => h) (fun b h => B1.out.block b (h0 b h)) n _ _ (ht j x hx)
  have g1 : W1.heap[g]? = some (.cells cur 25 (0, 0)) := (B1.out.block g hg).trans hc
  have hlen : (cur.toList.take (L.length * 4)).length = L.length * 4 := by
    have e : cur.toList.length = cap * 4 := by rw [← h7]; exact Array.length_toList
    rw [List.length_take, e]; omega
  have CL := keep (clone_any g 0 L.length cap (cur.toList.take (L.length * 4)) W1 hlen hm (fun j u hu => by
    rw [cell_of_row _ _ _ _ _ _ g1, Nat.zero_add, ← Array.getElem?_toList]
    rw [List.getElem?_take] at hu
    split at hu
    · exact hu
    · cases hu) (fun u hu => by
    obtain ⟨j, hj⟩ := List.mem_iff_getElem?.1 hu
    have hj4 : j < L.length * 4 := by
      have := (List.getElem?_eq_some_iff.1 hj).1
      omega
    obtain ⟨x, hx⟩ : ∃ x, L[j / 4]? = some x := ⟨_, List.getElem?_eq_getElem (by omega)⟩
    refine one_of (T1 _ _ hx) u ?_
    rw [List.getElem?_take, if_pos hj4] at hj
    refine List.mem_iff_getElem?.2 ⟨j % 4, ?_⟩
    rw [List.getElem?_take, if_pos (by omega), List.getElem?_drop, show j / 4 * 4 + j % 4 = j by omega]
    exact hj))
  have TT := keep T1
  have HL := keep hL
  have H0 := keep h0
  generalize hm' : L.length = m at *
  have HM := keep hm'
  clear hg hc h5 h6 h7 ht T1 g1 hlen hm hm' hL h0
  go_enter Tryd.func10, Tryd.ntmps10
  go_wp2_with fail
  refine CL.out.mono ?_
  rintro e w2 ⟨v', rfl, ho, b2⟩
  have X2 := keep (X1.out.below b2 X1.out.lt)
  have B2 := keep (B1.out.trans (b2.mono B1.out.size))
  have LS := keep (lst_of_ownP (q := w.heap.size) HL.out (by rw [HM.out]; exact ho) b2 X1.out.lt B1.out.size H0.out TT.out)
  have far := keep (fun k (hk : v'.ownBlock = some k) => (ho.lt k hk).1)
  obtain ⟨ao, c', rfl⟩ : ∃ ao c', v' = .slice ao m c' := by
    rcases ho.2 with ⟨rfl, e⟩ | ⟨g, cap, cu, rfl, _⟩
    · exact ⟨none, 0, by rw [e]⟩
    · exact ⟨_, _, rfl⟩
  obtain ⟨d0, d1, d2, d3⟩ := X2.out.cells
  have f0 := X2.out.free 0
  have f1 := X2.out.free 1
  have f2 := X2.out.free 2
  have f3 := X2.out.free 3
  clear b2 ho CL hW1
  go_wp2
  (try simp only [Exit.inBlock, Exit.then])
  refine bodyPost_ret (res_rp1 rfl _ _ w.heap.size _ _ _ _ rfl (Box.four X2.out _ _ _ _)) rfl ?_
  refine ⟨⟨_, rfl, ?_⟩, Below.four B2.out (Nat.le_refl _) _ _ _ _⟩
  have fz : (set4 w2 w.heap.size (.int .i64 6) (.string ⟨#[]⟩) (.int .i64 0) (.slice ao m c')).heap.size = w2.heap.size := by simp [set4, World.setCell]
  have hlow : ∀ b, ((P0 b ∨ w.heap.size < b) ∧ b ≠ w.heap.size ∧ b < w2.heap.size) → ((P0 b ∨ w.heap.size < b) ∧ b < (set4 w2 w.heap.size (.int .i64 6) (.string ⟨#[]⟩) (.int .i64 0) (.slice ao m c')).heap.size) := fun b h => by rw [fz]; exact ⟨h.1, h.2.2⟩
  have hsm : ∀ b, ((P0 b ∨ w.heap.size < b) ∧ b ≠ w.heap.size ∧ b < w2.heap.size) → (set4 w2 w.heap.size (.int .i64 6) (.string ⟨#[]⟩) (.int .i64 0) (.slice ao m c')).heap[b]? = w2.heap[b]? := fun b h => four_other h.2.1 _ _ _ _
  exact LS.out.mono hlow hsm (fun cs x hx => Tel.mono hlow hsm _ _ _ hx)
/-- a list of nothing, m times in a list -/
def nestR (h : Nat) : (m : Nat) → Rp.T (h + m + 1)
  | 0 => Rp.mk 6 .empty 0 []
  | m + 1 => Rp.mk 6 .empty 0 [nestR h m]
/-- the list of one reply, laid anew -/
theorem one_row {n : Nat} {P0 : Nat → Prop} {w : World} {c0 c1 c2 c3 : Value} {t : Rp.T n} (ht : Tel P0 w n [c0, c1, c2, c3] t) (h0 : ∀ b, P0 b → b < w.heap.size) :
    Lst (· < (w.alloc (.cells #[c0, c1, c2, c3] 25)).heap.size) (w.alloc (.cells #[c0, c1, c2, c3] 25)) (Tel P0 (w.alloc (.cells #[c0, c1, c2, c3] 25)) n) (.slice (some ⟨w.heap.size, 0, none⟩) 1 1) [t] := by
  have b : Below w.heap.size w (w.alloc (.cells #[c0, c1, c2, c3] 25)) := (Below.refl _ _).alloc (Nat.le_refl _) _
  refine .inr ⟨w.heap.size, 1, #[c0, c1, c2, c3], rfl, by simp, (Box.new w c0 c1 c2 c3).lt, heap_alloc_new _ _, Nat.le_refl _, by unfold maxLen; omega, rfl, fun j x hj => ?_⟩
  match j, hj with
  | 0, hj =>
    cases hj
    exact Tel.mono (fun _ h => h) (fun k hk => b.block k (h0 k hk)) n _ _ ht
theorem list_cell {n : Nat} {P : Nat → Prop} {w : World} {v : Value} {L : List (Rp.T n)} (h : Lst P w (Tel P w n) v L) : Tel P w (n + 1) [.int .i64 6, .string ⟨#[]⟩, .int .i64 0, v] (Rp.mk 6 .empty 0 L) :=
  ⟨v, rfl, h, ⟨by show (-9223372036854775808 : Int) ≤ 6; decide, by show (6 : Int) ≤ 9223372036854775807; decide⟩, ⟨by show (-9223372036854775808 : Int) ≤ 0; decide, by show (0 : Int) ≤ 9223372036854775807; decide⟩, by show (0 : Nat) < 4294967281; decide⟩
set_option maxRecDepth 100000 in
set_option maxHeartbeats 2000000 in
theorem nested_any (h m : Nat) (hm : m ≤ 1000) (w : World) :
    Calls Tryd.prog 15 #[.int .i64 ((m : Int) + 1)] w fun e w' => (∃ cs, e = .returned (.agg cs.toArray) ∧ Tel (· < w'.heap.size) w' (h + m + 1) cs (nestR h m)) ∧ Below w.heap.size w w' := by
  obtain ⟨W1, hW1, X1, B1⟩ := rep_pre w
  have nw : wrap64 (m : Int) = (m : Int) := by unfold wrap64; omega
  have nw2 : IntKind.i64.wrap (m : Int) = (m : Int) := by rw [IntKind.wrap_i64]; omega
  have HM := keep hm
  go_enter Tryd.func15, Tryd.ntmps15
  go_wp2_with fail
  refine (Array_none _).mono ?_
  rintro e w2 ⟨he, b2⟩
  obtain ⟨l0, l1, l2, l3, l4, l5, rfl, L0, L1, L2, L3, L4, L5⟩ : ∃ l0 l1 l2 l3 l4 l5, e = .returned (.agg #[.int .i64 l0, .string l1, .int .i64 l2, .slice l3 l4 l5]) ∧ Kept (l0 = 6) ∧ Kept (l1 = ⟨#[]⟩) ∧ Kept (l2 = 0) ∧ Kept (l3 = none) ∧ Kept (l4 = 0) ∧ Kept (l5 = 0) := ⟨_, _, _, _, _, _, he, keep rfl, keep rfl, keep rfl, keep rfl, keep rfl, keep rfl⟩
  have X2 := keep (X1.out.below b2 X1.out.lt)
  have B2 := keep (B1.out.trans (b2.mono B1.out.size))
  obtain ⟨W3, hW3⟩ : ∃ x, x = w2.alloc (.cells #[.int .i64 l0, .string l1, .int .i64 l2, .slice l3 l4 l5] 25) := ⟨_, rfl⟩
  have b3 : Below w2.heap.size w2 W3 := hW3 ▸ (Below.refl _ _).alloc (Nat.le_refl _) _
  have X3 := keep (X2.out.below b3 X2.out.lt)
  have Y3 := keep (show Box W3 w2.heap.size _ _ _ _ from hW3 ▸ Box.new w2 _ _ _ _)
  have B3 := keep (B2.out.trans (b3.mono B2.out.size))
  have hW3' := hW3.symm
  have LT := keep (show w.heap.size < w2.heap.size from X2.out.lt)
  clear b2 b3 hW3 hm
  go_wp2
  go_loopw [7] (fun i wr => ∃ (k : Nat) (q3 : Option Addr) (q4 q5 : Nat), k ≤ m ∧ i = .int .i64 k ∧ Kept (Box wr w2.heap.size (.int .i64 6) (.string ⟨#[]⟩) (.int .i64 0) (.slice q3 q4 q5)) ∧ Kept (Tel (fun b => w2.heap.size < b ∧ b < wr.heap.size) wr (h + k + 1) [.int .i64 6, .string ⟨#[]⟩, .int .i64 0, .slice q3 q4 q5] (nestR h k)) ∧ Kept (Box wr w.heap.size (.int .i64 0) (.string ⟨#[]⟩) (.int .i64 0) (.slice none 0 0)) ∧ Kept (Below w.heap.size w wr)) (fun i _ => m - (intOf i).toNat)
  case atStart => exact ⟨0, none, 0, 0, Nat.zero_le _, rfl, keep (by have h := Y3.out; rwa [L0.out, L1.out, L2.out, L3.out, L4.out, L5.out] at h), keep (list_cell (.inl ⟨rfl, _, rfl⟩)), X3, B3⟩
  case round =>
    obtain ⟨k, q3, q4, q5, hk, rfl, YR, TR, XR, BR⟩ := hrel
    obtain ⟨y0, y1, y2, y3⟩ := YR.out.cells
    by_cases hlt : k < m
    · have hz : (k : Int) < (m : Int) := by omega
      have hkw : IntKind.i64.wrap ((k : Int) + 1) = ((k + 1 : Nat) : Int) := by have := HM.out; rw [IntKind.wrap_i64]; omega
      have HLT := keep hlt
      obtain ⟨W4, hW4⟩ : ∃ x, x = wr.alloc (.cells #[.int .i64 6, .string ⟨#[]⟩, .int .i64 0, .slice q3 q4 q5] 25) := ⟨_, rfl⟩
      have b4 : Below wr.heap.size wr W4 := hW4 ▸ (Below.refl _ _).alloc (Nat.le_refl _) _
      have R4 := one_row TR.out (fun b hb => hb.2)
      rw [← hW4] at R4
      have CALL := keep (Array_all _ (fun b => w2.heap.size < b ∧ b < wr.heap.size) _ _ W4 (fun b hb => Nat.lt_of_lt_of_le hb.2 b4.size) R4 (by simp) (by show 1 ≤ 1000000000; omega))
      have bs : (Instr.buildSlice 23 1 #[(0, .agg #[.int .i64 6, .string ⟨#[]⟩, .int .i64 0, .slice q3 q4 q5])]).run Tryd.prog wr = .ok (.slice (some ⟨wr.heap.size, 0, none⟩) 1 1) W4 := by
        obtain ⟨i0, hi0, hz0, hz1, hz2⟩ := parts_of info_rp
        rw [hW4]
        exact run_buildSlice wr _ _ 1 _ _ i0 _ Tryd.underlying23 hi0 hz0 (by rw [hz1]; decide) (by rw [hz1]; decide) (by rw [hz1]; simp [Instr.fill, Value.cells, Array.range, List.zipIdx]; rfl)
      have Y4 := keep (YR.out.below b4 YR.out.lt)
      have X4 := keep (XR.out.below b4 XR.out.lt)
      have B4 := keep (BR.out.trans (b4.mono BR.out.size))
      have Z4 := keep b4.size
      have hW4' := hW4.symm
      clear hlt b4 R4 hW4
      go_wp2_with fail
      refine CALL.out.mono ?_
      rintro e w5 ⟨⟨v5, rfl, l5⟩, b5⟩
      obtain ⟨ao5, cp5, rfl, _⟩ := l5.form
      have Y5 := keep (Y4.out.below b5 Y4.out.lt)
      have X5 := keep (X4.out.below b5 X4.out.lt)
      have B5 := keep (B4.out.trans (b5.mono B4.out.size))
      have T5 := keep (list_cell l5)
      obtain ⟨d0, d1, d2, d3⟩ := Y5.out.cells
      have f0 := Y5.out.free 0
      have f1 := Y5.out.free 1
      have f2 := Y5.out.free 2
      have f3 := Y5.out.free 3
      have ZW := keep (show w2.heap.size ≤ W4.heap.size from Nat.le_of_lt Y4.out.lt)
      clear b5 l5 CALL y0 y1 y2 y3
      go_wp2
      go_roundw
      case measure => have := HLT.out; simp [intOf]; omega
      case rel =>
        have fz : ∀ a b c d, (set4 w5 w2.heap.size a b c d).heap.size = w5.heap.size := fun a b c d => by simp [set4, World.setCell]
        refine ⟨k + 1, ao5, _, cp5, HLT.out, by rfl, keep (Box.four Y5.out _ _ _ _), keep (Tel.mono (fun b hb => ?_) (fun b hb => ?_) _ _ _ T5.out), keep ((four_other (by have := LT.out; omega) _ _ _ _).trans X5.out), keep (Below.four B5.out (Nat.le_of_lt LT.out) _ _ _ _)⟩
        · have e := fz (.int .i64 6) (.string ⟨#[]⟩) (.int .i64 0) (.slice ao5 1 cp5)
          refine ⟨?_, ?_⟩
          · rcases hb.1 with h1 | h1
            · exact h1.1
            · exact Nat.lt_of_le_of_lt ZW.out h1
          · show b < (set4 w5 w2.heap.size _ _ _ _).heap.size
            rw [fz]; exact hb.2
        · exact four_other (by
            rcases hb.1 with h1 | h1
            · have := h1.1; omega
            · have := ZW.out; omega) _ _ _ _
    · have hz : ¬ (k : Int) < (m : Int) := by omega
      obtain rfl : k = m := by omega
      obtain ⟨d0, d1, d2, d3⟩ := XR.out.cells
      have f0 := XR.out.free 0
      have f1 := XR.out.free 1
      have f2 := XR.out.free 2
      have f3 := XR.out.free 3
      clear hlt
      go_wp2
      (try simp only [Exit.inBlock, Exit.then])
      refine bodyPost_ret (res_rp1 rfl _ _ w.heap.size _ _ _ _ rfl (Box.four XR.out _ _ _ _)) rfl ?_
      refine ⟨⟨_, rfl, Tel.mono (fun b hb => ?_) (fun b hb => ?_) _ _ _ TR.out⟩, Below.four BR.out (Nat.le_refl _) _ _ _ _⟩
      · have fz : (set4 wr w.heap.size (.int .i64 6) (.string ⟨#[]⟩) (.int .i64 0) (.slice q3 q4 q5)).heap.size = wr.heap.size := by simp [set4, World.setCell]
        show b < (set4 wr w.heap.size _ _ _ _).heap.size
        rw [fz]; exact hb.2
      · exact four_other (by have := LT.out; have := hb.1; omega) _ _ _ _
end Go.Proofs.YtehpdgkbggiejabDoor
