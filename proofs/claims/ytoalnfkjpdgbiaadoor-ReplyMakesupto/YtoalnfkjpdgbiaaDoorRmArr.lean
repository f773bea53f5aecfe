/-
  Contracts over this program: arrays of replies, the document's own and the program's, of any list that was handed in.
-/
import Derived.Test.YtoalnfkjpdgbiaaDoorRpMake
import Derived.Test.YtoalnfkjpdgbiaaDoorRpDecode
/-
  Contracts over this program: Array once more, which blocks it tells; one list in another.
-/
namespace Go.Proofs.YtoalnfkjpdgbiaaDoor
open Go.RowKit
set_option linter.unusedVariables false
theorem lst_of_ownP {n lo q : Nat} {P0 : Nat → Prop} {w w' : World} {v' : Value} {L : List (Rp.T n)} {cur : Array Value} (hL : L ≠ []) (ho : w'.ownsRow lo 25 4 v' L.length (cur.toList.take (L.length * 4))) (hb : Below w.heap.size w w') (hq : q < lo) (hqw : q ≤ w.heap.size)
    (h0 : ∀ b, P0 b → b < q)
    (ht : ∀ j x, L[j]? = some x → Tel P0 w n ((cur.toList.drop (j * 4)).take 4) x) : Lst (fun b => (P0 b ∨ q < b) ∧ b ≠ q ∧ b < w'.heap.size) w' (Tel (fun b => (P0 b ∨ q < b) ∧ b ≠ q ∧ b < w'.heap.size) w' n) v' L := by
  have hlt := ho.lt
  rcases ho.2 with ⟨_, e⟩ | ⟨g, cap, cu, rfl, hg, h3, h4, h5, h6, h7⟩
  · exact absurd (List.length_eq_zero_iff.1 e) hL
  · refine .inr ⟨g, cap, cu, rfl, hL, ⟨.inr (by have := (hlt g rfl).1; omega), by have := (hlt g rfl).1; omega, (hlt g rfl).2⟩, h3, h4, h5, h6, fun j t hj => ?_⟩
    have hx := ht j t hj
    have hl := (List.getElem?_eq_some_iff.1 hj).1
    have e : (cu.toList.drop (j * 4)).take 4 = (cur.toList.drop (j * 4)).take 4 := by
      have e1 := congrArg (fun l => (l.drop (j * 4)).take 4) h7
      simp only [List.drop_take, List.take_take] at e1
      rwa [show min 4 (L.length * 4 - j * 4) = 4 by omega] at e1
    rw [e]
    exact Tel.mono (fun b h => ⟨.inl h, by have := h0 b h; omega, by have := h0 b h; have := hb.size; omega⟩) (fun b h => hb.block b (by have := h0 b h; omega)) n _ _ hx
set_option maxRecDepth 100000 in
set_option maxHeartbeats 1000000 in
theorem Array_all (n : Nat) (P0 : Nat → Prop) (L : List (Rp.T n)) (v : Value) (w : World) (h0 : ∀ b, P0 b → b < w.heap.size) (h : Lst (· < w.heap.size) w (Tel P0 w n) v L) (hL : L ≠ []) (hm : L.length ≤ 1000000000) :
    Calls Tryd.prog 21 #[v] w fun e w' => (∃ v', e = .returned (.agg #[.int .i64 6, .string ⟨#[]⟩, .int .i64 0, v']) ∧ Lst (fun b => (P0 b ∨ w.heap.size < b) ∧ b < w'.heap.size) w' (Tel (fun b => (P0 b ∨ w.heap.size < b) ∧ b < w'.heap.size) w' n) v' L) ∧ Below w.heap.size w w' := by
  obtain ⟨W1, hW1, X1, B1⟩ := rep_pre w
  rcases h with ⟨e, _⟩ | ⟨g, cap, cur, rfl, _, hg, hc, h5, h6, h7, ht⟩
  · exact absurd e hL
  have T1 : ∀ j x, L[j]? = some x → Tel P0 W1 n ((cur.toList.drop (j * 4)).take 4) x := fun j x hx =>
    Tel.mono (fun b h => h) (fun b h => B1.out.block b (h0 b h)) n _ _ (ht j x hx)
  have g1 : W1.heap[g]? = some (.cells cur 25 (0, 0)) := (B1.out.block g hg).trans hc
  have hlen : (cur.toList.take (L.length * 4)).length = L.length * 4 := by
    have e : cur.toList.length = cap * 4 := by rw [← h7]; exact Array.length_toList
    rw [List.length_take, e]; omega
  have CL := keep (clone_any g 0 L.length cap (cur.toList.take (L.length * 4)) W1 hlen hm (fun j u hu => by
    rw [cell_of_row _ _ _ _ _ _ g1, Nat.zero_add, ← Array.getElem?_toList]
    rw [List.getElem?_take] at hu
    split at hu
    · exact hu
    · cases hu) (fun u hu => by
    obtain ⟨j, hj⟩ := List.mem_iff_getElem?.1 hu
    have hj4 : j < L.length * 4 := by
      have := (List.getElem?_eq_some_iff.1 hj).1
      omega
    obtain ⟨x, hx⟩ : ∃ x, L[j / 4]? = some x := ⟨_, List.getElem?_eq_getElem (by omega)⟩
    refine one_of (T1 _ _ hx) u ?_
    rw [List.getElem?_take, if_pos hj4] at hj
    refine List.mem_iff_getElem?.2 ⟨j % 4, ?_⟩
    rw [List.getElem?_take, if_pos (by omega), List.getElem?_drop, show j / 4 * 4 + j % 4 = j by omega]
    exact hj))
  have TT := keep T1
  have HL := keep hL
  have H0 := keep h0
  generalize hm' : L.length = m at *
  have HM := keep hm'
  clear hg hc h5 h6 h7 ht T1 g1 hlen hm hm' hL h0
  go_enter Tryd.func21, Tryd.ntmps21
  go_wp2_with fail
  refine CL.out.mono ?_
  rintro e w2 ⟨v', rfl, ho, b2⟩
  have X2 := keep (X1.out.below b2 X1.out.lt)
  have B2 := keep (B1.out.trans (b2.mono B1.out.size))
  have LS := keep (lst_of_ownP (q := w.heap.size) HL.out (by rw [HM.out]; exact ho) b2 X1.out.lt B1.out.size H0.out TT.out)
  have far := keep (fun k (hk : v'.ownBlock = some k) => (ho.lt k hk).1)
  obtain ⟨ao, c', rfl⟩ : ∃ ao c', v' = .slice ao m c' := by
    rcases ho.2 with ⟨rfl, e⟩ | ⟨g, cap, cu, rfl, _⟩
    · exact ⟨none, 0, by rw [e]⟩
    · exact ⟨_, _, rfl⟩
  obtain ⟨d0, d1, d2, d3⟩ := X2.out.cells
  have f0 := X2.out.free 0
  have f1 := X2.out.free 1
  have f2 := X2.out.free 2
  have f3 := X2.out.free 3
  clear b2 ho CL hW1
  go_wp2
  (try simp only [Exit.inBlock, Exit.then])
  refine bodyPost_ret (res_rp1 rfl _ _ w.heap.size _ _ _ _ rfl (Box.four X2.out _ _ _ _)) rfl ?_
  refine ⟨⟨_, rfl, ?_⟩, Below.four B2.out (Nat.le_refl _) _ _ _ _⟩
  have fz : (set4 w2 w.heap.size (.int .i64 6) (.string ⟨#[]⟩) (.int .i64 0) (.slice ao m c')).heap.size = w2.heap.size := by simp [set4, World.setCell]
  have hlow : ∀ b, ((P0 b ∨ w.heap.size < b) ∧ b ≠ w.heap.size ∧ b < w2.heap.size) → ((P0 b ∨ w.heap.size < b) ∧ b < (set4 w2 w.heap.size (.int .i64 6) (.string ⟨#[]⟩) (.int .i64 0) (.slice ao m c')).heap.size) := fun b h => by rw [fz]; exact ⟨h.1, h.2.2⟩
  have hsm : ∀ b, ((P0 b ∨ w.heap.size < b) ∧ b ≠ w.heap.size ∧ b < w2.heap.size) → (set4 w2 w.heap.size (.int .i64 6) (.string ⟨#[]⟩) (.int .i64 0) (.slice ao m c')).heap[b]? = w2.heap[b]? := fun b h => four_other h.2.1 _ _ _ _
  exact LS.out.mono hlow hsm (fun cs x hx => Tel.mono hlow hsm _ _ _ hx)
/-- a list of nothing, m times in a list -/
def nestR (h : Nat) : (m : Nat) → Rp.T (h + m + 1)
  | 0 => Rp.mk 6 .empty 0 []
  | m + 1 => Rp.mk 6 .empty 0 [nestR h m]
/-- the list of one reply, laid anew -/
theorem one_row {n : Nat} {P0 : Nat → Prop} {w : World} {c0 c1 c2 c3 : Value} {t : Rp.T n} (ht : Tel P0 w n [c0, c1, c2, c3] t) (h0 : ∀ b, P0 b → b < w.heap.size) :
    Lst (· < (w.alloc (.cells #[c0, c1, c2, c3] 25)).heap.size) (w.alloc (.cells #[c0, c1, c2, c3] 25)) (Tel P0 (w.alloc (.cells #[c0, c1, c2, c3] 25)) n) (.slice (some ⟨w.heap.size, 0, none⟩) 1 1) [t] := by
  have b : Below w.heap.size w (w.alloc (.cells #[c0, c1, c2, c3] 25)) := (Below.refl _ _).alloc (Nat.le_refl _) _
  refine .inr ⟨w.heap.size, 1, #[c0, c1, c2, c3], rfl, by simp, (Box.new w c0 c1 c2 c3).lt, heap_alloc_new _ _, Nat.le_refl _, by unfold maxLen; omega, rfl, fun j x hj => ?_⟩
  match j, hj with
  | 0, hj =>
    cases hj
    exact Tel.mono (fun _ h => h) (fun k hk => b.block k (h0 k hk)) n _ _ ht
theorem list_cell {n : Nat} {P : Nat → Prop} {w : World} {v : Value} {L : List (Rp.T n)} (h : Lst P w (Tel P w n) v L) : Tel P w (n + 1) [.int .i64 6, .string ⟨#[]⟩, .int .i64 0, v] (Rp.mk 6 .empty 0 L) :=
  ⟨v, rfl, h, ⟨by show (-9223372036854775808 : Int) ≤ 6; decide, by show (6 : Int) ≤ 9223372036854775807; decide⟩, ⟨by show (-9223372036854775808 : Int) ≤ 0; decide, by show (0 : Int) ≤ 9223372036854775807; decide⟩, by show (0 : Nat) < 4294967281; decide⟩
end Go.Proofs.YtoalnfkjpdgbiaaDoor

namespace Go.Proofs.YtoalnfkjpdgbiaaDoor
open Go.RowKit
set_option linter.unusedVariables false
/-- append of nothing -/
theorem app_zero {P : Program} (w : World) (t ty e : TypeId) (ht : P.underlying t = some (.slice e)) (i : TypeInfo) (hi : P.info? e = some i) (a : Addr) (n cap : Nat) (hn : n ≤ cap) (ao : Option Addr) (c : Nat) :
    (Builtin.append_ #[t, t] ty #[.slice (some a) n cap, .slice ao 0 c]).run P w = .ok (.slice (some a) n cap) w := by
  have hlen : (Builtin.lenOf (.slice ao 0 c)).run P w = .ok 0 w := rfl
  have hcel : (Builtin.firstCells i.size 0 (.slice ao 0 c)).run P w = .ok #[] w := by
    cases ao with
    | none => exact run_firstCells_none w i.size 0 0 c
    | some a => exact run_firstCells_some w i.size 0 a 0 c [] (by simp) (fun j u hu => by simp at hu)
  simp [Builtin.append_, run_underlying ht, sizeOf, typeInfo, hi, hlen, hn, hcel, storeCells]
set_option maxRecDepth 100000 in
set_option maxHeartbeats 1000000 in
theorem clone_zero (a : Addr) (c : Nat) (w : World) :
    Calls Tryd.prog 47 #[.slice (some a) 0 c] w fun e w' => e = .returned (.slice (some ⟨w.heap.size, 0, none⟩) 0 0) ∧ Below w.heap.size w w' := by
  obtain ⟨i0, hi0, hz0, hz1, hz2⟩ := parts_of info_rp
  obtain ⟨W1, hW1⟩ : ∃ x, w.alloc (.cells #[] 25) = x := ⟨_, rfl⟩
  have b1 : Below w.heap.size w W1 := hW1 ▸ (Below.refl _ _).alloc (Nat.le_refl _) _
  have B := keep b1
  have R1 := keep (app_zero (P := Tryd.prog) W1 23 23 25 Tryd.underlying23 i0 hi0 ⟨w.heap.size, 0, none⟩ 0 0 (Nat.le_refl _) (some a) c)
  clear hi0 hz0 hz1 hz2 b1
  have q22 : ∀ (w : World) (a : Option Addr) (n c n' c' : Nat), (binOp .eql 23 (.slice a n c) (.slice none n' c')).run Tryd.prog w = .ok (.bool a.isNone) w := fun w a n c n' c' => Lib.run_eql_slice_nil w _ _ a n c n' c' Tryd.underlying23
  go_enter Tryd.func47, Tryd.ntmps47
  go_wp2_with ((show wpList _ _ _ ({ dst := some 7, op := Op.call { callee := Callee.builtin Builtin.append, args := _, argTypes := _ }, type := _, pos := _, after := _, guard := _ } :: _) _ _; refine wpList_app_run rfl _ _ _ _ rfl _ _ _ rfl rfl R1.out ?_))
  go_ret
  exact ⟨rfl, B.out⟩
set_option maxRecDepth 100000 in
theorem array_zero (a : Addr) (c : Nat) (w : World) :
    Calls Tryd.prog 21 #[.slice (some a) 0 c] w fun e w' => (∃ ao, e = .returned (.agg #[.int .i64 6, .string ⟨#[]⟩, .int .i64 0, .slice ao 0 0])) ∧ Below w.heap.size w w' := by
  obtain ⟨W1, hW1, X1, B1⟩ := rep_pre w
  have CL := keep (clone_zero a c W1)
  go_enter Tryd.func21, Tryd.ntmps21
  go_wp2_with fail
  refine CL.out.mono ?_
  rintro e w2 ⟨rfl, b2⟩
  have X2 := keep (X1.out.below b2 X1.out.lt)
  have B2 := keep (B1.out.trans (b2.mono B1.out.size))
  obtain ⟨d0, d1, d2, d3⟩ := X2.out.cells
  have f0 := X2.out.free 0
  have f1 := X2.out.free 1
  have f2 := X2.out.free 2
  have f3 := X2.out.free 3
  clear b2 CL hW1
  go_wp2
  (try simp only [Exit.inBlock, Exit.then])
  refine bodyPost_ret (res_rp1 rfl _ _ w.heap.size _ _ _ _ rfl (Box.four X2.out _ _ _ _)) rfl ?_
  exact ⟨⟨_, rfl⟩, Below.four B2.out (Nat.le_refl _) _ _ _ _⟩
set_option maxRecDepth 100000 in
set_option maxHeartbeats 2000000 in
theorem rarray_any (n : Nat) (P0 : Nat → Prop) (L : List (Rp.T n)) (v : Value) (w : World) (h0 : ∀ b, P0 b → b < w.heap.size) (h : Lst (· < w.heap.size) w (Tel P0 w n) v L) (hm : L.length ≤ 1000000000) :
    Calls Tryd.prog 22 #[v] w fun e w' => (∃ v', e = .returned (.agg #[.int .i64 6, .string ⟨#[]⟩, .int .i64 0, v']) ∧ Lst (fun b => (P0 b ∨ w.heap.size < b) ∧ b < w'.heap.size) w' (Tel (fun b => (P0 b ∨ w.heap.size < b) ∧ b < w'.heap.size) w' n) v' L) ∧ Below w.heap.size w w' := by
  obtain ⟨PP, hPP⟩ : ∃ PP : Ending → World → Prop, PP = fun e w' => (∃ v', e = .returned (.agg #[.int .i64 6, .string ⟨#[]⟩, .int .i64 0, v']) ∧ Lst (fun b => (P0 b ∨ w.heap.size < b) ∧ b < w'.heap.size) w' (Tel (fun b => (P0 b ∨ w.heap.size < b) ∧ b < w'.heap.size) w' n) v' L) ∧ Below w.heap.size w w' := ⟨_, rfl⟩
  rw [← hPP]
  have HP := keep hPP
  clear hPP
  obtain ⟨i0, hi0, hz0, hz1, hz2⟩ := parts_of info_rp
  obtain ⟨W1, hW1, X1, B1⟩ := rep_pre w
  have z1 : W1.heap.size = w.heap.size + 1 := by rw [← hW1]; show (w.heap.push _).size = _; simp
  obtain ⟨W2, hW2⟩ : ∃ x, W1.alloc (.cells #[] 25) = x := ⟨_, rfl⟩
  have b2 : Below W1.heap.size W1 W2 := hW2 ▸ (Below.refl _ _).alloc (Nat.le_refl _) _
  have B2 := keep (B1.out.trans (b2.mono B1.out.size))
  have X2 := keep (X1.out.below b2 X1.out.lt)
  obtain ⟨ao, cp, rfl, _, _⟩ := h.form
  have KEY : ∃ (an : Option Addr) (m cn : Nat) (w3 : World), (Builtin.append_ #[23, 23] 23 #[.slice (some ⟨W1.heap.size, 0, none⟩) 0 0, .slice ao L.length cp]).run Tryd.prog W2 = .ok (.slice an m cn) w3 ∧ Kept (Below W1.heap.size W1 w3) ∧
      Kept (Lst (fun b => (P0 b ∨ w.heap.size < b) ∧ b < w3.heap.size) w3 (Tel (fun b => (P0 b ∨ w.heap.size < b) ∧ b < w3.heap.size) w3 n) (.slice an m cn) L) := by
    rcases h with ⟨e, ao', ev⟩ | ⟨g, cap, cur, ev, hL, hg, hc, h5, h6, h7, ht⟩
    · subst e
      exact ⟨_, 0, 0, W2, app_zero (P := Tryd.prog) W2 23 23 25 Tryd.underlying23 i0 hi0 ⟨W1.heap.size, 0, none⟩ 0 0 (Nat.le_refl _) ao cp, keep b2, keep (.inl ⟨rfl, _, rfl⟩)⟩
    · injection ev with e1 _ e3
      subst e1
      subst e3
      have b02 : Below w.heap.size w W2 := B2.out
      have T1 : ∀ j x, L[j]? = some x → Tel P0 W2 n ((cur.toList.drop (j * 4)).take 4) x := fun j x hx =>
        Tel.mono (fun b h => h) (fun b h => b02.block b (h0 b h)) n _ _ (ht j x hx)
      have g2 : W2.heap[g]? = some (.cells cur 25 (0, 0)) := (b02.block g hg).trans hc
      have hlen : (cur.toList.take (L.length * 4)).length = L.length * 4 := by
        have e : cur.toList.length = cp * 4 := by rw [← h7]; exact Array.length_toList
        rw [List.length_take, e]; omega
      have own : W2.ownsRow W1.heap.size 25 4 (.slice (some ⟨W1.heap.size, 0, none⟩) 0 0) 0 [] := ⟨rfl, .inr ⟨W1.heap.size, 0, #[], rfl, Nat.le_refl _, hW2 ▸ heap_alloc_new _ _, Nat.le_refl _, Nat.zero_le _, rfl, rfl⟩⟩
      obtain ⟨v', w', r1, r2, r3, r4, _⟩ := app_gen W2 W1.heap.size 23 23 23 25 i0 _ 4 56 Tryd.underlying23 hi0 hz0 hz1 hz2 rfl (by decide) _ 0 [] own (.slice (some ⟨g, 0, none⟩) L.length cp) L.length (cur.toList.take (L.length * 4)) (Src.ofSlice _ Tryd.underlying23 ⟨g, 0, none⟩ L.length cp _ hlen (fun j u hu => by
        rw [add_at, Nat.zero_add, cell_of_row _ _ _ _ _ _ g2, ← Array.getElem?_toList]
        rw [List.getElem?_take] at hu
        split at hu
        · exact hu
        · cases hu) (fun u hu => by
        obtain ⟨j, hj⟩ := List.mem_iff_getElem?.1 hu
        have hj4 : j < L.length * 4 := by
          have := (List.getElem?_eq_some_iff.1 hj).1
          omega
        obtain ⟨x, hx⟩ : ∃ x, L[j / 4]? = some x := ⟨_, List.getElem?_eq_getElem (by omega)⟩
        refine one_of (T1 _ _ hx) u ?_
        rw [List.getElem?_take, if_pos hj4] at hj
        refine List.mem_iff_getElem?.2 ⟨j % 4, ?_⟩
        rw [List.getElem?_take, if_pos (by omega), List.getElem?_drop, show j / 4 * 4 + j % 4 = j by omega]
        exact hj)) (by unfold maxLen; omega) (by omega) b2.size
      rw [Nat.zero_add, List.nil_append] at r2
      have b3 : Below W1.heap.size W1 w' := b2.trans ⟨r3.os, r3.tape, r3.output, r3.size, fun k hk => r3.block k (Nat.lt_of_lt_of_le hk b2.size) (fun e => by
        have : W1.heap.size = k := (Option.some.inj e).symm
        omega)⟩
      obtain ⟨an, cn, rfl⟩ : ∃ an cn, v' = .slice an L.length cn := by
        rcases r2.2 with ⟨rfl, e⟩ | ⟨g, cap, cu, rfl, _⟩
        · exact ⟨none, 0, by rw [e]⟩
        · exact ⟨_, _, rfl⟩
      refine ⟨an, L.length, cn, w', r1, keep b3, keep ?_⟩
      have hlt := r2.lt
      rcases r2.2 with ⟨_, e⟩ | ⟨g', cap', cu, ev', hg', q3, q4, q5, q6, q7⟩
      · exact absurd (List.length_eq_zero_iff.1 e) hL
      · injection ev' with f1 _ f3
        subst f1
        subst f3
        refine .inr ⟨g', cn, cu, rfl, hL, ⟨.inr (by omega), (hlt g' rfl).2⟩, q3, q4, q5, q6, fun j t hj => ?_⟩
        have hx := ht j t hj
        have hl := (List.getElem?_eq_some_iff.1 hj).1
        have e : (cu.toList.drop (j * 4)).take 4 = (cur.toList.drop (j * 4)).take 4 := by
          have e1 := congrArg (fun l => (l.drop (j * 4)).take 4) q7
          simp only [List.drop_take, List.take_take] at e1
          rwa [show min 4 (L.length * 4 - j * 4) = 4 by omega] at e1
        rw [e]
        exact Tel.mono (fun b h => ⟨.inl h, Nat.lt_of_lt_of_le (Nat.lt_of_lt_of_le (h0 b h) B1.out.size) b3.size⟩) (fun b h => (b3.block b (Nat.lt_of_lt_of_le (h0 b h) B1.out.size)).trans (B1.out.block b (h0 b h))) n _ _ hx
  obtain ⟨an, m, cn, w3, run, B3, LS⟩ := KEY
  have X3 := keep (X1.out.below B3.out X1.out.lt)
  have B13 := keep (B1.out.trans (B3.out.mono B1.out.size))
  have H0 := keep h0
  have RUN := keep run
  obtain ⟨d0, d1, d2, d3⟩ := X3.out.cells
  have f0 := X3.out.free 0
  have f1 := X3.out.free 1
  have f2 := X3.out.free 2
  have f3 := X3.out.free 3
  generalize L.length = ln at *
  clear h h0 hm hi0 hz0 hz1 hz2 z1 b2 run
  go_enter Tryd.func22, Tryd.ntmps22
  go_wp2_with ((show wpList _ _ _ ({ dst := some 5, op := Op.call { callee := Callee.builtin Builtin.append, args := _, argTypes := _ }, type := _, pos := _, after := _, guard := _ } :: _) _ _; refine wpList_app_run rfl _ _ _ _ rfl _ _ _ rfl rfl RUN.out ?_))
  (try simp only [Exit.inBlock, Exit.then])
  refine bodyPost_ret (res_rp1 rfl _ _ w.heap.size _ _ _ _ rfl (Box.four X3.out _ _ _ _)) rfl ?_
  rw [HP.out]
  have fz : (set4 w3 w.heap.size (.int .i64 6) (.string ⟨#[]⟩) (.int .i64 0) (.slice an m cn)).heap.size = w3.heap.size := by simp [set4, World.setCell]
  have hlow : ∀ b, ((P0 b ∨ w.heap.size < b) ∧ b < w3.heap.size) → ((P0 b ∨ w.heap.size < b) ∧ b < (set4 w3 w.heap.size (.int .i64 6) (.string ⟨#[]⟩) (.int .i64 0) (.slice an m cn)).heap.size) := fun b h => ⟨h.1, by rw [fz]; exact h.2⟩
  have hneb : ∀ b, ((P0 b ∨ w.heap.size < b) ∧ b < w3.heap.size) → b ≠ w.heap.size := fun b h e => by
    rcases h.1 with q | q
    · have := H0.out b q
      omega
    · omega
  have hsm : ∀ b, ((P0 b ∨ w.heap.size < b) ∧ b < w3.heap.size) → (set4 w3 w.heap.size (.int .i64 6) (.string ⟨#[]⟩) (.int .i64 0) (.slice an m cn)).heap[b]? = w3.heap[b]? := fun b h => four_other (hneb b h) _ _ _ _
  exact ⟨⟨_, rfl, LS.out.mono hlow hsm (fun cs x hx => Tel.mono hlow hsm _ _ _ hx)⟩, Below.four B13.out (Nat.le_refl _) _ _ _ _⟩
end Go.Proofs.YtoalnfkjpdgbiaaDoor
