/-
  Contracts over this program: Array of any replies.
-/
import Derived.Test.YtoalnfkjpdgbiaaDoorRpSame
import Derived.Shelf.SlicesE.Clone
/-
  Contracts over this program: slices.Clone of replies; Array.
-/
namespace Go.Proofs.YtoalnfkjpdgbiaaDoor
open Go.RowKit
set_option linter.unusedVariables false
set_option maxRecDepth 100000 in
set_option maxHeartbeats 1000000 in
theorem clone_any (g o n c : Nat) (news : List Value) (w : World) (hn : news.length = n * 4) (hm : n ≤ 1000000000) (hl : ∀ j u, news[j]? = some u → w.cell? ⟨g, o + j, none⟩ = some u) (h1 : ∀ u ∈ news, u.oneCell' = true) :
    Calls Tryd.prog 47 #[.slice (some ⟨g, o, none⟩) n c] w fun e w' => ∃ v', e = .returned v' ∧ w'.ownsRow w.heap.size 25 4 v' n news ∧ Below w.heap.size w w' := by
  obtain ⟨i0, hi0, hz0, hz1, hz2⟩ := parts_of info_rp
  obtain ⟨W1, hW1⟩ : ∃ x, w.alloc (.cells #[] 25) = x := ⟨_, rfl⟩
  have b1 : Below w.heap.size w W1 := hW1 ▸ (Below.refl _ _).alloc (Nat.le_refl _) _
  have own : W1.ownsRow w.heap.size 25 4 (.slice (some ⟨w.heap.size, 0, none⟩) 0 0) 0 [] := ⟨rfl, .inr ⟨w.heap.size, 0, #[], rfl, Nat.le_refl _, hW1 ▸ heap_alloc_new _ _, Nat.le_refl _, Nat.zero_le _, rfl, rfl⟩⟩
  obtain ⟨v', w', r1, r2, r3, r4, _⟩ := app_gen W1 w.heap.size 23 23 23 25 i0 _ 4 56 Tryd.underlying23 hi0 hz0 hz1 hz2 rfl (by decide) _ 0 [] own (.slice (some ⟨g, o, none⟩) n c) n news (Src.ofSlice _ Tryd.underlying23 ⟨g, o, none⟩ n c news hn (fun j u hu => by
    rw [add_at]
    have h := hl j u hu
    exact (World.cell?_of_block (b1.block g (World.block_lt_of_cell? w ⟨g, o + j, none⟩ h))).trans h) h1) (by unfold maxLen; omega) (by omega) b1.size
  rw [Nat.zero_add, List.nil_append] at r2
  have B : Kept (Below w.heap.size w w') := keep (b1.trans ⟨r3.os, r3.tape, r3.output, r3.size, fun k hk => r3.block k (Nat.lt_of_lt_of_le hk b1.size) (fun e => by
    have : w.heap.size = k := (Option.some.inj e).symm
    omega)⟩)
  have R1 := keep r1
  have R2 := keep r2
  have hW1' := hW1
  clear own r1 r2 r3 r4 hl h1 hz0 hz1 hz2 hi0 b1 hW1 hn hm
  have q22 : ∀ (w : World) (a : Option Addr) (n c n' c' : Nat), (binOp .eql 23 (.slice a n c) (.slice none n' c')).run Tryd.prog w = .ok (.bool a.isNone) w := fun w a n c n' c' => Lib.run_eql_slice_nil w _ _ a n c n' c' Tryd.underlying23
  go_enter Tryd.func47, Tryd.ntmps47
  go_wp2_with ((show wpList _ _ _ ({ dst := some 7, op := Op.call { callee := Callee.builtin Builtin.append, args := _, argTypes := _ }, type := _, pos := _, after := _, guard := _ } :: _) _ _; refine wpList_app_run rfl _ _ _ _ rfl _ _ _ rfl rfl R1.out ?_))
  go_ret
  exact ⟨_, rfl, R2.out, B.out⟩
set_option maxRecDepth 100000 in
theorem clone_nil (w : World) : Calls Tryd.prog 47 #[.slice none 0 0] w fun e w' => e = .returned (.slice none 0 0) ∧ w' = w := by
  have q22 : ∀ (w : World) (a : Option Addr) (n c n' c' : Nat), (binOp .eql 23 (.slice a n c) (.slice none n' c')).run Tryd.prog w = .ok (.bool a.isNone) w := fun w a n c n' c' => Lib.run_eql_slice_nil w _ _ a n c n' c' Tryd.underlying23
  go_enter Tryd.func47, Tryd.ntmps47
  go_wp2
  go_ret
  exact ⟨rfl, rfl⟩
end Go.Proofs.YtoalnfkjpdgbiaaDoor

namespace Go.Proofs.YtoalnfkjpdgbiaaDoor
open Go.RowKit
set_option linter.unusedVariables false
/-- a row of one's own, out of cells that tell replies, is a list in the memory -/
theorem lst_of_own {n lo q : Nat} {w w' : World} {v' : Value} {L : List (Rp.T n)} {cur : Array Value} (hL : L ≠ []) (ho : w'.ownsRow lo 25 4 v' L.length (cur.toList.take (L.length * 4))) (hb : Below w.heap.size w w') (hq : q < lo) (hqw : q ≤ w.heap.size)
    (ht : ∀ j x, L[j]? = some x → Tel (· < q) w n ((cur.toList.drop (j * 4)).take 4) x) : Lst (fun b => b ≠ q ∧ b < w'.heap.size) w' (Tel (fun b => b ≠ q ∧ b < w'.heap.size) w' n) v' L := by
  have hlt := ho.lt
  rcases ho.2 with ⟨_, e⟩ | ⟨g, cap, cu, rfl, hg, h3, h4, h5, h6, h7⟩
  · exact absurd (List.length_eq_zero_iff.1 e) hL
  · refine .inr ⟨g, cap, cu, rfl, hL, ⟨by have := (hlt g rfl).1; omega, (hlt g rfl).2⟩, h3, h4, h5, h6, fun j t hj => ?_⟩
    have hx := ht j t hj
    have hl := (List.getElem?_eq_some_iff.1 hj).1
    have e : (cu.toList.drop (j * 4)).take 4 = (cur.toList.drop (j * 4)).take 4 := by
      have e1 := congrArg (fun l => (l.drop (j * 4)).take 4) h7
      simp only [List.drop_take, List.take_take] at e1
      rwa [show min 4 (L.length * 4 - j * 4) = 4 by omega] at e1
    rw [e]
    exact Tel.mono (fun b h => ⟨by omega, Nat.lt_of_lt_of_le (Nat.lt_of_lt_of_le h hqw) hb.size⟩) (fun b h => hb.block b (Nat.lt_of_lt_of_le h hqw)) n _ _ hx
set_option maxRecDepth 100000 in
set_option maxHeartbeats 1000000 in
theorem Array_any (n : Nat) (L : List (Rp.T n)) (v : Value) (w : World) (h : Lst (· < w.heap.size) w (Tel (· < w.heap.size) w n) v L) (hL : L ≠ []) (hm : L.length ≤ 1000000000) :
    Calls Tryd.prog 21 #[v] w fun e w' => (∃ v', e = .returned (.agg #[.int .i64 6, .string ⟨#[]⟩, .int .i64 0, v']) ∧ Lst (· < w'.heap.size) w' (Tel (· < w'.heap.size) w' n) v' L) ∧ Below w.heap.size w w' := by
  obtain ⟨W1, hW1, X1, B1⟩ := rep_pre w
  rcases h with ⟨e, _⟩ | ⟨g, cap, cur, rfl, _, hg, hc, h5, h6, h7, ht⟩
  · exact absurd e hL
  have T1 : ∀ j x, L[j]? = some x → Tel (· < w.heap.size) W1 n ((cur.toList.drop (j * 4)).take 4) x := fun j x hx =>
    Tel.mono (fun b h => h) (fun b h => B1.out.block b h) n _ _ (ht j x hx)
  have g1 : W1.heap[g]? = some (.cells cur 25 (0, 0)) := (B1.out.block g hg).trans hc
  have hlen : (cur.toList.take (L.length * 4)).length = L.length * 4 := by
    have e : cur.toList.length = cap * 4 := by rw [← h7]; exact Array.length_toList
    rw [List.length_take, e]; omega
  have CL := keep (clone_any g 0 L.length cap (cur.toList.take (L.length * 4)) W1 hlen hm (fun j u hu => by
    rw [cell_of_row _ _ _ _ _ _ g1, Nat.zero_add, ← Array.getElem?_toList]
    rw [List.getElem?_take] at hu
    split at hu
    · exact hu
    · cases hu) (fun u hu => by
    obtain ⟨j, hj⟩ := List.mem_iff_getElem?.1 hu
    have hj4 : j < L.length * 4 := by
      have := (List.getElem?_eq_some_iff.1 hj).1
      omega
    obtain ⟨x, hx⟩ : ∃ x, L[j / 4]? = some x := ⟨_, List.getElem?_eq_getElem (by omega)⟩
    refine one_of (T1 _ _ hx) u ?_
    rw [List.getElem?_take, if_pos hj4] at hj
    refine List.mem_iff_getElem?.2 ⟨j % 4, ?_⟩
    rw [List.getElem?_take, if_pos (by omega), List.getElem?_drop, show j / 4 * 4 + j % 4 = j by omega]
    exact hj))
  have TT := keep T1
  have HL := keep hL
  generalize hm' : L.length = m at *
  have HM := keep hm'
  clear hg hc h5 h6 h7 ht T1 g1 hlen hm hm' hL
  go_enter Tryd.func21, Tryd.ntmps21
  go_wp2_with fail
  refine CL.out.mono ?_
  rintro e w2 ⟨v', rfl, ho, b2⟩
  have X2 := keep (X1.out.below b2 X1.out.lt)
  have B2 := keep (B1.out.trans (b2.mono B1.out.size))
  have LS := keep (lst_of_own (q := w.heap.size) HL.out (by rw [HM.out]; exact ho) b2 X1.out.lt B1.out.size TT.out)
  have far := keep (fun k (hk : v'.ownBlock = some k) => (ho.lt k hk).1)
  obtain ⟨ao, c', rfl⟩ : ∃ ao c', v' = .slice ao m c' := by
    rcases ho.2 with ⟨rfl, e⟩ | ⟨g, cap, cu, rfl, _⟩
    · exact ⟨none, 0, by rw [e]⟩
    · exact ⟨_, _, rfl⟩
  obtain ⟨d0, d1, d2, d3⟩ := X2.out.cells
  have f0 := X2.out.free 0
  have f1 := X2.out.free 1
  have f2 := X2.out.free 2
  have f3 := X2.out.free 3
  clear b2 ho CL hW1
  go_wp2
  (try simp only [Exit.inBlock, Exit.then])
  refine bodyPost_ret (res_rp1 rfl _ _ w.heap.size _ _ _ _ rfl (Box.four X2.out _ _ _ _)) rfl ?_
  refine ⟨⟨_, rfl, ?_⟩, Below.four B2.out (Nat.le_refl _) _ _ _ _⟩
  have fz : (set4 w2 w.heap.size (.int .i64 6) (.string ⟨#[]⟩) (.int .i64 0) (.slice ao m c')).heap.size = w2.heap.size := by simp [set4, World.setCell]
  have hlow : ∀ b, (b ≠ w.heap.size ∧ b < w2.heap.size) → b < (set4 w2 w.heap.size (.int .i64 6) (.string ⟨#[]⟩) (.int .i64 0) (.slice ao m c')).heap.size := fun b h => by rw [fz]; exact h.2
  have hsm : ∀ b, (b ≠ w.heap.size ∧ b < w2.heap.size) → (set4 w2 w.heap.size (.int .i64 6) (.string ⟨#[]⟩) (.int .i64 0) (.slice ao m c')).heap[b]? = w2.heap[b]? := fun b h => four_other h.1 _ _ _ _
  exact LS.out.mono hlow hsm (fun cs x hx => Tel.mono hlow hsm _ _ _ hx)
set_option maxRecDepth 100000 in
theorem Array_none (w : World) :
    Calls Tryd.prog 21 #[.slice none 0 0] w fun e w' => e = .returned (.agg #[.int .i64 6, .string ⟨#[]⟩, .int .i64 0, .slice none 0 0]) ∧ Below w.heap.size w w' := by
  go_enter Tryd.func21, Tryd.ntmps21
  go_wp2_with fail
  refine (clone_nil _).mono ?_
  rintro e w2 ⟨rfl, rfl⟩
  go_wp2
  (try simp only [Exit.inBlock, Exit.then])
  refine bodyPost_ret (res_rp1 rfl _ _ _ _ _ _ _ rfl (Box.new _ _ _ _ _)) rfl ?_
  exact ⟨rfl, (Below.refl _ _).alloc (Nat.le_refl _) _⟩
end Go.Proofs.YtoalnfkjpdgbiaaDoor
