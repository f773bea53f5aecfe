/-
  Contracts over this program: row tells the texts of a deque, gone through by Each.
-/
import Derived.Test.YtlfkdohajfkhdaaDqEach
namespace Go.Proofs.Ytlfkdohajfkhdaa
open Go.RowKit Go.Shelf
attribute [local go_sem] Oper.semAt_some
set_option linter.unusedVariables false
/-- while the texts come; B: the boxes of the two answers and of the row -/
def RwI (W : World) (B : Nat) (es : List ByteArray) (M : Nat → Prop) (m : Nat) (w : World) : Prop :=
  (∃ v, (¬ M (B + 2) ∧ w.heap[B + 2]? = some (.cells #[v] 32 (0, 0))) ∧ w.ownsRow W.heap.size 9 1 v m ((es.take m).map Value.string) ∧ ∀ k, v.ownBlock = some k → ¬ M k ∧ k ≠ B ∧ k ≠ B + 1 ∧ k ≠ B + 2) ∧
    (¬ M B ∧ w.heap[B]? = some (.cells #[.slice none 0 0] 32 (0, 0))) ∧ (¬ M (B + 1) ∧ w.heap[B + 1]? = some (.cells #[.bool false] 4 (0, 0))) ∧ Below W.heap.size W w ∧ ∀ k, M k → W.heap.size ≤ k
theorem RwI.abd {W : World} {B : Nat} {es : List ByteArray} : Abd (RwI W B es) := by
  rintro M M' m A C ⟨⟨v, ⟨h1, h1'⟩, h2, h3⟩, ⟨h4, h4'⟩, ⟨h5, h5'⟩, h6, h7⟩ hs hx
  exact ⟨⟨v, keepB hs hx _ _ h1 h1', own_kept h2 (fun k hk => hs.2.2 k (own_lt h2 hk) (h3 k hk).1), fun k hk => ⟨hx.lt (own_lt h2 hk) (h3 k hk).1, (h3 k hk).2⟩⟩, keepB hs hx _ _ h4 h4', keepB hs hx _ _ h5 h5', h6.trans (hs.below h6.size h7), hx.ge h6.size h7⟩
theorem each_some (Bd : Nat) (w : World) : (binOp .eql 35 (.func (.func 47) #[] #[.pointer (some ⟨Bd, 0, none⟩)]) .nilFunc).run Try.prog w = .ok (.bool false) w := by
  have e : (Op.equal 35 (.func (.func 47) #[] #[.pointer (some ⟨Bd, 0, none⟩)]) .nilFunc).run Try.prog w = .ok false w := by
    unfold Op.equal
    have e1 : Op.maxDepth = 9999 + 1 := rfl
    rw [e1]
    unfold Op.equalIn
    simp [run_underlying Try.underlying35]
  simp [binOp, go_sem, e]
set_option maxRecDepth 100000 in
set_option maxHeartbeats 2000000 in
theorem row_any (w : World) (b : Nat) (cs : List Chk) (hd : Dq w b cs) :
    Calls Try.prog 25 #[ptr b] w fun e w' => (∃ v, e = .returned (.tuple #[v, .bool true]) ∧ w'.ownsRow w.heap.size 9 1 v (row cs).length ((row cs).map Value.string)) ∧ Below w.heap.size w w' := by
  obtain ⟨es, hes⟩ : ∃ es, row cs = es := ⟨_, rfl⟩
  obtain ⟨n, hn⟩ : ∃ n, es.length = n := ⟨_, rfl⟩
  have hN : n ≤ 1048576 := by rw [← hn, ← hes]; exact hd.1.2.2.2.2
  have HD := keep hd
  have HES := keep hes
  have HN := keep hn
  rw [hes]
  clear hd hes hn
  refine callsIn_wide (n := 9) |>.1 (callsIn_of_wp_marks Try.func25 rfl trivial (wpIn_wide.2 ?_) rfl)
  simp only [Try.ntmps25, List.size_toArray, List.length_cons, List.length_nil, Nat.reduceAdd, Nat.reduceSub, Array.replicate_succ, Array.replicate_zero, List.push_toArray, List.append_toArray, List.nil_append, List.cons_append]
  go_wp2_with fail
  refine (each_any _ _ (.inr ⟨b, rfl⟩)).mono ?_
  rintro _ w4 ⟨rfl, hw4⟩
  obtain ⟨w3, hw3⟩ : ∃ w3, ((w.alloc (.cells #[.slice none 0 0] 32)).alloc (.cells #[.bool false] 4)).alloc (.cells #[.slice none 0 0] 32) = w3 := ⟨_, rfl⟩
  have hz3 : w3.heap.size = w.heap.size + 3 := by rw [← hw3]; simp
  have hb3 : Below w.heap.size w w3 := by rw [← hw3]; exact (((Below.refl _ w).alloc (Nat.le_refl _) _).alloc (by simp) _).alloc (by simp; omega) _
  have h30 : w3.heap[w.heap.size]? = some (.cells #[.slice none 0 0] 32 (0, 0)) := by
    rw [← hw3, Below.heap_alloc _ _ _ (by simp; omega), Below.heap_alloc _ _ _ (by simp)]; exact heap_alloc_new _ _
  have h31 : w3.heap[w.heap.size + 1]? = some (.cells #[.bool false] 4 (0, 0)) := by
    rw [← hw3, Below.heap_alloc _ _ _ (by simp)]
    have := heap_alloc_new (w.alloc (.cells #[.slice none 0 0] 32)) (.cells #[.bool false] 4)
    rwa [World.size_alloc] at this
  have h32 : w3.heap[w.heap.size + 2]? = some (.cells #[.slice none 0 0] 32 (0, 0)) := by
    rw [← hw3]
    have := heap_alloc_new ((w.alloc (.cells #[.slice none 0 0] 32)).alloc (.cells #[.bool false] 4)) (.cells #[.slice none 0 0] 32)
    rwa [World.size_alloc, World.size_alloc] at this
  rw [hw3] at hw4
  have hz4 : w4.heap.size = w3.heap.size + 1 := by rw [hw4]; simp
  have hb34 : Below w3.heap.size w3 w4 := by rw [hw4]; exact (Below.refl _ w3).alloc (Nat.le_refl _) _
  have h4B : w4.heap[w3.heap.size]? = some (.cells #[ptr b] 23 (0, 0)) := by rw [hw4]; exact heap_alloc_new _ _
  have c4B : w4.cell? ⟨w3.heap.size, 0, none⟩ = some (ptr b) := by rw [cell_of_row _ _ _ _ _ _ h4B]; rfl
  have hb4 : Below w.heap.size w w4 := hb3.trans (hb34.mono hb3.size)
  have HI0 : Kept (RwI w w.heap.size es (fun _ => False) 0 w4) :=
    ⟨⟨.slice none 0 0, ⟨id, (hb34.block _ (by omega)).trans h32⟩, ⟨rfl, .inl ⟨rfl, rfl⟩⟩, fun k hk => by cases hk⟩, ⟨id, (hb34.block _ (by omega)).trans h30⟩, ⟨id, (hb34.block _ (by omega)).trans h31⟩, hb4, fun _ h => h.elim⟩
  have C4B := keep c4B
  have HB4 := keep hb4
  have e3 : (((w.alloc (.cells #[.slice none 0 0] 32)).alloc (.cells #[.bool false] 4)).alloc (.cells #[.slice none 0 0] 32)).heap.size = w3.heap.size := by rw [hw3]
  rw [e3, hz3]
  have hnf := each_some (w.heap.size + 3)
  rw [hz3] at C4B
  clear hw3 hw4 hb3 h30 h31 h32 hb34 h4B c4B hb4 e3
  go_wp2
  clear hnf
  obtain ⟨i0, hi0, hz0, hz1, hzb⟩ := parts_of info_strC
  refine (wpIn_wide (n := 9)).1 (range_own (α := Nat × ByteArray) (gf := 47) (lb := #[.pointer (some ⟨w.heap.size + 3, 0, none⟩)]) (by simp [Act.eval]) (enters_of Try.func47 (by kernel_rfl) rfl) (encs := rtV) (L := riT 0 es) (fun _ => rfl)
    (fun W1 hb => by
      have := each_iter (w.heap.size + 3) b cs W1 (HD.out.below (HB4.out.trans (hb.mono HB4.out.size))) ((hb.cell (p := ⟨w.heap.size + 3, 0, none⟩) (by show w.heap.size + 3 < w4.heap.size; omega)).trans C4B.out)
      rwa [HES.out] at this)
    (RwI w w.heap.size es) (fun _ _ _ _ => False) RwI.abd (fun _ _ _ _ _ _ h _ _ => h) HI0.out (fun _ _ _ _ => trivial) ?round ?done ?stop)
  case stop => exact fun _ _ _ _ _ _ h => h.elim
  case done =>
    intro M' D W5 hI hD hDk hM'
    rw [riT_len] at hI
    obtain ⟨⟨v, ⟨j1, j1'⟩, j2, j3⟩, ⟨j4, j4'⟩, ⟨j5, j5'⟩, j6, j7⟩ := hI
    rw [List.take_length] at j2
    obtain ⟨ao, cp, rfl, _⟩ := own_form j2
    have c4 : W5.cell? ⟨w.heap.size + 2, 0, none⟩ = some (.slice ao es.length cp) := by rw [cell_of_row _ _ _ _ _ _ j1']; rfl
    have c2 : W5.cell? ⟨w.heap.size, 0, none⟩ = some (.slice none 0 0) := by rw [cell_of_row _ _ _ _ _ _ j4']; rfl
    have c3 : W5.cell? ⟨w.heap.size + 1, 0, none⟩ = some (.bool false) := by rw [cell_of_row _ _ _ _ _ _ j5']; rfl
    have f2 : W5.frozen? ⟨w.heap.size, 0, none⟩ = false := by simp [World.frozen?, j4']
    have f3 : W5.frozen? ⟨w.heap.size + 1, 0, none⟩ = false := by simp [World.frozen?, j5']
    have hDW := j7 D hD
    have n2 : D ≠ w.heap.size := fun e => j4 (e ▸ hD)
    have n3 : D ≠ w.heap.size + 1 := fun e => j5 (e ▸ hD)
    obtain ⟨L, hL⟩ : ∃ L, es.length = L := ⟨_, rfl⟩
    have HL := keep hL
    rw [hL] at c4 j2 j3
    have J2 := keep j2
    have J3 := keep j3
    have J4 := keep j4'
    have J5 := keep j5'
    have J6 := keep j6
    have HDK := keep hDk
    clear j1 j1' j2 j3 j4 j4' j5 j5' j6 j7 hDk hM' HI0 C4B HB4
    go_wp2
    obtain ⟨W6, hW6⟩ : ∃ W6, (W5.setCell ⟨w.heap.size, 0, none⟩ (.slice ao L cp)).setCell ⟨w.heap.size + 1, 0, none⟩ (.bool true) = W6 := ⟨_, rfl⟩
    rw [hW6]
    have same6 : ∀ k, k ≠ w.heap.size → k ≠ w.heap.size + 1 → W6.heap[k]? = W5.heap[k]? := fun k h1 h2 => by rw [← hW6, Below.heap_setCell _ _ _ _ h2, Below.heap_setCell _ _ _ _ h1]
    have h60 : W6.heap[w.heap.size]? = some (.cells #[.slice ao L cp] 32 (0, 0)) := by rw [← hW6, Below.heap_setCell _ _ _ _ (by simp)]; exact cells_setCell J4.out
    have h61 : W6.heap[w.heap.size + 1]? = some (.cells #[.bool true] 4 (0, 0)) := by
      rw [← hW6]
      exact cells_setCell ((Below.heap_setCell _ _ _ _ (by simp)).trans J5.out)
    have hb6 : Below w.heap.size w W6 := by
      rw [← hW6]
      exact (J6.out.setCell (p := ⟨w.heap.size, 0, none⟩) (by show w.heap.size ≤ w.heap.size; omega) _).setCell (p := ⟨w.heap.size + 1, 0, none⟩) (by show w.heap.size ≤ w.heap.size + 1; omega) _
    refine leave_mark ((same6 D n2 n3).trans HDK.out) ?_
    have e0 : (W6.putObj D (.deferred none)).cell? ⟨w.heap.size, 0, none⟩ = some (.slice ao L cp) := by rw [cell_of_row _ _ _ _ _ _ ((World.putObj_heap_other (Ne.symm n2)).trans h60)]; rfl
    have e1 : (W6.putObj D (.deferred none)).cell? ⟨w.heap.size + 1, 0, none⟩ = some (.bool true) := by rw [cell_of_row _ _ _ _ _ _ ((World.putObj_heap_other (Ne.symm n3)).trans h61)]; rfl
    refine ⟨.tuple #[.slice ao L cp, .bool true], results_cell2 rfl _ _ ⟨w.heap.size, 0, none⟩ ⟨w.heap.size + 1, 0, none⟩ _ _ rfl rfl ?_ ?_, ⟨_, rfl, ?_⟩, hb6.grown (grownBy_putObj' _ D _) hb6.size (fun k e => by cases e; exact hDW)⟩
    · go_simp
    · go_simp
    · rw [HL.out]
      exact own_kept J2.out (fun k hk => (World.putObj_heap_other (fun (e : k = D) => (J3.out k hk).1 (e ▸ hD))).trans (same6 k (J3.out k hk).2.1 (J3.out k hk).2.2.1))
  case round =>
    intro M' l' m x W1 hI hx hl hrec hM'
    obtain ⟨t, het, rfl⟩ : ∃ t, es[m]? = some t ∧ x = (m, t) := by
      rw [riT_at] at hx
      cases e : es[m]? with
      | none => rw [e] at hx; cases hx
      | some y => rw [e] at hx; simp at hx; exact ⟨y, rfl, hx.symm⟩
    have hml : m < n := by rw [← HN.out]; exact (List.getElem?_eq_some_iff.1 het).1
    have HI := keep hI
    have HM' := keep hM'
    have HX := keep het
    clear hI hx hM' hrec HI0 het
    unfold rtV
    gi_wp2
    refine ⟨Mk.refl _ _, fun rl => ?_⟩
    obtain ⟨W2, hW2⟩ : ∃ W2, W1.putObj l' (.loop rl) = W2 := ⟨_, rfl⟩
    rw [hW2]
    have hz2' : W2.heap.size = W1.heap.size := by rw [← hW2]; simp
    have hI2 := RwI.abd M' M' m W1 (W1.putObj l' (.loop rl)) HI.out (Sep.put _ _ hl) (Ext.refl _ _ _)
    rw [hW2] at hI2
    obtain ⟨⟨v, ⟨j1, j1'⟩, j2, j3⟩, ⟨j4, j4'⟩, ⟨j5, j5'⟩, j6, j7⟩ := hI2
    obtain ⟨ao, cp, rfl, _⟩ := own_form j2
    have hH2 : w.heap.size + 2 < W2.heap.size := (Array.getElem?_eq_some_iff.1 j1').1
    have cH : W2.cell? ⟨w.heap.size + 2, 0, none⟩ = some (.slice ao m cp) := by rw [cell_of_row _ _ _ _ _ _ j1']; rfl
    have etk : (es.take (m + 1)).map Value.string = (es.take m).map Value.string ++ [.string t] := by
      obtain ⟨hm', e'⟩ := List.getElem?_eq_some_iff.1 HX.out
      rw [List.take_succ_eq_append_getElem hm', List.map_append, e']
      rfl
    obtain ⟨g, cap, W3, hrun, hown, hgr, hat, hg3⟩ := run_append_lies (P := Try.prog) (w := W2.alloc (.cells #[.string t] 9)) 32 32 w.heap.size 9 i0 _ 1 16 Try.underlying32 hi0 hz0 hz1 hzb rfl (by omega) (.slice ao m cp) m ((es.take m).map Value.string) (j2.alloc _) ⟨W2.heap.size, 0, none⟩ 1 1 [.string t] rfl (World.news_of_block (cs := #[.string t]) (t := 9) (fr := (0, 0)) (heap_alloc_new W2 _)) (by simp [Value.oneCell']) (by omega) (by unfold maxLen; omega) (by omega) (by simp; omega) (W2.heap.size + 1) (by simp)
    have MA := keep hrun
    have hs3 : W2.heap.size + 1 ≤ W3.heap.size := by have := hgr.size; simpa using this
    have same : ∀ k, k < W2.heap.size → (Value.slice ao m cp).ownBlock ≠ some k → W3.heap[k]? = W2.heap[k]? := fun k hk hn => by
      rw [hgr.block k (by simp; omega) (fun e => hn e.symm), Below.heap_alloc _ _ _ hk]
    have h3H : W3.heap[w.heap.size + 2]? = some (.cells #[.slice ao m cp] 32 (0, 0)) := (same _ hH2 (fun e => (j3 _ e).2.2.2 rfl)).trans j1'
    have c3H : W3.cell? ⟨w.heap.size + 2, 0, none⟩ = some (.slice ao m cp) := by rw [cell_of_row _ _ _ _ _ _ h3H]; rfl
    have f3H : W3.frozen? ⟨w.heap.size + 2, 0, none⟩ = false := by simp [World.frozen?, h3H]
    have fin : Kept (rdPost (RwI w w.heap.size es) (fun _ _ _ _ => False) M' (m + 1) W2 .normal { tmps := #[], defers := [] } (W3.setCell ⟨w.heap.size + 2, 0, none⟩ (.slice (some ⟨g, 0, none⟩) (m + 1) cap))) := by
      have hgn : g ≠ w.heap.size ∧ g ≠ w.heap.size + 1 ∧ g ≠ w.heap.size + 2 := by
        rcases hat with h | h
        · exact ⟨(j3 _ h).2.1, (j3 _ h).2.2.1, (j3 _ h).2.2.2⟩
        · omega
      have hgM : ¬ M' g := fun e => by
        rcases hat with h | h
        · exact (j3 _ h).1 e
        · have := HM'.out g e; omega
      have sameS : ∀ k, k ≠ w.heap.size + 2 → (W3.setCell ⟨w.heap.size + 2, 0, none⟩ (.slice (some ⟨g, 0, none⟩) (m + 1) cap)).heap[k]? = W3.heap[k]? := fun k hk => Below.heap_setCell _ _ _ _ hk
      have hss : (W3.setCell ⟨w.heap.size + 2, 0, none⟩ (.slice (some ⟨g, 0, none⟩) (m + 1) cap)).heap.size = W3.heap.size := by simp [World.setCell]
      refine ⟨⟨by rw [hss]; omega, fun k hk => ?_⟩, ⟨_, ⟨j1, cells_setCell h3H⟩, ?_, fun k hk => ?_⟩, ⟨j4, ?_⟩, ⟨j5, ?_⟩, ?_, j7⟩
      · have hkb := HM'.out k hk
        rw [sameS k (fun e => j1 (e ▸ hk)), same k (by omega) (fun e => (j3 k e).1 hk)]
      · rw [etk]
        exact own_kept hown (fun k hk => by cases hk; exact sameS g hgn.2.2)
      · cases hk
        exact ⟨hgM, hgn⟩
      · rw [sameS _ (by omega), same _ (by omega) (fun e => (j3 _ e).2.1 rfl)]; exact j4'
      · rw [sameS _ (by omega), same _ (by omega) (fun e => (j3 _ e).2.2.1 rfl)]; exact j5'
      · refine j6.trans ⟨hgr.os, hgr.tape, hgr.output, by rw [hss]; omega, fun k hk => ?_⟩
        rw [sameS k (by omega), same k (by omega) (fun e => ?_)]
        have := (j2.lt k e).1
        omega
    clear hrun hown hgr hat same h3H j1 j1' j2 j3 j4 j4' j5 j5' j6 j7 hW2 hz2' etk
    gi_wp2_with (first | (show wpListIn _ _ _ _ _ ({ dst := some 22, op := Op.call { callee := Callee.builtin Builtin.append, args := _, argTypes := _ }, type := _, pos := _, after := _, guard := _ } :: _) _ _; refine wpListIn_app_run rfl (.tmp 19) (.tmp 21) 32 rfl _ _ _ rfl rfl MA.out ?_))
    exact fin.out
end Go.Proofs.Ytlfkdohajfkhdaa
