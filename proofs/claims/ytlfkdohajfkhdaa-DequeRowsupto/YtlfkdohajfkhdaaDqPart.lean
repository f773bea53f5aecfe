/-
  Contracts over this program: part, a full chunk in two.
-/
import Derived.Test.YtlfkdohajfkhdaaDqPop
namespace Go.Proofs.Ytlfkdohajfkhdaa
open Go.RowKit Go.Shelf
set_option linter.unusedVariables false
/-- two chunks that stand side by side have other texts now, the row is the same -/
theorem dq_two {w w' : World} {b c d : Nat} {A B : List Chk} {ts us ts' us' : List ByteArray} (hd : Dq0 w b (A ++ (c, ts) :: (d, us) :: B)) (hr : ts' ++ us' = ts ++ us) (hc : ∀ pv nv, Ck w c pv nv ts → Ck w' c pv nv ts') (hc2 : ∀ pv nv, Ck w d pv nv us → Ck w' d pv nv us')
    (hw : (w'.os = w.os ∧ w'.tape = w.tape ∧ w'.output = w.output) ∧ w'.heap.size = w.heap.size) (hk : ∀ k, k ≠ c → k ≠ d → w'.heap[k]? = w.heap[k]?) :
    Dq0 w' b (A ++ (c, ts') :: (d, us') :: B) ∧ Fd b (A ++ (c, ts) :: (d, us) :: B) w w' (A ++ (c, ts') :: (d, us') :: B) := by
  obtain ⟨d1, d2, d3, d4, d5⟩ := hd
  obtain ⟨n1, n2, n3, n4, n5⟩ := nd_mem d3
  have d3' : (b :: ((A ++ [(c, ts)]) ++ (d, us) :: B).map (·.1)).Nodup := by rw [List.append_assoc]; exact d3
  obtain ⟨m1, m2, m3, m4, m5⟩ := nd_mem d3'
  obtain ⟨cA, cC⟩ := ch_app.1 d2
  have hrow : row (A ++ (c, ts') :: (d, us') :: B) = row (A ++ (c, ts) :: (d, us) :: B) := by
    simp only [row_app, row_cons]
    rw [← List.append_assoc ts', ← List.append_assoc ts, hr]
  have e1 : hdv (A ++ (c, ts') :: (d, us') :: B) nul = hdv (A ++ (c, ts) :: (d, us) :: B) nul := by cases A <;> rfl
  have e2 : ltv (A ++ (c, ts') :: (d, us') :: B) nul = ltv (A ++ (c, ts) :: (d, us) :: B) nul := by rw [ltv_app, ltv_app]; rfl
  have em : (A ++ (c, ts') :: (d, us') :: B).map (·.1) = (A ++ (c, ts) :: (d, us) :: B).map (·.1) := by simp
  refine ⟨⟨?_, ch_app.2 ⟨?_, hc _ _ cC.1, hc2 _ _ cC.2.1, ?_⟩, by rw [em]; exact d3, by rw [hrow]; exact d4, by rw [hrow]; exact d5⟩, Fd.row (cs' := A ++ (c, ts) :: (d, us) :: B) ⟨⟨hw.1, Nat.le_of_eq hw.2.symm, fun k hk' hn => hk k (fun e => hn (.inr ⟨(c, ts), by simp, e.symm⟩)) (fun e => hn (.inr ⟨(d, us), by simp, e.symm⟩))⟩, fun _ h => .inl h⟩ em.symm⟩
  · rw [hrow, e1, e2]
    exact (hk b n1 m1).trans d1
  · exact cA.kept (fun x hx => hk _ (n2 x hx) (m2 x (by simp [hx])))
  · exact cC.2.2.kept (fun x hx => hk _ (n3 x (by simp [hx])) (m3 x hx))
theorem sl_all (w : World) (c : Nat) : (Instr.sliceAt 70 (.pointer (some ⟨c, 3, none⟩)) none none none).run Try.prog w = .ok (.slice (some ⟨c, 3, none⟩) 32 32) w := by
  rw [run_sliceAt_array_all w 70 ⟨c, 3, none⟩ arr_is, arr_size, arr_len, Result.andThen_ok]
  congr 1
theorem take_32 {X ts : List ByteArray} (h : X.length = 32) (ht : X.take ts.length = ts) (hl : ts.length = 32) : X = ts := by
  rw [hl] at ht
  rw [← ht, List.take_of_length_le (by omega)]
set_option maxRecDepth 100000 in
set_option maxHeartbeats 4000000 in
theorem part_any (w : World) (b c : Nat) (A B : List Chk) (ts : List ByteArray) (hd : Dq0 w b (A ++ (c, ts) :: B)) (hl : ts.length = 32) :
    Calls Try.prog 52 #[ptr b, ptr c] w fun e w' => e = .returned (ptr w.heap.size) ∧ Dq0 w' b (A ++ (c, ts.take 16) :: (w.heap.size, ts.drop 16) :: B) ∧ Fd b (A ++ (c, ts) :: B) w w' (A ++ (c, ts.take 16) :: (w.heap.size, ts.drop 16) :: B) := by
  have MO0 := open_any w b (A ++ [(c, ts)]) B (by rw [List.append_assoc]; exact hd)
  rw [ltv_snoc, List.append_assoc, List.append_assoc] at MO0
  have MO := keep MO0
  have HL := keep hl
  clear MO0 hd hl
  go_enter Try.func52, Try.ntmps52
  go_wp2_with fail
  refine Calls.mono MO.out ?_
  rintro _ w2 ⟨rfl, o1, o2⟩
  obtain ⟨d, hd⟩ : ∃ d, d = w.heap.size := ⟨_, rfl⟩
  have o1 : Dq0 w2 b (A ++ (c, ts) :: (d, []) :: B) := by rw [hd]; exact o1
  have o2 : Fd b (A ++ (c, ts) :: B) w w2 (A ++ (c, ts) :: (d, []) :: B) := by rw [hd]; exact o2
  rw [← hd]
  obtain ⟨q1, q2, q3, q4, q5⟩ := id o1
  have hcC := (ch_app.1 q2).2
  have nd := nd_mem (A := A ++ [(c, ts)]) (by rw [List.append_assoc]; exact q3)
  have hcd : c ≠ d := nd.2.1 (c, ts) (by simp)
  obtain ⟨X, hX, hXt⟩ := hcC.1.cx
  obtain ⟨Y, hY, _⟩ := hcC.2.1.cx
  have hXe : X = ts := take_32 hX.1 hXt HL.out
  rw [HL.out] at hX
  subst hXe
  have hcp : (Builtin.copy_ #[32, 32] 3 #[.slice (some ⟨d, 3, none⟩) 32 32, .slice (some ⟨c, 19, none⟩) 16 16]).run Try.prog w2.drew = .ok (goInt (16 : Nat)) (w2.drew.setCells d 3 ((X.drop 16).map Value.string)) := by
    have h := run_copy_cells (P := Try.prog) w2.drew 32 32 3 9 d 3 32 32 ⟨c, 19, none⟩ 16 16 ((X.drop 16).map Value.string) Try.underlying32 info_str (by rw [List.length_map, List.length_drop, HL.out]; rfl) (fun j v hv => by
      have hj : j < 16 := by have := (List.getElem?_eq_some_iff.1 hv).1; rw [List.length_map, List.length_drop, HL.out] at this; omega
      rw [show (⟨c, 19, none⟩ : Addr).add j = ⟨c, 3 + (16 + j), none⟩ by unfold Addr.add; split <;> simp_all <;> omega]
      rw [List.getElem?_map, List.getElem?_drop, List.getElem?_eq_getElem (by rw [HL.out]; omega)] at hv
      have := hX.cells.2.2.2.1 (16 + j) _ (List.getElem?_eq_getElem (by rw [HL.out]; omega))
      show w2.cell? _ = _
      rw [this]
      simpa using hv) (fun j hj => by
      rw [List.length_map, List.length_drop, HL.out] at hj
      have := hY.cells.2.2.2.1 j _ (List.getElem?_eq_getElem (by rw [hY.1]; omega))
      show (w2.cell? _).isSome = true
      rw [this]; rfl) (fun j hj => hY.cells.2.2.2.2 _) (fun v hv => by obtain ⟨x, _, rfl⟩ := List.mem_map.1 hv; rfl)
    rw [List.length_map, List.length_drop, HL.out] at h
    exact h
  have s0 := fun w => sl_all w d
  have s16 : ∀ w, (Instr.sliceAt 70 (.pointer (some ⟨c, 3, none⟩)) (some (.int .i64 16)) none none).run Try.prog w = .ok (.slice (some ⟨c, 19, none⟩) 16 16) w := fun w => sl_from w c 16 16 rfl (by decide)
  have g1 := Cx.setTs (w := w2.drew) (X.drop 16) 0 (show Cx w2.drew d _ _ _ Y from hY)
  have g1 : Cx (w2.drew.setCells d 3 ((X.drop 16).map Value.string)) d _ _ _ (layS Y 0 (X.drop 16)) := g1
  have oth1 : ∀ k, k ≠ d → (w2.drew.setCells d 3 ((X.drop 16).map Value.string)).heap[k]? = w2.heap[k]? := fun k hk => setCells_other hk _ _ _
  have sam1 := setCells_same ((X.drop 16).map Value.string) 3 w2.drew d
  obtain ⟨w3, hw3⟩ : ∃ x, x = w2.drew.setCells d 3 ((X.drop 16).map Value.string) := ⟨_, rfl⟩
  rw [← hw3] at hcp g1 oth1 sam1
  have k3 := g1.cells.2.2.1
  have z3 := g1.cells.2.2.2.2 2
  have g2 := g1.setN 16
  have c4 : Cx (w3.setCell ⟨d, 2, none⟩ (.int .i64 (16 : Nat))) c _ _ 32 X := ⟨hX.1, (Below.heap_setCell _ _ _ _ hcd).trans ((oth1 c hcd).trans hX.2)⟩
  have oth2 : ∀ k, k ≠ d → (w3.setCell ⟨d, 2, none⟩ (.int .i64 (16 : Nat))).heap[k]? = w2.heap[k]? := fun k hk => (Below.heap_setCell _ _ _ _ hk).trans (oth1 k hk)
  have siz2 : (w3.setCell ⟨d, 2, none⟩ (.int .i64 (16 : Nat))).heap.size = w2.heap.size := (set_size _ _ _).trans sam1.1
  have sam2 : (w3.setCell ⟨d, 2, none⟩ (.int .i64 (16 : Nat))).os = w2.os ∧ (w3.setCell ⟨d, 2, none⟩ (.int .i64 (16 : Nat))).tape = w2.tape ∧ (w3.setCell ⟨d, 2, none⟩ (.int .i64 (16 : Nat))).output = w2.output := sam1.2
  obtain ⟨w4, hw4⟩ : ∃ x, x = w3.setCell ⟨d, 2, none⟩ (.int .i64 (16 : Nat)) := ⟨_, rfl⟩
  rw [← hw4] at g2 c4 oth2 siz2 sam2
  have hcl := clear_any w4 c _ _ 32 X c4 16 16 16 (by decide) 0
  have hcl : (Builtin.clear_ #[32] 0 #[.slice (some ⟨c, 19, none⟩) 16 16]).run Try.prog w4 = .ok (.tuple #[]) (w4.setCells c (3 + 16) ((List.replicate 16 ByteArray.empty).map Value.string)) := hcl
  have g5 := Cx.setTs (w := w4) (List.replicate 16 ByteArray.empty) 16 c4
  have d5 : Cx (w4.setCells c (3 + 16) ((List.replicate 16 ByteArray.empty).map Value.string)) d _ _ 16 _ := ⟨g2.1, (setCells_other hcd.symm _ _ _).trans g2.2⟩
  have oth5 : ∀ k, k ≠ c → k ≠ d → (w4.setCells c (3 + 16) ((List.replicate 16 ByteArray.empty).map Value.string)).heap[k]? = w2.heap[k]? := fun k hk hk2 => (setCells_other hk _ _ _).trans (oth2 k hk2)
  have sam5 := setCells_same ((List.replicate 16 ByteArray.empty).map Value.string) (3 + 16) w4 c
  obtain ⟨w5, hw5⟩ : ∃ x, x = w4.setCells c (3 + 16) ((List.replicate 16 ByteArray.empty).map Value.string) := ⟨_, rfl⟩
  rw [← hw5] at hcl g5 d5 oth5 sam5
  have k5 := g5.cells.2.2.1
  have z5 := g5.cells.2.2.2.2 2
  have g6 := g5.setN 16
  have fin := dq_two (w' := w5.setCell ⟨c, 2, none⟩ (.int .i64 (16 : Nat))) (ts' := X.take 16) (us' := X.drop 16) o1 (by simp) (fun pv nv hck => by
      obtain ⟨rfl, rfl⟩ := ck_ties hcC.1 hck
      refine g6.ck (by decide) ?_
      apply List.ext_getElem?
      intro i
      rw [List.getElem?_take, List.getElem?_take]
      split
      · rw [layS_at _ _ _ _ (by rw [hX.1, List.length_replicate]; decide), if_neg (by omega)]
      · rfl) (fun pv nv hck => by
      obtain ⟨rfl, rfl⟩ := ck_ties hcC.2.1 hck
      refine Cx.ck (n := 16) (X := layS Y 0 (X.drop 16)) ⟨d5.1, (Below.heap_setCell _ _ _ _ hcd.symm).trans d5.2⟩ (by decide) ?_
      apply List.ext_getElem?
      intro i
      rw [List.getElem?_take]
      have hdl : (X.drop 16).length = 16 := by rw [List.length_drop, hX.1]
      split
      · rw [layS_at _ _ _ _ (by rw [hdl, hY.1]; decide), if_pos (by omega), Nat.sub_zero]
      · rw [List.getElem?_eq_none (by omega)]) ⟨⟨sam5.2.1.trans sam2.1, sam5.2.2.1.trans sam2.2.1, sam5.2.2.2.trans sam2.2.2⟩, (set_size _ _ _).trans (sam5.1.trans siz2)⟩ (fun k h1 h2 => (Below.heap_setCell _ _ _ _ h1).trans (oth5 k h1 h2))
  have FIN := keep fin
  have O2 := keep o2
  have HDD := keep hd
  have hw4' : w3.setCell ⟨d, 2, none⟩ (.int .i64 16) = w4 := hw4.symm
  clear hw4 hw5 fin hd o1 o2 q1 q2 q3 q4 q5 hcC nd hX hY hXt g1 g2 c4 oth1 oth2 siz2 sam1 sam2 g5 d5 oth5 sam5 g6 hw3
  go_wp2_with fail
  go_region
  go_wp2
  go_ret
  rw [← HDD.out]
  exact ⟨rfl, FIN.out.1, Fd.trans O2.out FIN.out.2⟩
/-- where a text goes that is put ahead of place i -/
structure Home (cs : List Chk) (i : Nat) (A : List Chk) (c : Nat) (ts : List ByteArray) (B : List Chk) (p : Nat) : Prop where
  is : cs = A ++ (c, ts) :: B ∨ (cs = [] ∧ A = [] ∧ ts = [] ∧ B = [])
  at' : i = (row A).length + p
  le : p ≤ ts.length
  last : p < ts.length ∨ B = []
set_option maxRecDepth 100000 in
set_option maxHeartbeats 2000000 in
theorem home_any (w : World) (b : Nat) (cs : List Chk) (i : Nat) (hd : Dq w b cs) (hi : i ≤ (row cs).length) :
    Calls Try.prog 51 #[ptr b, .int .i64 i] w fun e w' => ∃ A c ts B p, Home cs i A c ts B p ∧ e = .returned (.tuple #[ptr c, .int .i64 (p : Nat)]) ∧ Dq0 w' b (A ++ (c, ts) :: B) ∧ Fd b cs w w' (A ++ (c, ts) :: B) := by
  have hN := hd.1.2.2.2.2
  have d2 := hd.1.1.four.2.2.1
  by_cases hlt : i < (row cs).length
  · have MF := keep (find_in w b cs i hd hlt)
    have HD := keep hd
    obtain ⟨N, hNN⟩ : ∃ N, N = (row cs).length := ⟨_, rfl⟩
    rw [← hNN] at d2 hlt hN
    have z1 : (i : Int) < (N : Int) := by omega
    clear hd hi hlt hN hNN
    go_enter Try.func51, Try.ntmps51
    go_wp2_with fail
    refine MF.out.mono ?_
    rintro _ w1 ⟨⟨A, c, ts, B, hA, rfl⟩, hb⟩
    have HA := keep hA
    have HB := keep hb
    clear hA hb
    obtain ⟨p, hp⟩ : ∃ p, p = i - (row A).length := ⟨_, rfl⟩
    rw [← hp]
    have HP := keep hp
    clear hp
    go_wp2
    go_ret2
    obtain ⟨h1, h2, h3⟩ := HA.out
    have := HP.out
    exact ⟨A, c, ts, B, p, ⟨.inl h1, by omega, by omega, .inl (by omega)⟩, rfl, by rw [← h1]; exact (HD.out.below HB.out).1, by rw [← h1]; exact Fd.of_below HB.out⟩
  · have hie : i = (row cs).length := by omega
    have d1 := hd.1.1.four.2.1
    obtain ⟨N, hNN⟩ : ∃ N, N = (row cs).length := ⟨_, rfl⟩
    rw [← hNN] at d2 hN hie
    have z1 : ¬ (i : Int) < (N : Int) := by omega
    have HIE := keep hie
    have HNN := keep hNN
    clear hi hlt hN hNN hie
    rcases snoc_or (A := cs) with rfl | ⟨A, c, ts, rfl⟩
    · have MO := keep (open_any w b [] [] hd.1)
      have d1' : w.cell? ⟨b, 1, none⟩ = some (.pointer none) := d1
      clear hd d1
      go_enter Try.func51, Try.ntmps51
      go_wp2_with fail
      refine Calls.mono MO.out ?_
      rintro _ w2 ⟨rfl, o1, o2⟩
      have f2 : w2.cell? ⟨b, 1, none⟩ = some (ptr w.heap.size) := o1.1.four.2.1
      have f3 : w2.cell? ⟨w.heap.size, 2, none⟩ = some (.int .i64 0) := o1.2.1.1.cells.2.2.1
      have O := keep (And.intro o1 o2)
      clear o1 o2 MO d1' d2
      go_wp2_with fail
      go_region
      go_wp2
      go_ret2
      refine ⟨[], w.heap.size, [], [], 0, ⟨.inr ⟨rfl, rfl, rfl, rfl⟩, by rw [HIE.out, HNN.out]; rfl, Nat.le_refl _, .inr rfl⟩, rfl, O.out.1, O.out.2⟩
    · have ck := (ch_app.1 hd.1.2.1).2.1.cells.2.2.1
      rw [ltv_snoc] at d1
      have HD := keep hd
      obtain ⟨t, ht⟩ : ∃ t, t = ts.length := ⟨_, rfl⟩
      rw [← ht] at ck
      have HT := keep ht
      clear hd ht
      go_enter Try.func51, Try.ntmps51
      go_wp2_with fail
      go_region
      go_wp2
      go_ret2
      exact ⟨A, c, ts, [], t, ⟨.inl rfl, by rw [HIE.out, HNN.out, HT.out, row_app, row_cons, List.length_append]; simp [row], by rw [HT.out]; exact Nat.le_refl _, .inr rfl⟩, rfl, HD.out.1.drew, Fd.of_below (Below.refl _ w).drew⟩
end Go.Proofs.Ytlfkdohajfkhdaa
