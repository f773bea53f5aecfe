/-
  The walk of DictNone: a nil dict, and a new one.
-/
import Derived.Test.YtcdcdodhpnmhpaaDictNone1
import Derived.Test.YtcdcdodhpnmhpaaDictRange1
namespace Go.Proofs.Ytcdcdodhpnmhpaa
set_option linter.unusedSimpArgs false
open Go.RowKit Go.Shelf
attribute [local go_sem] Oper.semAt_some
/-- beside a range that tells nothing: Rc, the box of the answer -/
def RcI (W : World) (Rc : Nat) (bx : List (Nat × Obj)) (M : Nat → Prop) (_ : Nat) (w : World) : Prop := (¬ M Rc ∧ w.heap[Rc]? = some (.cells #[.bool false] 4 (0, 0))) ∧ (∀ x ∈ bx, ¬ M x.1 ∧ w.heap[x.1]? = some x.2) ∧ Below W.heap.size W w ∧ ∀ k, M k → W.heap.size ≤ k
theorem RcI.abd {W : World} {Rc : Nat} {bx : List (Nat × Obj)} : Abd (RcI W Rc bx) := by
  rintro M M' m A B ⟨⟨h1, h1'⟩, h2, h5, h6⟩ hs hx
  have keepB : ∀ k o, ¬ M k → A.heap[k]? = some o → ¬ M' k ∧ B.heap[k]? = some o := fun k o hn ho => by
    have hl := (Array.getElem?_eq_some_iff.1 ho).1
    exact ⟨hx.lt hl hn, (hs.2.2 k hl hn).trans ho⟩
  exact ⟨keepB _ _ h1 h1', fun x hx' => keepB _ _ (h2 x hx').1 (h2 x hx').2, h5.trans (hs.below h5.size h6), hx.ge h5.size h6⟩
theorem none_size : ({ data := #[] } : ByteArray).size ≤ maxLen := by decide
set_option maxRecDepth 100000 in
set_option maxHeartbeats 2000000 in
theorem none_walk (W : World) : Calls Try.prog 7 #[] W fun e w' => e = .returned (.bool true) ∧ Below W.heap.size W w' := by
  have hH := hs_is 1 (by rw [Dw.M_is]; omega)
  generalize hs 1 = h at hH
  refine callsIn_wide (n := 9) |>.1 (callsIn_of_wp_marks Try.func7 rfl trivial (wpIn_wide.2 ?_) rfl)
  simp only [Try.ntmps7, List.size_toArray, List.length_cons, List.length_nil, Nat.reduceAdd, Nat.reduceSub, Array.replicate_succ, Array.replicate_zero, List.push_toArray, List.append_toArray, List.nil_append, List.cons_append]
  go_wp2_with fail
  refine (wakes_any _).mono ?_
  rintro _ w2 ⟨rfl, hb2⟩
  have hR1 : (W.alloc (.cells #[.bool false] 4)).heap[W.heap.size]? = some (.cells #[.bool false] 4 (0, 0)) := heap_alloc_new _ _
  have hbW : Below W.heap.size W (W.alloc (.cells #[.bool false] 4)) := (Below.refl _ W).alloc (Nat.le_refl _) _
  have h2R := (hb2.block W.heap.size (by simp)).trans hR1
  have hz2 : W.heap.size < w2.heap.size := by have := hb2.size; simp at this; omega
  have hbW2 : Below W.heap.size W w2 := hbW.trans (hb2.mono hbW.size)
  have H2R := keep h2R
  have HB2 := keep hbW2
  clear hb2 hR1 hbW h2R hbW2
  go_wp2_with fail
  refine (get_nil _ _).mono ?_
  rintro _ w3 ⟨rfl, hw⟩
  obtain rfl := hw.symm
  go_wp2_with fail
  refine (sample_nil _ _).mono ?_
  rintro _ w3 ⟨rfl, hw⟩
  obtain rfl := hw.symm
  go_wp2_with fail
  refine (sizes_nil _).mono ?_
  rintro _ w3 ⟨rfl, hw⟩
  obtain rfl := hw.symm
  go_wp2_with fail
  refine (each_any _ _ (.inl rfl)).mono ?_
  rintro _ w3 ⟨rfl, hw3⟩
  obtain ⟨Bd, hBd⟩ : ∃ x, w2.heap.size = x := ⟨_, rfl⟩
  have hz3 : w3.heap.size = Bd + 1 := by rw [hw3, World.size_alloc, hBd]
  have hb3 : Below w2.heap.size w2 w3 := by rw [hw3]; exact (Below.refl _ _).alloc (Nat.le_refl _) _
  have h3B : w3.cell? ⟨Bd, 0, none⟩ = some (.pointer none) := by
    have := heap_alloc_new w2 (.cells #[.pointer none] 24)
    rw [hw3, ← hBd, cell_of_row _ _ _ _ _ _ this]; rfl
  have HI0 : Kept (RcI W W.heap.size [] (fun _ => False) 0 w3) := ⟨⟨id, (hb3.block _ hz2).trans H2R.out⟩, fun x hx => by simp at hx, HB2.out.trans (hb3.mono HB2.out.size), fun _ h => h.elim⟩
  have hnf := each_some Bd
  have H3B := keep h3B
  rw [hBd]
  clear hw3 h3B hb3 hBd
  go_wp2
  refine (wpIn_wide (n := 9)).1 (range_own (α := Ent) (gf := 52) (lb := #[.pointer (some ⟨Bd, 0, none⟩)]) rfl (enters_of Try.func52 (by kernel_rfl) rfl) (encs := eachV) (L := []) (fun _ => rfl)
    (fun W1 hb => iter_none (Rd := fun _ _ => True) (fun l => each1_nil W1 l Bd (.pointer none) (.inl rfl) ((hb.cell (p := ⟨Bd, 0, none⟩) (by show Bd < w3.heap.size; omega)).trans H3B.out) (fun W2 Bx l _ hc => all1_nil W2 l Bx hc)))
    (RcI W W.heap.size []) (fun _ _ _ _ => False) RcI.abd (fun _ _ _ _ _ _ h _ _ => h) HI0.out (fun _ _ _ _ => trivial) (fun _ _ _ _ _ _ h => by simp at h) ?done (fun _ _ _ _ _ _ h => h.elim))
  case done =>
    intro M D W5 hI hD hDk hM
    obtain ⟨⟨j1, j1'⟩, _, j5, j6⟩ := hI
    have hDW := j6 D hD
    have hDR : D ≠ W.heap.size := fun e => by rw [e, j1'] at hDk; cases hDk
    have J1 := keep j1'
    have J5 := keep j5
    have HDK := keep hDk
    clear j1' j5 j6 hDk hM HI0 H3B hnf
    go_wp2_with fail
    refine (clear_nil _).mono ?_
    rintro _ w4 ⟨rfl, hw⟩
    obtain rfl := hw.symm
    go_wp2_with fail
    refine (len_nil _).mono ?_
    rintro _ w4 ⟨rfl, hw⟩
    obtain rfl := hw.symm
    go_wp2_with fail
    refine (set_nil _ _ _).mono ?_
    rintro _ w4 ⟨rfl, hw⟩
    obtain rfl := hw.symm
    go_wp2_with fail
    refine (delete_nil _ _).mono ?_
    rintro _ w4 ⟨rfl, hw⟩
    obtain rfl := hw.symm
    go_wp2_with fail
    refine (bucket_nil _ _ _).mono ?_
    rintro _ w4 ⟨rfl, hw⟩
    obtain rfl := hw.symm
    go_wp2_with fail
    refine (new_str _ 1).mono ?_
    rintro _ w6 ⟨rfl, hw6⟩
    obtain ⟨b, hb⟩ : ∃ x, W5.heap.size = x := ⟨_, rfl⟩
    have hb6 : Below W5.heap.size W5 w6 := by rw [hw6]; exact (Below.refl _ _).alloc (Nat.le_refl _) _
    have hd6 : Ds w6 b 1 := by rw [hw6, ← hb]; exact heap_alloc_new _ _
    have hRb : W.heap.size < b := by rw [← hb]; exact (Array.getElem?_eq_some_iff.1 J1.out).1
    have hDb : D < b := by rw [← hb]; exact (Array.getElem?_eq_some_iff.1 HDK.out).1
    have h6R := (hb6.block _ (by omega)).trans J1.out
    have h6D := (hb6.block _ (by omega)).trans HDK.out
    have hB6 := J5.out.trans (hb6.mono J5.out.size)
    rw [hb]
    clear hw6 hb6 J1 HDK J5
    have HD6 := keep hd6
    have H6R := keep h6R
    have H6D := keep h6D
    have HB6 := keep hB6
    clear hd6 h6R h6D hB6
    go_wp2_with fail
    refine (sizes_str w6 b 1 HD6.out).mono ?_
    rintro _ w7 ⟨rfl, hb7⟩
    have hbl : b < w6.heap.size := (Array.getElem?_eq_some_iff.1 HD6.out).1
    have HD7 : Kept (Ds w7 b 1) := (hb7.block b hbl).trans HD6.out
    have H7R := keep ((hb7.block _ (by omega)).trans H6R.out)
    have H7D := keep ((hb7.block _ (by omega)).trans H6D.out)
    have HB7 := keep (HB6.out.trans (hb7.mono HB6.out.size))
    clear HD6 H6R H6D HB6 hb7 hbl
    go_wp2_with fail
    refine (each_str _ _ (.inr ⟨b, rfl⟩)).mono ?_
    rintro _ w8 ⟨rfl, hw8⟩
    obtain ⟨Be, hBe⟩ : ∃ x, w7.heap.size = x := ⟨_, rfl⟩
    have hz8 : w8.heap.size = Be + 1 := by rw [hw8, World.size_alloc, hBe]
    have hb8 : Below w7.heap.size w7 w8 := by rw [hw8]; exact (Below.refl _ _).alloc (Nat.le_refl _) _
    have hbl7 : b < w7.heap.size := (Array.getElem?_eq_some_iff.1 HD7.out).1
    have h8B : w8.cell? ⟨Be, 0, none⟩ = some (.pointer (some ⟨b, 0, none⟩)) := by
      have := heap_alloc_new w7 (.cells #[.pointer (some ⟨b, 0, none⟩)] 63)
      rw [hw8, ← hBe, cell_of_row _ _ _ _ _ _ this]; rfl
    have hd8 : Ds w8 b 1 := (hb8.block b hbl7).trans HD7.out
    have HI8 : Kept (RcI W W.heap.size [(D, .deferred (some [])), (b, .cells #[.int .u64 (1 : Nat), .int .i64 0, .slice none 0 0, .slice none 0 0, .int .i64 0] 106 (0, 0))] (fun _ => False) 0 w8) := by
      refine ⟨⟨id, (hb8.block _ (by omega)).trans H7R.out⟩, fun x hx => ?_, HB7.out.trans (hb8.mono HB7.out.size), fun _ h => h.elim⟩
      simp only [List.mem_cons, List.not_mem_nil, or_false] at hx
      rcases hx with rfl | rfl
      · exact ⟨id, (hb8.block _ (by show D < w7.heap.size; omega)).trans H7D.out⟩
      · exact ⟨id, hd8⟩
    have H8B := keep h8B
    have HD8 := keep hd8
    have hbBe : b < Be := by omega
    rw [hBe]
    clear hw8 h8B hb8 hBe hd8 HD7 H7R H7D HB7
    go_wp2
    refine (wpIn_wide (n := 9)).1 (range_own (α := Ent) (gf := 64) (lb := #[.pointer (some ⟨Be, 0, none⟩)]) rfl (enters_of Try.func64 (by kernel_rfl) rfl) (encs := eachV) (L := []) (fun _ => rfl)
      (fun W1 hb => iter_none (Rd := fun _ _ => True) (fun l => each1_str W1 l Be (.pointer (some ⟨b, 0, none⟩)) (.inr ⟨b, rfl⟩) ((hb.cell (p := ⟨Be, 0, none⟩) (by show Be < w8.heap.size; omega)).trans H8B.out) (fun W2 Bx l hb2 hc => all1_str W2 l Bx b 1 hc ((hb2.block b (by have := hb.size; have := (Array.getElem?_eq_some_iff.1 HD8.out).1; omega)).trans ((hb.block b (Array.getElem?_eq_some_iff.1 HD8.out).1).trans HD8.out)))))
      (RcI W W.heap.size [(D, .deferred (some [])), (b, .cells #[.int .u64 (1 : Nat), .int .i64 0, .slice none 0 0, .slice none 0 0, .int .i64 0] 106 (0, 0))]) (fun _ _ _ _ => False) RcI.abd (fun _ _ _ _ _ _ h _ _ => h) HI8.out (fun _ _ _ _ => trivial) (fun _ _ _ _ _ _ h => by simp at h) ?done2 (fun _ _ _ _ _ _ h => h.elim))
    case done2 =>
      intro M2 D2 W9 hI hD2 hDk2 hM2
      obtain ⟨⟨j1, j1'⟩, jb, j5, j6⟩ := hI
      have jD := jb (D, .deferred (some [])) (by simp)
      have jb' := jb (b, .cells #[.int .u64 (1 : Nat), .int .i64 0, .slice none 0 0, .slice none 0 0, .int .i64 0] 106 (0, 0)) (by simp)
      have hd9 : Ds W9 b 1 := jb'.2
      have hD2W := j6 D2 hD2
      have hD2R : D2 ≠ W.heap.size := fun e => by rw [e, j1'] at hDk2; cases hDk2
      have hDD : D2 ≠ D := fun e => jD.1 (e ▸ hD2)
      have hbD2 : w8.heap.size ≤ D2 := (hM2 D2 hD2).1
      have JD := keep jD.2
      have J1 := keep j1'
      have J5 := keep j5
      have HD9 := keep hd9
      have HDK2 := keep hDk2
      clear jb jb' jD j1' j5 j6 hd9 hDk2 hM2 HI8 H8B HD8
      go_wp2_with fail
      refine (bucket_str W9 b 1 HD9.out).mono ?_
      rintro _ w4 ⟨rfl, hw⟩
      obtain rfl := hw.symm
      go_wp2_with fail
      refine (set_str hH W9 b _ _ none_size HD9.out).mono ?_
      rintro _ w10 ⟨rfl, hb10⟩
      have hRl := (Array.getElem?_eq_some_iff.1 J1.out).1
      have h10R := (hb10.2.2 _ hRl (by omega)).trans J1.out
      have h10D := (hb10.2.2 _ (Array.getElem?_eq_some_iff.1 JD.out).1 (by show D ≠ b; omega)).trans JD.out
      have hbl9 := (Array.getElem?_eq_some_iff.1 HD9.out).1
      have h10D2 := (hb10.2.2 _ (Array.getElem?_eq_some_iff.1 HDK2.out).1 (by show D2 ≠ b; omega)).trans HDK2.out
      have cR : w10.cell? ⟨W.heap.size, 0, none⟩ = some (.bool false) := by rw [cell_of_row _ _ _ _ _ _ h10R]; rfl
      have fR : w10.frozen? ⟨W.heap.size, 0, none⟩ = false := by simp [World.frozen?, h10R]
      have HB10 := keep (J5.out.trans (hb10.below J5.out.size (fun k hk => by have hk : k = b := hk; omega)))
      have H10R := keep h10R
      have H10D := keep h10D
      have H10D2 := keep h10D2
      clear hb10 h10R h10D h10D2 J1 JD HD9 HDK2
      go_wp2
      refine leave_marks [D2, D] _ (by simp [hDD]) (fun D' hD' => ?_) (fun W' hs => ?_)
      · simp only [List.mem_cons, List.not_mem_nil, or_false] at hD'
        rcases hD' with rfl | rfl
        · rw [Below.heap_setCell _ _ _ _ hD2R]; exact H10D2.out
        · rw [Below.heap_setCell _ _ _ _ hDR]; exact H10D.out
      · have hcR : W'.cell? ⟨W.heap.size, 0, none⟩ = some (.bool true) := by
          have h1 := cells_setCell (u := .bool true) H10R.out (i := 0)
          rw [cell_of_row _ _ _ _ _ _ ((hs.2.2 _ (Array.getElem?_eq_some_iff.1 h1).1 (by simp; exact ⟨Ne.symm hD2R, Ne.symm hDR⟩)).trans h1)]; rfl
        have hbS := HB10.out.setCell (p := ⟨W.heap.size, 0, none⟩) (Nat.le_refl _) (.bool true)
        refine ⟨.bool true, results_cell1 rfl _ _ ⟨W.heap.size, 0, none⟩ _ rfl ?_, rfl, hbS.trans (hs.below hbS.size (fun k hk => ?_))⟩
        · go_simp
        · simp only [List.mem_cons, List.not_mem_nil, or_false] at hk
          rcases hk with rfl | rfl
          · exact hD2W
          · exact hDW
end Go.Proofs.Ytcdcdodhpnmhpaa
