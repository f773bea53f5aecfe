/-
  Contracts over this program: Members tells all members, rising, in a row of its own.
-/
import Derived.Test.YtlfpkbjiofelkaaGreatFlCalls
import Derived.Test.YtlfpkbjiofelkaaGreatFlSort
import Derived.Laws.MakeOwn
namespace Go.Proofs.YtlfpkbjiofelkaaGreat
open Go.RowKit Go.Shelf
attribute [local go_sem] Oper.semAt_some
theorem grownBy_mark (W : World) (D : Nat) (o : Obj) : W.grownBy (W.putObj D o) (some D) := ⟨rfl, rfl, rfl, by simp, fun k _ hne => World.putObj_heap_other (fun e => hne (by rw [e]))⟩
theorem info_str : (Tryz.prog.info? 9).map (fun i => (i.zero, i.size, i.bytes)) = some (some (.string .empty), 1, 16) := by kernel_rfl
theorem make_texts (w : World) (n : Nat) (hn : n ≤ 2600000000000) :
    ∃ w', (Instr.makeSlice 43 (.int .i64 0) (.int .i64 (n : Int))).run Tryz.prog w = .ok (.slice (some ⟨w.heap.size, 0, none⟩) 0 n) w' ∧ w'.ownsRow w.heap.size 9 1 (.slice (some ⟨w.heap.size, 0, none⟩) 0 n) 0 [] ∧ w.grownBy w' none ∧ w.heap.size < w'.heap.size := by
  obtain ⟨i0, hi0, hz0, hz1, hz2⟩ := info_parts info_str
  obtain ⟨w', h1, h2, h3⟩ := run_make_own (P := Tryz.prog) w w.heap.size 43 9 i0 _ 1 Tryz.underlying43 hi0 hz0 hz1 .i64 .i64 n (by rw [hz2]; omega) (by unfold maxLen; omega) (Nat.le_refl _)
  exact ⟨w', h1, h2, h3, own_lt h2 rfl⟩
/-- while the pairs come: Sg, Sb the row of those that came and its box -/
def PrI (W : World) (Sg Sb L : Nat) (es : List Ent) (M : Nat → Prop) (m : Nat) (w : World) : Prop :=
  (¬ M Sb ∧ w.heap[Sb]? = some (.cells #[.slice (some ⟨Sg, 0, none⟩) m L] 43 (0, 0))) ∧ (¬ M Sg ∧ w.ownsRow W.heap.size 9 1 (.slice (some ⟨Sg, 0, none⟩) m L) m (enS ((es.take m).map (·.1)))) ∧
    Below W.heap.size W w ∧ ∀ k, M k → W.heap.size ≤ k
theorem PrI.abd {W : World} {Sg Sb L : Nat} {es : List Ent} : Abd (PrI W Sg Sb L es) := by
  rintro M M' m A B ⟨⟨h1, h1'⟩, ⟨h2, h2'⟩, h5, h6⟩ hs hx
  have keepB : ∀ k o, ¬ M k → A.heap[k]? = some o → ¬ M' k ∧ B.heap[k]? = some o := fun k o hn ho => by
    have hl := (Array.getElem?_eq_some_iff.1 ho).1
    exact ⟨hx.lt hl hn, (hs.2.2 k hl hn).trans ho⟩
  have hSl := own_lt h2' (k := Sg) rfl
  exact ⟨keepB _ _ h1 h1', ⟨hx.lt hSl h2, own_kept h2' (fun k hk => by cases hk; exact hs.2.2 _ hSl h2)⟩, h5.trans (hs.below h5.size h6), hx.ge h5.size h6⟩
/-- a row of texts of one's own, from block B on -/
def Prs (B : Nat) (w : World) (v : Value) (L : List ByteArray) : Prop := ∃ g, v = .slice (some ⟨g, 0, none⟩) L.length L.length ∧ w.ownsRow B 9 1 v L.length (enS L)
/-- the members -/
def kys (s : Sx) : List ByteArray := (Dc.all s).map (·.1)
set_option maxRecDepth 100000 in
set_option maxHeartbeats 2000000 in
theorem fmembers_any {h : ByteArray → Nat} {seed N : Nat} (W : World) (r : Roles) (R b : Nat) (s : Sx) (hr : Rec h N W r R b seed s) (hN : N ≤ 2600000000000) :
    Calls Tryz.prog 24 #[.pointer (some ⟨R, 0, none⟩)] W fun e w' => ∃ v L, e = .returned v ∧ Srs (kys s) L ∧ Prs W.heap.size w' v L ∧ Below W.heap.size W w' := by
  have hd := hr.1
  obtain ⟨es, hes⟩ : ∃ es, Dc.all s = es := ⟨_, rfl⟩
  obtain ⟨L, hLn⟩ : ∃ L, es.length = L := ⟨_, rfl⟩
  have hLN : L ≤ 2600000000000 := by rw [← hLn, ← hes]; have := hd.2.2.2.1; omega
  have hp : s.pos ≤ s.old.length := by
    by_cases hy : s.young = []
    · rw [hd.2.1.rest hy]; omega
    · have := hd.2.1.move hy; omega
  have hm0 : s.old.length ≤ 5400000000000 := by have := hd.2.2.2.2.1; omega
  have hm1 : s.young.length ≤ 5400000000000 := by have := hd.2.2.2.2.2; omega
  have hnd : (Dc.keys es).Nodup := by rw [← hes]; exact all_nodup hd.2.1
  have mL := rlen_any hr
  rw [show ln s = L by unfold ln; rw [hes, hLn]] at mL
  obtain ⟨w1, mk, hS2, hg2, hlt2⟩ := make_texts W L hLN
  have hb1 : Below W.heap.size W w1 := (Below.refl _ W).grown hg2 (Nat.le_refl _) (fun k h => by cases h)
  obtain ⟨w2, hw2⟩ : ∃ w2, w1.alloc (.cells #[.slice (some ⟨W.heap.size, 0, none⟩) 0 L] 43) = w2 := ⟨_, rfl⟩
  have hb12 : Below w1.heap.size w1 w2 := by rw [← hw2]; exact (Below.refl _ w1).alloc (Nat.le_refl _) _
  have hz2 : w2.heap.size = w1.heap.size + 1 := by rw [← hw2]; simp
  have h2S : w2.heap[w1.heap.size]? = some (.cells #[.slice (some ⟨W.heap.size, 0, none⟩) 0 L] 43 (0, 0)) := by rw [← hw2]; exact heap_alloc_new _ _
  have hb2 : Below W.heap.size W w2 := hb1.trans (hb12.mono hb1.size)
  have mD := dictionary_any (hr.below hb2)
  have HD := keep hd
  have HLn := keep hLn
  have HES := keep hes
  have HND := keep hnd
  clear hd hr hLn hes hnd
  unfold kys
  rw [HES.out]
  refine callsIn_wide (n := 9) |>.1 (callsIn_of_wp_marks Tryz.func24 rfl trivial (wpIn_wide.2 ?_) rfl)
  simp only [Tryz.ntmps24, List.size_toArray, List.length_cons, List.length_nil, Nat.reduceAdd, Nat.reduceSub, Array.replicate_succ, Array.replicate_zero, List.push_toArray, List.append_toArray, List.nil_append, List.cons_append]
  go_wp2_with fail
  refine mL.mono ?_
  rintro _ w' ⟨rfl, hw'⟩
  obtain rfl := hw'.symm
  go_wp2_with fail
  refine mD.mono ?_
  rintro _ w' ⟨rfl, hw'⟩
  obtain rfl := hw'.symm
  go_wp2_with fail
  refine (each_any _ _ (.inr ⟨b, rfl⟩)).mono ?_
  rintro _ w4 ⟨rfl, hw4⟩
  have hz4 : w4.heap.size = w2.heap.size + 1 := by rw [hw4]; simp
  have hb24 : Below w2.heap.size w2 w4 := by rw [hw4]; exact (Below.refl _ w2).alloc (Nat.le_refl _) _
  have h4B : w4.heap[w2.heap.size]? = some (.cells #[.pointer (some ⟨b, 0, none⟩)] 52 (0, 0)) := by rw [hw4]; exact heap_alloc_new _ _
  have h4S : w4.heap[w1.heap.size]? = some (.cells #[.slice (some ⟨W.heap.size, 0, none⟩) 0 L] 43 (0, 0)) := (hb24.block _ (by omega)).trans h2S
  have hb4 : Below W.heap.size W w4 := hb2.trans (hb24.mono hb2.size)
  have c4B : w4.cell? ⟨w2.heap.size, 0, none⟩ = some (.pointer (some ⟨b, 0, none⟩)) := by rw [cell_of_row _ _ _ _ _ _ h4B]; rfl
  have hI0 : PrI W W.heap.size w1.heap.size L es (fun _ => False) 0 w4 := by
    refine ⟨⟨id, h4S⟩, ⟨id, own_kept hS2 (fun k hk => by cases hk; exact (hb24.block W.heap.size (by omega)).trans (hb12.block W.heap.size hlt2))⟩, hb4, fun _ h => h.elim⟩
  have HI0 := keep hI0
  have HB4 := keep hb4
  have C4B := keep c4B
  clear hw4 hb24 h4S h4B hb4 c4B hI0 mk hS2 hg2 hw2 hb12 h2S hb2 mD mL hb1
  go_wp2
  obtain ⟨i0, hi0, hze, hzs, hzb⟩ := info_parts info_str
  refine (wpIn_wide (n := 9)).1 (range_own (α := Ent) (gf := 74) (lb := #[.pointer (some ⟨w2.heap.size, 0, none⟩)]) (by simp [Act.eval]) (enters_of Tryz.func74 (by kernel_rfl) rfl) (encs := eachV) (L := es) (fun _ => rfl)
    (fun W1 hb => by
      have := each_iter w2.heap.size b seed _ r s W1 (HD.out.1.below (HB4.out.trans (hb.mono HB4.out.size))) ((hb.cell (p := ⟨w2.heap.size, 0, none⟩) (by show w2.heap.size < w4.heap.size; omega)).trans C4B.out) hp hm0 hm1 (by rw [HES.out, HLn.out]; exact hLN)
      rwa [HES.out] at this)
    (PrI W W.heap.size w1.heap.size L es) (fun _ _ _ _ => False) PrI.abd (fun _ _ _ _ _ _ h _ _ => h) HI0.out (fun _ _ _ _ => trivial) ?round ?done ?stop)
  case stop => exact fun _ _ _ _ _ _ h => h.elim
  case round =>
    intro M' l' m x W1 hI hx hl hrec hM'
    obtain ⟨r0, hr0'⟩ := hrec
    obtain ⟨e1, e2⟩ := x
    have HI := keep hI
    have HX := keep hx
    have HM' := keep hM'
    clear hI hx hM' HI0 hr0'
    unfold eachV
    gi_wp2
    refine ⟨Mk.refl _ _, fun rl => ?_⟩
    obtain ⟨W2, hW2⟩ : ∃ W2, W1.putObj l' (.loop rl) = W2 := ⟨_, rfl⟩
    rw [hW2]
    have hz2' : W2.heap.size = W1.heap.size := by rw [← hW2]; simp
    have hI2 : PrI W W.heap.size w1.heap.size L es M' m W2 := PrI.abd _ _ _ _ _ HI.out (by rw [← hW2]; exact Sep.put _ _ hl) (Ext.refl _ _ _)
    obtain ⟨⟨j1, j1'⟩, ⟨j2, j2'⟩, j5, j6⟩ := hI2
    have hml : m < L := by rw [← HLn.out]; exact (List.getElem?_eq_some_iff.1 HX.out).1
    have cS : W2.cell? ⟨w1.heap.size, 0, none⟩ = some (.slice (some ⟨W.heap.size, 0, none⟩) m L) := by rw [cell_of_row _ _ _ _ _ _ j1']; rfl
    have hSl := own_lt j2' (k := W.heap.size) rfl
    have hBl2 : w1.heap.size < W2.heap.size := (Array.getElem?_eq_some_iff.1 j1').1
    obtain ⟨W3, hrun, hown, hgr⟩ := run_append_fits (P := Tryz.prog) (W2.alloc (.cells #[.string e1] 9)) W.heap.size 43 43 9 i0 1 Tryz.underlying43 hi0 hzs W.heap.size m L (enS ((es.take m).map (·.1))) (j2'.alloc _) ⟨W2.heap.size, 0, none⟩ 1 1 [.string e1] rfl (World.news_of_block (cs := #[.string e1]) (t := 9) (fr := (0, 0)) (heap_alloc_new W2 _)) (by simp [Value.oneCell']) (by omega)
    have MA := keep hrun
    have hs3 : W2.heap.size + 1 ≤ W3.heap.size := by have := hgr.size; simpa using this
    have same : ∀ k, k < W2.heap.size → k ≠ W.heap.size → W3.heap[k]? = W2.heap[k]? := fun k hk hn => by
      rw [hgr.block k (by simp; omega) (fun e => hn (Option.some.inj e)), Below.heap_alloc _ _ _ hk]
    have h3S := (same w1.heap.size hBl2 (by omega)).trans j1'
    have c3S : W3.cell? ⟨w1.heap.size, 0, none⟩ = some (.slice (some ⟨W.heap.size, 0, none⟩) m L) := by rw [cell_of_row _ _ _ _ _ _ h3S]; rfl
    have f3S : W3.frozen? ⟨w1.heap.size, 0, none⟩ = false := by simp [World.frozen?, h3S]
    have sameS : ∀ k, k ≠ w1.heap.size → (W3.setCell ⟨w1.heap.size, 0, none⟩ (.slice (some ⟨W.heap.size, 0, none⟩) (m + 1) L)).heap[k]? = W3.heap[k]? := fun k hk => Below.heap_setCell _ _ _ _ hk
    have fin : Kept (rdPost (PrI W W.heap.size w1.heap.size L es) (fun _ _ _ _ => False) M' (m + 1) W2 .normal { tmps := #[], defers := [] } (W3.setCell ⟨w1.heap.size, 0, none⟩ (.slice (some ⟨W.heap.size, 0, none⟩) (m + 1) L))) := by
      have hss : (W3.setCell ⟨w1.heap.size, 0, none⟩ (.slice (some ⟨W.heap.size, 0, none⟩) (m + 1) L)).heap.size = W3.heap.size := by simp [World.setCell]
      refine ⟨⟨by rw [hss]; omega, fun k hk => ?_⟩, ⟨j1, cells_setCell h3S⟩, ⟨j2, ?_⟩, ?_, j6⟩
      · have hkb := HM'.out k hk
        rw [sameS k (fun e => j1 (e ▸ hk)), same k (by omega) (fun e => j2 (e ▸ hk))]
      · have e : enS ((es.take (m + 1)).map (·.1)) = enS ((es.take m).map (·.1)) ++ [.string e1] := by
          obtain ⟨hml', this⟩ := List.getElem?_eq_some_iff.1 HX.out
          rw [List.take_succ_eq_append_getElem hml', this]
          unfold enS
          rw [List.map_append, List.map_append]
          rfl
        rw [e]
        exact own_kept hown (fun k hk => by cases hk; exact sameS W.heap.size (by omega))
      · refine j5.trans ⟨hgr.os, hgr.tape, hgr.output, by rw [hss]; omega, fun k hk => ?_⟩
        rw [sameS k (by omega), same k (by omega) (by omega)]
    clear hrun hown hgr same h3S sameS j1 j1' j2 j2' j5 j6 hW2 hz2' hz4 hs3
    gi_wp2_with (first | (show wpListIn _ _ _ _ _ ({ dst := some 16, op := Op.call { callee := Callee.builtin Builtin.append, args := _, argTypes := _ }, type := _, pos := _, after := _, guard := _ } :: _) _ _; refine wpListIn_app_run rfl (.tmp 13) (.tmp 15) 43 rfl _ _ _ rfl rfl MA.out ?_))
    exact fin.out
  case done =>
    intro M' D W5 hI hD hDk hM'
    obtain ⟨⟨j1, j1'⟩, ⟨j2, j2'⟩, j5, j6⟩ := hI
    rw [HLn.out] at j1' j2'
    rw [List.take_of_length_le (by rw [HLn.out]; exact Nat.le_refl _)] at j2'
    have hsS : w1.heap.size < W5.heap.size := (Array.getElem?_eq_some_iff.1 j1').1
    have hsG : W.heap.size < W5.heap.size := own_lt j2' (k := W.heap.size) rfl
    have hDW : W.heap.size ≤ D := j6 D hD
    have hsD : D < W5.heap.size := (Array.getElem?_eq_some_iff.1 hDk).1
    have hDG : D ≠ W.heap.size := fun e => j2 (e ▸ hD)
    have hDS : D ≠ w1.heap.size := fun e => j1 (e ▸ hD)
    have c5S : W5.cell? ⟨w1.heap.size, 0, none⟩ = some (.slice (some ⟨W.heap.size, 0, none⟩) L L) := by rw [cell_of_row _ _ _ _ _ _ j1']; rfl
    have mS := sort_any W5 W.heap.size W.heap.size L (es.map (fun e : Ent => e.1)) (by rw [List.length_map, HLn.out]; exact j2') (show (es.map (fun e : Ent => e.1)).Nodup from HND.out) (by rw [List.length_map, HLn.out]; exact hLN)
    rw [List.length_map, HLn.out] at mS
    have J1 := keep j1'
    have J5 := keep j5
    have HDK := keep hDk
    clear j1 j1' j2 j2' j5 j6 hM' hDk HI0 HB4 C4B hz4
    go_wp2_with fail
    refine mS.mono ?_
    rintro _ w6 ⟨rfl, O, hO1, hO2, hO3⟩
    have k6S : w6.heap[w1.heap.size]? = W5.heap[w1.heap.size]? := hO3.block _ hsS (fun e => by have := Option.some.inj e; omega)
    have c6S : w6.cell? ⟨w1.heap.size, 0, none⟩ = some (.slice (some ⟨W.heap.size, 0, none⟩) L L) := by rw [cell_of_row _ _ _ _ _ _ (k6S.trans J1.out)]; rfl
    have h6D : w6.heap[D]? = some (.deferred (some [])) := (hO3.block _ hsD (fun e => hDG (Option.some.inj e))).trans HDK.out
    have OO1 := keep hO1
    have OO2 := keep hO2
    have OO3 := keep hO3
    have H6D := keep h6D
    clear hO1 hO2 hO3 h6D k6S mS c5S
    go_wp2
    have hOl : O.length = L := by rw [OO1.out.1.length_eq, List.length_map]; exact HLn.out
    refine leave_mark H6D.out ?_
    have hb6 : Below W.heap.size W w6 := J5.out.grown OO3.out (by exact J5.out.size) (fun k e => by cases e; exact Nat.le_refl _)
    refine ⟨_, results_tmp rfl _ _ _, _, O, rfl, OO1.out, ⟨W.heap.size, by rw [hOl]; rfl, ?_⟩, hb6.grown (grownBy_mark _ D _) hb6.size (fun k e => by cases e; exact hDW)⟩
    rw [hOl]
    exact own_kept OO2.out (fun k hk => by cases hk; exact World.putObj_heap_other (Ne.symm hDG))
end Go.Proofs.YtlfpkbjiofelkaaGreat
