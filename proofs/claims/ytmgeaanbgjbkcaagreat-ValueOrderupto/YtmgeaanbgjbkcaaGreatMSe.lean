/-
  Contracts over this program, put together.
-/
import Derived.Test.YtmgeaanbgjbkcaaGreatMSd
import Derived.Test.YtmgeaanbgjbkcaaGreatMSc
import Derived.Test.YtmgeaanbgjbkcaaGreatsortPL
import Derived.Laws.MakeOwn
set_option maxHeartbeats 8000000
namespace Go.Proofs.YtmgeaanbgjbkcaaGreat.DS
open Go.RowKit Go.Shelf Go.Sort
set_option maxRecDepth 100000 in
theorem cmpS_any (a b : ByteArray) (w : World) :
    Calls Tryz.prog 329 #[.string a, .string b] w fun e w' => e = .returned (.int .i64 (Lib.compareBytes a.data.toList b.data.toList)) ∧ w' = w := by
  go_enter Tryz.func329, Tryz.ntmps329
  go_wp2
  rw [run_callFunc_extern Tryz.func341 (by kernel_rfl) (by kernel_rfl) (by kernel_rfl) (e := Extern.BytealgCompare.compare) (by kernel_rfl), Lib.run_compareString]
  simp only [Result.andThen]
  rw [Oper.upon_value]
  go_wp2
  go_ret
  exact ⟨rfl, rfl⟩
set_option maxRecDepth 100000 in
theorem compare_any (a b : ByteArray) (w : World) :
    Calls Tryz.prog 325 #[.string a, .string b] w fun e w' => e = .returned (.int .i64 (Lib.compareBytes a.data.toList b.data.toList)) ∧ w' = w := by
  go_enter Tryz.func325, Tryz.ntmps325
  go_wp2_with (go_at_call 329; refine (cmpS_any _ _ _).mono ?_; rintro e w' ⟨rfl, rfl⟩)
  go_ret
  exact ⟨rfl, rfl⟩
set_option maxRecDepth 100000 in
theorem less_any (x y : Ent) (W : World) :
    Calls Tryz.prog 324 #[.agg #[.string x.1, .string x.2], .agg #[.string y.1, .string y.2]] W fun e w' => e = .returned (.int .i64 (cfE x y)) ∧ ∃ q os', w' = grow (W.drewN q) os' := by
  have hcon := fun W' => compare_any x.1 y.1 W'
  obtain ⟨c, hc⟩ : ∃ c, cfE x y = c := ⟨_, rfl⟩
  rw [hc]
  rw [show Lib.compareBytes x.1.data.toList y.1.data.toList = c from hc] at hcon
  clear hc
  go_enter Tryz.func324, Tryz.ntmps324
  go_wp2_with (go_at_call 325; refine (hcon _).mono ?_; rintro e w' ⟨rfl, rfl⟩)
  go_ret
  exact ⟨rfl, 0, _, by rw [alloc_eq_grow, alloc_eq_grow, grow_grow]; rfl⟩
theorem cmpLays_any (blk off size : Nat) (w : World) : CmpLays Tryz.prog 324 #[] enE 2 cfE blk off size w :=
  fun _ _ _ _ x y => less_any x y _
theorem flat_at (d : Array Ent) (t : Nat) (ht : t < d.size * 2) : (enL d.toList)[t]? = some ((enE d[t / 2]!)[t % 2]!) := by
  have hq : t / 2 < d.size := by omega
  have hd : d.toList[t / 2]? = some d[t / 2]! := by rw [Array.getElem?_toList, getElem!_pos d _ hq, Array.getElem?_eq_getElem hq]
  obtain ⟨h1, h2⟩ := enL_at hd
  rcases Nat.mod_two_eq_zero_or_one t with e | e
  · rw [e, show t = t / 2 * 2 by omega, show t / 2 * 2 / 2 = t / 2 by omega, h1]; rfl
  · rw [e]
    conv => lhs; rw [show t = t / 2 * 2 + 1 by omega]
    rw [h2]; rfl
theorem flat_is (d : Array Ent) : (flatK enE 2 d).toList = enL d.toList := by
  apply List.ext_getElem?
  intro t
  by_cases ht : t < d.size * 2
  · rw [flat_at d t ht, Array.getElem?_toList, Array.getElem?_eq_getElem (by rw [size_flatK]; exact ht), ← getElem!_pos (flatK enE 2 d) t (by rw [size_flatK]; exact ht), get_flatK _ _ _ _ ht]
  · rw [List.getElem?_eq_none (by rw [Array.length_toList, size_flatK]; omega), List.getElem?_eq_none (by rw [enL_len, Array.length_toList]; omega)]
theorem holds_own {W : World} {base g cap : Nat} {t : TypeId} {es : List Ent} (ho : W.ownsRow base t 2 (.slice (some ⟨g, 0, none⟩) es.length cap) es.length (enL es)) : HoldsK enE 2 W g 0 es.toArray := by
  intro j hj
  rw [size_flatK] at hj
  have hj' : j < es.length * 2 := by simpa using hj
  rcases ho.2 with ⟨h, _⟩ | ⟨g', cap', cur, h, _, hg, _⟩
  · cases h
  · cases h
    refine ⟨?_, by simp [World.frozen?, hg]⟩
    have h1 := ho.cells (g := g) rfl j _ (flat_at es.toArray j hj)
    rw [get_flatK _ _ _ _ hj, Nat.zero_add]
    rwa [show (⟨g, 0, none⟩ : Addr).add j = ⟨g, j, none⟩ by unfold Addr.add; split <;> simp_all] at h1
theorem put_take (cur F : Array Value) (h : F.size ≤ cur.size) : (putCells id 0 F cur).toList.take F.size = F.toList := by
  apply List.ext_getElem?
  intro j
  by_cases hj : j < F.size
  · rw [List.getElem?_take_of_lt hj, Array.getElem?_toList]
    simp [putCells, hj, show j < cur.size by omega]
  · rw [List.getElem?_take_eq_none (by omega), List.getElem?_eq_none (by simp; omega)]
theorem sorted_of {es : List Ent} {d' : Array Ent} (hn : (Dc.keys es).Nodup) (hp : PermIn 0 es.toArray.size es.toArray d') (hs : SortedIn (ltOf cfE) 0 es.toArray.size d') : Srt es d'.toList := by
  have hsz : d'.size = es.length := by rw [hp.1]; simp
  have hpm : d'.toList.Perm es := by
    have := hp.2.2
    have e1 : d'.extract 0 es.toArray.size = d' := by rw [← hp.1]; simp
    rw [e1] at this
    simpa using this
  refine ⟨hpm, ?_⟩
  have hn' : (Dc.keys d'.toList).Nodup := (Dc.keys_perm hpm).nodup_iff.2 hn
  rw [List.pairwise_iff_getElem]
  intro i j hi hj hij
  have hi' : i < d'.size := by simpa using hi
  have hj' : j < d'.size := by simpa using hj
  have h1 := hs i j (Nat.zero_le _) hij (by rw [← hp.1]; exact hj')
  rw [lt_cfE, decide_eq_false_iff_not, getElem!_pos d' j hj', getElem!_pos d' i hi', List.not_lt] at h1
  simp only [Array.getElem_toList]
  have hne : ky d'[i].1 ≠ ky d'[j].1 := fun e => by
    have e' := ky_inj e
    unfold Dc.keys at hn'
    rw [List.nodup_iff_pairwise_ne, List.pairwise_iff_getElem] at hn'
    exact hn' i j (by simpa using hi') (by simpa using hj') hij (by simpa using e')
  rcases Classical.em (ky d'[i].1 < ky d'[j].1) with h | h
  · exact h
  · exact absurd (List.le_antisymm h1 (List.not_lt.1 h)) hne
theorem sort_any (W : World) (base g cap : Nat) (es : List Ent) (ho : W.ownsRow base 70 2 (.slice (some ⟨g, 0, none⟩) es.length cap) es.length (enL es)) (hn : (Dc.keys es).Nodup) (hlen : es.length ≤ 2600000000000) :
    Calls Tryz.prog 323 #[.slice (some ⟨g, 0, none⟩) es.length cap, .func (.func 324) #[] #[]] W fun e w' => e = .returned (.tuple #[]) ∧ ∃ L, Srt es L ∧ w'.ownsRow base 70 2 (.slice (some ⟨g, 0, none⟩) es.length cap) es.length (enL L) ∧ W.grownBy w' (some g) := by
  have hH := holds_own ho
  rcases ho.2 with ⟨h, _⟩ | ⟨g', cap', cur, h, hbase, hg, h1, h2, h3, h4⟩
  · cases h
  cases h
  have hgl : g < W.heap.size := (Array.getElem?_eq_some_iff.1 hg).1
  have hsz : es.toArray.size < 4611686018427387904 := by
    have : es.toArray.size = es.length := by simp
    omega
  have hcon := AnyQ.slices_SortFunc Tryz.sortP 2 Tryz.isAgg70 Tryz.sizeOf70 enE (fun _ => rfl) (fun x v hv => by simp [enE] at hv; rcases hv with rfl | rfl <;> rfl) cfE swoE 324 #[] g 0 cap es.toArray W (enters_of Tryz.func324 (by kernel_rfl) rfl) (cmpLays_any g 0 es.toArray.size W) hH hgl hsz
  change Calls Tryz.prog 323 _ _ _ at hcon
  rw [show es.toArray.size = es.length by simp] at hcon
  refine hcon.mono ?_
  rintro _ w' ⟨rfl, d', n, os, hp, hs, rfl⟩
  have hS := sorted_of hn (by rw [show es.toArray.size = es.length by simp]; exact hp) (by rw [show es.toArray.size = es.length by simp]; exact hs)
  have hdl : d'.toList.length = es.length := hS.1.length_eq
  refine ⟨rfl, d'.toList, hS, ⟨by rw [enL_len, hdl], .inr ⟨g, cap, putCells id 0 (flatK enE 2 d') cur, rfl, hbase, ?_, h1, h2, by simp [putCells, h3], ?_⟩⟩, ⟨rfl, rfl, rfl, ?_, ?_⟩⟩
  · show (grow (putRow id (Sort.ahead W n) g 0 (flatK enE 2 d')) os).heap[g]? = _
    rw [heap_grow_old _ _ (by simpa using hgl)]
    simp [putRow, mapBlock, Sort.ahead, Array.getElem?_modify, hg, onCells]
  · have hF : (flatK enE 2 d').size = es.length * 2 := by rw [size_flatK, ← hdl]; simp
    rw [← flat_is, ← hF]
    exact put_take cur _ (by rw [hF, h3]; exact Nat.mul_le_mul_right 2 h1)
  · show W.heap.size ≤ (grow (putRow id (Sort.ahead W n) g 0 (flatK enE 2 d')) os).heap.size
    simp
  · intro k hk hne
    show (grow (putRow id (Sort.ahead W n) g 0 (flatK enE 2 d')) os).heap[k]? = _
    rw [heap_grow_old _ _ (by simpa using hk)]
    have : g ≠ k := fun e => hne (by rw [e])
    simp [putRow, mapBlock, Sort.ahead, Array.getElem?_modify, this]
end Go.Proofs.YtmgeaanbgjbkcaaGreat.DS

namespace Go.Proofs.YtmgeaanbgjbkcaaGreat.DS
open Go.RowKit Go.Shelf
attribute [local go_sem] Oper.semAt_some
theorem grownBy_mark (W : World) (D : Nat) (o : Obj) : W.grownBy (W.putObj D o) (some D) := ⟨rfl, rfl, rfl, by simp, fun k _ hne => World.putObj_heap_other (fun e => hne (by rw [e]))⟩
theorem info_pair : (Tryz.prog.info? 70).map (fun i => (i.zero, i.size, i.bytes)) = some (some (.agg #[.string .empty, .string .empty]), 2, 32) := by kernel_rfl
theorem make_pairs (w : World) (n : Nat) (hn : n ≤ 2600000000000) :
    ∃ w', (Instr.makeSlice 23 (.int .i64 0) (.int .i64 (n : Int))).run Tryz.prog w = .ok (.slice (some ⟨w.heap.size, 0, none⟩) 0 n) w' ∧ w'.ownsRow w.heap.size 70 2 (.slice (some ⟨w.heap.size, 0, none⟩) 0 n) 0 [] ∧ w.grownBy w' none ∧ w.heap.size < w'.heap.size := by
  obtain ⟨i0, hi0, hz0, hz1, hz2⟩ := info_parts info_pair
  obtain ⟨w', h1, h2, h3⟩ := run_make_own (P := Tryz.prog) w w.heap.size 23 70 i0 _ 2 Tryz.underlying23 hi0 hz0 hz1 .i64 .i64 n (by rw [hz2]; omega) (by unfold maxLen; omega) (Nat.le_refl _)
  exact ⟨w', h1, h2, h3, own_lt h2 rfl⟩
def PrI (W : World) (Sg Sb L : Nat) (es : List Ent) (M : Nat → Prop) (m : Nat) (w : World) : Prop :=
  (¬ M Sb ∧ w.heap[Sb]? = some (.cells #[.slice (some ⟨Sg, 0, none⟩) m L] 23 (0, 0))) ∧ (¬ M Sg ∧ w.ownsRow W.heap.size 70 2 (.slice (some ⟨Sg, 0, none⟩) m L) m (enL (es.take m))) ∧
    Below W.heap.size W w ∧ ∀ k, M k → W.heap.size ≤ k
theorem PrI.abd {W : World} {Sg Sb L : Nat} {es : List Ent} : Abd (PrI W Sg Sb L es) := by
  rintro M M' m A B ⟨⟨h1, h1'⟩, ⟨h2, h2'⟩, h5, h6⟩ hs hx
  have keepB : ∀ k o, ¬ M k → A.heap[k]? = some o → ¬ M' k ∧ B.heap[k]? = some o := fun k o hn ho => by
    have hl := (Array.getElem?_eq_some_iff.1 ho).1
    exact ⟨hx.lt hl hn, (hs.2.2 k hl hn).trans ho⟩
  have hSl := own_lt h2' (k := Sg) rfl
  exact ⟨keepB _ _ h1 h1', ⟨hx.lt hSl h2, own_kept h2' (fun k hk => by cases hk; exact hs.2.2 _ hSl h2)⟩, h5.trans (hs.below h5.size h6), hx.ge h5.size h6⟩
def Prs (B : Nat) (w : World) (v : Value) (L : List Ent) : Prop := ∃ g, v = .slice (some ⟨g, 0, none⟩) L.length L.length ∧ w.ownsRow B 70 2 v L.length (enL L)
set_option maxRecDepth 100000 in
theorem rpairs_any {h : ByteArray → Nat} {seed N : Nat} (W : World) (r : Roles) (R b : Nat) (s : Sx) (hr : Rec h N W r R b seed s) (hN : N ≤ 2600000000000) :
    Calls Tryz.prog 321 #[.pointer (some ⟨R, 0, none⟩)] W fun e w' => ∃ v L, e = .returned v ∧ Srt (Dc.all s) L ∧ Prs W.heap.size w' v L ∧ Below W.heap.size W w' := by
  have hd := hr.1
  obtain ⟨es, hes⟩ : ∃ es, Dc.all s = es := ⟨_, rfl⟩
  obtain ⟨L, hLn⟩ : ∃ L, es.length = L := ⟨_, rfl⟩
  have hLN : L ≤ 2600000000000 := by rw [← hLn, ← hes]; have := hd.2.2.2.1; omega
  have hp : s.pos ≤ s.old.length := by
    by_cases hy : s.young = []
    · rw [hd.2.1.rest hy]; omega
    · have := hd.2.1.move hy; omega
  have hm0 : s.old.length ≤ 5400000000000 := by have := hd.2.2.2.2.1; omega
  have hm1 : s.young.length ≤ 5400000000000 := by have := hd.2.2.2.2.2; omega
  have hnd : (Dc.keys es).Nodup := by rw [← hes]; exact all_nodup hd.2.1
  have mL := rlen_any hr
  rw [show ln s = L by unfold ln; rw [hes, hLn]] at mL
  obtain ⟨w1, mk, hS2, hg2, hlt2⟩ := make_pairs W L hLN
  have hb1 : Below W.heap.size W w1 := (Below.refl _ W).grown hg2 (Nat.le_refl _) (fun k h => by cases h)
  obtain ⟨w2, hw2⟩ : ∃ w2, w1.alloc (.cells #[.slice (some ⟨W.heap.size, 0, none⟩) 0 L] 23) = w2 := ⟨_, rfl⟩
  have hb12 : Below w1.heap.size w1 w2 := by rw [← hw2]; exact (Below.refl _ w1).alloc (Nat.le_refl _) _
  have hz2 : w2.heap.size = w1.heap.size + 1 := by rw [← hw2]; simp
  have h2S : w2.heap[w1.heap.size]? = some (.cells #[.slice (some ⟨W.heap.size, 0, none⟩) 0 L] 23 (0, 0)) := by rw [← hw2]; exact heap_alloc_new _ _
  have hb2 : Below W.heap.size W w2 := hb1.trans (hb12.mono hb1.size)
  have mD := dictionary_any (hr.below hb2)
  have HD := keep hd
  have HLn := keep hLn
  have HES := keep hes
  have HND := keep hnd
  clear hd hr hLn hes hnd
  rw [HES.out]
  refine callsIn_wide (n := 9) |>.1 (callsIn_of_wp_marks Tryz.func321 rfl trivial (wpIn_wide.2 ?_) rfl)
  simp only [Tryz.ntmps321, List.size_toArray, List.length_cons, List.length_nil, Nat.reduceAdd, Nat.reduceSub, Array.replicate_succ, Array.replicate_zero, List.push_toArray, List.append_toArray, List.nil_append, List.cons_append]
  go_wp2_with fail
  refine mL.mono ?_
  rintro _ w' ⟨rfl, hw'⟩
  obtain rfl := hw'.symm
  go_wp2_with fail
  refine mD.mono ?_
  rintro _ w' ⟨rfl, hw'⟩
  obtain rfl := hw'.symm
  go_wp2_with fail
  refine (each_any _ _ (.inr ⟨b, rfl⟩)).mono ?_
  rintro _ w4 ⟨rfl, hw4⟩
  have hz4 : w4.heap.size = w2.heap.size + 1 := by rw [hw4]; simp
  have hb24 : Below w2.heap.size w2 w4 := by rw [hw4]; exact (Below.refl _ w2).alloc (Nat.le_refl _) _
  have h4B : w4.heap[w2.heap.size]? = some (.cells #[.pointer (some ⟨b, 0, none⟩)] 174 (0, 0)) := by rw [hw4]; exact heap_alloc_new _ _
  have h4S : w4.heap[w1.heap.size]? = some (.cells #[.slice (some ⟨W.heap.size, 0, none⟩) 0 L] 23 (0, 0)) := (hb24.block _ (by omega)).trans h2S
  have hb4 : Below W.heap.size W w4 := hb2.trans (hb24.mono hb2.size)
  have c4B : w4.cell? ⟨w2.heap.size, 0, none⟩ = some (.pointer (some ⟨b, 0, none⟩)) := by rw [cell_of_row _ _ _ _ _ _ h4B]; rfl
  have hI0 : PrI W W.heap.size w1.heap.size L es (fun _ => False) 0 w4 := by
    refine ⟨⟨id, h4S⟩, ⟨id, own_kept hS2 (fun k hk => by cases hk; exact (hb24.block W.heap.size (by omega)).trans (hb12.block W.heap.size hlt2))⟩, hb4, fun _ h => h.elim⟩
  have HI0 := keep hI0
  have HB4 := keep hb4
  have C4B := keep c4B
  clear hw4 hb24 h4S h4B hb4 c4B hI0 mk hS2 hg2 hw2 hb12 h2S hb2 mD mL hb1
  go_wp2
  obtain ⟨i0, hi0, hze, hzs, hzb⟩ := info_parts info_pair
  refine (wpIn_wide (n := 9)).1 (range_own (α := Ent) (gf := 326) (lb := #[.pointer (some ⟨w2.heap.size, 0, none⟩)]) (by simp [Act.eval]) (enters_of Tryz.func326 (by kernel_rfl) rfl) (encs := eachV) (L := es) (fun _ => rfl)
    (fun W1 hb => by
      have := each_iter w2.heap.size b seed _ r s W1 (HD.out.1.below (HB4.out.trans (hb.mono HB4.out.size))) ((hb.cell (p := ⟨w2.heap.size, 0, none⟩) (by show w2.heap.size < w4.heap.size; omega)).trans C4B.out) hp hm0 hm1 (by rw [HES.out, HLn.out]; exact hLN)
      rwa [HES.out] at this)
    (PrI W W.heap.size w1.heap.size L es) (fun _ _ _ _ => False) PrI.abd (fun _ _ _ _ _ _ h _ _ => h) HI0.out (fun _ _ _ _ => trivial) ?round ?done ?stop)
  case stop => exact fun _ _ _ _ _ _ h => h.elim
  case round =>
    intro M' l' m x W1 hI hx hl hrec hM'
    obtain ⟨r0, hr0'⟩ := hrec
    obtain ⟨e1, e2⟩ := x
    have HI := keep hI
    have HX := keep hx
    have HM' := keep hM'
    clear hI hx hM' HI0 hr0'
    unfold eachV
    gi_wp2
    refine ⟨Mk.refl _ _, fun rl => ?_⟩
    obtain ⟨W2, hW2⟩ : ∃ W2, W1.putObj l' (.loop rl) = W2 := ⟨_, rfl⟩
    rw [hW2]
    have hz2' : W2.heap.size = W1.heap.size := by rw [← hW2]; simp
    have hI2 : PrI W W.heap.size w1.heap.size L es M' m W2 := PrI.abd _ _ _ _ _ HI.out (by rw [← hW2]; exact Sep.put _ _ hl) (Ext.refl _ _ _)
    obtain ⟨⟨j1, j1'⟩, ⟨j2, j2'⟩, j5, j6⟩ := hI2
    have hml : m < L := by rw [← HLn.out]; exact (List.getElem?_eq_some_iff.1 HX.out).1
    have cS : W2.cell? ⟨w1.heap.size, 0, none⟩ = some (.slice (some ⟨W.heap.size, 0, none⟩) m L) := by rw [cell_of_row _ _ _ _ _ _ j1']; rfl
    have hSl := own_lt j2' (k := W.heap.size) rfl
    have hBl2 : w1.heap.size < W2.heap.size := (Array.getElem?_eq_some_iff.1 j1').1
    obtain ⟨W3, hrun, hown, hgr⟩ := run_append_fits (P := Tryz.prog) (W2.alloc (.cells #[.string e1, .string e2] 70)) W.heap.size 23 23 70 i0 2 Tryz.underlying23 hi0 hzs W.heap.size m L (enL (es.take m)) (j2'.alloc _) ⟨W2.heap.size, 0, none⟩ 1 1 [.string e1, .string e2] rfl (World.news_of_block (cs := #[.string e1, .string e2]) (t := 70) (fr := (0, 0)) (heap_alloc_new W2 _)) (by simp [Value.oneCell']) (by omega)
    have MA := keep hrun
    have hs3 : W2.heap.size + 1 ≤ W3.heap.size := by have := hgr.size; simpa using this
    have same : ∀ k, k < W2.heap.size → k ≠ W.heap.size → W3.heap[k]? = W2.heap[k]? := fun k hk hn => by
      rw [hgr.block k (by simp; omega) (fun e => hn (Option.some.inj e)), Below.heap_alloc _ _ _ hk]
    have h3S := (same w1.heap.size hBl2 (by omega)).trans j1'
    have c3S : W3.cell? ⟨w1.heap.size, 0, none⟩ = some (.slice (some ⟨W.heap.size, 0, none⟩) m L) := by rw [cell_of_row _ _ _ _ _ _ h3S]; rfl
    have f3S : W3.frozen? ⟨w1.heap.size, 0, none⟩ = false := by simp [World.frozen?, h3S]
    have sameS : ∀ k, k ≠ w1.heap.size → (W3.setCell ⟨w1.heap.size, 0, none⟩ (.slice (some ⟨W.heap.size, 0, none⟩) (m + 1) L)).heap[k]? = W3.heap[k]? := fun k hk => Below.heap_setCell _ _ _ _ hk
    have fin : Kept (rdPost (PrI W W.heap.size w1.heap.size L es) (fun _ _ _ _ => False) M' (m + 1) W2 .normal { tmps := #[], defers := [] } (W3.setCell ⟨w1.heap.size, 0, none⟩ (.slice (some ⟨W.heap.size, 0, none⟩) (m + 1) L))) := by
      have hss : (W3.setCell ⟨w1.heap.size, 0, none⟩ (.slice (some ⟨W.heap.size, 0, none⟩) (m + 1) L)).heap.size = W3.heap.size := by simp [World.setCell]
      refine ⟨⟨by rw [hss]; omega, fun k hk => ?_⟩, ⟨j1, cells_setCell h3S⟩, ⟨j2, ?_⟩, ?_, j6⟩
      · have hkb := HM'.out k hk
        rw [sameS k (fun e => j1 (e ▸ hk)), same k (by omega) (fun e => j2 (e ▸ hk))]
      · have e : enL (es.take (m + 1)) = enL (es.take m) ++ [.string e1, .string e2] := by
          obtain ⟨hml', this⟩ := List.getElem?_eq_some_iff.1 HX.out
          rw [List.take_succ_eq_append_getElem hml', this]
          unfold enL
          rw [List.flatMap_append]
          rfl
        rw [e]
        exact own_kept hown (fun k hk => by cases hk; exact sameS W.heap.size (by omega))
      · refine j5.trans ⟨hgr.os, hgr.tape, hgr.output, by rw [hss]; omega, fun k hk => ?_⟩
        rw [sameS k (by omega), same k (by omega) (by omega)]
    clear hrun hown hgr same h3S sameS j1 j1' j2 j2' j5 j6 hW2 hz2' hz4 hs3
    gi_wp2_with (first | (show wpListIn _ _ _ _ _ ({ dst := some 19, op := Op.call { callee := Callee.builtin Builtin.append, args := _, argTypes := _ }, type := _, pos := _, after := _, guard := _ } :: _) _ _; refine wpListIn_app_run rfl (.tmp 14) (.tmp 18) 23 rfl _ _ _ rfl rfl MA.out ?_))
    exact fin.out
  case done =>
    intro M' D W5 hI hD hDk hM'
    obtain ⟨⟨j1, j1'⟩, ⟨j2, j2'⟩, j5, j6⟩ := hI
    rw [HLn.out] at j1' j2'
    rw [List.take_of_length_le (by rw [HLn.out]; exact Nat.le_refl _)] at j2'
    have hsS : w1.heap.size < W5.heap.size := (Array.getElem?_eq_some_iff.1 j1').1
    have hsG : W.heap.size < W5.heap.size := own_lt j2' (k := W.heap.size) rfl
    have hDW : W.heap.size ≤ D := j6 D hD
    have hsD : D < W5.heap.size := (Array.getElem?_eq_some_iff.1 hDk).1
    have hDG : D ≠ W.heap.size := fun e => j2 (e ▸ hD)
    have hDS : D ≠ w1.heap.size := fun e => j1 (e ▸ hD)
    have c5S : W5.cell? ⟨w1.heap.size, 0, none⟩ = some (.slice (some ⟨W.heap.size, 0, none⟩) L L) := by rw [cell_of_row _ _ _ _ _ _ j1']; rfl
    have mS := sort_any W5 W.heap.size W.heap.size L es (by rw [HLn.out]; exact j2') HND.out (by rw [HLn.out]; exact hLN)
    rw [HLn.out] at mS
    have J1 := keep j1'
    have J5 := keep j5
    have HDK := keep hDk
    clear j1 j1' j2 j2' j5 j6 hM' hDk HI0 HB4 C4B hz4
    go_wp2_with fail
    refine mS.mono ?_
    rintro _ w6 ⟨rfl, O, hO1, hO2, hO3⟩
    have k6S : w6.heap[w1.heap.size]? = W5.heap[w1.heap.size]? := hO3.block _ hsS (fun e => by have := Option.some.inj e; omega)
    have c6S : w6.cell? ⟨w1.heap.size, 0, none⟩ = some (.slice (some ⟨W.heap.size, 0, none⟩) L L) := by rw [cell_of_row _ _ _ _ _ _ (k6S.trans J1.out)]; rfl
    have h6D : w6.heap[D]? = some (.deferred (some [])) := (hO3.block _ hsD (fun e => hDG (Option.some.inj e))).trans HDK.out
    have OO1 := keep hO1
    have OO2 := keep hO2
    have OO3 := keep hO3
    have H6D := keep h6D
    clear hO1 hO2 hO3 h6D k6S mS c5S
    go_wp2
    have hOl : O.length = L := by rw [OO1.out.1.length_eq]; exact HLn.out
    refine leave_mark H6D.out ?_
    have hb6 : Below W.heap.size W w6 := J5.out.grown OO3.out (by exact J5.out.size) (fun k e => by cases e; exact Nat.le_refl _)
    refine ⟨_, results_tmp rfl _ _ _, _, O, rfl, OO1.out, ⟨W.heap.size, by rw [hOl]; rfl, ?_⟩, hb6.grown (grownBy_mark _ D _) hb6.size (fun k e => by cases e; exact hDW)⟩
    rw [hOl]
    exact own_kept OO2.out (fun k hk => by cases hk; exact World.putObj_heap_other (Ne.symm hDG))
end Go.Proofs.YtmgeaanbgjbkcaaGreat.DS
