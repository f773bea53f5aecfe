/-
  Contracts over this program: the library's sort, at a row of pairs of one's own.
-/
import Derived.Test.YtkcmhfcfmbhboaaGreatRecMath
import Derived.Test.YtkcmhfcfmbhboaaGreatDictEach
import Derived.Test.YtkcmhfcfmbhboaaGreatsortPL
namespace Go.Proofs.YtkcmhfcfmbhboaaGreat
open Go.RowKit Go.Shelf Go.Sort
set_option maxRecDepth 100000 in
set_option maxHeartbeats 400000 in
theorem cmpS_any (a b : ByteArray) (w : World) :
    Calls Tryz.prog 53 #[.string a, .string b] w fun e w' => e = .returned (.int .i64 (Lib.compareBytes a.data.toList b.data.toList)) ∧ w' = w := by
  go_enter Tryz.func53, Tryz.ntmps53
  go_wp2
  rw [run_callFunc_extern Tryz.func85 (by kernel_rfl) (by kernel_rfl) (by kernel_rfl) (e := Extern.BytealgCompare.compare) (by kernel_rfl), Lib.run_compareString]
  simp only [Result.andThen]
  rw [Oper.upon_value]
  go_wp2
  go_ret
  exact ⟨rfl, rfl⟩
set_option maxRecDepth 100000 in
set_option maxHeartbeats 400000 in
theorem compare_any (a b : ByteArray) (w : World) :
    Calls Tryz.prog 35 #[.string a, .string b] w fun e w' => e = .returned (.int .i64 (Lib.compareBytes a.data.toList b.data.toList)) ∧ w' = w := by
  go_enter Tryz.func35, Tryz.ntmps35
  go_wp2_with (go_at_call 53; refine (cmpS_any _ _ _).mono ?_; rintro e w' ⟨rfl, rfl⟩)
  go_ret
  exact ⟨rfl, rfl⟩
set_option maxRecDepth 100000 in
set_option maxHeartbeats 400000 in
theorem less_any (x y : Ent) (W : World) :
    Calls Tryz.prog 34 #[.agg #[.string x.1, .string x.2], .agg #[.string y.1, .string y.2]] W fun e w' => e = .returned (.int .i64 (cfE x y)) ∧ ∃ q os', w' = grow (W.drewN q) os' := by
  have hcon := fun W' => compare_any x.1 y.1 W'
  obtain ⟨c, hc⟩ : ∃ c, cfE x y = c := ⟨_, rfl⟩
  rw [hc]
  rw [show Lib.compareBytes x.1.data.toList y.1.data.toList = c from hc] at hcon
  clear hc
  go_enter Tryz.func34, Tryz.ntmps34
  go_wp2_with (go_at_call 35; refine (hcon _).mono ?_; rintro e w' ⟨rfl, rfl⟩)
  go_ret
  exact ⟨rfl, 0, _, by rw [alloc_eq_grow, alloc_eq_grow, grow_grow]; rfl⟩
theorem cmpLays_any (blk off size : Nat) (w : World) : CmpLays Tryz.prog 34 #[] enE 2 cfE blk off size w :=
  fun _ _ _ _ x y => less_any x y _
theorem flat_at (d : Array Ent) (t : Nat) (ht : t < d.size * 2) : (enL d.toList)[t]? = some ((enE d[t / 2]!)[t % 2]!) := by
  have hq : t / 2 < d.size := by omega
  have hd : d.toList[t / 2]? = some d[t / 2]! := by rw [Array.getElem?_toList, getElem!_pos d _ hq, Array.getElem?_eq_getElem hq]
  obtain ⟨h1, h2⟩ := enL_at hd
  rcases Nat.mod_two_eq_zero_or_one t with e | e
  · rw [e, show t = t / 2 * 2 by omega, show t / 2 * 2 / 2 = t / 2 by omega, h1]; rfl
  · rw [e]
    conv => lhs; rw [show t = t / 2 * 2 + 1 by omega]
    rw [h2]; rfl
theorem flat_is (d : Array Ent) : (flatK enE 2 d).toList = enL d.toList := by
  apply List.ext_getElem?
  intro t
  by_cases ht : t < d.size * 2
  · rw [flat_at d t ht, Array.getElem?_toList, Array.getElem?_eq_getElem (by rw [size_flatK]; exact ht), ← getElem!_pos (flatK enE 2 d) t (by rw [size_flatK]; exact ht), get_flatK _ _ _ _ ht]
  · rw [List.getElem?_eq_none (by rw [Array.length_toList, size_flatK]; omega), List.getElem?_eq_none (by rw [enL_len, Array.length_toList]; omega)]
theorem holds_own {W : World} {base g cap : Nat} {t : TypeId} {es : List Ent} (ho : W.ownsRow base t 2 (.slice (some ⟨g, 0, none⟩) es.length cap) es.length (enL es)) : HoldsK enE 2 W g 0 es.toArray := by
  intro j hj
  rw [size_flatK] at hj
  have hj' : j < es.length * 2 := by simpa using hj
  rcases ho.2 with ⟨h, _⟩ | ⟨g', cap', cur, h, _, hg, _⟩
  · cases h
  · cases h
    refine ⟨?_, by simp [World.frozen?, hg]⟩
    have h1 := ho.cells (g := g) rfl j _ (flat_at es.toArray j hj)
    rw [get_flatK _ _ _ _ hj, Nat.zero_add]
    rwa [show (⟨g, 0, none⟩ : Addr).add j = ⟨g, j, none⟩ by unfold Addr.add; split <;> simp_all] at h1
theorem put_take (cur F : Array Value) (h : F.size ≤ cur.size) : (putCells id 0 F cur).toList.take F.size = F.toList := by
  apply List.ext_getElem?
  intro j
  by_cases hj : j < F.size
  · rw [List.getElem?_take_of_lt hj, Array.getElem?_toList]
    simp [putCells, hj, show j < cur.size by omega]
  · rw [List.getElem?_take_eq_none (by omega), List.getElem?_eq_none (by simp; omega)]
theorem sorted_of {es : List Ent} {d' : Array Ent} (hn : (Dc.keys es).Nodup) (hp : PermIn 0 es.toArray.size es.toArray d') (hs : SortedIn (ltOf cfE) 0 es.toArray.size d') : Srt es d'.toList := by
  have hsz : d'.size = es.length := by rw [hp.1]; simp
  have hpm : d'.toList.Perm es := by
    have := hp.2.2
    have e1 : d'.extract 0 es.toArray.size = d' := by rw [← hp.1]; simp
    rw [e1] at this
    simpa using this
  refine ⟨hpm, ?_⟩
  have hn' : (Dc.keys d'.toList).Nodup := (Dc.keys_perm hpm).nodup_iff.2 hn
  rw [List.pairwise_iff_getElem]
  intro i j hi hj hij
  have hi' : i < d'.size := by simpa using hi
  have hj' : j < d'.size := by simpa using hj
  have h1 := hs i j (Nat.zero_le _) hij (by rw [← hp.1]; exact hj')
  rw [lt_cfE, decide_eq_false_iff_not, getElem!_pos d' j hj', getElem!_pos d' i hi', List.not_lt] at h1
  simp only [Array.getElem_toList]
  have hne : ky d'[i].1 ≠ ky d'[j].1 := fun e => by
    have e' := ky_inj e
    unfold Dc.keys at hn'
    rw [List.nodup_iff_pairwise_ne, List.pairwise_iff_getElem] at hn'
    exact hn' i j (by simpa using hi') (by simpa using hj') hij (by simpa using e')
  rcases Classical.em (ky d'[i].1 < ky d'[j].1) with h | h
  · exact h
  · exact absurd (List.le_antisymm h1 (List.not_lt.1 h)) hne
set_option maxHeartbeats 400000 in
theorem sort_any (W : World) (base g cap : Nat) (es : List Ent) (ho : W.ownsRow base 54 2 (.slice (some ⟨g, 0, none⟩) es.length cap) es.length (enL es)) (hn : (Dc.keys es).Nodup) (hlen : es.length ≤ 2600000000000) :
    Calls Tryz.prog 33 #[.slice (some ⟨g, 0, none⟩) es.length cap, .func (.func 34) #[] #[]] W fun e w' => e = .returned (.tuple #[]) ∧ ∃ L, Srt es L ∧ w'.ownsRow base 54 2 (.slice (some ⟨g, 0, none⟩) es.length cap) es.length (enL L) ∧ W.grownBy w' (some g) := by
  have hH := holds_own ho
  rcases ho.2 with ⟨h, _⟩ | ⟨g', cap', cur, h, hbase, hg, h1, h2, h3, h4⟩
  · cases h
  cases h
  have hgl : g < W.heap.size := (Array.getElem?_eq_some_iff.1 hg).1
  have hsz : es.toArray.size < 4611686018427387904 := by
    have : es.toArray.size = es.length := by simp
    omega
  have hcon := AnyQ.slices_SortFunc Tryz.sortP 2 Tryz.isAgg54 Tryz.sizeOf54 enE (fun _ => rfl) (fun x v hv => by simp [enE] at hv; rcases hv with rfl | rfl <;> rfl) cfE swoE 34 #[] g 0 cap es.toArray W (enters_of Tryz.func34 (by kernel_rfl) rfl) (cmpLays_any g 0 es.toArray.size W) hH hgl hsz
  change Calls Tryz.prog 33 _ _ _ at hcon
  rw [show es.toArray.size = es.length by simp] at hcon
  refine hcon.mono ?_
  rintro _ w' ⟨rfl, d', n, os, hp, hs, rfl⟩
  have hS := sorted_of hn (by rw [show es.toArray.size = es.length by simp]; exact hp) (by rw [show es.toArray.size = es.length by simp]; exact hs)
  have hdl : d'.toList.length = es.length := hS.1.length_eq
  refine ⟨rfl, d'.toList, hS, ⟨by rw [enL_len, hdl], .inr ⟨g, cap, putCells id 0 (flatK enE 2 d') cur, rfl, hbase, ?_, h1, h2, by simp [putCells, h3], ?_⟩⟩, ⟨rfl, rfl, rfl, ?_, ?_⟩⟩
  · show (grow (putRow id (Sort.ahead W n) g 0 (flatK enE 2 d')) os).heap[g]? = _
    rw [heap_grow_old _ _ (by simpa using hgl)]
    simp [putRow, mapBlock, Sort.ahead, Array.getElem?_modify, hg, onCells]
  · have hF : (flatK enE 2 d').size = es.length * 2 := by rw [size_flatK, ← hdl]; simp
    rw [← flat_is, ← hF]
    exact put_take cur _ (by rw [hF, h3]; exact Nat.mul_le_mul_right 2 h1)
  · show W.heap.size ≤ (grow (putRow id (Sort.ahead W n) g 0 (flatK enE 2 d')) os).heap.size
    simp
  · intro k hk hne
    show (grow (putRow id (Sort.ahead W n) g 0 (flatK enE 2 d')) os).heap[k]? = _
    rw [heap_grow_old _ _ (by simpa using hk)]
    have : g ≠ k := fun e => hne (by rw [e])
    simp [putRow, mapBlock, Sort.ahead, Array.getElem?_modify, this]
end Go.Proofs.YtkcmhfcfmbhboaaGreat
