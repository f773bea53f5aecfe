/-
  Contracts over this program: the library's sort at the row of all names, and the pieces of a line of the table.
-/
import Derived.Test.YtaflggjgndkdlaaDoorVbNm0
import Derived.Test.YtaflggjgndkdlaaDoorVbChw
import Derived.Test.YtaflggjgndkdlaaDoorVbSplit
import Derived.Test.YtaflggjgndkdlaaDoorShelNm
namespace Go.Proofs.YtaflggjgndkdlaaDoor
open Go.RowKit Go.Shelf Go.Sort
set_option linter.unusedVariables false
set_option maxRecDepth 100000 in
theorem names_perm : srtL.isPerm namesL = true := by decide +kernel
set_option maxRecDepth 100000 in
theorem names_rise : srtL.Pairwise (fun a b => a < b) := by decide +kernel
theorem merge_names : namesL.mergeSort (fun x y => decide (x ≤ y)) = srtL := by
  have hp := List.mergeSort_perm namesL (fun x y => decide (x ≤ y))
  have hs : (namesL.mergeSort (fun x y => decide (x ≤ y))).Pairwise (fun a b => decide (a ≤ b) = true) :=
    List.pairwise_mergeSort (fun a b c h1 h2 => by simp only [decide_eq_true_eq] at *; exact List.le_trans h1 h2) (fun a b => by simp only [Bool.or_eq_true, decide_eq_true_eq]; exact List.le_total a b) _
  refine List.Perm.eq_of_pairwise (le := fun a b => a ≤ b) (fun a b _ _ h1 h2 => List.le_antisymm h1 h2) (hs.imp fun {a b} h => by simpa using h) (names_rise.imp fun {a b} h => List.le_of_lt h) (hp.trans (List.isPerm_iff.1 names_perm).symm)
theorem get_ll (l : List (List UInt8)) (j : Nat) (hj : j < l.length) : l.toArray[j]! = l[j] := by
  rw [getElem!_pos _ _ (by simpa using hj)]; simp
theorem holds_ks {B g n c : Nat} {W : World} {l : List (List UInt8)} (h : Ks B W (.slice (some ⟨g, 0, none⟩) n c) (l.map Vb.ofL)) : Holds encStr W g 0 l.toArray := by
  intro j hj
  have hj' : j < l.length := by simpa using hj
  have hc := h.cells (g := g) rfl j (.string (Vb.ofL l[j])) (by simp [hj'])
  rw [add_at, Nat.zero_add] at hc
  rcases h.2 with ⟨e, _⟩ | ⟨g', cap', cur, e, _, hg, _⟩
  · cases e
  · cases e
    refine ⟨?_, by simp [World.frozen?, hg]⟩
    rw [get_ll l j hj', Nat.zero_add]
    exact hc
theorem put_at (cur : Array Value) (m : List (List UInt8)) (h : m.length ≤ cur.size) : (putCells encStr 0 m.toArray cur).toList.take m.length = (m.map Vb.ofL).map Value.string := by
  apply List.ext_getElem?
  intro j
  by_cases hj : j < m.length
  · rw [List.getElem?_take_of_lt hj, Array.getElem?_toList]
    simp only [putCells]
    rw [Array.getElem?_mapIdx, Array.getElem?_eq_getElem (show j < cur.size by omega), List.map_map, List.getElem?_map, List.getElem?_eq_getElem hj]
    simp only [Option.map_some, Nat.zero_le, Nat.zero_add, true_and, Nat.sub_zero]
    rw [if_pos (by simpa using hj), get_ll m j hj]
    rfl
  · rw [List.getElem?_take_eq_none (by omega), List.getElem?_eq_none (by rw [List.length_map, List.length_map]; omega)]
set_option maxRecDepth 100000 in
set_option maxHeartbeats 800000 in
theorem sort_names (W : World) (B g cap : Nat) (ho : Ks B W (.slice (some ⟨g, 0, none⟩) 113 cap) (namesL.map Vb.ofL)) :
    Calls Tryd.prog 29 #[.slice (some ⟨g, 0, none⟩) 113 cap] W fun e w' => e = .returned (.tuple #[]) ∧ Ks B w' (.slice (some ⟨g, 0, none⟩) 113 cap) (srtK 113) ∧ W.grownBy w' (some g) := by
  have hH := holds_ks ho
  have hK : srtK 113 = srtL.map Vb.ofL := by unfold srtK; rw [List.take_of_length_le (by rw [srt_len]; exact Nat.le_refl _)]
  have hml := names_len
  have hsl := srt_len
  rcases ho.2 with ⟨h, _⟩ | ⟨g', cap', cur, h, hbase, hg, h1, h2, h3, h4⟩
  · cases h
  cases h
  rw [List.length_map, hml] at h1 h4
  have hgl : g < W.heap.size := (Array.getElem?_eq_some_iff.1 hg).1
  have hcon := Tryd.slices_Sort_string g 0 cap namesL W hH hgl (by rw [hml]; decide)
  change Calls Tryd.prog 29 _ _ _ at hcon
  rw [hml, merge_names] at hcon
  rw [hK]
  clear hK hH ho
  obtain ⟨S, hS⟩ : ∃ S, S = srtL := ⟨_, rfl⟩
  rw [← hS] at hcon hsl ⊢
  clear hS hml
  refine hcon.mono ?_
  rintro _ w' ⟨rfl, n, os, rfl⟩
  refine ⟨rfl, ⟨by rw [List.length_map, Nat.mul_one, List.length_map], .inr ⟨g, cap, putCells encStr 0 S.toArray cur, by rw [List.length_map, hsl], hbase, ?_, by rw [List.length_map, hsl]; exact h1, h2, by simp [putCells, h3], ?_⟩⟩, ⟨rfl, rfl, rfl, ?_, ?_⟩⟩
  · show (grow (putRow encStr (Sort.ahead W n) g 0 S.toArray) os).heap[g]? = _
    rw [heap_grow_old _ _ (by simpa using hgl)]
    simp [putRow, mapBlock, Sort.ahead, Array.getElem?_modify, hg, onCells]
  · rw [Nat.mul_one, List.length_map]
    exact put_at cur S (by rw [hsl, h3]; omega)
  · show W.heap.size ≤ (grow (putRow encStr (Sort.ahead W n) g 0 S.toArray) os).heap.size
    simp
  · intro k hk hne
    show (grow (putRow encStr (Sort.ahead W n) g 0 S.toArray) os).heap[k]? = _
    rw [heap_grow_old _ _ (by simpa using hk)]
    have : g ≠ k := fun e => hne (by rw [e])
    simp [putRow, mapBlock, Sort.ahead, Array.getElem?_modify, this]
set_option maxRecDepth 100000 in
theorem split_ok : Vb.kinL.all (fun q => decide (Lib.splitB sp 0 (Lib.countB (Vb.ofL q.1) sp) (Vb.ofL q.1) = (Vb.pieces q.1).map Vb.ofL) && decide (Lib.countB (Vb.ofL q.1) sp + 1 = (Vb.pieces q.1).length) && decide (q.1.length < 4294967281) && decide ((Vb.pieces q.1).length ≤ 2000) && (Vb.pieces q.1).all fun u => decide (u.length ≤ 2000)) = true := by decide +kernel
theorem split_row {i : Nat} {q : List UInt8 × Vb.Row} (h : Vb.kinL[i]? = some q) : Lib.splitB sp 0 (Lib.countB (Vb.ofL q.1) sp) (Vb.ofL q.1) = (Vb.pieces q.1).map Vb.ofL ∧ Lib.countB (Vb.ofL q.1) sp + 1 = (Vb.pieces q.1).length ∧ q.1.length < 4294967281 ∧ (Vb.pieces q.1).length ≤ 2000 ∧ ∀ u ∈ Vb.pieces q.1, u.length ≤ 2000 := by
  have h0 := List.all_eq_true.1 split_ok q (List.mem_of_getElem? h)
  simp only [Bool.and_eq_true, decide_eq_true_eq, List.all_eq_true] at h0
  exact ⟨h0.1.1.1.1, h0.1.1.1.2, h0.1.1.2, h0.1.2, h0.2⟩
end Go.Proofs.YtaflggjgndkdlaaDoor
