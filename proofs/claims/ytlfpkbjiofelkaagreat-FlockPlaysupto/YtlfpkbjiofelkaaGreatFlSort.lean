/-
  Contracts over this program: the library's sort, at a row of texts of one's own; rows of texts.
-/
import Derived.Test.YtlfpkbjiofelkaaGreatFlMath
import Derived.Test.YtlfpkbjiofelkaaGreatDictEach
import Derived.Test.YtlfpkbjiofelkaaGreatsortSL
namespace Go.Proofs.YtlfpkbjiofelkaaGreat
open Go.RowKit Go.Shelf Go.Sort
/-- the cells of a row of texts -/
def enS (l : List ByteArray) : List Value := l.map Value.string
theorem enS_len (l : List ByteArray) : (enS l).length = l.length := by simp [enS]
/-- m is l, rising -/
def Srs (l m : List ByteArray) : Prop := m.Perm l ∧ m.Pairwise (fun a b => ky a < ky b)
theorem srs_eq : ∀ {l m : List ByteArray}, l.Pairwise (fun a b => ky a < ky b) → m.Pairwise (fun a b => ky a < ky b) → l.Perm m → l = m := by
  intro l
  induction l with
  | nil => intro m _ _ h; exact (List.nil_perm.1 h).symm
  | cons a l ih =>
    intro m hl hm h
    cases m with
    | nil => exact absurd h.length_eq (by simp)
    | cons b m =>
      rw [List.pairwise_cons] at hl hm
      have hab : a = b := by
        have ha : a ∈ b :: m := h.subset (by simp)
        have hb : b ∈ a :: l := h.symm.subset (by simp)
        rcases List.mem_cons.1 ha with e | e
        · exact e
        · rcases List.mem_cons.1 hb with e' | e'
          · exact e'.symm
          · exact absurd (List.lt_trans (hm.1 a e) (hl.1 b e')) (List.lt_irrefl _)
      subst hab
      rw [ih hl.2 hm.2 ((List.perm_cons a).1 h)]
theorem Srs.eq {l l' m m' : List ByteArray} (h : Srs l m) (h' : Srs l' m') (hp : l.Perm l') : m = m' := srs_eq h.2 h'.2 (h.1.trans (hp.trans h'.1.symm))
theorem Srs.nodup {l m : List ByteArray} (h : Srs l m) : m.Nodup := by
  rw [List.nodup_iff_pairwise_ne]
  exact h.2.imp (fun {a b} hab e => by subst e; exact List.lt_irrefl _ hab)
def unky (b : List UInt8) : ByteArray := ⟨b.toArray⟩
theorem unky_ky (x : ByteArray) : unky (ky x) = x := ky_inj (by simp [unky, ky])
theorem ky_unky (b : List UInt8) : ky (unky b) = b := by simp [unky, ky]
theorem enc_ky (x : ByteArray) : encStr (ky x) = .string x := by
  show Value.string _ = _
  congr 1
theorem get_ss (l : List ByteArray) (j : Nat) (hj : j < l.length) : (l.map ky).toArray[j]! = ky l[j] := by
  rw [getElem!_pos _ _ (by simpa using hj)]; simp
theorem holds_own {W : World} {base g cap : Nat} {t : TypeId} {l : List ByteArray} (ho : W.ownsRow base t 1 (.slice (some ⟨g, 0, none⟩) l.length cap) l.length (enS l)) : Holds encStr W g 0 (l.map ky).toArray := by
  intro j hj
  have hj' : j < l.length := by simpa using hj
  rcases ho.2 with ⟨h, _⟩ | ⟨g', cap', cur, h, _, hg, _⟩
  · cases h
  · cases h
    refine ⟨?_, by simp [World.frozen?, hg]⟩
    have h1 := ho.cells (g := g) rfl j (.string l[j]) (by simp [enS, hj'])
    rw [get_ss l j hj', enc_ky, Nat.zero_add]
    rwa [show (⟨g, 0, none⟩ : Addr).add j = ⟨g, j, none⟩ by unfold Addr.add; split <;> simp_all] at h1
theorem put_take (cur : Array Value) (m : List ByteArray) (h : m.length ≤ cur.size) : (putCells encStr 0 (m.map ky).toArray cur).toList.take m.length = enS m := by
  apply List.ext_getElem?
  intro j
  by_cases hj : j < m.length
  · rw [List.getElem?_take_of_lt hj, Array.getElem?_toList]
    simp only [putCells, enS]
    rw [Array.getElem?_mapIdx, Array.getElem?_eq_getElem (show j < cur.size by omega), List.getElem?_map, List.getElem?_eq_getElem hj]
    simp only [Option.map_some, Nat.zero_le, Nat.zero_add, true_and, Nat.sub_zero]
    rw [if_pos (by simpa using hj), get_ss m j hj, enc_ky]
  · rw [List.getElem?_take_eq_none (by omega), List.getElem?_eq_none (by rw [enS_len]; omega)]
/-- the sorted row, as texts -/
theorem srs_merge (l : List ByteArray) (hn : l.Nodup) : Srs l (((l.map ky).mergeSort (fun x y => decide (x ≤ y))).map unky) := by
  have hp := List.mergeSort_perm (l.map ky) (fun x y => decide (x ≤ y))
  have hs : ((l.map ky).mergeSort (fun x y => decide (x ≤ y))).Pairwise (fun a b => decide (a ≤ b) = true) :=
    List.pairwise_mergeSort (fun a b c h1 h2 => by simp only [decide_eq_true_eq] at *; exact List.le_trans h1 h2) (fun a b => by simp only [Bool.or_eq_true, decide_eq_true_eq]; exact List.le_total a b) _
  generalize (l.map ky).mergeSort (fun x y => decide (x ≤ y)) = m at hp hs
  have hpm : (m.map unky).Perm l := by
    have := hp.map unky
    rw [List.map_map] at this
    rwa [show unky ∘ ky = id from funext unky_ky, List.map_id] at this
  refine ⟨hpm, ?_⟩
  have hnm : (m.map unky).Nodup := hpm.nodup_iff.2 hn
  rw [List.nodup_iff_pairwise_ne, List.pairwise_map] at hnm
  rw [List.pairwise_map]
  refine (List.pairwise_and_iff.2 ⟨hs, hnm⟩).imp ?_
  rintro a b ⟨h1, h2⟩
  rw [ky_unky, ky_unky]
  rw [decide_eq_true_eq] at h1
  rcases Classical.em (a < b) with h | h
  · exact h
  · exact absurd (congrArg unky (List.le_antisymm h1 (List.not_lt.1 h))) h2
theorem merge_ky (l : List ByteArray) : (l.map ky).mergeSort (fun x y => decide (x ≤ y)) = (((l.map ky).mergeSort (fun x y => decide (x ≤ y))).map unky).map ky := by
  rw [List.map_map, show ky ∘ unky = id from funext ky_unky, List.map_id]
set_option maxHeartbeats 400000 in
theorem sort_any (W : World) (base g cap : Nat) (l : List ByteArray) (ho : W.ownsRow base 9 1 (.slice (some ⟨g, 0, none⟩) l.length cap) l.length (enS l)) (hn : l.Nodup) (hlen : l.length ≤ 2600000000000) :
    Calls Tryz.prog 52 #[.slice (some ⟨g, 0, none⟩) l.length cap] W fun e w' => e = .returned (.tuple #[]) ∧ ∃ m, Srs l m ∧ w'.ownsRow base 9 1 (.slice (some ⟨g, 0, none⟩) l.length cap) l.length (enS m) ∧ W.grownBy w' (some g) := by
  have hH := holds_own ho
  rcases ho.2 with ⟨h, _⟩ | ⟨g', cap', cur, h, hbase, hg, h1, h2, h3, h4⟩
  · cases h
  cases h
  have hgl : g < W.heap.size := (Array.getElem?_eq_some_iff.1 hg).1
  have hcon := AnyM.slices_Sort_string Tryz.sortS g 0 cap (l.map ky) W hH hgl (by rw [List.length_map]; omega)
  change Calls Tryz.prog 52 _ _ _ at hcon
  rw [List.length_map] at hcon
  refine hcon.mono ?_
  rintro _ w' ⟨rfl, n, os, rfl⟩
  have hS := srs_merge l hn
  rw [merge_ky l]
  generalize ((l.map ky).mergeSort (fun x y => decide (x ≤ y))).map unky = m at hS ⊢
  have hdl : m.length = l.length := hS.1.length_eq
  refine ⟨rfl, m, hS, ⟨by rw [enS_len, hdl, Nat.mul_one], .inr ⟨g, cap, putCells encStr 0 (m.map ky).toArray cur, rfl, hbase, ?_, h1, h2, by simp [putCells, h3], ?_⟩⟩, ⟨rfl, rfl, rfl, ?_, ?_⟩⟩
  · show (grow (putRow encStr (Sort.ahead W n) g 0 (m.map ky).toArray) os).heap[g]? = _
    rw [heap_grow_old _ _ (by simpa using hgl)]
    simp [putRow, mapBlock, Sort.ahead, Array.getElem?_modify, hg, onCells]
  · rw [Nat.mul_one, ← hdl]
    exact put_take cur m (by rw [hdl, h3]; omega)
  · show W.heap.size ≤ (grow (putRow encStr (Sort.ahead W n) g 0 (m.map ky).toArray) os).heap.size
    simp
  · intro k hk hne
    show (grow (putRow encStr (Sort.ahead W n) g 0 (m.map ky).toArray) os).heap[k]? = _
    rw [heap_grow_old _ _ (by simpa using hk)]
    have : g ≠ k := fun e => hne (by rw [e])
    simp [putRow, mapBlock, Sort.ahead, Array.getElem?_modify, this]
end Go.Proofs.YtlfpkbjiofelkaaGreat
