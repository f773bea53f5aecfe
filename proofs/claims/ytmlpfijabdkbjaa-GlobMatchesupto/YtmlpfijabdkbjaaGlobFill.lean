/-
  Plain mathematics: a slice literal of one part that fills it holds that part's cells.
-/
import Derived.Test.YtmlpfijabdkbjaaGlobRefSet
import Derived.Great.Walk
namespace Go.Proofs.Ytmlpfijabdkbjaa
open Go.RowKit
theorem fill_list (l : List Value) : ∀ (o : Nat) (cs : Array Value), o + l.length ≤ cs.size →
    ((l.zipIdx o).foldl (fun cs (x : Value × Nat) => cs.setIfInBounds (0 + x.2) x.1) cs).size = cs.size ∧
    ∀ j, ((l.zipIdx o).foldl (fun cs (x : Value × Nat) => cs.setIfInBounds (0 + x.2) x.1) cs)[j]? = if o ≤ j ∧ j < o + l.length then l[j - o]? else cs[j]? := by
  induction l with
  | nil =>
    intro o cs _
    refine ⟨rfl, fun j => ?_⟩
    rw [if_neg (by simp)]
    rfl
  | cons c l ih =>
    intro o cs h
    rw [List.length_cons] at h
    rw [List.zipIdx_cons, List.foldl_cons]
    have hs : (cs.setIfInBounds (0 + o) c).size = cs.size := by simp
    obtain ⟨h1, h2⟩ := ih (o + 1) (cs.setIfInBounds (0 + o) c) (by rw [hs]; omega)
    refine ⟨h1.trans hs, fun j => ?_⟩
    rw [h2 j]
    by_cases hj : o + 1 ≤ j ∧ j < o + 1 + l.length
    · rw [if_pos hj, if_pos (by rw [List.length_cons]; omega), show j - o = (j - (o + 1)) + 1 from by omega, List.getElem?_cons_succ]
    · rw [if_neg hj, Nat.zero_add, Array.getElem?_setIfInBounds]
      by_cases he : o = j
      · subst he
        rw [if_pos rfl, if_pos (by omega), if_pos (by rw [List.length_cons]; omega), Nat.sub_self]
        rfl
      · rw [if_neg he, if_neg (by rw [List.length_cons]; omega)]
theorem fill_all (C B : Array Value) (h : C.size = B.size) : C.zipIdx.foldl (fun cs (x : Value × Nat) => cs.setIfInBounds (0 + x.2) x.1) B = C := by
  have e : C.zipIdx.foldl (fun cs (x : Value × Nat) => cs.setIfInBounds (0 + x.2) x.1) B = (C.toList.zipIdx 0).foldl (fun cs (x : Value × Nat) => cs.setIfInBounds (0 + x.2) x.1) B := by
    rw [← Array.foldl_toList, Array.toList_zipIdx]
  rw [e]
  obtain ⟨h1, h2⟩ := fill_list C.toList 0 B (by rw [Array.length_toList]; omega)
  apply Array.ext_getElem?
  intro j
  rw [h2 j]
  by_cases hj : j < C.size
  · rw [if_pos (by rw [Array.length_toList]; omega), Nat.sub_zero, Array.getElem?_toList]
  · rw [if_neg (by rw [Array.length_toList]; omega), Array.getElem?_eq_none (by omega), Array.getElem?_eq_none (by omega)]
theorem built_one (C : Array Value) (h : C.size = 259) : Try.prog.builtSlice 36 1 [(0, .agg C)] = some C := by
  have hi : (Try.prog.info? 36).map (fun i => (i.zero, i.size)) = some (some (.agg zeroRow), 259) := by kernel_rfl
  obtain ⟨i0, h0, hx⟩ := Option.map_eq_some_iff.1 hi
  simp only [Prod.mk.injEq] at hx
  obtain ⟨hz, hs⟩ := hx
  unfold Program.builtSlice
  rw [h0]
  simp only [hz, hs]
  rw [if_neg (by omega)]
  simp only [Instr.fill]
  have hc : (Value.agg C).cells = C := rfl
  rw [hc]
  rw [if_neg (by simp [h])]
  congr 1
  have e : (0 * 259 : Nat) = 0 := rfl
  rw [e]
  exact fill_all C _ (by simp [h])
theorem wpList_sign {ops : Array Oper} {rest : List Oper} {o : Oper} {a : Act} {w : World} {Q : Exit → Act → World → Prop} (hg : o.guard = none) (ho : o.op = .buildSlice 31 1 #[(0, .tmp 71)]) (hdst : o.dst = some 72)
    (C : Array Value) (hC : C.size = 259) (hx : a.eval (.tmp 71) = .agg C) (h : wpList Try.prog ops Q rest (a.put (some 72) (.slice (some ⟨w.heap.size, 0, none⟩) 1 1)) (w.alloc (.cells C 36))) : wpList Try.prog ops Q (o :: rest) a w := by
  refine Go.Great.wpList_buildSliceTo hg 31 36 1 _ ho _ rfl _ hdst Try.underlying31 C ?_ h
  simp only [List.map_toArray, List.map_cons, List.map_nil]
  rw [hx]
  exact built_one C hC
end Go.Proofs.Ytmlpfijabdkbjaa
