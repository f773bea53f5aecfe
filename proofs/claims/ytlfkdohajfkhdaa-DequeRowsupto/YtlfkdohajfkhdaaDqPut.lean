/-
  Contracts over this program: put, a text laid into a chunk of a deque.
-/
import Derived.Test.YtlfkdohajfkhdaaDqTie
import Derived.Laws.IdiomCopy
namespace Go.Proofs.Ytlfkdohajfkhdaa
open Go.RowKit
set_option linter.unusedVariables false
/-- a chunk's cells: its ties, its count, and 32 texts -/
def Cx (w : World) (c : Nat) (pv nv : Value) (n : Nat) (X : List ByteArray) : Prop := X.length = 32 ∧ w.heap[c]? = some (.cells (pv :: nv :: .int .i64 (n : Nat) :: X.map Value.string).toArray 72 (0, 0))
theorem Ck.cx {w : World} {c : Nat} {pv nv : Value} {ts : List ByteArray} (h : Ck w c pv nv ts) : ∃ X, Cx w c pv nv ts.length X ∧ X.take ts.length = ts := by
  obtain ⟨rest, h1, h2⟩ := h
  exact ⟨ts ++ rest, ⟨by rw [List.length_append]; exact h1, h2⟩, by simp⟩
theorem Cx.ck {w : World} {c : Nat} {pv nv : Value} {n : Nat} {X ts : List ByteArray} (h : Cx w c pv nv n X) (hn : n ≤ 32) (ht : X.take n = ts) : Ck w c pv nv ts := by
  have hl : ts.length = n := by rw [← ht, List.length_take, h.1]; omega
  refine ⟨X.drop n, ?_, ?_⟩
  · rw [hl, List.length_drop, h.1]; omega
  · rw [h.2]
    unfold ckC
    rw [hl, ← ht, List.take_append_drop]
theorem Cx.cells {w : World} {c : Nat} {pv nv : Value} {n : Nat} {X : List ByteArray} (h : Cx w c pv nv n X) : w.cell? ⟨c, 0, none⟩ = some pv ∧ w.cell? ⟨c, 1, none⟩ = some nv ∧ w.cell? ⟨c, 2, none⟩ = some (.int .i64 (n : Nat)) ∧ (∀ i t, X[i]? = some t → w.cell? ⟨c, 3 + i, none⟩ = some (.string t)) ∧ ∀ i, w.frozen? ⟨c, i, none⟩ = false := by
  refine ⟨?_, ?_, ?_, fun i t ht => ?_, fun i => by simp [World.frozen?, h.2]⟩
  · rw [cell_of_row _ _ _ _ _ _ h.2]; rfl
  · rw [cell_of_row _ _ _ _ _ _ h.2]; rfl
  · rw [cell_of_row _ _ _ _ _ _ h.2]; rfl
  · rw [cell_of_row _ _ _ _ _ _ h.2, List.getElem?_toArray, show 3 + i = i + 1 + 1 + 1 by omega]
    simp only [List.getElem?_cons_succ, List.getElem?_map, ht]
    rfl
theorem Cx.setT {w : World} {c : Nat} {pv nv : Value} {n : Nat} {X : List ByteArray} (h : Cx w c pv nv n X) (i : Nat) (s : ByteArray) : Cx (w.setCell ⟨c, 3 + i, none⟩ (.string s)) c pv nv n (X.set i s) := by
  refine ⟨by rw [List.length_set]; exact h.1, ?_⟩
  rw [cells_setCell h.2, show 3 + i = i + 1 + 1 + 1 by omega, List.setIfInBounds_toArray]
  simp only [List.set_cons_succ, List.map_set]
theorem Cx.setN {w : World} {c : Nat} {pv nv : Value} {n : Nat} {X : List ByteArray} (h : Cx w c pv nv n X) (m : Nat) : Cx (w.setCell ⟨c, 2, none⟩ (.int .i64 (m : Nat))) c pv nv m X := ⟨h.1, cells_setCell h.2⟩
def layS (l : List ByteArray) (o : Nat) : List ByteArray → List ByteArray
  | [] => l
  | v :: r => layS (l.set o v) (o + 1) r
theorem layS_len : ∀ (v l : List ByteArray) (o : Nat), (layS l o v).length = l.length
  | [], _, _ => rfl
  | x :: r, l, o => by rw [layS, layS_len r]; simp
theorem layS_at : ∀ (v l : List ByteArray) (o i : Nat), o + v.length ≤ l.length → (layS l o v)[i]? = if o ≤ i ∧ i < o + v.length then v[i - o]? else l[i]?
  | [], l, o, i, _ => by simp [layS]; omega
  | x :: r, l, o, i, h => by
    have h' : o + 1 + r.length ≤ l.length := by simp only [List.length_cons] at h; omega
    rw [layS, layS_at r (l.set o x) (o + 1) i (by simpa using h')]
    simp only [List.length_cons, List.getElem?_set]
    by_cases e : o = i
    · subst e
      rw [if_neg (by omega : ¬ (o + 1 ≤ o ∧ o < o + 1 + r.length)), if_pos rfl, if_pos (by omega), if_pos (by omega), Nat.sub_self]
      simp
    · rw [if_neg e]
      by_cases g : o + 1 ≤ i ∧ i < o + 1 + r.length
      · rw [if_pos g, if_pos (by omega), show i - o = i - (o + 1) + 1 by omega]
        simp
      · rw [if_neg g, if_neg (by omega)]
theorem Cx.setTs {c : Nat} {pv nv : Value} {n : Nat} : ∀ (vs : List ByteArray) {w : World} {X : List ByteArray} (o : Nat), Cx w c pv nv n X → Cx (w.setCells c (3 + o) (vs.map Value.string)) c pv nv n (layS X o vs)
  | [], _, _, _, h => h
  | x :: r, _, _, o, h => Cx.setTs r (o + 1) (h.setT o x)
/-- a text put in -/
theorem put_list {X ts : List ByteArray} {p : Nat} {s : ByteArray} (hX : X.length = 32) (ht : X.take ts.length = ts) (hp : p ≤ ts.length) (hl : ts.length < 32) : ((layS X (p + 1) (ts.drop p)).set p s).take (ts.length + 1) = ts.take p ++ s :: ts.drop p := by
  have hb : p + 1 + (ts.drop p).length ≤ X.length := by rw [List.length_drop]; omega
  apply List.ext_getElem?
  intro i
  rw [List.getElem?_take]
  by_cases h : i < ts.length + 1
  · rw [if_pos h, List.getElem?_set, layS_len]
    by_cases e : p = i
    · subst e
      rw [if_pos rfl, if_pos (by omega), List.getElem?_append_right (by rw [List.length_take]; omega), List.length_take, Nat.min_eq_left hp, Nat.sub_self]
      rfl
    · rw [if_neg e, layS_at _ _ _ _ hb, List.length_drop]
      by_cases g : p < i
      · rw [if_pos (by omega), List.getElem?_append_right (by rw [List.length_take]; omega), List.length_take, Nat.min_eq_left hp, show i - p = i - (p + 1) + 1 by omega, List.getElem?_cons_succ]
      · rw [if_neg (by omega), List.getElem?_append_left (by rw [List.length_take]; omega), List.getElem?_take, if_pos (by omega), ← ht, List.getElem?_take, if_pos (by omega)]
  · rw [if_neg h, List.getElem?_eq_none (by rw [List.length_append, List.length_take, List.length_cons, List.length_drop]; omega)]
theorem setCells_other {c k : Nat} (h : k ≠ c) : ∀ (vs : List Value) (o : Nat) (w : World), (w.setCells c o vs).heap[k]? = w.heap[k]?
  | [], _, _ => rfl
  | v :: r, o, w => by rw [World.setCells, setCells_other h r, Below.heap_setCell _ _ _ _ h]
theorem setCells_same : ∀ (vs : List Value) (o : Nat) (w : World) (c : Nat), (w.setCells c o vs).heap.size = w.heap.size ∧ (w.setCells c o vs).os = w.os ∧ (w.setCells c o vs).tape = w.tape ∧ (w.setCells c o vs).output = w.output
  | [], _, _, _ => ⟨rfl, rfl, rfl, rfl⟩
  | v :: r, o, w, c => by
    rw [World.setCells]
    obtain ⟨a, b, d, e⟩ := setCells_same r (o + 1) (w.setCell ⟨c, o, none⟩ v) c
    exact ⟨a.trans (set_size _ _ _), b, d, e⟩
theorem Ds.set2 {w : World} {b : Nat} {f l : Value} {n c : Nat} (h : Ds w b f l n c) (m : Nat) : Ds (w.setCell ⟨b, 2, none⟩ (.int .i64 (m : Nat))) b f l m c := cells_setCell h
theorem Ds.set3 {w : World} {b : Nat} {f l : Value} {n c : Nat} (h : Ds w b f l n c) (m : Nat) : Ds (w.setCell ⟨b, 3, none⟩ (.int .i64 (m : Nat))) b f l n m := cells_setCell h
def sla (c l : Nat) : Addr := if l = 32 then ⟨c, 3, none⟩ else ⟨c, 3 + l, none⟩
theorem sla_is {c l h : Nat} : slicedAt ⟨c, 3, none⟩ l h 32 1 = .slice (some (sla c l)) (h - l) (32 - l) := by
  unfold slicedAt sla
  by_cases e : l = 32
  · rw [if_pos e, if_pos e.symm]
  · rw [if_neg e, if_neg (fun h => e h.symm), Nat.mul_one]
    congr 2
    unfold Addr.add
    split <;> simp_all
theorem arr_len : Try.prog.arrayLen 70 = 32 := by kernel_rfl
theorem arr_is : Try.prog.underlying 70 = some (.array (Try.prog.arrayLen 70) (Try.prog.elem 70)) := by kernel_rfl
theorem arr_size (w : World) : (Go.sizeOf (Try.prog.elem 70)).run Try.prog w = .ok 1 w := by kernel_rfl
theorem sl_from (w : World) (c l : Nat) (x : Int) (hx : x = (l : Int)) (hl : l ≤ 32) : (Instr.sliceAt 70 (.pointer (some ⟨c, 3, none⟩)) (some (.int .i64 x)) none none).run Try.prog w = .ok (.slice (some (sla c l)) (32 - l) (32 - l)) w := by
  subst hx
  rw [run_sliceAt_array_l w 70 ⟨c, 3, none⟩ arr_is .i64 (l : Int) (by omega) (by rw [arr_len]; omega), arr_size, arr_len, Int.toNat_natCast, Result.andThen_ok, sla_is]
theorem sl_part (w : World) (c l h : Nat) (hl : l ≤ h) (hh : h ≤ 32) : (Instr.sliceAt 70 (.pointer (some ⟨c, 3, none⟩)) (some (.int .i64 (l : Int))) (some (.int .i64 (h : Int))) none).run Try.prog w = .ok (.slice (some (sla c l)) (h - l) (32 - l)) w := by
  rw [run_sliceAt_array_lh w 70 ⟨c, 3, none⟩ arr_is .i64 .i64 (l : Int) (h : Int) (by omega) (by omega) (by rw [arr_len]; omega), arr_size, arr_len, Int.toNat_natCast, Int.toNat_natCast, Result.andThen_ok, sla_is]
end Go.Proofs.Ytlfkdohajfkhdaa
