/-
  The document's own table as plain data; and a row more behind a row of rows.
-/
import Derived.Test.YtaflggjgndkdlaaDoorVbRef1
namespace Go.Proofs.YtaflggjgndkdlaaDoor
open Go.RowKit
set_option linter.unusedVariables false
def refLines : List (List UInt8) := [
  [50, 32, 48, 32, 49, 32, 49, 32, 49, 32, 71, 69, 84, 32, 72, 71, 69, 84, 65, 76, 76, 32, 72, 75, 69, 89, 83, 32, 72, 76, 69, 78, 32, 72, 86, 65, 76, 83, 32, 76, 76, 69, 78, 32, 80, 84, 84, 76, 32, 83, 67, 65, 82, 68, 32, 83, 77, 69, 77, 66, 69, 82, 83, 32, 83, 84, 82, 76, 69, 78, 32, 84, 84, 76, 32, 84, 89, 80, 69, 32, 90, 67, 65, 82, 68],
  [45, 51, 32, 51, 32, 49, 32, 49, 32, 49, 32, 76, 80, 85, 83, 72, 32, 76, 80, 85, 83, 72, 88, 32, 82, 80, 85, 83, 72, 32, 82, 80, 85, 83, 72, 88, 32, 83, 65, 68, 68, 32, 83, 69, 84],
  [51, 32, 51, 32, 49, 32, 49, 32, 49, 32, 65, 80, 80, 69, 78, 68, 32, 68, 69, 67, 82, 66, 89, 32, 69, 88, 80, 73, 82, 69, 32, 69, 88, 80, 73, 82, 69, 65, 84, 32, 71, 69, 84, 83, 69, 84, 32, 73, 78, 67, 82, 66, 89, 32, 73, 78, 67, 82, 66, 89, 70, 76, 79, 65, 84, 32, 80, 69, 88, 80, 73, 82, 69, 32, 80, 69, 88, 80, 73, 82, 69, 65, 84, 32, 83, 69, 84, 78, 88],
  [50, 32, 49, 32, 49, 32, 49, 32, 49, 32, 71, 69, 84, 68, 69, 76, 32, 80, 69, 82, 83, 73, 83, 84],
  [45, 50, 32, 48, 32, 49, 32, 45, 49, 32, 49, 32, 69, 88, 73, 83, 84, 83, 32, 77, 71, 69, 84, 32, 83, 68, 73, 70, 70, 32, 83, 73, 78, 84, 69, 82, 32, 83, 85, 78, 73, 79, 78, 32, 84, 79, 85, 67, 72],
  [45, 51, 32, 51, 32, 49, 32, 45, 49, 32, 50, 32, 77, 83, 69, 84, 32, 77, 83, 69, 84, 78, 88],
  [50, 32, 51, 32, 49, 32, 49, 32, 49, 32, 68, 69, 67, 82, 32, 73, 78, 67, 82],
  [52, 32, 48, 32, 49, 32, 49, 32, 49, 32, 71, 69, 84, 82, 65, 78, 71, 69, 32, 76, 82, 65, 78, 71, 69, 32, 90, 67, 79, 85, 78, 84],
  [52, 32, 51, 32, 49, 32, 49, 32, 49, 32, 72, 73, 78, 67, 82, 66, 89, 32, 72, 73, 78, 67, 82, 66, 89, 70, 76, 79, 65, 84, 32, 72, 83, 69, 84, 78, 88, 32, 76, 83, 69, 84, 32, 83, 69, 84, 66, 73, 84, 32, 83, 69, 84, 82, 65, 78, 71, 69, 32, 90, 73, 78, 67, 82, 66, 89],
  [51, 32, 48, 32, 49, 32, 49, 32, 49, 32, 71, 69, 84, 66, 73, 84, 32, 72, 69, 88, 73, 83, 84, 83, 32, 72, 71, 69, 84, 32, 72, 83, 84, 82, 76, 69, 78, 32, 76, 73, 78, 68, 69, 88, 32, 83, 73, 83, 77, 69, 77, 66, 69, 82, 32, 90, 82, 65, 78, 75, 32, 90, 82, 69, 86, 82, 65, 78, 75, 32, 90, 83, 67, 79, 82, 69],
  [45, 50, 32, 48, 32, 49, 32, 49, 32, 49, 32, 66, 73, 84, 67, 79, 85, 78, 84, 32, 72, 82, 65, 78, 68, 70, 73, 69, 76, 68, 32, 83, 82, 65, 78, 68, 77, 69, 77, 66, 69, 82],
  [45, 50, 32, 49, 32, 49, 32, 49, 32, 49, 32, 76, 80, 79, 80, 32, 82, 80, 79, 80, 32, 83, 80, 79, 80, 32, 90, 80, 79, 80, 77, 65, 88, 32, 90, 80, 79, 80, 77, 73, 78],
  [53, 32, 51, 32, 49, 32, 49, 32, 49, 32, 76, 73, 78, 83, 69, 82, 84],
  [52, 32, 49, 32, 49, 32, 49, 32, 49, 32, 76, 82, 69, 77, 32, 76, 84, 82, 73, 77, 32, 90, 82, 69, 77, 82, 65, 78, 71, 69, 66, 89, 82, 65, 78, 75, 32, 90, 82, 69, 77, 82, 65, 78, 71, 69, 66, 89, 83, 67, 79, 82, 69],
  [53, 32, 51, 32, 49, 32, 50, 32, 49, 32, 76, 77, 79, 86, 69],
  [45, 51, 32, 48, 32, 49, 32, 49, 32, 49, 32, 72, 77, 71, 69, 84, 32, 72, 83, 67, 65, 78, 32, 76, 80, 79, 83, 32, 83, 77, 73, 83, 77, 69, 77, 66, 69, 82, 32, 83, 83, 67, 65, 78, 32, 90, 77, 83, 67, 79, 82, 69],
  [45, 52, 32, 51, 32, 49, 32, 49, 32, 49, 32, 72, 83, 69, 84, 32, 90, 65, 68, 68],
  [45, 51, 32, 49, 32, 49, 32, 49, 32, 49, 32, 72, 68, 69, 76, 32, 83, 82, 69, 77, 32, 90, 82, 69, 77],
  [52, 32, 51, 32, 49, 32, 50, 32, 49, 32, 83, 77, 79, 86, 69],
  [45, 51, 32, 51, 32, 49, 32, 45, 49, 32, 49, 32, 83, 68, 73, 70, 70, 83, 84, 79, 82, 69, 32, 83, 73, 78, 84, 69, 82, 83, 84, 79, 82, 69, 32, 83, 85, 78, 73, 79, 78, 83, 84, 79, 82, 69],
  [45, 52, 32, 48, 32, 49, 32, 49, 32, 49, 32, 90, 82, 65, 78, 71, 69, 32, 90, 82, 65, 78, 71, 69, 66, 89, 83, 67, 79, 82, 69],
  [45, 50, 32, 49, 32, 49, 32, 45, 49, 32, 49, 32, 68, 69, 76],
  [51, 32, 51, 32, 49, 32, 50, 32, 49, 32, 82, 69, 78, 65, 77, 69, 32, 82, 69, 78, 65, 77, 69, 78, 88],
  [45, 51, 32, 51, 32, 49, 32, 50, 32, 49, 32, 67, 79, 80, 89],
  [50, 32, 48, 32, 48, 32, 48, 32, 48, 32, 69, 67, 72, 79, 32, 75, 69, 89, 83],
  [45, 50, 32, 48, 32, 48, 32, 48, 32, 48, 32, 83, 67, 65, 78],
  [49, 32, 48, 32, 48, 32, 48, 32, 48, 32, 68, 66, 83, 73, 90, 69, 32, 82, 65, 78, 68, 79, 77, 75, 69, 89, 32, 85, 78, 87, 65, 84, 67, 72],
  [49, 32, 49, 32, 48, 32, 48, 32, 48, 32, 70, 76, 85, 83, 72, 65, 76, 76],
  [45, 49, 32, 56, 32, 48, 32, 48, 32, 48, 32, 80, 73, 78, 71],
  [49, 32, 49, 50, 32, 48, 32, 48, 32, 48, 32, 81, 85, 73, 84],
  [49, 32, 52, 32, 48, 32, 48, 32, 48, 32, 68, 73, 83, 67, 65, 82, 68, 32, 69, 88, 69, 67, 32, 77, 85, 76, 84, 73],
  [45, 50, 32, 52, 32, 49, 32, 45, 49, 32, 49, 32, 87, 65, 84, 67, 72],
  [45, 50, 32, 49, 50, 32, 48, 32, 48, 32, 48, 32, 80, 83, 85, 66, 83, 67, 82, 73, 66, 69, 32, 83, 85, 66, 83, 67, 82, 73, 66, 69],
  [45, 49, 32, 49, 50, 32, 48, 32, 48, 32, 48, 32, 80, 85, 78, 83, 85, 66, 83, 67, 82, 73, 66, 69, 32, 85, 78, 83, 85, 66, 83, 67, 82, 73, 66, 69],
  [51, 32, 48, 32, 48, 32, 48, 32, 48, 32, 80, 85, 66, 76, 73, 83, 72]]
def refL : List UInt8 := (refLines.map fun l => l ++ [10]).flatten.dropLast
def refB : ByteArray := ⟨refL.toArray⟩
def lineK (k : Nat) : List UInt8 := refLines.getD k []
def st : Nat → Nat
  | 0 => 0
  | k + 1 => st k + (lineK k).length + 1
def en (k : Nat) : Nat := st k + (lineK k).length
theorem st_succ (k : Nat) : st (k + 1) = en k + 1 := rfl
theorem refL_len : refL.length = 1200 := by decide +kernel
theorem refB_size : refB.size = 1200 := by rw [show refB = Vb.ofL refL from rfl, Vb.ofL_size, refL_len]
theorem line_ok : (List.range 35).all (fun k => ((refL.drop (st k)).take (lineK k).length == lineK k) && !(lineK k).contains 10 && (if k = 34 then en k == 1200 else refL[en k]? == some 10)) = true := by decide +kernel
theorem words_ok : (List.range 35).all (fun k => ((Vb.pieces (lineK k)).drop 5 == Vb.pieces (Vb.kinL.getD k ([], Vb.zeroR)).1) && (((Vb.pieces (lineK k)).take 5).map numV == [(Vb.kinL.getD k ([], Vb.zeroR)).2.1, (Vb.kinL.getD k ([], Vb.zeroR)).2.2.1, (Vb.kinL.getD k ([], Vb.zeroR)).2.2.2.1, (Vb.kinL.getD k ([], Vb.zeroR)).2.2.2.2.1, (Vb.kinL.getD k ([], Vb.zeroR)).2.2.2.2.2]) && ((Vb.pieces (lineK k)).take 5).all (fun q => decide (1 ≤ q.length ∧ q.length ≤ 4)) && decide ((lineK k).length ≤ 2000)) = true := by decide +kernel
/-- the rows of the first k lines -/
def rowsK (k : Nat) : List (ByteArray × Vb.Row) := ((Vb.kinL.take k).flatMap fun q => (Vb.pieces q.1).map fun u => (Vb.ofL u, q.2))
theorem info_vb : (Tryd.prog.info? 23).map (fun i => (i.zero, i.size, i.bytes)) = some (some (.agg zeroC), 6, 56) := by kernel_rfl
/-- a row of rows of one's own -/
def Vs (B : Nat) (w : World) (v : Value) (L : List (ByteArray × Vb.Row)) : Prop := w.ownsRow B 23 6 v L.length (L.flatMap fun x => rowL x.1 x.2)
theorem rowL_len (n : ByteArray) (r : Vb.Row) : (rowL n r).length = 6 := rfl
theorem Vs.nil (B : Nat) (w : World) : Vs B w (.slice none 0 0) [] := World.ownsRow_nil _ _ _ _
theorem Vs.lt {B : Nat} {w : World} {v : Value} {l : List (ByteArray × Vb.Row)} (h : Vs B w v l) : ∀ k, v.ownBlock = some k → k < w.heap.size := fun k hk => own_lt h hk
theorem Vs.later {B : Nat} {w w' : World} {v : Value} {l : List (ByteArray × Vb.Row)} (h : Vs B w v l) (hb : Below w.heap.size w w') : Vs B w' v l := own_kept h (fun k hk => hb.block k (own_lt h hk))
theorem Vs.from {B : Nat} {w : World} {v : Value} {l : List (ByteArray × Vb.Row)} (h : Vs B w v l) : ∀ k, v.ownBlock = some k → B ≤ k := fun k hk => by
  rcases h.2 with ⟨rfl, _⟩ | ⟨g, cap, cur, rfl, hb, _⟩
  · cases hk
  · cases hk; exact hb
theorem Vs.form {B : Nat} {w : World} {v : Value} {l : List (ByteArray × Vb.Row)} (h : Vs B w v l) : ∃ ao c, v = .slice ao l.length c := by
  rcases h.2 with ⟨rfl, hn⟩ | ⟨g, cap, cur, rfl, _⟩
  · exact ⟨none, 0, by rw [hn]⟩
  · exact ⟨_, _, rfl⟩
theorem flat_at {L : List (ByteArray × Vb.Row)} : ∀ {i : Nat} {n : ByteArray} {r : Vb.Row} {j : Nat} {u : Value}, L[i]? = some (n, r) → (rowL n r)[j]? = some u → (L.flatMap fun x => rowL x.1 x.2)[i * 6 + j]? = some u := by
  induction L with
  | nil => intro i n r j u h; simp at h
  | cons x L ih =>
    intro i n r j u h hu
    rw [List.flatMap_cons]
    cases i with
    | zero =>
      simp at h
      subst h
      rw [Nat.zero_mul, Nat.zero_add, List.getElem?_append_left (by have := (List.getElem?_eq_some_iff.1 hu).1; exact this)]
      exact hu
    | succ i =>
      rw [List.getElem?_append_right (by rw [rowL_len]; omega), rowL_len, show (i + 1) * 6 + j - 6 = i * 6 + j by omega]
      exact ih (by simpa using h) hu
theorem Vs.at {B : Nat} {w : World} {g n c : Nat} {L : List (ByteArray × Vb.Row)} (h : Vs B w (.slice (some ⟨g, 0, none⟩) n c) L) {i : Nat} {u : ByteArray} {r : Vb.Row} (hi : L[i]? = some (u, r)) (j : Nat) (x : Value) (hx : (rowL u r)[j]? = some x) :
    w.cell? ⟨g, i * 6 + j, none⟩ = some x := by
  have := h.cells (g := g) rfl (i * 6 + j) x (flat_at hi hx)
  rw [add_at, Nat.zero_add] at this
  exact this
/-- one row more -/
theorem app_vb {B : Nat} {w : World} {v : Value} {l : List (ByteArray × Vb.Row)} (n : ByteArray) (r : Vb.Row) (h1 : Vs B w v l) (hB : B ≤ w.heap.size) (hl : l.length + 1 ≤ 2000000) (ty : TypeId) :
    ∃ v' w', (Builtin.append_ #[37, 37] ty #[v, .slice (some ⟨w.heap.size, 0, none⟩) 1 1]).run Tryd.prog (w.alloc (.cells (rowL n r).toArray 23)) = .ok v' w' ∧ Vs B w' v' (l ++ [(n, r)]) ∧ Gr v v' w w' := by
  obtain ⟨i0, hi0, hz0, hz1, hz2⟩ := parts_of info_vb
  have hb3 : Below w.heap.size w (w.alloc (.cells (rowL n r).toArray 23)) := (Below.refl _ w).alloc (Nat.le_refl _) _
  have h1' := h1.later hb3
  obtain ⟨v', w', r1, r2, r3, r4, _⟩ := app_gen (w.alloc (.cells (rowL n r).toArray 23)) B 37 37 ty 23 i0 _ 6 56 Tryd.underlying37 hi0 hz0 hz1 hz2 rfl (by decide) v l.length _ h1' _ 1 (rowL n r) (Src.ofSlice _ Tryd.underlying37 ⟨w.heap.size, 0, none⟩ 1 1 (rowL n r) rfl (fun j x hx => by
    rw [add_at, Nat.zero_add, cell_of_row _ _ _ _ _ _ (heap_alloc_new _ _)]
    simpa using hx) (fun u hu => by
    unfold rowL at hu
    simp only [List.mem_cons, List.not_mem_nil, or_false] at hu
    rcases hu with rfl | rfl | rfl | rfl | rfl | rfl <;> rfl)) (by unfold maxLen; omega) (by omega) (Nat.le_trans hB hb3.size)
  refine ⟨v', w', r1, ?_, Gr.ahead hb3 ⟨r3, fun k hk => ?_⟩ h1.lt⟩
  · unfold Vs
    rw [List.length_append, List.flatMap_append]
    simpa using r2
  · rcases r4 with e | e
    · exact .inl (e ▸ hk)
    · rw [e] at hk; cases hk; exact .inr (Nat.le_refl _)
end Go.Proofs.YtaflggjgndkdlaaDoor
