/-
  Contracts over this program: an entry is taken out of its chain.
-/
import Derived.Test.YtcknmenhjipaeabDictMove
import Derived.Laws.CopyOwn
namespace Go.Proofs.Ytcknmenhjipaeab
open Go.RowKit Go.Shelf
/-- copy within one block -/
theorem copy_run {P : Program} (w : World) (t e ty et : TypeId) (ht : P.underlying t = some (.slice e)) (i : TypeInfo) (hi : P.info? e = some i) (g d o n m cd cs : Nat) (so : Option Addr) (cur : Array Value)
    (hg : w.heap[g]? = some (.cells cur et (0, 0))) (hso : so = some ⟨g, o, none⟩ ∨ m = 0) (hm : m ≤ n) (ho : o + m * i.size ≤ cur.size) (hd : d + m * i.size ≤ cur.size) (h1 : ∀ u ∈ (cur.toList.drop o).take (m * i.size), u.oneCell' = true) :
    (Builtin.copy_ #[t, t] ty #[.slice (some ⟨g, d, none⟩) n cd, .slice so m cs]).run P w = .ok (.int .i64 (m : Int)) (w.setRow g (cur.toList.take d ++ (cur.toList.drop o).take (m * i.size) ++ cur.toList.drop (d + m * i.size)).toArray) := by
  have hl : ((cur.toList.drop o).take (m * i.size)).length = m * i.size := by
    rw [List.length_take, List.length_drop, Array.length_toList]; omega
  have hmin : min m n = m := Nat.min_eq_left hm
  have hst := run_storeCells_at P g d et ((cur.toList.drop o).take (m * i.size)) 0 cur w hg (by rw [hl]; omega) h1
  rw [hl] at hst
  simp only [Nat.add_zero] at hst
  rcases hso with rfl | rfl
  · have hf := run_firstCells_some (P := P) w i.size m ⟨g, o, none⟩ m cs ((cur.toList.drop o).take (m * i.size)) hl (fun j u hu => by
      rw [List.getElem?_take] at hu
      split at hu
      · rw [List.getElem?_drop] at hu
        rw [Addr.add_lit, cell_of_row w g (o + j) cur et (0, 0) hg]
        simpa using hu
      · cases hu)
    simp [Builtin.copy_, run_underlying ht, sizeOf, typeInfo, hi, Builtin.lenOf, hmin, hf, hst, goInt]
  · have hf : (Builtin.firstCells i.size 0 (.slice so 0 cs)).run P w = .ok #[] w := by
      cases so with
      | none => exact run_firstCells_none (P := P) w _ _ _ _
      | some a => exact run_firstCells_some (P := P) w i.size 0 a 0 cs [] (by simp) (by simp)
    rw [Nat.zero_mul, List.take_zero] at hst ⊢
    simp [Builtin.copy_, run_underlying ht, sizeOf, typeInfo, hi, Builtin.lenOf, goInt, hf, hst]
theorem size_run {P : Program} (w : World) (e : TypeId) (i : TypeInfo) (hi : P.info? e = some i) : (sizeOf e).run P w = .ok i.size w := by simp [sizeOf, typeInfo, hi]
theorem slice_low {P : Program} (w : World) (t e : TypeId) (ht : P.underlying t = some (.slice e)) (i : TypeInfo) (hi : P.info? e = some i) (a : Addr) (n cap l : Nat) (x : Int) (hx : x = (l : Int)) (hl : l ≤ n) :
    (Instr.slice t (.slice (some a) n cap) (some (.int .i64 x)) none none).run P w = .ok (.slice (some (if cap = l then a else a.add (l * i.size))) (n - l) (cap - l)) w := by
  subst hx
  have hb := fun code => run_sliceBound (P := P) (w := w) .i64 (l : Int) n code (by omega) (by omega)
  have hz := size_run w e i hi
  simp only [Instr.slice, Instr.sliceBounds, run_underlying ht, Sem.run_bind, Sem.run_pure, Result.andThen_ok, hb, hz, Int.toNat_natCast]
  split <;> rfl
theorem slice_high {P : Program} (w : World) (t e : TypeId) (ht : P.underlying t = some (.slice e)) (i : TypeInfo) (hi : P.info? e = some i) (g n cap l : Nat) (x : Int) (hx : x = (l : Int)) (hl : l ≤ cap) :
    (Instr.slice t (.slice (some ⟨g, 0, none⟩) n cap) none (some (.int .i64 x)) none).run P w = .ok (.slice (some ⟨g, 0, none⟩) l cap) w := by
  subst hx
  have hb := fun code => run_sliceBound (P := P) (w := w) .i64 (l : Int) cap code (by omega) (by omega)
  have hz := size_run w e i hi
  simp only [Instr.slice, Instr.sliceBounds, run_underlying ht, Sem.run_bind, Sem.run_pure, Result.andThen_ok, hb, hz, Int.toNat_natCast]
  split <;> simp [Addr.add_lit]
theorem flat_take (l : List Ent) (p : Nat) : (l.take p).flatMap enE = (l.flatMap enE).take (p * 2) := by
  induction l generalizing p with
  | nil => simp
  | cons a l ih =>
    cases p with
    | zero => simp
    | succ p =>
      rw [List.take_succ_cons, List.flatMap_cons, List.flatMap_cons, ih, show (p + 1) * 2 = (enE a).length + p * 2 by simp [enE]; omega, List.take_length_add_append]
theorem flat_drop (l : List Ent) (p : Nat) : (l.drop p).flatMap enE = (l.flatMap enE).drop (p * 2) := by
  induction l generalizing p with
  | nil => simp
  | cons a l ih =>
    cases p with
    | zero => simp
    | succ p =>
      rw [List.drop_succ_cons, List.flatMap_cons, ih, show (p + 1) * 2 = (enE a).length + p * 2 by simp [enE]; omega, List.drop_length_add_append]
theorem enC_erase (c : List Ent) (p : Nat) : enC (c.reverse.eraseIdx p).reverse = (enC c).take (p * 2) ++ (enC c).drop ((p + 1) * 2) := by
  unfold enC
  rw [List.reverse_reverse, List.eraseIdx_eq_take_drop_succ, List.flatMap_append, flat_take, flat_drop]
theorem enC_one {c : List Ent} {u : Value} (h : u ∈ enC c) : u.oneCell' = true := by
  unfold enC at h
  obtain ⟨e, _, he⟩ := List.mem_flatMap.1 h
  simp only [enE, List.mem_cons, List.not_mem_nil, or_false] at he
  rcases he with rfl | rfl <;> rfl
theorem mid_take {l : List Value} {p m n : Nat} (h : p + m = n) : ((l.drop p).take m) = (l.take n).drop p := by
  rw [List.drop_take, show n - p = m by omega]
end Go.Proofs.Ytcknmenhjipaeab
