/-
  What the program's memory holds of a deque: its struct, and chunks that are tied both ways.
-/
import Derived.Test.YtmgeaanbgjbkcaaGreatProg
import Derived.Test.YtmgeaanbgjbkcaaGreatIters
import Derived.OpenShut
import Derived.Outline
import Derived.WalkLawsBesides
import Derived.Below
import Derived.OwnWalk
import Derived.Laws.AppendOwn
import Derived.Laws.CopyOwn
import Derived.Deep.AppendLies
import Derived.Deep.RegionHeld3
import Derived.Deep.Heap
import Derived.Deep.QuietTactic
import Derived.BigQuiet
import Derived.StillTactics
namespace Go.Proofs.YtmgeaanbgjbkcaaGreat.DQ
open Go.RowKit
/- facts that the walk must not take for rules -/
def Kept (p : Prop) : Prop := p
theorem keep {p : Prop} (h : p) : Kept p := h
theorem Kept.out {p : Prop} (h : Kept p) : p := h
theorem lt_cell {w : World} {a : Addr} {v : Value} (h : w.cell? a = some v) : a.block < w.heap.size := World.block_lt_of_cell? w _ h
theorem cells_setCell {w : World} {b i : Nat} {cur : Array Value} {t : TypeId} {fr : Nat × Nat} {u : Value} (h : w.heap[b]? = some (.cells cur t fr)) : (w.setCell ⟨b, i, none⟩ u).heap[b]? = some (.cells (cur.setIfInBounds i u) t fr) := by
  have hlt := (Array.getElem?_eq_some_iff.1 h).1
  simp [World.setCell, Array.getElem?_modify, h]
theorem heap_alloc_new (w : World) (o : Obj) : (w.alloc o).heap[w.heap.size]? = some o := World.alloc_heap_new w o
/-- a chunk: its block, its texts -/
abbrev Chk : Type := Nat × List ByteArray
abbrev ptr (c : Nat) : Value := .pointer (some ⟨c, 0, none⟩)
abbrev nul : Value := .pointer none
def hdv : List Chk → Value → Value
  | [], n => n
  | x :: _, _ => ptr x.1
def ltv : List Chk → Value → Value
  | [], p => p
  | x :: r, _ => ltv r (ptr x.1)
def ckC (pv nv : Value) (ts rest : List ByteArray) : List Value := pv :: nv :: .int .i64 (ts.length : Nat) :: (ts ++ rest).map Value.string
/-- a chunk lies in block c -/
def Ck (w : World) (c : Nat) (pv nv : Value) (ts : List ByteArray) : Prop := ∃ rest : List ByteArray, ts.length + rest.length = 32 ∧ w.heap[c]? = some (.cells (ckC pv nv ts rest).toArray 188 (0, 0))
/-- chunks that are tied, p ahead of them and n behind -/
def Ch (w : World) : Value → List Chk → Value → Prop
  | _, [], _ => True
  | p, x :: r, n => Ck w x.1 p (hdv r n) x.2 ∧ Ch w (ptr x.1) r n
theorem hdv_app (A B : List Chk) (n : Value) : hdv (A ++ B) n = hdv A (hdv B n) := by cases A <;> rfl
theorem ltv_app (A B : List Chk) : ∀ p, ltv (A ++ B) p = ltv B (ltv A p) := by
  induction A with
  | nil => intro p; rfl
  | cons x A ih => intro p; exact ih _
theorem ch_app {w : World} {B : List Chk} {n : Value} : ∀ {A : List Chk} {p : Value}, Ch w p (A ++ B) n ↔ Ch w p A (hdv B n) ∧ Ch w (ltv A p) B n := by
  intro A
  induction A with
  | nil => intro p; simp [Ch, ltv]
  | cons x A ih =>
    intro p
    simp only [List.cons_append, Ch, ltv, hdv_app, ih, and_assoc]
theorem Ck.kept {w w' : World} {c : Nat} {pv nv : Value} {ts : List ByteArray} (h : Ck w c pv nv ts) (hk : w'.heap[c]? = w.heap[c]?) : Ck w' c pv nv ts := by
  obtain ⟨rest, h1, h2⟩ := h
  exact ⟨rest, h1, hk.trans h2⟩
theorem Ch.kept {w w' : World} : ∀ {cs : List Chk} {p n : Value}, Ch w p cs n → (∀ x ∈ cs, w'.heap[x.1]? = w.heap[x.1]?) → Ch w' p cs n := by
  intro cs
  induction cs with
  | nil => intro p n _ _; trivial
  | cons x r ih =>
    intro p n h hk
    exact ⟨h.1.kept (hk x (by simp)), ih h.2 (fun y hy => hk y (by simp [hy]))⟩
theorem Ck.lt {w : World} {c : Nat} {pv nv : Value} {ts : List ByteArray} (h : Ck w c pv nv ts) : c < w.heap.size := by
  obtain ⟨rest, h1, h2⟩ := h
  exact (Array.getElem?_eq_some_iff.1 h2).1
theorem Ck.le {w : World} {c : Nat} {pv nv : Value} {ts : List ByteArray} (h : Ck w c pv nv ts) : ts.length ≤ 32 := by
  obtain ⟨rest, h1, h2⟩ := h
  omega
theorem Ch.mem {w : World} : ∀ {cs : List Chk} {p n : Value}, Ch w p cs n → ∀ x ∈ cs, ∃ pv nv, Ck w x.1 pv nv x.2 := by
  intro cs
  induction cs with
  | nil => intro p n _ x hx; cases hx
  | cons y r ih =>
    intro p n h x hx
    rcases List.mem_cons.1 hx with rfl | hx
    · exact ⟨_, _, h.1⟩
    · exact ih h.2 x hx
/-- the cells of a chunk -/
theorem Ck.cells {w : World} {c : Nat} {pv nv : Value} {ts : List ByteArray} (h : Ck w c pv nv ts) : w.cell? ⟨c, 0, none⟩ = some pv ∧ w.cell? ⟨c, 1, none⟩ = some nv ∧ w.cell? ⟨c, 2, none⟩ = some (.int .i64 (ts.length : Nat)) ∧ (∀ i t, ts[i]? = some t → w.cell? ⟨c, 3 + i, none⟩ = some (.string t)) ∧ ∀ i, w.frozen? ⟨c, i, none⟩ = false := by
  obtain ⟨rest, h1, h2⟩ := h
  refine ⟨?_, ?_, ?_, fun i t ht => ?_, fun i => by simp [World.frozen?, h2]⟩
  · rw [cell_of_row _ _ _ _ _ _ h2]; rfl
  · rw [cell_of_row _ _ _ _ _ _ h2]; rfl
  · rw [cell_of_row _ _ _ _ _ _ h2]; rfl
  · rw [cell_of_row _ _ _ _ _ _ h2]
    have hl := (List.getElem?_eq_some_iff.1 ht).1
    rw [List.getElem?_toArray, show 3 + i = i + 1 + 1 + 1 by omega]
    simp only [ckC, List.getElem?_cons_succ, List.getElem?_map, List.getElem?_append_left hl, ht]
    rfl
/-- a chunk's own ties, its count -/
theorem Ck.set0 {w : World} {c : Nat} {pv nv : Value} {ts : List ByteArray} (h : Ck w c pv nv ts) (u : Value) : Ck (w.setCell ⟨c, 0, none⟩ u) c u nv ts := by
  obtain ⟨rest, h1, h2⟩ := h
  exact ⟨rest, h1, cells_setCell h2⟩
theorem Ck.set1 {w : World} {c : Nat} {pv nv : Value} {ts : List ByteArray} (h : Ck w c pv nv ts) (u : Value) : Ck (w.setCell ⟨c, 1, none⟩ u) c pv u ts := by
  obtain ⟨rest, h1, h2⟩ := h
  exact ⟨rest, h1, cells_setCell h2⟩
/-- the row of texts -/
def row (cs : List Chk) : List ByteArray := cs.flatMap (·.2)
def costL (l : List ByteArray) : Nat := (l.map fun t => 16 + t.size).sum
theorem row_app (A B : List Chk) : row (A ++ B) = row A ++ row B := by unfold row; rw [List.flatMap_append]
theorem row_cons (x : Chk) (B : List Chk) : row (x :: B) = x.2 ++ row B := by unfold row; rw [List.flatMap_cons]
theorem costL_app (a b : List ByteArray) : costL (a ++ b) = costL a + costL b := by unfold costL; rw [List.map_append, List.sum_append]
theorem costL_cons (t : ByteArray) (b : List ByteArray) : costL (t :: b) = 16 + t.size + costL b := by unfold costL; rw [List.map_cons, List.sum_cons]
theorem costL_le {l : List ByteArray} (h : ∀ t ∈ l, t.size ≤ 1048576) : costL l ≤ l.length * 1048592 := by
  induction l with
  | nil => exact Nat.zero_le _
  | cons t l ih =>
    rw [costL_cons, List.length_cons]
    have := h t (by simp)
    have := ih (fun x hx => h x (by simp [hx]))
    omega
/-- a deque's struct -/
def Ds (w : World) (b : Nat) (f l : Value) (n c : Nat) : Prop := w.heap[b]? = some (.cells #[f, l, .int .i64 (n : Nat), .int .i64 (c : Nat)] 190 (0, 0))
theorem Ds.four {w : World} {b : Nat} {f l : Value} {n c : Nat} (h : Ds w b f l n c) : w.cell? ⟨b, 0, none⟩ = some f ∧ w.cell? ⟨b, 1, none⟩ = some l ∧ w.cell? ⟨b, 2, none⟩ = some (.int .i64 (n : Nat)) ∧ w.cell? ⟨b, 3, none⟩ = some (.int .i64 (c : Nat)) ∧ ∀ i, w.frozen? ⟨b, i, none⟩ = false := by
  unfold Ds at h
  refine ⟨?_, ?_, ?_, ?_, fun i => by simp [World.frozen?, h]⟩ <;> (rw [cell_of_row _ _ _ _ _ _ h]; rfl)
/-- a deque, also with chunks that have no texts -/
def Dq0 (w : World) (b : Nat) (cs : List Chk) : Prop :=
  Ds w b (hdv cs nul) (ltv cs nul) (row cs).length (costL (row cs)) ∧ Ch w nul cs nul ∧ (b :: cs.map (·.1)).Nodup ∧ (∀ t ∈ row cs, t.size ≤ 1048576) ∧ (row cs).length ≤ 1048576
/-- a deque between two calls -/
def Dq (w : World) (b : Nat) (cs : List Chk) : Prop := Dq0 w b cs ∧ ∀ x ∈ cs, 1 ≤ x.2.length
/-- whose blocks they are -/
def OwD (b : Nat) (cs : List Chk) (k : Nat) : Prop := k = b ∨ ∃ x ∈ cs, x.1 = k
theorem Dq0.lt {w : World} {b : Nat} {cs : List Chk} (h : Dq0 w b cs) {k : Nat} (hk : OwD b cs k) : k < w.heap.size := by
  rcases hk with rfl | ⟨x, hx, rfl⟩
  · exact (Array.getElem?_eq_some_iff.1 h.1).1
  · obtain ⟨pv, nv, hc⟩ := h.2.1.mem x hx
    exact hc.lt
theorem Dq0.kept {w w' : World} {b : Nat} {cs : List Chk} (h : Dq0 w b cs) (hk : ∀ k, OwD b cs k → w'.heap[k]? = w.heap[k]?) : Dq0 w' b cs :=
  ⟨(hk b (.inl rfl)).trans h.1, h.2.1.kept (fun x hx => hk x.1 (.inr ⟨x, hx, rfl⟩)), h.2.2⟩
theorem Dq.kept {w w' : World} {b : Nat} {cs : List Chk} (h : Dq w b cs) (hk : ∀ k, OwD b cs k → w'.heap[k]? = w.heap[k]?) : Dq w' b cs := ⟨h.1.kept hk, h.2⟩
theorem Dq.below {w w' : World} {b : Nat} {cs : List Chk} (h : Dq w b cs) (hb : Below w.heap.size w w') : Dq w' b cs := h.kept (fun _ hk => hb.block _ (h.1.lt hk))
/-- nothing has turned but the deque's own blocks and new ones -/
def Fd (b : Nat) (cs : List Chk) (w w' : World) (cs' : List Chk) : Prop := Sep (OwD b cs) w w' ∧ ∀ k, OwD b cs' k → OwD b cs k ∨ w.heap.size ≤ k
theorem Fd.refl (b : Nat) (cs : List Chk) (w : World) : Fd b cs w w cs := ⟨Sep.refl _ _, fun _ h => .inl h⟩
theorem Fd.trans {b : Nat} {cs cs1 cs2 : List Chk} {w w1 w2 : World} (h : Fd b cs w w1 cs1) (g : Fd b cs1 w1 w2 cs2) : Fd b cs w w2 cs2 := by
  refine ⟨⟨⟨g.1.1.1.trans h.1.1.1, g.1.1.2.1.trans h.1.1.2.1, g.1.1.2.2.trans h.1.1.2.2⟩, Nat.le_trans h.1.2.1 g.1.2.1, fun k hk hn => ?_⟩, fun k hk => ?_⟩
  · refine (g.1.2.2 k (Nat.lt_of_lt_of_le hk h.1.2.1) (fun e => ?_)).trans (h.1.2.2 k hk hn)
    rcases h.2 k e with h' | h'
    · exact hn h'
    · omega
  · rcases g.2 k hk with h' | h'
    · exact h.2 k h'
    · exact .inr (Nat.le_trans h.1.2.1 h')
theorem Fd.below {b : Nat} {cs cs' : List Chk} {w w' : World} {B : Nat} (h : Fd b cs w w' cs') (hB : B ≤ w.heap.size) (hn : ∀ k, k < B → ¬ OwD b cs k) : Below B w w' :=
  ⟨h.1.1.1, h.1.1.2.1, h.1.1.2.2, h.1.2.1, fun k hk => h.1.2.2 k (by omega) (hn k hk)⟩
theorem Fd.of_below {b : Nat} {cs : List Chk} {w w' : World} (h : Below w.heap.size w w') : Fd b cs w w' cs := ⟨Sep.of_below h, fun _ h => .inl h⟩
end Go.Proofs.YtmgeaanbgjbkcaaGreat.DQ
