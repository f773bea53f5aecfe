/-
  Contracts over this program: put's own walk.
-/
import Derived.Test.YtijclcedjgniaaaGreatProg
import Derived.Test.YtijclcedjgniaaaGreatIters
import Derived.OpenShut
import Derived.Outline
import Derived.WalkLawsBesides
import Derived.Below
import Derived.OwnWalk
import Derived.Laws.AppendOwn
import Derived.Laws.CopyOwn
import Derived.Deep.AppendLies
import Derived.Deep.RegionHeld3
import Derived.Deep.Heap
import Derived.Deep.QuietTactic
import Derived.BigQuiet
import Derived.StillTactics
import Derived.Laws.IdiomCopy
/-
  What the program's memory holds of a deque: its struct, and chunks that are tied both ways.
-/
namespace Go.Proofs.YtijclcedjgniaaaGreat.DQ
open Go.RowKit
/- facts that the walk must not take for rules -/
def Kept (p : Prop) : Prop := p
theorem keep {p : Prop} (h : p) : Kept p := h
theorem Kept.out {p : Prop} (h : Kept p) : p := h
theorem lt_cell {w : World} {a : Addr} {v : Value} (h : w.cell? a = some v) : a.block < w.heap.size := World.block_lt_of_cell? w _ h
theorem cells_setCell {w : World} {b i : Nat} {cur : Array Value} {t : TypeId} {fr : Nat × Nat} {u : Value} (h : w.heap[b]? = some (.cells cur t fr)) : (w.setCell ⟨b, i, none⟩ u).heap[b]? = some (.cells (cur.setIfInBounds i u) t fr) := by
  have hlt := (Array.getElem?_eq_some_iff.1 h).1
  simp [World.setCell, Array.getElem?_modify, h]
theorem heap_alloc_new (w : World) (o : Obj) : (w.alloc o).heap[w.heap.size]? = some o := World.alloc_heap_new w o
/-- a chunk: its block, its texts -/
abbrev Chk : Type := Nat × List ByteArray
abbrev ptr (c : Nat) : Value := .pointer (some ⟨c, 0, none⟩)
abbrev nul : Value := .pointer none
def hdv : List Chk → Value → Value
  | [], n => n
  | x :: _, _ => ptr x.1
def ltv : List Chk → Value → Value
  | [], p => p
  | x :: r, _ => ltv r (ptr x.1)
def ckC (pv nv : Value) (ts rest : List ByteArray) : List Value := pv :: nv :: .int .i64 (ts.length : Nat) :: (ts ++ rest).map Value.string
/-- a chunk lies in block c -/
def Ck (w : World) (c : Nat) (pv nv : Value) (ts : List ByteArray) : Prop := ∃ rest : List ByteArray, ts.length + rest.length = 32 ∧ w.heap[c]? = some (.cells (ckC pv nv ts rest).toArray 167 (0, 0))
/-- chunks that are tied, p ahead of them and n behind -/
def Ch (w : World) : Value → List Chk → Value → Prop
  | _, [], _ => True
  | p, x :: r, n => Ck w x.1 p (hdv r n) x.2 ∧ Ch w (ptr x.1) r n
theorem hdv_app (A B : List Chk) (n : Value) : hdv (A ++ B) n = hdv A (hdv B n) := by cases A <;> rfl
theorem ltv_app (A B : List Chk) : ∀ p, ltv (A ++ B) p = ltv B (ltv A p) := by
  induction A with
  | nil => intro p; rfl
  | cons x A ih => intro p; exact ih _
theorem ch_app {w : World} {B : List Chk} {n : Value} : ∀ {A : List Chk} {p : Value}, Ch w p (A ++ B) n ↔ Ch w p A (hdv B n) ∧ Ch w (ltv A p) B n := by
  intro A
  induction A with
  | nil => intro p; simp [Ch, ltv]
  | cons x A ih =>
    intro p
    simp only [List.cons_append, Ch, ltv, hdv_app, ih, and_assoc]
theorem Ck.kept {w w' : World} {c : Nat} {pv nv : Value} {ts : List ByteArray} (h : Ck w c pv nv ts) (hk : w'.heap[c]? = w.heap[c]?) : Ck w' c pv nv ts := by
  obtain ⟨rest, h1, h2⟩ := h
  exact ⟨rest, h1, hk.trans h2⟩
theorem Ch.kept {w w' : World} : ∀ {cs : List Chk} {p n : Value}, Ch w p cs n → (∀ x ∈ cs, w'.heap[x.1]? = w.heap[x.1]?) → Ch w' p cs n := by
  intro cs
  induction cs with
  | nil => intro p n _ _; trivial
  | cons x r ih =>
    intro p n h hk
    exact ⟨h.1.kept (hk x (by simp)), ih h.2 (fun y hy => hk y (by simp [hy]))⟩
theorem Ck.lt {w : World} {c : Nat} {pv nv : Value} {ts : List ByteArray} (h : Ck w c pv nv ts) : c < w.heap.size := by
  obtain ⟨rest, h1, h2⟩ := h
  exact (Array.getElem?_eq_some_iff.1 h2).1
theorem Ck.le {w : World} {c : Nat} {pv nv : Value} {ts : List ByteArray} (h : Ck w c pv nv ts) : ts.length ≤ 32 := by
  obtain ⟨rest, h1, h2⟩ := h
  omega
theorem Ch.mem {w : World} : ∀ {cs : List Chk} {p n : Value}, Ch w p cs n → ∀ x ∈ cs, ∃ pv nv, Ck w x.1 pv nv x.2 := by
  intro cs
  induction cs with
  | nil => intro p n _ x hx; cases hx
  | cons y r ih =>
    intro p n h x hx
    rcases List.mem_cons.1 hx with rfl | hx
    · exact ⟨_, _, h.1⟩
    · exact ih h.2 x hx
/-- the cells of a chunk -/
theorem Ck.cells {w : World} {c : Nat} {pv nv : Value} {ts : List ByteArray} (h : Ck w c pv nv ts) : w.cell? ⟨c, 0, none⟩ = some pv ∧ w.cell? ⟨c, 1, none⟩ = some nv ∧ w.cell? ⟨c, 2, none⟩ = some (.int .i64 (ts.length : Nat)) ∧ (∀ i t, ts[i]? = some t → w.cell? ⟨c, 3 + i, none⟩ = some (.string t)) ∧ ∀ i, w.frozen? ⟨c, i, none⟩ = false := by
  obtain ⟨rest, h1, h2⟩ := h
  refine ⟨?_, ?_, ?_, fun i t ht => ?_, fun i => by simp [World.frozen?, h2]⟩
  · rw [cell_of_row _ _ _ _ _ _ h2]; rfl
  · rw [cell_of_row _ _ _ _ _ _ h2]; rfl
  · rw [cell_of_row _ _ _ _ _ _ h2]; rfl
  · rw [cell_of_row _ _ _ _ _ _ h2]
    have hl := (List.getElem?_eq_some_iff.1 ht).1
    rw [List.getElem?_toArray, show 3 + i = i + 1 + 1 + 1 by omega]
    simp only [ckC, List.getElem?_cons_succ, List.getElem?_map, List.getElem?_append_left hl, ht]
    rfl
/-- a chunk's own ties, its count -/
theorem Ck.set0 {w : World} {c : Nat} {pv nv : Value} {ts : List ByteArray} (h : Ck w c pv nv ts) (u : Value) : Ck (w.setCell ⟨c, 0, none⟩ u) c u nv ts := by
  obtain ⟨rest, h1, h2⟩ := h
  exact ⟨rest, h1, cells_setCell h2⟩
theorem Ck.set1 {w : World} {c : Nat} {pv nv : Value} {ts : List ByteArray} (h : Ck w c pv nv ts) (u : Value) : Ck (w.setCell ⟨c, 1, none⟩ u) c pv u ts := by
  obtain ⟨rest, h1, h2⟩ := h
  exact ⟨rest, h1, cells_setCell h2⟩
/-- the row of texts -/
def row (cs : List Chk) : List ByteArray := cs.flatMap (·.2)
def costL (l : List ByteArray) : Nat := (l.map fun t => 16 + t.size).sum
theorem row_app (A B : List Chk) : row (A ++ B) = row A ++ row B := by unfold row; rw [List.flatMap_append]
theorem row_cons (x : Chk) (B : List Chk) : row (x :: B) = x.2 ++ row B := by unfold row; rw [List.flatMap_cons]
theorem costL_app (a b : List ByteArray) : costL (a ++ b) = costL a + costL b := by unfold costL; rw [List.map_append, List.sum_append]
theorem costL_cons (t : ByteArray) (b : List ByteArray) : costL (t :: b) = 16 + t.size + costL b := by unfold costL; rw [List.map_cons, List.sum_cons]
theorem costL_le {l : List ByteArray} (h : ∀ t ∈ l, t.size ≤ 1048576) : costL l ≤ l.length * 1048592 := by
  induction l with
  | nil => exact Nat.zero_le _
  | cons t l ih =>
    rw [costL_cons, List.length_cons]
    have := h t (by simp)
    have := ih (fun x hx => h x (by simp [hx]))
    omega
/-- a deque's struct -/
def Ds (w : World) (b : Nat) (f l : Value) (n c : Nat) : Prop := w.heap[b]? = some (.cells #[f, l, .int .i64 (n : Nat), .int .i64 (c : Nat)] 162 (0, 0))
theorem Ds.four {w : World} {b : Nat} {f l : Value} {n c : Nat} (h : Ds w b f l n c) : w.cell? ⟨b, 0, none⟩ = some f ∧ w.cell? ⟨b, 1, none⟩ = some l ∧ w.cell? ⟨b, 2, none⟩ = some (.int .i64 (n : Nat)) ∧ w.cell? ⟨b, 3, none⟩ = some (.int .i64 (c : Nat)) ∧ ∀ i, w.frozen? ⟨b, i, none⟩ = false := by
  unfold Ds at h
  refine ⟨?_, ?_, ?_, ?_, fun i => by simp [World.frozen?, h]⟩ <;> (rw [cell_of_row _ _ _ _ _ _ h]; rfl)
/-- a deque, also with chunks that have no texts -/
def Dq0 (w : World) (b : Nat) (cs : List Chk) : Prop :=
  Ds w b (hdv cs nul) (ltv cs nul) (row cs).length (costL (row cs)) ∧ Ch w nul cs nul ∧ (b :: cs.map (·.1)).Nodup ∧ (∀ t ∈ row cs, t.size ≤ 1048576) ∧ (row cs).length ≤ 1048576
/-- a deque between two calls -/
def Dq (w : World) (b : Nat) (cs : List Chk) : Prop := Dq0 w b cs ∧ ∀ x ∈ cs, 1 ≤ x.2.length
/-- whose blocks they are -/
def OwD (b : Nat) (cs : List Chk) (k : Nat) : Prop := k = b ∨ ∃ x ∈ cs, x.1 = k
theorem Dq0.lt {w : World} {b : Nat} {cs : List Chk} (h : Dq0 w b cs) {k : Nat} (hk : OwD b cs k) : k < w.heap.size := by
  rcases hk with rfl | ⟨x, hx, rfl⟩
  · exact (Array.getElem?_eq_some_iff.1 h.1).1
  · obtain ⟨pv, nv, hc⟩ := h.2.1.mem x hx
    exact hc.lt
theorem Dq0.kept {w w' : World} {b : Nat} {cs : List Chk} (h : Dq0 w b cs) (hk : ∀ k, OwD b cs k → w'.heap[k]? = w.heap[k]?) : Dq0 w' b cs :=
  ⟨(hk b (.inl rfl)).trans h.1, h.2.1.kept (fun x hx => hk x.1 (.inr ⟨x, hx, rfl⟩)), h.2.2⟩
theorem Dq.kept {w w' : World} {b : Nat} {cs : List Chk} (h : Dq w b cs) (hk : ∀ k, OwD b cs k → w'.heap[k]? = w.heap[k]?) : Dq w' b cs := ⟨h.1.kept hk, h.2⟩
theorem Dq.below {w w' : World} {b : Nat} {cs : List Chk} (h : Dq w b cs) (hb : Below w.heap.size w w') : Dq w' b cs := h.kept (fun _ hk => hb.block _ (h.1.lt hk))
/-- nothing has turned but the deque's own blocks and new ones -/
def Fd (b : Nat) (cs : List Chk) (w w' : World) (cs' : List Chk) : Prop := Sep (OwD b cs) w w' ∧ ∀ k, OwD b cs' k → OwD b cs k ∨ w.heap.size ≤ k
theorem Fd.refl (b : Nat) (cs : List Chk) (w : World) : Fd b cs w w cs := ⟨Sep.refl _ _, fun _ h => .inl h⟩
theorem Fd.trans {b : Nat} {cs cs1 cs2 : List Chk} {w w1 w2 : World} (h : Fd b cs w w1 cs1) (g : Fd b cs1 w1 w2 cs2) : Fd b cs w w2 cs2 := by
  refine ⟨⟨⟨g.1.1.1.trans h.1.1.1, g.1.1.2.1.trans h.1.1.2.1, g.1.1.2.2.trans h.1.1.2.2⟩, Nat.le_trans h.1.2.1 g.1.2.1, fun k hk hn => ?_⟩, fun k hk => ?_⟩
  · refine (g.1.2.2 k (Nat.lt_of_lt_of_le hk h.1.2.1) (fun e => ?_)).trans (h.1.2.2 k hk hn)
    rcases h.2 k e with h' | h'
    · exact hn h'
    · omega
  · rcases g.2 k hk with h' | h'
    · exact h.2 k h'
    · exact .inr (Nat.le_trans h.1.2.1 h')
theorem Fd.below {b : Nat} {cs cs' : List Chk} {w w' : World} {B : Nat} (h : Fd b cs w w' cs') (hB : B ≤ w.heap.size) (hn : ∀ k, k < B → ¬ OwD b cs k) : Below B w w' :=
  ⟨h.1.1.1, h.1.1.2.1, h.1.1.2.2, h.1.2.1, fun k hk => h.1.2.2 k (by omega) (hn k hk)⟩
theorem Fd.of_below {b : Nat} {cs : List Chk} {w w' : World} (h : Below w.heap.size w w') : Fd b cs w w' cs := ⟨Sep.of_below h, fun _ h => .inl h⟩
end Go.Proofs.YtijclcedjgniaaaGreat.DQ

/-
  Contracts over this program: the small calls of a deque; two chunks are tied; a new chunk; a text is put.
-/
namespace Go.Proofs.YtijclcedjgniaaaGreat.DQ
open Go.RowKit
theorem dq_new (w : World) : Dq (w.alloc (.cells #[.pointer none, .pointer none, .int .i64 0, .int .i64 0] 162)) w.heap.size [] := by
  refine ⟨⟨heap_alloc_new _ _, trivial, by simp, fun t h => by simp [row] at h, by simp [row]⟩, fun x h => by cases h⟩
set_option maxHeartbeats 400000 in
theorem new_any (w : World) : Calls Tryz.prog 128 #[] w fun e w' => e = .returned (ptr w.heap.size) ∧ Dq w' w.heap.size [] ∧ Below w.heap.size w w' ∧ w'.heap.size = w.heap.size + 1 := by
  go_enter Tryz.func128, Tryz.ntmps128
  go_wp2
  go_ret
  exact ⟨rfl, dq_new w, (Below.refl _ w).alloc (Nat.le_refl _) _, by simp⟩
set_option maxHeartbeats 400000 in
theorem len_any (w : World) (b : Nat) (f l : Value) (n c : Nat) (hd : Ds w b f l n c) : Calls Tryz.prog 78 #[ptr b] w fun e w' => e = .returned (.int .i64 (n : Nat)) ∧ w' = w := by
  obtain ⟨c0, c1, c2, c3, cf⟩ := hd.four
  clear hd c0 c1 c3 cf
  go_enter Tryz.func78, Tryz.ntmps78
  go_wp2
  go_ret
  exact ⟨rfl, rfl⟩
set_option maxHeartbeats 400000 in
theorem len_nil (w : World) : Calls Tryz.prog 78 #[nul] w fun e w' => e = .returned (.int .i64 0) ∧ w' = w := by
  go_enter Tryz.func78, Tryz.ntmps78
  go_wp2
  go_ret
  exact ⟨rfl, rfl⟩
set_option maxHeartbeats 400000 in
theorem costof_any (w : World) (s : ByteArray) (hs : s.size ≤ maxLen - 16) : Calls Tryz.prog 143 #[.string s] w fun e w' => e = .returned (.int .i64 (16 + s.size : Nat)) ∧ w' = w := by
  unfold maxLen at hs
  have h1 : IntKind.i64.wrap (16 + (s.size : Int)) = ((16 + s.size : Nat) : Int) := by rw [IntKind.wrap_i64]; omega
  go_enter Tryz.func143, Tryz.ntmps143
  go_wp2
  go_ret
  exact ⟨rfl, rfl⟩
/-- why one more text is not taken -/
def refC (n : Nat) (s : ByteArray) : Int := if 1048576 < s.size then 2 else if 1048576 ≤ n then 4 else 0
set_option maxHeartbeats 400000 in
theorem refuse_any (w : World) (b : Nat) (f l : Value) (n c : Nat) (s : ByteArray) (hs : s.size ≤ maxLen) (hd : Ds w b f l n c) : Calls Tryz.prog 86 #[ptr b, .string s] w fun e w' => e = .returned (.int .i64 (refC n s)) ∧ w' = w := by
  unfold maxLen at hs
  obtain ⟨c0, c1, c2, c3, cf⟩ := hd.four
  clear hd c0 c1 c3 cf
  unfold refC
  by_cases h1 : 1048576 < s.size
  · rw [if_pos h1]
    have h1z : decide (1048576 < (s.size : Int)) = true := decide_eq_true (by omega)
    go_enter Tryz.func86, Tryz.ntmps86
    go_wp2
    go_ret
    exact ⟨rfl, rfl⟩
  · rw [if_neg h1]
    have h1z : decide (1048576 < (s.size : Int)) = false := decide_eq_false (by omega)
    by_cases h2 : 1048576 ≤ n
    · rw [if_pos h2]
      have h2z : decide (1048576 ≤ (n : Int)) = true := decide_eq_true (by omega)
      go_enter Tryz.func86, Tryz.ntmps86
      go_wp2
      go_ret
      exact ⟨rfl, rfl⟩
    · rw [if_neg h2]
      have h2z : decide (1048576 ≤ (n : Int)) = false := decide_eq_false (by omega)
      go_enter Tryz.func86, Tryz.ntmps86
      go_wp2
      go_ret
      exact ⟨rfl, rfl⟩
set_option maxHeartbeats 400000 in
theorem room_nil (w : World) : Calls Tryz.prog 87 #[nul] w fun e w' => e = .returned (.bool false) ∧ w' = w := by
  go_enter Tryz.func87, Tryz.ntmps87
  go_wp2
  go_ret
  exact ⟨rfl, rfl⟩
set_option maxHeartbeats 400000 in
theorem room_any (w : World) (c : Nat) (n : Nat) (hn : n ≤ 32) (hc : w.cell? ⟨c, 2, none⟩ = some (.int .i64 (n : Nat))) : Calls Tryz.prog 87 #[ptr c] w fun e w' => e = .returned (.bool (decide (n < 32))) ∧ w' = w := by
  by_cases h : n < 32
  · have hz : decide ((n : Int) < 32) = true := decide_eq_true (by omega)
    go_enter Tryz.func87, Tryz.ntmps87
    go_wp2
    go_ret
    exact ⟨by simp [h], rfl⟩
  · have hz : decide ((n : Int) < 32) = false := decide_eq_false (by omega)
    go_enter Tryz.func87, Tryz.ntmps87
    go_wp2
    go_ret
    exact ⟨by simp [h], rfl⟩
def pvv : Option Nat → Value
  | none => nul
  | some c => ptr c
/-- the memory behind two chunks were tied -/
def tie1 (w : World) (b : Nat) (pv nv : Option Nat) : World := match pv with
  | none => w.setCell ⟨b, 0, none⟩ (pvv nv)
  | some p => w.setCell ⟨p, 1, none⟩ (pvv nv)
def tieW (w : World) (b : Nat) (pv nv : Option Nat) : World := match nv with
  | none => (tie1 w b pv nv).setCell ⟨b, 1, none⟩ (pvv pv)
  | some n => (tie1 w b pv nv).setCell ⟨n, 0, none⟩ (pvv pv)
set_option maxHeartbeats 800000 in
theorem tie_any (w : World) (b : Nat) (pv nv : Option Nat) (v0 v1 v2 v3 : Value) (hp : ∀ p, pv = some p → w.cell? ⟨p, 1, none⟩ = some v2 ∧ w.frozen? ⟨p, 1, none⟩ = false) (hn : ∀ n, nv = some n → (tie1 w b pv nv).cell? ⟨n, 0, none⟩ = some v3 ∧ (tie1 w b pv nv).frozen? ⟨n, 0, none⟩ = false)
    (hb : pv = none → w.cell? ⟨b, 0, none⟩ = some v0 ∧ w.frozen? ⟨b, 0, none⟩ = false) (hb1 : nv = none → (tie1 w b pv nv).cell? ⟨b, 1, none⟩ = some v1 ∧ (tie1 w b pv nv).frozen? ⟨b, 1, none⟩ = false) :
    Calls Tryz.prog 142 #[ptr b, pvv pv, pvv nv] w fun e w' => e = .returned (.tuple #[]) ∧ w' = tieW w b pv nv := by
  unfold tieW
  cases pv with
  | none =>
    obtain ⟨k0, k1⟩ := hb rfl
    cases nv with
    | none =>
      obtain ⟨m0, m1⟩ := hb1 rfl
      clear hp hn hb hb1
      unfold tie1 at *
      unfold pvv at *
      dsimp only at *
      go_enter Tryz.func142, Tryz.ntmps142
      go_wp2
      go_end0
      exact ⟨rfl, rfl⟩
    | some n =>
      obtain ⟨m0, m1⟩ := hn n rfl
      clear hp hn hb hb1
      unfold tie1 at *
      unfold pvv at *
      dsimp only at *
      go_enter Tryz.func142, Tryz.ntmps142
      go_wp2
      go_end0
      exact ⟨rfl, rfl⟩
  | some p =>
    obtain ⟨k0, k1⟩ := hp p rfl
    cases nv with
    | none =>
      obtain ⟨m0, m1⟩ := hb1 rfl
      clear hp hn hb hb1
      unfold tie1 at *
      unfold pvv at *
      dsimp only at *
      go_enter Tryz.func142, Tryz.ntmps142
      go_wp2
      go_end0
      exact ⟨rfl, rfl⟩
    | some n =>
      obtain ⟨m0, m1⟩ := hn n rfl
      clear hp hn hb hb1
      unfold tie1 at *
      unfold pvv at *
      dsimp only at *
      go_enter Tryz.func142, Tryz.ntmps142
      go_wp2
      go_end0
      exact ⟨rfl, rfl⟩
end Go.Proofs.YtijclcedjgniaaaGreat.DQ

/-
  Contracts over this program: two rows of chunks are tied; a new chunk stands between them.
-/
namespace Go.Proofs.YtijclcedjgniaaaGreat.DQ
open Go.RowKit
theorem ch_last {w : World} {p x u : Value} {A : List Chk} {a : Nat} {ts : List ByteArray} (h : Ch w p (A ++ [(a, ts)]) x) (hn : a ∉ A.map (·.1)) : Ch (w.setCell ⟨a, 1, none⟩ u) p (A ++ [(a, ts)]) u := by
  rw [ch_app] at h ⊢
  refine ⟨h.1.kept (fun y hy => Below.heap_setCell _ _ _ _ (fun e => hn (List.mem_map.2 ⟨y, hy, e⟩))), ?_, trivial⟩
  exact h.2.1.set1 u
theorem ch_first {w : World} {y n u : Value} {B : List Chk} {c : Nat} {ts : List ByteArray} (h : Ch w y ((c, ts) :: B) n) (hn : c ∉ B.map (·.1)) : Ch (w.setCell ⟨c, 0, none⟩ u) u ((c, ts) :: B) n :=
  ⟨h.1.set0 u, h.2.kept (fun y hy => Below.heap_setCell _ _ _ _ (fun e => hn (List.mem_map.2 ⟨y, hy, e⟩)))⟩
theorem ch_set {w : World} {p n u : Value} {cs : List Chk} {k i : Nat} (h : Ch w p cs n) (hk : ∀ x ∈ cs, x.1 ≠ k) : Ch (w.setCell ⟨k, i, none⟩ u) p cs n := h.kept (fun x hx => Below.heap_setCell _ _ _ _ (hk x hx))
theorem Ds.set0 {w : World} {b : Nat} {f l : Value} {n c : Nat} (h : Ds w b f l n c) (u : Value) : Ds (w.setCell ⟨b, 0, none⟩ u) b u l n c := cells_setCell h
theorem Ds.set1 {w : World} {b : Nat} {f l : Value} {n c : Nat} (h : Ds w b f l n c) (u : Value) : Ds (w.setCell ⟨b, 1, none⟩ u) b f u n c := cells_setCell h
theorem Ds.other {w : World} {b k i : Nat} {f l u : Value} {n c : Nat} (h : Ds w b f l n c) (hk : b ≠ k) : Ds (w.setCell ⟨k, i, none⟩ u) b f l n c := (Below.heap_setCell _ _ _ _ hk).trans h
theorem snoc_or {A : List Chk} : A = [] ∨ ∃ A' a ts, A = A' ++ [(a, ts)] := by
  rcases List.eq_nil_or_concat A with h | ⟨A', x, h⟩
  · exact .inl h
  · exact .inr ⟨A', x.1, x.2, by rw [h, List.concat_eq_append]⟩
theorem ltv_snoc (A : List Chk) (a : Nat) (ts : List ByteArray) (p : Value) : ltv (A ++ [(a, ts)]) p = ptr a := by rw [ltv_app]; rfl
/-- what tying leaves -/
def Tied (w : World) (b : Nat) (A B : List Chk) (f l : Value) (n c : Nat) (p0 z : Value) (w' : World) : Prop :=
  Ds w' b (if A.isEmpty then hdv B nul else f) (if B.isEmpty then ltv A nul else l) n c ∧ Ch w' p0 A (hdv B nul) ∧ Ch w' (ltv A nul) B z ∧ (w'.os = w.os ∧ w'.tape = w.tape ∧ w'.output = w.output) ∧ w'.heap.size = w.heap.size ∧ ∀ k, ¬ OwD b (A ++ B) k → w'.heap[k]? = w.heap[k]?
theorem set_size (w : World) (a : Addr) (u : Value) : (w.setCell a u).heap.size = w.heap.size := by simp [World.setCell]
theorem tie_ch (w : World) (b : Nat) (A B : List Chk) (f l : Value) (n c : Nat) (p0 x y z : Value) (hd : Ds w b f l n c) (hA : Ch w p0 A x) (hB : Ch w y B z) (hnd : (b :: (A ++ B).map (·.1)).Nodup) :
    Calls Tryz.prog 142 #[ptr b, ltv A nul, hdv B nul] w fun e w' => e = .returned (.tuple #[]) ∧ Tied w b A B f l n c p0 z w' := by
  rw [List.nodup_cons, List.map_append] at hnd
  obtain ⟨hbn, hnd⟩ := hnd
  obtain ⟨ndA, ndB, ndAB⟩ := List.nodup_append.1 hnd
  have hbA : ∀ x ∈ A, x.1 ≠ b := fun x hx e => hbn (List.mem_append_left _ (List.mem_map.2 ⟨x, hx, e⟩))
  have hbB : ∀ x ∈ B, x.1 ≠ b := fun x hx e => hbn (List.mem_append_right _ (List.mem_map.2 ⟨x, hx, e⟩))
  have hAB : ∀ x ∈ A, ∀ y ∈ B, x.1 ≠ y.1 := fun x hx y hy => ndAB _ (List.mem_map_of_mem hx) _ (List.mem_map_of_mem hy)
  obtain ⟨c0, c1, c2, c3, cf⟩ := hd.four
  rcases snoc_or (A := A) with rfl | ⟨A', a, ts, rfl⟩
  · cases B with
    | nil =>
      have h1 := hd.set0 nul
      obtain ⟨d0, d1, _, _, df⟩ := h1.four
      refine (tie_any w b none none f l nul nul (fun _ h => by cases h) (fun _ h => by cases h) (fun _ => ⟨c0, cf 0⟩) (fun _ => ⟨d1, df 1⟩)).mono ?_
      rintro _ w' ⟨rfl, rfl⟩
      refine ⟨rfl, h1.set1 nul, trivial, trivial, ⟨rfl, rfl, rfl⟩, by simp [tieW, tie1], fun k hk => ?_⟩
      have hkb : k ≠ b := fun e => hk (.inl e)
      show ((w.setCell _ _).setCell _ _).heap[k]? = _
      rw [Below.heap_setCell _ _ _ _ hkb, Below.heap_setCell _ _ _ _ hkb]
    | cons q B =>
      obtain ⟨m, us⟩ := q
      have h1 := hd.set0 (ptr m)
      have hB1 := ch_set (i := 0) (u := ptr m) hB hbB
      obtain ⟨e0, _, _, _, ef⟩ := hB1.1.cells
      refine (tie_any w b none (some m) f l nul y (fun _ h => by cases h) (fun n' h => by cases h; exact ⟨e0, ef 0⟩) (fun _ => ⟨c0, cf 0⟩) (fun h => by cases h)).mono ?_
      rintro _ w' ⟨rfl, rfl⟩
      have hbm : b ≠ m := fun e => hbB (m, us) (by simp) e.symm
      rw [List.map_cons, List.nodup_cons] at ndB
      refine ⟨rfl, h1.other hbm, trivial, ch_first hB1 ndB.1, ⟨rfl, rfl, rfl⟩, by simp [tieW, tie1], fun k hk => ?_⟩
      have hkb : k ≠ b := fun e => hk (.inl e)
      have hkm : k ≠ m := fun e => hk (.inr ⟨(m, us), by simp, e.symm⟩)
      show ((w.setCell _ _).setCell _ _).heap[k]? = _
      rw [Below.heap_setCell _ _ _ _ hkm, Below.heap_setCell _ _ _ _ hkb]
  · have haA : a ∉ A'.map (·.1) := by
      rw [List.map_append, List.nodup_append] at ndA
      intro h
      exact ndA.2.2 a h a (by simp) rfl
    have hba : b ≠ a := fun e => hbA (a, ts) (by simp) e.symm
    obtain ⟨_, e1, _, _, ef⟩ := (ch_app.1 hA).2.1.cells
    cases B with
    | nil =>
      have h1 := hd.other (i := 1) (u := nul) hba
      obtain ⟨d0, d1, _, _, df⟩ := h1.four
      rw [ltv_snoc]
      refine (tie_any w b (some a) none f l _ nul (fun p h => by cases h; exact ⟨e1, ef 1⟩) (fun _ h => by cases h) (fun h => by cases h) (fun _ => ⟨d1, df 1⟩)).mono ?_
      rintro _ w' ⟨rfl, rfl⟩
      refine ⟨rfl, ?_, ch_set (ch_last hA haA) hbA, trivial, ⟨rfl, rfl, rfl⟩, by simp [tieW, tie1], fun k hk => ?_⟩
      · have this : Ds (tieW w b (some a) none) b f (ptr a) n c := h1.set1 (ptr a)
        simpa [ltv_snoc] using this
      · have hkb : k ≠ b := fun e => hk (.inl e)
        have hka : k ≠ a := fun e => hk (.inr ⟨(a, ts), by simp, e.symm⟩)
        show ((w.setCell _ _).setCell _ _).heap[k]? = _
        rw [Below.heap_setCell _ _ _ _ hkb, Below.heap_setCell _ _ _ _ hka]
    | cons q B =>
      obtain ⟨m, us⟩ := q
      have ham : a ≠ m := hAB (a, ts) (by simp) (m, us) (by simp)
      have hB1 : Ch (w.setCell ⟨a, 1, none⟩ (ptr m)) y ((m, us) :: B) z := ch_set hB (fun q hq e => hAB (a, ts) (by simp) q hq e.symm)
      obtain ⟨g0, _, _, _, gf⟩ := hB1.1.cells
      rw [ltv_snoc]
      refine (tie_any w b (some a) (some m) f l _ y (fun p h => by cases h; exact ⟨e1, ef 1⟩) (fun n' h => by cases h; exact ⟨g0, gf 0⟩) (fun h => by cases h) (fun h => by cases h)).mono ?_
      rintro _ w' ⟨rfl, rfl⟩
      have hbm : b ≠ m := fun e => hbB (m, us) (by simp) e.symm
      rw [List.map_cons, List.nodup_cons] at ndB
      refine ⟨rfl, ?_, ch_set (ch_last hA haA) (fun q hq => hAB q hq (m, us) (by simp)), ?_, ⟨rfl, rfl, rfl⟩, by simp [tieW, tie1], fun k hk => ?_⟩
      · have this : Ds (tieW w b (some a) (some m)) b f l n c := (hd.other (i := 1) (u := ptr m) hba).other (i := 0) (u := ptr a) hbm
        simpa using this
      · rw [ltv_snoc]
        exact ch_first hB1 ndB.1
      · have hka : k ≠ a := fun e => hk (.inr ⟨(a, ts), by simp, e.symm⟩)
        have hkm : k ≠ m := fun e => hk (.inr ⟨(m, us), by simp, e.symm⟩)
        show ((w.setCell _ _).setCell _ _).heap[k]? = _
        rw [Below.heap_setCell _ _ _ _ hkm, Below.heap_setCell _ _ _ _ hka]
theorem zero_chunk : ckC nul nul [] (List.replicate 32 { data := #[] }) = [.pointer none, .pointer none, .int .i64 0, .string { data := #[] }, .string { data := #[] }, .string { data := #[] }, .string { data := #[] }, .string { data := #[] }, .string { data := #[] }, .string { data := #[] }, .string { data := #[] }, .string { data := #[] }, .string { data := #[] }, .string { data := #[] }, .string { data := #[] }, .string { data := #[] }, .string { data := #[] }, .string { data := #[] }, .string { data := #[] }, .string { data := #[] }, .string { data := #[] }, .string { data := #[] }, .string { data := #[] }, .string { data := #[] }, .string { data := #[] }, .string { data := #[] }, .string { data := #[] }, .string { data := #[] }, .string { data := #[] }, .string { data := #[] }, .string { data := #[] }, .string { data := #[] }, .string { data := #[] }, .string { data := #[] }, .string { data := #[] }] := rfl
def zck : Obj := .cells (ckC nul nul [] (List.replicate 32 { data := #[] })).toArray 167
theorem open_tail (w : World) (b : Nat) (A B : List Chk) (hd : Dq0 w b (A ++ B)) :
    Calls Tryz.prog 142 #[ptr b, ltv A nul, ptr w.heap.size] (w.alloc zck) fun e w2 => e = .returned (.tuple #[]) ∧ Calls Tryz.prog 142 #[ptr b, ptr w.heap.size, hdv B nul] w2 fun e w3 => e = .returned (.tuple #[]) ∧ Dq0 w3 b (A ++ (w.heap.size, []) :: B) ∧ Fd b (A ++ B) w w3 (A ++ (w.heap.size, []) :: B) := by
  have hlt := fun k hk => hd.lt (k := k) hk
  obtain ⟨hds, hch, hnd, hsz, hln⟩ := id hd
  obtain ⟨hA, hB⟩ := ch_app.1 hch
  have hb1 : Below w.heap.size w (w.alloc zck) := (Below.refl _ w).alloc (Nat.le_refl _) _
  have hbl : b < w.heap.size := hlt b (.inl rfl)
  have hcl : ∀ x ∈ A ++ B, x.1 < w.heap.size := fun x hx => hlt x.1 (.inr ⟨x, hx, rfl⟩)
  have hnew : Ch (w.alloc zck) nul [(w.heap.size, [])] nul := ⟨⟨List.replicate 32 { data := #[] }, rfl, heap_alloc_new w zck⟩, trivial⟩
  have hA1 : Ch (w.alloc zck) nul A (hdv B nul) := hA.kept (fun x hx => hb1.block _ (hcl x (by simp [hx])))
  have hB1 : Ch (w.alloc zck) (ltv A nul) B nul := hB.kept (fun x hx => hb1.block _ (hcl x (by simp [hx])))
  rw [List.nodup_cons, List.map_append] at hnd
  obtain ⟨hbn, hndl⟩ := hnd
  obtain ⟨ndA, ndB, ndAB⟩ := List.nodup_append.1 hndl
  have hcA : ∀ x ∈ A, x.1 ≠ w.heap.size := fun x hx e => by have := hcl x (by simp [hx]); omega
  have hcB : ∀ x ∈ B, x.1 ≠ w.heap.size := fun x hx e => by have := hcl x (by simp [hx]); omega
  have hbA : ∀ x ∈ A, x.1 ≠ b := fun x hx e => hbn (List.mem_append_left _ (List.mem_map.2 ⟨x, hx, e⟩))
  have hbB : ∀ x ∈ B, x.1 ≠ b := fun x hx e => hbn (List.mem_append_right _ (List.mem_map.2 ⟨x, hx, e⟩))
  have hAB : ∀ x ∈ A, ∀ y ∈ B, x.1 ≠ y.1 := fun x hx y hy => ndAB _ (List.mem_map_of_mem hx) _ (List.mem_map_of_mem hy)
  have hnd1 : (b :: (A ++ [(w.heap.size, ([] : List ByteArray))]).map (·.1)).Nodup := by
    rw [List.nodup_cons, List.map_append, List.nodup_append]
    refine ⟨fun h => ?_, ndA, by simp, fun x hx y hy e => ?_⟩
    · rcases List.mem_append.1 h with h | h
      · exact hbn (List.mem_append_left _ h)
      · simp at h; omega
    · obtain ⟨q, hq, rfl⟩ := List.mem_map.1 hx
      simp at hy
      exact hcA q hq (e.trans hy)
  have hnd2 : (b :: ([(w.heap.size, ([] : List ByteArray))] ++ B).map (·.1)).Nodup := by
    rw [List.nodup_cons, List.map_append, List.nodup_append]
    refine ⟨fun h => ?_, by simp, ndB, fun x hx y hy e => ?_⟩
    · rcases List.mem_append.1 h with h | h
      · simp at h; omega
      · exact hbn (List.mem_append_right _ h)
    · obtain ⟨q, hq, rfl⟩ := List.mem_map.1 hy
      simp at hx
      exact hcB q hq (e.symm.trans hx)
  refine (tie_ch (w.alloc zck) b A [(w.heap.size, [])] _ _ _ _ nul _ nul nul ((hb1.block b hbl).trans hds) hA1 hnew hnd1).mono ?_
  rintro _ w2 ⟨rfl, t1, t2, t3, t4, t5, t6⟩
  have hB2 : Ch w2 (ltv A nul) B nul := hB1.kept (fun x hx => t6 _ (fun e => by
    rcases e with e | ⟨q, hq, e⟩
    · exact hbB x hx e
    · rcases List.mem_append.1 hq with hq | hq
      · exact hAB q hq x hx e
      · simp at hq; subst hq; exact hcB x hx e.symm))
  refine ⟨rfl, (tie_ch w2 b [(w.heap.size, [])] B _ _ _ _ (ltv A nul) _ (ltv A nul) nul t1 t3 hB2 hnd2).mono ?_⟩
  rintro _ w3 ⟨rfl, s1, s2, s3, s4, s5, s6⟩
  have hA3 : Ch w3 nul A (ptr w.heap.size) := t2.kept (fun x hx => s6 _ (fun e => by
    rcases e with e | ⟨q, hq, e⟩
    · exact hbA x hx e
    · rcases List.mem_append.1 hq with hq | hq
      · simp at hq; subst hq; exact hcA x hx e.symm
      · exact hAB x hx q hq e.symm))
  have hrow : row (A ++ (w.heap.size, []) :: B) = row (A ++ B) := by rw [row_app, row_cons, row_app]; rfl
  refine ⟨rfl, ⟨?_, ch_app.2 ⟨hA3, s2.1, s3⟩, ?_, by rw [hrow]; exact hsz, by rw [hrow]; exact hln⟩, ⟨⟨?_, by rw [s5, t5]; exact hb1.size, fun k hk hn => ?_⟩, fun k hk => ?_⟩⟩
  · rw [hrow]
    have e1 : hdv (A ++ (w.heap.size, []) :: B) nul = (if [(w.heap.size, ([] : List ByteArray))].isEmpty then hdv B nul else if A.isEmpty then hdv [(w.heap.size, [])] nul else hdv (A ++ B) nul) := by cases A <;> rfl
    have e2 : ltv (A ++ (w.heap.size, []) :: B) nul = (if B.isEmpty then ltv [(w.heap.size, [])] nul else if [(w.heap.size, ([] : List ByteArray))].isEmpty then ltv A nul else ltv (A ++ B) nul) := by
      rw [ltv_app, ltv_app]
      cases B <;> rfl
    rw [e1, e2]
    exact s1
  · rw [List.nodup_cons, List.map_append, List.map_cons, List.nodup_append]
    rw [List.nodup_cons] at hnd2
    refine ⟨fun h => ?_, ndA, ?_, fun x hx y hy e => ?_⟩
    · rcases List.mem_append.1 h with h | h
      · exact hbn (List.mem_append_left _ h)
      · exact hnd2.1 (by simpa using h)
    · simpa using hnd2.2
    · obtain ⟨q, hq, rfl⟩ := List.mem_map.1 hx
      rcases List.mem_cons.1 hy with rfl | hy
      · exact hcA q hq e
      · obtain ⟨q2, hq2, rfl⟩ := List.mem_map.1 hy
        exact hAB q hq q2 hq2 e
  · exact ⟨s4.1.trans (t4.1.trans hb1.os), s4.2.1.trans (t4.2.1.trans hb1.tape), s4.2.2.trans (t4.2.2.trans hb1.output)⟩
  · rw [s6 k, t6 k]
    · exact hb1.block k hk
    · rintro (e | ⟨q, hq, e⟩)
      · exact hn (.inl e)
      · rcases List.mem_append.1 hq with hq | hq
        · exact hn (.inr ⟨q, by simp [hq], e⟩)
        · simp at hq; subst hq; simp at e; omega
    · rintro (e | ⟨q, hq, e⟩)
      · exact hn (.inl e)
      · rcases List.mem_append.1 hq with hq | hq
        · simp at hq; subst hq; simp at e; omega
        · exact hn (.inr ⟨q, by simp [hq], e⟩)
  · rcases hk with e | ⟨q, hq, e⟩
    · exact .inl (.inl e)
    · rcases List.mem_append.1 hq with hq | hq
      · exact .inl (.inr ⟨q, by simp [hq], e⟩)
      · rcases List.mem_cons.1 hq with rfl | hq
        · right; simp at e; omega
        · exact .inl (.inr ⟨q, by simp [hq], e⟩)
set_option maxRecDepth 100000 in
set_option maxHeartbeats 1000000 in
theorem open_any (w : World) (b : Nat) (A B : List Chk) (hd : Dq0 w b (A ++ B)) :
    Calls Tryz.prog 88 #[ptr b, ltv A nul] w fun e w' => e = .returned (ptr w.heap.size) ∧ Dq0 w' b (A ++ (w.heap.size, []) :: B) ∧ Fd b (A ++ B) w w' (A ++ (w.heap.size, []) :: B) := by
  have mT := open_tail w b A B hd
  obtain ⟨hds, hch, _⟩ := hd
  obtain ⟨c0, _⟩ := hds.four
  obtain ⟨hA, _⟩ := ch_app.1 hch
  have hz : (Obj.cells #[.pointer none, .pointer none, .int .i64 0, .string { data := #[] }, .string { data := #[] }, .string { data := #[] }, .string { data := #[] }, .string { data := #[] }, .string { data := #[] }, .string { data := #[] }, .string { data := #[] }, .string { data := #[] }, .string { data := #[] }, .string { data := #[] }, .string { data := #[] }, .string { data := #[] }, .string { data := #[] }, .string { data := #[] }, .string { data := #[] }, .string { data := #[] }, .string { data := #[] }, .string { data := #[] }, .string { data := #[] }, .string { data := #[] }, .string { data := #[] }, .string { data := #[] }, .string { data := #[] }, .string { data := #[] }, .string { data := #[] }, .string { data := #[] }, .string { data := #[] }, .string { data := #[] }, .string { data := #[] }, .string { data := #[] }, .string { data := #[] }] 167) = zck := rfl
  have MT := keep mT
  clear hds hch mT
  rcases snoc_or (A := A) with rfl | ⟨A', a, ts, rfl⟩
  · have d0 : w.cell? ⟨b, 0, none⟩ = some (hdv B nul) := c0
    clear hA c0
    generalize hdv B nul = nv at d0 MT
    have MT : Kept (Calls Tryz.prog 142 #[ptr b, .pointer none, ptr w.heap.size] _ _) := MT
    show Calls _ _ #[ptr b, .pointer none] _ _
    go_enter Tryz.func88, Tryz.ntmps88
    go_wp2_with fail
    try rw [hz]
    have q := MT.out
    show Calls Tryz.prog 142 #[ptr b, .pointer none, ptr w.heap.size] (w.alloc zck) _
    refine Calls.mono q ?_
    clear q
    rintro _ w2 ⟨rfl, m2⟩
    have M2 := keep m2
    clear m2 MT
    go_wp2_with fail
    have q := M2.out
    show Calls Tryz.prog 142 #[ptr b, ptr w.heap.size, nv] w2 _
    refine Calls.mono q ?_
    clear q
    rintro _ w3 ⟨rfl, hq⟩
    have HQ := keep hq
    clear hq M2
    go_wp2
    go_ret
    exact ⟨rfl, HQ.out⟩
  · have c1 : w.cell? ⟨a, 1, none⟩ = some (hdv B nul) := (ch_app.1 hA).2.1.cells.2.1
    clear hA
    rw [ltv_snoc] at MT ⊢
    rw [hdv_app] at c0
    generalize hdv B nul = nv at c1 MT c0
    generalize hdv (A' ++ [(a, ts)]) nv = fv at c0
    go_enter Tryz.func88, Tryz.ntmps88
    go_wp2_with fail
    try rw [hz]
    have q := MT.out
    show Calls Tryz.prog 142 #[ptr b, ptr a, ptr w.heap.size] (w.alloc zck) _
    refine Calls.mono q ?_
    clear q
    rintro _ w2 ⟨rfl, m2⟩
    have M2 := keep m2
    clear m2 MT
    go_wp2_with fail
    have q := M2.out
    show Calls Tryz.prog 142 #[ptr b, ptr w.heap.size, nv] w2 _
    refine Calls.mono q ?_
    clear q
    rintro _ w3 ⟨rfl, hq⟩
    have HQ := keep hq
    clear hq M2
    go_wp2
    go_ret
    exact ⟨rfl, HQ.out⟩
end Go.Proofs.YtijclcedjgniaaaGreat.DQ

/-
  Contracts over this program: put, a text laid into a chunk of a deque.
-/
namespace Go.Proofs.YtijclcedjgniaaaGreat.DQ
open Go.RowKit
set_option linter.unusedVariables false
/-- a chunk's cells: its ties, its count, and 32 texts -/
def Cx (w : World) (c : Nat) (pv nv : Value) (n : Nat) (X : List ByteArray) : Prop := X.length = 32 ∧ w.heap[c]? = some (.cells (pv :: nv :: .int .i64 (n : Nat) :: X.map Value.string).toArray 167 (0, 0))
theorem Ck.cx {w : World} {c : Nat} {pv nv : Value} {ts : List ByteArray} (h : Ck w c pv nv ts) : ∃ X, Cx w c pv nv ts.length X ∧ X.take ts.length = ts := by
  obtain ⟨rest, h1, h2⟩ := h
  exact ⟨ts ++ rest, ⟨by rw [List.length_append]; exact h1, h2⟩, by simp⟩
theorem Cx.ck {w : World} {c : Nat} {pv nv : Value} {n : Nat} {X ts : List ByteArray} (h : Cx w c pv nv n X) (hn : n ≤ 32) (ht : X.take n = ts) : Ck w c pv nv ts := by
  have hl : ts.length = n := by rw [← ht, List.length_take, h.1]; omega
  refine ⟨X.drop n, ?_, ?_⟩
  · rw [hl, List.length_drop, h.1]; omega
  · rw [h.2]
    unfold ckC
    rw [hl, ← ht, List.take_append_drop]
theorem Cx.cells {w : World} {c : Nat} {pv nv : Value} {n : Nat} {X : List ByteArray} (h : Cx w c pv nv n X) : w.cell? ⟨c, 0, none⟩ = some pv ∧ w.cell? ⟨c, 1, none⟩ = some nv ∧ w.cell? ⟨c, 2, none⟩ = some (.int .i64 (n : Nat)) ∧ (∀ i t, X[i]? = some t → w.cell? ⟨c, 3 + i, none⟩ = some (.string t)) ∧ ∀ i, w.frozen? ⟨c, i, none⟩ = false := by
  refine ⟨?_, ?_, ?_, fun i t ht => ?_, fun i => by simp [World.frozen?, h.2]⟩
  · rw [cell_of_row _ _ _ _ _ _ h.2]; rfl
  · rw [cell_of_row _ _ _ _ _ _ h.2]; rfl
  · rw [cell_of_row _ _ _ _ _ _ h.2]; rfl
  · rw [cell_of_row _ _ _ _ _ _ h.2, List.getElem?_toArray, show 3 + i = i + 1 + 1 + 1 by omega]
    simp only [List.getElem?_cons_succ, List.getElem?_map, ht]
    rfl
theorem Cx.setT {w : World} {c : Nat} {pv nv : Value} {n : Nat} {X : List ByteArray} (h : Cx w c pv nv n X) (i : Nat) (s : ByteArray) : Cx (w.setCell ⟨c, 3 + i, none⟩ (.string s)) c pv nv n (X.set i s) := by
  refine ⟨by rw [List.length_set]; exact h.1, ?_⟩
  rw [cells_setCell h.2, show 3 + i = i + 1 + 1 + 1 by omega, List.setIfInBounds_toArray]
  simp only [List.set_cons_succ, List.map_set]
theorem Cx.setN {w : World} {c : Nat} {pv nv : Value} {n : Nat} {X : List ByteArray} (h : Cx w c pv nv n X) (m : Nat) : Cx (w.setCell ⟨c, 2, none⟩ (.int .i64 (m : Nat))) c pv nv m X := ⟨h.1, cells_setCell h.2⟩
def layS (l : List ByteArray) (o : Nat) : List ByteArray → List ByteArray
  | [] => l
  | v :: r => layS (l.set o v) (o + 1) r
theorem layS_len : ∀ (v l : List ByteArray) (o : Nat), (layS l o v).length = l.length
  | [], _, _ => rfl
  | x :: r, l, o => by rw [layS, layS_len r]; simp
theorem layS_at : ∀ (v l : List ByteArray) (o i : Nat), o + v.length ≤ l.length → (layS l o v)[i]? = if o ≤ i ∧ i < o + v.length then v[i - o]? else l[i]?
  | [], l, o, i, _ => by simp [layS]; omega
  | x :: r, l, o, i, h => by
    have h' : o + 1 + r.length ≤ l.length := by simp only [List.length_cons] at h; omega
    rw [layS, layS_at r (l.set o x) (o + 1) i (by simpa using h')]
    simp only [List.length_cons, List.getElem?_set]
    by_cases e : o = i
    · subst e
      rw [if_neg (by omega : ¬ (o + 1 ≤ o ∧ o < o + 1 + r.length)), if_pos rfl, if_pos (by omega), if_pos (by omega), Nat.sub_self]
      simp
    · rw [if_neg e]
      by_cases g : o + 1 ≤ i ∧ i < o + 1 + r.length
      · rw [if_pos g, if_pos (by omega), show i - o = i - (o + 1) + 1 by omega]
        simp
      · rw [if_neg g, if_neg (by omega)]
theorem Cx.setTs {c : Nat} {pv nv : Value} {n : Nat} : ∀ (vs : List ByteArray) {w : World} {X : List ByteArray} (o : Nat), Cx w c pv nv n X → Cx (w.setCells c (3 + o) (vs.map Value.string)) c pv nv n (layS X o vs)
  | [], _, _, _, h => h
  | x :: r, _, _, o, h => Cx.setTs r (o + 1) (h.setT o x)
/-- a text put in -/
theorem put_list {X ts : List ByteArray} {p : Nat} {s : ByteArray} (hX : X.length = 32) (ht : X.take ts.length = ts) (hp : p ≤ ts.length) (hl : ts.length < 32) : ((layS X (p + 1) (ts.drop p)).set p s).take (ts.length + 1) = ts.take p ++ s :: ts.drop p := by
  have hb : p + 1 + (ts.drop p).length ≤ X.length := by rw [List.length_drop]; omega
  apply List.ext_getElem?
  intro i
  rw [List.getElem?_take]
  by_cases h : i < ts.length + 1
  · rw [if_pos h, List.getElem?_set, layS_len]
    by_cases e : p = i
    · subst e
      rw [if_pos rfl, if_pos (by omega), List.getElem?_append_right (by rw [List.length_take]; omega), List.length_take, Nat.min_eq_left hp, Nat.sub_self]
      rfl
    · rw [if_neg e, layS_at _ _ _ _ hb, List.length_drop]
      by_cases g : p < i
      · rw [if_pos (by omega), List.getElem?_append_right (by rw [List.length_take]; omega), List.length_take, Nat.min_eq_left hp, show i - p = i - (p + 1) + 1 by omega, List.getElem?_cons_succ]
      · rw [if_neg (by omega), List.getElem?_append_left (by rw [List.length_take]; omega), List.getElem?_take, if_pos (by omega), ← ht, List.getElem?_take, if_pos (by omega)]
  · rw [if_neg h, List.getElem?_eq_none (by rw [List.length_append, List.length_take, List.length_cons, List.length_drop]; omega)]
theorem setCells_other {c k : Nat} (h : k ≠ c) : ∀ (vs : List Value) (o : Nat) (w : World), (w.setCells c o vs).heap[k]? = w.heap[k]?
  | [], _, _ => rfl
  | v :: r, o, w => by rw [World.setCells, setCells_other h r, Below.heap_setCell _ _ _ _ h]
theorem setCells_same : ∀ (vs : List Value) (o : Nat) (w : World) (c : Nat), (w.setCells c o vs).heap.size = w.heap.size ∧ (w.setCells c o vs).os = w.os ∧ (w.setCells c o vs).tape = w.tape ∧ (w.setCells c o vs).output = w.output
  | [], _, _, _ => ⟨rfl, rfl, rfl, rfl⟩
  | v :: r, o, w, c => by
    rw [World.setCells]
    obtain ⟨a, b, d, e⟩ := setCells_same r (o + 1) (w.setCell ⟨c, o, none⟩ v) c
    exact ⟨a.trans (set_size _ _ _), b, d, e⟩
theorem Ds.set2 {w : World} {b : Nat} {f l : Value} {n c : Nat} (h : Ds w b f l n c) (m : Nat) : Ds (w.setCell ⟨b, 2, none⟩ (.int .i64 (m : Nat))) b f l m c := cells_setCell h
theorem Ds.set3 {w : World} {b : Nat} {f l : Value} {n c : Nat} (h : Ds w b f l n c) (m : Nat) : Ds (w.setCell ⟨b, 3, none⟩ (.int .i64 (m : Nat))) b f l n m := cells_setCell h
def sla (c l : Nat) : Addr := if l = 32 then ⟨c, 3, none⟩ else ⟨c, 3 + l, none⟩
theorem sla_is {c l h : Nat} : slicedAt ⟨c, 3, none⟩ l h 32 1 = .slice (some (sla c l)) (h - l) (32 - l) := by
  unfold slicedAt sla
  by_cases e : l = 32
  · rw [if_pos e, if_pos e.symm]
  · rw [if_neg e, if_neg (fun h => e h.symm), Nat.mul_one]
    congr 2
    unfold Addr.add
    split <;> simp_all
theorem arr_len : Tryz.prog.arrayLen 165 = 32 := by kernel_rfl
theorem arr_is : Tryz.prog.underlying 165 = some (.array (Tryz.prog.arrayLen 165) (Tryz.prog.elem 165)) := by kernel_rfl
theorem arr_size (w : World) : (Go.sizeOf (Tryz.prog.elem 165)).run Tryz.prog w = .ok 1 w := by kernel_rfl
theorem sl_from (w : World) (c l : Nat) (x : Int) (hx : x = (l : Int)) (hl : l ≤ 32) : (Instr.sliceAt 165 (.pointer (some ⟨c, 3, none⟩)) (some (.int .i64 x)) none none).run Tryz.prog w = .ok (.slice (some (sla c l)) (32 - l) (32 - l)) w := by
  subst hx
  rw [run_sliceAt_array_l w 165 ⟨c, 3, none⟩ arr_is .i64 (l : Int) (by omega) (by rw [arr_len]; omega), arr_size, arr_len, Int.toNat_natCast, Result.andThen_ok, sla_is]
theorem sl_part (w : World) (c l h : Nat) (hl : l ≤ h) (hh : h ≤ 32) : (Instr.sliceAt 165 (.pointer (some ⟨c, 3, none⟩)) (some (.int .i64 (l : Int))) (some (.int .i64 (h : Int))) none).run Tryz.prog w = .ok (.slice (some (sla c l)) (h - l) (32 - l)) w := by
  rw [run_sliceAt_array_lh w 165 ⟨c, 3, none⟩ arr_is .i64 .i64 (l : Int) (h : Int) (by omega) (by omega) (by rw [arr_len]; omega), arr_size, arr_len, Int.toNat_natCast, Int.toNat_natCast, Result.andThen_ok, sla_is]
end Go.Proofs.YtijclcedjgniaaaGreat.DQ

namespace Go.Proofs.YtijclcedjgniaaaGreat.DQ
open Go.RowKit
set_option linter.unusedVariables false
theorem info_str : (Tryz.prog.info? 9).map (·.size) = some 1 := by kernel_rfl
set_option maxRecDepth 100000 in
set_option maxHeartbeats 4000000 in
theorem put_walk (w : World) (b c : Nat) (pv nv f l : Value) (n m k : Nat) (X : List ByteArray) (p : Nat) (s : ByteArray) (ts : List ByteArray) (hc : Cx w c pv nv n X) (hd : Ds w b f l m k) (hbc : b ≠ c) (hp : p ≤ n) (hn : n < 32) (hm : m < 1048576) (hk : k ≤ 2000000000000) (hs : s.size ≤ 1048576) (hts : ts.length = n) (ht : X.take n = ts) (n1 m1 k1 : Nat) (hn1 : n1 = n + 1) (hm1 : m1 = m + 1) (hk1 : k1 = k + (16 + s.size)) :
    Calls Tryz.prog 89 #[ptr b, ptr c, .int .i64 p, .string s] w fun e w' => e = .returned (.tuple #[]) ∧ ∃ w1 w2, w1 = (w.drew.setCells c (3 + (p + 1)) ((ts.drop p).map Value.string)) ∧ w2 = (((w1.setCell ⟨c, 3 + p, none⟩ (.string s)).setCell ⟨c, 2, none⟩ (.int .i64 (n1 : Nat))).setCell ⟨b, 2, none⟩ (.int .i64 (m1 : Nat))) ∧ ∃ q, w' = (w2.setCell ⟨b, 3, none⟩ (.int .i64 (k1 : Nat))).drewN q := by
  obtain ⟨c0, c1, c2, ct, cf⟩ := hc.cells
  obtain ⟨d0, d1, d2, d3, df⟩ := hd.four
  have hcp : (Builtin.copy_ #[31, 31] 3 #[.slice (some (sla c (p + 1))) (32 - (p + 1)) (32 - (p + 1)), .slice (some (sla c p)) (n - p) (32 - p)]).run Tryz.prog w.drew = .ok (goInt (n - p : Nat)) (w.drew.setCells c (3 + (p + 1)) ((ts.drop p).map Value.string)) := by
    by_cases h32 : p + 1 = 32
    · have e0 : n - p = 0 := by omega
      have e1 : ts.drop p = [] := List.drop_of_length_le (by omega)
      rw [e0, e1]
      exact run_copy_none (P := Tryz.prog) w.drew 31 31 3 9 _ _ _ _ _ _ Tryz.underlying31 info_str (Nat.zero_min _)
    · rw [show sla c (p + 1) = ⟨c, 3 + (p + 1), none⟩ by unfold sla; rw [if_neg h32], show sla c p = ⟨c, 3 + p, none⟩ by unfold sla; rw [if_neg (by omega)]]
      have h := run_copy_cells (P := Tryz.prog) w.drew 31 31 3 9 c (3 + (p + 1)) (32 - (p + 1)) (32 - (p + 1)) ⟨c, 3 + p, none⟩ (n - p) (32 - p) ((ts.drop p).map Value.string) Tryz.underlying31 info_str (by rw [List.length_map, List.length_drop, hts]; exact (Nat.min_eq_left (by omega)).symm) (fun j v hv => by
        have hj : j < n - p := by have := (List.getElem?_eq_some_iff.1 hv).1; rw [List.length_map, List.length_drop] at this; omega
        rw [show (⟨c, 3 + p, none⟩ : Addr).add j = ⟨c, 3 + (p + j), none⟩ by unfold Addr.add; split <;> simp_all <;> omega]
        rw [List.getElem?_map, List.getElem?_drop, ← ht, List.getElem?_take, if_pos (by omega)] at hv
        rw [List.getElem?_eq_getElem (by rw [hc.1]; omega)] at hv
        have := ct (p + j) _ (List.getElem?_eq_getElem (by rw [hc.1]; omega))
        show w.cell? _ = _
        rw [this]
        simpa using hv) (fun j hj => by
        rw [List.length_map, List.length_drop] at hj
        have := ct (p + 1 + j) _ (List.getElem?_eq_getElem (by rw [hc.1]; omega))
        rw [show 3 + (p + 1) + j = 3 + (p + 1 + j) by omega]
        show (w.cell? _).isSome = true
        rw [this]; rfl) (fun j hj => cf _) (fun v hv => by obtain ⟨x, _, rfl⟩ := List.mem_map.1 hv; rfl)
      rw [List.length_map, List.length_drop, hts] at h
      exact h
  have sA := fun w => sl_from w c (p + 1) ((p : Int) + 1) (by omega) (by omega)
  have sB := fun w => sl_part w c p n hp (by omega)
  have g1 := Cx.setTs (w := w.drew) (ts.drop p) (p + 1) (show Cx w.drew c pv nv n X from hc)
  obtain ⟨w1, hw1⟩ : ∃ x, x = (w.drew.setCells c (3 + (p + 1)) ((ts.drop p).map Value.string)) := ⟨_, rfl⟩
  rw [← hw1] at hcp g1
  have e1 : Ds w1 b f l m k := by rw [hw1]; exact (setCells_other hbc _ _ _).trans hd
  have g2 := g1.setT p s
  have g3 := g2.setN n1
  have e3 : Ds ((w1.setCell ⟨c, 3 + p, none⟩ (.string s)).setCell ⟨c, 2, none⟩ (.int .i64 (n1 : Nat))) b f l m k := (e1.other hbc).other hbc
  obtain ⟨t1, f1⟩ := g1.cells.2.2.2
  have n2 := g2.cells.2.2.1
  have f2 := g2.cells.2.2.2.2
  have m3 := e3.four.2.2.1
  have f3 := e3.four.2.2.2.2
  have e4 := e3.set2 m1
  have k4 := e4.four.2.2.2.1
  have f4 := e4.four.2.2.2.2
  obtain ⟨x1, hx1⟩ : ∃ x, w1.cell? ⟨c, 3 + p, none⟩ = some x := ⟨_, t1 p _ (List.getElem?_eq_getElem (by rw [g1.1]; omega))⟩
  have MC := keep fun w => costof_any w s (by unfold maxLen; omega)
  have fz0 : w1.frozen? ⟨c, 3 + p, none⟩ = false := f1 _
  have fz1 : (w1.setCell ⟨c, 3 + p, none⟩ (.string s)).frozen? ⟨c, 2, none⟩ = false := f2 _
  have fz2 : ((w1.setCell ⟨c, 3 + p, none⟩ (.string s)).setCell ⟨c, 2, none⟩ (.int .i64 (n1 : Nat))).frozen? ⟨b, 2, none⟩ = false := f3 _
  have fz3 := f4 3
  have HW1 := keep hw1
  have p0 : (0 : Int) ≤ (p : Int) := by omega
  have p1 : (p : Int) + 1 ≤ 32 := by omega
  have p2 : (p : Int) ≤ (n : Int) := by omega
  have p3 : (n : Int) ≤ 32 := by omega
  clear hc hd c0 c1 ct cf d0 d1 d2 d3 df hw1 g1 g2 g3 e1 e3 e4 t1 f1 f2 f3 f4 hts ht
  have q1 : (n : Int) + 1 = (n1 : Int) := by omega
  have q2 : (m : Int) + 1 = (m1 : Int) := by omega
  have q3 : (k : Int) + ((16 + s.size : Nat) : Int) = (k1 : Int) := by omega
  have q4 : (k1 : Int) ≤ 3000000000000 := by omega
  obtain ⟨sz, hsz⟩ : ∃ z, z = 16 + s.size := ⟨_, rfl⟩
  rw [← hsz] at q3
  simp only [← hsz] at MC
  have q5 := keep (show IntKind.i64.wrap (k1 : Int) = (k1 : Int) by rw [IntKind.wrap_i64]; omega)
  clear hn1 hm1 hk1 hsz
  generalize 32 - (p + 1) = z1 at sA hcp
  generalize 32 - p = z2 at sB hcp
  generalize n - p = z3 at sB hcp
  generalize sla c (p + 1) = a1 at sA hcp
  generalize sla c p = a2 at sB hcp
  go_enter Tryz.func89, Tryz.ntmps89
  go_wp2_with fail
  go_region
  go_wp2_with fail
  obtain ⟨w2, hw2⟩ : ∃ w2, w2 = (((w1.setCell ⟨c, 3 + p, none⟩ (.string s)).setCell ⟨c, 2, none⟩ (.int .i64 (n1 : Nat))).setCell ⟨b, 2, none⟩ (.int .i64 (m1 : Nat))) := ⟨_, rfl⟩
  rw [← hw2] at k4 fz3
  rw [← hw2]
  have HW2 := keep hw2
  clear hw2
  clear hcp c2 n2 m3 hx1 fz0 fz1 fz2
  go_region_with (first | (go_at_call 143; refine (MC.out _).mono ?_; rintro _ _ ⟨rfl, rfl⟩))
  all_goals
    go_wp2
    go_end0
    exact ⟨rfl, w1, w2, HW1.out, HW2.out, ⟨1, by first | rfl | (rw [q5.out]; rfl)⟩⟩
theorem nd_mem {A B : List Chk} {b c : Nat} {ts : List ByteArray} (h : (b :: (A ++ (c, ts) :: B).map (·.1)).Nodup) : b ≠ c ∧ (∀ x ∈ A, x.1 ≠ c) ∧ (∀ x ∈ B, x.1 ≠ c) ∧ (∀ x ∈ A, x.1 ≠ b) ∧ (∀ x ∈ B, x.1 ≠ b) := by
  rw [List.nodup_cons, List.map_append, List.map_cons] at h
  obtain ⟨h1, h2⟩ := h
  obtain ⟨h3, h4, h5⟩ := List.nodup_append.1 h2
  rw [List.nodup_cons] at h4
  refine ⟨fun e => h1 (by simp [e]), fun x hx e => h5 _ (List.mem_map_of_mem hx) c (by simp) e, fun x hx e => h4.1 (List.mem_map.2 ⟨x, hx, e⟩), fun x hx e => h1 (List.mem_append_left _ (List.mem_map.2 ⟨x, hx, e⟩)), fun x hx e => h1 (List.mem_append_right _ (List.mem_cons_of_mem _ (List.mem_map.2 ⟨x, hx, e⟩)))⟩
/-- a deque one of whose chunks has other texts now -/
theorem dq_change {w w' : World} {b c : Nat} {A B : List Chk} {ts us : List ByteArray} (hd : Dq0 w b (A ++ (c, ts) :: B)) (hc : ∀ pv nv, Ck w c pv nv ts → Ck w' c pv nv us) (hds : ∀ f l, Ds w b f l (row (A ++ (c, ts) :: B)).length (costL (row (A ++ (c, ts) :: B))) → Ds w' b f l (row (A ++ (c, us) :: B)).length (costL (row (A ++ (c, us) :: B))))
    (hz : ∀ t ∈ us, t.size ≤ 1048576) (hl : (row (A ++ (c, us) :: B)).length ≤ 1048576) (hw : (w'.os = w.os ∧ w'.tape = w.tape ∧ w'.output = w.output) ∧ w'.heap.size = w.heap.size) (hk : ∀ k, k ≠ b → k ≠ c → w'.heap[k]? = w.heap[k]?) :
    Dq0 w' b (A ++ (c, us) :: B) ∧ Fd b (A ++ (c, ts) :: B) w w' (A ++ (c, us) :: B) := by
  obtain ⟨d1, d2, d3, d4, d5⟩ := hd
  obtain ⟨n1, n2, n3, n4, n5⟩ := nd_mem d3
  obtain ⟨cA, cC⟩ := ch_app.1 d2
  have e1 : hdv (A ++ (c, us) :: B) nul = hdv (A ++ (c, ts) :: B) nul := by cases A <;> rfl
  have e2 : ltv (A ++ (c, us) :: B) nul = ltv (A ++ (c, ts) :: B) nul := by rw [ltv_app, ltv_app]; rfl
  have em : (A ++ (c, us) :: B).map (·.1) = (A ++ (c, ts) :: B).map (·.1) := by simp
  refine ⟨⟨?_, ch_app.2 ⟨?_, hc _ _ cC.1, ?_⟩, by rw [em]; exact d3, fun t ht => ?_, hl⟩, ⟨⟨hw.1, Nat.le_of_eq hw.2.symm, fun k hk' hn => hk k (fun e => hn (.inl e)) (fun e => hn (.inr ⟨(c, ts), by simp, e.symm⟩))⟩, fun k hk' => ?_⟩⟩
  · rw [e1, e2]; exact hds _ _ d1
  · exact cA.kept (fun x hx => hk _ (n4 x hx) (n2 x hx))
  · exact cC.2.kept (fun x hx => hk _ (n5 x hx) (n3 x hx))
  · rw [row_app, row_cons] at ht
    rw [row_app, row_cons] at d4
    rcases List.mem_append.1 ht with h | h
    · exact d4 t (List.mem_append_left _ h)
    · rcases List.mem_append.1 h with h | h
      · exact hz t h
      · exact d4 t (List.mem_append_right _ (List.mem_append_right _ h))
  · left
    rcases hk' with e | ⟨q, hq, e⟩
    · exact .inl e
    · rcases List.mem_append.1 hq with hq | hq
      · exact .inr ⟨q, by simp [hq], e⟩
      · rcases List.mem_cons.1 hq with rfl | hq
        · exact .inr ⟨(c, ts), by simp, e⟩
        · exact .inr ⟨q, by simp [hq], e⟩
/-- put -/
theorem put_any (w : World) (b c : Nat) (A B : List Chk) (ts : List ByteArray) (p : Nat) (s : ByteArray) (hd : Dq0 w b (A ++ (c, ts) :: B)) (hp : p ≤ ts.length) (hn : ts.length < 32) (hm : (row (A ++ (c, ts) :: B)).length < 1048576) (hs : s.size ≤ 1048576) :
    Calls Tryz.prog 89 #[ptr b, ptr c, .int .i64 p, .string s] w fun e w' => e = .returned (.tuple #[]) ∧ Dq0 w' b (A ++ (c, ts.take p ++ s :: ts.drop p) :: B) ∧ Fd b (A ++ (c, ts) :: B) w w' (A ++ (c, ts.take p ++ s :: ts.drop p) :: B) := by
  obtain ⟨d1, d2, d3, d4, d5⟩ := id hd
  obtain ⟨n1, n2, n3, n4, n5⟩ := nd_mem d3
  obtain ⟨cA, cC⟩ := ch_app.1 d2
  obtain ⟨X, hX, ht⟩ := cC.1.cx
  have hcl := costL_le d4
  have hrl : (row (A ++ (c, ts.take p ++ s :: ts.drop p) :: B)).length = (row (A ++ (c, ts) :: B)).length + 1 := by
    simp only [row_app, row_cons, List.length_append, List.length_cons, List.length_take, List.length_drop]; omega
  have hrc : costL (row (A ++ (c, ts.take p ++ s :: ts.drop p) :: B)) = costL (row (A ++ (c, ts) :: B)) + (16 + s.size) := by
    have : costL ts = costL (ts.take p) + costL (ts.drop p) := by rw [← costL_app, List.take_append_drop]
    simp only [row_app, row_cons, costL_app, costL_cons]; omega
  obtain ⟨m, hmm⟩ : ∃ m, m = (row (A ++ (c, ts) :: B)).length := ⟨_, rfl⟩
  obtain ⟨k, hkk⟩ : ∃ k, k = costL (row (A ++ (c, ts) :: B)) := ⟨_, rfl⟩
  rw [← hmm] at d1 hm hrl hcl d5
  rw [← hkk] at d1 hrc hcl
  obtain ⟨m1, hm1⟩ : ∃ x, x = m + 1 := ⟨_, rfl⟩
  obtain ⟨k1, hk1⟩ : ∃ x, x = k + (16 + s.size) := ⟨_, rfl⟩
  obtain ⟨n1', hn1'⟩ : ∃ x, x = ts.length + 1 := ⟨_, rfl⟩
  rw [← hm1] at hrl
  rw [← hk1] at hrc
  refine (put_walk w b c _ _ _ _ ts.length m k X p s ts hX d1 n1 hp hn hm (by omega) hs rfl ht n1' m1 k1 hn1' hm1 hk1).mono ?_
  rintro _ w' ⟨rfl, w1, w2, hw1, hw2, q, rfl⟩
  refine ⟨rfl, dq_change hd (fun pv nv hck => ?_) (fun f l hds => ?_) (fun t h => ?_) (by omega) ?_ (fun k hkb hkc => ?_)⟩
  · obtain ⟨X', hx', ht'⟩ := hck.cx
    have g3 := ((Cx.setTs (w := w.drew) (ts.drop p) (p + 1) hx').setT p s).setN n1'
    rw [← hw1] at g3
    refine Cx.ck (n := n1') (X := (layS X' (p + 1) (ts.drop p)).set p s) ⟨g3.1, ?_⟩ (by omega) (by rw [hn1']; exact put_list hx'.1 ht' hp hn)
    show (w2.setCell ⟨b, 3, none⟩ _).heap[c]? = _
    rw [hw2, Below.heap_setCell _ _ _ _ n1.symm, Below.heap_setCell _ _ _ _ n1.symm]
    exact g3.2
  · rw [hrl, hrc]
    rw [← hmm, ← hkk] at hds
    have h1 : Ds w1 b f l m k := by rw [hw1]; exact (setCells_other n1 _ _ _).trans hds
    have h2 : Ds w2 b f l m1 k := by rw [hw2]; exact ((h1.other n1).other n1).set2 m1
    exact h2.set3 k1
  · have h4 : ∀ t ∈ ts, t.size ≤ 1048576 := fun t ht => d4 t (by rw [row_app, row_cons]; simp [ht])
    rcases List.mem_append.1 h with h | h
    · exact h4 t (List.mem_of_mem_take h)
    · rcases List.mem_cons.1 h with rfl | h
      · exact hs
      · exact h4 t (List.mem_of_mem_drop h)
  · obtain ⟨a1, a2, a3, a4⟩ := setCells_same ((ts.drop p).map Value.string) (3 + (p + 1)) w.drew c
    rw [← hw1] at a1 a2 a3 a4
    refine ⟨⟨?_, ?_, ?_⟩, ?_⟩
    · show w2.os = _; rw [hw2]; exact a2
    · show w2.tape = _; rw [hw2]; exact a3
    · show w2.output = _; rw [hw2]; exact a4
    · show (w2.setCell _ _).heap.size = _
      rw [set_size, hw2, set_size, set_size, set_size]
      exact a1
  · show (w2.setCell _ _).heap[k]? = _
    rw [Below.heap_setCell _ _ _ _ hkb, hw2, Below.heap_setCell _ _ _ _ hkb, Below.heap_setCell _ _ _ _ hkc, Below.heap_setCell _ _ _ _ hkc, hw1]
    exact setCells_other hkc _ _ _
end Go.Proofs.YtijclcedjgniaaaGreat.DQ
