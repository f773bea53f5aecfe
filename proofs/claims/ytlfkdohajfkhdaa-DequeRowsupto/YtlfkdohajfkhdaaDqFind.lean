/-
  Contracts over this program: find, the chunk and the place of a text.
-/
import Derived.Test.YtlfkdohajfkhdaaDqFall
namespace Go.Proofs.Ytlfkdohajfkhdaa
open Go.RowKit
set_option linter.unusedVariables false
theorem rising_any (w : World) (b : Nat) : Calls Try.prog 33 #[ptr b] w fun e w' => e = .returned (.func (.func 56) #[] #[.pointer (some ⟨w.heap.size, 0, none⟩)]) ∧ w' = w.alloc (.cells #[ptr b] 23) := by
  go_enter Try.func33, Try.ntmps33
  go_wp2
  go_ret
  exact ⟨rfl, rfl⟩
theorem falling_any (w : World) (b : Nat) : Calls Try.prog 55 #[ptr b] w fun e w' => e = .returned (.func (.func 62) #[] #[.pointer (some ⟨w.heap.size, 0, none⟩)]) ∧ w' = w.alloc (.cells #[ptr b] 23) := by
  go_enter Try.func55, Try.ntmps55
  go_wp2
  go_ret
  exact ⟨rfl, rfl⟩
/-- where a text stands -/
structure At (cs : List Chk) (i : Nat) (A : List Chk) (c : Nat) (ts : List ByteArray) (B : List Chk) : Prop where
  is : cs = A ++ (c, ts) :: B
  lo : (row A).length ≤ i
  hi : i < (row A).length + ts.length
/-- what the caller holds while the chunks come; Bi, Bc, Bp, Bd: the boxes of the place, of the answers, of the deque -/
def FiI (w : World) (Bi b i : Nat) (P : Nat → Prop) (M : Nat → Prop) (m : Nat) (W1 : World) : Prop :=
  (¬ M Bi ∧ W1.heap[Bi]? = some (.cells #[.int .i64 (i : Nat)] 3 (0, 0))) ∧ (¬ M (Bi + 1) ∧ W1.heap[Bi + 1]? = some (.cells #[nul] 60 (0, 0))) ∧ (¬ M (Bi + 2) ∧ W1.heap[Bi + 2]? = some (.cells #[.int .i64 0] 3 (0, 0))) ∧
    (¬ M (Bi + 3) ∧ W1.heap[Bi + 3]? = some (.cells #[ptr b] 23 (0, 0))) ∧ Below w.heap.size w W1 ∧ (∀ k, M k → w.heap.size ≤ k) ∧ P m
def FiX (w : World) (Bi i : Nat) (cs : List Chk) (M : Nat → Prop) (W1 : World) : Prop :=
  ∃ A c ts B, At cs i A c ts B ∧ (¬ M (Bi + 1) ∧ W1.heap[Bi + 1]? = some (.cells #[ptr c] 60 (0, 0))) ∧ (¬ M (Bi + 2) ∧ W1.heap[Bi + 2]? = some (.cells #[.int .i64 (i - (row A).length : Nat)] 3 (0, 0))) ∧ Below w.heap.size w W1 ∧ (∀ k, M k → w.heap.size ≤ k)
theorem keepB {M M' : Nat → Prop} {A B : World} (hs : Sep M A B) (hx : Ext M M' A B) (k : Nat) (o : Obj) (hn : ¬ M k) (ho : A.heap[k]? = some o) : ¬ M' k ∧ B.heap[k]? = some o := by
  have hl := (Array.getElem?_eq_some_iff.1 ho).1
  exact ⟨hx.lt hl hn, (hs.2.2 k hl hn).trans ho⟩
theorem FiI.abd {w : World} {Bi b i : Nat} {P : Nat → Prop} : Abd (FiI w Bi b i P) := by
  rintro M M' m A B ⟨⟨h1, h1'⟩, ⟨h2, h2'⟩, ⟨h3, h3'⟩, ⟨h4, h4'⟩, h5, h6, h7⟩ hs hx
  exact ⟨keepB hs hx _ _ h1 h1', keepB hs hx _ _ h2 h2', keepB hs hx _ _ h3 h3', keepB hs hx _ _ h4 h4', h5.trans (hs.below h5.size h6), hx.ge h5.size h6, h7⟩
theorem FiX.abd {w : World} {Bi i : Nat} {cs : List Chk} : Abd (fun M (_ : Nat) => FiX w Bi i cs M) := by
  rintro M M' m A B ⟨A1, c, ts, B1, h0, ⟨h1, h1'⟩, ⟨h2, h2'⟩, h5, h6⟩ hs hx
  exact ⟨A1, c, ts, B1, h0, keepB hs hx _ _ h1 h1', keepB hs hx _ _ h2 h2', h5.trans (hs.below h5.size h6), hx.ge h5.size h6⟩
theorem riL_get {cs : List Chk} {m : Nat} {x : Nat × Nat} (h : (riL 0 cs)[m]? = some x) : ∃ A c ts B, cs = A ++ (c, ts) :: B ∧ A.length = m ∧ x = ((row A).length, c) := by
  have hl := (List.getElem?_eq_some_iff.1 h).1
  rw [riL_len] at hl
  have e : cs = cs.take m ++ (cs[m].1, cs[m].2) :: cs.drop (m + 1) := by
    conv => lhs; rw [← List.take_append_drop m cs]
    rw [List.drop_eq_getElem_cons hl]
  refine ⟨_, _, _, _, e, by rw [List.length_take]; omega, ?_⟩
  have := riL_at (cs.take m) 0 cs[m].1 cs[m].2 (cs.drop (m + 1))
  rw [← e, List.length_take, Nat.min_eq_left (by omega), h, Nat.zero_add] at this
  exact Option.some.inj this
theorem rd_rise {w : World} {Bi b i : Nat} {P : Nat → Prop} {cs : List Chk} (hd : Dq w b cs) (M : Nat → Prop) (m : Nat) (W1 : World) (h : FiI w Bi b i P M m W1) : RdR (Bi + 3) b cs m W1 := by
  obtain ⟨_, _, _, ⟨_, h4⟩, h5, _⟩ := h
  have hd1 := hd.below h5
  refine ⟨by rw [cell_of_row _ _ _ _ _ _ h4]; rfl, fun _ => hd1.1.1.four.1, fun A c ts B e _ => ?_⟩
  subst e
  have := (ch_app.1 hd1.1.2.1).2.1.cells
  exact ⟨this.2.1, this.2.2.1⟩
theorem rd_fall {w : World} {Bi b i : Nat} {P : Nat → Prop} {cs : List Chk} (hd : Dq w b cs) (M : Nat → Prop) (m : Nat) (W1 : World) (h : FiI w Bi b i P M m W1) : RdF (Bi + 3) b cs m W1 := by
  obtain ⟨_, _, _, ⟨_, h4⟩, h5, _⟩ := h
  have hd1 := hd.below h5
  refine ⟨by rw [cell_of_row _ _ _ _ _ _ h4]; rfl, fun _ => ⟨hd1.1.1.four.2.1, hd1.1.1.four.2.2.1⟩, fun A c ts B e _ => ?_⟩
  subst e
  have := (ch_app.1 hd1.1.2.1).2.1.cells
  exact ⟨this.1, this.2.2.1⟩
end Go.Proofs.Ytlfkdohajfkhdaa
