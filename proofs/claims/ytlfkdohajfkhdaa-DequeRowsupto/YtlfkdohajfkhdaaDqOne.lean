/-
  One deque as a row of texts: what its calls do.
-/
import Derived.Test.YtlfkdohajfkhdaaDqTwo
import Derived.Laws.OwnMore
import Derived.Laws.IdiomStrings
namespace Go.Proofs.Ytlfkdohajfkhdaa
open Go.RowKit
set_option linter.unusedVariables false
/-- a text is put: what the row is then -/
theorem ins_row {cs cs' : List Chk} {i : Nat} {A : List Chk} {c : Nat} {ts : List ByteArray} {B : List Chk} {p : Nat} {s : ByteArray} (h : Home cs i A c ts B p) (ht : tx cs' = tx A ++ insL p s ts ++ tx B) : row cs' = (row cs).take i ++ s :: (row cs).drop i := by
  rw [row_tx cs', ht, List.flatten_append, List.flatten_append, insL_flat, ← row_tx, ← row_tx]
  have hi := h.at'
  have hl := h.le
  rcases h.is with rfl | ⟨rfl, rfl, rfl, rfl⟩
  · rw [row_app, row_cons, hi, List.take_length_add_append, List.drop_length_add_append, List.take_append_of_le_length hl, List.drop_append_of_le_length hl]
    simp
  · simp [row]
/-- the deque b has the texts l; it does not reach below W -/
def On (W : World) (b : Nat) (l : List ByteArray) (w : World) : Prop :=
  ∃ cs, Dq w b cs ∧ row cs = l ∧ (∀ k, OwD b cs k → W.heap.size ≤ k) ∧ Below W.heap.size W w
theorem On.step {W : World} {b : Nat} {l' : List ByteArray} {w w' : World} {cs cs' : List Chk} (h3 : ∀ k, OwD b cs k → W.heap.size ≤ k) (h4 : Below W.heap.size W w) (g1 : Dq w' b cs') (g2 : Fd b cs w w' cs') (g3 : row cs' = l') : On W b l' w' := by
  have hz := h4.size
  refine ⟨cs', g1, g3, fun k hk => ?_, h4.trans (g2.below hz fun k hk e => ?_)⟩
  · rcases g2.2 k hk with e | e
    · exact h3 k e
    · omega
  · have := h3 k e; omega
theorem On.below {W : World} {b : Nat} {l : List ByteArray} {w w' : World} (h : On W b l w) (hb : Below w.heap.size w w') : On W b l w' := by
  obtain ⟨cs, h1, h2, h3, h4⟩ := h
  exact On.step h3 h4 (h1.below hb) (Fd.of_below hb) h2
theorem On.base {W : World} {b : Nat} {l : List ByteArray} {w : World} (h : On W b l w) : Below W.heap.size W w := by
  obtain ⟨cs, h⟩ := h
  exact h.2.2.2
theorem on_new {W w1 w2 : World} (h1 : Below W.heap.size W w1) (d2 : Dq w2 w1.heap.size []) (b2 : Below w1.heap.size w1 w2) : On W w1.heap.size [] w2 := by
  have hz := h1.size
  refine ⟨[], d2, rfl, ?_, h1.trans (b2.mono hz)⟩
  rintro k (e | ⟨x, hx, _⟩)
  · omega
  · cases hx
theorem on_push {W : World} {b : Nat} {l : List ByteArray} {w : World} (h : On W b l w) (a : Bool) (s : ByteArray) (hs : s.size ≤ 1048576) (hn : l.length < 1048576) :
    Calls Try.prog 18 #[ptr b, .bool a, .string s] w fun e w' => e = .returned (.int .i64 0) ∧ On W b (if a then s :: l else l ++ [s]) w' := by
  obtain ⟨cs, h1, h2, h3, h4⟩ := h
  refine (push_rv w b cs a (rv a l) s h1 (by rw [h2]; cases a <;> simp [rv]) hs (by rw [rv_len]; exact hn)).mono ?_
  rintro _ w' ⟨rfl, cs', g1, g2, g3⟩
  exact ⟨rfl, On.step h3 h4 g1 g2 (by rw [g3]; cases a <;> simp [rv])⟩
theorem on_push_no {W : World} {b : Nat} {l : List ByteArray} {w : World} (h : On W b l w) (a : Bool) (s : ByteArray) (hs : s.size ≤ maxLen) {c : Int} (hc : refC l.length s = c) (h0 : c ≠ 0) :
    Calls Try.prog 18 #[ptr b, .bool a, .string s] w fun e w' => e = .returned (.int .i64 c) ∧ w' = w := by
  obtain ⟨cs, h1, rfl, h3, h4⟩ := h
  subst hc
  exact push_no w b cs a s h1 hs h0
theorem on_pop {W : World} {b : Nat} {l : List ByteArray} {w : World} {f : Bool} {s : ByteArray} (h : On W b (if f then s :: l else l ++ [s]) w) :
    Calls Try.prog 20 #[ptr b, .bool f] w fun e w' => e = .returned (.tuple #[.string s, .bool true]) ∧ On W b l w' := by
  obtain ⟨cs, h1, h2, h3, h4⟩ := h
  refine (popx w b cs f l s h1 h2).mono ?_
  rintro _ w' ⟨rfl, cs', g1, g2, g3⟩
  exact ⟨rfl, On.step h3 h4 g1 g2 g3⟩
theorem on_pop_no {W : World} {b : Nat} {w : World} (h : On W b [] w) (f : Bool) :
    Calls Try.prog 20 #[ptr b, .bool f] w fun e w' => e = .returned (.tuple #[.string .empty, .bool false]) ∧ On W b [] w' := by
  have h0 := h
  obtain ⟨cs, h1, h2, h3, h4⟩ := h
  have hl := len_out w b cs h1
  rw [h2] at hl
  refine (pop_out w (ptr b) f hl).mono ?_
  rintro _ w' ⟨rfl, hb⟩
  exact ⟨rfl, h0.below hb⟩
theorem on_ins {W : World} {b : Nat} {l : List ByteArray} {w : World} (h : On W b l w) (i : Nat) (s : ByteArray) (hi : i ≤ l.length) (hs : s.size ≤ 1048576) (hn : l.length < 1048576) :
    Calls Try.prog 21 #[ptr b, .int .i64 i, .string s] w fun e w' => e = .returned (.int .i64 0) ∧ On W b (l.take i ++ s :: l.drop i) w' := by
  obtain ⟨cs, h1, rfl, h3, h4⟩ := h
  refine (insert_in w b cs i s h1 hi hs hn).mono ?_
  rintro _ w' ⟨rfl, A, c, ts, B, p, cs', hh, g1, g2, g3⟩
  exact ⟨rfl, On.step h3 h4 g1 g2 (ins_row hh g3)⟩
theorem on_ins_no {W : World} {b : Nat} {l : List ByteArray} {w : World} (h : On W b l w) (i : Nat) (s : ByteArray) (hi : i ≤ l.length) (hs : s.size ≤ maxLen) {c : Int} (hc : refC l.length s = c) (h0 : c ≠ 0) :
    Calls Try.prog 21 #[ptr b, .int .i64 i, .string s] w fun e w' => e = .returned (.int .i64 c) ∧ w' = w := by
  obtain ⟨cs, h1, rfl, h3, h4⟩ := h
  subst hc
  exact insert_no w b cs i s h1 hi hs h0
theorem on_ins_out {W : World} {b : Nat} {l : List ByteArray} {w : World} (h : On W b l w) (i : Int) (s : ByteArray) (hi : i < 0 ∨ (l.length : Int) < i) :
    Calls Try.prog 21 #[ptr b, .int .i64 i, .string s] w fun e w' => e = .returned (.int .i64 3) ∧ w' = w := by
  obtain ⟨cs, h1, rfl, h3, h4⟩ := h
  exact insert_out w b cs i s h1 hi
theorem on_rem {W : World} {b : Nat} {l : List ByteArray} {w : World} (h : On W b l w) (i : Nat) (hi : i < l.length) :
    Calls Try.prog 22 #[ptr b, .int .i64 i] w fun e w' => e = .returned (.bool true) ∧ On W b (l.take i ++ l.drop (i + 1)) w' := by
  obtain ⟨cs, h1, rfl, h3, h4⟩ := h
  refine (remove_in w b cs i h1 hi).mono ?_
  rintro _ w' ⟨rfl, cs', g0, g1, g2⟩
  exact ⟨rfl, On.step h3 h4 g1 g2 g0.rows⟩
theorem on_len {W : World} {b : Nat} {l : List ByteArray} {w : World} (h : On W b l w) :
    Calls Try.prog 24 #[ptr b] w fun e w' => e = .returned (.int .i64 (l.length : Nat)) ∧ w' = w := by
  obtain ⟨cs, h1, rfl, h3, h4⟩ := h
  exact len_any w b _ _ _ _ h1.1.1
theorem on_cost {W : World} {b : Nat} {l : List ByteArray} {w : World} (h : On W b l w) :
    Calls Try.prog 30 #[ptr b] w fun e w' => e = .returned (.int .i64 (costL l : Nat)) ∧ w' = w := by
  obtain ⟨cs, h1, rfl, h3, h4⟩ := h
  exact cost_any w b _ _ _ _ h1.1.1
theorem costL_rep (n : Nat) : costL (List.replicate n .empty) = 16 * n := by
  induction n with
  | zero => rfl
  | succ n ih => rw [List.replicate_succ, costL_cons, ih]; show 16 + 0 + 16 * n = _; omega
end Go.Proofs.Ytlfkdohajfkhdaa
