/-
  A deque beside a row of texts: what its calls do, and the law's put.
-/
import Derived.Test.YtlfkdohajfkhdaaDqPutl
import Derived.Test.YtlfkdohajfkhdaaDqKnow0
import Derived.Test.YtlfkdohajfkhdaaDqEven
namespace Go.Proofs.Ytlfkdohajfkhdaa
open Go.RowKit
set_option linter.unusedVariables false
theorem Ro.base {W : World} {b : Nat} {v : Value} {l l' : List ByteArray} {w : World} (h : Ro W b v l l' w) : Below W.heap.size W w := by obtain ⟨cs, h⟩ := h; exact h.2.2
theorem Ro.ks {W : World} {b : Nat} {v : Value} {l l' : List ByteArray} {w : World} (h : Ro W b v l l' w) : Ks W.heap.size w v l := by obtain ⟨cs, h⟩ := h; exact h.2.1.1
theorem Ro.few {W : World} {b : Nat} {v : Value} {l l' : List ByteArray} {w : World} (h : Ro W b v l l' w) : l'.length ≤ 1048576 := by obtain ⟨cs, h⟩ := h; rw [← h.1.2.1]; exact h.1.1.1.2.2.2.2
theorem ro_new {W w1 w2 : World} (h1 : Below W.heap.size W w1) (d2 : Dq w2 w1.heap.size []) (b2 : Below w1.heap.size w1 w2) : Ro W w1.heap.size (.slice none 0 0) [] [] w2 := by
  have hz := h1.size
  refine ⟨[], ⟨d2, rfl, ?_⟩, ⟨ks_nil _ _, fun k hk => by cases hk⟩, h1.trans (b2.mono hz)⟩
  rintro k (e | ⟨x, hx, _⟩)
  · omega
  · cases hx
theorem ro_push {W : World} {b : Nat} {v : Value} {l l' : List ByteArray} {w : World} (h : Ro W b v l l' w) (a : Bool) (s : ByteArray) (hs : s.size ≤ 1048576) (hn : l'.length < 1048576) :
    Calls Try.prog 18 #[ptr b, .bool a, .string s] w fun e w' => e = .returned (.int .i64 0) ∧ Ro W b v l (if a then s :: l' else l' ++ [s]) w' := by
  obtain ⟨cs, h⟩ := h
  refine (push_rv w b cs a (rv a l') s h.1.1 (by rw [h.1.2.1]; cases a <;> simp [rv]) hs (by rw [rv_len]; exact hn)).mono ?_
  rintro _ w' ⟨rfl, cs', g1, g2, g3⟩
  exact ⟨rfl, Ro.step h g1 g2 (by rw [g3]; cases a <;> simp [rv])⟩
theorem ro_pop {W : World} {b : Nat} {v : Value} {l l' : List ByteArray} {w : World} {f : Bool} {s : ByteArray} (h : Ro W b v l (if f then s :: l' else l' ++ [s]) w) :
    Calls Try.prog 20 #[ptr b, .bool f] w fun e w' => e = .returned (.tuple #[.string s, .bool true]) ∧ Ro W b v l l' w' := by
  obtain ⟨cs, h⟩ := h
  refine (popx w b cs f l' s h.1.1 h.1.2.1).mono ?_
  rintro _ w' ⟨rfl, cs', g1, g2, g3⟩
  exact ⟨rfl, Ro.step h g1 g2 g3⟩
theorem ro_pop_no {W : World} {b : Nat} {v : Value} {l : List ByteArray} {w : World} (h : Ro W b v l [] w) (f : Bool) :
    Calls Try.prog 20 #[ptr b, .bool f] w fun e w' => e = .returned (.tuple #[.string .empty, .bool false]) ∧ Ro W b v l [] w' := by
  have h0 := h
  obtain ⟨cs, h⟩ := h
  have hl := len_out w b cs h.1.1
  rw [h.1.2.1] at hl
  refine (pop_out w (ptr b) f hl).mono ?_
  rintro _ w' ⟨rfl, hb⟩
  exact ⟨rfl, h0.below hb⟩
theorem ro_ins {W : World} {b : Nat} {v : Value} {l l' : List ByteArray} {w : World} (h : Ro W b v l l' w) (i : Nat) (s : ByteArray) (hi : i ≤ l'.length) (hs : s.size ≤ 1048576) (hn : l'.length < 1048576) :
    Calls Try.prog 21 #[ptr b, .int .i64 i, .string s] w fun e w' => e = .returned (.int .i64 0) ∧ Ro W b v l (l'.take i ++ s :: l'.drop i) w' := by
  obtain ⟨cs, h⟩ := h
  have hr := h.1.2.1
  subst hr
  refine (insert_in w b cs i s h.1.1 hi hs hn).mono ?_
  rintro _ w' ⟨rfl, A, c, ts, B, p, cs', hh, g1, g2, g3⟩
  exact ⟨rfl, Ro.step h g1 g2 (ins_row hh g3)⟩
theorem ro_ins_out {W : World} {b : Nat} {v : Value} {l l' : List ByteArray} {w : World} (h : Ro W b v l l' w) (i : Int) (s : ByteArray) (hi : i < 0 ∨ (l'.length : Int) < i) :
    Calls Try.prog 21 #[ptr b, .int .i64 i, .string s] w fun e w' => e = .returned (.int .i64 3) ∧ w' = w := by
  obtain ⟨cs, h⟩ := h
  have hr := h.1.2.1
  subst hr
  exact insert_out w b cs i s h.1.1 hi
theorem ro_rem {W : World} {b : Nat} {v : Value} {l l' : List ByteArray} {w : World} (h : Ro W b v l l' w) (i : Nat) (hi : i < l'.length) :
    Calls Try.prog 22 #[ptr b, .int .i64 i] w fun e w' => e = .returned (.bool true) ∧ Ro W b v l (l'.take i ++ l'.drop (i + 1)) w' := by
  obtain ⟨cs, h⟩ := h
  have hr := h.1.2.1
  subst hr
  refine (remove_in w b cs i h.1.1 hi).mono ?_
  rintro _ w' ⟨rfl, cs', g0, g1, g2⟩
  exact ⟨rfl, Ro.step h g1 g2 g0.rows⟩
theorem ro_rem_no {W : World} {b : Nat} {v : Value} {l l' : List ByteArray} {w : World} (h : Ro W b v l l' w) (i : Int) (hi : i < 0 ∨ (l'.length : Int) ≤ i) :
    Calls Try.prog 22 #[ptr b, .int .i64 i] w fun e w' => e = .returned (.bool false) ∧ Ro W b v l l' w' := by
  have h0 := h
  obtain ⟨cs, h⟩ := h
  have hl := len_out w b cs h.1.1
  rw [h.1.2.1] at hl
  refine (remove_out w (ptr b) l'.length i h0.few hl hi).mono ?_
  rintro _ w' ⟨rfl, hb⟩
  exact ⟨rfl, h0.below hb⟩
theorem ro_trim {W : World} {b : Nat} {v : Value} {l l' : List ByteArray} {w : World} (h : Ro W b v l l' w) (f t : Int) :
    Calls Try.prog 23 #[ptr b, .int .i64 f, .int .i64 t] w fun e w' => e = .returned (.tuple #[]) ∧ Ro W b v l ((l'.take t.toNat).drop f.toNat) w' := by
  obtain ⟨cs, h⟩ := h
  refine (trim_any w b cs f t h.1.1).mono ?_
  rintro _ w' ⟨rfl, cs', g1, g2, g3⟩
  refine ⟨rfl, Ro.step h g1 g2 ?_⟩
  rw [row_tx, g3, trimC, dropC_flat, takeC_flat, ← row_tx, h.1.2.1]
theorem ro_len {W : World} {b : Nat} {v : Value} {l l' : List ByteArray} {w : World} (h : Ro W b v l l' w) :
    Calls Try.prog 24 #[ptr b] w fun e w' => e = .returned (.int .i64 (l'.length : Nat)) ∧ w' = w := by
  obtain ⟨cs, h⟩ := h
  have hr := h.1.2.1
  subst hr
  exact len_any w b _ _ _ _ h.1.1.1.1
theorem ro_put {W : World} {b : Nat} {v : Value} {l l' : List ByteArray} {w : World} (h : Ro W b v l l' w) (i : Nat) (s : ByteArray) (hi : i ≤ l.length) (hl : l.length ≤ 1048576) :
    Calls Try.prog 19 #[v, .int .i64 i, .string s] w fun e w' => ∃ ao cp, e = .returned (.slice ao (l.length + 1) cp) ∧ Ro W b (.slice ao (l.length + 1) cp) (l.take i ++ s :: l.drop i) l' w' := by
  refine (putl w _ v l h.ks i hi hl s).mono ?_
  rintro _ w' ⟨⟨v', rfl, hk⟩, hb⟩
  obtain ⟨ao, cp, e⟩ := ks_len hk
  have hn : (l.take i ++ s :: l.drop i).length = l.length + 1 := by
    simp only [List.length_append, List.length_cons, List.length_take, List.length_drop]
    omega
  rw [hn] at e
  subst e
  exact ⟨ao, cp, rfl, h.row hk hb⟩
theorem ro_at {W : World} {b : Nat} {v : Value} {l l' : List ByteArray} {w : World} (h : Ro W b v l l' w) (i : Nat) (s : ByteArray) (hs : l'[i]? = some s) :
    Calls Try.prog 28 #[ptr b, .int .i64 i] w fun e w' => e = .returned (.tuple #[.string s, .bool true]) ∧ Ro W b v l l' w' := by
  have h0 := h
  obtain ⟨cs, h⟩ := h
  refine (at_in w b cs i h.1.1 s (by rw [h.1.2.1]; exact hs)).mono ?_
  rintro _ w' ⟨rfl, hb⟩
  exact ⟨rfl, h0.below hb⟩
theorem ro_at_no {W : World} {b : Nat} {v : Value} {l l' : List ByteArray} {w : World} (h : Ro W b v l l' w) (i : Int) (hi : i < 0 ∨ (l'.length : Int) ≤ i) :
    Calls Try.prog 28 #[ptr b, .int .i64 i] w fun e w' => e = .returned (.tuple #[.string .empty, .bool false]) ∧ Ro W b v l l' w' := by
  have h0 := h
  obtain ⟨cs, h⟩ := h
  have hl := len_out w b cs h.1.1
  rw [h.1.2.1] at hl
  refine (at_out w (ptr b) l'.length i h0.few hl hi).mono ?_
  rintro _ w' ⟨rfl, hb⟩
  exact ⟨rfl, h0.below hb⟩
theorem ro_even {W : World} {b : Nat} {v : Value} {l : List ByteArray} {w : World} (h : Ro W b v l l w) :
    Calls Try.prog 27 #[ptr b, v] w fun e w' => e = .returned (.bool true) ∧ Ro W b v l l w' := by
  have h0 := h
  obtain ⟨cs, h⟩ := h
  refine (even_any w b cs h.1.1 W.heap.size v (by rw [h.1.2.1]; exact h.2.1.1)).mono ?_
  rintro _ w' ⟨rfl, hb⟩
  exact ⟨rfl, h0.below hb⟩
theorem ro_row {W : World} {b : Nat} {v : Value} {l l' : List ByteArray} {w : World} (h : Ro W b v l l' w) :
    Calls Try.prog 25 #[ptr b] w fun e w' => (∃ u, e = .returned (.tuple #[u, .bool true]) ∧ Ks w.heap.size w' u l') ∧ Ro W b v l l' w' := by
  have h0 := h
  obtain ⟨cs, h⟩ := h
  have hr := h.1.2.1
  subst hr
  refine (row_any w b cs h.1.1).mono ?_
  rintro _ w' ⟨⟨u, rfl, hu⟩, hb⟩
  exact ⟨⟨u, rfl, hu⟩, h0.below hb⟩
end Go.Proofs.Ytlfkdohajfkhdaa
