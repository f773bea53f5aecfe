/-
  Two deques and a row of texts beside them: what Push and Pop of either do.
-/
import Derived.Test.YtlfkdohajfkhdaaDqWakes
namespace Go.Proofs.Ytlfkdohajfkhdaa
open Go.RowKit
set_option linter.unusedVariables false
def rv (a : Bool) (l : List ByteArray) : List ByteArray := if a then l.reverse else l
theorem rv_len (a : Bool) (l : List ByteArray) : (rv a l).length = l.length := by cases a <;> simp [rv]
theorem push_rv (w : World) (b : Nat) (cs : List Chk) (a : Bool) (xs : List ByteArray) (s : ByteArray) (hd : Dq w b cs) (hr : row cs = rv a xs) (hs : s.size ≤ 1048576) (hn : xs.length < 1048576) :
    Calls Try.prog 18 #[ptr b, .bool a, .string s] w fun e w' => e = .returned (.int .i64 0) ∧ ∃ cs', Dq w' b cs' ∧ Fd b cs w w' cs' ∧ row cs' = rv a (xs ++ [s]) := by
  have hl : (row cs).length < 1048576 := by rw [hr, rv_len]; exact hn
  cases a with
  | true =>
    refine (push_ahead w b cs s hd hs hl).mono ?_
    rintro _ w' ⟨rfl, cs', h1, h2, h3⟩
    refine ⟨rfl, cs', h1, h2, ?_⟩
    rw [row_tx, h3, pushF_flat, ← row_tx, hr]
    simp [rv]
  | false =>
    refine (push_behind w b cs s hd hs hl).mono ?_
    rintro _ w' ⟨rfl, cs', h1, h2, h3⟩
    refine ⟨rfl, cs', h1, h2, ?_⟩
    rw [row_tx, h3, pushB_flat, ← row_tx, hr]
    simp [rv]
theorem popx (w : World) (b : Nat) (cs : List Chk) (f : Bool) (l : List ByteArray) (s : ByteArray) (hd : Dq w b cs) (hr : row cs = if f then s :: l else l ++ [s]) :
    Calls Try.prog 20 #[ptr b, .bool f] w fun e w' => e = .returned (.tuple #[.string s, .bool true]) ∧ ∃ cs', Dq w' b cs' ∧ Fd b cs w w' cs' ∧ row cs' = l := by
  cases f with
  | true =>
    have hr : row cs = s :: l := hr
    refine (pop_in w b cs true 0 hd s rfl (by rw [hr]; rfl)).mono ?_
    rintro _ w' ⟨rfl, cs', h1, h2, h3⟩
    refine ⟨rfl, cs', h2, h3, ?_⟩
    rw [h1.rows, hr]
    rfl
  | false =>
    have hr : row cs = l ++ [s] := hr
    have hl : (row cs).length - 1 = l.length := by rw [hr]; simp
    refine (pop_in w b cs false l.length hd s (by rw [hl]; rfl) (by rw [hr]; simp)).mono ?_
    rintro _ w' ⟨rfl, cs', h1, h2, h3⟩
    refine ⟨rfl, cs', h2, h3, ?_⟩
    rw [h1.rows, hr]
    simp
theorem pop_rv1 (w : World) (b : Nat) (cs : List Chk) (a : Bool) (l : List ByteArray) (s : ByteArray) (hd : Dq w b cs) (hr : row cs = rv a (s :: l)) :
    Calls Try.prog 20 #[ptr b, .bool (!a)] w fun e w' => e = .returned (.tuple #[.string s, .bool true]) ∧ ∃ cs', Dq w' b cs' ∧ Fd b cs w w' cs' ∧ row cs' = rv a l :=
  popx w b cs (!a) (rv a l) s hd (by rw [hr]; cases a <;> simp [rv])
theorem pop_rv2 (w : World) (b : Nat) (cs : List Chk) (a : Bool) (l : List ByteArray) (s : ByteArray) (hd : Dq w b cs) (hr : row cs = rv a (l ++ [s])) :
    Calls Try.prog 20 #[ptr b, .bool a] w fun e w' => e = .returned (.tuple #[.string s, .bool true]) ∧ ∃ cs', Dq w' b cs' ∧ Fd b cs w w' cs' ∧ row cs' = rv a l :=
  popx w b cs a (rv a l) s hd (by rw [hr]; cases a <;> simp [rv])
/-- two deques with the texts ys, zs, and the row xs in a slice of its own; none of them reaches below W -/
def Tw (W : World) (a : Bool) (b1 b2 : Nat) (v : Value) (xs ys zs : List ByteArray) (w : World) : Prop :=
  ∃ c1 c2, (Dq w b1 c1 ∧ row c1 = rv a ys ∧ ∀ k, OwD b1 c1 k → ¬ OwD b2 c2 k ∧ W.heap.size ≤ k) ∧ (Dq w b2 c2 ∧ row c2 = rv a zs ∧ ∀ k, OwD b2 c2 k → W.heap.size ≤ k) ∧
    (Ks W.heap.size w v xs ∧ ∀ k, v.ownBlock = some k → ¬ OwD b1 c1 k ∧ ¬ OwD b2 c2 k) ∧ Below W.heap.size W w
theorem Tw.symm {W : World} {a : Bool} {b1 b2 : Nat} {v : Value} {xs ys zs : List ByteArray} {w : World} (h : Tw W a b1 b2 v xs ys zs w) : Tw W a b2 b1 v xs zs ys w := by
  obtain ⟨c1, c2, ⟨h1, h2, h3⟩, ⟨h4, h5, h6⟩, ⟨h7, h8⟩, h9⟩ := h
  exact ⟨c2, c1, ⟨h4, h5, fun k hk => ⟨fun e => (h3 k e).1 hk, h6 k hk⟩⟩, ⟨h1, h2, fun k hk => (h3 k hk).2⟩, ⟨h7, fun k hk => ⟨(h8 k hk).2, (h8 k hk).1⟩⟩, h9⟩
theorem Tw.step {W : World} {a : Bool} {b1 b2 : Nat} {v : Value} {xs ys zs ys' : List ByteArray} {w w' : World} {c1 c2 c1' : List Chk}
    (h : (Dq w b1 c1 ∧ row c1 = rv a ys ∧ ∀ k, OwD b1 c1 k → ¬ OwD b2 c2 k ∧ W.heap.size ≤ k) ∧ (Dq w b2 c2 ∧ row c2 = rv a zs ∧ ∀ k, OwD b2 c2 k → W.heap.size ≤ k) ∧
    (Ks W.heap.size w v xs ∧ ∀ k, v.ownBlock = some k → ¬ OwD b1 c1 k ∧ ¬ OwD b2 c2 k) ∧ Below W.heap.size W w) (g1 : Dq w' b1 c1') (g2 : Fd b1 c1 w w' c1') (g3 : row c1' = rv a ys') : Tw W a b1 b2 v xs ys' zs w' := by
  obtain ⟨⟨h1, h2, h3⟩, ⟨h4, h5, h6⟩, ⟨h7, h8⟩, h9⟩ := h
  have hz := h9.size
  refine ⟨c1', c2, ⟨g1, g3, fun k hk => ?_⟩, ⟨h4.kept fun k hk => ?_, h5, h6⟩, ⟨own_kept h7 fun k hk => ?_, fun k hk => ⟨fun e => ?_, (h8 k hk).2⟩⟩, h9.trans (g2.below hz fun k hk e => ?_)⟩
  · rcases g2.2 k hk with e | e
    · exact h3 k e
    · exact ⟨fun e' => by have := h4.1.lt e'; omega, by omega⟩
  · exact g2.1.2.2 k (h4.1.lt hk) (fun e => (h3 k e).1 hk)
  · exact g2.1.2.2 k (own_lt h7 hk) (h8 k hk).1
  · rcases g2.2 k e with e | e
    · exact (h8 k hk).1 e
    · have := own_lt h7 hk; omega
  · have := (h3 k e).2; omega
theorem Tw.below {W : World} {a : Bool} {b1 b2 : Nat} {v : Value} {xs ys zs : List ByteArray} {w w' : World} (h : Tw W a b1 b2 v xs ys zs w) (hb : Below w.heap.size w w') : Tw W a b1 b2 v xs ys zs w' := by
  obtain ⟨c1, c2, h⟩ := h
  exact Tw.step h (h.1.1.below hb) (Fd.of_below hb) h.1.2.1
theorem tw_push1 {W : World} {a : Bool} {b1 b2 : Nat} {v : Value} {xs ys zs : List ByteArray} {w : World} (h : Tw W a b1 b2 v xs ys zs w) (s : ByteArray) (hs : s.size ≤ 1048576) (hn : ys.length < 1048576) :
    Calls Try.prog 18 #[ptr b1, .bool a, .string s] w fun e w' => e = .returned (.int .i64 0) ∧ Tw W a b1 b2 v xs (ys ++ [s]) zs w' := by
  obtain ⟨c1, c2, h⟩ := h
  refine (push_rv w b1 c1 a ys s h.1.1 h.1.2.1 hs hn).mono ?_
  rintro _ w' ⟨rfl, cs', h1, h2, h3⟩
  exact ⟨rfl, Tw.step h h1 h2 h3⟩
theorem tw_push2 {W : World} {a : Bool} {b1 b2 : Nat} {v : Value} {xs ys zs : List ByteArray} {w : World} (h : Tw W a b1 b2 v xs ys zs w) (s : ByteArray) (hs : s.size ≤ 1048576) (hn : zs.length < 1048576) :
    Calls Try.prog 18 #[ptr b2, .bool a, .string s] w fun e w' => e = .returned (.int .i64 0) ∧ Tw W a b1 b2 v xs ys (zs ++ [s]) w' := by
  refine (tw_push1 h.symm s hs hn).mono ?_
  rintro _ w' ⟨rfl, h⟩
  exact ⟨rfl, h.symm⟩
theorem tw_pop1 {W : World} {a : Bool} {b1 b2 : Nat} {v : Value} {xs ys zs : List ByteArray} {w : World} {s : ByteArray} (h : Tw W a b1 b2 v xs (s :: ys) zs w) :
    Calls Try.prog 20 #[ptr b1, .bool (!a)] w fun e w' => e = .returned (.tuple #[.string s, .bool true]) ∧ Tw W a b1 b2 v xs ys zs w' := by
  obtain ⟨c1, c2, h⟩ := h
  refine (pop_rv1 w b1 c1 a ys s h.1.1 h.1.2.1).mono ?_
  rintro _ w' ⟨rfl, cs', h1, h2, h3⟩
  exact ⟨rfl, Tw.step h h1 h2 h3⟩
theorem tw_pop2 {W : World} {a : Bool} {b1 b2 : Nat} {v : Value} {xs ys zs : List ByteArray} {w : World} {s : ByteArray} (h : Tw W a b1 b2 v xs ys (zs ++ [s]) w) :
    Calls Try.prog 20 #[ptr b2, .bool a] w fun e w' => e = .returned (.tuple #[.string s, .bool true]) ∧ Tw W a b1 b2 v xs ys zs w' := by
  obtain ⟨c1, c2, h⟩ := h.symm
  refine (pop_rv2 w b2 c1 a zs s h.1.1 h.1.2.1).mono ?_
  rintro _ w' ⟨rfl, cs', h1, h2, h3⟩
  exact ⟨rfl, (Tw.step h h1 h2 h3).symm⟩
theorem rv_nil (a : Bool) : rv a [] = [] := by cases a <;> rfl
theorem tw_none1 {W : World} {a : Bool} {b1 b2 : Nat} {v : Value} {xs zs : List ByteArray} {w : World} (h : Tw W a b1 b2 v xs [] zs w) (f : Bool) :
    Calls Try.prog 20 #[ptr b1, .bool f] w fun e w' => e = .returned (.tuple #[.string .empty, .bool false]) ∧ Tw W a b1 b2 v xs [] zs w' := by
  have h0 := h
  obtain ⟨c1, c2, h⟩ := h
  have hl := len_out w b1 c1 h.1.1
  rw [h.1.2.1, rv_nil] at hl
  refine (pop_out w (ptr b1) f hl).mono ?_
  rintro _ w' ⟨rfl, hb⟩
  exact ⟨rfl, h0.below hb⟩
theorem tw_none2 {W : World} {a : Bool} {b1 b2 : Nat} {v : Value} {xs ys : List ByteArray} {w : World} (h : Tw W a b1 b2 v xs ys [] w) (f : Bool) :
    Calls Try.prog 20 #[ptr b2, .bool f] w fun e w' => e = .returned (.tuple #[.string .empty, .bool false]) ∧ Tw W a b1 b2 v xs ys [] w' := by
  refine (tw_none1 h.symm f).mono ?_
  rintro _ w' ⟨rfl, h⟩
  exact ⟨rfl, h.symm⟩
theorem tw_chunks {W : World} {a : Bool} {b1 b2 : Nat} {v : Value} {xs zs : List ByteArray} {w : World} (h : Tw W a b1 b2 v xs [] zs w) :
    Calls Try.prog 29 #[ptr b1] w fun e w' => (∃ ao cp, e = .returned (.slice ao 0 cp)) ∧ Tw W a b1 b2 v xs [] zs w' := by
  have h0 := h
  obtain ⟨c1, c2, h⟩ := h
  have hc : c1.length = 0 := by
    have := cs_len h.1.1.2
    rw [h.1.2.1, rv_nil] at this
    exact Nat.le_zero.1 this
  refine (chunks_any w b1 c1 h.1.1).mono ?_
  rintro _ w' ⟨⟨u, rfl, ho⟩, hb⟩
  obtain ⟨ao, cp, rfl, _⟩ := own_form ho
  rw [hc]
  exact ⟨⟨ao, cp, rfl⟩, h0.below hb⟩
theorem tw_cost {W : World} {a : Bool} {b1 b2 : Nat} {v : Value} {xs ys : List ByteArray} {w : World} (h : Tw W a b1 b2 v xs ys [] w) :
    Calls Try.prog 30 #[ptr b2] w fun e w' => e = .returned (.int .i64 0) ∧ w' = w := by
  obtain ⟨c1, c2, h⟩ := h
  have := cost_any w b2 _ _ _ _ h.2.1.1.1.1
  rw [h.2.1.2.1, rv_nil] at this
  exact this
/-- one more text in the row -/
theorem tw_app {W : World} {a : Bool} {b1 b2 : Nat} {v : Value} {xs ys zs : List ByteArray} {w : World} (h : Tw W a b1 b2 v xs ys zs w) (y : ByteArray) (hl : xs.length ≤ 7000000000000) :
    ∃ g cap w', (Builtin.append_ #[32, 32] 32 #[v, .slice (some ⟨w.heap.size, 0, none⟩) 1 1]).run Try.prog (w.alloc (.cells #[.string y] 9)) = .ok (.slice (some ⟨g, 0, none⟩) (xs.length + 1) cap) w' ∧ Tw W a b1 b2 (.slice (some ⟨g, 0, none⟩) (xs.length + 1) cap) (xs ++ [y]) ys zs w' := by
  obtain ⟨c1, c2, ⟨h1, h2, h3⟩, ⟨h4, h5, h6⟩, ⟨h7, h8⟩, h9⟩ := h
  obtain ⟨i0, hi0, hz0, hz1, hzb⟩ := parts_of info_strC
  obtain ⟨ao, cap0, rfl⟩ := ks_len h7
  have hz := h9.size
  have h7a : (w.alloc (.cells #[.string y] 9)).ownsRow W.heap.size 9 1 (.slice ao xs.length cap0) xs.length (xs.map Value.string) := World.ownsRow.alloc h7 _
  obtain ⟨g, cap, W3, hrun, hown, hgr, hat, hg3⟩ := run_append_lies (P := Try.prog) (w := w.alloc (.cells #[.string y] 9)) 32 32 W.heap.size 9 i0 _ 1 16 Try.underlying32 hi0 hz0 hz1 hzb rfl (by omega) (.slice ao xs.length cap0) xs.length (xs.map Value.string) h7a ⟨w.heap.size, 0, none⟩ 1 1 [.string y] rfl (World.news_of_block (cs := #[.string y]) (t := 9) (fr := (0, 0)) (heap_alloc_new w _)) (by simp [Value.oneCell']) (by omega) (by unfold maxLen; omega) (by omega) (by simp; omega) (w.heap.size + 1) (by simp)
  have hs3 : w.heap.size + 1 ≤ W3.heap.size := by have := hgr.size; simpa using this
  have same : ∀ k, k < w.heap.size → (Value.slice ao xs.length cap0).ownBlock ≠ some k → W3.heap[k]? = w.heap[k]? := fun k hk hn => by
    rw [hgr.block k (by simp; omega) (fun e => hn e.symm), Below.heap_alloc _ _ _ hk]
  refine ⟨g, cap, W3, hrun, c1, c2, ⟨h1.kept fun k hk => ?_, h2, h3⟩, ⟨h4.kept fun k hk => ?_, h5, h6⟩, ⟨?_, fun k hk => ?_⟩, h9.trans ⟨hgr.os, hgr.tape, hgr.output, by omega, fun k hk => ?_⟩⟩
  · exact same k (h1.1.lt hk) (fun e => (h8 k e).1 hk)
  · exact same k (h4.1.lt hk) (fun e => (h8 k e).2 hk)
  · unfold Ks
    rw [List.length_append, List.map_append]
    exact hown
  · cases hk
    rcases hat with e | e
    · exact h8 g e
    · exact ⟨fun e' => by have : g < w.heap.size := h1.1.lt e'; omega, fun e' => by have : g < w.heap.size := h4.1.lt e'; omega⟩
  · exact same k (by omega) (fun e => by have := (h7.lt k e).1; omega)
theorem tw_new {W w1 w2 w3 : World} (a : Bool) (h1 : Below W.heap.size W w1) (d2 : Dq w2 w1.heap.size []) (b2 : Below w1.heap.size w1 w2) (z2 : w2.heap.size = w1.heap.size + 1) (d3 : Dq w3 w2.heap.size []) (b3 : Below w2.heap.size w2 w3) : Tw W a w1.heap.size w2.heap.size (.slice none 0 0) [] [] [] w3 := by
  have hz := h1.size
  have on : ∀ b k, OwD b [] k → k = b := by
    rintro b k (e | ⟨x, hx, _⟩)
    · exact e
    · cases hx
  refine ⟨[], [], ⟨d2.below b3, (rv_nil a).symm, fun k hk => ?_⟩, ⟨d3, (rv_nil a).symm, fun k hk => ?_⟩, ⟨⟨rfl, .inl ⟨rfl, rfl⟩⟩, fun k hk => by cases hk⟩, (h1.trans (b2.mono hz)).trans (b3.mono (by omega))⟩
  · have := on _ _ hk
    exact ⟨fun e => by have := on _ _ e; omega, by omega⟩
  · have := on _ _ hk
    omega
end Go.Proofs.Ytlfkdohajfkhdaa
