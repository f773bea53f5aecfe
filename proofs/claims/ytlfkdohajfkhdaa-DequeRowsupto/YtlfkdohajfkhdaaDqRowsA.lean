/-
  A text is taken out of a plain row: what the two appends make.
-/
import Derived.Test.YtlfkdohajfkhdaaDqRo
import Derived.Test.YtlfkdohajfkhdaaDqKnow1
import Derived.Test.YtlfkdohajfkhdaaDqOpenOps
namespace Go.Proofs.Ytlfkdohajfkhdaa
open Go.RowKit Go.Shelf
theorem add0 (g i : Nat) : (⟨g, 0, none⟩ : Addr).add i = ⟨g, i, none⟩ := by unfold Addr.add; split <;> simp_all
theorem ks_none_new (w : World) : Ks w.heap.size (w.alloc (.cells #[] 9)) (.slice (some ⟨w.heap.size, 0, none⟩) 0 0) [] :=
  ⟨rfl, .inr ⟨w.heap.size, 0, _, rfl, Nat.le_refl _, heap_alloc_new _ _, Nat.le_refl _, by unfold maxLen; omega, rfl, rfl⟩⟩
theorem del_runs (w : World) (B g m cp : Nat) (l : List ByteArray) (hk : Ks B w (.slice (some ⟨g, 0, none⟩) m cp) l) (hm : l.length = m) (i : Nat) (ha : i < m) (hl : m ≤ 1048576) (hg : g < w.heap.size) :
    ∃ v1 w1 o2 c2 w2 a2, (Builtin.append_ #[32, 32] 32 #[.slice (some ⟨w.heap.size, 0, none⟩) 0 0, .slice (some ⟨g, 0, none⟩) i cp]).run Try.prog (w.alloc (.cells #[] 9)) = .ok v1 w1 ∧
      (Builtin.append_ #[32, 32] 32 #[v1, .slice (some a2) (m - (i + 1)) (cp - (i + 1))]).run Try.prog w1 = .ok (.slice o2 (m - 1) c2) w2 ∧ (a2 = if cp = i + 1 then ⟨g, 0, none⟩ else ⟨g, i + 1, none⟩) ∧ Ks w.heap.size w2 (.slice o2 (m - 1) c2) (l.take i ++ l.drop (i + 1)) ∧ Below w.heap.size w w1 ∧ Below w.heap.size w w2 := by
  have hb0 : Below w.heap.size w (w.alloc (.cells #[] 9)) := (Below.refl _ _).alloc (Nat.le_refl _) _
  have cell : ∀ W, Below w.heap.size w W → ∀ j z, l[j]? = some z → W.cell? ⟨g, j, none⟩ = some (.string z) := fun W hb j z hz => by
    have h := hk
    unfold Ks at h
    have h2 := h.cells (g := g) rfl j (.string z) (by rw [List.getElem?_map, hz]; rfl)
    rw [add0] at h2
    exact (hb.cell (p := ⟨g, j, none⟩) hg).trans h2
  obtain ⟨v1, w1, r1, k1, b1, _⟩ := app_src (zs := l.take i) (a := ⟨g, 0, none⟩) (m := i) cp (ks_none_new w) (by rw [List.length_take]; omega) (fun j z hz => by
    rw [add0]
    refine cell _ hb0 j z ?_
    by_cases hj : j < i
    · rwa [List.getElem?_take_of_lt hj] at hz
    · rw [List.getElem?_take_eq_none (by omega)] at hz; cases hz) (by simp) (by simp; omega)
  rw [List.nil_append] at k1
  have hb1 : Below w.heap.size w w1 := hb0.trans b1
  obtain ⟨v2, w2, r2, k2, b2, _⟩ := app_src (zs := l.drop (i + 1)) (a := if cp = i + 1 then ⟨g, 0, none⟩ else ⟨g, i + 1, none⟩) (m := m - (i + 1)) (cp - (i + 1)) k1 (by rw [List.length_drop]; omega) (fun j z hz => by
    rw [List.getElem?_drop] at hz
    have hjl := (List.getElem?_eq_some_iff.1 hz).1
    have hcm : l.length ≤ cp := by
      have h := hk
      unfold Ks at h
      rcases h.2 with ⟨e, _⟩ | ⟨g', cap', cur, e, _, _, q1, _⟩
      · cases e
      · cases e; exact q1
    rw [if_neg (by omega)]
    rw [show (⟨g, i + 1, none⟩ : Addr).add j = ⟨g, i + 1 + j, none⟩ by unfold Addr.add; split <;> simp_all]
    exact cell _ hb1 _ z hz) hb1.size (by rw [List.length_take]; omega)
  obtain ⟨o2, c2, e⟩ := ks_len k2
  have hlen : (l.take i ++ l.drop (i + 1)).length = m - 1 := by rw [List.length_append, List.length_take, List.length_drop]; omega
  rw [hlen] at e
  subst e
  exact ⟨v1, w1, o2, c2, w2, _, r1, r2, rfl, k2, hb1, hb1.trans b2⟩
theorem ro_g {W : World} {b : Nat} {ao : Option Addr} {m cp : Nat} {l l' : List ByteArray} {w : World} (h : Ro W b (.slice ao m cp) l l' w) (hm : l.length = m) (h0 : 0 < m) : ∃ g, ao = some ⟨g, 0, none⟩ ∧ g < w.heap.size := by
  have hk := h.ks
  unfold Ks at hk
  rcases hk.2 with ⟨e, e0⟩ | ⟨g, cap, cur, e, _, hg, _⟩
  · rw [hm] at e0; omega
  · cases e; exact ⟨g, rfl, (Array.getElem?_eq_some_iff.1 hg).1⟩
theorem ro_cap {W : World} {b g m cp : Nat} {l l' : List ByteArray} {w : World} (h : Ro W b (.slice (some ⟨g, 0, none⟩) m cp) l l' w) (hm : l.length = m) : m ≤ cp := by
  have hk := h.ks
  unfold Ks at hk
  rcases hk.2 with ⟨e, _⟩ | ⟨g', cap, cur, e, _, _, q1, _⟩
  · cases e
  · cases e; omega
theorem ro_app {W : World} {b : Nat} {v : Value} {l l' : List ByteArray} {w : World} (h : Ro W b v l l' w) (y : ByteArray) (hl : l.length ≤ 1048576) :
    ∃ g cap w', (Builtin.append_ #[32, 32] 32 #[v, .slice (some ⟨w.heap.size, 0, none⟩) 1 1]).run Try.prog (w.alloc (.cells #[.string y] 9)) = .ok (.slice (some ⟨g, 0, none⟩) (l.length + 1) cap) w' ∧ Ro W b (.slice (some ⟨g, 0, none⟩) (l.length + 1) cap) (l ++ [y]) l' w' := by
  obtain ⟨c1, ⟨h1, h2, h3⟩, ⟨h7, h8⟩, h9⟩ := h
  obtain ⟨i0, hi0, hz0, hz1, hzb⟩ := parts_of info_strC
  obtain ⟨ao, cap0, rfl⟩ := ks_len h7
  have hz := h9.size
  have h7a : (w.alloc (.cells #[.string y] 9)).ownsRow W.heap.size 9 1 (.slice ao l.length cap0) l.length (l.map Value.string) := World.ownsRow.alloc h7 _
  obtain ⟨g, cap, W3, hrun, hown, hgr, hat, hg3⟩ := run_append_lies (P := Try.prog) (w := w.alloc (.cells #[.string y] 9)) 32 32 W.heap.size 9 i0 _ 1 16 Try.underlying32 hi0 hz0 hz1 hzb rfl (by omega) (.slice ao l.length cap0) l.length (l.map Value.string) h7a ⟨w.heap.size, 0, none⟩ 1 1 [.string y] rfl (World.news_of_block (cs := #[.string y]) (t := 9) (fr := (0, 0)) (heap_alloc_new w _)) (by simp [Value.oneCell']) (by omega) (by unfold maxLen; omega) (by omega) (by simp; omega) (w.heap.size + 1) (by simp)
  have hs3 : w.heap.size + 1 ≤ W3.heap.size := by have := hgr.size; simpa using this
  have same : ∀ k, k < w.heap.size → (Value.slice ao l.length cap0).ownBlock ≠ some k → W3.heap[k]? = w.heap[k]? := fun k hk hn => by
    rw [hgr.block k (by simp; omega) (fun e => hn e.symm), Below.heap_alloc _ _ _ hk]
  refine ⟨g, cap, W3, hrun, c1, ⟨h1.kept fun k hk => ?_, h2, h3⟩, ⟨?_, fun k hk => ?_⟩, h9.trans ⟨hgr.os, hgr.tape, hgr.output, by omega, fun k hk => ?_⟩⟩
  · exact same k (h1.1.lt hk) (fun e => h8 k e hk)
  · unfold Ks
    rw [List.length_append, List.map_append]
    exact hown
  · cases hk
    rcases hat with e | e
    · exact h8 g e
    · exact fun e' => by have : g < w.heap.size := h1.1.lt e'; omega
  · exact same k (by omega) (fun e => by have := (h7.lt k e).1; omega)
/-- a deque beside a row of texts, and an object that nobody else has -/
def Rx (W : World) (b : Nat) (v : Value) (l l' : List ByteArray) (X : Nat) (c : Obj) (w : World) : Prop :=
  ∃ cs, ((Dq w b cs ∧ row cs = l' ∧ ∀ k, OwD b cs k → W.heap.size ≤ k) ∧ (Ks W.heap.size w v l ∧ ∀ k, v.ownBlock = some k → ¬ OwD b cs k) ∧ Below W.heap.size W w) ∧ w.heap[X]? = some c ∧ ¬ OwD b cs X
theorem Rx.ro {W : World} {b : Nat} {v : Value} {l l' : List ByteArray} {X : Nat} {c : Obj} {w : World} (h : Rx W b v l l' X c w) : Ro W b v l l' w := by
  obtain ⟨cs, h, _⟩ := h
  exact ⟨cs, h⟩
theorem Rx.box {W : World} {b : Nat} {v : Value} {l l' : List ByteArray} {X : Nat} {c : Obj} {w : World} (h : Rx W b v l l' X c w) : w.heap[X]? = some c := by
  obtain ⟨cs, h, hx, _⟩ := h
  exact hx
theorem Rx.step {W : World} {b : Nat} {v : Value} {l l1 l2 : List ByteArray} {X : Nat} {c : Obj} {w w' : World} {cs cs' : List Chk} (h : ((Dq w b cs ∧ row cs = l1 ∧ ∀ k, OwD b cs k → W.heap.size ≤ k) ∧ (Ks W.heap.size w v l ∧ ∀ k, v.ownBlock = some k → ¬ OwD b cs k) ∧ Below W.heap.size W w) ∧ w.heap[X]? = some c ∧ ¬ OwD b cs X)
    (g1 : Dq w' b cs') (g2 : Fd b cs w w' cs') (g3 : row cs' = l2) : Rx W b v l l2 X c w' := by
  obtain ⟨⟨⟨h1, h2, h3⟩, ⟨h7, h8⟩, h9⟩, h10, h11⟩ := h
  have hz := h9.size
  have hX := (Array.getElem?_eq_some_iff.1 h10).1
  refine ⟨cs', ⟨⟨g1, g3, fun k hk => ?_⟩, ⟨own_kept h7 fun k hk => ?_, fun k hk e => ?_⟩, h9.trans (g2.below hz fun k hk e => ?_)⟩, (g2.1.2.2 X hX h11).trans h10, fun e => ?_⟩
  · rcases g2.2 k hk with e | e
    · exact h3 k e
    · omega
  · exact g2.1.2.2 k (own_lt h7 hk) (h8 k hk)
  · rcases g2.2 k e with e | e
    · exact h8 k hk e
    · have := own_lt h7 hk; omega
  · have := h3 k e; omega
  · rcases g2.2 X e with e | e
    · exact h11 e
    · omega
theorem Rx.below {W : World} {b : Nat} {v : Value} {l l' : List ByteArray} {X : Nat} {c : Obj} {w w' : World} (h : Rx W b v l l' X c w) (hb : Below w.heap.size w w') : Rx W b v l l' X c w' := by
  obtain ⟨cs, h⟩ := h
  exact Rx.step h (h.1.1.1.below hb) (Fd.of_below hb) h.1.1.2.1
theorem Ro.boxed {W : World} {b : Nat} {v : Value} {l l' : List ByteArray} {w : World} (h : Ro W b v l l' w) (cells : Array Value) (t : TypeId) : Rx W b v l l' w.heap.size (.cells cells t (0, 0)) (w.alloc (.cells cells t)) := by
  have h0 := h.below ((Below.refl w.heap.size w).alloc (Nat.le_refl _) (.cells cells t))
  obtain ⟨cs, h⟩ := h
  have hn : ¬ OwD b cs w.heap.size := fun e => by have := h.1.1.1.lt e; omega
  refine ⟨cs, ⟨⟨h.1.1.below ((Below.refl w.heap.size w).alloc (Nat.le_refl _) _), h.1.2⟩, ⟨own_kept h.2.1.1 fun k hk => Below.heap_alloc _ _ _ (own_lt h.2.1.1 hk), h.2.1.2⟩, h.2.2.trans ((Below.refl w.heap.size w).alloc (Nat.le_refl _) _ |>.mono h.2.2.size)⟩, heap_alloc_new _ _, hn⟩
theorem rx_push {W : World} {b : Nat} {v : Value} {l l' : List ByteArray} {X : Nat} {c : Obj} {w : World} (h : Rx W b v l l' X c w) (a : Bool) (s : ByteArray) (hs : s.size ≤ 1048576) (hn : l'.length < 1048576) :
    Calls Try.prog 18 #[ptr b, .bool a, .string s] w fun e w' => e = .returned (.int .i64 0) ∧ Rx W b v l (if a then s :: l' else l' ++ [s]) X c w' := by
  obtain ⟨cs, h⟩ := h
  refine (push_rv w b cs a (rv a l') s h.1.1.1 (by rw [h.1.1.2.1]; cases a <;> simp [rv]) hs (by rw [rv_len]; exact hn)).mono ?_
  rintro _ w' ⟨rfl, cs', g1, g2, g3⟩
  exact ⟨rfl, Rx.step h g1 g2 (by rw [g3]; cases a <;> simp [rv])⟩
theorem rx_pop {W : World} {b : Nat} {v : Value} {l l' : List ByteArray} {X : Nat} {c : Obj} {w : World} {f : Bool} {s : ByteArray} (h : Rx W b v l (if f then s :: l' else l' ++ [s]) X c w) :
    Calls Try.prog 20 #[ptr b, .bool f] w fun e w' => e = .returned (.tuple #[.string s, .bool true]) ∧ Rx W b v l l' X c w' := by
  obtain ⟨cs, h⟩ := h
  refine (popx w b cs f l' s h.1.1.1 h.1.1.2.1).mono ?_
  rintro _ w' ⟨rfl, cs', g1, g2, g3⟩
  exact ⟨rfl, Rx.step h g1 g2 g3⟩
theorem rx_ins {W : World} {b : Nat} {v : Value} {l l' : List ByteArray} {X : Nat} {c : Obj} {w : World} (h : Rx W b v l l' X c w) (i : Nat) (s : ByteArray) (hi : i ≤ l'.length) (hs : s.size ≤ 1048576) (hn : l'.length < 1048576) :
    Calls Try.prog 21 #[ptr b, .int .i64 i, .string s] w fun e w' => e = .returned (.int .i64 0) ∧ Rx W b v l (l'.take i ++ s :: l'.drop i) X c w' := by
  obtain ⟨cs, h⟩ := h
  have hr := h.1.1.2.1
  subst hr
  refine (insert_in w b cs i s h.1.1.1 hi hs hn).mono ?_
  rintro _ w' ⟨rfl, A, c', ts, B, p, cs', hh, g1, g2, g3⟩
  exact ⟨rfl, Rx.step h g1 g2 (ins_row hh g3)⟩
theorem rx_rem {W : World} {b : Nat} {v : Value} {l l' : List ByteArray} {X : Nat} {c : Obj} {w : World} (h : Rx W b v l l' X c w) (i : Nat) (hi : i < l'.length) :
    Calls Try.prog 22 #[ptr b, .int .i64 i] w fun e w' => e = .returned (.bool true) ∧ Rx W b v l (l'.take i ++ l'.drop (i + 1)) X c w' := by
  obtain ⟨cs, h⟩ := h
  have hr := h.1.1.2.1
  subst hr
  refine (remove_in w b cs i h.1.1.1 hi).mono ?_
  rintro _ w' ⟨rfl, cs', g0, g1, g2⟩
  exact ⟨rfl, Rx.step h g1 g2 g0.rows⟩
theorem rx_trim {W : World} {b : Nat} {v : Value} {l l' : List ByteArray} {X : Nat} {c : Obj} {w : World} (h : Rx W b v l l' X c w) (f t : Int) :
    Calls Try.prog 23 #[ptr b, .int .i64 f, .int .i64 t] w fun e w' => e = .returned (.tuple #[]) ∧ Rx W b v l ((l'.take t.toNat).drop f.toNat) X c w' := by
  obtain ⟨cs, h⟩ := h
  refine (trim_any w b cs f t h.1.1.1).mono ?_
  rintro _ w' ⟨rfl, cs', g1, g2, g3⟩
  refine ⟨rfl, Rx.step h g1 g2 ?_⟩
  rw [row_tx, g3, trimC, dropC_flat, takeC_flat, ← row_tx, h.1.1.2.1]
/-- a stretch of a plain row, laid anew -/
theorem cut_runs (w : World) (B g m cp : Nat) (l : List ByteArray) (hk : Ks B w (.slice (some ⟨g, 0, none⟩) m cp) l) (hm : l.length = m) (i j : Nat) (hij : i < j) (hj : j ≤ m) (hl : m ≤ 1048576) (hg : g < w.heap.size) :
    ∃ o2 c2 w2, (Builtin.append_ #[32, 32] 32 #[.slice (some ⟨w.heap.size, 0, none⟩) 0 0, .slice (some ⟨g, i, none⟩) (j - i) (cp - i)]).run Try.prog (w.alloc (.cells #[] 9)) = .ok (.slice o2 (j - i) c2) w2 ∧ Ks w.heap.size w2 (.slice o2 (j - i) c2) ((l.take j).drop i) ∧ Below w.heap.size w w2 := by
  have hb0 : Below w.heap.size w (w.alloc (.cells #[] 9)) := (Below.refl _ _).alloc (Nat.le_refl _) _
  obtain ⟨v1, w1, r1, k1, b1, _⟩ := app_src (zs := (l.take j).drop i) (a := ⟨g, i, none⟩) (m := j - i) (cp - i) (ks_none_new w) (by rw [List.length_drop, List.length_take]; omega) (fun q z hz => by
    rw [List.getElem?_drop] at hz
    have hz' : l[i + q]? = some z := by
      by_cases hq : i + q < j
      · rwa [List.getElem?_take_of_lt hq] at hz
      · rw [List.getElem?_take_eq_none (by omega)] at hz; cases hz
    rw [add_at]
    have h := hk
    unfold Ks at h
    have h2 := h.cells (g := g) rfl (i + q) (.string z) (by rw [List.getElem?_map, hz']; rfl)
    rw [add0] at h2
    exact (hb0.cell (p := ⟨g, i + q, none⟩) hg).trans h2) (by simp) (by simp; omega)
  rw [List.nil_append] at k1
  obtain ⟨o2, c2, e⟩ := ks_len k1
  have hlen : ((l.take j).drop i).length = j - i := by rw [List.length_drop, List.length_take]; omega
  rw [hlen] at e
  subst e
  exact ⟨o2, c2, w1, r1, k1, hb0.trans b1⟩
theorem rtrim_none {l : List ByteArray} {f t : Int} {m : Nat} (hm : l.length = m) (h : min t (m : Int) ≤ max f 0) : (l.take t.toNat).drop f.toNat = [] := by
  refine List.drop_eq_nil_of_le ?_
  rw [List.length_take]
  omega
theorem rtrim_some {l : List ByteArray} {f t : Int} {m i j : Nat} (hm : l.length = m) (hi : max f 0 = (i : Int)) (hj : min t (m : Int) = (j : Int)) : (l.take t.toNat).drop f.toNat = (l.take j).drop i := by
  have h1 : f.toNat = i := by omega
  rw [h1]
  by_cases h : t ≤ (m : Int)
  · have : t.toNat = j := by omega
    rw [this]
  · have : j = m := by omega
    rw [List.take_of_length_le (by omega), List.take_of_length_le (by omega)]
end Go.Proofs.Ytlfkdohajfkhdaa
