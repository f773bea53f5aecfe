/-
  What Trim leaves of the chunks, and what holds while it goes through them.
-/
import Derived.Test.YtlfkdohajfkhdaaDqFind2
import Derived.Test.YtlfkdohajfkhdaaDqCut2
import Derived.Test.YtlfkdohajfkhdaaDqPush
namespace Go.Proofs.Ytlfkdohajfkhdaa
open Go.RowKit
set_option linter.unusedVariables false
/-- the first T texts of the chunks; all but the first F -/
def takeC : Nat → List (List ByteArray) → List (List ByteArray)
  | _, [] => []
  | T, t :: r => if T = 0 then [] else t.take T :: takeC (T - t.length) r
def dropC : Nat → List (List ByteArray) → List (List ByteArray)
  | _, [] => []
  | F, t :: r => if t.length ≤ F then dropC (F - t.length) r else t.drop F :: r
theorem takeC_zero : ∀ L, takeC 0 L = []
  | [] => rfl
  | _ :: _ => rfl
theorem takeC_app (Y : List (List ByteArray)) : ∀ (X : List (List ByteArray)) (T : Nat), (∀ t ∈ X, 1 ≤ t.length) → X.flatten.length ≤ T → takeC T (X ++ Y) = X ++ takeC (T - X.flatten.length) Y
  | [], T, _, _ => by simp
  | t :: X, T, hX, h => by
    have h1 := hX t (by simp)
    rw [List.flatten_cons, List.length_append] at h
    rw [List.cons_append, takeC, if_neg (by omega), takeC_app Y X (T - t.length) (fun x hx => hX x (by simp [hx])) (by omega), List.take_of_length_le (by omega), List.flatten_cons, List.length_append, Nat.sub_sub]
    rfl
theorem dropC_app1 (Y : List (List ByteArray)) : ∀ (X : List (List ByteArray)) (F : Nat), X.flatten.length ≤ F → dropC F (X ++ Y) = dropC (F - X.flatten.length) Y
  | [], F, _ => by simp
  | t :: X, F, h => by
    rw [List.flatten_cons, List.length_append] at h
    rw [List.cons_append, dropC, if_pos (by omega), dropC_app1 Y X (F - t.length) (by omega), List.flatten_cons, List.length_append, Nat.sub_sub]
theorem dropC_all (X : List (List ByteArray)) (F : Nat) (h : X.flatten.length ≤ F) : dropC F X = [] := by
  have := dropC_app1 [] X F h
  rw [List.append_nil] at this
  rw [this]
  rfl
theorem dropC_app2 (Y : List (List ByteArray)) : ∀ (X : List (List ByteArray)) (F : Nat), F < X.flatten.length → dropC F (X ++ Y) = dropC F X ++ Y
  | [], F, h => by simp at h
  | t :: X, F, h => by
    rw [List.flatten_cons, List.length_append] at h
    rw [List.cons_append, dropC, dropC]
    by_cases e : t.length ≤ F
    · rw [if_pos e, if_pos e, dropC_app2 Y X (F - t.length) (by omega)]
    · rw [if_neg e, if_neg e]; rfl
theorem dropC_zero {Y : List (List ByteArray)} (hY : ∀ t ∈ Y, 1 ≤ t.length) : dropC 0 Y = Y := by
  cases Y with
  | nil => rfl
  | cons t r => rw [dropC, if_neg (by have := hY t (by simp); omega)]; rfl
theorem dropC_app {X Y : List (List ByteArray)} {F : Nat} (hY : ∀ t ∈ Y, 1 ≤ t.length) (h : F ≤ X.flatten.length) : dropC F (X ++ Y) = dropC F X ++ Y := by
  rcases Nat.lt_or_ge F X.flatten.length with h' | h'
  · exact dropC_app2 Y X F h'
  · rw [dropC_app1 Y X F h', dropC_all X F h', show F - X.flatten.length = 0 by omega, dropC_zero hY]; rfl
theorem takeC_flat : ∀ (L : List (List ByteArray)) (T : Nat), (takeC T L).flatten = L.flatten.take T
  | [], T => by simp [takeC]
  | t :: r, T => by
    rw [takeC]
    split
    · rename_i h; rw [h]; simp
    · rw [List.flatten_cons, takeC_flat r, List.flatten_cons, List.take_append]
theorem dropC_flat : ∀ (L : List (List ByteArray)) (F : Nat), (dropC F L).flatten = L.flatten.drop F
  | [], F => by simp [dropC]
  | t :: r, F => by
    rw [dropC]
    split
    · rename_i h; rw [dropC_flat r, List.flatten_cons, List.drop_append, List.drop_of_length_le h]; rfl
    · rename_i h; rw [List.flatten_cons, List.flatten_cons, List.drop_append, show F - t.length = 0 by omega]; rfl
theorem takeC_ne : ∀ (L : List (List ByteArray)) (T : Nat), (∀ t ∈ L, 1 ≤ t.length) → ∀ t ∈ takeC T L, 1 ≤ t.length
  | [], T, _ => by simp [takeC]
  | t :: r, T, h => by
    rw [takeC]
    split
    · simp
    · intro x hx
      rcases List.mem_cons.1 hx with rfl | hx
      · have := h t (by simp); rw [List.length_take]; omega
      · exact takeC_ne r _ (fun y hy => h y (by simp [hy])) x hx
theorem dropC_ne : ∀ (L : List (List ByteArray)) (F : Nat), (∀ t ∈ L, 1 ≤ t.length) → ∀ t ∈ dropC F L, 1 ≤ t.length
  | [], F, _ => by simp [dropC]
  | t :: r, F, h => by
    rw [dropC]
    split
    · exact dropC_ne r _ (fun y hy => h y (by simp [hy]))
    · intro x hx
      rcases List.mem_cons.1 hx with rfl | hx
      · rw [List.length_drop]; omega
      · exact h x (by simp [hx])
theorem tx_app (A B : List Chk) : tx (A ++ B) = tx A ++ tx B := List.map_append
theorem tx_ne {cs : List Chk} (h : ∀ x ∈ cs, 1 ≤ x.2.length) : ∀ t ∈ tx cs, 1 ≤ t.length := by
  intro t ht
  obtain ⟨x, hx, rfl⟩ := List.mem_map.1 ht
  exact h x hx
theorem tx_nil {cs : List Chk} (h : tx cs = []) : cs = [] := by
  cases cs with
  | nil => rfl
  | cons x r => cases h
theorem dq_of_tx {w : World} {b : Nat} {cs : List Chk} (h : Dq0 w b cs) (hn : ∀ t ∈ tx cs, 1 ≤ t.length) : Dq w b cs := ⟨h, fun x hx => hn x.2 (List.mem_map.2 ⟨x, hx, rfl⟩)⟩
theorem cutC_own {A : List Chk} {c b : Nat} {ts us : List ByteArray} {B : List Chk} {k : Nat} (h : OwD b (cutC A c us B) k) : OwD b (A ++ (c, ts) :: B) k := by
  rcases h with h | ⟨x, hx, e⟩
  · exact .inl h
  · unfold cutC at hx
    split at hx
    · rcases List.mem_append.1 hx with hx | hx
      · exact .inr ⟨x, by simp [hx], e⟩
      · exact .inr ⟨x, by simp [hx], e⟩
    · rcases List.mem_append.1 hx with hx | hx
      · exact .inr ⟨x, by simp [hx], e⟩
      · rcases List.mem_cons.1 hx with rfl | hx
        · exact .inr ⟨(c, ts), by simp, e⟩
        · exact .inr ⟨x, by simp [hx], e⟩
/-- while Trim goes through the chunks; X: the blocks that stay as they are, G: what is left so far -/
def TrI (W : World) (b : Nat) (cs : List Chk) (X : List (Nat × Obj)) (G : Nat → List Chk → Prop) (M : Nat → Prop) (m : Nat) (w : World) : Prop :=
  (∃ cs', G m cs' ∧ Dq0 w b cs' ∧ ∀ k, OwD b cs' k → OwD b cs k) ∧ (∀ p ∈ X, (¬ M p.1 ∧ w.heap[p.1]? = some p.2) ∧ W.heap.size ≤ p.1) ∧ Sep (OwD b cs) W w ∧ (∀ k, OwD b cs k → k < W.heap.size) ∧ ∀ k, M k → W.heap.size ≤ k
theorem TrI.abd {W : World} {b : Nat} {cs : List Chk} {X : List (Nat × Obj)} {G : Nat → List Chk → Prop} : Abd (TrI W b cs X G) := by
  rintro M M' m A B ⟨⟨cs', h1, h2, h3⟩, h4, h5, h6, h7⟩ hs hx
  have own : ∀ k, OwD b cs k → k < A.heap.size ∧ ¬ M k := fun k hk => ⟨Nat.lt_of_lt_of_le (h6 k hk) h5.2.1, fun e => by have := h6 k hk; have := h7 k e; omega⟩
  refine ⟨⟨cs', h1, h2.kept fun k hk => hs.2.2 k (own k (h3 k hk)).1 (own k (h3 k hk)).2, h3⟩, fun p hp => ⟨keepB hs hx _ _ (h4 p hp).1.1 (h4 p hp).1.2, (h4 p hp).2⟩, ?_, h6, hx.ge h5.2.1 h7⟩
  refine ⟨⟨hs.1.1.trans h5.1.1, hs.1.2.1.trans h5.1.2.1, hs.1.2.2.trans h5.1.2.2⟩, Nat.le_trans h5.2.1 hs.2.1, fun k hk hn => ?_⟩
  exact (hs.2.2 k (Nat.lt_of_lt_of_le hk h5.2.1) (fun e => by have := h7 k e; omega)).trans (h5.2.2 k hk hn)
/-- behind a cut -/
theorem TrI.cut {W : World} {b c : Nat} {cs A B : List Chk} {ts us : List ByteArray} {X : List (Nat × Obj)} {G G' : Nat → List Chk → Prop} {M : Nat → Prop} {m m' : Nat} {w w' : World} (h : TrI W b cs X G M m w) (hM : ∀ k, M k → k < w.heap.size)
    (ho : ∀ k, OwD b (A ++ (c, ts) :: B) k → OwD b cs k) (g1 : Dq0 w' b (cutC A c us B)) (g2 : Fd b (A ++ (c, ts) :: B) w w' (cutC A c us B)) (hG : G' m' (cutC A c us B)) : Mk M w w' ∧ TrI W b cs X G' M m' w' := by
  obtain ⟨_, h4, h5, h6, h7⟩ := h
  have far : ∀ k, W.heap.size ≤ k → ¬ OwD b (A ++ (c, ts) :: B) k := fun k hk e => by have := h6 k (ho k e); omega
  refine ⟨⟨g2.1.2.1, fun k hk => g2.1.2.2 k (hM k hk) (far k (h7 k hk))⟩, ⟨_, hG, g1, fun k hk => ho k (cutC_own hk)⟩, fun p hp => ⟨⟨(h4 p hp).1.1, ?_⟩, (h4 p hp).2⟩, h5.trans (g2.1.more ho), h6, h7⟩
  have hl := (Array.getElem?_eq_some_iff.1 (h4 p hp).1.2).1
  exact (g2.1.2.2 p.1 hl (far _ (h4 p hp).2)).trans (h4 p hp).1.2
theorem TrI.any {W : World} {b : Nat} {cs : List Chk} {X : List (Nat × Obj)} {G G' : Nat → List Chk → Prop} {M : Nat → Prop} {m m' : Nat} {w : World} (h : TrI W b cs X G M m w) (hG : ∀ cs', G m cs' → G' m' cs') : TrI W b cs X G' M m' w := by
  obtain ⟨⟨cs', h1, h2, h3⟩, h⟩ := h
  exact ⟨⟨cs', hG _ h1, h2, h3⟩, h⟩
theorem TrI.drew {W : World} {b : Nat} {cs : List Chk} {X : List (Nat × Obj)} {G : Nat → List Chk → Prop} {M : Nat → Prop} {m : Nat} {w : World} (h : TrI W b cs X G M m w) : TrI W b cs X G M m w.drew := by
  obtain ⟨⟨cs', h1, h2, h3⟩, h4, h5, h6, h7⟩ := h
  exact ⟨⟨cs', h1, h2.kept (fun _ _ => rfl), h3⟩, h4, h5, h6, h7⟩
/-- what is left while it falls, while it rises -/
def GF (T : Nat) (cs : List Chk) (m : Nat) (cs' : List Chk) : Prop := ∃ A B R, cs = A ++ B ∧ B.length = m ∧ cs' = A ++ R ∧ tx R = takeC (T - (row A).length) (tx B)
def GR (F : Nat) (cs : List Chk) (m : Nat) (cs' : List Chk) : Prop := ∃ A B R, cs = A ++ B ∧ A.length = m ∧ cs' = R ++ B ∧ tx R = dropC F (tx A)
theorem row_len_tx (cs : List Chk) : (tx cs).flatten.length = (row cs).length := by rw [row_tx]
theorem split_b {A A' B B' : List Chk} (h : A ++ B = A' ++ B') (hl : B.length = B'.length) : A = A' ∧ B = B' := List.append_inj' h hl
theorem split_a {A A' B B' : List Chk} (h : A ++ B = A' ++ B') (hl : A.length = A'.length) : A = A' ∧ B = B' := List.append_inj h hl
/-- it falls on the chunk (c, ts) -/
theorem GF.at {T : Nat} {cs A B : List Chk} {c m : Nat} {ts : List ByteArray} {cs' : List Chk} (h : GF T cs m cs') (hcs : cs = A ++ (c, ts) :: B) (hB : B.length = m) : ∃ R, cs' = A ++ (c, ts) :: R ∧ tx R = takeC (T - ((row A).length + ts.length)) (tx B) := by
  obtain ⟨A0, B0, R, e1, e2, rfl, e4⟩ := h
  have e : A0 ++ B0 = (A ++ [(c, ts)]) ++ B := by rw [← e1, hcs]; simp
  obtain ⟨rfl, rfl⟩ := split_b e (by omega)
  refine ⟨R, by simp, ?_⟩
  rw [e4, row_app, row_cons, List.length_append, List.length_append]
  simp [row]
/-- it stops there -/
theorem GF.stop {T : Nat} {cs A B : List Chk} {c m : Nat} {ts : List ByteArray} {cs' : List Chk} (hne : ∀ x ∈ cs, 1 ≤ x.2.length) (h : GF T cs m cs') (hcs : cs = A ++ (c, ts) :: B) (hB : B.length = m) (hle : (row A).length + ts.length ≤ T) : tx cs' = takeC T (tx cs) := by
  obtain ⟨R, rfl, hR⟩ := h.at hcs hB
  have e : tx cs = tx (A ++ [(c, ts)]) ++ tx B := by rw [hcs, ← tx_app]; simp
  have hn := tx_ne hne
  rw [e] at hn
  have hl : (tx (A ++ [(c, ts)])).flatten.length = (row A).length + ts.length := by rw [row_len_tx, row_app, row_cons, List.length_append, List.length_append]; simp [row]
  rw [e, takeC_app _ _ _ (fun t ht => hn t (List.mem_append_left _ ht)) (by omega), hl, ← hR, ← tx_app]
  simp
/-- it cuts there -/
theorem GF.step {T : Nat} {cs A B : List Chk} {c m : Nat} {ts : List ByteArray} {cs' : List Chk} (hne : ∀ x ∈ cs, 1 ≤ x.2.length) (h : GF T cs m cs') (hcs : cs = A ++ (c, ts) :: B) (hB : B.length = m) (hgt : T < (row A).length + ts.length) : cs' = A ++ (c, ts) :: [] ∧ GF T cs (m + 1) (cutC A c (ts.take (T - (row A).length) ++ ts.drop ts.length) []) := by
  obtain ⟨R, rfl, hR⟩ := h.at hcs hB
  rw [show T - ((row A).length + ts.length) = 0 by omega, takeC_zero] at hR
  have hts : 1 ≤ ts.length := hne (c, ts) (by rw [hcs]; simp)
  refine ⟨by rw [tx_nil hR], A, (c, ts) :: B, (if T - (row A).length = 0 then [] else [(c, ts.take (T - (row A).length))]), hcs, by simp [hB], ?_, ?_⟩
  · unfold cutC
    rw [List.drop_length, List.append_nil, List.length_take]
    by_cases e : T - (row A).length = 0
    · rw [if_pos (by omega), if_pos e]
    · rw [if_neg (by omega), if_neg e]
  · rw [show tx ((c, ts) :: B) = ts :: tx B from rfl, takeC]
    split
    · rfl
    · rw [show T - (row A).length - ts.length = 0 by omega, takeC_zero]; rfl
theorem GF.last {T : Nat} {cs : List Chk} {cs' : List Chk} (h : GF T cs cs.length cs') : tx cs' = takeC T (tx cs) := by
  obtain ⟨A, B, R, e1, e2, rfl, e4⟩ := h
  have : A = [] := by
    have := congrArg List.length e1
    rw [List.length_append] at this
    exact List.length_eq_zero_iff.1 (by omega)
  subst this
  rw [List.nil_append] at e1 ⊢
  subst e1
  exact e4
theorem GF.first (T : Nat) (cs : List Chk) : GF T cs 0 cs := ⟨cs, [], [], by simp, rfl, by simp, by simp [takeC]⟩
theorem GR.first (F : Nat) (cs : List Chk) : GR F cs 0 cs := ⟨[], cs, [], by simp, rfl, by simp, by simp [dropC]⟩
theorem GR.at {F : Nat} {cs A B : List Chk} {c m : Nat} {ts : List ByteArray} {cs' : List Chk} (h : GR F cs m cs') (hcs : cs = A ++ (c, ts) :: B) (hA : A.length = m) : ∃ R, cs' = R ++ (c, ts) :: B ∧ tx R = dropC F (tx A) := by
  obtain ⟨A0, B0, R, e1, e2, rfl, e4⟩ := h
  obtain ⟨rfl, rfl⟩ := split_a (e1.symm.trans hcs) (by omega)
  exact ⟨R, rfl, e4⟩
theorem GR.stop {F : Nat} {cs A B : List Chk} {c m : Nat} {ts : List ByteArray} {cs' : List Chk} (hne : ∀ x ∈ cs, 1 ≤ x.2.length) (h : GR F cs m cs') (hcs : cs = A ++ (c, ts) :: B) (hA : A.length = m) (hle : F ≤ (row A).length) : tx cs' = dropC F (tx cs) := by
  obtain ⟨R, rfl, hR⟩ := h.at hcs hA
  have hn := tx_ne hne
  rw [hcs, tx_app] at hn
  rw [hcs, tx_app, tx_app, dropC_app (fun t ht => hn t (List.mem_append_right _ ht)) (by rw [row_len_tx]; exact hle), hR]
theorem GR.step {F : Nat} {cs A B : List Chk} {c m k : Nat} {ts : List ByteArray} {cs' : List Chk} (h : GR F cs m cs') (hcs : cs = A ++ (c, ts) :: B) (hA : A.length = m) (hgt : (row A).length < F) (hk : k = min (F - (row A).length) ts.length) (hts : 1 ≤ ts.length) : cs' = [] ++ (c, ts) :: B ∧ GR F cs (m + 1) (cutC [] c (ts.take 0 ++ ts.drop k) B) := by
  obtain ⟨R, rfl, hR⟩ := h.at hcs hA
  rw [dropC_all _ _ (by rw [row_len_tx]; omega)] at hR
  refine ⟨by rw [tx_nil hR], A ++ [(c, ts)], B, (if ts.length ≤ F - (row A).length then [] else [(c, ts.drop (F - (row A).length))]), by rw [hcs]; simp, by simp [hA], ?_, ?_⟩
  · unfold cutC
    rw [List.take_zero, List.nil_append, List.length_drop]
    by_cases e : ts.length ≤ F - (row A).length
    · rw [if_pos (by omega), if_pos e]
    · rw [if_neg (by omega), if_neg e, show k = F - (row A).length by omega]; rfl
  · rw [tx_app, dropC_app1 _ _ _ (by rw [row_len_tx]; omega), row_len_tx]
    show _ = dropC _ [ts]
    rw [dropC]
    split <;> rfl
theorem GR.last {F : Nat} {cs : List Chk} {cs' : List Chk} (h : GR F cs cs.length cs') : tx cs' = dropC F (tx cs) := by
  obtain ⟨A, B, R, e1, e2, rfl, e4⟩ := h
  have : B = [] := by
    have := congrArg List.length e1
    rw [List.length_append] at this
    exact List.length_eq_zero_iff.1 (by omega)
  subst this
  rw [List.append_nil] at e1 ⊢
  subst e1
  exact e4
theorem TrI.rdF {W : World} {b Bd T : Nat} {cs cs0 : List Chk} {X : List (Nat × Obj)} {M : Nat → Prop} {m : Nat} {w : World} (h : TrI W b cs0 X (GF T cs) M m w) (hB : (Bd, .cells #[ptr b] 23 (0, 0)) ∈ X) : RdF Bd b cs m w := by
  obtain ⟨⟨cs', h1, h2, h3⟩, h4, _⟩ := h
  refine ⟨by rw [cell_of_row _ _ _ _ _ _ (h4 _ hB).1.2]; rfl, fun e => ?_, fun A c ts B e1 e2 => ?_⟩
  · subst e
    obtain ⟨A, B, R, e1, e2, rfl, e4⟩ := h1
    have hb : B = [] := List.length_eq_zero_iff.1 e2
    subst hb
    have hr := tx_nil (by rw [e4]; rfl : tx R = [])
    subst hr
    rw [← e1] at h2
    exact ⟨h2.1.four.2.1, h2.1.four.2.2.1⟩
  · obtain ⟨R, rfl, _⟩ := h1.at e1 e2
    have hc := (ch_app.1 h2.2.1).2.1.cells
    exact ⟨hc.1, hc.2.2.1⟩
theorem TrI.rdR {W : World} {b Bd F : Nat} {cs cs0 : List Chk} {X : List (Nat × Obj)} {M : Nat → Prop} {m : Nat} {w : World} (h : TrI W b cs0 X (GR F cs) M m w) (hB : (Bd, .cells #[ptr b] 23 (0, 0)) ∈ X) : RdR Bd b cs m w := by
  obtain ⟨⟨cs', h1, h2, h3⟩, h4, _⟩ := h
  refine ⟨by rw [cell_of_row _ _ _ _ _ _ (h4 _ hB).1.2]; rfl, fun e => ?_, fun A c ts B e1 e2 => ?_⟩
  · subst e
    obtain ⟨A, B, R, e1, e2, rfl, e4⟩ := h1
    have hb : A = [] := List.length_eq_zero_iff.1 e2
    subst hb
    have hr := tx_nil (by rw [e4]; rfl : tx R = [])
    subst hr
    rw [List.nil_append] at e1 h2
    rw [← e1] at h2
    exact h2.1.four.1
  · obtain ⟨R, rfl, _⟩ := h1.at e1 e2
    have hc := (ch_app.1 h2.2.1).2.1.cells
    exact ⟨hc.2.1, hc.2.2.1⟩
end Go.Proofs.Ytlfkdohajfkhdaa
