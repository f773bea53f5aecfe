/-
  Contracts over this program: the calls that RankKnown makes.
-/
import Derived.Test.YtcknmenhjipaeabRkWithin2K
namespace Go.Proofs.Ytcknmenhjipaeab
open Go.RowKit Go.Shelf
set_option linter.unusedVariables false
set_option linter.unusedSimpArgs false
def kC : ByteArray := { data := #[99] }
def kD : ByteArray := { data := #[100] }
def kE : ByteArray := { data := #[101] }
def nz : Nat := 9223372036854775808
def eB : Ent := (kB, fOne)
def eA : Ent := (kA, fOne)
def eC : Ent := (kC, nz)
def eD : Ent := (kD, ninfB)
def eA2 : Ent := (kA, fTwo)
def L4 : List Ent := [eD, eC, eA, eB]
def L5 : List Ent := [eD, eC, eB, eA2]
/-- the row behind k sets -/
def LL (k : Nat) : List Ent := L4.drop (4 - k)
def its : List Ent := [eB, eA, eC, eD]
theorem ris4 : Ris L4 := ⟨by decide +kernel, fun e he => by
  simp only [L4, List.mem_cons, List.not_mem_nil, or_false] at he
  rcases he with rfl | rfl | rfl | rfl <;> (unfold Num; decide +kernel)⟩
theorem ris5 : Ris L5 := ⟨by decide +kernel, fun e he => by
  simp only [L5, List.mem_cons, List.not_mem_nil, or_false] at he
  rcases he with rfl | rfl | rfl | rfl <;> (unfold Num; decide +kernel)⟩
theorem keys4 : (Dc.keys L4).Nodup := by decide +kernel
theorem keys5 : (Dc.keys L5).Nodup := by decide +kernel
theorem risL (k : Nat) : Ris (LL k) := ⟨ris4.1.sublist (List.drop_sublist _ _), fun e he => ris4.2 e (List.mem_of_mem_drop he)⟩
theorem keysL (k : Nat) : (Dc.keys (LL k)).Nodup := ((List.drop_sublist _ _).map Prod.fst).nodup keys4
theorem at_k {k : Nat} {e : Ent} (h : its[k]? = some e) : LL (k + 1) = e :: LL k ∧ e.1.size = 1 ∧ isNan e.2 = false ∧ sco (LL k) e.1 = none ∧ (LL k).length = k := by
  have hk : k < 4 := (List.getElem?_eq_some_iff.1 h).1
  match k, hk with
  | 0, _ => obtain rfl : eB = e := by simpa [its] using h
            exact ⟨rfl, rfl, by decide +kernel, by decide +kernel, rfl⟩
  | 1, _ => obtain rfl : eA = e := by simpa [its] using h
            exact ⟨rfl, rfl, by decide +kernel, by decide +kernel, rfl⟩
  | 2, _ => obtain rfl : eC = e := by simpa [its] using h
            exact ⟨rfl, rfl, by decide +kernel, by decide +kernel, rfl⟩
  | 3, _ => obtain rfl : eD = e := by simpa [its] using h
            exact ⟨rfl, rfl, by decide +kernel, by decide +kernel, rfl⟩
/-- ranks beside blocks that are not theirs -/
def Kn (B : Nat) (W w : World) (R : Nat) (L : List Ent) (g : Nat → Prop) : Prop := ∃ O, RK w O R 9 L ∧ (∀ k, O k → B ≤ k) ∧ Below B W w ∧ (∀ k, g k → k < w.heap.size ∧ ¬ O k) ∧ B ≤ W.heap.size
theorem Kn.turn {B : Nat} {W w w' : World} {R : Nat} {L' : List Ent} {g : Nat → Prop} {O O' : Nat → Prop} (h2 : ∀ k, O k → B ≤ k) (h3 : Below B W w) (h4 : ∀ k, g k → k < w.heap.size ∧ ¬ O k) (h5 : B ≤ W.heap.size) (hK : RK w' O' R 9 L') (hf : FO O w O' w') : Kn B W w' R L' g ∧ ∀ k, g k → w'.heap[k]? = w.heap[k]? := by
  obtain ⟨b1, b2⟩ := hf.bel h2 (Nat.le_trans h5 h3.size)
  exact ⟨⟨O', hK, b2, h3.trans b1, fun k hk => ⟨Nat.lt_of_lt_of_le (h4 k hk).1 hf.2.1, (hf.2.2 k (h4 k hk).1 (h4 k hk).2).2⟩, h5⟩, fun k hk => (hf.2.2 k (h4 k hk).1 (h4 k hk).2).1⟩
theorem Kn.below {B : Nat} {W w w' : World} {R : Nat} {L : List Ent} {g : Nat → Prop} (h : Kn B W w R L g) (hb : Below w.heap.size w w') : Kn B W w' R L g := by
  obtain ⟨O, h1, h2, h3, h4, h5⟩ := h
  exact (Kn.turn h2 h3 h4 h5 (h1.below hb) (FO.below hb)).1
theorem Kn.own {B : Nat} {W w : World} {R : Nat} {L : List Ent} {g g' : Nat → Prop} (h : Kn B W w R L g) (w' : World) (hb : Below w.heap.size w w') (hg : ∀ k, g' k → g k ∨ (w.heap.size ≤ k ∧ k < w'.heap.size)) : Kn B W w' R L g' := by
  obtain ⟨O, h1, h2, h3, h4, h5⟩ := h
  have hlt := h1.lt
  refine ⟨O, h1.below hb, h2, (h3.trans (hb.mono (Nat.le_trans h5 h3.size))), fun k hk => ?_, h5⟩
  rcases hg k hk with h | ⟨q1, q2⟩
  · exact ⟨Nat.lt_of_lt_of_le (h4 k h).1 hb.size, (h4 k h).2⟩
  · exact ⟨q2, fun hh => by have := hlt k hh; omega⟩
theorem kn_set {B : Nat} {W w : World} {R k : Nat} {g : Nat → Prop} {e : Ent} (h : Kn B W w R (LL k) g) (he : its[k]? = some e) :
    Calls Try.prog 8 #[.pointer (some ⟨R, 0, none⟩), .string e.1, .float .f64 e.2] w fun en w' => en = .returned (.tuple #[.bool true, .int .i64 0]) ∧ Kept (Kn B W w' R (LL (k + 1)) g ∧ ∀ j, g j → w'.heap[j]? = w.heap[j]?) := by
  obtain ⟨O, h1, h2, h3, h4, h5⟩ := h
  obtain ⟨a1, a2, a3, a4, a5⟩ := at_k he
  have hk : k < 4 := (List.getElem?_eq_some_iff.1 he).1
  refine (kset_new h1 e.1 e.2 (by omega) a3 a4 (by omega)).mono ?_
  rintro _ w' ⟨rfl, O', L', s', k', f'⟩
  have hL : L' = LL (k + 1) := by
    refine ris_eq k'.math.1 (risL _) (perm_mem k'.math.2.2.2 (keysL _) (fun d => ?_))
    rw [s' d, a1, List.mem_cons]
    constructor
    · rintro (h | ⟨h, _⟩)
      · exact .inl h
      · exact .inr h
    · rintro (h | h)
      · exact .inl h
      · refine .inr ⟨h, fun hd => ?_⟩
        exact ((Dc.look_none e.1).1 a4) (List.mem_map.2 ⟨d, h, hd⟩)
  subst hL
  exact ⟨rfl, Kn.turn h2 h3 h4 h5 k' f'⟩
theorem kn_rank4 {B : Nat} {W w : World} {R : Nat} {g : Nat → Prop} (h : Kn B W w R L4 g) :
    Calls Try.prog 11 #[.pointer (some ⟨R, 0, none⟩), .string { data := #[97] }] w fun en w' => en = .returned (.tuple #[.int .i64 2, .bool true]) ∧ Kept (Kn B W w' R L4 g) := by
  obtain ⟨O, h1, h2, h3, h4, h5⟩ := h
  refine (krank_some h1 kA fOne (by decide +kernel)).mono ?_
  rintro _ w' ⟨rfl, O', k', f'⟩
  exact ⟨by rw [show rnk L4 (kA, fOne) = 2 by decide +kernel]; rfl, (Kn.turn h2 h3 h4 h5 k' f').1⟩
theorem kn_same {B : Nat} {W w : World} {R : Nat} {g : Nat → Prop} (h : Kn B W w R L4 g) :
    Calls Try.prog 8 #[.pointer (some ⟨R, 0, none⟩), .string { data := #[99] }, .float .f64 0] w fun en w' => en = .returned (.tuple #[.bool false, .int .i64 0]) ∧ Kept (Kn B W w' R L4 g) := by
  obtain ⟨O, h1, h2, h3, h4, h5⟩ := h
  refine (kset_same h1 kC 0 nz (by decide) (by decide +kernel) (by decide +kernel) (by decide +kernel)).mono ?_
  rintro _ w' ⟨rfl, O', k', f'⟩
  exact ⟨rfl, (Kn.turn h2 h3 h4 h5 k' f').1⟩
theorem kn_score {B : Nat} {W w : World} {R : Nat} {g : Nat → Prop} (h : Kn B W w R L4 g) :
    Calls Try.prog 12 #[.pointer (some ⟨R, 0, none⟩), .string { data := #[99] }] w fun en w' => en = .returned (.tuple #[.float .f64 nz, .bool true]) ∧ Kept (Kn B W w' R L4 g) := by
  obtain ⟨O, h1, h2, h3, h4, h5⟩ := h
  refine (kscore_any h1 kC (by decide)).mono ?_
  rintro _ w' ⟨rfl, O', k', f'⟩
  exact ⟨by rw [show sco L4 kC = some nz by decide +kernel]; rfl, (Kn.turn h2 h3 h4 h5 k' f').1⟩
theorem kn_alter {B : Nat} {W w : World} {R : Nat} {g : Nat → Prop} (h : Kn B W w R L4 g) :
    Calls Try.prog 8 #[.pointer (some ⟨R, 0, none⟩), .string { data := #[97] }, .float .f64 4611686018427387904] w fun en w' => en = .returned (.tuple #[.bool false, .int .i64 0]) ∧ Kept (Kn B W w' R L5 g) := by
  obtain ⟨O, h1, h2, h3, h4, h5⟩ := h
  refine (kset_alter h1 kA fTwo fOne (by decide) nan_two (by decide +kernel) (by decide +kernel)).mono ?_
  rintro _ w' ⟨rfl, O', L', s', k', f'⟩
  have hL : L' = L5 := by
    refine ris_eq k'.math.1 ris5 (perm_mem k'.math.2.2.2 keys5 (fun d => ?_))
    rw [s' d]
    have n1 : kD ≠ kA := by decide
    have n2 : kC ≠ kA := by decide
    have n3 : kB ≠ kA := by decide
    simp only [L4, L5, List.mem_cons, List.not_mem_nil, or_false]
    constructor
    · rintro (h | ⟨h | h | h | h, hh⟩)
      · exact .inr (.inr (.inr h))
      · exact .inl h
      · exact .inr (.inl h)
      · subst h; exact absurd rfl hh
      · exact .inr (.inr (.inl h))
    · rintro (h | h | h | h)
      · exact .inr ⟨.inl h, by subst h; exact n1⟩
      · exact .inr ⟨.inr (.inl h), by subst h; exact n2⟩
      · exact .inr ⟨.inr (.inr (.inr h)), by subst h; exact n3⟩
      · exact .inl h
  subst hL
  exact ⟨rfl, (Kn.turn h2 h3 h4 h5 k' f').1⟩
theorem kn_rank5 {B : Nat} {W w : World} {R : Nat} {g : Nat → Prop} (h : Kn B W w R L5 g) :
    Calls Try.prog 11 #[.pointer (some ⟨R, 0, none⟩), .string { data := #[97] }] w fun en w' => en = .returned (.tuple #[.int .i64 3, .bool true]) ∧ Kept (Kn B W w' R L5 g) := by
  obtain ⟨O, h1, h2, h3, h4, h5⟩ := h
  refine (krank_some h1 kA fTwo (by decide +kernel)).mono ?_
  rintro _ w' ⟨rfl, O', k', f'⟩
  exact ⟨by rw [show rnk L5 (kA, fTwo) = 3 by decide +kernel]; rfl, (Kn.turn h2 h3 h4 h5 k' f').1⟩
theorem mr_form {B : Nat} {w : World} {v : Value} {M : List Ent} {n : Nat} (h : Mr B w v M) (hn : M.length = n) : ∃ o c, v = .slice o n c := by
  rcases h.2 with ⟨e, h0⟩ | ⟨g', c', cur', e, _⟩
  · exact ⟨none, 0, by rw [e, ← hn, h0]⟩
  · rw [hn] at e; exact ⟨_, _, e⟩
theorem kn_all {B : Nat} {W w : World} {R : Nat} {g : Nat → Prop} (h : Kn B W w R L4 g) :
    Calls Try.prog 10 #[.pointer (some ⟨R, 0, none⟩), .int .i64 0, .int .i64 9] w fun en w' => (∃ o c, en = .returned (.slice o 4 c) ∧ Kept (Mr w.heap.size w' (.slice o 4 c) L4)) ∧ Kept (Below w.heap.size w w') := by
  obtain ⟨O, h1, h2, h3, h4, h5⟩ := h
  refine (krange_hi h1 0 9 (by decide) (by decide)).mono ?_
  rintro _ w' ⟨⟨v, rfl, hM⟩, hb⟩
  obtain ⟨o, c, rfl⟩ := mr_form hM rfl
  exact ⟨⟨o, c, rfl, hM⟩, hb⟩
theorem kn_first {B : Nat} {W w : World} {R : Nat} {g : Nat → Prop} (h : Kn B W w R L5 g) :
    Calls Try.prog 10 #[.pointer (some ⟨R, 0, none⟩), .int .i64 (-5), .int .i64 1] w fun en w' => (∃ o c, en = .returned (.slice o 1 c) ∧ Kept (Mr w.heap.size w' (.slice o 1 c) [eD])) ∧ Kept (Below w.heap.size w w') := by
  obtain ⟨O, h1, h2, h3, h4, h5⟩ := h
  refine (krange_lo h1 (-5) (by decide) 0 rfl 1 (by decide) (by decide)).mono ?_
  rintro _ w' ⟨⟨v, rfl, hM⟩, hb⟩
  obtain ⟨o, c, rfl⟩ := mr_form hM rfl
  exact ⟨⟨o, c, rfl, hM⟩, hb⟩
theorem kn_out {B : Nat} {W w : World} {R : Nat} {g : Nat → Prop} (h : Kn B W w R L5 g) :
    Calls Try.prog 10 #[.pointer (some ⟨R, 0, none⟩), .int .i64 2, .int .i64 1] w fun en w' => en = .returned (.slice none 0 0) ∧ w' = w := by
  obtain ⟨O, h1, h2, h3, h4, h5⟩ := h
  exact krange_out h1 2 1 (by decide)
theorem kn_second {B : Nat} {W w : World} {R : Nat} {g : Nat → Prop} (h : Kn B W w R L5 g) :
    Calls Try.prog 10 #[.pointer (some ⟨R, 0, none⟩), .int .i64 1, .int .i64 2] w fun en w' => (∃ o c, en = .returned (.slice o 1 c) ∧ Kept (Mr w.heap.size w' (.slice o 1 c) [eC])) ∧ Kept (Below w.heap.size w w') := by
  obtain ⟨O, h1, h2, h3, h4, h5⟩ := h
  refine (krange_at h1 1 2 (by decide) (by decide)).mono ?_
  rintro _ w' ⟨⟨v, rfl, hM⟩, hb⟩
  obtain ⟨o, c, rfl⟩ := mr_form hM rfl
  exact ⟨⟨o, c, rfl, hM⟩, hb⟩
theorem kn_cost {B : Nat} {W w : World} {R : Nat} {g : Nat → Prop} (h : Kn B W w R L5 g) :
    Calls Try.prog 16 #[.pointer (some ⟨R, 0, none⟩)] w fun en w' => en = .returned (.int .i64 164) ∧ w' = w := by
  obtain ⟨O, h1, h2, h3, h4, h5⟩ := h
  exact kcost_any h1
/-- two ends, and the two numbers between which those within stand -/
def Bd : Type := Nat × Bool × Nat × Bool × Nat × Nat
def bds : List Bd := [(0, false, fOne, false, 1, 3), (0, true, fOne, false, 2, 3), (fTwo, false, fTwo, true, 3, 3), (ninfB, false, infB, false, 0, 4), (4617315517961601024, false, 13840687554816376832, false, 4, 4), (nanB, false, fOne, false, 0, 0)]
theorem kn_within {B : Nat} {W w : World} {R k : Nat} {g : Nat → Prop} {d : Bd} (h : Kn B W w R L5 g) (hd : bds[k]? = some d) :
    Calls Try.prog 15 #[.pointer (some ⟨R, 0, none⟩), .agg #[.float .f64 d.1, .bool d.2.1], .agg #[.float .f64 d.2.2.1, .bool d.2.2.2.1]] w fun en w' => en = .returned (.tuple #[.int .i64 (d.2.2.2.2.1 : Int), .int .i64 (d.2.2.2.2.2 : Int)]) ∧ Below w.heap.size w w' := by
  obtain ⟨O, h1, h2, h3, h4, h5⟩ := h
  have key : ∀ a p b q A C, isNan a = false → isNan b = false → cnt1 L5 a p = A → max (cnt1 L5 a p) (cnt2 L5 b q) = C → d = (a, p, b, q, A, C) → Calls Try.prog 15 #[.pointer (some ⟨R, 0, none⟩), .agg #[.float .f64 d.1, .bool d.2.1], .agg #[.float .f64 d.2.2.1, .bool d.2.2.2.1]] w fun en w' => en = .returned (.tuple #[.int .i64 (d.2.2.2.2.1 : Int), .int .i64 (d.2.2.2.2.2 : Int)]) ∧ Below w.heap.size w w' := by
    rintro a p b q A C ha hb rfl rfl rfl
    exact kwithin_num h1 a b p q ha hb
  have hk : k < 6 := (List.getElem?_eq_some_iff.1 hd).1
  match k, hk with
  | 0, _ => exact key _ _ _ _ _ _ (by decide +kernel) (by decide +kernel) (by decide +kernel) (by decide +kernel) (Option.some.inj hd).symm
  | 1, _ => exact key _ _ _ _ _ _ (by decide +kernel) (by decide +kernel) (by decide +kernel) (by decide +kernel) (Option.some.inj hd).symm
  | 2, _ => exact key _ _ _ _ _ _ (by decide +kernel) (by decide +kernel) (by decide +kernel) (by decide +kernel) (Option.some.inj hd).symm
  | 3, _ => exact key _ _ _ _ _ _ (by decide +kernel) (by decide +kernel) (by decide +kernel) (by decide +kernel) (Option.some.inj hd).symm
  | 4, _ => exact key _ _ _ _ _ _ (by decide +kernel) (by decide +kernel) (by decide +kernel) (by decide +kernel) (Option.some.inj hd).symm
  | 5, _ =>
    obtain rfl := (Option.some.inj hd)
    exact kwithin_nan w R nanB fOne false false (.inl (by decide +kernel))
/-- a row laid anew -/
theorem lit {w : World} {g n : Nat} {M : List Ent} (hh : w.heap[g]? = some (.cells (enR M).toArray 30 (0, 0))) (hn : M.length = n) (hl : n ≤ 1000) : Mr 0 w (.slice (some ⟨g, 0, none⟩) n n) M := by
  unfold Mr
  have h2 := enR_len M
  rw [hn] at h2 ⊢
  exact own_of hh (Nat.le_refl _) (by unfold maxLen; omega) (by simpa using h2) (by rw [List.take_of_length_le (by simp [h2])]) h2
theorem copysign_any (w : World) : Calls Try.prog 6 #[.float .f64 0, .float .f64 13830554455654793216] w fun e w' => e = .returned (.float .f64 nz) ∧ w' = w := by
  have f1 := run_frombits
  have f2 := run_bits
  go_enter Try.func6, Try.ntmps6
  go_wp2
  go_ret
  exact ⟨rfl, rfl⟩
end Go.Proofs.Ytcknmenhjipaeab
