/-
  Contracts over this program: a step answers what the document says (the statements' own plays).
-/
import Derived.Test.YtgniiojeeobffaaPlPlay0
namespace Go.Proofs.Ytgniiojeeobffaa
open Go.RowKit Go.Shelf
set_option linter.unusedVariables false
set_option linter.unusedSimpArgs false
set_option maxRecDepth 100000
theorem ref_step {w w1 : World} {pb rb m : Nat} {v u u1 : Value} {l : List Ent} (hp : Pl w pb v m l) (hd : ∀ k ∈ bl pb v, k ∉ bl rb u) (hf : Fm (bl rb u) w (bl rb u1) w1) :
    Pl w1 pb v m l ∧ (∀ k ∈ bl pb v, k ∉ bl rb u1) ∧ Fm (bl pb v ++ bl rb u) w (bl pb v ++ bl rb u1) w1 := by
  have hk : ∀ k ∈ bl pb v, w1.heap[k]? = w.heap[k]? ∧ k ∉ bl rb u1 := fun k hk => hf.keeps (hp.lt k hk) (hd k hk)
  refine ⟨hp.kept (fun k h => (hk k h).1), fun k h => (hk k h).2, hf.1, hf.2.1, fun k hkl hnm => ?_⟩
  have h1 : k ∉ bl pb v := fun h => hnm (by simp [h])
  have h2 : k ∉ bl rb u := fun h => hnm (by simp [h])
  obtain ⟨e1, e2⟩ := hf.keeps hkl h2
  exact ⟨e1, fun h => by rcases List.mem_append.1 h with h | h; exact h1 h; exact e2 h⟩
theorem pool_step {w w1 : World} {pb rb m : Nat} {v v1 u : Value} {all : List Ent} (hr : Rp w rb u m all) (hd : ∀ k ∈ bl pb v, k ∉ bl rb u) (hf : Fm (bl pb v) w (bl pb v1) w1) :
    Rp w1 rb u m all ∧ (∀ k ∈ bl pb v1, k ∉ bl rb u) ∧ Fm (bl pb v ++ bl rb u) w (bl pb v1 ++ bl rb u) w1 := by
  have hk : ∀ k ∈ bl rb u, w1.heap[k]? = w.heap[k]? ∧ k ∉ bl pb v1 := fun k hk => hf.keeps (hr.lt k hk) (fun h => hd k h hk)
  refine ⟨hr.kept (fun k h => (hk k h).1), fun k h h' => (hk k h').2 h, hf.1, hf.2.1, fun k hkl hnm => ?_⟩
  have h1 : k ∉ bl pb v := fun h => hnm (by simp [h])
  have h2 : k ∉ bl rb u := fun h => hnm (by simp [h])
  obtain ⟨e1, e2⟩ := hf.keeps hkl h1
  exact ⟨e1, fun h => by rcases List.mem_append.1 h with h | h; exact e2 h; exact h2 h⟩
theorem has_perm {key : ByteArray} {a l : List Ent} (h : a.Perm l) : has key a = has key l := by
  cases e : has key l with
  | true => obtain ⟨x, hx, hk⟩ := has_iff.1 e; exact has_iff.2 ⟨x, h.mem_iff.2 hx, hk⟩
  | false => exact has_none (fun x hx hk => has_false e x (h.mem_iff.1 hx) hk)
/-- what a step leaves -/
def Pld (w : World) (pb : Nat) (v : Value) (rb : Nat) (u : Value) (m : Nat) (e : Ending) (w' : World) : Prop :=
  e = .returned (.bool true) ∧ ∃ v' u' l' all', Pr w' pb v' rb u' m l' all' ∧ Fm (bl pb v ++ bl rb u) w (bl pb v' ++ bl rb u') w'
def stO (who act : Int) (k : ByteArray) (x : Int) : Obj := .cells #[.int .i64 who, .int .i64 act, .string k, .int .u64 x] 34 (0, 0)
theorem st_cells {w : World} {X : Nat} {who act x : Int} {k : ByteArray} (h : w.heap[X]? = some (stO who act k x)) : w.cell? ⟨X, 1, none⟩ = some (.int .i64 act) ∧ w.cell? ⟨X, 2, none⟩ = some (.string k) ∧ w.cell? ⟨X, 3, none⟩ = some (.int .u64 x) := by
  refine ⟨?_, ?_, ?_⟩ <;> (rw [cell_of_row _ _ _ _ _ _ h]; rfl)
set_option maxHeartbeats 8000000 in
theorem plays_any (w : World) (pb rb m : Nat) (v u : Value) (l all : List Ent) (who act x : Int) (key : ByteArray) (h : Pr w pb v rb u m l all) :
    Calls Try.prog 10 #[.pointer (some ⟨pb, 0, none⟩), .pointer (some ⟨rb, 0, none⟩), .agg #[.int .i64 who, .int .i64 act, .string key, .int .u64 x]] w fun e w' => Pld w pb v rb u m e w' := by
  obtain ⟨X, hX⟩ : ∃ X, w.heap.size = X := ⟨_, rfl⟩
  obtain ⟨W1, hW1⟩ : ∃ W1, w.alloc (stO who act key x) = W1 := ⟨_, rfl⟩
  have hb1 : Below w.heap.size w W1 := by rw [← hW1]; exact (Below.refl _ w).alloc (Nat.le_refl _) _
  have gX : W1.heap[X]? = some (stO who act key x) := by rw [← hW1, ← hX]; exact heap_alloc_new _ _
  have h1 := h.bel hb1
  have hXn : X ∉ bl pb v ++ bl rb u := fun hk => by
    rcases List.mem_append.1 hk with hk | hk
    · have := h.pl.lt _ hk; omega
    · have := h.rp.lt _ hk; omega
  have hXl : X < W1.heap.size := (Array.getElem?_eq_some_iff.1 gX).1
  have H1 := keep h1
  have F1 : Kept (Fm (bl pb v ++ bl rb u) w (bl pb v ++ bl rb u) W1) := Fm.below hb1
  have HX : Kept (∀ M w', Fm (bl pb v ++ bl rb u) W1 M w' → w'.heap[X]? = some (stO who act key x) ∧ X ∉ M ∧ X < w'.heap.size) := fun M w' hf => by
    obtain ⟨e1, e2⟩ := hf.keeps hXl hXn
    exact ⟨e1.trans gX, e2, Nat.lt_of_lt_of_le hXl hf.2.1⟩
  obtain ⟨c1, c2, c3⟩ := st_cells gX
  have HLN : Kept (l.length ≤ 100000 ∧ all.length ≤ 100000) := by have := h.few; have := h.hi; have := h.perm.length_eq; exact ⟨by omega, by omega⟩
  unfold stO at hW1
  clear h h1 hb1 gX hXn hXl
  by_cases a0 : act = 0
  · subst a0
    have MR := keep (roffer_any W1 rb m u all l (key, x) H1.out.rp H1.out.perm H1.out.good H1.out.few H1.out.hi H1.out.lo)
    unfold agE at MR
    dsimp only at MR
    go_enter Try.func10, Try.ntmps10
    go_wp2_with fail
    try rw [hX]
    refine MR.out.mono ?_
    rintro _ w2 ⟨rfl, u2, all2, r2, pm2, f2⟩
    obtain ⟨p2, d2, ff2⟩ := ref_step H1.out.pl H1.out.dis f2
    obtain ⟨gx2, _, _⟩ := HX.out _ _ ff2
    obtain ⟨k1, k2, k3⟩ := st_cells gx2
    have MO := keep (offer_any w2 pb m v l (key, x) p2 H1.out.good H1.out.few H1.out.hi)
    unfold agE at MO
    dsimp only at MO
    have HD : Kept (∀ e w3, Did w2 pb m v (offL m (key, x) l) (.bool (offB m (key, x) l)) e w3 → e = .returned (.bool (offB m (key, x) l)) ∧ Pld w pb v rb u m (.returned (.bool true)) w3) := by
      rintro e w3 ⟨rfl, v3, p3, f3⟩
      obtain ⟨r3, d3, ff3⟩ := pool_step r2 d2 f3
      obtain ⟨o1, o2, _⟩ := off_all (c := (key, x)) H1.out.good H1.out.few
      exact ⟨rfl, rfl, v3, u2, _, all2, ⟨p3, r3, d3, o1, o2, pm2, H1.out.lo, H1.out.hi⟩, (F1.out.trans ff2).trans ff3⟩
    generalize offB m (key, x) l = rr at *
    clear r2 pm2 f2 p2 d2 ff2 gx2 MR c1 c2 c3
    go_wp2_with fail
    refine MO.out.mono ?_
    intro e w3 hd
    obtain ⟨rfl, hd'⟩ := HD.out _ _ hd
    have HD3 := keep hd'
    clear hd hd' HD MO
    cases rr <;> (go_wp2; first | exact HD3.out | (go_ret; exact HD3.out))
  · have a0b : (act == 0) = false := beq_eq_false_iff_ne.2 a0
    by_cases a1 : act = 1
    · subst a1
      have MR := keep (rdrop_any W1 rb m u all key H1.out.rp (H1.out.perm.symm.pairwise H1.out.good.2 (fun h => h.symm)) HLN.out.2)
      rw [has_perm H1.out.perm] at MR
      go_enter Try.func10, Try.ntmps10
      go_wp2_with fail
      refine MR.out.mono ?_
      rintro _ w2 ⟨rfl, u2, r2, f2⟩
      obtain ⟨p2, d2, ff2⟩ := ref_step H1.out.pl H1.out.dis f2
      obtain ⟨gx2, _, _⟩ := HX.out _ _ ff2
      obtain ⟨k1, k2, k3⟩ := st_cells gx2
      have MO := keep (drop_any w2 pb m v l key p2 H1.out.good HLN.out.1)
      have HD : Kept (∀ e w3, Did w2 pb m v (del key l) (.bool (has key l)) e w3 → e = .returned (.bool (has key l)) ∧ Pld w pb v rb u m (.returned (.bool true)) w3) := by
        rintro e w3 ⟨rfl, v3, p3, f3⟩
        obtain ⟨r3, d3, ff3⟩ := pool_step r2 d2 f3
        exact ⟨rfl, rfl, v3, u2, _, _, ⟨p3, r3, d3, good_del H1.out.good, Nat.le_trans (del_len _ _) H1.out.few, del_perm H1.out.perm, H1.out.lo, H1.out.hi⟩, (F1.out.trans ff2).trans ff3⟩
      generalize has key l = rr at *
      clear r2 f2 p2 d2 ff2 gx2 MR c1 c2 c3
      go_wp2_with fail
      refine MO.out.mono ?_
      intro e w3 hd
      obtain ⟨rfl, hd'⟩ := HD.out _ _ hd
      have HD3 := keep hd'
      clear hd hd' HD MO
      cases rr <;> (go_wp2; first | exact HD3.out | (go_ret; exact HD3.out))
    · have a1b : (act == 1) = false := beq_eq_false_iff_ne.2 a1
      by_cases a2 : act = 2
      · subst a2
        have MR := keep (rtake_any W1 rb m u all l H1.out.rp H1.out.perm H1.out.good HLN.out.1)
        have und := und_cd
        have stood := stood_cd
        have gua := guard_cd
        go_enter Try.func10, Try.ntmps10
        go_wp2_with fail
        refine MR.out.mono ?_
        rintro _ w2 ⟨rfl, u2, all2, r2, pm2, f2⟩
        obtain ⟨p2, d2, ff2⟩ := ref_step H1.out.pl H1.out.dis f2
        have D3 : Kept (∀ w3, Below w2.heap.size w2 w3 → Pl w3 pb v m l ∧ ∀ e w4, Did w3 pb m v l.tail (fstV l) e w4 → e = .returned (fstV l) ∧ (∀ k, k < w3.heap.size → w2.heap.size ≤ k → w4.heap[k]? = w3.heap[k]?) ∧ ∀ w5, Below w4.heap.size w4 w5 → Pld w pb v rb u m (.returned (.bool true)) w5) := fun w3 hb => by
          refine ⟨p2.bel hb, ?_⟩
          rintro e w4 ⟨rfl, v4, p4, f4⟩
          refine ⟨rfl, fun k hk hk2 => (f4.keeps hk (fun h => by have := p2.lt k h; omega)).1, fun w5 hb5 => ?_⟩
          obtain ⟨r4, d4, ff4⟩ := pool_step (r2.bel hb) d2 f4
          exact ⟨rfl, v4, u2, _, all2, (Pr.mk p4 r4 d4 (good_tail H1.out.good) (by have := H1.out.few; simp; omega) pm2 H1.out.lo H1.out.hi : Pr w4 pb v4 rb u2 m l.tail all2).bel hb5, (((F1.out.trans ff2).trans (Fm.below hb)).trans ff4).trans (Fm.below hb5)⟩
        clear r2 pm2 f2 p2 d2 ff2 MR c1 c2 c3 HX
        cases l with
        | nil =>
          unfold fstV at *
          dsimp only at *
          obtain ⟨D9, hD9⟩ : ∃ x, w2.heap.size = x := ⟨_, rfl⟩
          obtain ⟨W3, hW3⟩ : ∃ x, w2.alloc (.cells #[.string { data := #[] }, .int .u64 0] 32) = x := ⟨_, rfl⟩
          have g3 : W3.heap[D9]? = some (.cells #[.string { data := #[] }, .int .u64 0] 32 (0, 0)) := by rw [← hW3, ← hD9]; exact heap_alloc_new _ _
          have hb3 : Below w2.heap.size w2 W3 := by rw [← hW3]; exact (Below.refl _ w2).alloc (Nat.le_refl _) _
          obtain ⟨y0, y1, y2⟩ := cells_two g3
          obtain ⟨W4, hW4⟩ : ∃ x, (W3.setCell ⟨D9, 0, none⟩ (.string { data := #[] })).setCell ⟨D9, 1, none⟩ (.int .u64 0) = x := ⟨_, rfl⟩
          obtain ⟨g4, _⟩ := two_set g3 hW4
          have hb4 : Below w2.heap.size w2 W4 := by rw [← hW4]; exact (hb3.setCell (by rw [hD9]; exact Nat.le_refl _) _).setCell (by rw [hD9]; exact Nat.le_refl _) _
          obtain ⟨p4, q4⟩ := D3.out W4 hb4
          have Q4 := keep q4
          have MT := keep (take_any W4 pb m v [] p4 (by simp))
          unfold fstV at MT
          dsimp only at MT
          have G4 : Kept (W4.heap[D9]? = some (.cells #[.string { data := #[] }, .int .u64 0] 32 (0, 0)) ∧ D9 < W4.heap.size ∧ w2.heap.size ≤ D9) := ⟨g4, (Array.getElem?_eq_some_iff.1 g4).1, Nat.le_of_eq hD9⟩
          clear g3 hb3 g4 hb4 p4 q4 D3
          go_wp2_with fail
          refine MT.out.mono ?_
          intro e w5 hd
          obtain ⟨rfl, kp5, fin5⟩ := Q4.out _ _ hd
          have g5 := (kp5 D9 G4.out.2.1 G4.out.2.2).trans G4.out.1
          obtain ⟨D11, hD11⟩ : ∃ x, w5.heap.size = x := ⟨_, rfl⟩
          obtain ⟨W6, hW6⟩ : ∃ x, w5.alloc (.cells #[.string { data := #[] }, .int .u64 0] 32) = x := ⟨_, rfl⟩
          have g6 : W6.heap[D11]? = some (.cells #[.string { data := #[] }, .int .u64 0] 32 (0, 0)) := by rw [← hW6, ← hD11]; exact heap_alloc_new _ _
          have hb6 : Below w5.heap.size w5 W6 := by rw [← hW6]; exact (Below.refl _ w5).alloc (Nat.le_refl _) _
          obtain ⟨v0, v1, v2⟩ := cells_two g6
          obtain ⟨W7, hW7⟩ : ∃ x, (W6.setCell ⟨D11, 0, none⟩ (.string { data := #[] })).setCell ⟨D11, 1, none⟩ (.int .u64 0) = x := ⟨_, rfl⟩
          obtain ⟨g7, _⟩ := two_set g6 hW7
          have hb7 : Below w5.heap.size w5 W7 := by rw [← hW7]; exact (hb6.setCell (by rw [hD11]; exact Nat.le_refl _) _).setCell (by rw [hD11]; exact Nat.le_refl _) _
          obtain ⟨z0, z1, _⟩ := cells_two g7
          obtain ⟨s0, s1, _⟩ := cells_two ((hb7.block D9 (Array.getElem?_eq_some_iff.1 g5).1).trans g5)
          have HD := keep (fin5 W7 hb7)
          have er := eq_run (⟨#[]⟩, 0) (⟨#[]⟩, 0)
          rw [eqE_self] at er
          dsimp only at er
          clear hd kp5 fin5 g5 g6 hb6 g7 hb7 MT Q4 y0 y1 y2
          go_wp2
          first | exact HD.out | (go_ret; exact HD.out)
        | cons y l =>
          unfold fstV at *
          dsimp only at *
          obtain ⟨D9, hD9⟩ : ∃ x, w2.heap.size = x := ⟨_, rfl⟩
          obtain ⟨W4, hW4⟩ : ∃ x, w2.alloc (.cells #[.string y.1, .int .u64 y.2] 32) = x := ⟨_, rfl⟩
          have g4 : W4.heap[D9]? = some (.cells #[.string y.1, .int .u64 y.2] 32 (0, 0)) := by rw [← hW4, ← hD9]; exact heap_alloc_new _ _
          have hb4 : Below w2.heap.size w2 W4 := by rw [← hW4]; exact (Below.refl _ w2).alloc (Nat.le_refl _) _
          obtain ⟨p4, q4⟩ := D3.out W4 hb4
          have Q4 := keep q4
          have MT := keep (take_any W4 pb m v (y :: l) p4 HLN.out.1)
          unfold fstV at MT
          dsimp only at MT
          have G4 : Kept (W4.heap[D9]? = some (.cells #[.string y.1, .int .u64 y.2] 32 (0, 0)) ∧ D9 < W4.heap.size ∧ w2.heap.size ≤ D9) := ⟨g4, (Array.getElem?_eq_some_iff.1 g4).1, Nat.le_of_eq hD9⟩
          have er := eq_run y y
          rw [eqE_self] at er
          obtain ⟨y1, y2⟩ := y
          dsimp only at *
          clear g4 hb4 p4 q4 D3
          go_wp2_with fail
          refine MT.out.mono ?_
          intro e w5 hd
          obtain ⟨rfl, kp5, fin5⟩ := Q4.out _ _ hd
          have g5 := (kp5 D9 G4.out.2.1 G4.out.2.2).trans G4.out.1
          obtain ⟨D11, hD11⟩ : ∃ x, w5.heap.size = x := ⟨_, rfl⟩
          obtain ⟨W7, hW7⟩ : ∃ x, w5.alloc (.cells #[.string y1, .int .u64 y2] 32) = x := ⟨_, rfl⟩
          have g7 : W7.heap[D11]? = some (.cells #[.string y1, .int .u64 y2] 32 (0, 0)) := by rw [← hW7, ← hD11]; exact heap_alloc_new _ _
          have hb7 : Below w5.heap.size w5 W7 := by rw [← hW7]; exact (Below.refl _ w5).alloc (Nat.le_refl _) _
          obtain ⟨z0, z1, _⟩ := cells_two g7
          obtain ⟨s0, s1, _⟩ := cells_two ((hb7.block D9 (Array.getElem?_eq_some_iff.1 g5).1).trans g5)
          have HD := keep (fin5 W7 hb7)
          clear hd kp5 fin5 g5 g7 hb7 MT Q4
          go_wp2
          first | exact HD.out | (go_ret; exact HD.out)
      · have a2b : (act == 2) = false := beq_eq_false_iff_ne.2 a2
        by_cases a3 : act = 3
        · subst a3
          have MR := keep (row_any W1 pb rb m v u l all H1.out)
          have HD : Kept (∀ w3, Below W1.heap.size W1 w3 → Pld w pb v rb u m (.returned (.bool true)) w3) := fun w3 hb => ⟨rfl, v, u, l, all, H1.out.bel hb, F1.out.trans (Fm.below hb)⟩
          go_enter Try.func10, Try.ntmps10
          go_wp2_with fail
          refine MR.out.mono ?_
          rintro _ w2 ⟨rfl, hb2⟩
          have HD2 := keep (HD.out w2 hb2)
          clear hb2 HD MR
          go_wp2
          first | exact HD2.out | (go_ret; exact HD2.out)
        · have a3b : (act == 3) = false := beq_eq_false_iff_ne.2 a3
          by_cases a4 : act = 4
          · subst a4
            have MR := keep (rclear_any W1 rb m u all H1.out.rp)
            go_enter Try.func10, Try.ntmps10
            go_wp2_with fail
            refine MR.out.mono ?_
            rintro _ w2 ⟨rfl, u2, r2, f2⟩
            obtain ⟨p2, d2, ff2⟩ := ref_step H1.out.pl H1.out.dis f2
            have MO := keep (clear_any w2 pb m v l p2)
            have HD : Kept (∀ e w3, Did w2 pb m v [] (.tuple #[]) e w3 → e = .returned (.tuple #[]) ∧ Pld w pb v rb u m (.returned (.bool true)) w3) := by
              rintro e w3 ⟨rfl, v3, p3, f3⟩
              obtain ⟨r3, d3, ff3⟩ := pool_step r2 d2 f3
              exact ⟨rfl, rfl, v3, u2, [], [], ⟨p3, r3, d3, good0, by simp, List.Perm.refl _, H1.out.lo, H1.out.hi⟩, (F1.out.trans ff2).trans ff3⟩
            clear r2 f2 p2 d2 ff2 MR c1 c2 c3
            go_wp2_with fail
            refine MO.out.mono ?_
            intro e w3 hd
            obtain ⟨rfl, hd'⟩ := HD.out _ _ hd
            have HD3 := keep hd'
            clear hd hd' HD MO
            go_wp2
            first | exact HD3.out | (go_ret; exact HD3.out)
          · have a4b : (act == 4) = false := beq_eq_false_iff_ne.2 a4
            have HD : Kept (Pld w pb v rb u m (.returned (.bool true)) W1) := ⟨rfl, v, u, l, all, H1.out, F1.out⟩
            go_enter Try.func10, Try.ntmps10
            go_wp2
            first | exact HD.out | (go_ret; exact HD.out)
end Go.Proofs.Ytgniiojeeobffaa
