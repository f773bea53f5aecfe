/-
  What the program's memory holds of a pool: its struct and its row, each in a block of its own. Contracts: a copy of a row; one is taken out.
-/
import Derived.Test.YthmmblohfjmbcaaGreatVPlSeek
import Derived.Laws.ResultCell
namespace Go.Proofs.YthmmblohfjmbcaaGreat.DV
open Go.RowKit Go.Shelf
set_option linter.unusedVariables false
set_option maxRecDepth 100000
/-- a row of candidates that is somebody's own -/
def Row (w : World) (v : Value) (l : List Ent) : Prop := w.ownsRow 0 65 2 v l.length (enR l)
/-- a pool: its block, its row, how many it may hold, what it holds -/
def Pl (w : World) (b : Nat) (v : Value) (m : Nat) (l : List Ent) : Prop :=
  w.heap[b]? = some (.cells #[.int .i64 (m : Int), v] 50 (0, 0)) ∧ Row w v l ∧ v.ownBlock ≠ some b
/-- its blocks -/
def bl (b : Nat) (v : Value) : List Nat := b :: v.ownBlock.toList
theorem Row.kept {w w' : World} {v : Value} {l : List Ent} (h : Row w v l) (hk : ∀ k, v.ownBlock = some k → w'.heap[k]? = w.heap[k]?) : Row w' v l := own_kept h hk
theorem Row.form {w : World} {v : Value} {l : List Ent} (h : Row w v l) : (v = .slice none 0 0 ∧ l = []) ∨ ∃ g c, v = .slice (some ⟨g, 0, none⟩) l.length c ∧ l.length ≤ c ∧ c ≤ maxLen := by
  rcases h.2 with ⟨h1, h2⟩ | ⟨g, c, cur, h', _, _, q1, q2, _⟩
  · exact .inl ⟨h1, List.length_eq_zero_iff.1 h2⟩
  · exact .inr ⟨g, c, h', q1, q2⟩
theorem Row.lt {w : World} {v : Value} {l : List Ent} (h : Row w v l) {k : Nat} (hk : v.ownBlock = some k) : k < w.heap.size := own_lt h hk
theorem Row.bel {w w' : World} {v : Value} {l : List Ent} (h : Row w v l) (hb : Below w.heap.size w w') : Row w' v l := h.kept (fun k hk => hb.block k (h.lt hk))
theorem Pl.lt {w : World} {b : Nat} {v : Value} {m : Nat} {l : List Ent} (h : Pl w b v m l) : ∀ k ∈ bl b v, k < w.heap.size := by
  intro k hk
  rcases List.mem_cons.1 hk with rfl | hk
  · exact (Array.getElem?_eq_some_iff.1 h.1).1
  · exact h.2.1.lt (by simpa using hk)
theorem Pl.kept {w w' : World} {b : Nat} {v : Value} {m : Nat} {l : List Ent} (h : Pl w b v m l) (hk : ∀ k ∈ bl b v, w'.heap[k]? = w.heap[k]?) : Pl w' b v m l :=
  ⟨(hk b (by simp [bl])).trans h.1, h.2.1.kept (fun k e => hk k (by simp [bl, e])), h.2.2⟩
theorem Pl.bel {w w' : World} {b : Nat} {v : Value} {m : Nat} {l : List Ent} (h : Pl w b v m l) (hb : Below w.heap.size w w') : Pl w' b v m l := h.kept (fun k hk => hb.block k (h.lt k hk))
theorem Pl.cells {w : World} {b : Nat} {v : Value} {m : Nat} {l : List Ent} (h : Pl w b v m l) : w.cell? ⟨b, 0, none⟩ = some (.int .i64 (m : Int)) ∧ w.cell? ⟨b, 1, none⟩ = some v ∧ ∀ i, w.frozen? ⟨b, i, none⟩ = false := by
  refine ⟨?_, ?_, fun i => ?_⟩ <;> simp [World.cell?, World.frozen?, h.1]
theorem size_cd : (Tryz.prog.info? 65).map (·.size) = some 2 := by kernel_rfl
/-- a copy of a row -/
def Cpy (w : World) (l : List Ent) (e : Ending) (w' : World) : Prop :=
  ∃ v, e = .returned v ∧ Row w' v l ∧ (∀ k, v.ownBlock = some k → w.heap.size ≤ k) ∧ Below w.heap.size w w'
set_option maxHeartbeats 1000000 in
theorem clone_any (w : World) (v : Value) (l : List Ent) (h : Row w v l) (hn : l.length ≤ 2000000) :
    Calls Tryz.prog 45 #[v] w fun e w' => Cpy w l e w' := by
  obtain ⟨i0, hi0, hz0, hz1, hz2⟩ := info_parts info_rk
  have uT := Tryz.underlying48
  have q22 : ∀ (w : World) (a : Option Addr) (n c n' c' : Nat), (binOp .eql 48 (.slice a n c) (.slice none n' c')).run Tryz.prog w = .ok (.bool a.isNone) w := fun w a n c n' c' => Lib.run_eql_slice_nil w _ _ a n c n' c' uT
  rcases h.form with ⟨rfl, rfl⟩ | ⟨g, c, rfl, hc1, hc2⟩
  · have HP : Kept (Cpy w [] (.returned (.slice none 0 0)) w) := ⟨_, rfl, h, fun k hk => (by cases hk), Below.refl _ _⟩
    generalize Cpy w [] = Q at *
    clear h
    go_enter Tryz.func45, Tryz.ntmps45
    go_wp2
    first | exact HP.out | (go_ret; exact HP.out)
  · obtain ⟨W1, hW1⟩ : ∃ W1, w.alloc (.cells #[] 65) = W1 := ⟨_, rfl⟩
    have hb1 : Below w.heap.size w W1 := by rw [← hW1]; exact (Below.refl _ w).alloc (Nat.le_refl _) _
    have hown : W1.ownsRow w.heap.size 65 2 (.slice (some ⟨w.heap.size, 0, none⟩) 0 0) 0 [] := by rw [← hW1]; exact World.ownsRow_made w #[] 0 (Nat.le_refl _) (Nat.zero_le _) (by simp)
    have hsrc : ∀ j u, (enR l)[j]? = some u → W1.cell? ((⟨g, 0, none⟩ : Addr).add j) = some u := fun j u hj => by
      have := World.ownsRow.cells h (g := g) rfl j u hj
      rw [add_at] at this ⊢
      exact (hb1.cell (p := ⟨g, 0 + j, none⟩) (World.block_lt_of_cell? _ _ this)).trans this
    have hrun : ∃ v' W2, (Builtin.append_ #[48, 48] 48 #[.slice (some ⟨w.heap.size, 0, none⟩) 0 0, .slice (some ⟨g, 0, none⟩) l.length c]).run Tryz.prog W1 = .ok v' W2 ∧ Cpy w l (.returned v') W2 := by
      rcases Nat.eq_zero_or_pos l.length with h0 | hp
      · obtain rfl := List.length_eq_zero_iff.1 h0
        refine ⟨.slice (some ⟨w.heap.size, 0, none⟩) 0 0, W1, ?_, _, rfl, ?_, fun k hk => (by cases hk; exact Nat.le_refl _), hb1⟩
        · have hf : (Builtin.firstCells i0.size 0 (.slice (some ⟨g, 0, none⟩) 0 c)).run Tryz.prog W1 = .ok #[] W1 := run_firstCells_some (P := Tryz.prog) W1 i0.size 0 ⟨g, 0, none⟩ 0 c [] (by simp) (by simp)
          rw [hz1] at hf
          simp [Builtin.append_, run_underlying uT, hi0, typeInfo, Builtin.lenOf, hf]
          rfl
        · obtain ⟨l1, l2⟩ := hown
          refine ⟨rfl, ?_⟩
          rcases l2 with h' | ⟨g', cap', cur, e, _, rest⟩
          · exact .inl h'
          · exact .inr ⟨g', cap', cur, e, Nat.zero_le _, by simpa [enR] using rest⟩
      · obtain ⟨g', cap, W2, r1, r2, r3, r4, r5⟩ := run_append_lies (P := Tryz.prog) W1 48 48 w.heap.size 65 i0 _ 2 24 uT hi0 hz0 hz1 hz2 (by simp [Value.cells]) (by decide) _ 0 [] hown ⟨g, 0, none⟩ l.length c (enR l) (enR_len l) hsrc enR_one hp (by unfold maxLen; omega) (by omega) hb1.size W1.heap.size rfl
        rw [Nat.zero_add] at r1 r2
        refine ⟨_, W2, r1, _, rfl, ?_, fun k hk => (by cases hk; exact (r2.lt g' rfl).1), hb1.grown r3 hb1.size (fun k hk => by cases hk; exact Nat.le_refl _)⟩
        obtain ⟨l1, l2⟩ := r2
        refine ⟨by simpa using l1, ?_⟩
        rcases l2 with ⟨h', _⟩ | ⟨g', cap', cur, e, _, rest⟩
        · cases h'
        · exact .inr ⟨g', cap', cur, e, Nat.zero_le _, by simpa using rest⟩
    obtain ⟨v', W2, hr, hp⟩ := hrun
    have R1 := keep hr
    have HP := keep hp
    generalize Cpy w l = Q at *
    clear h hown hsrc hr hp hb1 hc1 hc2 hn
    subst hW1
    go_enter Tryz.func45, Tryz.ntmps45
    go_wp2_with (at_builtin; refine wpList_app_run rfl _ _ _ _ rfl _ _ _ rfl rfl R1.out ?_)
    first | exact HP.out | (go_ret; exact HP.out)
theorem cells_two {w : World} {b : Nat} {v0 v1 : Value} {t : TypeId} (h : w.heap[b]? = some (.cells #[v0, v1] t (0, 0))) :
    w.cell? ⟨b, 0, none⟩ = some v0 ∧ w.cell? ⟨b, 1, none⟩ = some v1 ∧ ∀ i, w.frozen? ⟨b, i, none⟩ = false := by
  refine ⟨?_, ?_, fun i => ?_⟩ <;> simp [World.cell?, World.frozen?, h]
theorem cells_set {w : World} {b i : Nat} {cur : Array Value} {t : TypeId} {fr : Nat × Nat} {u : Value} (h : w.heap[b]? = some (.cells cur t fr)) : (w.setCell ⟨b, i, none⟩ u).heap[b]? = some (.cells (cur.setIfInBounds i u) t fr) := by
  have hlt := (Array.getElem?_eq_some_iff.1 h).1
  simp [World.setCell, Array.getElem?_modify, h]
set_option maxHeartbeats 1000000 in
theorem takeOut_any (w : World) (b m at' : Nat) (v : Value) (l : List Ent) (x : Ent) (h : Pl w b v m l) (hx : l[at']? = some x) (hn : l.length ≤ 100000) :
    Calls Tryz.prog 33 #[.pointer (some ⟨b, 0, none⟩), .int .i64 (at' : Int)] w fun e w' => e = .returned (agE x) ∧ ∃ v', Pl w' b v' m (l.take at' ++ l.drop (at' + 1)) ∧ Fm (bl b v) w (bl b v') w' := by
  rcases h.2.1.form with ⟨rfl, rfl⟩ | ⟨g, c, rfl, hc1, hc2⟩
  · simp at hx
  obtain ⟨c0, c1, c2⟩ := h.cells
  obtain ⟨e0, e1⟩ := cel_of h.2.1 at' x hx
  have hal := (List.getElem?_eq_some_iff.1 hx).1
  obtain ⟨n, hln⟩ : ∃ n, l.length = n := ⟨_, rfl⟩
  obtain ⟨n', hn'⟩ : ∃ n', n = n' + 1 := ⟨n - 1, by omega⟩
  obtain ⟨x1, x2⟩ := x
  have hrow : w.ownsRow 0 65 2 (.slice (some ⟨g, 0, none⟩) n c) n (enR l) := by have := h.2.1; unfold Row at this; rw [hln] at this; exact this
  have hbg : b ≠ g := fun e => h.2.2 (by rw [e]; rfl)
  have hbl : b < w.heap.size := World.block_lt_of_cell? _ _ c1
  have hgl : g < w.heap.size := World.block_lt_of_cell? _ _ e0
  have hw : IntKind.i64.wrap ((at' : Int) + 1) = (at' : Int) + 1 := by rw [IntKind.wrap_i64]; omega
  have i0 : (0 : Int) ≤ (at' : Int) := by omega
  have i1 : (at' : Int) < (n : Int) := by omega
  unfold agE
  dsimp only at *
  rw [hln] at c1
  obtain ⟨W1, hW1⟩ : ∃ W1, w.alloc (.cells #[.string { data := #[] }, .int .u64 0] 65) = W1 := ⟨_, rfl⟩
  have hb1 : Below w.heap.size w W1 := by rw [← hW1]; exact (Below.refl _ w).alloc (Nat.le_refl _) _
  have hs1 : W1.heap.size = w.heap.size + 1 := by rw [← hW1]; simp
  have g1 : W1.heap[w.heap.size]? = some (.cells #[.string { data := #[] }, .int .u64 0] 65 (0, 0)) := by rw [← hW1]; exact heap_alloc_new _ _
  obtain ⟨W2, hW2⟩ : ∃ W2, W1.alloc (.cells #[.string x1, .int .u64 x2] 65) = W2 := ⟨_, rfl⟩
  have hb2 : Below W1.heap.size W1 W2 := by rw [← hW2]; exact (Below.refl _ W1).alloc (Nat.le_refl _) _
  have g2 : W2.heap[W1.heap.size]? = some (.cells #[.string x1, .int .u64 x2] 65 (0, 0)) := by rw [← hW2]; exact heap_alloc_new _ _
  have hb12 := Below.up hb1 hb2
  have hs2 : W2.heap.size = w.heap.size + 2 := by rw [← hW2, World.size_alloc, hs1]
  have hrow2 : W2.ownsRow 0 65 2 (.slice (some ⟨g, 0, none⟩) n c) n (enR l) := own_kept hrow (fun k hk => by cases hk; exact hb12.block g hgl)
  have mD := delM_any W2 g n n' c at' (enR l) hrow2 hn' (by omega) enR_one
  have nu : ∀ {p : Addr} {u : Value}, w.cell? p = some u → W1.cell? p = some u := fun {p u} h => (hb1.cell (p := p) (World.block_lt_of_cell? _ _ h)).trans h
  obtain ⟨oM, hoM⟩ : ∃ o, o = at' * 2 := ⟨_, rfl⟩
  rw [← hoM] at e0 e1
  have hoM' : at' * 2 = oM := hoM.symm
  have k1 := nu c1
  have f0 := nu e0
  have f1 := nu e1
  have k2 : W2.cell? ⟨b, 1, none⟩ = some (.slice (some ⟨g, 0, none⟩) n c) := (hb12.cell (p := ⟨b, 1, none⟩) hbl).trans c1
  have HB : Kept (W2.heap[b]? = some (.cells #[.int .i64 (m : Int), .slice (some ⟨g, 0, none⟩) n c] 50 (0, 0))) := by
    have := (hb12.block b hbl).trans h.1; rw [hln] at this; exact this
  have HG1 : Kept (W2.heap[w.heap.size]? = some (.cells #[.string { data := #[] }, .int .u64 0] 65 (0, 0))) := (hb2.block _ (by omega)).trans g1
  have HG2 := keep g2
  have MD := keep mD
  have HA : Kept (n = n' + 1 ∧ at' < n ∧ l.length = n ∧ b ≠ g ∧ b < w.heap.size ∧ g < w.heap.size ∧ W1.heap.size = w.heap.size + 1 ∧ W2.heap.size = w.heap.size + 2 ∧ Below w.heap.size w W2) := ⟨hn', by omega, hln, hbg, hbl, hgl, hs1, hs2, hb12⟩
  clear h hx c0 c1 e0 e1 hb1 hb2 nu c2 hoM hc2 mD g1 g2 hs1 hs2 hb12 hrow hrow2 hbg hbl hgl hal hn' hc1 hn
  rw [hln]
  clear hln
  go_enter Tryz.func33, Tryz.ntmps33
  go_wp2_with fail
  refine MD.out.mono ?_
  rintro _ W3 ⟨rfl, hr3, ho3⟩
  obtain ⟨q1, q2, q3, q4, q5, q6, q7, q8, q9⟩ := HA.out
  have hbb : W3.heap[b]? = some (.cells #[.int .i64 (m : Int), .slice (some ⟨g, 0, none⟩) n c] 50 (0, 0)) := (ho3.2.2 b q4).trans HB.out
  have hH1 : W3.heap[w.heap.size]? = some (.cells #[.string { data := #[] }, .int .u64 0] 65 (0, 0)) := (ho3.2.2 _ (by omega)).trans HG1.out
  have hH2 : W3.heap[W1.heap.size]? = some (.cells #[.string x1, .int .u64 x2] 65 (0, 0)) := (ho3.2.2 _ (by omega)).trans HG2.out
  obtain ⟨a0, a1, a2⟩ := cells_two hbb
  obtain ⟨W4, hW4⟩ : ∃ W4, W3.setCell ⟨b, 1, none⟩ (.slice (some ⟨g, 0, none⟩) n' c) = W4 := ⟨_, rfl⟩
  have hbb4 : W4.heap[b]? = some (.cells #[.int .i64 (m : Int), .slice (some ⟨g, 0, none⟩) n' c] 50 (0, 0)) := by rw [← hW4]; exact cells_set hbb
  have hk4 : ∀ k, k ≠ b → W4.heap[k]? = W3.heap[k]? := fun k hk => by rw [← hW4]; exact Below.heap_setCell _ _ _ _ hk
  have hH14 := (hk4 _ (by omega)).trans hH1
  have hH24 := (hk4 _ (by omega)).trans hH2
  obtain ⟨b0, b1, b2⟩ := cells_two hH14
  obtain ⟨d0, d1, d2⟩ := cells_two hH24
  obtain ⟨W5, hW5⟩ : ∃ W5, (W4.setCell ⟨w.heap.size, 0, none⟩ (.string x1)).setCell ⟨w.heap.size, 1, none⟩ (.int .u64 x2) = W5 := ⟨_, rfl⟩
  have HH := keep hH14
  have HK4 := keep hk4
  have HB4 := keep hbb4
  have HR3 := keep hr3
  have HO3 := keep ho3
  clear hbb hH1 hH2 hH14 hH24 q1 q2 q3 q4 q5 q6 q7 q8 q9 hk4 hbb4 hr3 ho3
  go_wp2_with fail
  obtain ⟨q1, q2, q3, q4, q5, q6, q7, q8, q9⟩ := HA.out
  have hk5 : ∀ k, k ≠ w.heap.size → W5.heap[k]? = W4.heap[k]? := fun k hk => by rw [← hW5, Below.heap_setCell _ _ _ _ hk, Below.heap_setCell _ _ _ _ hk]
  have h15 : W5.heap[w.heap.size]? = some (.cells #[.string x1, .int .u64 x2] 65 (0, 0)) := by
    rw [← hW5, cells_set (cells_set HH.out)]; rfl
  refine bodyPost_ret (results_cell_row rfl _ W5 w.heap.size 65 #[.string x1, .int .u64 x2] (0, 0) _ rfl h15 Tryz.underlying65 rfl size_cd) rfl ?_
  refine ⟨rfl, .slice (some ⟨g, 0, none⟩) n' c, ⟨(hk5 b (by omega)).trans HB4.out, ?_, fun e => q4 (by injection e with e; exact e.symm)⟩, ?_⟩
  · have hl : (l.take at' ++ l.drop (at' + 1)).length = n' := by rw [List.length_append, List.length_take, List.length_drop]; omega
    unfold Row
    rw [hl, enR_cut]
    exact own_kept HR3.out (fun k hk => by cases hk; exact (hk5 g (by omega)).trans (HK4.out g (Ne.symm q4)))
  · have ho := HO3.out
    have hs : W5.heap.size = W3.heap.size := by rw [← hW5, ← hW4]; simp [World.setCell]
    have hbe := q9
    refine ⟨⟨?_, ?_, ?_⟩, ?_, fun k hk hnm => ⟨?_, hnm⟩⟩
    · rw [← hW5, ← hW4]; exact ho.1.1.trans hbe.os
    · rw [← hW5, ← hW4]; exact ho.1.2.1.trans hbe.tape
    · rw [← hW5, ← hW4]; exact ho.1.2.2.trans hbe.output
    · rw [hs, ho.2.1]; omega
    · have h1 : k ≠ b := fun e => hnm (by rw [e]; simp [bl])
      have h2 : k ≠ g := fun e => hnm (by rw [e]; simp [bl, Value.ownBlock])
      exact (hk5 k (by omega)).trans ((HK4.out k h1).trans ((ho.2.2 k h2).trans (hbe.block k hk)))
end Go.Proofs.YthmmblohfjmbcaaGreat.DV
