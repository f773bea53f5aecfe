/-
  Contracts over this program: Drop and Take of the document's own pool.
-/
import Derived.Test.YtgniiojeeobffaaPlRef1
import Derived.Test.YtgniiojeeobffaaPlSoon1
namespace Go.Proofs.Ytgniiojeeobffaa
open Go.RowKit Go.Shelf
set_option linter.unusedVariables false
set_option linter.unusedSimpArgs false
set_option maxRecDepth 100000
/-- some are laid behind a row of one's own -/
theorem mine_cat {w0 w : World} {u : Value} {l l2 : List Ent} {ad : Addr} {m c : Nat} (h : Mine w0 w u l) (hm : l2.length = m) (hs : ∀ j x, (enR l2)[j]? = some x → w.cell? (ad.add j) = some x) (hn : (l.length + l2.length) * 24 ≤ 140737488355328) :
    ∃ v' w', (Builtin.append_ #[43, 43] 43 #[u, .slice (some ad) m c]).run Try.prog w = .ok v' w' ∧ Mine w0 w' v' (l ++ l2) ∧ w.grownBy w' u.ownBlock := by
  obtain ⟨i0, hi0, hz0, hz1, hz2⟩ := info_parts info_rk
  have uT := Try.underlying43
  subst hm
  obtain ⟨v', W, r1, r2, r3, r4, r5⟩ := run_append_own_at (P := Try.prog) w 0 43 43 32 i0 _ 2 24 uT hi0 hz0 hz1 hz2 (by simp [Value.cells]) (by decide) u l.length (enR l) h.1 ad l2.length c (enR l2) (enR_len l2) hs enR_one (by unfold maxLen; omega) hn (Nat.zero_le _)
  refine ⟨v', W, r1, ⟨?_, ?_, ?_⟩, r3⟩
  · unfold Row
    rw [List.length_append, enR_app]
    exact r2
  · intro k hk
    rcases r5 with e | e
    · exact h.2.1 k (by rw [← e]; exact hk)
    · rw [e] at hk; cases hk; exact h.2.2.size
  · exact h.2.2.grown r3 h.2.2.size h.2.1
theorem mine0 (w : World) : Mine w w (.slice none 0 0) [] := ⟨⟨rfl, .inl ⟨rfl, rfl⟩⟩, fun k hk => (by cases hk), Below.refl _ _⟩
set_option maxHeartbeats 2000000 in
theorem rdrop_any (w : World) (b m : Nat) (v : Value) (all : List Ent) (key : ByteArray) (h : Rp w b v m all) (hg : all.Pairwise (fun a b => a.1 ≠ b.1)) (hn : all.length ≤ 100000) :
    Calls Try.prog 22 #[.pointer (some ⟨b, 0, none⟩), .string key] w fun e w' => Rid w b m v (del key all) (.bool (has key all)) e w' := by
  have MX := keep (at_any w b m v all key h (by omega))
  have HP : Kept (∀ w2, Below w.heap.size w w2 → Rp w2 b v m all ∧ Fm (bl b v) w (bl b v) w2) := fun w2 hb => ⟨h.bel hb, Fm.below hb⟩
  have HG := keep hg
  have HN := keep hn
  have HBL : Kept (b < w.heap.size) := h.lt b (by simp [bl])
  clear h hg hn
  go_enter Try.func22, Try.ntmps22
  go_wp2_with fail
  refine MX.out.mono ?_
  rintro _ w2 ⟨⟨r, rfl, hf⟩, hb2⟩
  have HP2 := keep (HP.out w2 hb2)
  have B2 := keep hb2
  clear HP MX hb2
  rcases hf with ⟨rfl, hne⟩ | ⟨p, x, rfl, hp⟩
  · have HD : Kept (Rid w b m v (del key all) (.bool (has key all)) (.returned (.bool false)) w2) := by
      rw [del_none hne, has_none hne]
      exact ⟨rfl, v, HP2.out.1, HP2.out.2⟩
    clear hne HP2
    go_wp2
    first | exact HD.out | (go_ret; exact HD.out)
  · obtain ⟨i0, hi0, hz0, hz1, hz2⟩ := info_parts info_rk
    have uT := Try.underlying43
    have hpl := (List.getElem?_eq_some_iff.1 hp).1
    rcases HP2.out.1.2.1.form with ⟨_, e⟩ | ⟨g, cp, rfl, hc1, hc2⟩
    · rw [e] at hpl; simp at hpl
    obtain ⟨n, hln⟩ : ∃ n, all.length = n := ⟨_, rfl⟩
    obtain ⟨_, k1, _⟩ := HP2.out.1.cells
    rw [hln] at k1
    have hs1 : ∀ w, (Instr.slice 43 (.slice (some ⟨g, 0, none⟩) n cp) none (some (.int .i64 (p : Int))) none).run Try.prog w = .ok (.slice (some ⟨g, 0, none⟩) p cp) w := fun w => by
      rw [slice_run w _ _ uT i0 hi0 ⟨g, 0, none⟩ n cp 0 p cp _ _ _ (.inl ⟨rfl, rfl⟩) (.inr ⟨rfl, by omega⟩) (.inl ⟨rfl, rfl⟩)]
      rw [Nat.zero_mul, add_at, Nat.zero_add, ite_self]; rfl
    obtain ⟨q1, hq1⟩ : ∃ q : Int, (p : Int) + 1 = q := ⟨_, rfl⟩
    have hwq : IntKind.i64.wrap ((p : Int) + 1) = q1 := by have := HN.out; rw [IntKind.wrap_i64]; omega
    obtain ⟨r2, hr2⟩ : ∃ r, n - (p + 1) = r := ⟨_, rfl⟩
    obtain ⟨c2, hcc2⟩ : ∃ r, cp - (p + 1) = r := ⟨_, rfl⟩
    obtain ⟨A, hA, hs2⟩ : ∃ A : Addr, (A = ⟨g, (p + 1) * 2, none⟩ ∨ r2 = 0) ∧ ∀ w, (Instr.slice 43 (.slice (some ⟨g, 0, none⟩) n cp) (some (.int .i64 q1)) none none).run Try.prog w = .ok (.slice (some A) r2 c2) w := by
      refine ⟨if cp = p + 1 then ⟨g, 0, none⟩ else ⟨g, (p + 1) * 2, none⟩, ?_, fun w => ?_⟩
      · by_cases hcp : cp = p + 1
        · exact .inr (by omega)
        · rw [if_neg hcp]; exact .inl rfl
      · rw [← hq1, show (p : Int) + 1 = ((p + 1 : Nat) : Int) by omega, slice_run w _ _ uT i0 hi0 ⟨g, 0, none⟩ n cp (p + 1) n cp _ _ _ (.inl ⟨rfl, rfl⟩) (.inl ⟨rfl, rfl, rfl⟩) (.inr ⟨rfl, by omega⟩), hz1, add_at, Nat.zero_add, hr2, hcc2]
    have hcell : ∀ (wz : World), Row wz (.slice (some ⟨g, 0, none⟩) n cp) all → ∀ j u, (enR all)[j]? = some u → wz.cell? ⟨g, j, none⟩ = some u := fun wz hr j u hj => by
      have := World.ownsRow.cells hr (g := g) rfl j u hj
      rwa [add_at, Nat.zero_add] at this
    have hrow2 : Row w2 (.slice (some ⟨g, 0, none⟩) n cp) all := by have := HP2.out.1.2.1; rw [hln] at this; exact this
    obtain ⟨u1, W3, a1, m1, g1⟩ := mine_cat (ad := ⟨g, 0, none⟩) (m := p) (c := cp) (l2 := all.take p) (mine0 w2) (by rw [List.length_take]; omega) (fun j x hj => by
      rw [enR_take, List.getElem?_take] at hj
      split at hj
      · rw [add_at, Nat.zero_add]; exact hcell w2 hrow2 j x hj
      · cases hj) (by have := HN.out; simp only [List.length_nil, List.length_take]; omega)
    rw [List.nil_append] at m1
    have hb3 : Below w2.heap.size w2 W3 := m1.2.2
    have hrow3 := hrow2.bel hb3
    obtain ⟨u2, W4, a2, m2, g2⟩ := mine_cat (ad := A) (m := r2) (c := c2) (l2 := all.drop (p + 1)) m1 (by rw [List.length_drop]; omega) (fun j x hj => by
      rcases hA with rfl | h0
      · rw [enR_drop, List.getElem?_drop] at hj
        rw [add_at]; exact hcell W3 hrow3 _ x hj
      · have := (List.getElem?_eq_some_iff.1 hj).1
        rw [enR_len, List.length_drop] at this
        omega) (by have := HN.out; simp only [List.length_drop, List.length_take]; omega)
    obtain ⟨ao2, n2, cc, rfl⟩ := m2.1.slice
    have k3 : W3.cell? ⟨b, 1, none⟩ = some (.slice (some ⟨g, 0, none⟩) n cp) := (hb3.cell (p := ⟨b, 1, none⟩) (World.block_lt_of_cell? _ _ k1)).trans k1
    have hb4 : Below w2.heap.size w2 W4 := m2.2.2
    have hblk := (hb4.block b (Nat.lt_of_lt_of_le HBL.out B2.out.size)).trans HP2.out.1.1
    obtain ⟨_, k4, z4⟩ := cells_two hblk
    obtain ⟨W5, hW5⟩ : ∃ x, W4.setCell ⟨b, 1, none⟩ (.slice ao2 n2 cc) = x := ⟨_, rfl⟩
    have HD : Kept (Rid w b m (.slice (some ⟨g, 0, none⟩) all.length cp) (del key all) (.bool (has key all)) (.returned (.bool true)) W5) := by
      have hbw : Below w.heap.size w W4 := Below.up B2.out hb4
      have hne2 : (Value.slice ao2 n2 cc).ownBlock ≠ some b := fun e => by have := m2.2.1 b e; have := HBL.out; have := B2.out.size; omega
      rw [has_at hp, ← del_at HG.out hp]
      refine ⟨rfl, .slice ao2 n2 cc, ⟨by rw [← hW5]; exact cells_set hblk, m2.1.kept (fun k hk => by rw [← hW5]; exact Below.heap_setCell _ _ _ _ (fun e => hne2 (by rw [hk, show k = b from e]))), hne2⟩, ?_⟩
      refine ⟨⟨?_, ?_, ?_⟩, ?_, fun k hk hnm => ⟨?_, ?_⟩⟩
      · rw [← hW5]; exact hbw.os
      · rw [← hW5]; exact hbw.tape
      · rw [← hW5]; exact hbw.output
      · rw [← hW5]; have := hbw.size; simp [World.setCell]; omega
      · have h1 : k ≠ b := fun e => hnm (by rw [e]; simp [bl])
        rw [← hW5, Below.heap_setCell _ _ _ _ h1]; exact hbw.block k hk
      · intro hk'
        rcases List.mem_cons.1 hk' with e | hk'
        · exact hnm (by rw [e]; simp [bl])
        · have := m2.2.1 k (by simpa using hk'); have := B2.out.size; omega
    have A1 := keep a1
    have A2 := keep a2
    have hge : ¬ (p : Int) < 0 := by omega
    have hge' : decide ((p : Int) < 0) = false := decide_eq_false hge
    rw [hln] at *
    clear hp hpl hc1 hc2 hln hq1 hr2 hcc2 hA hcell hrow2 a1 m1 g1 hb3 hrow3 a2 m2 g2 hb4 hblk HP2
    go_wp2_with (at_builtin; first | refine wpList_app_run rfl _ _ _ _ rfl _ _ _ rfl rfl A1.out ?_ | refine wpList_app_run rfl _ _ _ _ rfl _ _ _ rfl rfl A2.out ?_)
    first | exact HD.out | (go_ret; exact HD.out)
theorem del_perm {key : ByteArray} {a l : List Ent} (h : a.Perm l) : (del key a).Perm (del key l) := h.filter _
theorem del_head {x : Ent} {l : List Ent} (h : (x :: l).Pairwise (fun a b => a.1 ≠ b.1)) : del x.1 (x :: l) = l := by
  rw [List.pairwise_cons] at h
  unfold del
  rw [List.filter_cons_of_neg (by rw [show isK x.1 x = true from isK_iff.2 rfl]; simp)]
  exact List.filter_eq_self.2 (fun a ha => by rw [isK_false (fun e => h.1 a ha e.symm)]; rfl)
/-- what Take of the document's own pool leaves -/
def Rtk (w : World) (b m : Nat) (v : Value) (l : List Ent) (e : Ending) (w' : World) : Prop :=
  e = .returned (fstV l) ∧ ∃ v' all', Rp w' b v' m all' ∧ all'.Perm l.tail ∧ Fm (bl b v) w (bl b v') w'
set_option maxHeartbeats 2000000 in
theorem rtake_any (w : World) (b m : Nat) (v : Value) (all l : List Ent) (h : Rp w b v m all) (hp : all.Perm l) (hg : Good l) (hn : l.length ≤ 100000) :
    Calls Try.prog 23 #[.pointer (some ⟨b, 0, none⟩)] w fun e w' => Rtk w b m v l e w' := by
  obtain ⟨W1, hW1⟩ : ∃ W1, w.alloc (.cells #[.string { data := #[] }, .int .u64 0] 32) = W1 := ⟨_, rfl⟩
  have hb1 : Below w.heap.size w W1 := by rw [← hW1]; exact (Below.refl _ w).alloc (Nat.le_refl _) _
  have hs1 : W1.heap.size = w.heap.size + 1 := by rw [← hW1]; simp
  have g1 : W1.heap[w.heap.size]? = some (.cells #[.string { data := #[] }, .int .u64 0] 32 (0, 0)) := by rw [← hW1]; exact heap_alloc_new _ _
  have h1 := h.bel hb1
  have hH : w.heap.size ∉ bl b v := fun hk => by have := h.lt _ hk; omega
  have MC := keep (rcands_any W1 b m v all l h1 hp hg hn)
  have HK : Kept (∀ w2, Below W1.heap.size W1 w2 → Rp w2 b v m all ∧ Fm (bl b v) w (bl b v) w2 ∧ w2.heap[w.heap.size]? = some (.cells #[.string { data := #[] }, .int .u64 0] 32 (0, 0)) ∧ w.heap.size < w2.heap.size) := fun w2 hb => ⟨h1.bel hb, (Fm.below hb1).trans (Fm.below hb), (hb.block _ (by omega)).trans g1, by have := hb.size; omega⟩
  have HP := keep hp
  have HG := keep hg
  have HH := keep hH
  have HV : Kept (∀ k ∈ bl b v, k < W1.heap.size) := h1.lt
  have HN : Kept (all.length ≤ 100000) := by rw [hp.length_eq]; exact hn
  clear h h1 hp hg hn hb1 g1 hH hs1
  go_enter Try.func23, Try.ntmps23
  go_wp2_with fail
  refine MC.out.mono ?_
  rintro _ w2 ⟨u, rfl, hr2, hu2, hb2⟩
  obtain ⟨r2, f2, g2, s2⟩ := HK.out w2 hb2
  clear MC HK
  cases l with
  | nil =>
    obtain ⟨ao, n, cp, rfl, hln, _⟩ := hr2.shape
    obtain rfl : n = 0 := by simpa using hln.symm
    obtain ⟨c0, c1, c2⟩ := cells_two g2
    obtain ⟨W5, hW5⟩ : ∃ W5, (w2.setCell ⟨w.heap.size, 0, none⟩ (.string { data := #[] })).setCell ⟨w.heap.size, 1, none⟩ (.int .u64 0) = W5 := ⟨_, rfl⟩
    obtain ⟨g5, o5⟩ := two_set g2 hW5
    have HD : Kept (Rtk w b m v [] (.returned (.tuple #[.agg #[.string { data := #[] }, .int .u64 0], .bool false])) W5) :=
      ⟨rfl, v, all, r2.kept (fun k hk => o5.2.2 k (fun e => HH.out (by rw [← e]; exact hk))), HP.out, o5.fm (Nat.le_refl _) _ f2⟩
    have G5 := keep g5
    clear hr2 hu2 hb2 r2 f2 g2 s2 g5 o5 hln
    go_wp2
    refine bodyPost_ret (results_ct rfl _ W5 w.heap.size 32 #[.string { data := #[] }, .int .u64 0] (0, 0) _ rfl G5.out Try.underlying32 rfl size_cd) rfl ?_
    exact HD.out
  | cons x l =>
    rcases hr2.form with ⟨_, e⟩ | ⟨g, cp, rfl, _⟩
    · cases e
    obtain ⟨n, hln⟩ : ∃ n, (x :: l).length = n := ⟨_, rfl⟩
    have hnp : 0 < n := by rw [← hln]; simp
    have hgn := hu2 g rfl
    have hgl := hr2.lt (k := g) rfl
    have hgv : g ∉ bl b v := fun hk => by have := HV.out g hk; omega
    obtain ⟨e0, e1⟩ := (show Row w2 (.slice (some ⟨g, 0, none⟩) (x :: l).length cp) (x :: l) from hr2).two rfl (j := 0) (x := x) rfl
    have mD := rdrop_any w2 b m v all x.1 r2 (HP.out.symm.pairwise HG.out.2 (fun h => h.symm)) HN.out
    have HF : Kept (∀ e w3, Rid w2 b m v (del x.1 all) (.bool (has x.1 all)) e w3 → (∃ r, e = .returned (.bool r)) ∧ w3.cell? ⟨g, 0, none⟩ = some (.string x.1) ∧ w3.cell? ⟨g, 1, none⟩ = some (.int .u64 x.2) ∧ w3.heap[w.heap.size]? = some (.cells #[.string { data := #[] }, .int .u64 0] 32 (0, 0)) ∧ ∀ W5, (w3.setCell ⟨w.heap.size, 0, none⟩ (.string x.1)).setCell ⟨w.heap.size, 1, none⟩ (.int .u64 x.2) = W5 → W5.heap[w.heap.size]? = some (.cells #[.string x.1, .int .u64 x.2] 32 (0, 0)) ∧ Rtk w b m v (x :: l) (.returned (.tuple #[.agg #[.string x.1, .int .u64 x.2], .bool true])) W5) := by
      rintro e w3 ⟨rfl, v3, p3, f3⟩
      obtain ⟨b1, b2⟩ := f3.keeps hgl hgv
      obtain ⟨b3, b4⟩ := f3.keeps s2 HH.out
      have g3 := b3.trans g2
      refine ⟨⟨_, rfl⟩, (World.cell?_of_block (w := w2) (a := ⟨g, 0, none⟩) b1).trans e0, (World.cell?_of_block (w := w2) (a := ⟨g, 1, none⟩) b1).trans e1, g3, fun W5 hW5 => ?_⟩
      obtain ⟨g5, o5⟩ := two_set g3 hW5
      refine ⟨g5, rfl, v3, del x.1 all, p3.kept (fun k hk => o5.2.2 k (fun e => b4 (by rw [← e]; exact hk))), ?_, o5.fm (Nat.le_refl _) _ (f2.trans f3)⟩
      have := del_perm (key := x.1) HP.out
      rwa [del_head HG.out.2] at this
    obtain ⟨x1, x2⟩ := x
    rw [hln] at *
    dsimp only at *
    have MD := keep mD
    have n0 : (0 : Int) < (n : Int) := by omega
    have n1 : ((n : Int) == 0) = false := beq_eq_false_iff_ne.2 (by omega)
    have n2 : ¬ (n : Int) = 0 := by omega
    have n3 : ¬ n = 0 := by omega
    clear hr2 hu2 hb2 r2 f2 g2 s2 mD hln hgn hgl hgv
    go_wp2_with fail
    refine MD.out.mono ?_
    intro e w3 hd
    obtain ⟨⟨rr, rfl⟩, b0, b1, b2, b3⟩ := HF.out _ _ hd
    obtain ⟨W5, hW5⟩ : ∃ W5, (w3.setCell ⟨w.heap.size, 0, none⟩ (.string x1)).setCell ⟨w.heap.size, 1, none⟩ (.int .u64 x2) = W5 := ⟨_, rfl⟩
    have R5 := keep (b3 W5 hW5)
    obtain ⟨c0, c1, c2⟩ := cells_two b2
    clear hd b2 b3 HF MD e0 e1
    go_wp2
    refine bodyPost_ret (results_ct rfl _ W5 w.heap.size 32 #[.string x1, .int .u64 x2] (0, 0) _ rfl R5.out.1 Try.underlying32 rfl size_cd) rfl ?_
    exact R5.out.2
end Go.Proofs.Ytgniiojeeobffaa
