/-
  Contracts over this program, put together.
-/
import Derived.Test.YtmgeaanbgjbkcaaGreatMVe
import Derived.Deep.CutRange
set_option maxHeartbeats 8000000
namespace Go.Proofs.YtmgeaanbgjbkcaaGreat
open Go.RowKit Go.Shelf
set_option linter.unusedVariables false
set_option linter.unusedSimpArgs false
set_option maxRecDepth 100000
namespace Vl
theorem drop_step {α : Type} {l : List α} {m : Nat} {x : α} (h : l[m]? = some x) : (l.drop m).reverse = (l.drop (m + 1)).reverse ++ [x] := by
  obtain ⟨hm, rfl⟩ := List.getElem?_eq_some_iff.1 h
  rw [List.drop_eq_getElem_cons hm, List.reverse_cons]
theorem turned_any (w : World) (V : Value) (d : Dt) (h : Pln w V d) (s1 : d.items.length ≤ 1048576) (s2 : d.pairs.length ≤ 1048576) (s3 : d.ranks.length ≤ 1048576) :
    Calls Tryz.prog 38 #[V] w fun e w' => (∃ V', e = .returned V' ∧ Pln w' V' (turn d)) ∧ Below w.heap.size w w' := by
  obtain ⟨iv, pv, rv, rfl, a1, a2, a3⟩ := h
  obtain ⟨io, ic, rfl⟩ := own_sl a1
  obtain ⟨po, pc, rfl⟩ := own_sl a2
  obtain ⟨ro, rc, rfl⟩ := own_sl a3
  obtain ⟨kd, tx, I, P, R⟩ := d
  unfold plV turn
  dsimp only at *
  obtain ⟨W0, hW0⟩ : ∃ W0, w.alloc (.cells #[.int .i64 kd, .string tx, .slice io I.length ic, .slice po P.length pc, .slice ro R.length rc] 30) = W0 := ⟨_, rfl⟩
  obtain ⟨W1, hW1⟩ : ∃ W1, W0.alloc (.cells #[.int .i64 0, .string { data := #[] }, .slice none 0 0, .slice none 0 0, .slice none 0 0] 30) = W1 := ⟨_, rfl⟩
  have hz0 : W0.heap.size = w.heap.size + 1 := by rw [← hW0]; simp
  have hz1 : W1.heap.size = w.heap.size + 2 := by rw [← hW1]; simp [hz0]
  have hb0 : Below w.heap.size w W0 := by rw [← hW0]; exact (Below.refl _ w).alloc (Nat.le_refl _) _
  have hb1 : Below w.heap.size w W1 := hb0.trans (by rw [← hW1]; exact (Below.refl _ W0).alloc hb0.size _)
  have g0 : W1.heap[w.heap.size]? = some (.cells #[.int .i64 kd, .string tx, .slice io I.length ic, .slice po P.length pc, .slice ro R.length rc] 30 (0, 0)) := by
    rw [← hW1, Below.heap_alloc _ _ _ (by omega), ← hW0]; exact heap_alloc_new _ _
  have g1 : W1.heap[w.heap.size + 1]? = some (.cells #[.int .i64 0, .string { data := #[] }, .slice none 0 0, .slice none 0 0, .slice none 0 0] 30 (0, 0)) := by rw [← hW1, ← hz0]; exact heap_alloc_new _ _
  obtain ⟨W2, hW2⟩ : ∃ W2, W1.alloc (.cells #[.int .i64 kd, .string tx, .slice none 0 0, .slice none 0 0, .slice none 0 0] 30) = W2 := ⟨_, rfl⟩
  have p2 : Pb W1 W1.heap.size kd tx (.slice none 0 0) (.slice none 0 0) (.slice none 0 0) [] [] [] W2 := by rw [← hW2]; exact Pb.new W1 kd tx
  rw [hz1] at p2
  have Q1 := keep (kept a1 hb1)
  have Q2 := keep (kept a2 hb1)
  have Q3 := keep (kept a3 hb1)
  have HB1 := keep hb1
  have HZ1 := keep hz1
  have G1 := keep g1
  have HW : Kept ((w.alloc (.cells #[.int .i64 kd, .string tx, .slice io I.length ic, .slice po P.length pc, .slice ro R.length rc] 30)).alloc (.cells #[.int .i64 0, .string { data := #[] }, .slice none 0 0, .slice none 0 0, .slice none 0 0] 30) = W1) := by rw [hW0]; exact hW1
  have HW2 := keep hW2
  obtain ⟨c0, c1, c2, c3, c4⟩ := five_cells g0
  have A2 := keep c2
  have A3 := keep c3
  have A4 := keep c4
  have P2 := keep p2
  generalize hn1 : I.length = n1 at *
  generalize hn2 : P.length = n2 at *
  generalize hn3 : R.length = n3 at *
  have N1 := keep hn1
  have N2 := keep hn2
  have N3 := keep hn3
  clear hW0 hW1 hz0 hz1 hb0 hb1 g0 g1 hW2 p2 a1 a2 a3 hn1 hn2 hn3
  go_enter Tryz.func38, Tryz.ntmps38
  go_upto_region 2 with fail
  rw [HW.out, HW2.out]
  obtain ⟨B2, hB2⟩ : ∃ B2, w.heap.size + 1 + 1 = B2 := ⟨_, rfl⟩
  have HB2 := keep hB2
  rw [show w.heap.size + 2 = B2 from hB2] at P2
  rw [hB2]
  clear hB2 c0 c1 c2 c3 c4 HW HW2
  have K0 : Kept (∃ iv pv rv, Pb W1 B2 kd tx iv pv rv ((I.drop n1).reverse) ((P.drop n2).reverse) ((R.drop n3).reverse) W2) := by
    refine ⟨.slice none 0 0, .slice none 0 0, .slice none 0 0, ?_⟩
    rw [List.drop_of_length_le (by rw [N1.out]; exact Nat.le_refl _), List.drop_of_length_le (by rw [N2.out]; exact Nat.le_refl _), List.drop_of_length_le (by rw [N3.out]; exact Nat.le_refl _)]
    exact P2.out
  obtain ⟨iv0, pv0, rv0, hp0⟩ := K0.out
  have z0 := (hp0.2.2.2.2.1.cell (p := ⟨w.heap.size, 2, none⟩) (World.block_lt_of_cell? _ _ A2.out)).trans A2.out
  have KW0 : IntKind.i64.wrap ((n1 : Int) - 1) = (n1 : Int) - 1 := by rw [IntKind.wrap_i64]; omega
  go_wp2_with fail
  clear z0 hp0 KW0
  go_loopw [4] (fun i wr => ∃ k : Nat, k ≤ n1 ∧ i = .int .i64 ((k : Int) - 1) ∧ Kept (∃ iv pv rv, Pb W1 B2 kd tx iv pv rv ((I.drop k).reverse) ((P.drop n2).reverse) ((R.drop n3).reverse) wr)) (fun i _ => (intOf i + 1).toNat)
  case atStart => exact ⟨n1, Nat.le_refl _, rfl, K0.out⟩
  case round =>
    obtain ⟨k, hk, rfl, KP0⟩ := hrel
    obtain ⟨iv, pv, rv, hp⟩ := KP0.out
    have hbw := hp.2.2.2.2.1
    have nu : ∀ {p : Addr} {v : Value}, W1.cell? p = some v → wr.cell? p = some v := fun {p v} h => (hbw.cell (p := p) (World.block_lt_of_cell? _ _ h)).trans h
    cases k with
    | succ m =>
      have em : ((m + 1 : Nat) : Int) - 1 = (m : Int) := by omega
      rw [em]
      have hz0 : (0 : Int) ≤ (m : Int) := by omega
      have hz : (m : Int) < (n1 : Int) := by omega
      have KW : IntKind.i64.wrap ((m : Int) - 1) = (m : Int) - 1 := by rw [IntKind.wrap_i64]; omega
      obtain ⟨x, hx⟩ : ∃ x, I[m]? = some x := ⟨_, List.getElem?_eq_getElem (by rw [N1.out]; omega)⟩
      have hds := drop_step hx
      have HDS := keep hds
      obtain ⟨g, rfl, hg⟩ := own_some Q1.out (by omega)
      have hrw : It W1 (.slice (some ⟨g, 0, none⟩) n1 ic) I := by unfold It; rw [N1.out]; exact Q1.out
      have hxc := It.at hrw hx
      have HXC := keep hxc
      have c1 := nu hxc
      have a0 := nu A2.out
      obtain ⟨⟨e0, e1, e2, e3, e4⟩, ef⟩ := hp.box
      have rb := e2
      have hpd := hp.bel (Below.refl _ wr).drew
      have hba : Below wr.drew.heap.size wr.drew (wr.drew.alloc (.cells #[.string x] 9)) := (Below.refl _ _).alloc (Nat.le_refl _) _
      obtain ⟨v1, V3, r3, x3, p4⟩ := (hpd.bel hba).setI (J := [x]) (so := some ⟨wr.drew.heap.size, 0, none⟩) (m := 1) (c := 1) rfl (in_lit wr.drew #[.string x] 9 _ rfl) (fun h => by cases h) (by rw [List.length_reverse, List.length_drop, N1.out]; omega)
      obtain ⟨o1, l1, d1, hv1⟩ : ∃ o1 l1 d1, v1 = .slice o1 l1 d1 := by obtain ⟨a, b, c⟩ := own_sl p4.2.1; exact ⟨_, _, _, c⟩
      obtain ⟨o2, l2, d2, hv2⟩ : ∃ o2 l2 d2, iv = .slice o2 l2 d2 := by obtain ⟨a, b, c⟩ := own_sl hp.2.1; exact ⟨_, _, _, c⟩
      subst hv1 hv2
      have R3 := keep r3
      have P4 := keep p4
      obtain ⟨y0, y1, y2, y3, y4⟩ := five_cells x3
      have yf := bx_free x3 2
      have HS : Kept (wr.drew.cell? ⟨w.heap.size, 2, none⟩ = some (.slice (some ⟨g, 0, none⟩) n1 ic) ∧ wr.drew.cell? ⟨g, m, none⟩ = some (.string x)) := ⟨a0, c1⟩
      have RB : Kept (wr.drew.cell? ⟨B2, 2, none⟩ = some (.slice o2 l2 d2)) := rb
      have HSa : Kept ((wr.drew.alloc (.cells #[.string x] 9)).cell? ⟨w.heap.size, 2, none⟩ = some (.slice (some ⟨g, 0, none⟩) n1 ic) ∧ (wr.drew.alloc (.cells #[.string x] 9)).cell? ⟨g, m, none⟩ = some (.string x)) := ⟨(hba.cell (World.block_lt_of_cell? _ _ HS.out.1)).trans HS.out.1, (hba.cell (World.block_lt_of_cell? _ _ HS.out.2)).trans HS.out.2⟩
      have RBa : Kept ((wr.drew.alloc (.cells #[.string x] 9)).cell? ⟨B2, 2, none⟩ = some (.slice o2 l2 d2)) := (hba.cell (World.block_lt_of_cell? _ _ RB.out)).trans RB.out
      have hbW3 : Below W1.heap.size W1 (V3.setCell ⟨B2, 2, none⟩ (.slice o1 l1 d1)) := p4.2.2.2.2.1
      have HS4 : Kept ((V3.setCell ⟨B2, 2, none⟩ (.slice o1 l1 d1)).cell? ⟨w.heap.size, 2, none⟩ = some (.slice (some ⟨g, 0, none⟩) n1 ic) ∧ (V3.setCell ⟨B2, 2, none⟩ (.slice o1 l1 d1)).cell? ⟨g, m, none⟩ = some (.string x)) := ⟨(hbW3.cell (World.block_lt_of_cell? _ _ A2.out)).trans A2.out, (hbW3.cell (World.block_lt_of_cell? _ _ HXC.out)).trans HXC.out⟩
      have hneB : w.heap.size ≠ B2 := by have := HB2.out; omega
      have hneg : g ≠ B2 := by have h2 := HZ1.out; have h3 := HB2.out; omega
      have HS3 : Kept (V3.cell? ⟨w.heap.size, 2, none⟩ = some (.slice (some ⟨g, 0, none⟩) n1 ic) ∧ V3.cell? ⟨g, m, none⟩ = some (.string x)) := ⟨by rw [← HS4.out.1]; exact (World.cell?_of_block (a := ⟨w.heap.size, 2, none⟩) (Below.heap_setCell _ _ _ _ hneB)).symm, by rw [← HS4.out.2]; exact (World.cell?_of_block (a := ⟨g, m, none⟩) (Below.heap_setCell _ _ _ _ hneg)).symm⟩
      have HN3 : Kept (∃ iv pv rv, Pb W1 B2 kd tx iv pv rv ((I.drop m).reverse) ((P.drop n2).reverse) ((R.drop n3).reverse) (V3.setCell ⟨B2, 2, none⟩ (.slice o1 l1 d1))) := ⟨_, _, _, by rw [HDS.out]; exact P4.out⟩
      clear hpd hba r3 x3 p4 rb hbW3 hneB hneg a0 c1 e0 e1 e2 e3 e4 ef hx hds hrw hxc hp hbw nu
      go_upto_region 5 with fail
      refine wp_region_held_drew (S := fun W => W.cell? ⟨w.heap.size, 2, none⟩ = some (.slice (some ⟨g, 0, none⟩) n1 ic) ∧ W.cell? ⟨g, m, none⟩ = some (.string x)) (by kernel_rfl) HS.out (fun hHeld => ?_)
      refine wpAnyH_take (i := 0) (oi := ⟨some 20, _, _, _, _, _⟩) (v := (.pointer (some ⟨B2, 2, none⟩))) rfl (by kernel_rfl) (by kernel_rfl) (by kernel_rfl) (fun _ _ _ h => h) (Or.inl ⟨by rfl, ?hy1⟩) (by assumption) ?rest1
      case hy1 => (intro w hSw; obtain ⟨p0,p1⟩ := hSw; first | (go_simp; done) | (go_simp; simp [*]; done) | (simp [*]; go_simp; done))
      try simp only [Act.put, List.setIfInBounds_toArray, List.set_cons_zero, List.set_cons_succ]
      refine wpAnyH_take (i := 2) (oi := ⟨some 22, _, _, _, _, _⟩) (v := (.pointer (some ⟨w.heap.size, 2, none⟩))) rfl (by kernel_rfl) (by kernel_rfl) (by kernel_rfl) (fun _ _ _ h => h) (Or.inl ⟨by rfl, ?hy2⟩) (by assumption) ?rest2
      case hy2 => (intro w hSw; obtain ⟨p0,p1⟩ := hSw; first | (go_simp; done) | (go_simp; simp [*]; done) | (simp [*]; go_simp; done))
      try simp only [Act.put, List.setIfInBounds_toArray, List.set_cons_zero, List.set_cons_succ]
      refine wpAnyH_take (i := 3) (oi := ⟨some 23, _, _, _, _, _⟩) (v := (.slice (some ⟨g, 0, none⟩) n1 ic)) rfl (by kernel_rfl) (by kernel_rfl) (by kernel_rfl) (fun _ _ _ h => h) (Or.inl ⟨by rfl, ?hy3⟩) (by assumption) ?rest3
      case hy3 => (intro w hSw; obtain ⟨p0,p1⟩ := hSw; first | (go_simp; done) | (go_simp; simp [*]; done) | (simp [*]; go_simp; done))
      try simp only [Act.put, List.setIfInBounds_toArray, List.set_cons_zero, List.set_cons_succ]
      refine wpAnyH_take (i := 4) (oi := ⟨some 24, _, _, _, _, _⟩) (v := ?v4) rfl (by kernel_rfl) (by kernel_rfl) (by kernel_rfl) (fun _ _ _ h => h) (Or.inl ⟨by rfl, ?hy4⟩) (by assumption) ?rest4
      case hy4 => (intro w hSw; obtain ⟨p0,p1⟩ := hSw; go_simp; try with_reducible rfl)
      try simp only [Act.put, List.setIfInBounds_toArray, List.set_cons_zero, List.set_cons_succ]
      refine wpAnyH_take (i := 5) (oi := ⟨some 25, _, _, _, _, _⟩) (v := (.pointer (some ⟨g, m, none⟩))) rfl (by kernel_rfl) (by kernel_rfl) (by kernel_rfl) (fun _ _ _ h => h) (Or.inl ⟨by rfl, ?hy5⟩) (by assumption) ?rest5
      case hy5 => (intro w hSw; obtain ⟨p0,p1⟩ := hSw; first | (go_simp; done) | (go_simp; simp [*]; done) | (simp [*]; go_simp; done))
      try simp only [Act.put, List.setIfInBounds_toArray, List.set_cons_zero, List.set_cons_succ]
      refine wpAnyH_take (i := 6) (oi := ⟨some 26, _, _, _, _, _⟩) (v := (.string x)) rfl (by kernel_rfl) (by kernel_rfl) (by kernel_rfl) (fun _ _ _ h => h) (Or.inl ⟨by rfl, ?hy6⟩) (by assumption) ?rest6
      case hy6 => (intro w hSw; obtain ⟨p0,p1⟩ := hSw; first | (go_simp; done) | (go_simp; simp [*]; done) | (simp [*]; go_simp; done))
      try simp only [Act.put, List.setIfInBounds_toArray, List.set_cons_zero, List.set_cons_succ]
      refine wpAnyH_ready (rs := [1, 7]) (by kernel_rfl) (by simp) ?_
      refine AllReadyH.cons (o := ⟨some 21, _, _, _, _, _⟩) rfl (fun K hK => ?_) (AllReadyH.cons (o := ⟨some 27, _, _, _, _, _⟩) rfl (fun K hK => ?_) AllReadyH.nil)
      · have rb : wr.drew.cell? ⟨B2, 2, none⟩ = some (.slice o2 l2 d2) := RB.out
        go_simp
        refine hK.out _ _ HS.out (fun hHeld => ?_)
        try simp only [Act.put, List.setIfInBounds_toArray, List.set_cons_zero, List.set_cons_succ]
        clear hK rb
        refine wpAnyH_ready (rs := [7]) (by kernel_rfl) (by simp) ?_
        refine AllReadyH.cons (o := ⟨some 27, _, _, _, _, _⟩) rfl (fun K hK => ?_) AllReadyH.nil
        go_simp
        refine hK.out _ _ HSa.out (fun hHeld => ?_)
        try simp only [Act.put, List.setIfInBounds_toArray, List.set_cons_zero, List.set_cons_succ]
        clear hK
        refine wpAnyH_ready (rs := [8]) (by kernel_rfl) (by simp) ?_
        refine AllReadyH.cons (o := ⟨some 28, _, _, _, _, _⟩) rfl (fun K hK => ?_) AllReadyH.nil
        rw [if_pos (by rfl)]
        refine app_one (.tmp 21) (.tmp 27) 22 rfl _ _ _ rfl rfl R3.out ?_
        refine hK.out _ _ HS3.out (fun hHeld => ?_)
        try simp only [Act.put, List.setIfInBounds_toArray, List.set_cons_zero, List.set_cons_succ]
        clear hK
        refine wpAnyH_take (i := 9) (oi := ⟨some 29, _, _, _, _, _⟩) (v := (.pointer (some ⟨B2, 2, none⟩))) rfl (by kernel_rfl) (by kernel_rfl) (by kernel_rfl) (fun _ _ _ h => h) (Or.inl ⟨by rfl, ?hy7⟩) (by assumption) ?rest7
        case hy7 => (intro w hSw; first | (go_simp; done) | (go_simp; simp [*]; done) | (simp [*]; go_simp; done))
        try simp only [Act.put, List.setIfInBounds_toArray, List.set_cons_zero, List.set_cons_succ]
        refine wpAnyH_ready (rs := [10]) (by kernel_rfl) (by simp) ?_
        refine AllReadyH.cons (o := ⟨none, _, _, _, _, _⟩) rfl (fun K hK => ?_) AllReadyH.nil
        go_simp
        refine hK.out _ _ HS4.out (fun hHeld => ?_)
        try simp only [Act.put, List.setIfInBounds_toArray, List.set_cons_zero, List.set_cons_succ]
        clear hK
        refine wpAnyH_done (by kernel_rfl) ?_ _
        clear hHeld y0 y1 y2 y3 y4 yf
        go_wp2
        go_roundw
        case measure => simp [intOf]
        case rel => exact ⟨m, by omega, rfl, HN3⟩
      · go_simp
        refine hK.out _ _ HSa.out (fun hHeld => ?_)
        try simp only [Act.put, List.setIfInBounds_toArray, List.set_cons_zero, List.set_cons_succ]
        clear hK
        have rb : (wr.alloc (.cells #[.string x] 9)).cell? ⟨B2, 2, none⟩ = some (.slice o2 l2 d2) := RBa.out
        refine wpAnyH_ready (rs := [1]) (by kernel_rfl) (by simp) ?_
        refine AllReadyH.cons (o := ⟨some 21, _, _, _, _, _⟩) rfl (fun K hK => ?_) AllReadyH.nil
        go_simp
        refine hK.out _ _ HSa.out (fun hHeld => ?_)
        try simp only [Act.put, List.setIfInBounds_toArray, List.set_cons_zero, List.set_cons_succ]
        clear hK rb
        refine wpAnyH_ready (rs := [8]) (by kernel_rfl) (by simp) ?_
        refine AllReadyH.cons (o := ⟨some 28, _, _, _, _, _⟩) rfl (fun K hK => ?_) AllReadyH.nil
        rw [if_pos (by rfl)]
        refine app_one (.tmp 21) (.tmp 27) 22 rfl _ _ _ rfl rfl R3.out ?_
        refine hK.out _ _ HS3.out (fun hHeld => ?_)
        try simp only [Act.put, List.setIfInBounds_toArray, List.set_cons_zero, List.set_cons_succ]
        clear hK
        refine wpAnyH_take (i := 9) (oi := ⟨some 29, _, _, _, _, _⟩) (v := (.pointer (some ⟨B2, 2, none⟩))) rfl (by kernel_rfl) (by kernel_rfl) (by kernel_rfl) (fun _ _ _ h => h) (Or.inl ⟨by rfl, ?hy8⟩) (by assumption) ?rest8
        case hy8 => (intro w hSw; first | (go_simp; done) | (go_simp; simp [*]; done) | (simp [*]; go_simp; done))
        try simp only [Act.put, List.setIfInBounds_toArray, List.set_cons_zero, List.set_cons_succ]
        refine wpAnyH_ready (rs := [10]) (by kernel_rfl) (by simp) ?_
        refine AllReadyH.cons (o := ⟨none, _, _, _, _, _⟩) rfl (fun K hK => ?_) AllReadyH.nil
        go_simp
        refine hK.out _ _ HS4.out (fun hHeld => ?_)
        try simp only [Act.put, List.setIfInBounds_toArray, List.set_cons_zero, List.set_cons_succ]
        clear hK
        refine wpAnyH_done (by kernel_rfl) ?_ _
        clear hHeld y0 y1 y2 y3 y4 yf
        go_wp2
        go_roundw
        case measure => simp [intOf]
        case rel => exact ⟨m, by omega, rfl, HN3⟩
    | zero =>
      have e0 : ((0 : Nat) : Int) - 1 = -1 := by omega
      rw [e0]
      clear e0 hp hbw nu
      obtain ⟨iv0, pv0, rv0, hp0⟩ := KP0.out
      have z0 := (hp0.2.2.2.2.1.cell (p := ⟨w.heap.size, 3, none⟩) (World.block_lt_of_cell? _ _ A3.out)).trans A3.out
      have KW0 : IntKind.i64.wrap ((n2 : Int) - 1) = (n2 : Int) - 1 := by rw [IntKind.wrap_i64]; omega
      go_wp2_with fail
      clear z0 hp0 KW0
      obtain ⟨V1, hV1⟩ : ∃ x, x = wr := ⟨_, rfl⟩
      subst hV1
      go_loopw [5] (fun i wr => ∃ k : Nat, k ≤ n2 ∧ i = .int .i64 ((k : Int) - 1) ∧ Kept (∃ iv pv rv, Pb W1 B2 kd tx iv pv rv ((I.drop 0).reverse) ((P.drop k).reverse) ((R.drop n3).reverse) wr)) (fun i _ => (intOf i + 1).toNat)
      case atStart => exact ⟨n2, Nat.le_refl _, rfl, KP0.out⟩
      case round =>
        obtain ⟨k, hk, rfl, KP1⟩ := hrel
        obtain ⟨iv, pv, rv, hp⟩ := KP1.out
        have hbw := hp.2.2.2.2.1
        have nu : ∀ {p : Addr} {v : Value}, W1.cell? p = some v → wr.cell? p = some v := fun {p v} h => (hbw.cell (p := p) (World.block_lt_of_cell? _ _ h)).trans h
        cases k with
        | succ m =>
          have em : ((m + 1 : Nat) : Int) - 1 = (m : Int) := by omega
          rw [em]
          have hz0 : (0 : Int) ≤ (m : Int) := by omega
          have hz : (m : Int) < (n2 : Int) := by omega
          have KW : IntKind.i64.wrap ((m : Int) - 1) = (m : Int) - 1 := by rw [IntKind.wrap_i64]; omega
          obtain ⟨x, hx⟩ : ∃ x, P[m]? = some x := ⟨_, List.getElem?_eq_getElem (by rw [N2.out]; omega)⟩
          have hds := drop_step hx
          have HDS := keep hds
          obtain ⟨g, rfl, hg⟩ := own_some Q2.out (by omega)
          have hrw : Pr W1 (.slice (some ⟨g, 0, none⟩) n2 pc) P := by unfold Pr; rw [N2.out]; exact Q2.out
          obtain ⟨hxc, hxd⟩ := Pr.at hrw hx
          obtain ⟨x1, x2⟩ := x
          dsimp only at hxc hxd
          obtain ⟨ok, hok⟩ : ∃ ok, m * 2 = ok := ⟨_, rfl⟩
          rw [hok] at hxc hxd
          have HXC := keep hxc
          have HXD := keep hxd
          have c1 := nu hxc
          have c2 := nu hxd
          have a0 := nu A3.out
          obtain ⟨⟨e0, e1, e2, e3, e4⟩, ef⟩ := hp.box
          have rb := e3
          have hpd := hp.bel (Below.refl _ wr).drew
          have hba : Below wr.drew.heap.size wr.drew (wr.drew.alloc (.cells #[.string x1, .string x2] 70)) := (Below.refl _ _).alloc (Nat.le_refl _) _
          obtain ⟨v1, V3, r3, x3, p4⟩ := (hpd.bel hba).setP (J := [(x1, x2)]) (so := some ⟨wr.drew.heap.size, 0, none⟩) (m := 1) (c := 1) rfl (in_lit wr.drew #[.string x1, .string x2] 70 _ rfl) (fun h => by cases h) (by rw [List.length_reverse, List.length_drop, N2.out]; omega)
          obtain ⟨o1, l1, d1, hv1⟩ : ∃ o1 l1 d1, v1 = .slice o1 l1 d1 := by obtain ⟨a, b, c⟩ := own_sl p4.2.2.1; exact ⟨_, _, _, c⟩
          obtain ⟨o2, l2, d2, hv2⟩ : ∃ o2 l2 d2, pv = .slice o2 l2 d2 := by obtain ⟨a, b, c⟩ := own_sl hp.2.2.1; exact ⟨_, _, _, c⟩
          subst hv1 hv2
          have R3 := keep r3
          have P4 := keep p4
          obtain ⟨y0, y1, y2, y3, y4⟩ := five_cells x3
          have yf := bx_free x3 3
          have HS : Kept (wr.drew.cell? ⟨w.heap.size, 3, none⟩ = some (.slice (some ⟨g, 0, none⟩) n2 pc) ∧ wr.drew.cell? ⟨g, ok, none⟩ = some (.string x1) ∧ wr.drew.cell? ⟨g, ok + 1, none⟩ = some (.string x2)) := ⟨a0, c1, c2⟩
          have RB : Kept (wr.drew.cell? ⟨B2, 3, none⟩ = some (.slice o2 l2 d2)) := rb
          have HSa : Kept ((wr.drew.alloc (.cells #[.string x1, .string x2] 70)).cell? ⟨w.heap.size, 3, none⟩ = some (.slice (some ⟨g, 0, none⟩) n2 pc) ∧ (wr.drew.alloc (.cells #[.string x1, .string x2] 70)).cell? ⟨g, ok, none⟩ = some (.string x1) ∧ (wr.drew.alloc (.cells #[.string x1, .string x2] 70)).cell? ⟨g, ok + 1, none⟩ = some (.string x2)) := ⟨(hba.cell (World.block_lt_of_cell? _ _ HS.out.1)).trans HS.out.1, (hba.cell (World.block_lt_of_cell? _ _ HS.out.2.1)).trans HS.out.2.1, (hba.cell (World.block_lt_of_cell? _ _ HS.out.2.2)).trans HS.out.2.2⟩
          have RBa : Kept ((wr.drew.alloc (.cells #[.string x1, .string x2] 70)).cell? ⟨B2, 3, none⟩ = some (.slice o2 l2 d2)) := (hba.cell (World.block_lt_of_cell? _ _ RB.out)).trans RB.out
          have hbW3 : Below W1.heap.size W1 (V3.setCell ⟨B2, 3, none⟩ (.slice o1 l1 d1)) := p4.2.2.2.2.1
          have HS4 : Kept ((V3.setCell ⟨B2, 3, none⟩ (.slice o1 l1 d1)).cell? ⟨w.heap.size, 3, none⟩ = some (.slice (some ⟨g, 0, none⟩) n2 pc) ∧ (V3.setCell ⟨B2, 3, none⟩ (.slice o1 l1 d1)).cell? ⟨g, ok, none⟩ = some (.string x1) ∧ (V3.setCell ⟨B2, 3, none⟩ (.slice o1 l1 d1)).cell? ⟨g, ok + 1, none⟩ = some (.string x2)) := ⟨(hbW3.cell (World.block_lt_of_cell? _ _ A3.out)).trans A3.out, (hbW3.cell (World.block_lt_of_cell? _ _ HXC.out)).trans HXC.out, (hbW3.cell (World.block_lt_of_cell? _ _ HXD.out)).trans HXD.out⟩
          have hneB : w.heap.size ≠ B2 := by have := HB2.out; omega
          have hneg : g ≠ B2 := by have h2 := HZ1.out; have h3 := HB2.out; omega
          have HS3 : Kept (V3.cell? ⟨w.heap.size, 3, none⟩ = some (.slice (some ⟨g, 0, none⟩) n2 pc) ∧ V3.cell? ⟨g, ok, none⟩ = some (.string x1) ∧ V3.cell? ⟨g, ok + 1, none⟩ = some (.string x2)) := ⟨by rw [← HS4.out.1]; exact (World.cell?_of_block (a := ⟨w.heap.size, 3, none⟩) (Below.heap_setCell _ _ _ _ hneB)).symm, by rw [← HS4.out.2.1]; exact (World.cell?_of_block (a := ⟨g, ok, none⟩) (Below.heap_setCell _ _ _ _ hneg)).symm, by rw [← HS4.out.2.2]; exact (World.cell?_of_block (a := ⟨g, ok + 1, none⟩) (Below.heap_setCell _ _ _ _ hneg)).symm⟩
          have HN3 : Kept (∃ iv pv rv, Pb W1 B2 kd tx iv pv rv ((I.drop 0).reverse) ((P.drop m).reverse) ((R.drop n3).reverse) (V3.setCell ⟨B2, 3, none⟩ (.slice o1 l1 d1))) := ⟨_, _, _, by rw [HDS.out]; exact P4.out⟩
          clear hpd hba r3 x3 p4 rb hbW3 hneB hneg a0 c1 c2 e0 e1 e2 e3 e4 ef hx hds hrw hxc hxd hp hbw nu
          go_upto_region 9 with fail
          refine wp_region_held_drew (S := fun W => W.cell? ⟨w.heap.size, 3, none⟩ = some (.slice (some ⟨g, 0, none⟩) n2 pc) ∧ W.cell? ⟨g, ok, none⟩ = some (.string x1) ∧ W.cell? ⟨g, ok + 1, none⟩ = some (.string x2)) (by kernel_rfl) HS.out (fun hHeld => ?_)
          refine wpAnyH_take (i := 0) (oi := ⟨some 38, _, _, _, _, _⟩) (v := (.pointer (some ⟨B2, 3, none⟩))) rfl (by kernel_rfl) (by kernel_rfl) (by kernel_rfl) (fun _ _ _ h => h) (Or.inl ⟨by rfl, ?hy9⟩) (by assumption) ?rest9
          case hy9 => (intro w hSw; obtain ⟨p0,p1,p2⟩ := hSw; first | (go_simp; done) | (go_simp; simp [*]; done) | (simp [*]; go_simp; done))
          try simp only [Act.put, List.setIfInBounds_toArray, List.set_cons_zero, List.set_cons_succ]
          refine wpAnyH_take (i := 2) (oi := ⟨some 40, _, _, _, _, _⟩) (v := (.pointer (some ⟨w.heap.size, 3, none⟩))) rfl (by kernel_rfl) (by kernel_rfl) (by kernel_rfl) (fun _ _ _ h => h) (Or.inl ⟨by rfl, ?hy10⟩) (by assumption) ?rest10
          case hy10 => (intro w hSw; obtain ⟨p0,p1,p2⟩ := hSw; first | (go_simp; done) | (go_simp; simp [*]; done) | (simp [*]; go_simp; done))
          try simp only [Act.put, List.setIfInBounds_toArray, List.set_cons_zero, List.set_cons_succ]
          refine wpAnyH_take (i := 3) (oi := ⟨some 41, _, _, _, _, _⟩) (v := (.slice (some ⟨g, 0, none⟩) n2 pc)) rfl (by kernel_rfl) (by kernel_rfl) (by kernel_rfl) (fun _ _ _ h => h) (Or.inl ⟨by rfl, ?hy11⟩) (by assumption) ?rest11
          case hy11 => (intro w hSw; obtain ⟨p0,p1,p2⟩ := hSw; first | (go_simp; done) | (go_simp; simp [*]; done) | (simp [*]; go_simp; done))
          try simp only [Act.put, List.setIfInBounds_toArray, List.set_cons_zero, List.set_cons_succ]
          refine wpAnyH_take (i := 4) (oi := ⟨some 42, _, _, _, _, _⟩) (v := ?v12) rfl (by kernel_rfl) (by kernel_rfl) (by kernel_rfl) (fun _ _ _ h => h) (Or.inl ⟨by rfl, ?hy12⟩) (by assumption) ?rest12
          case hy12 => (intro w hSw; obtain ⟨p0,p1,p2⟩ := hSw; go_simp; try with_reducible rfl)
          try simp only [Act.put, List.setIfInBounds_toArray, List.set_cons_zero, List.set_cons_succ]
          refine wpAnyH_take (i := 5) (oi := ⟨some 43, _, _, _, _, _⟩) (v := (.pointer (some ⟨g, ok, none⟩))) rfl (by kernel_rfl) (by kernel_rfl) (by kernel_rfl) (fun _ _ _ h => h) (Or.inl ⟨by rfl, ?hy13⟩) (by assumption) ?rest13
          case hy13 => (intro w hSw; obtain ⟨p0,p1,p2⟩ := hSw; first | (go_simp; done) | (go_simp; simp [*]; done) | (simp [*]; go_simp; done))
          try simp only [Act.put, List.setIfInBounds_toArray, List.set_cons_zero, List.set_cons_succ]
          refine wpAnyH_take (i := 6) (oi := ⟨some 44, _, _, _, _, _⟩) (v := (.agg #[.string x1, .string x2])) rfl (by kernel_rfl) (by kernel_rfl) (by kernel_rfl) (fun _ _ _ h => h) (Or.inl ⟨by rfl, ?hy14⟩) (by assumption) ?rest14
          case hy14 => (intro w hSw; obtain ⟨p0,p1,p2⟩ := hSw; first | (go_simp; done) | (go_simp; simp [*]; done) | (simp [*]; go_simp; done))
          try simp only [Act.put, List.setIfInBounds_toArray, List.set_cons_zero, List.set_cons_succ]
          refine wpAnyH_ready (rs := [1, 7]) (by kernel_rfl) (by simp) ?_
          refine AllReadyH.cons (o := ⟨some 39, _, _, _, _, _⟩) rfl (fun K hK => ?_) (AllReadyH.cons (o := ⟨some 45, _, _, _, _, _⟩) rfl (fun K hK => ?_) AllReadyH.nil)
          · have rb : wr.drew.cell? ⟨B2, 3, none⟩ = some (.slice o2 l2 d2) := RB.out
            go_simp
            refine hK.out _ _ HS.out (fun hHeld => ?_)
            try simp only [Act.put, List.setIfInBounds_toArray, List.set_cons_zero, List.set_cons_succ]
            clear hK rb
            refine wpAnyH_ready (rs := [7]) (by kernel_rfl) (by simp) ?_
            refine AllReadyH.cons (o := ⟨some 45, _, _, _, _, _⟩) rfl (fun K hK => ?_) AllReadyH.nil
            go_simp
            refine hK.out _ _ HSa.out (fun hHeld => ?_)
            try simp only [Act.put, List.setIfInBounds_toArray, List.set_cons_zero, List.set_cons_succ]
            clear hK
            refine wpAnyH_ready (rs := [8]) (by kernel_rfl) (by simp) ?_
            refine AllReadyH.cons (o := ⟨some 46, _, _, _, _, _⟩) rfl (fun K hK => ?_) AllReadyH.nil
            rw [if_pos (by rfl)]
            refine app_one (.tmp 39) (.tmp 45) 23 rfl _ _ _ rfl rfl R3.out ?_
            refine hK.out _ _ HS3.out (fun hHeld => ?_)
            try simp only [Act.put, List.setIfInBounds_toArray, List.set_cons_zero, List.set_cons_succ]
            clear hK
            refine wpAnyH_take (i := 9) (oi := ⟨some 47, _, _, _, _, _⟩) (v := (.pointer (some ⟨B2, 3, none⟩))) rfl (by kernel_rfl) (by kernel_rfl) (by kernel_rfl) (fun _ _ _ h => h) (Or.inl ⟨by rfl, ?hy15⟩) (by assumption) ?rest15
            case hy15 => (intro w hSw; first | (go_simp; done) | (go_simp; simp [*]; done) | (simp [*]; go_simp; done))
            try simp only [Act.put, List.setIfInBounds_toArray, List.set_cons_zero, List.set_cons_succ]
            refine wpAnyH_ready (rs := [10]) (by kernel_rfl) (by simp) ?_
            refine AllReadyH.cons (o := ⟨none, _, _, _, _, _⟩) rfl (fun K hK => ?_) AllReadyH.nil
            go_simp
            refine hK.out _ _ HS4.out (fun hHeld => ?_)
            try simp only [Act.put, List.setIfInBounds_toArray, List.set_cons_zero, List.set_cons_succ]
            clear hK
            refine wpAnyH_done (by kernel_rfl) ?_ _
            clear hHeld y0 y1 y2 y3 y4 yf
            go_wp2
            go_roundw
            case measure => simp [intOf]
            case rel => exact ⟨m, by omega, rfl, HN3⟩
          · go_simp
            refine hK.out _ _ HSa.out (fun hHeld => ?_)
            try simp only [Act.put, List.setIfInBounds_toArray, List.set_cons_zero, List.set_cons_succ]
            clear hK
            have rb : (wr.alloc (.cells #[.string x1, .string x2] 70)).cell? ⟨B2, 3, none⟩ = some (.slice o2 l2 d2) := RBa.out
            refine wpAnyH_ready (rs := [1]) (by kernel_rfl) (by simp) ?_
            refine AllReadyH.cons (o := ⟨some 39, _, _, _, _, _⟩) rfl (fun K hK => ?_) AllReadyH.nil
            go_simp
            refine hK.out _ _ HSa.out (fun hHeld => ?_)
            try simp only [Act.put, List.setIfInBounds_toArray, List.set_cons_zero, List.set_cons_succ]
            clear hK rb
            refine wpAnyH_ready (rs := [8]) (by kernel_rfl) (by simp) ?_
            refine AllReadyH.cons (o := ⟨some 46, _, _, _, _, _⟩) rfl (fun K hK => ?_) AllReadyH.nil
            rw [if_pos (by rfl)]
            refine app_one (.tmp 39) (.tmp 45) 23 rfl _ _ _ rfl rfl R3.out ?_
            refine hK.out _ _ HS3.out (fun hHeld => ?_)
            try simp only [Act.put, List.setIfInBounds_toArray, List.set_cons_zero, List.set_cons_succ]
            clear hK
            refine wpAnyH_take (i := 9) (oi := ⟨some 47, _, _, _, _, _⟩) (v := (.pointer (some ⟨B2, 3, none⟩))) rfl (by kernel_rfl) (by kernel_rfl) (by kernel_rfl) (fun _ _ _ h => h) (Or.inl ⟨by rfl, ?hy16⟩) (by assumption) ?rest16
            case hy16 => (intro w hSw; first | (go_simp; done) | (go_simp; simp [*]; done) | (simp [*]; go_simp; done))
            try simp only [Act.put, List.setIfInBounds_toArray, List.set_cons_zero, List.set_cons_succ]
            refine wpAnyH_ready (rs := [10]) (by kernel_rfl) (by simp) ?_
            refine AllReadyH.cons (o := ⟨none, _, _, _, _, _⟩) rfl (fun K hK => ?_) AllReadyH.nil
            go_simp
            refine hK.out _ _ HS4.out (fun hHeld => ?_)
            try simp only [Act.put, List.setIfInBounds_toArray, List.set_cons_zero, List.set_cons_succ]
            clear hK
            refine wpAnyH_done (by kernel_rfl) ?_ _
            clear hHeld y0 y1 y2 y3 y4 yf
            go_wp2
            go_roundw
            case measure => simp [intOf]
            case rel => exact ⟨m, by omega, rfl, HN3⟩
        | zero =>
          have e0 : ((0 : Nat) : Int) - 1 = -1 := by omega
          rw [e0]
          clear e0 hp hbw nu
          obtain ⟨iv0, pv0, rv0, hp0⟩ := KP1.out
          have z0 := (hp0.2.2.2.2.1.cell (p := ⟨w.heap.size, 4, none⟩) (World.block_lt_of_cell? _ _ A4.out)).trans A4.out
          have KW0 : IntKind.i64.wrap ((n3 : Int) - 1) = (n3 : Int) - 1 := by rw [IntKind.wrap_i64]; omega
          go_wp2_with fail
          clear z0 hp0 KW0
          obtain ⟨V2, hV2⟩ : ∃ x, x = wr := ⟨_, rfl⟩
          subst hV2
          go_loopw [6] (fun i wr => ∃ k : Nat, k ≤ n3 ∧ i = .int .i64 ((k : Int) - 1) ∧ Kept (∃ iv pv rv, Pb W1 B2 kd tx iv pv rv ((I.drop 0).reverse) ((P.drop 0).reverse) ((R.drop k).reverse) wr)) (fun i _ => (intOf i + 1).toNat)
          case atStart => exact ⟨n3, Nat.le_refl _, rfl, KP1.out⟩
          case round =>
            obtain ⟨k, hk, rfl, KP2⟩ := hrel
            obtain ⟨iv, pv, rv, hp⟩ := KP2.out
            have hbw := hp.2.2.2.2.1
            have nu : ∀ {p : Addr} {v : Value}, W1.cell? p = some v → wr.cell? p = some v := fun {p v} h => (hbw.cell (p := p) (World.block_lt_of_cell? _ _ h)).trans h
            cases k with
            | succ m =>
              have em : ((m + 1 : Nat) : Int) - 1 = (m : Int) := by omega
              rw [em]
              have hz0 : (0 : Int) ≤ (m : Int) := by omega
              have hz : (m : Int) < (n3 : Int) := by omega
              have KW : IntKind.i64.wrap ((m : Int) - 1) = (m : Int) - 1 := by rw [IntKind.wrap_i64]; omega
              obtain ⟨x, hx⟩ : ∃ x, R[m]? = some x := ⟨_, List.getElem?_eq_getElem (by rw [N3.out]; omega)⟩
              have hds := drop_step hx
              have HDS := keep hds
              obtain ⟨g, rfl, hg⟩ := own_some Q3.out (by omega)
              have hrw : Ra W1 (.slice (some ⟨g, 0, none⟩) n3 rc) R := by unfold Ra; rw [N3.out]; exact Q3.out
              obtain ⟨hxc, hxd⟩ := Ra.at hrw hx
              obtain ⟨x1, x2⟩ := x
              dsimp only at hxc hxd
              obtain ⟨ok, hok⟩ : ∃ ok, m * 2 = ok := ⟨_, rfl⟩
              rw [hok] at hxc hxd
              have HXC := keep hxc
              have HXD := keep hxd
              have c1 := nu hxc
              have c2 := nu hxd
              have a0 := nu A4.out
              obtain ⟨⟨e0, e1, e2, e3, e4⟩, ef⟩ := hp.box
              have rb := e4
              have hpd := hp.bel (Below.refl _ wr).drew
              have hba : Below wr.drew.heap.size wr.drew (wr.drew.alloc (.cells #[.string x1, .float .f64 x2] 73)) := (Below.refl _ _).alloc (Nat.le_refl _) _
              obtain ⟨v1, V3, r3, x3, p4⟩ := (hpd.bel hba).setR (J := [(x1, x2)]) (so := some ⟨wr.drew.heap.size, 0, none⟩) (m := 1) (c := 1) rfl (in_lit wr.drew #[.string x1, .float .f64 x2] 73 _ rfl) (fun h => by cases h) (by rw [List.length_reverse, List.length_drop, N3.out]; omega)
              obtain ⟨o1, l1, d1, hv1⟩ : ∃ o1 l1 d1, v1 = .slice o1 l1 d1 := by obtain ⟨a, b, c⟩ := own_sl p4.2.2.2.1; exact ⟨_, _, _, c⟩
              obtain ⟨o2, l2, d2, hv2⟩ : ∃ o2 l2 d2, rv = .slice o2 l2 d2 := by obtain ⟨a, b, c⟩ := own_sl hp.2.2.2.1; exact ⟨_, _, _, c⟩
              subst hv1 hv2
              have R3 := keep r3
              have P4 := keep p4
              obtain ⟨y0, y1, y2, y3, y4⟩ := five_cells x3
              have yf := bx_free x3 4
              have HS : Kept (wr.drew.cell? ⟨w.heap.size, 4, none⟩ = some (.slice (some ⟨g, 0, none⟩) n3 rc) ∧ wr.drew.cell? ⟨g, ok, none⟩ = some (.string x1) ∧ wr.drew.cell? ⟨g, ok + 1, none⟩ = some (.float .f64 x2)) := ⟨a0, c1, c2⟩
              have RB : Kept (wr.drew.cell? ⟨B2, 4, none⟩ = some (.slice o2 l2 d2)) := rb
              have HSa : Kept ((wr.drew.alloc (.cells #[.string x1, .float .f64 x2] 73)).cell? ⟨w.heap.size, 4, none⟩ = some (.slice (some ⟨g, 0, none⟩) n3 rc) ∧ (wr.drew.alloc (.cells #[.string x1, .float .f64 x2] 73)).cell? ⟨g, ok, none⟩ = some (.string x1) ∧ (wr.drew.alloc (.cells #[.string x1, .float .f64 x2] 73)).cell? ⟨g, ok + 1, none⟩ = some (.float .f64 x2)) := ⟨(hba.cell (World.block_lt_of_cell? _ _ HS.out.1)).trans HS.out.1, (hba.cell (World.block_lt_of_cell? _ _ HS.out.2.1)).trans HS.out.2.1, (hba.cell (World.block_lt_of_cell? _ _ HS.out.2.2)).trans HS.out.2.2⟩
              have RBa : Kept ((wr.drew.alloc (.cells #[.string x1, .float .f64 x2] 73)).cell? ⟨B2, 4, none⟩ = some (.slice o2 l2 d2)) := (hba.cell (World.block_lt_of_cell? _ _ RB.out)).trans RB.out
              have hbW3 : Below W1.heap.size W1 (V3.setCell ⟨B2, 4, none⟩ (.slice o1 l1 d1)) := p4.2.2.2.2.1
              have HS4 : Kept ((V3.setCell ⟨B2, 4, none⟩ (.slice o1 l1 d1)).cell? ⟨w.heap.size, 4, none⟩ = some (.slice (some ⟨g, 0, none⟩) n3 rc) ∧ (V3.setCell ⟨B2, 4, none⟩ (.slice o1 l1 d1)).cell? ⟨g, ok, none⟩ = some (.string x1) ∧ (V3.setCell ⟨B2, 4, none⟩ (.slice o1 l1 d1)).cell? ⟨g, ok + 1, none⟩ = some (.float .f64 x2)) := ⟨(hbW3.cell (World.block_lt_of_cell? _ _ A4.out)).trans A4.out, (hbW3.cell (World.block_lt_of_cell? _ _ HXC.out)).trans HXC.out, (hbW3.cell (World.block_lt_of_cell? _ _ HXD.out)).trans HXD.out⟩
              have hneB : w.heap.size ≠ B2 := by have := HB2.out; omega
              have hneg : g ≠ B2 := by have h2 := HZ1.out; have h3 := HB2.out; omega
              have HS3 : Kept (V3.cell? ⟨w.heap.size, 4, none⟩ = some (.slice (some ⟨g, 0, none⟩) n3 rc) ∧ V3.cell? ⟨g, ok, none⟩ = some (.string x1) ∧ V3.cell? ⟨g, ok + 1, none⟩ = some (.float .f64 x2)) := ⟨by rw [← HS4.out.1]; exact (World.cell?_of_block (a := ⟨w.heap.size, 4, none⟩) (Below.heap_setCell _ _ _ _ hneB)).symm, by rw [← HS4.out.2.1]; exact (World.cell?_of_block (a := ⟨g, ok, none⟩) (Below.heap_setCell _ _ _ _ hneg)).symm, by rw [← HS4.out.2.2]; exact (World.cell?_of_block (a := ⟨g, ok + 1, none⟩) (Below.heap_setCell _ _ _ _ hneg)).symm⟩
              have HN3 : Kept (∃ iv pv rv, Pb W1 B2 kd tx iv pv rv ((I.drop 0).reverse) ((P.drop 0).reverse) ((R.drop m).reverse) (V3.setCell ⟨B2, 4, none⟩ (.slice o1 l1 d1))) := ⟨_, _, _, by rw [HDS.out]; exact P4.out⟩
              clear hpd hba r3 x3 p4 rb hbW3 hneB hneg a0 c1 c2 e0 e1 e2 e3 e4 ef hx hds hrw hxc hxd hp hbw nu
              go_upto_region 13 with fail
              refine wp_region_held_drew (S := fun W => W.cell? ⟨w.heap.size, 4, none⟩ = some (.slice (some ⟨g, 0, none⟩) n3 rc) ∧ W.cell? ⟨g, ok, none⟩ = some (.string x1) ∧ W.cell? ⟨g, ok + 1, none⟩ = some (.float .f64 x2)) (by kernel_rfl) HS.out (fun hHeld => ?_)
              refine wpAnyH_take (i := 0) (oi := ⟨some 56, _, _, _, _, _⟩) (v := (.pointer (some ⟨B2, 4, none⟩))) rfl (by kernel_rfl) (by kernel_rfl) (by kernel_rfl) (fun _ _ _ h => h) (Or.inl ⟨by rfl, ?hy17⟩) (by assumption) ?rest17
              case hy17 => (intro w hSw; obtain ⟨p0,p1,p2⟩ := hSw; first | (go_simp; done) | (go_simp; simp [*]; done) | (simp [*]; go_simp; done))
              try simp only [Act.put, List.setIfInBounds_toArray, List.set_cons_zero, List.set_cons_succ]
              refine wpAnyH_take (i := 2) (oi := ⟨some 58, _, _, _, _, _⟩) (v := (.pointer (some ⟨w.heap.size, 4, none⟩))) rfl (by kernel_rfl) (by kernel_rfl) (by kernel_rfl) (fun _ _ _ h => h) (Or.inl ⟨by rfl, ?hy18⟩) (by assumption) ?rest18
              case hy18 => (intro w hSw; obtain ⟨p0,p1,p2⟩ := hSw; first | (go_simp; done) | (go_simp; simp [*]; done) | (simp [*]; go_simp; done))
              try simp only [Act.put, List.setIfInBounds_toArray, List.set_cons_zero, List.set_cons_succ]
              refine wpAnyH_take (i := 3) (oi := ⟨some 59, _, _, _, _, _⟩) (v := (.slice (some ⟨g, 0, none⟩) n3 rc)) rfl (by kernel_rfl) (by kernel_rfl) (by kernel_rfl) (fun _ _ _ h => h) (Or.inl ⟨by rfl, ?hy19⟩) (by assumption) ?rest19
              case hy19 => (intro w hSw; obtain ⟨p0,p1,p2⟩ := hSw; first | (go_simp; done) | (go_simp; simp [*]; done) | (simp [*]; go_simp; done))
              try simp only [Act.put, List.setIfInBounds_toArray, List.set_cons_zero, List.set_cons_succ]
              refine wpAnyH_take (i := 4) (oi := ⟨some 60, _, _, _, _, _⟩) (v := ?v20) rfl (by kernel_rfl) (by kernel_rfl) (by kernel_rfl) (fun _ _ _ h => h) (Or.inl ⟨by rfl, ?hy20⟩) (by assumption) ?rest20
              case hy20 => (intro w hSw; obtain ⟨p0,p1,p2⟩ := hSw; go_simp; try with_reducible rfl)
              try simp only [Act.put, List.setIfInBounds_toArray, List.set_cons_zero, List.set_cons_succ]
              refine wpAnyH_take (i := 5) (oi := ⟨some 61, _, _, _, _, _⟩) (v := (.pointer (some ⟨g, ok, none⟩))) rfl (by kernel_rfl) (by kernel_rfl) (by kernel_rfl) (fun _ _ _ h => h) (Or.inl ⟨by rfl, ?hy21⟩) (by assumption) ?rest21
              case hy21 => (intro w hSw; obtain ⟨p0,p1,p2⟩ := hSw; first | (go_simp; done) | (go_simp; simp [*]; done) | (simp [*]; go_simp; done))
              try simp only [Act.put, List.setIfInBounds_toArray, List.set_cons_zero, List.set_cons_succ]
              refine wpAnyH_take (i := 6) (oi := ⟨some 62, _, _, _, _, _⟩) (v := (.agg #[.string x1, .float .f64 x2])) rfl (by kernel_rfl) (by kernel_rfl) (by kernel_rfl) (fun _ _ _ h => h) (Or.inl ⟨by rfl, ?hy22⟩) (by assumption) ?rest22
              case hy22 => (intro w hSw; obtain ⟨p0,p1,p2⟩ := hSw; first | (go_simp; done) | (go_simp; simp [*]; done) | (simp [*]; go_simp; done))
              try simp only [Act.put, List.setIfInBounds_toArray, List.set_cons_zero, List.set_cons_succ]
              refine wpAnyH_ready (rs := [1, 7]) (by kernel_rfl) (by simp) ?_
              refine AllReadyH.cons (o := ⟨some 57, _, _, _, _, _⟩) rfl (fun K hK => ?_) (AllReadyH.cons (o := ⟨some 63, _, _, _, _, _⟩) rfl (fun K hK => ?_) AllReadyH.nil)
              · have rb : wr.drew.cell? ⟨B2, 4, none⟩ = some (.slice o2 l2 d2) := RB.out
                go_simp
                refine hK.out _ _ HS.out (fun hHeld => ?_)
                try simp only [Act.put, List.setIfInBounds_toArray, List.set_cons_zero, List.set_cons_succ]
                clear hK rb
                refine wpAnyH_ready (rs := [7]) (by kernel_rfl) (by simp) ?_
                refine AllReadyH.cons (o := ⟨some 63, _, _, _, _, _⟩) rfl (fun K hK => ?_) AllReadyH.nil
                go_simp
                refine hK.out _ _ HSa.out (fun hHeld => ?_)
                try simp only [Act.put, List.setIfInBounds_toArray, List.set_cons_zero, List.set_cons_succ]
                clear hK
                refine wpAnyH_ready (rs := [8]) (by kernel_rfl) (by simp) ?_
                refine AllReadyH.cons (o := ⟨some 64, _, _, _, _, _⟩) rfl (fun K hK => ?_) AllReadyH.nil
                rw [if_pos (by rfl)]
                refine app_one (.tmp 57) (.tmp 63) 28 rfl _ _ _ rfl rfl R3.out ?_
                refine hK.out _ _ HS3.out (fun hHeld => ?_)
                try simp only [Act.put, List.setIfInBounds_toArray, List.set_cons_zero, List.set_cons_succ]
                clear hK
                refine wpAnyH_take (i := 9) (oi := ⟨some 65, _, _, _, _, _⟩) (v := (.pointer (some ⟨B2, 4, none⟩))) rfl (by kernel_rfl) (by kernel_rfl) (by kernel_rfl) (fun _ _ _ h => h) (Or.inl ⟨by rfl, ?hy23⟩) (by assumption) ?rest23
                case hy23 => (intro w hSw; first | (go_simp; done) | (go_simp; simp [*]; done) | (simp [*]; go_simp; done))
                try simp only [Act.put, List.setIfInBounds_toArray, List.set_cons_zero, List.set_cons_succ]
                refine wpAnyH_ready (rs := [10]) (by kernel_rfl) (by simp) ?_
                refine AllReadyH.cons (o := ⟨none, _, _, _, _, _⟩) rfl (fun K hK => ?_) AllReadyH.nil
                go_simp
                refine hK.out _ _ HS4.out (fun hHeld => ?_)
                try simp only [Act.put, List.setIfInBounds_toArray, List.set_cons_zero, List.set_cons_succ]
                clear hK
                refine wpAnyH_done (by kernel_rfl) ?_ _
                clear hHeld y0 y1 y2 y3 y4 yf
                go_wp2
                go_roundw
                case measure => simp [intOf]
                case rel => exact ⟨m, by omega, rfl, HN3⟩
              · go_simp
                refine hK.out _ _ HSa.out (fun hHeld => ?_)
                try simp only [Act.put, List.setIfInBounds_toArray, List.set_cons_zero, List.set_cons_succ]
                clear hK
                have rb : (wr.alloc (.cells #[.string x1, .float .f64 x2] 73)).cell? ⟨B2, 4, none⟩ = some (.slice o2 l2 d2) := RBa.out
                refine wpAnyH_ready (rs := [1]) (by kernel_rfl) (by simp) ?_
                refine AllReadyH.cons (o := ⟨some 57, _, _, _, _, _⟩) rfl (fun K hK => ?_) AllReadyH.nil
                go_simp
                refine hK.out _ _ HSa.out (fun hHeld => ?_)
                try simp only [Act.put, List.setIfInBounds_toArray, List.set_cons_zero, List.set_cons_succ]
                clear hK rb
                refine wpAnyH_ready (rs := [8]) (by kernel_rfl) (by simp) ?_
                refine AllReadyH.cons (o := ⟨some 64, _, _, _, _, _⟩) rfl (fun K hK => ?_) AllReadyH.nil
                rw [if_pos (by rfl)]
                refine app_one (.tmp 57) (.tmp 63) 28 rfl _ _ _ rfl rfl R3.out ?_
                refine hK.out _ _ HS3.out (fun hHeld => ?_)
                try simp only [Act.put, List.setIfInBounds_toArray, List.set_cons_zero, List.set_cons_succ]
                clear hK
                refine wpAnyH_take (i := 9) (oi := ⟨some 65, _, _, _, _, _⟩) (v := (.pointer (some ⟨B2, 4, none⟩))) rfl (by kernel_rfl) (by kernel_rfl) (by kernel_rfl) (fun _ _ _ h => h) (Or.inl ⟨by rfl, ?hy24⟩) (by assumption) ?rest24
                case hy24 => (intro w hSw; first | (go_simp; done) | (go_simp; simp [*]; done) | (simp [*]; go_simp; done))
                try simp only [Act.put, List.setIfInBounds_toArray, List.set_cons_zero, List.set_cons_succ]
                refine wpAnyH_ready (rs := [10]) (by kernel_rfl) (by simp) ?_
                refine AllReadyH.cons (o := ⟨none, _, _, _, _, _⟩) rfl (fun K hK => ?_) AllReadyH.nil
                go_simp
                refine hK.out _ _ HS4.out (fun hHeld => ?_)
                try simp only [Act.put, List.setIfInBounds_toArray, List.set_cons_zero, List.set_cons_succ]
                clear hK
                refine wpAnyH_done (by kernel_rfl) ?_ _
                clear hHeld y0 y1 y2 y3 y4 yf
                go_wp2
                go_roundw
                case measure => simp [intOf]
                case rel => exact ⟨m, by omega, rfl, HN3⟩
            | zero =>
              have e0 : ((0 : Nat) : Int) - 1 = -1 := by omega
              rw [e0]
              clear e0 hp hbw nu
              obtain ⟨iv, pv, rv, hp⟩ := KP2.out
              obtain ⟨i2, i3, i5, hiv⟩ : ∃ a b c, iv = .slice a b c := by obtain ⟨a, b, c⟩ := own_sl hp.2.1; exact ⟨_, _, _, c⟩
              obtain ⟨p2, p3, p5, hpv⟩ : ∃ a b c, pv = .slice a b c := by obtain ⟨a, b, c⟩ := own_sl hp.2.2.1; exact ⟨_, _, _, c⟩
              obtain ⟨r2, r3, r5, hrv⟩ : ∃ a b c, rv = .slice a b c := by obtain ⟨a, b, c⟩ := own_sl hp.2.2.2.1; exact ⟨_, _, _, c⟩
              subst hiv hpv hrv
              have hbw := hp.2.2.2.2.1
              have g1 : wr.heap[w.heap.size + 1]? = some (.cells #[.int .i64 0, .string { data := #[] }, .slice none 0 0, .slice none 0 0, .slice none 0 0] 30 (0, 0)) := (hbw.block _ (by have := HZ1.out; omega)).trans G1.out
              obtain ⟨z0, z1, z2, z3, z4⟩ := five_cells g1
              have zf : ∀ i, wr.frozen? ⟨w.heap.size + 1, i, none⟩ = false := fun i => by simp [World.frozen?, g1]
              have y0 := zf 0
              have y1 := zf 1
              have y2 := zf 2
              have y3 := zf 3
              have y4 := zf 4
              obtain ⟨⟨e0, e1, e2, e3, e4⟩, _⟩ := hp.box
              have HP1 := keep hp
              have GG1 := keep g1
              have HBW := keep hbw
              clear hp g1 zf hbw
              go_wp2
              have HX := over (v0 := .int .i64 kd) (v1 := .string tx) (v2 := .slice i2 i3 i5) (v3 := .slice p2 p3 p5) (v4 := .slice r2 r3 r5) GG1.out
              have HY := over_same wr (w.heap.size + 1) (.int .i64 kd) (.string tx) (.slice i2 i3 i5) (.slice p2 p3 p5) (.slice r2 r3 r5)
              have HZ := over_belowB' (B := w.heap.size + 1) (HB1.out.trans (HBW.out.mono HB1.out.size)) (by omega) (.int .i64 kd) (.string tx) (.slice i2 i3 i5) (.slice p2 p3 p5) (.slice r2 r3 r5)
              generalize ((((wr.setCell ⟨w.heap.size + 1, 0, none⟩ (.int .i64 kd)).setCell ⟨w.heap.size + 1, 1, none⟩ (.string tx)).setCell ⟨w.heap.size + 1, 2, none⟩ (.slice i2 i3 i5)).setCell ⟨w.heap.size + 1, 3, none⟩ (.slice p2 p3 p5)).setCell ⟨w.heap.size + 1, 4, none⟩ (.slice r2 r3 r5) = W9 at HX HY HZ ⊢
              obtain ⟨k0, k1, k2, k3, k4⟩ := five_cells HX
              have hr := HP1.out
              rw [List.drop_zero, List.drop_zero, List.drop_zero] at hr
              refine bodyPost_ret (v := plV ⟨kd, tx, I.reverse, P.reverse, R.reverse⟩ (.slice i2 i3 i5) (.slice p2 p3 p5) (.slice r2 r3 r5)) (by unfold plV; simp [results, Tryz.results38, go_sem, k0, k1, k2, k3, k4]) rfl ⟨⟨_, rfl, ⟨_, _, _, rfl, ?_, ?_, ?_⟩⟩, HZ⟩
              · exact kept_but (base0 hr.2.1) HY (own_ne (base0 hr.2.1) GG1.out (by decide))
              · exact kept_but (base0 hr.2.2.1) HY (own_ne (base0 hr.2.2.1) GG1.out (by decide))
              · exact kept_but (base0 hr.2.2.2.1) HY (own_ne (base0 hr.2.2.2.1) GG1.out (by decide))
end Vl
end Go.Proofs.YtmgeaanbgjbkcaaGreat
