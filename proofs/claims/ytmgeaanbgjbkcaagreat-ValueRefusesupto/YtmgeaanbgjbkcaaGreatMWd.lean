/-
  Contracts over this program, put together.
-/
import Derived.Test.YtmgeaanbgjbkcaaGreatMVc
import Derived.Test.YtmgeaanbgjbkcaaGreatMUe
import Derived.Test.YtmgeaanbgjbkcaaGreatMFf
set_option maxHeartbeats 16000000
namespace Go.Proofs.YtmgeaanbgjbkcaaGreat
open Go.RowKit Go.Shelf
set_option linter.unusedVariables false
set_option linter.unusedSimpArgs false
set_option maxRecDepth 100000
namespace Vl
def et : ByteArray := { data := #[] }
theorem over_belowB {w W2 : World} {B n : Nat} (h : Below n w W2) (hB : n ≤ B) (v0 v1 v2 v3 v4 : Value) :
    Below n w (((((W2.setCell ⟨B, 0, none⟩ v0).setCell ⟨B, 1, none⟩ v1).setCell ⟨B, 2, none⟩ v2).setCell ⟨B, 3, none⟩ v3).setCell ⟨B, 4, none⟩ v4) :=
  ((((h.setCell hB _).setCell hB _).setCell hB _).setCell hB _).setCell hB _
theorem own_nil (w : World) (t s : Nat) : w.ownsRow 0 t s (.slice none 0 0) 0 [] := ⟨by simp, .inl ⟨rfl, rfl⟩⟩
theorem tell_members {W w : World} {o : Nat} {l : List ByteArray} (hO : OnF W o (un l) w) :
    Calls Tryz.prog 350 #[.agg #[.pointer (some ⟨o, 0, none⟩)]] w fun e w' => (∃ V d', e = .returned V ∧ Pln w' V d' ∧ ∃ L, d' = ⟨4, et, L, [], []⟩ ∧ DU.Srs l L) ∧ Below w.heap.size w w' := by
  obtain ⟨W0, hW0⟩ : ∃ W0, w.alloc (.cells #[.pointer (some ⟨o, 0, none⟩)] 130) = W0 := ⟨_, rfl⟩
  obtain ⟨W1, hW1⟩ : ∃ W1, W0.alloc (.cells #[.int .i64 0, .string { data := #[] }, .slice none 0 0, .slice none 0 0, .slice none 0 0] 30) = W1 := ⟨_, rfl⟩
  have hz0 : W0.heap.size = w.heap.size + 1 := by rw [← hW0]; simp
  have hz1 : W1.heap.size = w.heap.size + 2 := by rw [← hW1]; simp [hz0]
  have hb0 : Below w.heap.size w W0 := by rw [← hW0]; exact (Below.refl _ w).alloc (Nat.le_refl _) _
  have hb1 : Below w.heap.size w W1 := hb0.trans (by rw [← hW1]; exact (Below.refl _ W0).alloc hb0.size _)
  have g0 : W1.heap[w.heap.size]? = some (.cells #[.pointer (some ⟨o, 0, none⟩)] 130 (0, 0)) := by
    rw [← hW1, Below.heap_alloc _ _ _ (by omega), ← hW0]; exact heap_alloc_new _ _
  have g1 : W1.heap[w.heap.size + 1]? = some (.cells #[.int .i64 0, .string { data := #[] }, .slice none 0 0, .slice none 0 0, .slice none 0 0] 30 (0, 0)) := by
    rw [← hW1, ← hz0]; exact heap_alloc_new _ _
  have k0 : W1.cell? ⟨w.heap.size, 0, none⟩ = some (.pointer (some ⟨o, 0, none⟩)) := by rw [cell_of_row _ _ _ _ _ _ g0]; rfl
  obtain ⟨h', r, b, seed, s, hH, h1, h2, h3, h4⟩ := hO.bel hb1
  have hlen : (un l).length ≤ 1048576 := by rw [← h2.length_eq]; exact h1.2.1.2
  have mP := DU.fmembers_any W1 r o b s h1 (by omega)
  have HW : Kept ((w.alloc (.cells #[.pointer (some ⟨o, 0, none⟩)] 130)).alloc (.cells #[.int .i64 0, .string { data := #[] }, .slice none 0 0, .slice none 0 0, .slice none 0 0] 30) = W1) := by rw [hW0]; exact hW1
  have HB1 := keep hb1
  have HZ1 := keep hz1
  have G1 := keep g1
  have H2 := keep h2
  clear hW0 hW1 hz0 hz1 hb0 hb1 g0 g1 h1 h2 h3 h4 hH hO hlen
  go_enter Tryz.func350, Tryz.ntmps350
  go_wp2_with fail
  rw [HW.out]
  refine mP.mono ?_
  rintro _ W2 ⟨v, L, rfl, q1, ⟨g, rfl, q2⟩, hb2⟩
  have g2 : W2.heap[w.heap.size + 1]? = some (.cells #[.int .i64 0, .string { data := #[] }, .slice none 0 0, .slice none 0 0, .slice none 0 0] 30 (0, 0)) := (hb2.block _ (by have := HZ1.out; omega)).trans G1.out
  obtain ⟨c0, c1, c2, c3, c4⟩ := five_cells g2
  have f : ∀ i, W2.frozen? ⟨w.heap.size + 1, i, none⟩ = false := fun i => by simp [World.frozen?, g2]
  have f0 := f 0
  have f1 := f 1
  have f2 := f 2
  have f3 := f 3
  have f4 := f 4
  have ROW := keep (base0 q2)
  have Q1 := keep q1
  have HB2 := keep hb2
  have G2 := keep g2
  obtain ⟨n, hn⟩ : ∃ n, L.length = n := ⟨_, rfl⟩
  have HNN := keep hn
  rw [hn] at ROW ⊢
  clear f mP q1 q2 hb2 g2 hn
  go_wp2
  have HX := over (v0 := .int .i64 4) (v1 := .string { data := #[] }) (v2 := .slice (some ⟨g, 0, none⟩) n n) (v3 := .slice none 0 0) (v4 := .slice none 0 0) G2.out
  have HY := over_same W2 (w.heap.size + 1) (.int .i64 4) (.string { data := #[] }) (.slice (some ⟨g, 0, none⟩) n n) (.slice none 0 0) (.slice none 0 0)
  have HZ := over_belowB (B := w.heap.size + 1) (HB1.out.trans (HB2.out.mono HB1.out.size)) (by omega) (.int .i64 4) (.string { data := #[] }) (.slice (some ⟨g, 0, none⟩) n n) (.slice none 0 0) (.slice none 0 0)
  generalize ((((W2.setCell ⟨w.heap.size + 1, 0, none⟩ (.int .i64 4)).setCell ⟨w.heap.size + 1, 1, none⟩ (.string { data := #[] })).setCell ⟨w.heap.size + 1, 2, none⟩ (.slice (some ⟨g, 0, none⟩) n n)).setCell ⟨w.heap.size + 1, 3, none⟩ (.slice none 0 0)).setCell ⟨w.heap.size + 1, 4, none⟩ (.slice none 0 0) = W3 at HX HY HZ ⊢
  obtain ⟨k0, k1, k2, k3, k4⟩ := five_cells HX
  have h2 := H2.out
  have q1 := Q1.out
  have hsrt : DU.Srs l L := ⟨q1.1.trans (by have := h2.map Prod.fst; rw [show (un l).map Prod.fst = l from keys_un l] at this; exact this), q1.2⟩
  refine bodyPost_ret (v := plV ⟨4, et, L, [], []⟩ (.slice (some ⟨g, 0, none⟩) n n) (.slice none 0 0) (.slice none 0 0)) (by unfold plV et; simp [results, Tryz.results350, go_sem, k0, k1, k2, k3, k4]) rfl ⟨⟨_, ⟨4, et, L, [], []⟩, rfl, ⟨_, _, _, rfl, ?_, ?_, ?_⟩, L, rfl, hsrt⟩, HZ⟩
  · unfold It; rw [HNN.out]; exact kept_but ROW.out HY (own_ne ROW.out G2.out (by decide))
  · exact own_nil _ _ _
  · exact own_nil _ _ _
end Vl
end Go.Proofs.YtmgeaanbgjbkcaaGreat

namespace Go.Proofs.YtmgeaanbgjbkcaaGreat
open Go.RowKit Go.Shelf
namespace Vl
theorem dcost_any (w : World) (b : Nat) (f l : Value) (n c : Nat) (hd : DQ.Ds w b f l n c) : Calls Tryz.prog 303 #[.pointer (some ⟨b, 0, none⟩)] w fun e w' => e = .returned (.int .i64 (c : Nat)) ∧ w' = w := by
  obtain ⟨c0, c1, c2, c3, cf⟩ := hd.four
  clear hd c0 c1 c2 cf
  go_enter Tryz.func303, Tryz.ntmps303
  go_wp2
  go_ret
  exact ⟨rfl, rfl⟩
end Vl
end Go.Proofs.YtmgeaanbgjbkcaaGreat

namespace Go.Proofs.YtmgeaanbgjbkcaaGreat
open Go.RowKit Go.Shelf
set_option linter.unusedVariables false
set_option linter.unusedSimpArgs false
set_option maxRecDepth 100000
namespace Vl
theorem build_any (w : World) (V : Value) (d : Dt) (seed : Nat) (h : Pln w V d) (hok : Rfz d 0) (hsd : seed < Dw.M) :
    Calls Tryz.prog 47 #[V, .int .u64 seed] w fun r w' => Made w d r w' ∧ Below w.heap.size w w' := by
  have hf : Fit d := Classical.byContradiction (fun e => hok.ok.1 (.inl e))
  have hk : d.kind = 1 ∨ d.kind = 2 ∨ d.kind = 3 ∨ d.kind = 4 ∨ d.kind = 5 := by
    rcases hf with ⟨h, _⟩ | ⟨h | h, _⟩ | ⟨h, _⟩ | ⟨h, _⟩
    · exact .inl h
    · exact .inr (.inl h)
    · exact .inr (.inr (.inr (.inl h)))
    · exact .inr (.inr (.inl h))
    · exact .inr (.inr (.inr (.inr h)))
  rcases hk with hk | hk | hk | hk | hk
  · exact build_text w V d seed h hok hsd hk
  · exact build_list w V d seed h hok hsd hk
  · exact build_fields w V d seed h hok hsd hk
  · exact build_members w V d seed h hok hsd hk
  · exact build_ranked w V d seed h hok hsd hk
def Ofs (d : Dt) (r : Ending) (w' : World) : Prop :=
  (∃ c, c ≠ 0 ∧ Rfz d c ∧ r = .returned (.tuple #[.pointer none, .int .i64 c])) ∨ (Rfz d 0 ∧ ∃ b, r = .returned (.tuple #[.pointer (some ⟨b, 0, none⟩), .int .i64 0]) ∧ Val w' b d)
theorem of_any (w : World) (V : Value) (d : Dt) (seed : Nat) (h : Pln w V d) (hwf : Wf d) (hsd : seed < Dw.M) :
    Calls Tryz.prog 10 #[V, .int .u64 seed] w fun r w' => Ofs d r w' ∧ Below w.heap.size w w' := by
  have hP := h
  obtain ⟨iv, pv, rv, rfl, a1, a2, a3⟩ := h
  obtain ⟨W1, hW1⟩ : ∃ W1, w.alloc (.cells #[.int .i64 d.kind, .string d.text, iv, pv, rv] 30) = W1 := ⟨_, rfl⟩
  have hb1 : Below w.heap.size w W1 := by rw [← hW1]; exact (Below.refl _ w).alloc (Nat.le_refl _) _
  have g1 : Bx W1 w.heap.size d.kind d.text iv pv rv := by rw [← hW1]; exact heap_alloc_new _ _
  have m1 := refuse_any W1 _ d (hP.bel hb1) hwf
  have m2 : Kept (∀ W', Below W1.heap.size W1 W' → Rfz d 0 → Calls Tryz.prog 47 #[plV d iv pv rv, .int .u64 seed] W' fun r w' => Made W' d r w' ∧ Below W'.heap.size W' w') := fun W' hb h0 => build_any W' _ d seed ((hP.bel hb1).bel hb) h0 hsd
  have HB1 := keep hb1
  have HW1 := keep hW1
  have G1 := keep g1
  obtain ⟨io, ic, rfl⟩ := own_sl a1
  obtain ⟨po, pc, rfl⟩ := own_sl a2
  obtain ⟨ro, rc, rfl⟩ := own_sl a3
  unfold plV at m1 m2 ⊢
  generalize d.items.length = n1 at *
  generalize d.pairs.length = n2 at *
  generalize d.ranks.length = n3 at *
  generalize d.kind = kd at *
  generalize d.text = tx at *
  clear hb1 hW1 g1 hP a1 a2 a3
  obtain ⟨c0, c1, c2, c3, c4⟩ := five_cells G1.out
  go_enter Tryz.func10, Tryz.ntmps10
  go_wp2_with fail
  rw [HW1.out]
  refine m1.mono ?_
  rintro _ V1 ⟨⟨c, rfl, hc⟩, hb⟩
  have HC := keep hc
  have HBa := keep hb
  clear c0 c1 c2 c3 c4 hc hb m1
  by_cases h0 : c = 0
  · subst h0
    obtain ⟨c0, c1, c2, c3, c4⟩ := five_cells (G1.out.bel HBa.out)
    have mB := m2.out V1 HBa.out HC.out
    go_wp2_with fail
    refine mB.mono ?_
    rintro _ V2 ⟨⟨b, rfl, hv⟩, hb2⟩
    clear c0 c1 c2 c3 c4 mB
    go_wp2
    refine bodyPost_ret (results_tmp2 rfl _ _ _) rfl ?_
    exact ⟨.inr ⟨HC.out, b, rfl, hv⟩, HB1.out.trans ((HBa.out.trans (hb2.mono HBa.out.size)).mono HB1.out.size)⟩
  · have hne : (c != 0) = true := by simpa using h0
    have H0 := keep h0
    clear h0
    go_wp2
    refine bodyPost_ret (results_tmp2 rfl _ _ _) rfl ?_
    exact ⟨.inl ⟨c, H0.out, HC.out, rfl⟩, HB1.out.trans (HBa.out.mono HB1.out.size)⟩
def cstD (d : Dt) : Nat := if d.kind = 1 then d.text.size else if d.kind = 2 then DQ.costL d.items else if d.kind = 3 then DS.cst d.pairs else if d.kind = 4 then DU.cst (un d.items) else DF.rcst d.ranks
theorem vcost_any {w : World} {b : Nat} {d : Dt} (h : Val w b d) (hwf : Wf d) :
    Calls Tryz.prog 16 #[.pointer (some ⟨b, 0, none⟩)] w fun e w' => e = .returned (.int .i64 (cstD d : Int)) ∧ w' = w := by
  unfold cstD
  rcases h with ⟨h1, h2⟩ | ⟨h1, o, W, h2, h3⟩ | ⟨h1, o, W, h2, h3⟩ | ⟨h1, o, W, h2, h3⟩ | ⟨h1, o, W, h2, h3⟩
  · rw [if_pos h1]
    exact cost_text h2 hwf.1
  · rw [if_neg (by omega), if_pos h1]
    obtain ⟨cs, q1, q2, q3, q4⟩ := h3
    rw [← q2]
    exact cost_list h2 (dcost_any w o _ _ _ _ q1.1.1)
  · rw [if_neg (by omega), if_neg (by omega), if_pos h1]
    obtain ⟨h', r, bb, seed, s, hH, q1, q2, q3, q4⟩ := h3
    rw [← DS.cst_perm q2]
    exact cost_fields h2 (DS.rcost_any q1)
  · rw [if_neg (by omega), if_neg (by omega), if_neg (by omega), if_pos h1]
    obtain ⟨h', r, bb, seed, s, hH, q1, q2, q3, q4⟩ := h3
    rw [← DU.cst_perm q2]
    exact cost_members h2 (DU.rcost_any q1)
  · rw [if_neg (by omega), if_neg (by omega), if_neg (by omega), if_neg (by omega)]
    obtain ⟨O, seed, L, q1, q2, q3, q4⟩ := h3
    rw [show DF.rcst d.ranks = DF.rcst L from ((q2.map _).sum_nat).symm]
    exact cost_ranked h2 (DF.kcost_any q1)
def Pcs (d : Dt) (r : Ending) : Prop := ∃ k : Int, r = .returned (.int .i64 k) ∧ ((Rfz d 0 ∧ k = cstD d) ∨ (¬ Rfz d 0 ∧ k = 0))
theorem pcost_any (w : World) (V : Value) (d : Dt) (h : Pln w V d) (hwf : Wf d) :
    Calls Tryz.prog 13 #[V] w fun r w' => Pcs d r ∧ Below w.heap.size w w' := by
  have hP := h
  obtain ⟨iv, pv, rv, rfl, a1, a2, a3⟩ := h
  obtain ⟨W1, hW1⟩ : ∃ W1, w.alloc (.cells #[.int .i64 d.kind, .string d.text, iv, pv, rv] 30) = W1 := ⟨_, rfl⟩
  have hb1 : Below w.heap.size w W1 := by rw [← hW1]; exact (Below.refl _ w).alloc (Nat.le_refl _) _
  have g1 : Bx W1 w.heap.size d.kind d.text iv pv rv := by rw [← hW1]; exact heap_alloc_new _ _
  have m1 := of_any W1 _ d 0 (hP.bel hb1) hwf (by decide)
  have HB1 := keep hb1
  have HW1 := keep hW1
  have G1 := keep g1
  have HWF := keep hwf
  obtain ⟨io, ic, rfl⟩ := own_sl a1
  obtain ⟨po, pc, rfl⟩ := own_sl a2
  obtain ⟨ro, rc, rfl⟩ := own_sl a3
  unfold plV at m1 ⊢
  generalize d.items.length = n1 at *
  generalize d.pairs.length = n2 at *
  generalize d.ranks.length = n3 at *
  generalize d.kind = kd at *
  generalize d.text = tx at *
  clear hb1 hW1 g1 hP a1 a2 a3 hwf
  obtain ⟨c0, c1, c2, c3, c4⟩ := five_cells G1.out
  go_enter Tryz.func13, Tryz.ntmps13
  go_wp2_with fail
  rw [HW1.out]
  refine m1.mono ?_
  rintro _ V1 ⟨hO, hb⟩
  have HBa := keep hb
  clear c0 c1 c2 c3 c4 hb m1
  rcases hO with ⟨c, hc0, hc, rfl⟩ | ⟨h0, b, rfl, hv⟩
  · have HC0 := keep hc0
    have HC := keep hc
    clear hc0 hc
    go_wp2_with fail
    refine (cost_none _).mono ?_
    rintro _ V2 ⟨rfl, hb2⟩
    go_wp2
    go_ret
    refine ⟨⟨0, rfl, .inr ⟨fun h => HC0.out (HC.out.one h), rfl⟩⟩, HB1.out.trans ((HBa.out.trans (hb2.mono HBa.out.size)).mono HB1.out.size)⟩
  · have H0 := keep h0
    have mC := vcost_any hv HWF.out
    clear h0 hv
    go_wp2_with fail
    refine mC.mono ?_
    rintro _ V2 ⟨rfl, rfl⟩
    go_wp2
    go_ret
    exact ⟨⟨_, rfl, .inl ⟨H0.out, rfl⟩⟩, HB1.out.trans (HBa.out.mono HB1.out.size)⟩
theorem vplain4 {w : World} {b : Nat} {d : Dt} (h : Val w b d) (hk : d.kind = 4) :
    Calls Tryz.prog 33 #[.pointer (some ⟨b, 0, none⟩)] w fun e w' => (∃ V d', e = .returned V ∧ Pln w' V d' ∧ ∃ L, d' = ⟨4, et, L, [], []⟩ ∧ DU.Srs d.items L) ∧ Below w.heap.size w w' := by
  rcases h with ⟨h1, _⟩ | ⟨h1, _⟩ | ⟨h1, _⟩ | ⟨h1, o, W, h2, h3⟩ | ⟨h1, _⟩
  · omega
  · omega
  · omega
  · exact plain_members (P := fun d' => ∃ L, d' = ⟨4, et, L, [], []⟩ ∧ DU.Srs d.items L) (fun w' hb => content_some (h2.bel hb)) (fun w' hb => tell_members (h3.bel hb))
  · omega
end Vl
end Go.Proofs.YtmgeaanbgjbkcaaGreat
