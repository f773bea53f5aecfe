/-
  Contracts over this program: texts and lists as a space sees them; a list that is made of plain data.
-/
import Derived.Test.YtijclcedjgniaaaGreatKsLen
import Derived.Test.YtijclcedjgniaaaGreatVlCalls
import Derived.Test.YtijclcedjgniaaaGreatVlRefuse
import Derived.Test.YtijclcedjgniaaaGreatQDqFind
import Derived.Test.YtijclcedjgniaaaGreatQDqPop
namespace Go.Proofs.YtijclcedjgniaaaGreat
open Go.RowKit Go.Shelf
set_option linter.unusedVariables false
set_option linter.unusedSimpArgs false
set_option maxRecDepth 100000
namespace Ks
open Vl

/-- a deque -/
def OnL (W : World) (o : Nat) (l : List ByteArray) (w : World) : Prop := ∃ cs, DQ.Dq w o cs ∧ DQ.row cs = l ∧ (∀ k, DQ.OwD o cs k → W.heap.size ≤ k) ∧ Below W.heap.size W w

theorem onl_new (W w1 : World) (hb : Below W.heap.size W w1) : Calls Tryz.prog 128 #[] w1 fun e w' => ∃ o, e = .returned (.pointer (some ⟨o, 0, none⟩)) ∧ OnL W o [] w' := by
  refine (DQ.new_any w1).mono ?_
  rintro _ w2 ⟨rfl, d2, b2, _⟩
  have hz := hb.size
  refine ⟨_, rfl, [], d2, rfl, ?_, hb.trans (b2.mono hz)⟩
  rintro k (e | ⟨x, hx, _⟩)
  · omega
  · cases hx

theorem onl_push {W : World} {o : Nat} {l : List ByteArray} {w : World} (h : OnL W o l w) (s : ByteArray) (hs : s.size ≤ 1048576) (hn : l.length < 1048576) :
    Calls Tryz.prog 44 #[.pointer (some ⟨o, 0, none⟩), .bool false, .string s] w fun e w' => e = .returned (.int .i64 0) ∧ OnL W o (l ++ [s]) w' := by
  obtain ⟨cs, h1, h2, h3, h4⟩ := h
  refine (DQ.push_behind w o cs s h1 hs (by rw [h2]; exact hn)).mono ?_
  rintro _ w' ⟨rfl, cs', g1, g2, g3⟩
  have hz := h4.size
  refine ⟨rfl, cs', g1, by rw [DQ.row_tx, g3, DQ.pushB_flat, ← DQ.row_tx, h2], fun k hk => ?_, h4.trans (g2.below hz fun k hk e => ?_)⟩
  · rcases g2.2 k hk with e | e
    · exact h3 k e
    · omega
  · have := h3 k e; omega

theorem OnL.bel {W w w' : World} {o : Nat} {l : List ByteArray} (h : OnL W o l w) (hb : Below w.heap.size w w') : OnL W o l w' := by
  obtain ⟨cs, h1, h2, h3, h4⟩ := h
  exact ⟨cs, h1.below hb, h2, h3, h4.trans (hb.mono h4.size)⟩

theorem OnL.base {W w : World} {o : Nat} {l : List ByteArray} (h : OnL W o l w) : Below W.heap.size W w := by obtain ⟨_, _, _, _, h⟩ := h; exact h

theorem take_more {α : Type} {l : List α} {k : Nat} {x : α} (hx : l[k]? = some x) : l.take (k + 1) = l.take k ++ [x] := by
  rw [List.take_add_one, hx]; rfl

set_option maxHeartbeats 400000 in
theorem hold_list (w : World) (o : Nat) : Calls Tryz.prog 129 #[.pointer (some ⟨o, 0, none⟩)] w fun e w' => e = .returned (.pointer (some ⟨w.heap.size, 0, none⟩)) ∧ Hol w' w.heap.size 141 (.agg #[.pointer (some ⟨o, 0, none⟩)]) ∧ Below w.heap.size w w' := by
  go_enter Tryz.func129, Tryz.ntmps129
  go_wp2
  go_ret
  exact ⟨rfl, heap_alloc_new _ _, (Below.refl _ _).alloc (Nat.le_refl _) _⟩

/-- the value in block b is a list made of d, in blocks from B on -/
def VaL (B : Nat) (w : World) (b : Nat) (d : Dt) : Prop := ∃ o W, B ≤ W.heap.size ∧ B ≤ b ∧ Hol w b 141 (.agg #[.pointer (some ⟨o, 0, none⟩)]) ∧ OnL W o d.items w
def Made (w : World) (d : Dt) (r : Ending) (w' : World) : Prop := ∃ b, r = .returned (.pointer (some ⟨b, 0, none⟩)) ∧ VaL w.heap.size w' b d

set_option maxHeartbeats 2000000 in
theorem build_list (w : World) (V : Value) (d : Dt) (seed : Nat) (h : Pln w V d) (hok : Rfz d 0) (hsd : seed < Dw.M) (hkd : d.kind = 2) :
    Calls Tryz.prog 76 #[V, .int .u64 seed] w fun r w' => Made w d r w' ∧ Below w.heap.size w w' := by
  obtain ⟨hb0, hl0, hf0⟩ := hok.ok
  have hL0 : ∀ x ∈ d.items, x.size ≤ 1048576 := fun x hx => Nat.le_of_not_lt (fun e => hl0 (.inr (.inl ⟨x, hx, e⟩)))
  have hL1 : ∀ x ∈ d.pairs, x.1.size ≤ 1048576 ∧ x.2.size ≤ 1048576 := fun x hx => ⟨Nat.le_of_not_lt (fun e => hl0 (.inr (.inr (.inl ⟨x, hx, .inl e⟩)))), Nat.le_of_not_lt (fun e => hl0 (.inr (.inr (.inl ⟨x, hx, .inr e⟩))))⟩
  have hL2 : ∀ x ∈ d.ranks, x.1.size ≤ 1048576 := fun x hx => Nat.le_of_not_lt (fun e => hl0 (.inr (.inr (.inr ⟨x, hx, e⟩))))
  have hF0 : d.items.length ≤ 1048576 := Nat.le_of_not_lt (fun e => hf0 (.inl e))
  have hF1 : d.pairs.length ≤ 1048576 := Nat.le_of_not_lt (fun e => hf0 (.inr (.inl e)))
  have hF2 : d.ranks.length ≤ 1048576 := Nat.le_of_not_lt (fun e => hf0 (.inr (.inr e)))
  have hD0 : d.kind = 4 → d.items.Nodup := fun h4 => Classical.byContradiction (fun e => hb0 (.inr (.inl (.inl ⟨h4, e⟩))))
  have hD1 : (d.pairs.map Prod.fst).Nodup := Classical.byContradiction (fun e => hb0 (.inr (.inl (.inr (.inl e)))))
  have hD2 : (d.ranks.map Prod.fst).Nodup := Classical.byContradiction (fun e => hb0 (.inr (.inl (.inr (.inr e)))))
  have hN : ∀ x ∈ d.ranks, isNan x.2 = false := fun x hx => by
    cases e : isNan x.2
    · rfl
    · exact absurd (.inr (.inr ⟨x, hx, e⟩)) hb0
  obtain ⟨iv, pv, rv, rfl, a1, a2, a3⟩ := h
  obtain ⟨io, ic, hio⟩ := own_sl a1
  obtain ⟨po, pc, hpo⟩ := own_sl a2
  obtain ⟨ro, rc, hro⟩ := own_sl a3
  obtain ⟨W1, hW1⟩ : ∃ W1, w.alloc (.cells #[.int .i64 d.kind, .string d.text, iv, pv, rv] 43) = W1 := ⟨_, rfl⟩
  have hb1 : Below w.heap.size w W1 := by rw [← hW1]; exact (Below.refl _ w).alloc (Nat.le_refl _) _
  have g1 : Bx W1 w.heap.size d.kind d.text iv pv rv := by rw [← hW1]; exact heap_alloc_new _ _
  have A1 := keep (kept a1 hb1)
  have A2 := keep (kept a2 hb1)
  have A3 := keep (kept a3 hb1)
  subst hio hpo hro
  obtain ⟨kd, tx, is, ps, rs⟩ := d
  dsimp only at *
  unfold plV
  dsimp only
  subst hkd
  have HB1 := keep hb1
  have HW1 := keep hW1
  have G1 := keep g1
  have HL0 := keep hL0
  have HL1 := keep hL1
  have HL2 := keep hL2
  have HD0 := keep hD0
  have HD1 := keep hD1
  have HD2 := keep hD2
  have HN := keep hN
  have DN : Kept (∀ (b : Nat) (V' : World), Below W1.heap.size W1 V' → VaL w.heap.size V' b ⟨2, tx, is, ps, rs⟩ → Made w ⟨2, tx, is, ps, rs⟩ (.returned (.pointer (some ⟨b, 0, none⟩))) V' ∧ Below w.heap.size w V') := fun b V' hb hv => ⟨⟨b, rfl, hv⟩, hb1.trans (hb.mono hb1.size)⟩
  clear hb0 hl0 hf0 a1 a2 a3 hb1 hW1 g1 hL0 hL1 hL2 hD0 hD1 hD2 hN hok
  obtain ⟨c0, c1, c2, c3, c4⟩ := five_cells G1.out
  generalize hL : is.length = L at *
  have HL := keep hL
  have HA : Kept (It W1 (.slice io L ic) is) := by
    have := A1.out
    unfold It
    rw [hL]
    exact this
  generalize ps.length = n2 at *
  generalize rs.length = n3 at *
  clear hL
  go_enter Tryz.func76, Tryz.ntmps76
  go_wp2_with fail
  rw [HW1.out]
  refine (onl_new _ _ (Below.refl _ _)).mono ?_
  rintro _ V1 ⟨o, rfl, hO⟩
  have KO0 := keep hO
  have cc := (hO.base.cell (p := ⟨w.heap.size, 2, none⟩) (World.block_lt_of_cell? _ _ c2)).trans c2
  clear hO c0 c1 c2 c3 c4
  go_wp2_with fail
  clear cc
  go_loopw [30] (fun i wr => ∃ k : Nat, k ≤ L ∧ i = .int .i64 k ∧ Kept (OnL W1 o (is.take k) wr)) (fun i _ => L - (intOf i).toNat)
  case atStart => exact ⟨0, Nat.zero_le _, rfl, KO0.out⟩
  case round =>
    obtain ⟨k, hk, rfl, KO⟩ := hrel
    by_cases hlt : k < L
    · have hz : (k : Int) < (L : Int) := by omega
      have hz0 : (0 : Int) ≤ (k : Int) := by omega
      have KW : IntKind.i64.wrap ((k : Int) + 1) = ((k + 1 : Nat) : Int) := by rw [IntKind.wrap_i64]; omega
      obtain ⟨x, hx⟩ : ∃ x, is[k]? = some x := ⟨_, List.getElem?_eq_getElem (by rw [HL.out]; exact hlt)⟩
      have HMEM := keep (List.mem_of_getElem? hx)
      have HX := keep hx
      obtain ⟨g, rfl, hg⟩ : ∃ g, io = some ⟨g, 0, none⟩ ∧ g < W1.heap.size := by
        have h1 := HA.out
        unfold It at h1
        rw [HL.out] at h1
        exact own_some h1 (by omega)
      have HR := keep HA.out
      have c1 : wr.cell? ⟨g, k, none⟩ = some (.string x) := (KO.out.base.cell (p := ⟨g, k, none⟩) hg).trans (It.at HR.out hx)
      clear hx
      have mS := onl_push KO.out x (HL0.out x HMEM.out) (by simp; omega)
      go_wp2_with fail
      refine mS.mono ?_
      rintro _ V2 ⟨rfl, hO2⟩
      have HO2 := keep hO2
      clear mS hO2 c1
      go_wp2
      go_roundw
      case measure => simp [intOf]; omega
      case rel => exact ⟨k + 1, by omega, by go_num, by rw [take_more HX.out]; exact HO2.out⟩
    · have hz : ¬ (k : Int) < (L : Int) := by omega
      have hO : OnL W1 o (is) wr := by
        have := KO.out
        rwa [List.take_of_length_le (by rw [HL.out]; omega)] at this
      have KO1 := keep hO
      clear KO hO
      go_wp2_with fail
      refine (hold_list _ _).mono ?_
      rintro _ V3 ⟨rfl, hv, hb⟩
      have hO := KO1.out
      go_wp2
      go_ret
      exact DN.out _ _ (hO.base.trans (hb.mono hO.base.size)) ⟨o, W1, HB1.out.size, Nat.le_trans HB1.out.size hO.base.size, hv, hO.bel hb⟩

set_option maxHeartbeats 1000000 in
theorem of_list (w : World) (V : Value) (d : Dt) (seed : Nat) (h : Pln w V d) (hwf : Wf d) (hsd : seed < Dw.M) (hok : Rfz d 0) (hkd : d.kind = 2) :
    Calls Tryz.prog 32 #[V, .int .u64 seed] w fun r w' => (∃ b, r = .returned (.tuple #[pb b, .int .i64 0]) ∧ VaL w.heap.size w' b d) ∧ Below w.heap.size w w' := by
  have hP := h
  obtain ⟨iv, pv, rv, rfl, a1, a2, a3⟩ := h
  obtain ⟨W1, hW1⟩ : ∃ W1, w.alloc (.cells #[.int .i64 d.kind, .string d.text, iv, pv, rv] 43) = W1 := ⟨_, rfl⟩
  have hb1 : Below w.heap.size w W1 := by rw [← hW1]; exact (Below.refl _ w).alloc (Nat.le_refl _) _
  have g1 : Bx W1 w.heap.size d.kind d.text iv pv rv := by rw [← hW1]; exact heap_alloc_new _ _
  have m1 := refuse_any W1 _ d (hP.bel hb1) hwf
  have m2 : Kept (∀ W', Below W1.heap.size W1 W' → Rfz d 0 → Calls Tryz.prog 76 #[plV d iv pv rv, .int .u64 seed] W' fun r w' => Made W' d r w' ∧ Below W'.heap.size W' w') := fun W' hb h0 => build_list W' _ d seed ((hP.bel hb1).bel hb) h0 hsd hkd
  have HB1 := keep hb1
  have HOK := keep hok
  clear hkd hok
  have HW1 := keep hW1
  have G1 := keep g1
  obtain ⟨io, ic, rfl⟩ := own_sl a1
  obtain ⟨po, pc, rfl⟩ := own_sl a2
  obtain ⟨ro, rc, rfl⟩ := own_sl a3
  unfold plV at m1 m2 ⊢
  generalize d.items.length = n1 at *
  generalize d.pairs.length = n2 at *
  generalize d.ranks.length = n3 at *
  generalize d.kind = kd at *
  generalize d.text = tx at *
  clear hb1 hW1 g1 hP a1 a2 a3
  obtain ⟨c0, c1, c2, c3, c4⟩ := five_cells G1.out
  go_enter Tryz.func32, Tryz.ntmps32
  go_wp2_with fail
  rw [HW1.out]
  refine m1.mono ?_
  rintro _ V1 ⟨⟨c, rfl, hc⟩, hb⟩
  have HC := keep hc
  have HBa := keep hb
  clear c0 c1 c2 c3 c4 hc hb m1
  by_cases h0 : c = 0
  · subst h0
    obtain ⟨c0, c1, c2, c3, c4⟩ := five_cells (G1.out.bel HBa.out)
    have mB := m2.out V1 HBa.out HC.out
    go_wp2_with fail
    refine mB.mono ?_
    rintro _ V2 ⟨⟨b, rfl, hv⟩, hb2⟩
    clear c0 c1 c2 c3 c4 mB
    go_wp2
    refine bodyPost_ret (results_tmp2 rfl _ _ _) rfl ?_
    obtain ⟨o, W, v1, v2, v3⟩ := hv
    have hz := Nat.le_trans HB1.out.size HBa.out.size
    exact ⟨⟨b, rfl, o, W, Nat.le_trans hz v1, Nat.le_trans hz v2, v3⟩, HB1.out.trans ((HBa.out.trans (hb2.mono HBa.out.size)).mono HB1.out.size)⟩
  · exact absurd (HC.out.one HOK.out) h0

set_option maxHeartbeats 400000 in
theorem text_any (w : World) (s : ByteArray) : Calls Tryz.prog 27 #[.string s] w fun e w' => e = .returned (pb w.heap.size) ∧ Hol w' w.heap.size 130 (.string s) ∧ Below w.heap.size w w' := by
  go_enter Tryz.func27, Tryz.ntmps27
  go_wp2
  go_ret
  exact ⟨rfl, heap_alloc_new _ _, (Below.refl _ _).alloc (Nat.le_refl _) _⟩
set_option maxHeartbeats 400000 in
theorem astext_text {w : World} {b : Nat} {s : ByteArray} (h : Hol w b 130 (.string s)) : Calls Tryz.prog 40 #[pb b] w fun e w' => e = .returned (.tuple #[.string s, .bool true]) ∧ w' = w := by
  have mC := content_some h
  have ha : ∀ w : World, (Instr.typeAssert (.iface 130 (.string s)) 132 130 true).run Tryz.prog w = .ok (.tuple #[.string s, .bool true]) w := fun _ => by kernel_rfl
  clear h
  go_enter Tryz.func40, Tryz.ntmps40
  go_wp2_with fail
  refine mC.mono ?_
  rintro _ w1 ⟨rfl, rfl⟩
  go_wp2
  refine bodyPost_ret (results_tmp2 rfl _ _ _) rfl ?_
  exact ⟨rfl, rfl⟩
set_option maxHeartbeats 400000 in
theorem astext_list {w : World} {b o : Nat} (h : Hol w b 141 (.agg #[.pointer (some ⟨o, 0, none⟩)])) : Calls Tryz.prog 40 #[pb b] w fun e w' => e = .returned (.tuple #[.string .empty, .bool false]) ∧ w' = w := by
  have mC := content_some h
  have ha : ∀ w : World, (Instr.typeAssert (.iface 141 (.agg #[.pointer (some ⟨o, 0, none⟩)])) 132 130 true).run Tryz.prog w = .ok (.tuple #[.string .empty, .bool false]) w := fun _ => by kernel_rfl
  clear h
  go_enter Tryz.func40, Tryz.ntmps40
  go_wp2_with fail
  refine mC.mono ?_
  rintro _ w1 ⟨rfl, rfl⟩
  go_wp2
  refine bodyPost_ret (results_tmp2 rfl _ _ _) rfl ?_
  exact ⟨rfl, rfl⟩
set_option maxHeartbeats 400000 in
theorem aslist_list {w : World} {b o : Nat} (h : Hol w b 141 (.agg #[.pointer (some ⟨o, 0, none⟩)])) : Calls Tryz.prog 33 #[pb b] w fun e w' => e = .returned (.tuple #[pb o, .bool true]) ∧ Below w.heap.size w w' := by
  have mC := content_some h
  have ha : ∀ w : World, (Instr.typeAssert (.iface 141 (.agg #[.pointer (some ⟨o, 0, none⟩)])) 132 141 true).run Tryz.prog w = .ok (.tuple #[.agg #[.pointer (some ⟨o, 0, none⟩)], .bool true]) w := fun _ => by kernel_rfl
  clear h
  go_enter Tryz.func33, Tryz.ntmps33
  go_wp2_with fail
  refine mC.mono ?_
  rintro _ w1 ⟨rfl, rfl⟩
  go_wp2
  refine bodyPost_ret (results_tmp2 rfl _ _ _) rfl ?_
  exact ⟨rfl, (Below.refl _ _).alloc (Nat.le_refl _) _⟩
set_option maxHeartbeats 400000 in
theorem dcost_any (w : World) (b : Nat) (f l : Value) (n c : Nat) (hd : DQ.Ds w b f l n c) : Calls Tryz.prog 326 #[.pointer (some ⟨b, 0, none⟩)] w fun e w' => e = .returned (.int .i64 (c : Nat)) ∧ w' = w := by
  obtain ⟨c0, c1, c2, c3, cf⟩ := hd.four
  clear hd c0 c1 c2 cf
  go_enter Tryz.func326, Tryz.ntmps326
  go_wp2
  go_ret
  exact ⟨rfl, rfl⟩
/-- a text as a space sees it -/
def viT (b : Nat) (s : ByteArray) : Vi := ⟨b, fun k => k = b, s, false, (s.size : Int), fun w => Hol w b 130 (.string s)⟩
theorem vs_text {w : World} {b : Nat} {s : ByteArray} (h : Hol w b 130 (.string s)) (hs : s.size ≤ maxLen) : Vs w (viT b s) := by
  refine ⟨fun k hk => ?_, hs, fun w' hz hk => ?_⟩
  · have hk' : k = b := hk
    rw [hk']
    exact (Array.getElem?_eq_some_iff.1 h).1
  · have h' : Hol w' b 130 (.string s) := (hk b rfl).trans h
    refine ⟨(astext_text h').mono ?_, (empty_text h').mono ?_, (cost_text h' hs).mono ?_, h'⟩
    · rintro _ w1 ⟨rfl, rfl⟩; exact ⟨⟨_, rfl⟩, Below.refl _ _⟩
    · rintro _ w1 ⟨rfl, rfl⟩; exact ⟨rfl, Below.refl _ _⟩
    · rintro _ w1 ⟨rfl, rfl⟩; exact ⟨rfl, Below.refl _ _⟩
/-- a list as a space sees it -/
def viL (b o : Nat) (cs : List DQ.Chk) : Vi := ⟨b, fun k => k = b ∨ DQ.OwD o cs k, .empty, (((DQ.row cs).length : Nat) : Int) == 0, ((DQ.costL (DQ.row cs) : Nat) : Int), fun w => Hol w b 141 (.agg #[.pointer (some ⟨o, 0, none⟩)]) ∧ DQ.Dq w o cs⟩
theorem vs_list {w : World} {b o : Nat} {cs : List DQ.Chk} (h : Hol w b 141 (.agg #[.pointer (some ⟨o, 0, none⟩)])) (hd : DQ.Dq w o cs) : Vs w (viL b o cs) := by
  refine ⟨fun k hk => ?_, (by decide : ByteArray.empty.size ≤ maxLen), fun w' hz hk => ?_⟩
  · rcases hk with hk | hk
    · rw [hk]; exact (Array.getElem?_eq_some_iff.1 h).1
    · exact hd.1.lt hk
  · have h' : Hol w' b 141 (.agg #[.pointer (some ⟨o, 0, none⟩)]) := (hk b (.inl rfl)).trans h
    have hd' : DQ.Dq w' o cs := hd.kept (fun k hk' => hk k (.inr hk'))
    obtain ⟨f, l, hs⟩ : ∃ f l, DQ.Ds w' o f l (DQ.row cs).length (DQ.costL (DQ.row cs)) := ⟨_, _, hd'.1.1⟩
    refine ⟨(astext_list h').mono ?_, (empty_list h' (DQ.len_any w' o f l _ _ hs)).mono ?_, (cost_list h' (dcost_any w' o f l _ _ hs)).mono ?_, h', hd'⟩
    · rintro _ w1 ⟨rfl, rfl⟩; exact ⟨⟨_, rfl⟩, Below.refl _ _⟩
    · rintro _ w1 ⟨rfl, rfl⟩; exact ⟨rfl, Below.refl _ _⟩
    · rintro _ w1 ⟨rfl, rfl⟩; exact ⟨rfl, Below.refl _ _⟩
end Ks
end Go.Proofs.YtijclcedjgniaaaGreat
