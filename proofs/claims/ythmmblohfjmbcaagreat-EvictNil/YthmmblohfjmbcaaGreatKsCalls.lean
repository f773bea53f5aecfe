/-
  Contracts over this program: what was touched and the steps of a space; a key that is dropped, that expires, that is met.
-/
import Derived.Test.YthmmblohfjmbcaaGreatKsPrim
import Derived.Maps.AppendAt
import Derived.Maps.OwnSet
import Derived.Maps.OwnIn
import Derived.Maps.Views
namespace Go.Proofs.YthmmblohfjmbcaaGreat
open Go.RowKit Go.Shelf
set_option linter.unusedVariables false
set_option maxRecDepth 100000
namespace Ks
open Go.Maps in
def insT (T : List ByteArray) (k : ByteArray) : List ByteArray := if T.any (fun x => decide (x = k)) then T else T ++ [k]
theorem any_iff (T : List ByteArray) (k : ByteArray) : T.any (fun x => decide (x = k)) = true ↔ k ∈ T := by
  rw [List.any_eq_true]
  constructor
  · rintro ⟨x, hx, e⟩
    rw [decide_eq_true_eq] at e
    exact e ▸ hx
  · intro h
    exact ⟨k, h, decide_eq_true rfl⟩
open Go.Maps in
theorem seen_ins {w : World} {b n : Nat} {T : List ByteArray} (h : Vl.Seen w b n T) (k : ByteArray) (hk : k.size ≤ maxLen) (hn : n < maxLen) :
    ∃ w', (Instr.mapUpdate 44 (.map (some b)) (.string k) (.agg #[])).run Tryz.prog w = .ok () w' ∧ w.grownBy w' (some b) ∧ Vl.Seen w' b (n + 1) (insT T k) := by
  obtain ⟨D, h1, h2, h3⟩ := h
  have K := string_keyed (P := Tryz.prog) Tryz.underlying9
  have hT := h1.tidy K
  obtain ⟨w', r1, r2, r3⟩ := h1.store K Tryz.underlying44 hn (Vl.keyb_of k hk) (unitElem_mk (H := Unit))
  have hsz := size_put (k := .string (Vl.kyb k)) hT (.agg [] : DataW Unit)
  refine ⟨w', r1, r3.grown, _, r2, ?_, fun x => ?_⟩
  · unfold insT
    by_cases hm : k ∈ T
    · rw [if_pos ((any_iff T k).2 hm), hsz, if_pos ((h3 k).2 hm), h2]
    · have hm' : has D (.string (Vl.kyb k)) = false := by
        cases e : has D (.string (Vl.kyb k))
        · rfl
        · exact absurd ((h3 k).1 e) hm
      rw [if_neg (fun e => hm ((any_iff T k).1 e)), hsz, if_neg (by rw [hm']; simp), h2]; simp
  · have hi : x ∈ insT T k ↔ x = k ∨ x ∈ T := by
      unfold insT
      by_cases hm : k ∈ T
      · rw [if_pos ((any_iff T k).2 hm)]
        exact ⟨.inr, fun e => e.elim (fun e => e ▸ hm) id⟩
      · rw [if_neg (fun e => hm ((any_iff T k).1 e)), List.mem_append, List.mem_singleton, or_comm]
    rw [hi]
    by_cases e : x = k
    · subst e
      rw [has_put_same hT.isMap (by trivial)]; simp
    · rw [has_put_other (fun e' => e (Vl.kyb_inj (by injection e'))), h3 x]; simp [e]
set_option maxHeartbeats 400000 in
theorem touch_any {N : Nat} {w : World} {R : Ro} {b : Nat} {s : Sx} (h : Sp N w R b s) (key : ByteArray) (hk : key.size ≤ maxLen) (hn : s.tn < maxLen) :
    Calls Tryz.prog 65 #[.pointer (some ⟨b, 0, none⟩), .string key] w fun e w' => e = .returned (.tuple #[]) ∧ Sp N w' R b { s with tn := s.tn + 1, T := insT s.T key } ∧ Fs w R w' R := by
  obtain ⟨sv, hpb, _⟩ := h.blk
  obtain ⟨_, _, _, _, _, _, _, _, _, d9, _, df⟩ := hpb.cells
  obtain ⟨w1, r1, r2, r3⟩ := seen_ins h.tch.2 key hk hn
  have H := keep h
  have R2 := keep r2
  have R3 := keep r3
  clear h hpb r2 r3 df
  go_enter Tryz.func65, Tryz.ntmps65
  go_wp2
  go_end0
  have hg := R2.out
  have c : Ch (· = ro 4) w R w1 R := ⟨hg.os, hg.tape, hg.output, hg.size, fun k hk hn => ⟨hg.block k hk (fun e => hn (by injection e with e; rw [e]; exact H.out.tch.1)), rfl⟩, fun k hk => Nat.lt_of_lt_of_le (H.out.lt k hk) hg.size⟩
  exact ⟨rfl, H.out.tchs c _ _ ⟨H.out.tch.1, R3.out⟩, c.mono (own_ro (by decide) (by decide))⟩
theorem info_step : (Tryz.prog.info? 121).map (fun i => (i.zero, i.size, i.bytes)) = some (some (.agg #[.int .i64 0, .string .empty]), 2, 24) := by kernel_rfl
theorem wpList_app_run {P : Program} {w w' : World} {ops : Array Oper} {rest : List Oper} {o : Oper} {a : Act} {Q : Exit → Act → World → Prop} (hg : o.guard = none) (s x : Operand) (t : TypeId)
    (hop : o.op = Op.call { callee := Callee.builtin Builtin.append, args := #[s, x], argTypes := #[t, t] }) (v v2 v' : Value) (hs : a.eval s = v) (hx : a.eval x = v2)
    (hrun : (Builtin.append_ #[t, t] o.type #[v, v2]).run P w = .ok v' w') (hK : wpList P ops Q rest (a.put o.dst v') w') : wpList P ops Q (o :: rest) a w := by
  refine wpList_plain hg fun K hK' => ?_
  unfold Oper.wp
  simp [execOp, hop, resolve, invoke, builtin, hs, hx, hrun, Result.andThen]
  exact hK' _ _ hK
set_option maxHeartbeats 1000000 in
theorem step_any {N : Nat} {w : World} {R : Ro} {b : Nat} {s : Sx} (h : Sp N w R b s) (kind : Int) (key : ByteArray) (hl : s.st.length ≤ 5000000000000) :
    Calls Tryz.prog 35 #[.pointer (some ⟨b, 0, none⟩), .int .i64 kind, .string key] w fun e w' => e = .returned (.tuple #[]) ∧ ∃ R', Sp N w' R' b { s with st := s.st ++ [(kind, key)] } ∧ Fs w R w' R' := by
  obtain ⟨sv, hpb, hps⟩ := h.blk
  obtain ⟨W1, hW1⟩ : ∃ W1, w.alloc (.cells #[.int .i64 kind, .string key] 121) = W1 := ⟨_, rfl⟩
  have hb1 : Below w.heap.size w W1 := by rw [← hW1]; exact (Below.refl _ w).alloc (Nat.le_refl _) _
  have h1 := h.bel hb1
  have hx : W1.heap[w.heap.size]? = some (.cells #[.int .i64 kind, .string key] 121 (0, 0)) := by rw [← hW1]; exact heap_alloc_new _ _
  have c0 : W1.cell? ⟨w.heap.size, 0, none⟩ = some (.int .i64 kind) := by rw [cell_of_row _ _ _ _ _ _ hx]; rfl
  have c1 : W1.cell? ⟨w.heap.size, 1, none⟩ = some (.string key) := by rw [cell_of_row _ _ _ _ _ _ hx]; rfl
  have cc : Ch (fun _ => False) w R W1 R := Ch.bel hb1 h.lt
  have hpb1 := hpb.kept cc id
  have hps1 := hps.kept cc id
  obtain ⟨i0, hi0, hz0, hz1, hz2⟩ := info_parts info_step
  have add : ∀ i, (⟨w.heap.size, 0, none⟩ : Addr).add i = ⟨w.heap.size, i, none⟩ := by intro i; unfold Addr.add; split <;> simp_all
  have hz : W1.heap.size = w.heap.size + 1 := by rw [← hW1]; simp
  obtain ⟨v', w2, r1, r2, r3, _, r5⟩ := run_append_own_at (P := Tryz.prog) W1 0 45 45 121 i0 _ 2 24 Tryz.underlying45 hi0 hz0 hz1 hz2 (by simp [Value.cells]) (by decide) sv s.st.length _ hps1.1 ⟨w.heap.size, 0, none⟩ 1 1 [.int .i64 kind, .string key] (by simp) (fun j u hu => by
    rw [add]
    match j, hu with
    | 0, hu => simp at hu; rw [c0, hu]
    | 1, hu => simp at hu; rw [c1, hu]) (fun u hu => by simp at hu; rcases hu with rfl | rfl <;> rfl) (by unfold maxLen; omega) (by omega) (Nat.zero_le _)
  obtain ⟨_, _, _, _, _, _, _, _, _, _, d10, df⟩ := hpb.cells
  have hb2 : b < w.heap.size := (Array.getElem?_eq_some_iff.1 hpb.2).1
  have hvb : ¬ sv.ownBlock = some b := fun e => by have := hps.2 b e; rw [hpb.1] at this; exact absurd (congrArg Prod.fst this) (show (1 : Nat) ≠ 5 by decide)
  have hB2 : w2.heap[b]? = W1.heap[b]? := r3.block b (by omega) (fun e => hvb e.symm)
  have f2 : w2.frozen? ⟨b, 10, none⟩ = false := by
    rw [World.frozen?_of_block (w := w) (a := ⟨b, 10, none⟩) (hB2.trans (hb1.block b hb2))]; exact df 10
  have m10 : ∃ y, w2.cell? ⟨b, 10, none⟩ = some y := ⟨_, (World.cell?_of_block (w := w) (a := ⟨b, 10, none⟩) (hB2.trans (hb1.block b hb2))).trans d10⟩
  obtain ⟨y, m10⟩ := m10
  obtain ⟨ao', ca', hv'⟩ := Vl.own_sl r2
  obtain ⟨LL, hLL⟩ : ∃ LL, s.st.length + 1 = LL := ⟨_, rfl⟩
  rw [hLL] at hv' r2
  subst hv'
  have HLL := keep hLL
  clear hLL
  have H1 := keep h1
  have H := keep h
  have HPB := keep hpb1
  have HPS := keep hps1
  have RN := keep r1
  have R2 := keep r2
  have R3 := keep r3
  have R5 := keep r5
  have HB2 := keep hB2
  have HVB := keep hvb
  have HB1 := keep hb1
  have HZ := keep hz
  have HLT := keep hb2
  have HW1 := keep hW1
  clear h h1 hpb hpb1 hps hps1 r1 r2 r3 r5 hB2 hvb hb1 hz hb2 hx c0 c1 cc hW1 hi0 hz0 hz1 hz2 add hl
  go_enter Tryz.func35, Tryz.ntmps35
  go_wp2_with (first | (at_builtin; (rw [HW1.out]); refine wpList_app_run rfl _ _ _ rfl _ _ _ rfl rfl RN.out ?_))
  go_end0
  have hne : ∀ k, k < w.heap.size → ¬ sv.ownBlock = some k → ¬ (Value.slice ao' LL ca').ownBlock = some k := fun k hk hn e => by
    rcases R5.out with h | h
    · exact hn (h.symm.trans e)
    · rw [h] at e; injection e with e; have := HZ.out; omega
  have hvb := hne b HLT.out HVB.out
  have hg := R3.out
  have hz3 : w.heap.size ≤ (w2.setCell ⟨b, 10, none⟩ (.slice ao' LL ca')).heap.size := by rw [size_set]; exact Nat.le_trans HB1.out.size hg.size
  have c : Ch (fun x => x = ro 1 ∨ x = ro 5) w R (w2.setCell ⟨b, 10, none⟩ (.slice ao' LL ca')) (fun k => if (Value.slice ao' LL ca').ownBlock = some k then ro 5 else R k) := by
    refine ⟨hg.os.trans HB1.out.os, hg.tape.trans HB1.out.tape, hg.output.trans HB1.out.output, hz3, fun k hk hn => ?_, fun k hk => ?_⟩
    · have n1 : k ≠ b := fun e => hn (.inl (by rw [e]; exact HPB.out.1))
      have n5 : ¬ sv.ownBlock = some k := fun e => hn (.inr (HPS.out.2 k e))
      have hz := HZ.out
      exact ⟨(Below.heap_setCell _ _ _ _ n1).trans ((hg.block k (by omega) (fun e => n5 e.symm)).trans (HB1.out.block k hk)), if_neg (hne k hk n5)⟩
    · by_cases e : (Value.slice ao' LL ca').ownBlock = some k
      · rw [size_set]; exact (R2.out.lt k e).2
      · rw [if_neg e] at hk; exact Nat.lt_of_lt_of_le (H.out.lt k hk) hz3
  refine ⟨rfl, _, H.out.stps c (.slice ao' LL ca') (s.st ++ [(kind, key)]) ⟨(if_neg hvb).trans HPB.out.1, DP.cells_setCell (HB2.out.trans HPB.out.2)⟩ ⟨?_, fun k e => if_pos e⟩, c.mono (fun x hx => hx.elim (own_ro (by decide) (by decide) x) (own_ro (by decide) (by decide) x))⟩
  have e1 : (s.st ++ [(kind, key)]).length = LL := by rw [List.length_append]; exact HLL.out
  have e2 : enS (s.st ++ [(kind, key)]) = enS s.st ++ [.int .i64 kind, .string key] := by unfold enS; rw [List.flatMap_append]; rfl
  rw [e1, e2]
  exact DP.own_kept R2.out (fun k e => Below.heap_setCell _ _ _ _ (fun e' => hvb (by rw [e]; simp at e'; rw [e'])))
/-- the dicts' calls, by the space -/
theorem sp_mget {N : Nat} {w : World} {R : Ro} {b : Nat} {s : Sx} (h : Sp N w R b s) (hN : N ≤ 2600000000000) (key : ByteArray) (hk : key.size ≤ maxLen) :
    Calls Tryz.prog 59 #[.pointer (some ⟨s.bm, 0, none⟩), .string key] w fun e w' => e = .returned (.tuple #[.pointer ((s.lm key).getD none), .bool (s.lm key).isSome]) ∧ ∃ R', Sp N w' R' b s ∧ Fs w R w' R' := by
  refine (pd_get h.main h.lt hN key hk).mono ?_
  rintro _ w' ⟨rfl, R', h1, c⟩
  exact ⟨rfl, R', h.mains c (Nat.le_refl _) _ _ h1, c.mono (own_ro (by decide) (by decide))⟩
theorem sp_mset {N : Nat} {w : World} {R : Ro} {b : Nat} {s : Sx} (h : Sp N w R b s) (hN : N + 1 ≤ 2600000000000) (key : ByteArray) (hk : key.size ≤ maxLen) (v : Option Addr) :
    Calls Tryz.prog 62 #[.pointer (some ⟨s.bm, 0, none⟩), .string key, .pointer v] w fun e w' => (∃ q, e = .returned (.bool q)) ∧ ∃ R', Sp (N + 1) w' R' b { s with lm := upl s.lm key (some v), nm := s.nm + if (s.lm key).isNone then 1 else 0 } ∧ Fs w R w' R' := by
  refine (pd_set h.main h.lt hN key hk v).mono ?_
  rintro _ w' ⟨h0, R', h1, c⟩
  exact ⟨h0, R', h.mains c (Nat.le_succ _) _ _ h1, c.mono (own_ro (by decide) (by decide))⟩
theorem sp_mdel {N : Nat} {w : World} {R : Ro} {b : Nat} {s : Sx} (h : Sp N w R b s) (hN : N + 1 ≤ 2600000000000) (key : ByteArray) (hk : key.size ≤ maxLen) :
    Calls Tryz.prog 66 #[.pointer (some ⟨s.bm, 0, none⟩), .string key] w fun e w' => (∃ q, e = .returned (.bool q)) ∧ ∃ R', Sp N w' R' b { s with lm := upl s.lm key none, nm := s.nm - if (s.lm key).isSome then 1 else 0 } ∧ Fs w R w' R' := by
  refine (pd_del h.main h.lt hN key hk).mono ?_
  rintro _ w' ⟨h0, R', h1, c⟩
  exact ⟨h0, R', h.mains c (Nat.le_refl _) _ _ h1, c.mono (own_ro (by decide) (by decide))⟩
theorem sp_dset {N : Nat} {w : World} {R : Ro} {b : Nat} {s : Sx} (h : Sp N w R b s) (hN : N + 1 ≤ 2600000000000) (key : ByteArray) (hk : key.size ≤ maxLen) (v : Option Addr) :
    Calls Tryz.prog 62 #[.pointer (some ⟨s.bd, 0, none⟩), .string key, .pointer v] w fun e w' => (∃ q, e = .returned (.bool q)) ∧ ∃ R', Sp (N + 1) w' R' b { s with ld := upl s.ld key (some v), nd := s.nd + if (s.ld key).isNone then 1 else 0 } ∧ Fs w R w' R' := by
  refine (pd_set h.dead h.lt hN key hk v).mono ?_
  rintro _ w' ⟨h0, R', h1, c⟩
  exact ⟨h0, R', h.deads c (Nat.le_succ _) _ _ h1, c.mono (own_ro (by decide) (by decide))⟩
theorem sp_ddel {N : Nat} {w : World} {R : Ro} {b : Nat} {s : Sx} (h : Sp N w R b s) (hN : N + 1 ≤ 2600000000000) (key : ByteArray) (hk : key.size ≤ maxLen) :
    Calls Tryz.prog 66 #[.pointer (some ⟨s.bd, 0, none⟩), .string key] w fun e w' => (∃ q, e = .returned (.bool q)) ∧ ∃ R', Sp N w' R' b { s with ld := upl s.ld key none, nd := s.nd - if (s.ld key).isSome then 1 else 0 } ∧ Fs w R w' R' := by
  refine (pd_del h.dead h.lt hN key hk).mono ?_
  rintro _ w' ⟨h0, R', h1, c⟩
  exact ⟨h0, R', h.deads c (Nat.le_refl _) _ _ h1, c.mono (own_ro (by decide) (by decide))⟩
def dropS (s : Sx) (key : ByteArray) (x : En) : Sx :=
  { s with lm := upl s.lm key none, nm := s.nm - (if (s.lm key).isSome then 1 else 0), ld := if mor x then upl s.ld key none else s.ld, nd := if mor x then s.nd - (if (s.ld key).isSome then 1 else 0) else s.nd, used := wrap64 (s.used + wrap64 (0 - x.cost)), tn := s.tn + 1, T := insT s.T key, E := upe s.E key none }
theorem upe_upe (E : ByteArray → Option En) (key : ByteArray) (x y : Option En) : upe (upe E key x) key y = upe E key y := by
  funext k; unfold upe; by_cases e : k = key <;> simp [e]
set_option maxHeartbeats 1000000 in
theorem drop_any {N : Nat} {w : World} {R : Ro} {b : Nat} {s : Sx} (h : Sp N w R b s) (key : ByteArray) (hk : key.size ≤ maxLen) (x : En) (hx : s.E key = some x) (hN : N + 1 ≤ 2600000000000) (hn : s.tn < maxLen) :
    Calls Tryz.prog 40 #[.pointer (some ⟨b, 0, none⟩), .string key, .pointer (some ⟨x.e, 0, none⟩)] w fun e w' => e = .returned (.tuple #[]) ∧ ∃ R', Sp N w' R' b (dropS s key x) ∧ Fs w R w' R' := by
  obtain ⟨sv, hpb, _⟩ := h.blk
  obtain ⟨_, _, _, _, _, _, _, d7, _, _, _, _⟩ := hpb.cells
  have MD := keep (sp_mdel h hN key hk)
  have HX := keep hx
  have HN := keep hN
  have HK := keep hk
  have HT := keep hn
  clear h hpb hx hN hk hn
  go_enter Tryz.func40, Tryz.ntmps40
  go_wp2_with fail
  refine MD.out.mono ?_
  rintro _ w1 ⟨⟨q, rfl⟩, R1, s1, f1⟩
  have p1 := s1.ent key x HX.out
  have mM := mortal_any p1.1.2
  have S1 := keep s1
  have F1 := keep f1
  clear s1 f1 p1 d7 MD
  go_wp2_with fail
  refine mM.mono ?_
  rintro _ w1' ⟨rfl, hw⟩
  obtain rfl := hw.symm
  clear mM
  cases hm : mor x
  · have mC := charge_any S1.out HX.out 0
    have MC := keep mC
    clear mC
    go_wp2_with fail
    refine MC.out.mono ?_
    rintro _ w2 ⟨rfl, s2, f2⟩
    have mT := touch_any s2 key HK.out HT.out
    have F2 := keep (F1.out.trans f2)
    clear s2 f2 MC
    go_wp2_with fail
    refine mT.mono ?_
    rintro _ w3 ⟨rfl, s3, f3⟩
    have S3 := keep s3
    have F3 := keep (F2.out.trans f3)
    clear s3 f3 mT
    go_wp2
    go_end0
    refine ⟨rfl, _, ?_, F3.out⟩
    have := S3.out.forget key
    unfold dropS
    rw [hm]
    simpa [upe_upe] using this
  · obtain ⟨sv1, hpb1, _⟩ := S1.out.blk
    obtain ⟨_, _, _, _, _, _, _, _, d8, _, _, _⟩ := hpb1.cells
    have MD2 := keep (sp_ddel S1.out HN.out key HK.out)
    clear hpb1
    dsimp only at d8
    go_wp2_with fail
    refine MD2.out.mono ?_
    rintro _ w2 ⟨⟨q, rfl⟩, R2, s2, f2⟩
    have mC := charge_any s2 HX.out 0
    have MC := keep mC
    have F2 := keep (F1.out.trans f2)
    clear mC s2 f2 d8 MD2
    go_wp2_with fail
    refine MC.out.mono ?_
    rintro _ w3 ⟨rfl, s3, f3⟩
    have mT := touch_any s3 key HK.out HT.out
    have F3 := keep (F2.out.trans f3)
    clear s3 f3 MC
    go_wp2_with fail
    refine mT.mono ?_
    rintro _ w4 ⟨rfl, s4, f4⟩
    have S4 := keep s4
    have F4 := keep (F3.out.trans f4)
    clear s4 f4 mT
    go_wp2
    go_end0
    refine ⟨rfl, _, ?_, F4.out⟩
    have := S4.out.forget key
    unfold dropS
    rw [hm]
    simpa [upe_upe] using this
end Ks
end Go.Proofs.YthmmblohfjmbcaaGreat
