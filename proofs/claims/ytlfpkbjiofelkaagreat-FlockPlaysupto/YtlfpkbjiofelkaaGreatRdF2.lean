/-
  Contracts over this program: Add and Delete of the document's own flock.
-/
import Derived.Test.YtlfpkbjiofelkaaGreatRdF6
namespace Go.Proofs.YtlfpkbjiofelkaaGreat
open Go.RowKit Go.Shelf
set_option linter.unusedVariables false
set_option linter.unusedSimpArgs false
set_option maxRecDepth 100000
namespace Rd
theorem addAt (g o j : Nat) : (⟨g, o, none⟩ : Addr).add j = ⟨g, o + j, none⟩ := by unfold Addr.add; split <;> simp_all
theorem sliceRun {P : Program} (w : World) (t e : TypeId) (ht : P.underlying t = some (.slice e)) (i : TypeInfo) (hinf : P.info? e = some i) (a : Addr) (n cap l h m : Nat) (lo hi mx : Option Value)
    (hmx : mx = none ∧ m = cap ∨ mx = some (.int .i64 (m : Int)) ∧ m ≤ cap) (hhi : hi = none ∧ h = n ∧ mx = none ∨ hi = some (.int .i64 (h : Int)) ∧ h ≤ m) (hlo : lo = none ∧ l = 0 ∨ lo = some (.int .i64 (l : Int)) ∧ l ≤ h) :
    (Instr.slice t (.slice (some a) n cap) lo hi mx).run P w = .ok (.slice (some (if m = l then a else a.add (l * i.size))) (h - l) (m - l)) w := by
  have hz := size_run w e i hinf
  have hb : ∀ (x y : Nat) code, x ≤ y → (Instr.sliceBound (.int .i64 (x : Int)) y code).run P w = .ok x w := fun x y code hxy => by
    have := run_sliceBound (P := P) (w := w) .i64 (x : Int) y code (by omega) (by omega)
    simpa using this
  rcases hmx with ⟨rfl, rfl⟩ | ⟨rfl, h1⟩ <;> rcases hhi with ⟨rfl, rfl, h2⟩ | ⟨rfl, h2⟩ <;> rcases hlo with ⟨rfl, rfl⟩ | ⟨rfl, h3⟩
  all_goals first | (cases h2; done) | skip
  all_goals
    simp (disch := assumption) only [Instr.slice, Instr.sliceBounds, run_underlying ht, Sem.run_bind, Sem.run_pure, Result.andThen_ok, hb, hz]
    split <;> rfl
/-- a row's head -/
theorem cut_pre {w : World} {v : Value} {l : List ByteArray} {p : Nat} (hv : Tx w v l) (hp : p ≤ l.length) :
    ∃ o k c, (∀ w, (Instr.slice 43 v none (some (.int .i64 (p : Int))) none).run Tryz.prog w = .ok (.slice o k c) w) ∧ ∀ w, Tx w v l → Tx w (.slice o k c) (l.take p) := by
  obtain ⟨i0, hi0, hz0, hz1, hz2⟩ := info_parts info_st
  have uT := Tryz.underlying43
  rcases hv.2 with ⟨e1, e2⟩ | ⟨g, cap, cur, e1, e2, e3, e4, e5, rest⟩
  · have hM : l = [] := List.length_eq_zero_iff.1 e2
    subst hM e1
    obtain rfl : p = 0 := by simpa using hp
    refine ⟨none, 0, 0, fun w => ?_, fun w h => h⟩
    have hb := fun code => run_sliceBound (P := Tryz.prog) (w := w) .i64 0 0 code (by omega) (by omega)
    simp [Instr.slice, Instr.sliceBounds, run_underlying uT, hb]
  · subst e1
    refine ⟨some ⟨g, 0, none⟩, p, cap, fun w => ?_, fun w h => ?_⟩
    · rw [sliceRun w _ _ uT i0 hi0 ⟨g, 0, none⟩ l.length cap 0 p cap _ _ _ (.inl ⟨rfl, rfl⟩) (.inr ⟨rfl, by omega⟩) (.inl ⟨rfl, rfl⟩)]
      rw [Nat.zero_mul, addAt, Nat.zero_add, ite_self]; rfl
    · obtain ⟨q1, q2⟩ := h
      have hpl : (l.take p).length = p := by rw [List.length_take]; omega
      refine ⟨by simp [txs], .inr ?_⟩
      rcases q2 with ⟨e, _⟩ | ⟨g', cap', cur', e, f1, f2, f3, f4, f5, f6⟩
      · cases e
      · cases e
        refine ⟨g, cap, cur', by rw [hpl], f1, f2, by rw [hpl]; omega, f4, f5, ?_⟩
        rw [hpl]
        have := congrArg (List.take p) f6
        rw [List.take_take, show min p (l.length * 1) = p by omega] at this
        rw [Nat.mul_one, this]
        simp [txs, List.map_take]
/-- a row's tail, laid behind a row of one's own -/
theorem cut_suf {w : World} {v : Value} {l : List ByteArray} {p : Nat} (hv : Tx w v l) (hp : p ≤ l.length) :
    ∃ o k c, (∀ w, (Instr.slice 43 v (some (.int .i64 (p : Int))) none none).run Tryz.prog w = .ok (.slice o k c) w) ∧ ∀ w0 w u m, Mine w0 w u m → Tx w v l → (m.length + l.length) * 16 ≤ 140737488355328 →
      ∃ v' w', (Builtin.append_ #[43, 43] 43 #[u, .slice o k c]).run Tryz.prog w = .ok v' w' ∧ Mine w0 w' v' (m ++ l.drop p) := by
  obtain ⟨i0, hi0, hz0, hz1, hz2⟩ := info_parts info_st
  have uT := Tryz.underlying43
  rcases hv.2 with ⟨e1, e2⟩ | ⟨g, cap, cur, e1, e2, e3, e4, e5, rest⟩
  · have hM : l = [] := List.length_eq_zero_iff.1 e2
    subst hM e1
    obtain rfl : p = 0 := by simpa using hp
    refine ⟨none, 0, 0, fun w => ?_, fun w0 w u m h h2 hn => ?_⟩
    · have hb := fun code => run_sliceBound (P := Tryz.prog) (w := w) .i64 0 0 code (by omega) (by omega)
      simp [Instr.slice, Instr.sliceBounds, run_underlying uT, hb]
    · obtain ⟨v', w', r1, r2, _⟩ := mine_app h h2 hn
      exact ⟨v', w', r1, r2⟩
  · subst e1
    refine ⟨some (if cap = p then ⟨g, 0, none⟩ else ⟨g, p, none⟩), l.length - p, cap - p, fun w => ?_, fun w0 w u m h h2 hn => ?_⟩
    · rw [sliceRun w _ _ uT i0 hi0 ⟨g, 0, none⟩ l.length cap p l.length cap _ _ _ (.inl ⟨rfl, rfl⟩) (.inl ⟨rfl, rfl, rfl⟩) (.inr ⟨rfl, hp⟩), hz1, addAt, Nat.zero_add, Nat.mul_one]
    · have hlen : (txs (l.drop p)).length = (l.length - p) * 1 := by simp [txs]
      obtain ⟨v', W, r1, r2, r3, r4, r5⟩ := run_append_own_at (P := Tryz.prog) w 0 43 43 9 i0 _ 1 16 uT hi0 hz0 hz1 hz2 (by simp [Value.cells]) (by decide) u m.length (txs m) h.1 (if cap = p then ⟨g, 0, none⟩ else ⟨g, p, none⟩) (l.length - p) (cap - p) (txs (l.drop p)) hlen (fun j x hj => by
        by_cases hc : cap = p
        · have := (List.getElem?_eq_some_iff.1 hj).1
          omega
        · rw [if_neg hc, addAt]
          have hj2 : (txs l)[p + j]? = some x := by
            rw [show txs (l.drop p) = (txs l).drop p by simp [txs, List.map_drop], List.getElem?_drop] at hj
            exact hj
          have := World.ownsRow.cells h2 (g := g) rfl (p + j) x hj2
          rwa [addAt, Nat.zero_add] at this) txs_one (by unfold maxLen; omega) (by omega) (Nat.zero_le _)
      refine ⟨v', W, r1, ?_, ?_, ?_⟩
      · unfold Tx
        rw [List.length_append, txs_app, List.length_drop]
        exact r2
      · intro k hk
        rcases r5 with e | e
        · exact h.2.1 k (by rw [← e]; exact hk)
        · rw [e] at hk; cases hk; exact h.2.2.size
      · exact h.2.2.grown r3 h.2.2.size h.2.1
theorem Rise.ins {l : List ByteArray} {x : ByteArray} {i : Nat} (hr : Rise l) (h : Plc l x i false) : Rise (l.take i ++ x :: l.drop i) := by
  obtain ⟨h1, h2⟩ := h
  have hd : ∀ z ∈ l.drop i, ky x < ky z := fun z hz => by
    obtain ⟨t, ht⟩ := List.mem_iff_getElem?.1 hz
    rw [List.getElem?_drop] at ht
    have htl := (List.getElem?_eq_some_iff.1 ht).1
    rcases h2 with ⟨e, _⟩ | ⟨y, hy, hn, ho⟩
    · omega
    · have hyx : ky x < ky y := by
        exact Classical.byContradiction fun hc => (of_decide_eq_false ho.symm) (ky_inj (List.le_antisymm (List.not_lt.1 hc) (List.not_lt.1 hn)))
      cases t with
      | zero => rw [Nat.add_zero, hy] at ht; cases ht; exact hyx
      | succ t =>
        obtain ⟨p1, e1⟩ := List.getElem?_eq_some_iff.1 hy
        obtain ⟨p2, e2⟩ := List.getElem?_eq_some_iff.1 ht
        have := (List.pairwise_iff_getElem.1 hr) i (i + (t + 1)) p1 p2 (by omega)
        rw [e1, e2] at this
        exact List.lt_trans hyx this
  unfold Rise
  have hrr : (l.take i ++ l.drop i).Pairwise (fun a b => ky a < ky b) := by rw [List.take_append_drop]; exact hr
  rw [List.pairwise_append] at hrr ⊢
  refine ⟨hrr.1, ?_, fun a ha c hc => ?_⟩
  · rw [List.pairwise_cons]; exact ⟨hd, hrr.2.1⟩
  · rcases List.mem_cons.1 hc with rfl | hc
    · obtain ⟨t, ht⟩ := List.mem_iff_getElem?.1 ha
      rw [List.getElem?_take] at ht
      split at ht
      · exact h1 t a (by assumption) ht
      · cases ht
    · exact hrr.2.2 a ha c hc
theorem ins_perm (l : List ByteArray) (x : ByteArray) (i : Nat) : (l.take i ++ x :: l.drop i).Perm (l ++ [x]) := by
  have h1 : (l.take i ++ x :: l.drop i).Perm (x :: (l.take i ++ l.drop i)) := List.perm_middle
  rw [List.take_append_drop] at h1
  exact h1.trans (List.perm_append_singleton x l).symm
theorem Plc.del {l : List ByteArray} {x : ByteArray} {i : Nat} (h : Plc l x i true) (hr : Rise l) : l[i]? = some x ∧ l.take i ++ l.drop (i + 1) = filt x l := by
  obtain ⟨h1, h2⟩ := h
  rcases h2 with ⟨_, e⟩ | ⟨y, hy, hn, ho⟩
  · cases e
  · have he : y = x := of_decide_eq_true ho.symm
    subst he
    refine ⟨hy, ?_⟩
    obtain ⟨p1, e1⟩ := List.getElem?_eq_some_iff.1 hy
    have hsp : l = l.take i ++ y :: l.drop (i + 1) := by
      have h3 := List.take_append_drop i l
      rw [List.drop_eq_getElem_cons p1, e1] at h3
      exact h3.symm
    have hp := hr
    unfold Rise at hp
    rw [hsp, List.pairwise_append, List.pairwise_cons] at hp
    obtain ⟨q1, ⟨q2, q3⟩, q4⟩ := hp
    unfold filt
    rw [hsp, List.filter_append, List.filter_cons]
    have f1 : (l.take i).filter (fun z => decide (z ≠ y)) = l.take i := List.filter_eq_self.2 (fun z hz => decide_eq_true (fun e => by
      have := q4 z hz y (by simp); rw [e] at this; exact List.lt_irrefl _ this))
    have f2 : (l.drop (i + 1)).filter (fun z => decide (z ≠ y)) = l.drop (i + 1) := List.filter_eq_self.2 (fun z hz => decide_eq_true (fun e => by
      have := q2 z hz; rw [e] at this; exact List.lt_irrefl _ this))
    rw [f1, f2]
    simp [List.take_append, List.drop_append, List.length_take, Nat.min_eq_left (Nat.le_of_lt p1)]
section
variable {h : ByteArray → Nat} {N N' : Nat} {w w1 w' W : World} {r r' : Roles} {R b seed : Nat} {u v : Value} {l l' : List ByteArray} {s s' : Sf} {KV KV' : List (ByteArray × Int)}
/-- the flock's row is another one, made since -/
theorem RFm.lay (hf : RFm h N w r R b seed v l s KV) (hm : Mine w w1 u l') (hW : w1.setCell ⟨R, 1, none⟩ u = W) : RFm h N W r R b seed u l' s KV ∧ Fr w (rf r R v) W (rf r R u) := by
  have ho : Only R w1 W := by rw [← hW]; exact ⟨⟨rfl, rfl, rfl⟩, by simp [World.setCell], fun k hk => Below.heap_setCell _ _ _ _ hk⟩
  obtain ⟨m1, m2, m3⟩ := hm
  have hR := hf.lt
  have hz : ∀ k, w.heap.size ≤ k → r k = (0, 0) := fun k hk => Classical.byContradiction fun hne => by have := hf.1.1.1 k hne; omega
  have hu : ∀ k, u.ownBlock = some k → k ≠ R := fun k e e' => by have := m2 k e; omega
  have hb : ∀ k, k < w.heap.size → k ≠ R → W.heap[k]? = w.heap[k]? := fun k hk hne => (ho.2.2 k hne).trans (m3.block k hk)
  refine ⟨⟨hf.1.kept (by rw [ho.2.1]; exact m3.size) (fun k hk hr => hb k hk (fun e => hr (by rw [e]; exact hf.2.1))), hf.2.1, ?_, m1.kept (fun k e => ho.2.2 k (hu k e)), fun k e => ⟨hz k (m2 k e), hu k e⟩⟩, ⟨ho.1.1.trans m3.os, ho.1.2.1.trans m3.tape, ho.1.2.2.trans m3.output⟩, by rw [ho.2.1]; exact m3.size, fun k hk hr => ?_⟩
  · rw [← hW]; exact cells_setCell (i := 1) (u := u) ((m3.block R hR).trans hf.2.2.1)
  · obtain ⟨z1, z2, z3⟩ := rf_zero.1 hr
    exact ⟨hb k hk z1, rf_zero.2 ⟨z1, fun e => by have := m2 k e; omega, z3⟩⟩
theorem rfadd_nil (w : World) (x : ByteArray) : Calls Tryz.prog 13 #[.pointer none, .string x] w fun e w' => e = .returned (.tuple #[.bool false, .int .i64 1]) ∧ w' = w := by
  go_enter Tryz.func13, Tryz.ntmps13
  go_wp2
  refine bodyPost_ret (results_tmp2 rfl _ _ _) rfl ?_
  exact ⟨rfl, rfl⟩
theorem rfadd_long (w : World) (R : Nat) (x : ByteArray) (hl : 1048576 < x.size) : Calls Tryz.prog 13 #[.pointer (some ⟨R, 0, none⟩), .string x] w fun e w' => e = .returned (.tuple #[.bool false, .int .i64 2]) ∧ w' = w := by
  have h1 : decide ((1048576 : Int) < (x.size : Int)) = true := decide_eq_true (by omega)
  have h2 : (1048576 : Int) < (x.size : Int) := by omega
  clear hl
  go_enter Tryz.func13, Tryz.ntmps13
  go_wp2
  refine bodyPost_ret (results_tmp2 rfl _ _ _) rfl ?_
  exact ⟨rfl, rfl⟩
/-- what Add leaves: a: it is new and there is room -/
def Added (h : ByteArray → Nat) (N : Nat) (w : World) (r : Roles) (R b seed : Nat) (v : Value) (l : List ByteArray) (s : Sf) (KV : List (ByteArray × Int)) (x : ByteArray) (e : Ending) (w' : World) : Prop :=
  (x ∈ l ∧ e = .returned (.tuple #[.bool false, .int .i64 0]) ∧ ∃ r', RF h N w' r' R b seed v l (Dc.step h s) KV ∧ Fr w (rf r R v) w' (rf r' R v)) ∨
  (x ∉ l ∧ 1048576 ≤ l.length ∧ e = .returned (.tuple #[.bool false, .int .i64 4]) ∧ ∃ r', RF h N w' r' R b seed v l (Dc.step h s) KV ∧ Fr w (rf r R v) w' (rf r' R v)) ∨
  (x ∉ l ∧ l.length < 1048576 ∧ e = .returned (.tuple #[.bool true, .int .i64 0]) ∧ ∃ r' u i, RF h (N + 1) w' r' R b seed u (l.take i ++ x :: l.drop i) (Dc.set h (Dc.step h s) x ()).1 (kvSet KV x 0) ∧ Fr w (rf r R v) w' (rf r' R u))
set_option maxHeartbeats 4000000 in
theorem rfadd_any (hH : RHashIs seed h) (x : ByteArray) (hx : x.size ≤ 1048576) (hf : RF h N w r R b seed v l s KV) (hN : N + 1 ≤ 2600000000000) :
    Calls Tryz.prog 13 #[.pointer (some ⟨R, 0, none⟩), .string x] w (Added h N w r R b seed v l s KV x) := by
  have MG := keep (get_any hH w r b s KV x hf.1.1 (by omega))
  obtain ⟨c0, c1, c2, cf⟩ := tri hf.1.2.2.1
  have HL : Kept (l.length ≤ 2600000000000) := by have := hf.few; have := hf.1.1.few; show l.length ≤ _; omega
  have HF := keep hf
  have HN := keep hN
  have HX := keep hx
  have h1 : decide ((1048576 : Int) < (x.size : Int)) = false := decide_eq_false (by omega)
  have h2 : ¬ (1048576 : Int) < (x.size : Int) := by omega
  have HQ : Kept (∀ e w', Added h N w r R b seed v l s KV x e w' → Added h N w r R b seed v l s KV x e w') := fun _ _ h => h
  generalize hQd : Added h N w r R b seed v l s KV x = Q
  rw [hQd] at HQ
  have HQ' : Kept (∀ e w', Added h N w r R b seed v l s KV x e w' → Q e w') := by rw [← hQd]; exact fun _ _ h => h
  clear hf c0 c1 cf hN hx HQ hQd
  go_enter Tryz.func13, Tryz.ntmps13
  go_wp2_with fail
  refine MG.out.mono ?_
  rintro _ w1 ⟨rfl, r1, hd1, hf1⟩
  obtain ⟨q1, q2⟩ := HF.out.1.dict hd1 hf1
  have MP := keep (place10_any x q1 HL.out)
  have Q1 := keep q1
  have Q2 := keep q2
  clear MG hd1 hf1 q1 q2 c2
  go_wp2_with fail
  refine MP.out.mono ?_
  rintro _ w2 ⟨⟨i, o, rfl, hp⟩, hw⟩
  obtain rfl := hw.symm
  have HP := keep hp
  have hmem := hp.mem HF.out.2.1
  clear hp MP
  cases o with
  | true =>
    have HD : Kept (Q (.returned (.tuple #[.bool false, .int .i64 0])) w1) := HQ'.out _ _ (.inl ⟨isin_iff.1 hmem.symm, rfl, r1, ⟨Q1.out, HF.out.2⟩, Q2.out⟩)
    clear hmem
    go_wp2
    first | exact HD.out | (refine bodyPost_ret (results_tmp2 rfl _ _ _) rfl ?_; exact HD.out)
  | false =>
    have HM : Kept (x ∉ l) := isin_not.1 hmem.symm
    clear hmem
    obtain ⟨ao, cp, hv, _⟩ := Q1.out.2.2.2.1.form
    obtain ⟨n, hln⟩ : ∃ n, l.length = n := ⟨_, rfl⟩
    rw [hln] at hv
    subst hv
    obtain ⟨d0, d1, d2, df⟩ := tri Q1.out.2.2.1
    by_cases hfull : 1048576 ≤ n
    · have hfi : (1048576 : Int) ≤ (n : Int) := by omega
      have hfd : decide ((1048576 : Int) ≤ (n : Int)) = true := decide_eq_true hfi
      have HD : Kept (Q (.returned (.tuple #[.bool false, .int .i64 4])) w1) := HQ'.out _ _ (.inr (.inl ⟨HM.out, by omega, rfl, r1, ⟨Q1.out, HF.out.2⟩, Q2.out⟩))
      clear d0 d2 df hln
      go_wp2
      first | exact HD.out | (refine bodyPost_ret (results_tmp2 rfl _ _ _) rfl ?_; exact HD.out)
    · have hfi : ¬ (1048576 : Int) ≤ (n : Int) := by omega
      have hfd : decide ((1048576 : Int) ≤ (n : Int)) = false := decide_eq_false hfi
      have HLN := keep hln
      have HFU := keep hfull
      have MS := keep (set_any hH w1 r1 b (Dc.step h s) KV x 0 () Q1.out.1 HN.out (by have := HX.out; unfold maxLen; omega))
      clear d0 df hln hfull
      go_wp2_with fail
      refine MS.out.mono ?_
      rintro _ w3 ⟨rfl, r3, hd3, hf3⟩
      obtain ⟨p1, p2⟩ := Q1.out.dict hd3 hf3
      have hil : i ≤ l.length := by
        rcases HP.out.2 with ⟨e, _⟩ | ⟨y, hy, _⟩
        · omega
        · have := (List.getElem?_eq_some_iff.1 hy).1; omega
      obtain ⟨o1, k1, z1, hs1, ht1⟩ := cut_pre p1.2.2.2.1 hil
      obtain ⟨u1, W4, a1, m1, _⟩ := mine_app (mine0 w3) (ht1 w3 p1.2.2.2.1) (by have := HLN.out; have := HFU.out; simp only [List.length_nil, List.length_take]; omega)
      rw [List.nil_append] at m1
      obtain ⟨o4, n4, z4, rfl⟩ := mine_slice m1
      obtain ⟨W4a, hW4a⟩ : ∃ x', W4.alloc (.cells #[.string x] 9) = x' := ⟨_, rfl⟩
      have b4 : Below W4.heap.size W4 W4a := by rw [← hW4a]; exact (Below.refl _ W4).alloc (Nat.le_refl _) _
      have g4 : W4a.heap[W4.heap.size]? = some (.cells #[.string x] 9 (0, 0)) := by rw [← hW4a]; exact heap_alloc_new _ _
      obtain ⟨o5, n5, z5, W5, a2, m2, _⟩ := mine_push (x := x) (show Mine w3 W4a (.slice o4 n4 z4) (l.take i) from ⟨m1.1.bel b4, m1.2.1, bup m1.2.2 b4⟩) g4 (by have := HLN.out; have := HFU.out; rw [List.length_take]; omega)
      have b5 : Below w3.heap.size w3 W5 := m2.2.2
      obtain ⟨o6, n6, z6, hs2, ht2⟩ := cut_suf p1.2.2.2.1 hil
      obtain ⟨u6, W6, a3, m3⟩ := ht2 w3 W5 _ _ m2 (p1.below b5).2.2.2.1 (by have := HLN.out; have := HFU.out; simp only [List.length_append, List.length_take, List.length_cons, List.length_nil]; omega)
      obtain ⟨o7, n7, z7, rfl⟩ := mine_slice m3
      rw [List.append_assoc, List.singleton_append] at m3
      obtain ⟨W7, hW7⟩ : ∃ x', W6.setCell ⟨R, 1, none⟩ (.slice o7 n7 z7) = x' := ⟨_, rfl⟩
      obtain ⟨y1, y2⟩ := p1.lay m3 hW7
      have hkx : x ∉ Dc.keys KV := fun hm => HM.out (HF.out.2.2.mem_iff.2 hm)
      have hkv : Dc.keys (kvSet KV x 0) = Dc.keys KV ++ [x] := by
        unfold kvSet
        rw [(Dc.look_none x).2 hkx]
        simp [Dc.keys]
      have HD : Kept (Q (.returned (.tuple #[.bool true, .int .i64 0])) W7) := HQ'.out _ _ (.inr (.inr ⟨HM.out, by have := HLN.out; have := HFU.out; omega, rfl, r3, .slice o7 n7 z7, i, ⟨y1, HF.out.2.1.ins HP.out, by
        rw [hkv]; exact (ins_perm l x i).trans (HF.out.2.2.append_right [x])⟩, (Q2.out.trans p2).trans y2⟩))
      obtain ⟨j0, j1, j2, jf⟩ := tri p1.2.2.1
      obtain ⟨k50, k51, k52, k5f⟩ := tri (p1.below b5).2.2.1
      obtain ⟨k60, k61, k62, k6f⟩ := tri (p1.below m3.2.2).2.2.1
      have A1 := keep a1
      have A2 := keep a2
      have A3 := keep a3
      clear MS hd3 hf3 p1 p2 hil ht1 a1 m1 b4 g4 a2 m2 b5 ht2 a3 m3 y1 y2 hkx hkv j0 j2 jf k50 k52 k5f k60 k62 d1 d2
      go_wp2_with (at_builtin; first | refine wpList_app_run rfl _ _ _ _ rfl _ _ _ rfl rfl A1.out ?_ | refine wpList_app_run rfl _ _ _ _ rfl _ _ _ rfl rfl A2.out ?_ | refine wpList_app_run rfl _ _ _ _ rfl _ _ _ rfl rfl A3.out ?_)
      first | exact HD.out | (refine bodyPost_ret (results_tmp2 rfl _ _ _) rfl ?_; exact HD.out)
end
end Rd
end Go.Proofs.YtlfpkbjiofelkaaGreat
