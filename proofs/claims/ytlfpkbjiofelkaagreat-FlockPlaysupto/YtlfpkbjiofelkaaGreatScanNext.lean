/-
  Contracts over this program: Next, over any row of scans.
-/
import Derived.Test.YtlfpkbjiofelkaaGreatScanPass
import Derived.Test.YtlfpkbjiofelkaaGreatScanLap
import Derived.Laws.AppendOwn
/-
  Contracts over this program: one scan of a table from a cursor (pass).
-/
namespace Go.Proofs.YtlfpkbjiofelkaaGreat
open Go.RowKit Go.Shelf
attribute [local go_sem] Oper.semAt_some
/-- the keys of the bucket at which a cursor stands -/
def tk (s : Sd) (t c : Nat) : List ByteArray := (((tbl s t)[c % (tbl s t).length]?).getD []).map (·.1)
/-- those of the great table's buckets -/
def grF (s : Sd) (A d : Nat) : Nat → Nat → List ByteArray
  | 0, _ => []
  | f + 1, c => tk s (1 - smN s) c ++ (if Rv.next (A + d) c < 2 ^ A then [] else grF s A d f (Rv.next (A + d) c))
def passF (s : Sd) (A d c : Nat) : List ByteArray := tk s (smN s) c ++ (if 0 < s.young.length then grF s A d (2 ^ (A + d)) c else [])
/-- how great the tables are -/
structure Lay (s : Sd) (A d : Nat) : Prop where
  small : (tbl s (smN s)).length = 2 ^ A
  great : 0 < s.young.length → (tbl s (1 - smN s)).length = 2 ^ (A + d)
  few : A + d ≤ 42
theorem smN_lt (s : Sd) : smN s < 2 ∧ 1 - smN s < 2 := by unfold smN; split <;> omega
theorem wpList_app_run {P : Program} {w w' : World} {ops : Array Oper} {rest : List Oper} {o : Oper} {a : Act} {Q : Exit → Act → World → Prop} (hg : o.guard = none) (s x : Operand) (t : TypeId)
    (hop : o.op = Op.call { callee := Callee.builtin Builtin.append, args := #[s, x], argTypes := #[t, t] }) (v v2 v' : Value) (hs : a.eval s = v) (hx : a.eval x = v2)
    (hrun : (Builtin.append_ #[t, t] o.type #[v, v2]).run P w = .ok v' w') (hK : wpList P ops Q rest (a.put o.dst v') w') : wpList P ops Q (o :: rest) a w := by
  refine wpList_plain hg fun K hK' => ?_
  unfold Oper.wp
  simp [execOp, hop, resolve, invoke, builtin, hs, hx, hrun, Result.andThen]
  exact hK' _ _ hK
theorem app_any (B : Nat) (w : World) (v v2 : Value) (xs ys : List ByteArray) (B2 : Nat) (h1 : Ks B w v xs) (h2 : Ks B2 w v2 ys) (th : There v2) (hb : B ≤ w.heap.size) (hl : xs.length + ys.length ≤ 8000000000000) :
    ∃ v' w', (Builtin.append_ #[43, 43] 43 #[v, v2]).run Tryz.prog w = .ok v' w' ∧ Ks B w' v' (xs ++ ys) ∧ Below B w w' ∧ w.grownBy w' v.ownBlock := by
  obtain ⟨i0, hi0, hz0, hz1, hz2⟩ := info_parts info_strK
  obtain ⟨g, n, cap, rfl⟩ := th
  have h2' := h2
  unfold Ks at h2'
  obtain ⟨_, ⟨e, _⟩ | ⟨g', cap', cur, e, _⟩⟩ := h2'
  · cases e
  · cases e
    unfold Ks at h1 h2
    obtain ⟨v', w', r1, r2, r3, _⟩ := run_append_own (P := Tryz.prog) w B 43 43 9 i0 (.string .empty) 1 16 Tryz.underlying43 hi0 hz0 hz1 hz2 rfl (by decide) v xs.length _ h1 ⟨g, 0, none⟩ ys.length cap (ys.map Value.string) (by simp) (fun j u hu => h2.cells (g := g) rfl j u hu) (fun u hu => by
      obtain ⟨y, _, rfl⟩ := List.mem_map.1 hu
      rfl) (by unfold maxLen; omega) (by omega) hb
    refine ⟨v', w', r1, ?_, (Below.refl B w).grown r3 hb (fun k hk => (h1.lt k hk).1), r3⟩
    unfold Ks
    rw [List.length_append, List.map_append]
    exact r2
theorem tk_at {s : Sd} {t n c : Nat} (hn : (tbl s t).length = n) (h0 : 0 < n) : ∃ ch, (tbl s t)[c % (tbl s t).length]? = some ch ∧ ch.map (·.1) = tk s t c := by
  have h : c % (tbl s t).length < (tbl s t).length := Nat.mod_lt _ (by omega)
  refine ⟨(tbl s t)[c % (tbl s t).length], List.getElem?_eq_getElem h, ?_⟩
  unfold tk
  rw [List.getElem?_eq_getElem h]
  rfl
theorem Two.same {w1 w w' : World} {a b c d : Value} (h : Two w1 w a b c d) (e0 : w'.heap[w1.heap.size]? = w.heap[w1.heap.size]?) (e1 : w'.heap[w1.heap.size + 1]? = w.heap[w1.heap.size + 1]?) (hb : Below w1.heap.size w1 w') : Two w1 w' a b c d := ⟨e0.trans h.1, e1.trans h.2.1, hb⟩
theorem Two.lt {w1 w : World} {a b c d : Value} (h : Two w1 w a b c d) : w1.heap.size + 1 < w.heap.size := (Array.getElem?_eq_some_iff.1 h.2.1).1
/-- told so far, beside the tables' numbers in two new blocks -/
structure Told (W0 w1 w : World) (v : Value) (xs : List ByteArray) (a b c d : Value) : Prop where
  base : Below W0.heap.size W0 w
  row : Ks W0.heap.size w v xs
  low : W0.heap.size ≤ w1.heap.size
  c0 : w.heap[w1.heap.size]? = some (.cells #[a, b] 146 (0, 0))
  c1 : w.heap[w1.heap.size + 1]? = some (.cells #[c, d] 146 (0, 0))
  own : ∀ k, v.ownBlock = some k → k ≠ w1.heap.size ∧ k ≠ w1.heap.size + 1
theorem Told.cells {W0 w1 w : World} {v : Value} {xs : List ByteArray} {a b c d : Value} (h : Told W0 w1 w v xs a b c d) : w.cell? ⟨w1.heap.size, 0, none⟩ = some a ∧ w.cell? ⟨w1.heap.size, 1, none⟩ = some b ∧ w.cell? ⟨w1.heap.size + 1, 0, none⟩ = some c ∧ w.cell? ⟨w1.heap.size + 1, 1, none⟩ = some d := by
  refine ⟨?_, ?_, ?_, ?_⟩ <;> first | (rw [cell_of_row _ _ _ _ _ _ h.c0]; rfl) | (rw [cell_of_row _ _ _ _ _ _ h.c1]; rfl)
theorem Told.below {W0 w1 w w2 : World} {v : Value} {xs : List ByteArray} {a b c d : Value} (h : Told W0 w1 w v xs a b c d) (hb : Below w.heap.size w w2) : Told W0 w1 w2 v xs a b c d :=
  ⟨h.base.trans (hb.mono h.base.size), own_kept h.row (fun k hk => hb.block k (own_lt h.row hk)), h.low, (hb.block _ (Array.getElem?_eq_some_iff.1 h.c0).1).trans h.c0, (hb.block _ (Array.getElem?_eq_some_iff.1 h.c1).1).trans h.c1, h.own⟩
/-- a bucket's keys are added -/
theorem Told.add {W0 w1 w w2 : World} {v v2 : Value} {xs ys : List ByteArray} {a b c d : Value} (h : Told W0 w1 w v xs a b c d) (hb : Below w.heap.size w w2) (h2 : Ks w.heap.size w2 v2 ys) (th : There v2) (hl : xs.length + ys.length ≤ 8000000000000) :
    ∃ v' w3, (Builtin.append_ #[43, 43] 43 #[v, v2]).run Tryz.prog w2 = .ok v' w3 ∧ Told W0 w1 w3 v' (xs ++ ys) a b c d := by
  have g := h.below hb
  obtain ⟨v', w3, r1, r2, r3, r4⟩ := app_any W0.heap.size w2 v v2 xs ys _ g.row h2 th g.base.size hl
  have l0 := (Array.getElem?_eq_some_iff.1 g.c0).1
  have l1 := (Array.getElem?_eq_some_iff.1 g.c1).1
  have e0 : w3.heap[w1.heap.size]? = w2.heap[w1.heap.size]? := r4.block _ l0 (fun e => (h.own _ e.symm).1 rfl)
  have e1 : w3.heap[w1.heap.size + 1]? = w2.heap[w1.heap.size + 1]? := r4.block _ l1 (fun e => (h.own _ e.symm).2 rfl)
  refine ⟨v', w3, r1, g.base.trans r3, r2, h.low, e0.trans g.c0, e1.trans g.c1, fun k hk => ?_⟩
  obtain ⟨cur, hcur⟩ : ∃ cur, w3.heap[k]? = some (.cells cur 9 (0, 0)) := by
    obtain ⟨_, ⟨e, _⟩ | ⟨g', cap, cur, e, _, hh, _⟩⟩ := r2
    · subst e; cases hk
    · subst e; cases hk; exact ⟨cur, hh⟩
  refine ⟨fun e => ?_, fun e => ?_⟩
  · rw [e, e0, g.c0] at hcur; cases hcur
  · rw [e, e1, g.c1] at hcur; cases hcur
theorem told_new {W0 w1 : World} {v : Value} {xs : List ByteArray} (a b c d : Value) (hb : Below W0.heap.size W0 w1) (hv : Ks W0.heap.size w1 v xs) : Told W0 w1 ((w1.alloc (.cells #[a, b] 146)).alloc (.cells #[c, d] 146)) v xs a b c d := by
  have h := pair_new w1 a b c d
  refine ⟨hb.trans (h.2.2.mono hb.size), own_kept hv (fun k hk => h.2.2.block k (own_lt hv hk)), hb.size, h.1, h.2.1, fun k hk => ?_⟩
  have := own_lt hv hk
  omega
theorem pow_few {n : Nat} (h : n ≤ 42) : 2 ^ n ≤ 4398046511104 := Nat.pow_le_pow_right (n := 2) (by omega) h
/-- between two buckets of the great table -/
def Gr (s : Sd) (A d c : Nat) (all : List ByteArray) (x : Nat) (ys : List ByteArray) (f : Nat) : Prop := Rv.rv A x = Rv.rv A c ∧ 2 ^ (A + d) ≤ Rv.rv (A + d) x + f ∧ ys ++ grF s A d f x = all
theorem gr_fuel {s : Sd} {A d c : Nat} {all : List ByteArray} {x f : Nat} {ys : List ByteArray} (h : Gr s A d c all x ys f) : ∃ f', f = f' + 1 := by
  have h1 := h.2.1
  have h2 := Rv.rv_lt (A + d) x
  exact ⟨f - 1, by omega⟩
theorem gr_len {s : Sd} {A d c : Nat} {all : List ByteArray} {x f : Nat} {ys : List ByteArray} (h : Gr s A d c all x ys (f + 1)) : ys.length + (tk s (1 - smN s) x).length ≤ all.length := by
  rw [← h.2.2]
  simp only [grF, List.length_append]
  omega
theorem gr_stop {s : Sd} {A d c : Nat} {all : List ByteArray} {x f : Nat} {ys : List ByteArray} (h : Gr s A d c all x ys (f + 1)) (q : Rv.next (A + d) x < 2 ^ A) : ys ++ tk s (1 - smN s) x = all ∧ Rv.next (A + d) x = Rv.next A c := by
  refine ⟨?_, (Rv.nx_stop q).trans (Rv.next_same h.1)⟩
  rw [← h.2.2]
  simp only [grF]
  rw [if_pos q, List.append_nil]
theorem gr_go {s : Sd} {A d c : Nat} {all : List ByteArray} {x f : Nat} {ys : List ByteArray} (h : Gr s A d c all x ys (f + 1)) (q : ¬ Rv.next (A + d) x < 2 ^ A) : Gr s A d c all (Rv.next (A + d) x) (ys ++ tk s (1 - smN s) x) f ∧ Rv.rv (A + d) x < Rv.rv (A + d) (Rv.next (A + d) x) ∧ Rv.rv (A + d) (Rv.next (A + d) x) < 2 ^ (A + d) := by
  obtain ⟨q1, q2, q3⟩ := Rv.nx_go q
  refine ⟨⟨q1.trans h.1, by have := h.2.1; omega, ?_⟩, by omega, Rv.rv_lt _ _⟩
  rw [← h.2.2]
  simp only [grF]
  rw [if_neg q, List.append_assoc]
def lag (P : Nat) (R : Nat → Nat) (v : Value) : Nat := P - R (intOf v).toNat
theorem lag_int (P : Nat) (R : Nat → Nat) (x : Nat) : lag P R (.int .u64 (x : Int)) = P - R x := by unfold lag; simp [intOf]
set_option maxRecDepth 100000 in
set_option maxHeartbeats 2000000 in
theorem pass_move (W0 w : World) (b c t0 n0 n1 : Nat) (v : Value) (xs ys0 all : List ByteArray) (tkx : Nat → List ByteArray) (nxt R : Nat → Nat) (gr : Nat → List ByteArray → Nat → Prop) (res f0 : Nat)
    (hc0 : c < 2 ^ 64) (hn0 : n0 ≤ 4398046511104) (hb : Below W0.heap.size W0 w) (hv : Ks W0.heap.size w v xs)
    (mT : Calls Tryz.prog 107 #[.pointer (some ⟨b, 0, none⟩)] w fun x w' => x = .returned (.tuple #[.agg #[.int .i64 (t0 : Int), .int .i64 (n0 : Int)], .agg #[.int .i64 ((1 - t0 : Nat) : Int), .int .i64 (n1 : Int)], .bool true]) ∧ Below w.heap.size w w')
    (KK : Kept (∀ W, Below W0.heap.size W0 W → Calls Tryz.prog 108 #[.pointer (some ⟨b, 0, none⟩), .agg #[.int .i64 (t0 : Int), .int .i64 (n0 : Int)], .int .u64 (c : Int)] W fun x w' => (∃ v, x = .returned v ∧ There v ∧ Ks W.heap.size w' v ys0) ∧ Below W.heap.size W w'))
    (K2 : Kept (∀ x : Nat, x < 2 ^ 64 → ∀ W, Below W0.heap.size W0 W → Calls Tryz.prog 108 #[.pointer (some ⟨b, 0, none⟩), .agg #[.int .i64 ((1 - t0 : Nat) : Int), .int .i64 (n1 : Int)], .int .u64 (x : Int)] W fun y w' => (∃ v, y = .returned v ∧ There v ∧ Ks W.heap.size w' v (tkx x)) ∧ Below W.heap.size W w'))
    (A2 : Kept (∀ x : Nat, x < 2 ^ 64 → ∀ W, Calls Tryz.prog 109 #[.int .u64 (x : Int), .int .i64 (n1 : Int)] W fun e w' => e = .returned (.int .u64 ((nxt x : Nat) : Int)) ∧ w' = W))
    (KG : Kept (∀ x f ys, gr x ys (f + 1) → nxt x < n0 → ys ++ tkx x = all ∧ nxt x = res))
    (KH : Kept (∀ x f ys, gr x ys (f + 1) → ¬ nxt x < n0 → gr (nxt x) (ys ++ tkx x) f ∧ R x < R (nxt x) ∧ R (nxt x) < f0))
    (KI : Kept (∀ x f ys, gr x ys f → ∃ f', f = f' + 1)) (KJ : Kept (∀ x f ys, gr x ys (f + 1) → ys.length + (tkx x).length ≤ all.length))
    (KS : Kept (gr c (xs ++ ys0) f0)) (KL : Kept (∀ x, nxt x < 2 ^ 64)) (hal : all.length ≤ 8000000000000) (hl0 : xs.length + ys0.length ≤ 8000000000000) :
    Calls Tryz.prog 82 #[.pointer (some ⟨b, 0, none⟩), .int .u64 c, v] w fun x w' => (∃ v', x = .returned (.tuple #[.int .u64 (res : Int), v']) ∧ Ks W0.heap.size w' v' all) ∧ Below W0.heap.size W0 w' := by
  have HB := keep hb
  have HV := keep hv
  have HA := keep hal
  clear hb hv hal
  go_enter Tryz.func82, Tryz.ntmps82
  go_wp2_with fail
  refine mT.mono ?_
  rintro _ w1 ⟨rfl, hb1⟩
  have HB1 := keep (HB.out.trans (hb1.mono HB.out.size))
  have HV1 := keep (own_kept HV.out (fun k hk => hb1.block k (own_lt HV.out hk)))
  clear mT hb1 HB HV
  go_wp2_with fail
  have hT := told_new (.int .i64 (t0 : Int)) (.int .i64 (n0 : Int)) (.int .i64 ((1 - t0 : Nat) : Int)) (.int .i64 (n1 : Int)) HB1.out HV1.out
  generalize World.alloc _ _ = Wz at *
  have HT := keep hT
  clear hT
  refine (KK.out Wz HT.out.base).mono ?_
  rintro _ w2 ⟨⟨v2, rfl, hth, hk2⟩, hb2⟩
  obtain ⟨v3, w3, mA, hT3⟩ := HT.out.add hb2 hk2 hth hl0
  have HT3 := keep hT3
  have MA := keep mA
  clear hT3 hth hk2 hb2 HT KK mA hl0 HB1 HV1
  go_wp2_with (first | (at_builtin; refine wpList_app_run rfl _ _ _ rfl _ _ _ rfl rfl MA.out ?_))
  go_loopw [1, 2] (fun cv u wr => ∃ (x : Nat) (ys : List ByteArray) (f : Nat), x < 2 ^ 64 ∧ cv = .int .u64 (x : Int) ∧ Kept (Told W0 w1 wr u ys (.int .i64 (t0 : Int)) (.int .i64 (n0 : Int)) (.int .i64 ((1 - t0 : Nat) : Int)) (.int .i64 (n1 : Int))) ∧ Kept (gr x ys f)) (fun cv _ _ => lag f0 R cv)
  case atStart => exact ⟨c, xs ++ ys0, f0, hc0, rfl, HT3, KS⟩
  case round =>
    obtain ⟨x, ys, f, hx, rfl, kT, kg⟩ := hrel
    obtain ⟨f', rfl⟩ := KI.out x f ys kg.out
    obtain ⟨q0, q1, q2, q3⟩ := kT.out.cells
    have hl := Nat.le_trans (KJ.out x f' ys kg.out) HA.out
    have HL := keep hl
    clear hl
    go_wp2_with fail
    refine (K2.out x hx _ kT.out.base).mono ?_
    rintro _ w4 ⟨⟨v4, rfl, hth, hk⟩, hb4⟩
    obtain ⟨v5, w5, mA5, hT5⟩ := kT.out.add hb4 hk hth HL.out
    obtain ⟨p0, p1, p2, p3⟩ := hT5.cells
    have HT5 := keep hT5
    have MA5 := keep mA5
    clear hT5 mA5 hth hk hb4 q0 q1 q2 q3
    go_wp2_with (first | (at_builtin; refine wpList_app_run rfl _ _ _ rfl _ _ _ rfl rfl MA5.out ?_))
    refine (A2.out x hx w5).mono ?_
    rintro _ w6 ⟨rfl, hw6⟩
    subst hw6
    have hwn : IntKind.u64.wrap (n0 : Int) = (n0 : Int) := by rw [IntKind.wrap_u64]; omega
    by_cases q : nxt x < n0
    · have q' : ((nxt x : Nat) : Int) < (n0 : Int) := by omega
      obtain ⟨e1, e2⟩ := KG.out x f' ys kg.out q
      have E1 := keep e1
      have E2 := keep e2
      clear e1 e2
      go_wp2
      go_ret2
      refine ⟨⟨v5, by rw [← E2.out]; rfl, ?_⟩, HT5.out.base⟩
      rw [← E1.out]
      exact HT5.out.row
    · have q' : ¬ ((nxt x : Nat) : Int) < (n0 : Int) := by omega
      have kh := keep (KH.out x f' ys kg.out q)
      have lx := KL.out x
      go_wp2
      go_roundw
      case rel => exact ⟨nxt x, ys ++ tkx x, f', lx, rfl, HT5, kh.out.1⟩
      case measure => have := kh.out.2; rw [lag_int, lag_int]; omega
end Go.Proofs.YtlfpkbjiofelkaaGreat

/-
  Contracts over this program: one scan of a table from a cursor (pass), over all.
-/
namespace Go.Proofs.YtlfpkbjiofelkaaGreat
open Go.RowKit Go.Shelf
attribute [local go_sem] Oper.semAt_some
set_option maxRecDepth 100000 in
set_option maxHeartbeats 2000000 in
theorem spass_any (W0 w : World) (r : Roles) (b seed n : Nat) (s : Sd) (hD : Dct W0 r b seed n s) (hF : Few s) (A d : Nat) (hL : Lay s A d) (c : Nat) (hc0 : c < 2 ^ 64) (v : Value) (xs : List ByteArray)
    (hb : Below W0.heap.size W0 w) (hv : Ks W0.heap.size w v xs) (hlen : xs.length + (passF s A d c).length ≤ 8000000000000) :
    Calls Tryz.prog 82 #[.pointer (some ⟨b, 0, none⟩), .int .u64 c, v] w fun x w' => (∃ v', x = .returned (.tuple #[.int .u64 ((Rv.next A c : Nat) : Int), v']) ∧ Ks W0.heap.size w' v' (xs ++ passF s A d c)) ∧ Below W0.heap.size W0 w' := by
  have hA := pow_few (show A ≤ 42 by have := hL.few; omega)
  have hp := Rv.two_pos A
  have mT := tables_any w r b seed n s (hD.kept hb.size (fun k hk _ => hb.block k hk))
  unfold tbV at mT
  rw [hL.small] at mT
  obtain ⟨ch, hch, hcm⟩ := tk_at (c := c) hL.small hp
  have KK := keep fun W (h : Below W0.heap.size W0 W) => skeys_any W r b seed n s (hD.kept h.size (fun k hk _ => h.block k hk)) hF (smN s) (smN_lt s).1 c hc0 ch hch
  unfold tbV at KK
  rw [hL.small, hcm] at KK
  have b0 : -9223372036854775808 ≤ ((2 ^ A : Nat) : Int) := Int.le_trans (by decide) (Int.natCast_nonneg _)
  have b1 : ((2 ^ A : Nat) : Int) ≤ 9223372036854775807 := Int.ofNat_le.2 (Nat.le_trans hA (by decide))
  have hAf := fun W => after_any c ((2 ^ A : Nat) : Int) A W hc0 b0 b1 (lg_pow A)
  by_cases hy : 0 < s.young.length
  · rw [decide_eq_true hy, hL.great hy] at mT
    have hG := pow_few hL.few
    have hpG := Rv.two_pos (A + d)
    have e : passF s A d c = tk s (smN s) c ++ grF s A d (2 ^ (A + d)) c := by unfold passF; rw [if_pos hy]
    rw [e] at hlen ⊢
    have hal : ((xs ++ tk s (smN s) c) ++ grF s A d (2 ^ (A + d)) c).length ≤ 8000000000000 := by rw [List.append_assoc, List.length_append]; exact hlen
    have hl0 : xs.length + (tk s (smN s) c).length ≤ 8000000000000 := by rw [List.length_append] at hlen; exact Nat.le_trans (Nat.add_le_add_left (Nat.le_add_right _ _) _) hlen
    rw [← List.append_assoc]
    have K2 : Kept (∀ x : Nat, x < 2 ^ 64 → ∀ W, Below W0.heap.size W0 W → Calls Tryz.prog 108 #[.pointer (some ⟨b, 0, none⟩), .agg #[.int .i64 ((1 - smN s : Nat) : Int), .int .i64 ((2 ^ (A + d) : Nat) : Int)], .int .u64 (x : Int)] W fun y w' => (∃ v, y = .returned v ∧ There v ∧ Ks W.heap.size w' v (tk s (1 - smN s) x)) ∧ Below W.heap.size W w') := fun x hx W h => by
      obtain ⟨ch2, hch2, hcm2⟩ := tk_at (c := x) (hL.great hy) hpG
      have m := skeys_any W r b seed n s (hD.kept h.size (fun k hk _ => h.block k hk)) hF (1 - smN s) (smN_lt s).2 x hx ch2 hch2
      unfold tbV at m
      rw [hL.great hy, hcm2] at m
      exact m
    have a0 : -9223372036854775808 ≤ ((2 ^ (A + d) : Nat) : Int) := Int.le_trans (by decide) (Int.natCast_nonneg _)
    have a1 : ((2 ^ (A + d) : Nat) : Int) ≤ 9223372036854775807 := Int.ofNat_le.2 (Nat.le_trans hG (by decide))
    have A2 : Kept (∀ x : Nat, x < 2 ^ 64 → ∀ W, Calls Tryz.prog 109 #[.int .u64 (x : Int), .int .i64 ((2 ^ (A + d) : Nat) : Int)] W fun e w' => e = .returned (.int .u64 ((Rv.next (A + d) x : Nat) : Int)) ∧ w' = W) := fun x hx W => after_any x ((2 ^ (A + d) : Nat) : Int) (A + d) W hx a0 a1 (lg_pow (A + d))
    have KL : Kept (∀ x, Rv.next (A + d) x < 2 ^ 64) := fun x => Nat.lt_of_lt_of_le (Rv.next_lt (A + d) x) (Nat.pow_le_pow_right (n := 2) (by decide) (Nat.le_trans hL.few (by decide)))
    have KS : Kept (Gr s A d c ((xs ++ tk s (smN s) c) ++ grF s A d (2 ^ (A + d)) c) c (xs ++ tk s (smN s) c) (2 ^ (A + d))) := ⟨rfl, Nat.le_add_left _ _, rfl⟩
    have KG : Kept (∀ x f ys, Gr s A d c ((xs ++ tk s (smN s) c) ++ grF s A d (2 ^ (A + d)) c) x ys (f + 1) → Rv.next (A + d) x < 2 ^ A → ys ++ tk s (1 - smN s) x = ((xs ++ tk s (smN s) c) ++ grF s A d (2 ^ (A + d)) c) ∧ Rv.next (A + d) x = Rv.next A c) := fun x f ys h q => gr_stop h q
    have KH : Kept (∀ x f ys, Gr s A d c ((xs ++ tk s (smN s) c) ++ grF s A d (2 ^ (A + d)) c) x ys (f + 1) → ¬ Rv.next (A + d) x < 2 ^ A → Gr s A d c ((xs ++ tk s (smN s) c) ++ grF s A d (2 ^ (A + d)) c) (Rv.next (A + d) x) (ys ++ tk s (1 - smN s) x) f ∧ Rv.rv (A + d) x < Rv.rv (A + d) (Rv.next (A + d) x) ∧ Rv.rv (A + d) (Rv.next (A + d) x) < 2 ^ (A + d)) := fun x f ys h q => gr_go h q
    have KI : Kept (∀ x f ys, Gr s A d c ((xs ++ tk s (smN s) c) ++ grF s A d (2 ^ (A + d)) c) x ys f → ∃ f', f = f' + 1) := fun x f ys h => gr_fuel h
    have KJ : Kept (∀ x f ys, Gr s A d c ((xs ++ tk s (smN s) c) ++ grF s A d (2 ^ (A + d)) c) x ys (f + 1) → ys.length + (tk s (1 - smN s) x).length ≤ ((xs ++ tk s (smN s) c) ++ grF s A d (2 ^ (A + d)) c).length) := fun x f ys h => gr_len h
    exact pass_move W0 w b c (smN s) (2 ^ A) (2 ^ (A + d)) v xs (tk s (smN s) c) ((xs ++ tk s (smN s) c) ++ grF s A d (2 ^ (A + d)) c) (tk s (1 - smN s)) (Rv.next (A + d)) (Rv.rv (A + d)) (Gr s A d c ((xs ++ tk s (smN s) c) ++ grF s A d (2 ^ (A + d)) c)) (Rv.next A c) (2 ^ (A + d)) hc0 hA hb hv mT KK K2 A2 KG KH KI KJ KS KL hal hl0
  · rw [decide_eq_false hy] at mT
    have e : passF s A d c = tk s (smN s) c := by unfold passF; rw [if_neg hy, List.append_nil]
    rw [e] at hlen ⊢
    generalize (tbl s (1 - smN s)).length = n1 at *
    generalize 2 ^ A = n0 at *
    generalize tk s (smN s) c = ys at *
    generalize hN : Rv.next A c = nx at *
    generalize smN s = t0 at *
    have HB := keep hb
    have HV := keep hv
    have KA := keep hAf
    clear hb hv hD hF hL hch hcm hAf e hN ch
    go_enter Tryz.func82, Tryz.ntmps82
    go_wp2_with fail
    refine mT.mono ?_
    rintro _ w1 ⟨rfl, hb1⟩
    have HB1 := keep (HB.out.trans (hb1.mono HB.out.size))
    have HV1 := keep (own_kept HV.out (fun k hk => hb1.block k (own_lt HV.out hk)))
    clear mT hb1 HB HV
    go_wp2_with fail
    have hT := told_new (.int .i64 (t0 : Int)) (.int .i64 (n0 : Int)) (.int .i64 ((1 - t0 : Nat) : Int)) (.int .i64 (n1 : Int)) HB1.out HV1.out
    generalize World.alloc _ _ = Wz at *
    have HT := keep hT
    clear hT
    refine (KK.out Wz HT.out.base).mono ?_
    rintro _ w2 ⟨⟨v2, rfl, hth, hk2⟩, hb2⟩
    obtain ⟨v3, w3, mA, hT3⟩ := HT.out.add hb2 hk2 hth hlen
    obtain ⟨q0, q1, q2, q3⟩ := hT3.cells
    have HT3 := keep hT3
    have MA := keep mA
    clear hT3 hth hk2 hb2 HT KK q0 q2 q3 mA
    go_wp2_with (first | (at_builtin; refine wpList_app_run rfl _ _ _ rfl _ _ _ rfl rfl MA.out ?_))
    refine (KA.out w3).mono ?_
    rintro _ w4 ⟨rfl, hw4⟩
    subst hw4
    go_wp2
    go_ret2
    exact ⟨⟨v3, rfl, HT3.out.row⟩, HT3.out.base⟩
end Go.Proofs.YtlfpkbjiofelkaaGreat

namespace Go.Proofs.YtlfpkbjiofelkaaGreat
open Go.RowKit Go.Shelf
attribute [local go_sem] Oper.semAt_some
theorem Ks.len {B : Nat} {w : World} {v : Value} {xs : List ByteArray} (h : Ks B w v xs) : ∃ ao cap, v = .slice ao xs.length cap := by
  unfold Ks at h
  obtain ⟨_, ⟨rfl, e⟩ | ⟨g, cap, cur, rfl, _⟩⟩ := h
  · exact ⟨none, 0, by rw [e]⟩
  · exact ⟨_, cap, rfl⟩
theorem ks_nil (B : Nat) (w : World) : Ks B w (.slice none 0 0) [] := World.ownsRow_nil w B 9 1
set_option maxRecDepth 100000 in
set_option maxHeartbeats 2000000 in
theorem next_walk (W0 : World) (b c m o y p : Nat) (cnt : Int) (pf : Nat → List ByteArray) (nxt R : Nat → Nat) (gr : Nat → List ByteArray → Nat → Prop) (Res : Nat → List ByteArray → Prop) (f0 : Nat)
    (hc0 : c < 2 ^ 64) (hm : max cnt 1 = (m : Int)) (ho : o ≠ 0)
    (mS : Calls Tryz.prog 81 #[.pointer (some ⟨b, 0, none⟩)] W0 fun e w' => e = .returned (.tuple #[.int .i64 (o : Int), .int .i64 (y : Int), .int .i64 (p : Int)]) ∧ ∃ q, w' = W0.drewN q)
    (KP : Kept (∀ (x : Nat) (xs : List ByteArray) (v : Value) (w : World), x < 2 ^ 64 → Below W0.heap.size W0 w → Ks W0.heap.size w v xs → xs.length + (pf x).length ≤ 8000000000000 → Calls Tryz.prog 82 #[.pointer (some ⟨b, 0, none⟩), .int .u64 (x : Int), v] w fun z w' => (∃ v', z = .returned (.tuple #[.int .u64 ((nxt x : Nat) : Int), v']) ∧ Ks W0.heap.size w' v' (xs ++ pf x)) ∧ Below W0.heap.size W0 w'))
    (KG : Kept (∀ x f l, gr x l (f + 1) → (nxt x = 0 ∨ m ≤ (l ++ pf x).length) → Res (nxt x) (l ++ pf x)))
    (KH : Kept (∀ x f l, gr x l (f + 1) → ¬ nxt x = 0 → ¬ m ≤ (l ++ pf x).length → gr (nxt x) (l ++ pf x) f ∧ R x < R (nxt x) ∧ R (nxt x) < f0))
    (KI : Kept (∀ x f l, gr x l f → ∃ f', f = f' + 1)) (KJ : Kept (∀ x f l, gr x l (f + 1) → l.length + (pf x).length ≤ 8000000000000))
    (KS : Kept (gr c [] f0)) (KL : Kept (∀ x, nxt x < 2 ^ 64)) :
    Calls Tryz.prog 57 #[.pointer (some ⟨b, 0, none⟩), .int .u64 (c : Int), .int .i64 cnt] W0 fun x w' => (∃ (c' : Nat) (l' : List ByteArray) (v' : Value), x = .returned (.tuple #[.int .u64 (c' : Int), v']) ∧ Ks W0.heap.size w' v' l' ∧ Res c' l' ∧ c' < 2 ^ 64) ∧ Below W0.heap.size W0 w' := by
  have ho' : ¬ (o : Int) = 0 := by omega
  have hob : ((o : Int) == 0) = false := beq_eq_false_iff_ne.2 ho'
  go_enter Tryz.func57, Tryz.ntmps57
  go_wp2_with fail
  refine mS.mono ?_
  rintro _ w1 ⟨rfl, q1, hw1⟩
  have HB : Kept (Below W0.heap.size W0 w1) := by rw [hw1]; exact below_drewN (Below.refl _ _) q1
  clear hw1 mS
  go_wp2_with fail
  go_loopw [1, 11] (fun cv u wr => ∃ (x : Nat) (l : List ByteArray) (f : Nat), x < 2 ^ 64 ∧ cv = .int .u64 (x : Int) ∧ Kept (Ks W0.heap.size wr u l) ∧ Kept (Below W0.heap.size W0 wr) ∧ Kept (gr x l f)) (fun cv _ _ => lag f0 R cv)
  case atStart => exact ⟨c, [], f0, hc0, rfl, ks_nil _ _, HB, KS⟩
  case round =>
    clear HB
    obtain ⟨x, l, f, hx, rfl, kK, kB, kg⟩ := hrel
    obtain ⟨f', rfl⟩ := KI.out x f l kg.out
    go_wp2_with fail
    refine (KP.out x l _ _ hx kB.out kK.out (KJ.out x f' l kg.out)).mono ?_
    rintro _ w2 ⟨⟨v2, rfl, hk2⟩, hb2⟩
    obtain ⟨ao, cap, rfl⟩ := hk2.len
    have HK2 := keep hk2
    have HB2 := keep hb2
    have lx := KL.out x
    have KX := keep (KG.out x f' l kg.out)
    have KY := keep (KH.out x f' l kg.out)
    clear hk2 hb2 kK kB kg
    generalize l ++ pf x = l2 at *
    generalize hnx : nxt x = z at *
    by_cases q0 : z = 0
    · have q0' : (z : Int) = 0 := by omega
      go_wp2
      go_ret2
      subst q0
      exact ⟨⟨0, l2, _, rfl, HK2.out, KX.out (.inl rfl), lx⟩, HB2.out⟩
    · have q0' : ¬ (z : Int) = 0 := by omega
      by_cases q2 : m ≤ l2.length
      · have q2' : (m : Int) ≤ (l2.length : Int) := by omega
        go_wp2
        go_ret2
        exact ⟨⟨z, l2, _, rfl, HK2.out, KX.out (.inr q2), lx⟩, HB2.out⟩
      · have q2' : ¬ (m : Int) ≤ (l2.length : Int) := by omega
        have kh := keep (KY.out q0 q2)
        go_wp2
        go_roundw
        case rel => exact ⟨z, l2, f', lx, rfl, HK2, HB2, kh.out.1⟩
        case measure =>
          have h := kh.out.2
          show lag f0 R (.int .u64 (z : Int)) < lag f0 R (.int .u64 (x : Int))
          rw [lag_int, lag_int]
          omega
end Go.Proofs.YtlfpkbjiofelkaaGreat
