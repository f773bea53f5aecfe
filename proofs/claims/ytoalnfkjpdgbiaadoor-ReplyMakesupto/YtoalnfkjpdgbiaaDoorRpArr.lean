/-
  Contracts over this program: an array's replies, one after the other.
-/
import Derived.Test.YtoalnfkjpdgbiaaDoorRpRep
import Derived.Deep.LoopGhost
namespace Go.Proofs.YtoalnfkjpdgbiaaDoor
open Go.RowKit
set_option linter.unusedVariables false
theorem Gp.low2 {p B : Nat} {w w1 w2 : World} (h : Gp p w w1) (g : Below B w1 w2) (hB : w.heap.size ≤ B) : Gp p w w2 :=
  ⟨g.os.trans h.os, g.tape.trans h.tape, g.output.trans h.output, Nat.le_trans h.size g.size, fun k hk hne => (g.block k (Nat.lt_of_lt_of_le hk hB)).trans (h.block k hk hne)⟩
theorem So.low {w w' : World} {p B : Nat} {x : List UInt8} (h : So w p x) (hb : Below B w w') (hB : p < B) : So w' p x := by
  obtain ⟨v, h1, h2⟩ := h
  exact ⟨v, (hb.block p hB).trans h1, h2.mono (fun _ h => h) (fun b hb' => hb.block b (by omega))⟩
theorem four_other {w : World} {b k : Nat} (h : k ≠ b) (b0 b1 b2 b3 : Value) : (set4 w b b0 b1 b2 b3).heap[k]? = w.heap[k]? := by
  unfold set4
  rw [Below.heap_setCell _ _ _ _ h, Below.heap_setCell _ _ _ _ h, Below.heap_setCell _ _ _ _ h, Below.heap_setCell _ _ _ _ h]
/-- what reading a reply answers and leaves -/
def Told (n p : Nat) (w : World) (len : Nat) (Z : Except Int (Rp.T n × List UInt8)) (e : Ending) (w' : World) : Prop :=
  Gp p w w' ∧ match Z with
  | .error c => c ≠ 0 ∧ e = .returned (.tuple #[nought, .int .i64 c]) ∧ ∃ x, So w' p x ∧ x.length ≤ len
  | .ok (t, x) => (∃ cs, e = .returned (.tuple #[.agg cs.toArray, .int .i64 0]) ∧ Tel (fun b => w.heap.size ≤ b ∧ b < w'.heap.size) w' n cs t) ∧ So w' p x ∧ x.length ≤ len
def pre {α : Type} (ts : List α) : Except Int (List α × List UInt8) → Except Int (List α × List UInt8)
  | .error c => .error c
  | .ok (xs, b) => .ok (ts ++ xs, b)
theorem pre_many {α : Type} {d : List UInt8 → Except Int (α × List UInt8)} {b b' : List UInt8} {x : α} (h : d b = .ok (x, b')) (ts : List α) (k : Nat) : pre ts (Rp.many d (k + 1) b) = pre (ts ++ [x]) (Rp.many d k b') := by
  cases hm : Rp.many d k b' with
  | error e => simp [Rp.many, h, hm, pre]
  | ok y => obtain ⟨xs, b2⟩ := y; simp [Rp.many, h, hm, pre]
theorem pre_err {α : Type} {d : List UInt8 → Except Int (α × List UInt8)} {b : List UInt8} {c : Int} (h : d b = .error c) (ts : List α) (k : Nat) : pre ts (Rp.many d (k + 1) b) = .error c := by
  rw [Rp.many, h]; rfl
theorem arrF_err {α : Type} {D : Nat → List UInt8 → Except Int (List α × List UInt8)} {s r : List UInt8} {m : Nat} {c : Int} (h1 : s ≠ [45, 49]) (h2 : Rp.cntF s = .ok m) (h : D m r = .error c) : Rp.arrF D s r = .error c := by
  unfold Rp.arrF
  rw [if_neg h1, h2]
  simp only [h]
theorem arrF_ok {α : Type} {D : Nat → List UInt8 → Except Int (List α × List UInt8)} {s r r' : List UInt8} {m : Nat} {l : List α} (h1 : s ≠ [45, 49]) (h2 : Rp.cntF s = .ok m) (h : D m r = .ok (l, r')) : Rp.arrF D s r = .ok ((6, .empty, 0, l), r') := by
  unfold Rp.arrF
  rw [if_neg h1, h2]
  simp only [h]
theorem array_null (w : World) (p : Nat) (wi : Int) :
    Calls Tryd.prog 62 #[.pointer (some ⟨p, 0, none⟩), .string (Rp.ofL [45, 49]), .int .i64 wi] w fun e w' => e = .returned (.tuple #[.agg #[.int .i64 7, .string ⟨#[]⟩, .int .i64 0, .slice none 0 0], .int .i64 0]) ∧ Below w.heap.size w w' := by
  have hq : ((Rp.ofL [45, 49]).toList == [45, 49]) = true := by rw [ofL_toList]; rfl
  generalize Rp.ofL [45, 49] = s at *
  go_enter Tryd.func62, Tryd.ntmps62
  go_wp2
  (try simp only [Exit.inBlock, Exit.then])
  refine bodyPost_ret (res_rp2 rfl _ _ _ _ _ _ _ rfl (Box.new _ _ _ _ _)) rfl ⟨rfl, (Below.refl _ _).alloc (Nat.le_refl _) _⟩
theorem array_err (w : World) (p : Nat) (wi : Int) (s : List UInt8) (c : Int) (hs : s.length ≤ maxLen) (h1 : s ≠ [45, 49]) (h2 : Rp.cntF s = .error c) :
    Calls Tryd.prog 62 #[.pointer (some ⟨p, 0, none⟩), .string (Rp.ofL s), .int .i64 wi] w fun e w' => e = .returned (.tuple #[nought, .int .i64 c]) ∧ Below w.heap.size w w' := by
  have hq : ((Rp.ofL s).toList == [45, 49]) = false := by rw [ofL_toList]; exact beq_eq_false_iff_ne.2 h1
  have CN := keep (fun w => (cnt_err h2 w hs).2)
  have hc : (c != 0) = true := by have := (cnt_err h2 w hs).1; simpa using this
  generalize Rp.ofL s = s' at *
  clear h1 h2 hs
  go_enter Tryd.func62, Tryd.ntmps62
  go_wp2_with fail
  refine (CN.out _).mono ?_
  rintro e w' ⟨rfl, rfl⟩
  go_wp2
  (try simp only [Exit.inBlock, Exit.then])
  refine bodyPost_ret (res_rp2 rfl _ _ _ _ _ _ _ rfl (Box.new _ _ _ _ _)) rfl ⟨rfl, (Below.refl _ _).alloc (Nat.le_refl _) _⟩
theorem array_deep (w : World) (p : Nat) (wi : Int) (s : List UInt8) (m : Nat) (h8 : 8 ≤ wi) (hs : s.length ≤ maxLen) (h1 : s ≠ [45, 49]) (h2 : Rp.cntF s = .ok m) :
    Calls Tryd.prog 62 #[.pointer (some ⟨p, 0, none⟩), .string (Rp.ofL s), .int .i64 wi] w fun e w' => e = .returned (.tuple #[nought, .int .i64 161]) ∧ Below w.heap.size w w' := by
  have hq : ((Rp.ofL s).toList == [45, 49]) = false := by rw [ofL_toList]; exact beq_eq_false_iff_ne.2 h1
  have CN := keep (fun w => (cnt_ok h2 w hs).2)
  generalize Rp.ofL s = s' at *
  clear h1 h2 hs
  go_enter Tryd.func62, Tryd.ntmps62
  go_wp2_with fail
  refine (CN.out _).mono ?_
  rintro e w' ⟨rfl, rfl⟩
  go_wp2
  (try simp only [Exit.inBlock, Exit.then])
  refine bodyPost_ret (res_rp2 rfl _ _ _ _ _ _ _ rfl (Box.new _ _ _ _ _)) rfl ⟨rfl, (Below.refl _ _).alloc (Nat.le_refl _) _⟩
set_option maxRecDepth 100000 in
set_option maxHeartbeats 2000000 in
theorem array_go (n p : Nat) (w : World) (wi : Int) (LIM : Nat) (h0 : 0 ≤ wi) (h8 : wi < 8) (h3 : 3 ≤ p)
    (IH : ∀ (w : World) (b : List UInt8), So w p b → Vars w → b.length ≤ LIM → Calls Tryd.prog 46 #[.pointer (some ⟨p, 0, none⟩), .int .i64 (wi + 1)] w (Told (n + 1) p w b.length (Rp.dec n b)))
    (s r : List UInt8) (m : Nat) (h : So w p r) (hv : Vars w) (hl : r.length ≤ LIM) (hs : s.length ≤ maxLen) (h1 : s ≠ [45, 49]) (h2 : Rp.cntF s = .ok m) :
    Calls Tryd.prog 62 #[.pointer (some ⟨p, 0, none⟩), .string (Rp.ofL s), .int .i64 wi] w (Told (n + 2) p w r.length (Rp.arrF (Rp.many (Rp.dec n)) s r)) := by
  have Z1 := keep (fun c hc => arrF_err (D := Rp.many (Rp.dec n)) (s := s) (r := r) (m := m) (c := c) h1 h2 hc)
  have Z2 := keep (fun l r' hc => arrF_ok (D := Rp.many (Rp.dec n)) (s := s) (r := r) (m := m) (l := l) (r' := r') h1 h2 hc)
  obtain ⟨Z, hZ⟩ : ∃ Z : Except Int (Rp.T (n + 2) × List UInt8), Z = Rp.arrF (Rp.many (Rp.dec n)) s r := ⟨_, rfl⟩
  rw [← hZ] at Z1 Z2 ⊢
  clear hZ
  have hq : ((Rp.ofL s).toList == [45, 49]) = false := by rw [ofL_toList]; exact beq_eq_false_iff_ne.2 h1
  have CN := keep (fun w => (cnt_ok h2 w hs).2)
  have hm := (cnt_ok h2 w hs).1
  have hge : decide (8 ≤ wi) = false := decide_eq_false (by omega)
  have hnge : ¬ 8 ≤ wi := by omega
  have nw : wrap64 (wi + 1) = wi + 1 := by unfold wrap64; omega
  have nw2 : IntKind.i64.wrap (wi + 1) = wi + 1 := by rw [IntKind.wrap_i64]; omega
  obtain ⟨W1, hW1⟩ : ∃ x, x = w.alloc (.cells #[.int .i64 0, .string ⟨#[]⟩, .int .i64 0, .slice none 0 0] 25) := ⟨_, rfl⟩
  have x1 : Box W1 w.heap.size (.int .i64 0) (.string ⟨#[]⟩) (.int .i64 0) (.slice none 0 0) := hW1 ▸ Box.new w _ _ _ _
  have b1 : Below w.heap.size w W1 := hW1 ▸ (Below.refl _ _).alloc (Nat.le_refl _) _
  have hz1 : w.heap.size < W1.heap.size := x1.lt
  have B1 := keep b1
  have X1 := keep x1
  have V1 := keep (hv.below b1)
  have S1 := keep (h.later b1)
  have LT := keep h.lt
  have HM := keep hm
  have HL := keep hl
  have H3 := keep h3
  have IHK := keep IH
  have HZ := keep hz1
  have hW1' := hW1.symm
  generalize Rp.ofL s = s' at *
  clear h hv hl hs h1 h2 hm h0 h8 h3 IH hW1 x1 b1 hz1
  go_enter Tryd.func62, Tryd.ntmps62
  go_wp2_with fail
  refine (CN.out _).mono ?_
  rintro e w' ⟨rfl, rfl⟩
  clear CN
  go_wp2
  go_loopw [29, 10] (fun i u wr => ∃ (k : Nat) (ts : List (Rp.T (n + 1))) (b : List UInt8), k ≤ m ∧ i = .int .i64 k ∧ Kept (ts.length = k) ∧ Kept (Row w'.heap.size wr (n + 1) u ts) ∧ Kept (So wr p b) ∧ Kept (b.length ≤ r.length) ∧ Kept (Gp p w' wr) ∧ Kept (Rp.many (Rp.dec n) m r = pre ts (Rp.many (Rp.dec n) (m - k) b))) (fun i _ _ => m - (intOf i).toNat)
  case atStart => exact ⟨0, [], r, Nat.zero_le _, rfl, keep rfl, keep (Row.nil _ _ _), S1, keep (Nat.le_refl _), keep (Gp.refl _ _), keep (by cases Rp.many (Rp.dec n) m r with
    | error c => rfl
    | ok y => rfl)⟩
  case round =>
    obtain ⟨k, ts, b, hk, rfl, TL, RW, SO, BL, GP, ZZ⟩ := hrel
    have PZ : Kept (p < w'.heap.size) := keep (Nat.lt_trans LT.out HZ.out)
    have X2 := keep (X1.out.gp GP.out (by have := LT.out; omega))
    have GW := keep ((Gp.of B1.out).trans GP.out)
    have WZ : Kept (w.heap.size < wr.heap.size) := keep (Nat.lt_of_lt_of_le HZ.out GP.out.size)
    by_cases hlt : k < m
    · have hz : (k : Int) < (m : Int) := by omega
      have hz0 : (0 : Int) ≤ (k : Int) := by omega
      have hkw : IntKind.i64.wrap ((k : Int) + 1) = ((k + 1 : Nat) : Int) := by have := HM.out; rw [IntKind.wrap_i64]; omega
      obtain ⟨j, hj⟩ : ∃ j, m - k = j + 1 := ⟨m - k - 1, by omega⟩
      have CALL := keep (IHK.out wr b SO.out (V1.out.gp GP.out (Nat.le_of_lt PZ.out) H3.out) (Nat.le_trans BL.out HL.out))
      rw [hj] at ZZ
      have HJ := keep hj
      clear hj
      cases hd : Rp.dec n b with
      | error c =>
        rw [hd] at CALL
        have ZE := keep (ZZ.out.trans (pre_err hd ts j))
        clear hd
        go_wp2_with fail
        refine CALL.out.mono ?_
        rintro e w2 ⟨g2, hc, he, x, s2, hx⟩
        obtain ⟨z1, zo, zn, zc, hz1⟩ : ∃ (z : ByteArray) (zo : Option Addr) (zn zc : Nat), e = .returned (.tuple #[.agg #[.int .i64 0, .string z, .int .i64 0, .slice zo zn zc], .int .i64 c]) := ⟨_, _, _, _, he⟩
        clear he
        subst hz1
        have hcq : (c != 0) = true := by simpa using hc
        have HC := keep hc
        obtain ⟨W3, hW3⟩ : ∃ x, x = w2.alloc (.cells #[.int .i64 0, .string z1, .int .i64 0, .slice zo zn zc] 25) := ⟨_, rfl⟩
        have b3 : Below w2.heap.size w2 W3 := hW3 ▸ (Below.refl _ _).alloc (Nat.le_refl _) _
        have hW3' := hW3.symm
        have X3 := keep ((X2.out.gp g2 (by have := LT.out; omega)).below b3 (Nat.lt_of_lt_of_le WZ.out g2.size))
        have S3 := keep (s2.later b3)
        have G3 := keep ((GW.out.trans g2).trans (Gp.of b3))
        have HX := keep (Nat.le_trans hx BL.out)
        obtain ⟨d0, d1, d2, d3⟩ := X3.out.cells
        have f0 := X3.out.free 0
        have f1 := X3.out.free 1
        have f2 := X3.out.free 2
        have f3 := X3.out.free 3
        clear hc g2 s2 hx b3 hW3
        go_wp2
        (try simp only [Exit.inBlock, Exit.then])
        (try simp only [Exit.inBlock, Exit.then])
        refine bodyPost_ret (res_rp2 rfl _ _ w.heap.size _ _ _ _ rfl (Box.four X3.out _ _ _ _)) rfl ?_
        rw [Z1.out c ZE.out]
        exact ⟨Gp.four G3.out (Nat.le_refl _) _ _ _ _, HC.out, rfl, _, So.four S3.out LT.out _ _ _ _, HX.out⟩
      | ok y =>
        obtain ⟨t, b2⟩ := y
        rw [hd] at CALL
        have ZE := keep (ZZ.out.trans (pre_many hd ts j))
        clear hd
        go_wp2_with fail
        refine CALL.out.mono ?_
        rintro e w2 ⟨g2, ⟨cs, rfl, ht⟩, s2, hx⟩
        obtain ⟨q0, q1, q2, q3, q4, q5, rfl, _⟩ := ht.six
        obtain ⟨W3, hW3⟩ : ∃ x, x = w2.alloc (.cells #[.int .i64 q0, .string q1, .int .i64 q2, .slice q3 q4 q5] 25) := ⟨_, rfl⟩
        obtain ⟨W4, hW4⟩ : ∃ x, x = W3.alloc (.cells #[.int .i64 q0, .string q1, .int .i64 q2, .slice q3 q4 q5] 25) := ⟨_, rfl⟩
        have b3 : Below w2.heap.size w2 W3 := hW3 ▸ (Below.refl _ _).alloc (Nat.le_refl _) _
        have row3 : Row w'.heap.size W3 (n + 1) u10 ts := RW.out.later (Nat.le_trans g2.size b3.size) (fun b h1 h2 => (b3.block b (Nat.lt_of_lt_of_le h2 g2.size)).trans (g2.block b h2 (fun e => by have := PZ.out; injection e with e; omega)))
        have tel3 : Tel (Mine w'.heap.size W3 u10) W3 (n + 1) [.int .i64 q0, .string q1, .int .i64 q2, .slice q3 q4 q5] t :=
          Tel.mono (fun b h => ⟨Nat.le_trans GP.out.size h.1, Nat.lt_of_lt_of_le h.2 b3.size, fun e => by have := (RW.out.own e).2; omega⟩) (fun b h => b3.block b h.2) _ _ _ ht
        obtain ⟨v', w6, run6, row6, gr6⟩ := row_app row3 tel3 (by have := TL.out; have := HM.out; omega) (Nat.le_trans GP.out.size (Nat.le_trans g2.size b3.size)) 23
        rw [← hW4] at run6
        have B4 : Kept (Below w'.heap.size W3 w6) := keep (gr6.below (Nat.le_trans GP.out.size (Nat.le_trans g2.size b3.size)) (fun k hk => (RW.out.own hk).1))
        have G6 := keep ((((GP.out.trans g2).trans (Gp.of b3))).low2 B4.out (Nat.le_refl _))
        have S6 := keep ((s2.later b3).low B4.out PZ.out)
        have R6 := keep row6
        have HX := keep (Nat.le_trans hx BL.out)
        have hW3' := hW3.symm
        have hW4' := hW4.symm
        have bs : (Instr.buildSlice 23 1 #[(0, .agg #[.int .i64 q0, .string q1, .int .i64 q2, .slice q3 q4 q5])]).run Tryd.prog W3 = .ok (.slice (some ⟨W3.heap.size, 0, none⟩) 1 1) W4 := by
          obtain ⟨i0, hi0, hz0, hz1, hz2⟩ := parts_of info_rp
          rw [hW4]
          exact run_buildSlice W3 _ _ 1 _ _ i0 _ Tryd.underlying23 hi0 hz0 (by rw [hz1]; decide) (by rw [hz1]; decide) (by rw [hz1]; simp [Instr.fill, Value.cells, Array.range, List.zipIdx]; rfl)
        have RUN := keep run6
        obtain ⟨e0, e1, e2, e3⟩ := (show Box W3 w2.heap.size _ _ _ _ from hW3 ▸ Box.new w2 _ _ _ _).cells
        clear g2 s2 hx ht b3 row3 tel3 row6 gr6 hW3 hW4 run6
        go_wp2_with ((show wpList _ _ _ ({ dst := some 45, op := Op.call { callee := Callee.builtin Builtin.append, args := _, argTypes := _ }, type := _, pos := _, after := _, guard := _ } :: _) _ _; refine wpList_app_run rfl _ _ _ _ rfl _ _ _ rfl rfl RUN.out ?_))
        go_roundw
        case measure => simp [intOf]; omega
        case rel => exact ⟨k + 1, ts ++ [t], b2, by omega, by rfl, keep (by rw [List.length_append, TL.out]; rfl), R6, S6, HX, G6, keep (by rw [ZE.out]; congr 2; have := HJ.out; omega)⟩
    · have hz : ¬ (k : Int) < (m : Int) := by omega
      obtain rfl : k = m := by omega
      have ZE : Kept (Z = .ok ((6, .empty, 0, ts), b)) := keep (Z2.out ts b (by
        rw [ZZ.out, Nat.sub_self]
        simp [pre, Rp.many]))
      have LS := keep RW.out.lst
      obtain ⟨aoL, cL, hu⟩ := RW.out.form
      subst hu
      obtain ⟨d0, d1, d2, d3⟩ := X2.out.cells
      have f0 := X2.out.free 0
      have f1 := X2.out.free 1
      have f2 := X2.out.free 2
      have f3 := X2.out.free 3
      clear hlt
      go_wp2
      (try simp only [Exit.inBlock, Exit.then])
      refine bodyPost_ret (res_rp2 rfl _ _ w.heap.size _ _ _ _ rfl (Box.four X2.out _ _ _ _)) rfl ?_
      rw [ZE.out]
      refine ⟨Gp.four GW.out (Nat.le_refl _) _ _ _ _, ⟨[_, _, _, _], rfl, ⟨_, rfl, ?_, ⟨by show (-9223372036854775808 : Int) ≤ 6; decide, by show (6 : Int) ≤ 9223372036854775807; decide⟩, ⟨by show (-9223372036854775808 : Int) ≤ 0; decide, by show (0 : Int) ≤ 9223372036854775807; decide⟩, by show (0 : Nat) < 4294967281; decide⟩⟩, So.four SO.out LT.out _ _ _ _, BL.out⟩
      have fz : (set4 wr w.heap.size (.int .i64 6) (.string ⟨#[]⟩) (.int .i64 0) (.slice aoL ts.length cL)).heap.size = wr.heap.size := by simp [set4, World.setCell]
      have hlow : ∀ b, (w'.heap.size ≤ b ∧ b < wr.heap.size) → (w.heap.size ≤ b ∧ b < (set4 wr w.heap.size (.int .i64 6) (.string ⟨#[]⟩) (.int .i64 0) (.slice aoL ts.length cL)).heap.size) := fun b h => ⟨Nat.le_trans (Nat.le_of_lt HZ.out) h.1, by rw [fz]; exact h.2⟩
      have hsm : ∀ b, (w'.heap.size ≤ b ∧ b < wr.heap.size) → (set4 wr w.heap.size (.int .i64 6) (.string ⟨#[]⟩) (.int .i64 0) (.slice aoL ts.length cL)).heap[b]? = wr.heap[b]? := fun b h => four_other (by have := HZ.out; omega) _ _ _ _
      exact LS.out.mono hlow hsm (fun cs x hx => Tel.mono hlow hsm _ _ _ hx)
end Go.Proofs.YtoalnfkjpdgbiaaDoor
