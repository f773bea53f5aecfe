/-
  Contracts over this program: patch's own stretch, filled, bitPlace, and Slice, Overlay, Join, Bit, SetBit, Ones at any input.
-/
import Derived.Test.YtlkplmlhlgnnkabPatchRow
import Derived.Test.YtlkplmlhlgnnkabSpanP
import Derived.Lib.Tables
import Derived.IntWalk
namespace Go.Proofs.Ytlkplmlhlgnnkab
open Go.RowKit
set_option linter.unusedVariables false
def Kept (p : Prop) : Prop := p
theorem keep {p : Prop} (h : p) : Kept p := h
theorem Kept.out {p : Prop} (h : Kept p) : p := h
theorem pop_is : ∀ z : Fin 256, Lib.pop8 (z.val : Int) = (Pt.pc z.val : Int) := by decide +kernel
theorem pop_u8 (z : UInt8) : Lib.pop8 (z.toNat : Int) = (Pt.pc z.toNat : Int) := pop_is ⟨z.toNat, z.toNat_lt⟩
theorem ret_i {k : IntKind} {a b : Int} (h : a = b) : Ending.returned (.int k a) = .returned (.int k b) := by rw [h]
theorem wpList_app_run {P : Program} {w w' : World} {ops : Array Oper} {rest : List Oper} {o : Oper} {a : Act} {Q : Exit → Act → World → Prop} (hg : o.guard = none) (s x : Operand) (t t2 : TypeId)
    (hop : o.op = Op.call { callee := Callee.builtin Builtin.append, args := #[s, x], argTypes := #[t, t2] }) (v v2 v' : Value) (hs : a.eval s = v) (hx : a.eval x = v2)
    (hrun : (Builtin.append_ #[t, t2] o.type #[v, v2]).run P w = .ok v' w') (hK : wpList P ops Q rest (a.put o.dst v') w') : wpList P ops Q (o :: rest) a w := by
  refine wpList_plain hg fun K hK' => ?_
  unfold Oper.wp
  simp [execOp, hop, resolve, invoke, builtin, hs, hx, hrun, Result.andThen]
  exact hK' _ _ hK
theorem wpList_copy_run {P : Program} {w w' : World} {ops : Array Oper} {rest : List Oper} {o : Oper} {a : Act} {Q : Exit → Act → World → Prop} (hg : o.guard = none) (s x : Operand) (t t2 : TypeId)
    (hop : o.op = Op.call { callee := Callee.builtin Builtin.copy, args := #[s, x], argTypes := #[t, t2] }) (v v2 v' : Value) (hs : a.eval s = v) (hx : a.eval x = v2)
    (hrun : (Builtin.copy_ #[t, t2] o.type #[v, v2]).run P w = .ok v' w') (hK : wpList P ops Q rest (a.put o.dst v') w') : wpList P ops Q (o :: rest) a w := by
  refine wpList_plain hg fun K hK' => ?_
  unfold Oper.wp
  simp [execOp, hop, resolve, invoke, builtin, hs, hx, hrun, Result.andThen]
  exact hK' _ _ hK
set_option maxHeartbeats 400000 in
theorem count_any (z : UInt8) (w : World) :
    Calls Try.prog 13 #[.int .u8 z.toNat] w fun e w' => e = .returned (.int .i64 (Pt.pc z.toNat : Nat)) ∧ w' = w := by
  have h0 := pop_u8 z
  have h1 := Pt.pc_le z.toNat
  have h2 : (0 : Int) ≤ (z.toNat : Int) := by omega
  have h3 : (z.toNat : Int) ≤ 255 := by have := z.toNat_lt; omega
  go_enter Try.func13, Try.ntmps13
  go_wp2
  go_ret
  exact ⟨rfl, rfl⟩
set_option maxHeartbeats 400000 in
theorem place_any (i : Nat) (w : World) (h : i ≤ 9223372036854775807) :
    Calls Try.prog 12 #[.int .i64 i] w fun e w' => e = .returned (.tuple #[.int .i64 (i / 8 : Nat), .int .i64 (7 - i % 8 : Nat)]) ∧ w' = w := by
  go_enter Try.func12, Try.ntmps12
  go_wp2
  go_ret2
  exact ⟨ret_sp (by first | rfl | omega) (by first | rfl | omega), rfl⟩
/-- where a stretch begins and ends -/
theorem span_nat (a b : Int) (n : Nat) : ∃ f t : Nat, Pl.sp1 a b (Pl.row (n : Int)) = (f : Int) ∧ Pl.sp2 a b (Pl.row (n : Int)) = (t : Int) ∧ f ≤ t ∧ t ≤ n := by
  have hr : Pl.row (n : Int) = (n : Int) := by unfold Pl.row; rw [if_neg (by omega)]
  rw [hr]
  refine ⟨(Pl.sp1 a b n).toNat, (Pl.sp2 a b n).toNat, ?_, ?_, ?_, ?_⟩ <;> simp only [Pl.sp1, Pl.sp2, Pl.frm, Pl.til] <;> (repeat' split) <;> omega
def sf (a b : Int) (n : Nat) : Nat := (Pl.sp1 a b (Pl.row (n : Int))).toNat
def st (a b : Int) (n : Nat) : Nat := (Pl.sp2 a b (Pl.row (n : Int))).toNat
theorem sf_st (a b : Int) (n : Nat) : Pl.sp1 a b (Pl.row (n : Int)) = (sf a b n : Int) ∧ Pl.sp2 a b (Pl.row (n : Int)) = (st a b n : Int) ∧ sf a b n ≤ st a b n ∧ st a b n ≤ n := by
  obtain ⟨f, t, h1, h2, h3, h4⟩ := span_nat a b n
  unfold sf st
  rw [h1, h2]
  omega
set_option maxHeartbeats 400000 in
theorem stretch_any (s : ByteArray) (a b : Int) (w : World) (h1 : -9223372036854775808 ≤ a) (h2 : a ≤ 9223372036854775807) (h3 : -9223372036854775808 ≤ b) (h4 : b ≤ 9223372036854775807) (hs : s.size ≤ maxLen) :
    Calls Try.prog 10 #[.string s, .int .i64 a, .int .i64 b] w fun e w' => e = .returned (.string (s.extract (sf a b s.size) (st a b s.size))) ∧ w' = w := by
  unfold maxLen at hs
  have hsp := fun w => span_any a b (s.size : Int) w h1 h2 h3 h4 (by omega)
  obtain ⟨e1, e2, e3, e4⟩ := sf_st a b s.size
  rw [e1, e2] at hsp
  generalize sf a b s.size = f at *
  generalize st a b s.size = t at *
  clear e1 e2
  go_enter Try.func10, Try.ntmps10
  go_wp2_with fail
  refine (hsp _).mono ?_
  rintro e w' ⟨rfl, rfl⟩
  go_wp2
  go_ret
  exact ⟨rfl, rfl⟩
theorem back_text (w : World) (s : ByteArray) :
    (convert 33 9 (.slice (some ⟨w.heap.size, 0, none⟩) s.size (grownCap w s.size 0 5))).run Try.prog (w.drew.alloc (.cells (bytesRow s (grownCap w s.size 0 5)) 5 ((bytesRow s (grownCap w s.size 0 5)).size, (bytesRow s (grownCap w s.size 0 5)).size + 1))) =
      .ok (.string s) (w.drew.alloc (.cells (bytesRow s (grownCap w s.size 0 5)) 5 ((bytesRow s (grownCap w s.size 0 5)).size, (bytesRow s (grownCap w s.size 0 5)).size + 1))) := by
  have h := Br.text w.drew s (grownCap w s.size 0 5) (grownCap_ge w s.size 0 5) 0 (grownCap_ge w s.size 0 5)
  rw [List.replicate_zero, List.append_nil] at h
  have e := h.back (grownCap w s.size 0 5)
  rw [show s.data.toList.length = s.size from Array.length_toList] at e
  exact e
set_option maxHeartbeats 400000 in
theorem slice_any (s : ByteArray) (a b : Int) (w : World) (h1 : -9223372036854775808 ≤ a) (h2 : a ≤ 9223372036854775807) (h3 : -9223372036854775808 ≤ b) (h4 : b ≤ 9223372036854775807) (hs : s.size ≤ maxLen) :
    Calls Try.prog 5 #[.string s, .int .i64 a, .int .i64 b] w fun e w' => e = .returned (.string (s.extract (sf a b s.size) (st a b s.size))) ∧ Below w.heap.size w w' := by
  have hst := fun w => stretch_any s a b w h1 h2 h3 h4 hs
  obtain ⟨x, hx⟩ : ∃ x, x = s.extract (sf a b s.size) (st a b s.size) := ⟨_, rfl⟩
  rw [← hx] at hst ⊢
  clear hx hs
  have r1 := run_bytes_of_string (P := Try.prog) w 9 33 5 x Try.underlying9 Try.underlying33 Try.underlying5
  have r2 := back_text w x
  have hB : Below w.heap.size w (w.drew.alloc (.cells (bytesRow x (grownCap w x.size 0 5)) 5 ((bytesRow x (grownCap w x.size 0 5)).size, (bytesRow x (grownCap w x.size 0 5)).size + 1))) := ((Below.refl w.heap.size w).drew).alloc (by exact Nat.le_refl _) _
  generalize w.drew.alloc (.cells (bytesRow x (grownCap w x.size 0 5)) 5 ((bytesRow x (grownCap w x.size 0 5)).size, (bytesRow x (grownCap w x.size 0 5)).size + 1)) = w2 at *
  generalize grownCap w x.size 0 5 = c at *
  have HB := keep hB
  clear hB
  go_enter Try.func5, Try.ntmps5
  go_wp2_with fail
  refine (hst _).mono ?_
  rintro e w' ⟨rfl, rfl⟩
  go_wp2
  go_ret
  exact ⟨rfl, HB.out⟩
set_option maxHeartbeats 400000 in
theorem filled_any (s : ByteArray) (n : Nat) (w : World) (hs : s.size ≤ 1048576) (hn : n ≤ 1048577) :
    Calls Try.prog 11 #[.string s, .int .i64 n] w fun e w' => (∃ b c, e = .returned (.slice (some ⟨b, 0, none⟩) (max s.size n) c) ∧ w.heap.size ≤ b ∧ Br w' b (Pt.fill s.data.toList n) ∧ max s.size n ≤ c) ∧ Below w.heap.size w w' := by
  have r1 := run_bytes_of_string (P := Try.prog) w 9 33 5 s Try.underlying9 Try.underlying33 Try.underlying5
  have e : s.data.toList.length = s.size := Array.length_toList
  by_cases g : n ≤ s.size
  · have hB : Kept (Below w.heap.size w (w.drew.alloc (.cells (bytesRow s (grownCap w s.size 0 5)) 5 ((bytesRow s (grownCap w s.size 0 5)).size, (bytesRow s (grownCap w s.size 0 5)).size + 1)))) := ((Below.refl w.heap.size w).drew).alloc (by exact Nat.le_refl _) _
    have h := Br.text w.drew s (grownCap w s.size 0 5) (grownCap_ge w s.size 0 5) 0 (grownCap_ge w s.size 0 5)
    have H : Kept (Br (w.drew.alloc (.cells (bytesRow s (grownCap w s.size 0 5)) 5 ((bytesRow s (grownCap w s.size 0 5)).size, (bytesRow s (grownCap w s.size 0 5)).size + 1))) w.heap.size (Pt.fill s.data.toList n)) := by
      unfold Pt.fill
      rw [e, show n - s.size = 0 by omega]
      exact h
    have hc := grownCap_ge w s.size 0 5
    generalize w.drew.alloc (.cells (bytesRow s (grownCap w s.size 0 5)) 5 ((bytesRow s (grownCap w s.size 0 5)).size, (bytesRow s (grownCap w s.size 0 5)).size + 1)) = w1 at *
    generalize grownCap w s.size 0 5 = c1 at *
    rw [show max s.size n = s.size by omega]
    clear h
    clear e
    by_cases g' : n = s.size
    · subst g'
      go_enter Try.func11, Try.ntmps11
      go_wp2
      go_ret
      exact ⟨⟨_, _, rfl, Nat.le_refl _, H.out, hc⟩, hB.out⟩
    · have g2 : ¬ (0 ≤ (n : Int) - (s.size : Int)) := by omega
      go_enter Try.func11, Try.ntmps11
      go_wp2
      go_ret
      exact ⟨⟨_, _, rfl, Nat.le_refl _, H.out, hc⟩, hB.out⟩
  · obtain ⟨m, hm⟩ : ∃ m, m = n - s.size := ⟨_, rfl⟩
    obtain ⟨b, c, w2, r2, r3, r4, r5, r6⟩ := zeros_run w s m 33 (by omega)
    rw [show s.size + m = max s.size n by omega] at r2 r6
    rw [hm, ← e] at r4
    have R4 : Kept (Br w2 b (Pt.fill s.data.toList n)) := r4
    have R5 := keep r5
    have R3 := keep r3
    have R6 := keep r6
    clear r3 r4 r5 r6 e
    generalize w.drew.alloc (.cells (bytesRow s (grownCap w s.size 0 5)) 5 ((bytesRow s (grownCap w s.size 0 5)).size, (bytesRow s (grownCap w s.size 0 5)).size + 1)) = w1 at *
    generalize grownCap w s.size 0 5 = c1 at *
    rw [show (m : Int) = (n : Int) - (s.size : Int) by omega] at r2
    clear hm
    have hx : 0 ≤ (n : Int) - (s.size : Int) := by omega
    go_enter Try.func11, Try.ntmps11
    have R2 := keep r2
    clear r2
    go_wp2_with (first | (at_builtin; refine wpList_app_run rfl _ _ _ _ rfl _ _ _ rfl rfl R2.out ?_))
    go_ret
    exact ⟨⟨b, c, rfl, R3.out, R4.out, R6.out⟩, R5.out⟩
def ovl (s : ByteArray) (a : Int) (v : ByteArray) : ByteArray × Int :=
  if a < 0 then (.empty, 3) else if v.size = 0 then (s, 0) else if 1048576 < s.size ∨ 1048576 < a.toNat + v.size then (.empty, 2) else (⟨(Pt.over s.data.toList a.toNat v.data.toList).toArray⟩, 0)
theorem ret_se {a b : ByteArray} {c d : Int} {k : IntKind} (h : a = b) (g : c = d) : Ending.returned (.tuple #[.string a, .int k c]) = .returned (.tuple #[.string b, .int k d]) := by rw [h, g]
theorem empty_of {v : ByteArray} (h : v.size = 0) : v = .empty := by
  obtain ⟨⟨l⟩⟩ := v
  cases l with
  | nil => rfl
  | cons x l => simp [ByteArray.size] at h
theorem len_is (v : ByteArray) : v.data.toList.length = v.size := Array.length_toList
theorem empty_eq (v : ByteArray) : v.toList.isEmpty = decide (v.size = 0) := by
  rw [ByteArray.toList_eq, ← len_is v]
  cases v.data.toList <;> simp
set_option maxHeartbeats 1000000 in
theorem overlay_any (s : ByteArray) (a : Int) (v : ByteArray) (w : World) (h1 : -9223372036854775808 ≤ a) (h2 : a ≤ 9223372036854775807) (hs : s.size ≤ maxLen) (hv : v.size ≤ maxLen) :
    Calls Try.prog 6 #[.string s, .int .i64 a, .string v] w fun e w' => e = .returned (.tuple #[.string (ovl s a v).1, .int .i64 (ovl s a v).2]) ∧ Below w.heap.size w w' := by
  have hem := empty_eq v
  unfold maxLen at hs hv
  have hB := Below.refl w.heap.size w
  unfold ovl
  by_cases c1 : a < 0
  · rw [if_pos c1]
    go_enter Try.func6, Try.ntmps6
    go_wp2
    go_ret2
    exact ⟨rfl, hB⟩
  · rw [if_neg c1]
    by_cases c2 : v.size = 0
    · rw [if_pos c2]
      rw [decide_eq_true c2] at hem
      go_enter Try.func6, Try.ntmps6
      go_wp2
      go_ret2
      exact ⟨rfl, hB⟩
    · rw [if_neg c2]
      rw [decide_eq_false c2] at hem
      obtain ⟨p, rfl⟩ : ∃ p : Nat, a = (p : Int) := ⟨a.toNat, by omega⟩
      rw [Int.toNat_natCast]
      by_cases c3 : 1048576 < s.size ∨ 1048576 < p + v.size
      · rw [if_pos c3]
        have hB := keep hB
        rcases c3 with c3 | c3
        · have d3 : decide ((1048576 : Int) < (s.size : Int)) = true := decide_eq_true (by omega)
          go_enter Try.func6, Try.ntmps6
          go_wp2
          go_ret2
          exact ⟨rfl, hB.out⟩
        · by_cases c4 : 1048576 < s.size
          · go_enter Try.func6, Try.ntmps6
            go_wp2
            go_ret2
            exact ⟨rfl, hB.out⟩
          · go_enter Try.func6, Try.ntmps6
            go_wp2
            go_ret2
            exact ⟨rfl, hB.out⟩
      · rw [if_neg c3]
        have d3 : ¬ (1048576 < s.size) := by omega
        obtain ⟨n, hn⟩ : ∃ n, n = p + v.size := ⟨_, rfl⟩
        have d4 : n ≤ 1048576 := by omega
        have d5 : (p : Int) + (v.size : Int) = (n : Int) := by omega
        have F := keep fun w => filled_any s n w (by omega) (by omega)
        have HN := keep hn
        clear c3 hB hn
        go_enter Try.func6, Try.ntmps6
        go_wp2_with fail
        refine (F.out _).mono ?_
        rintro e w1 ⟨⟨b, c, rfl, hb, hr, hc⟩, hB⟩
        obtain ⟨M, hM⟩ : ∃ M, M = max s.size n := ⟨_, rfl⟩
        have lf : (Pt.fill s.data.toList n).length = M := by rw [Pt.fill_len, len_is, hM]
        have hC := hr.copy p (c - p) 3 v (by rw [lf]; have := HN.out; omega)
        rw [lf] at hC
        have hR := hr.cells v.data.toList p
        have e1 : lay (Pt.fill s.data.toList n) p v.data.toList = Pt.over s.data.toList p v.data.toList := by
          have := lay_over s.data.toList p v.data.toList
          rw [len_is, ← HN.out] at this
          exact this
        rw [e1] at hR
        have hK := hR.back c
        rw [Pt.over_len, len_is, len_is, ← HN.out, ← hM] at hK
        rw [← hM] at hc ⊢
        have hB2 := keep (setCells_below hb (bcells v.data.toList) p w1 hB)
        have i1 : p ≤ M := by have := HN.out; omega
        have i2 : ¬ c = p := by have := HN.out; omega
        clear hr lf hR e1 hM
        generalize w1.setCells b p (bcells v.data.toList) = w2 at *
        clear hB
        go_wp2
        go_ret2
        exact ⟨rfl, hB2.out⟩
def bitV (s : ByteArray) (i : Int) : Int × Int := if i < 0 ∨ 1073741824 ≤ i then (0, 3) else ((Pt.bt s.data.toList i.toNat : Nat), 0)
theorem bit_and : ∀ (c : Fin 256) (sh : Fin 8), bits .and .i64 (wrap64 ((c.val : Int) / 2 ^ sh.val)) 1 = ((c.val / 2 ^ sh.val % 2 : Nat) : Int) := by decide +kernel
set_option maxHeartbeats 400000 in
theorem bit_any (s : ByteArray) (i : Int) (w : World) (hs : s.size ≤ reachBytes) (h1 : -9223372036854775808 ≤ i) (h2 : i ≤ 9223372036854775807) :
    Calls Try.prog 7 #[.string s, .int .i64 i] w fun e w' => e = .returned (.tuple #[.int .i64 (bitV s i).1, .int .i64 (bitV s i).2]) ∧ w' = w := by
  unfold reachBytes at hs
  unfold bitV
  by_cases c : i < 0 ∨ 1073741824 ≤ i
  · rw [if_pos c]
    rcases c with c | c
    · go_enter Try.func7, Try.ntmps7
      go_wp2
      go_ret2
      exact ⟨rfl, rfl⟩
    · have c0 : ¬ i < 0 := by omega
      go_enter Try.func7, Try.ntmps7
      go_wp2
      go_ret2
      exact ⟨rfl, rfl⟩
  · rw [if_neg c]
    have c0 : ¬ i < 0 := by omega
    have c1 : ¬ 1073741824 ≤ i := by omega
    clear c h1 h2
    obtain ⟨p, rfl⟩ : ∃ p : Nat, i = (p : Int) := ⟨i.toNat, by omega⟩
    rw [Int.toNat_natCast]
    have P := keep fun w => place_any p w (by omega)
    have hz : p / 8 < s.size ∨ ¬ p / 8 < s.size := by omega
    unfold Pt.bt
    obtain ⟨q, hq⟩ : ∃ q, q = p / 8 := ⟨_, rfl⟩
    obtain ⟨r, hr⟩ : ∃ r, r = 7 - p % 8 := ⟨_, rfl⟩
    have hr8 : r < 8 := by omega
    rw [← hq, ← hr] at P ⊢
    rw [← hq] at hz
    clear hq hr
    rcases hz with hz | hz
    · have hg : s.data.toList.getD q 0 = s[q] := by
        rw [List.getD_eq_getElem?_getD, List.getElem?_eq_getElem (by rw [len_is]; exact hz)]
        simp
        rfl
      rw [hg]
      have hb := bit_and ⟨s[q].toNat, UInt8.toNat_lt _⟩ ⟨r, hr8⟩
      simp only at hb
      have hz1 : (q : Int) < (s.size : Int) := by omega
      have hz0 : (0 : Int) ≤ (q : Int) := by omega
      clear hg
      go_enter Try.func7, Try.ntmps7
      go_wp2_with fail
      refine (P.out _).mono ?_
      rintro e w' ⟨rfl, rfl⟩
      clear c0 c1
      go_wp2
      go_ret2
      exact ⟨ret_sp (by push_cast; rfl) rfl, rfl⟩
    · have hg : s.data.toList.getD q 0 = 0 := by
        rw [List.getD_eq_getElem?_getD, List.getElem?_eq_none (by rw [len_is]; omega)]
        rfl
      rw [hg]
      go_enter Try.func7, Try.ntmps7
      go_wp2_with fail
      refine (P.out _).mono ?_
      rintro e w' ⟨rfl, rfl⟩
      clear hg
      have hz2 : (s.size : Int) ≤ (q : Int) := by omega
      clear hz c0 c1
      go_wp2
      go_ret2
      exact ⟨ret_sp (by simp) rfl, rfl⟩
def setV (s : ByteArray) (i b : Int) : ByteArray × Int × Int :=
  if i < 0 ∨ 1073741824 ≤ i ∨ b < 0 ∨ 1 < b then (.empty, 0, 3) else if 1048576 < s.size ∨ 8388608 ≤ i then (.empty, 0, 2) else (⟨(Pt.setb s.data.toList i.toNat b.toNat).toArray⟩, (Pt.bt s.data.toList i.toNat : Nat), 0)
theorem bit_off : ∀ (c : Fin 256) (r : Fin 8), bits .andNot .u8 (c.val : Int) (2 ^ r.val % 256) = (Pt.pb c.val r.val 0 : Nat) ∧ bits .or .u8 (Pt.pb c.val r.val 0 : Nat) 0 = (Pt.pb c.val r.val 0 : Nat) ∧ bits .or .u8 (Pt.pb c.val r.val 0 : Nat) (2 ^ r.val % 256) = (Pt.pb c.val r.val 1 : Nat) := by decide +kernel
theorem bit_bytes (z : UInt8) (r : Nat) (hr : r < 8) : ∃ x y : UInt8, bits .andNot .u8 (z.toNat : Int) (2 ^ r % 256) = (x.toNat : Int) ∧ bits .or .u8 (x.toNat : Int) 0 = (x.toNat : Int) ∧ bits .or .u8 (x.toNat : Int) (2 ^ r % 256) = (y.toNat : Int) ∧ x = UInt8.ofNat (Pt.pb z.toNat r 0) ∧ y = UInt8.ofNat (Pt.pb z.toNat r 1) := by
  obtain ⟨h1, h2, h3⟩ := bit_off ⟨z.toNat, z.toNat_lt⟩ ⟨r, hr⟩
  have g0 := (Pt.pb_small ⟨z.toNat, z.toNat_lt⟩ ⟨r, hr⟩ ⟨0, by omega⟩).1
  have g1 := (Pt.pb_small ⟨z.toNat, z.toNat_lt⟩ ⟨r, hr⟩ ⟨1, by omega⟩).1
  simp only at h1 h2 h3 g0 g1
  refine ⟨_, _, ?_, ?_, ?_, rfl, rfl⟩
  · rw [Pt.ofNat_toNat g0]; exact h1
  · rw [Pt.ofNat_toNat g0]; exact h2
  · rw [Pt.ofNat_toNat g0, Pt.ofNat_toNat g1]; exact h3
set_option maxHeartbeats 1000000 in
theorem set_go (s : ByteArray) (p n : Nat) (w : World) (hs : s.size ≤ 1048576) (hp : p < 8388608) (hn : n = 0 ∨ n = 1)
    (BT : ∀ w, Calls Try.prog 7 #[.string s, .int .i64 p] w fun e w' => e = .returned (.tuple #[.int .i64 (Pt.bt s.data.toList p : Nat), .int .i64 0]) ∧ w' = w) :
    Calls Try.prog 8 #[.string s, .int .i64 p, .int .i64 n] w fun e w' => e = .returned (.tuple #[.string ⟨(Pt.setb s.data.toList p n).toArray⟩, .int .i64 (Pt.bt s.data.toList p : Nat), .int .i64 0]) ∧ Below w.heap.size w w' := by
  have P := keep fun w => place_any p w (by omega)
  have F := keep fun w => filled_any s (p / 8 + 1) w hs (by omega)
  have B := keep BT
  have lf := Pt.fill_len s.data.toList (p / 8 + 1)
  have gf := Pt.fill_at s.data.toList (p / 8 + 1) (p / 8)
  have sl := Pt.setb_len s.data.toList p n
  obtain ⟨S, hS⟩ : ∃ S, S = Pt.setb s.data.toList p n := ⟨_, rfl⟩
  have hS' := hS
  unfold Pt.setb at hS'
  rw [← hS] at sl ⊢
  generalize Pt.bt s.data.toList p = bv at *
  clear BT hS
  obtain ⟨q, hq⟩ : ∃ q, q = p / 8 := ⟨_, rfl⟩
  obtain ⟨r, hr⟩ : ∃ r, r = 7 - p % 8 := ⟨_, rfl⟩
  have hr8 : r < 8 := by omega
  rw [← hq] at P F lf gf sl hS'
  rw [← hr] at P hS'
  have hq2 : q < 1048576 := by omega
  clear hq hr
  rw [len_is] at lf sl
  have hcz : (Pt.fill s.data.toList (q + 1))[q]? = some (s.data.toList.getD q 0) := by
    rw [List.getD_eq_getElem?_getD, List.getElem?_eq_getElem (by omega)] at gf
    rw [List.getElem?_eq_getElem (by omega)]
    simpa using gf
  generalize s.data.toList.getD q 0 = z at *
  generalize Pt.fill s.data.toList (q + 1) = L at *
  have FF : Kept (∀ w, Calls Try.prog 11 #[.string s, .int .i64 ((q : Int) + 1)] w fun e w' => (∃ b c, e = .returned (.slice (some ⟨b, 0, none⟩) (max s.size (q + 1)) c) ∧ w.heap.size ≤ b ∧ Br w' b L ∧ max s.size (q + 1) ≤ c) ∧ Below w.heap.size w w') := F
  generalize hM : max s.size (q + 1) = M at *
  have hqM : q < M := by omega
  clear F hM gf
  obtain ⟨x, y, a1, a2, a3, ex, ey⟩ := bit_bytes z r hr8
  have EX := keep ex
  have EY := keep ey
  clear ex ey
  rcases hn with rfl | rfl
  · go_enter Try.func8, Try.ntmps8
    go_wp2_with fail
    refine (B.out _).mono ?_
    rintro e w' ⟨rfl, rfl⟩
    go_wp2_with fail
    refine (P.out _).mono ?_
    rintro e w' ⟨rfl, rfl⟩
    go_wp2_with fail
    refine (FF.out _).mono ?_
    rintro e w1 ⟨⟨b, c, rfl, hb, hR, hc⟩, hB⟩
    obtain ⟨k1, k2⟩ := hR.2 q (by omega)
    have k3 : L[q] = z := Option.some.inj ((List.getElem?_eq_getElem (by omega)).symm.trans hcz)
    rw [k3] at k1
    have i1 : (q : Int) < (M : Int) := by omega
    have i0 : (0 : Int) ≤ (q : Int) := by omega
    have RR : Kept (Br ((w1.setCell ⟨b, q, none⟩ (.int .u8 x.toNat)).setCell ⟨b, q, none⟩ (.int .u8 x.toNat)) b S) := by
      have := (hR.set q x).set q x
      rw [List.set_set] at this
      rw [hS', ← EX.out]
      exact this
    have BB := keep (((hB.setCell (p := ⟨b, q, none⟩) hb (.int .u8 x.toNat))).setCell (p := ⟨b, q, none⟩) hb (.int .u8 x.toNat))
    have K2 : (w1.setCell ⟨b, q, none⟩ (.int .u8 x.toNat)).frozen? ⟨b, q, none⟩ = false := by rw [World.frozen?_setCell]; exact k2
    have K1 : (w1.setCell ⟨b, q, none⟩ (.int .u8 x.toNat)).cell? ⟨b, q, none⟩ = some (.int .u8 x.toNat) := World.cell?_setCell_same _ _ _ k1
    clear hR hB hc hb k3 hcz hS'
    go_wp2_with fail
    go_region
    go_wp2_with fail
    go_region
    have kb := RR.out.drew.drew.back c
    rw [sl] at kb
    go_wp2
    go_ret3
    exact ⟨rfl, BB.out.drew.drew⟩
  · go_enter Try.func8, Try.ntmps8
    go_wp2_with fail
    refine (B.out _).mono ?_
    rintro e w' ⟨rfl, rfl⟩
    go_wp2_with fail
    refine (P.out _).mono ?_
    rintro e w' ⟨rfl, rfl⟩
    go_wp2_with fail
    refine (FF.out _).mono ?_
    rintro e w1 ⟨⟨b, c, rfl, hb, hR, hc⟩, hB⟩
    obtain ⟨k1, k2⟩ := hR.2 q (by omega)
    have k3 : L[q] = z := Option.some.inj ((List.getElem?_eq_getElem (by omega)).symm.trans hcz)
    rw [k3] at k1
    have i1 : (q : Int) < (M : Int) := by omega
    have i0 : (0 : Int) ≤ (q : Int) := by omega
    have RR : Kept (Br ((w1.setCell ⟨b, q, none⟩ (.int .u8 x.toNat)).setCell ⟨b, q, none⟩ (.int .u8 y.toNat)) b S) := by
      have := (hR.set q x).set q y
      rw [List.set_set] at this
      rw [hS', ← EY.out]
      exact this
    have BB := keep (((hB.setCell (p := ⟨b, q, none⟩) hb (.int .u8 x.toNat))).setCell (p := ⟨b, q, none⟩) hb (.int .u8 y.toNat))
    have K2 : (w1.setCell ⟨b, q, none⟩ (.int .u8 x.toNat)).frozen? ⟨b, q, none⟩ = false := by rw [World.frozen?_setCell]; exact k2
    have K1 : (w1.setCell ⟨b, q, none⟩ (.int .u8 x.toNat)).cell? ⟨b, q, none⟩ = some (.int .u8 x.toNat) := World.cell?_setCell_same _ _ _ k1
    clear hR hB hc hb k3 hcz hS'
    go_wp2_with fail
    go_region
    go_wp2_with fail
    go_region
    have kb := RR.out.drew.drew.back c
    rw [sl] at kb
    go_wp2
    go_ret3
    exact ⟨rfl, BB.out.drew.drew⟩
set_option maxHeartbeats 1000000 in
theorem setbit_any (s : ByteArray) (i b : Int) (w : World) (hs : s.size ≤ reachBytes) (h1 : -9223372036854775808 ≤ i) (h2 : i ≤ 9223372036854775807) :
    Calls Try.prog 8 #[.string s, .int .i64 i, .int .i64 b] w fun e w' => e = .returned (.tuple #[.string (setV s i b).1, .int .i64 (setV s i b).2.1, .int .i64 (setV s i b).2.2]) ∧ Below w.heap.size w w' := by
  have BT := keep fun w => bit_any s i w hs h1 h2
  have hB := keep (Below.refl w.heap.size w)
  unfold setV
  unfold reachBytes at hs
  unfold bitV at BT
  by_cases c1 : i < 0 ∨ 1073741824 ≤ i
  · rw [if_pos (by omega)]
    rw [if_pos c1] at BT
    clear c1
    go_enter Try.func8, Try.ntmps8
    go_wp2_with fail
    refine (BT.out _).mono ?_
    rintro e w' ⟨rfl, rfl⟩
    go_wp2
    go_ret3
    exact ⟨rfl, hB.out⟩
  · rw [if_neg c1] at BT
    by_cases c2 : b < 0 ∨ 1 < b
    · rw [if_pos (by omega)]
      have d1 : ¬ b = 0 := by omega
      have d2 : ¬ b = 1 := by omega
      have e1 : (b != 0) = true := by simpa using d1
      have e2 : (b != 1) = true := by simpa using d2
      clear c1 c2
      go_enter Try.func8, Try.ntmps8
      go_wp2_with fail
      refine (BT.out _).mono ?_
      rintro e w' ⟨rfl, rfl⟩
      go_wp2
      go_ret3
      exact ⟨rfl, hB.out⟩
    · rw [if_neg (by omega)]
      obtain ⟨p, rfl⟩ : ∃ p : Nat, i = (p : Int) := ⟨i.toNat, by omega⟩
      obtain ⟨n, rfl⟩ : ∃ n : Nat, b = (n : Int) := ⟨b.toNat, by omega⟩
      rw [Int.toNat_natCast] at BT ⊢
      rw [Int.toNat_natCast]
      have hn : n = 0 ∨ n = 1 := by omega
      have e1 : (((n : Int) != 0) && ((n : Int) != 1)) = false := by rcases hn with rfl | rfl <;> rfl
      by_cases c3 : 1048576 < s.size ∨ 8388608 ≤ (p : Int)
      · rw [if_pos c3]
        have d3 : (decide ((1048576 : Int) < (s.size : Int)) || decide (8388608 ≤ (p : Int))) = true := by simp; omega
        clear c1 c2 h1 h2
        rcases hn with rfl | rfl
        · rcases c3 with c3 | c3
          · go_enter Try.func8, Try.ntmps8
            go_wp2_with fail
            refine (BT.out _).mono ?_
            rintro e w' ⟨rfl, rfl⟩
            go_wp2
            go_ret3
            exact ⟨rfl, hB.out⟩
          · by_cases c4 : 1048576 < s.size
            · go_enter Try.func8, Try.ntmps8
              go_wp2_with fail
              refine (BT.out _).mono ?_
              rintro e w' ⟨rfl, rfl⟩
              go_wp2
              go_ret3
              exact ⟨rfl, hB.out⟩
            · go_enter Try.func8, Try.ntmps8
              go_wp2_with fail
              refine (BT.out _).mono ?_
              rintro e w' ⟨rfl, rfl⟩
              go_wp2
              go_ret3
              exact ⟨rfl, hB.out⟩
        · rcases c3 with c3 | c3
          · go_enter Try.func8, Try.ntmps8
            go_wp2_with fail
            refine (BT.out _).mono ?_
            rintro e w' ⟨rfl, rfl⟩
            go_wp2
            go_ret3
            exact ⟨rfl, hB.out⟩
          · by_cases c4 : 1048576 < s.size
            · go_enter Try.func8, Try.ntmps8
              go_wp2_with fail
              refine (BT.out _).mono ?_
              rintro e w' ⟨rfl, rfl⟩
              go_wp2
              go_ret3
              exact ⟨rfl, hB.out⟩
            · go_enter Try.func8, Try.ntmps8
              go_wp2_with fail
              refine (BT.out _).mono ?_
              rintro e w' ⟨rfl, rfl⟩
              go_wp2
              go_ret3
              exact ⟨rfl, hB.out⟩
      · rw [if_neg c3]
        have d3 : s.size ≤ 1048576 := by omega
        have d4 : p < 8388608 := by omega
        exact set_go s p n w d3 d4 hn BT.out
end Go.Proofs.Ytlkplmlhlgnnkab
