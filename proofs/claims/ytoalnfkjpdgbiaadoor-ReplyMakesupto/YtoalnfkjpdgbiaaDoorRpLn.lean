/-
  Contracts over this program: the line ahead in a source.
-/
import Derived.Test.YtoalnfkjpdgbiaaDoorRpKind
/-
  Contracts over this program: numbers of a line; the line ahead.
-/
namespace Go.Proofs.YtoalnfkjpdgbiaaDoor
open Go.RowKit
set_option linter.unusedVariables false
theorem ofL_toList (l : List UInt8) : (Rp.ofL l).toList = l := Lib.toList_data _
/-- the reply that is none -/
abbrev nought : Value := .agg #[.int .i64 0, .string ⟨#[]⟩, .int .i64 0, .slice none 0 0]
theorem Box.free {w : World} {b : Nat} {a0 a1 a2 a3 : Value} (h : Box w b a0 a1 a2 a3) (i : Nat) : w.frozen? ⟨b, i, none⟩ = false := by
  unfold Box at h
  simp [World.frozen?, h]
theorem cell_set {w : World} {b : Nat} {cur : Array Value} {t : TypeId} {fr : Nat × Nat} (h : w.heap[b]? = some (.cells cur t fr)) (i : Nat) (v : Value) :
    (w.setCell ⟨b, i, none⟩ v).heap[b]? = some (.cells (cur.setIfInBounds i v) t fr) := by
  simp only [World.setCell, Array.getElem?_modify]
  simp [h]
/-- four cells stored -/
abbrev set4 (w : World) (b : Nat) (a0 a1 a2 a3 : Value) : World := (((w.setCell ⟨b, 0, none⟩ a0).setCell ⟨b, 1, none⟩ a1).setCell ⟨b, 2, none⟩ a2).setCell ⟨b, 3, none⟩ a3
theorem Box.four {w : World} {b : Nat} {a0 a1 a2 a3 : Value} (h : Box w b a0 a1 a2 a3) (b0 b1 b2 b3 : Value) : Box (set4 w b b0 b1 b2 b3) b b0 b1 b2 b3 := by
  exact cell_set (cell_set (cell_set (cell_set h 0 b0) 1 b1) 2 b2) 3 b3
theorem Below.four {B : Nat} {w w' : World} (h : Below B w w') {b : Nat} (hb : B ≤ b) (b0 b1 b2 b3 : Value) : Below B w (set4 w' b b0 b1 b2 b3) :=
  (((h.setCell (p := ⟨b, 0, none⟩) hb _).setCell (p := ⟨b, 1, none⟩) hb _).setCell (p := ⟨b, 2, none⟩) hb _).setCell (p := ⟨b, 3, none⟩) hb _
theorem ofInt_ok (s : ByteArray) (w : World) (hs : s.size ≤ maxLen) (h : Pl.ic s.data.toList = 0) :
    Calls Tryd.prog 60 #[.string s] w fun e w' => e = .returned (.tuple #[.agg #[.int .i64 3, .string .empty, .int .i64 (Pl.iv s.data.toList), .slice none 0 0], .int .i64 0]) ∧ Below w.heap.size w w' := by
  have IA := keep (fun w => int_any s w hs)
  rw [h] at IA
  generalize Pl.iv s.data.toList = n at *
  clear hs h
  go_enter Tryd.func60, Tryd.ntmps60
  go_wp2_with fail
  refine (IA.out _).mono ?_
  rintro e w' ⟨rfl, rfl⟩
  go_wp2_with fail
  refine (int1_any n _).mono ?_
  rintro e w2 ⟨rfl, b2⟩
  have B2 := keep b2
  have hx := keep (Box.below (Box.new w (.int .i64 0) (.string .empty) (.int .i64 0) (.slice none 0 0)) b2 (by show _ < (w.heap.push _).size; simp))
  have B1 := keep ((Below.refl w.heap.size w).alloc (Nat.le_refl _) (.cells #[.int .i64 0, .string .empty, .int .i64 0, .slice none 0 0] 25))
  obtain ⟨d0, d1, d2, d3⟩ := hx.out.cells
  have f0 := hx.out.free 0
  have f1 := hx.out.free 1
  have f2 := hx.out.free 2
  have f3 := hx.out.free 3
  clear b2
  go_wp2
  (try simp only [Exit.inBlock, Exit.then])
  refine bodyPost_ret (res_rp2 rfl _ _ w.heap.size _ _ _ _ rfl (Box.four hx.out _ _ _ _)) rfl ⟨rfl, Below.four (B1.out.trans (B2.out.mono B1.out.size)) (Nat.le_refl _) _ _ _ _⟩
end Go.Proofs.YtoalnfkjpdgbiaaDoor

/-
  Contracts over this program: counts; the line ahead.
-/
namespace Go.Proofs.YtoalnfkjpdgbiaaDoor
open Go.RowKit
set_option linter.unusedVariables false
theorem ofInt_bad (s : ByteArray) (w : World) (hs : s.size ≤ maxLen) (h : Pl.ic s.data.toList ≠ 0) :
    Calls Tryd.prog 60 #[.string s] w fun e w' => e = .returned (.tuple #[nought, .int .i64 160]) ∧ Below w.heap.size w w' := by
  have IA := keep (fun w => int_any s w hs)
  have hq : (Pl.ic s.data.toList != 0) = true := by simpa using h
  generalize Pl.iv s.data.toList = n at *
  generalize Pl.ic s.data.toList = c at *
  clear hs h
  go_enter Tryd.func60, Tryd.ntmps60
  go_wp2_with fail
  refine (IA.out _).mono ?_
  rintro e w' ⟨rfl, rfl⟩
  go_wp2
  (try simp only [Exit.inBlock, Exit.then])
  refine bodyPost_ret (res_rp2 rfl _ _ _ _ _ _ _ rfl (Box.new _ _ _ _ _)) rfl ⟨rfl, (Below.refl _ _).alloc (Nat.le_refl _) _⟩
theorem count_bad (s : ByteArray) (w : World) (hs : s.size ≤ maxLen) (h : ¬ (Pl.ic s.data.toList = 0 ∧ 0 ≤ Pl.iv s.data.toList)) :
    Calls Tryd.prog 72 #[.string s] w fun e w' => e = .returned (.tuple #[.int .i64 0, .int .i64 160]) ∧ w' = w := by
  have IA := keep (fun w => int_any s w hs)
  generalize Pl.iv s.data.toList = n at *
  generalize Pl.ic s.data.toList = c at *
  by_cases hc : c = 0
  · have hn : n < 0 := by omega
    subst hc
    clear hs h
    go_enter Tryd.func72, Tryd.ntmps72
    go_wp2_with fail
    refine (IA.out _).mono ?_
    rintro e w' ⟨rfl, rfl⟩
    go_wp2
    go_ret2
    exact ⟨rfl, rfl⟩
  · have hq : (c != 0) = true := by simpa using hc
    clear hs h hc
    go_enter Tryd.func72, Tryd.ntmps72
    go_wp2_with fail
    refine (IA.out _).mono ?_
    rintro e w' ⟨rfl, rfl⟩
    go_wp2
    go_ret2
    exact ⟨rfl, rfl⟩
theorem count_long (s : ByteArray) (w : World) (hs : s.size ≤ maxLen) (h : Pl.ic s.data.toList = 0) (h2 : 16777216 < Pl.iv s.data.toList) :
    Calls Tryd.prog 72 #[.string s] w fun e w' => e = .returned (.tuple #[.int .i64 0, .int .i64 2]) ∧ w' = w := by
  have IA := keep (fun w => int_any s w hs)
  rw [h] at IA
  generalize Pl.iv s.data.toList = n at *
  have hn : ¬ n < 0 := by omega
  clear hs h
  go_enter Tryd.func72, Tryd.ntmps72
  go_wp2_with fail
  refine (IA.out _).mono ?_
  rintro e w' ⟨rfl, rfl⟩
  go_wp2
  go_ret2
  exact ⟨rfl, rfl⟩
theorem count_ok (s : ByteArray) (w : World) (hs : s.size ≤ maxLen) (h : Pl.ic s.data.toList = 0) (h1 : 0 ≤ Pl.iv s.data.toList) (h2 : Pl.iv s.data.toList ≤ 16777216) :
    Calls Tryd.prog 72 #[.string s] w fun e w' => e = .returned (.tuple #[.int .i64 (Pl.iv s.data.toList), .int .i64 0]) ∧ w' = w := by
  have IA := keep (fun w => int_any s w hs)
  rw [h] at IA
  generalize Pl.iv s.data.toList = n at *
  have hn : ¬ n < 0 := by omega
  have hn2 : ¬ 16777216 < n := by omega
  clear hs h
  go_enter Tryd.func72, Tryd.ntmps72
  go_wp2_with fail
  refine (IA.out _).mono ?_
  rintro e w' ⟨rfl, rfl⟩
  go_wp2
  go_ret2
  exact ⟨rfl, rfl⟩
/-- what lineF tells, by the place of the first CR or LF -/
theorem lineF_none : ∀ (l : List UInt8), Lib.indexAny l crs = -1 → Rp.lineF l = .error 5
  | [], _ => rfl
  | c :: r, h => by
    unfold Lib.indexAny at h
    cases hc : crs.contains c with
    | true => rw [hc] at h; simp at h
    | false =>
      rw [hc] at h
      have hr : Lib.indexAny r crs = -1 := by
        have hge := Lib.indexAny_ge crs r
        simp only [Bool.false_eq_true, if_false] at h
        by_cases e : Lib.indexAny r crs = -1
        · exact e
        · rw [if_neg (by simpa using e)] at h; omega
      have ih := lineF_none r hr
      have h1 : c ≠ 10 := fun e => by subst e; cases hc
      have h2 : c ≠ 13 := fun e => by subst e; cases hc
      unfold Rp.lineF
      rw [if_neg h1, if_neg h2, ih]
theorem lineF_hit : ∀ (l : List UInt8) (k : Nat), Lib.indexAny l crs = k → k < l.length ∧
    ((l.drop k).take 2 = [13, 10] → Rp.lineF l = .ok (l.take k, l.drop (k + 2))) ∧
    ((l.drop k).take 2 = [13] → Rp.lineF l = .error 5) ∧
    ((l.drop k).take 2 ≠ [13, 10] → (l.drop k).take 2 ≠ [13] → Rp.lineF l = .error 160)
  | [], k, h => by
    have : (Lib.indexAny [] crs) = -1 := rfl
    omega
  | c :: r, k, h => by
    unfold Lib.indexAny at h
    cases hc : crs.contains c with
    | true =>
      rw [hc] at h
      simp only [if_true] at h
      have hk : k = 0 := by omega
      subst hk
      refine ⟨by simp, ?_, ?_, ?_⟩
      · intro h2
        match r, h2 with
        | d :: r', h2 =>
          simp at h2
          obtain ⟨rfl, rfl⟩ := h2
          simp [Rp.lineF]
        | [], h2 => simp at h2
      · intro h2
        match r, h2 with
        | [], h2 =>
          simp at h2
          subst h2
          simp [Rp.lineF]
        | d :: r', h2 => simp at h2
      · intro h2 h3
        by_cases h10 : c = 10
        · subst h10; simp [Rp.lineF]
        · have h13 : c = 13 := by
            have : c = 13 ∨ c = 10 := by simpa [crs] using hc
            exact this.resolve_right h10
          subst h13
          match r, h2, h3 with
          | [], h2, h3 => simp at h3
          | d :: r', h2, h3 =>
            have hd : d ≠ 10 := fun e => by subst e; simp at h2
            simp [Rp.lineF, hd]
    | false =>
      rw [hc] at h
      have hge := Lib.indexAny_ge crs r
      simp only [Bool.false_eq_true, if_false] at h
      by_cases e : Lib.indexAny r crs = -1
      · rw [if_pos (by simpa using e)] at h; omega
      · rw [if_neg (by simpa using e)] at h
        obtain ⟨j, rfl⟩ : ∃ j, k = j + 1 := ⟨k - 1, by omega⟩
        obtain ⟨i1, i2, i3, i4⟩ := lineF_hit r j (by omega)
        have h1 : c ≠ 10 := fun e => by subst e; cases hc
        have h2 : c ≠ 13 := fun e => by subst e; cases hc
        refine ⟨by simp; omega, ?_, ?_, ?_⟩
        · intro g
          have := i2 (by simpa using g)
          unfold Rp.lineF
          rw [if_neg h1, if_neg h2, this]
          simp
        · intro g
          have := i3 (by simpa using g)
          unfold Rp.lineF
          rw [if_neg h1, if_neg h2, this]
        · intro g g'
          have := i4 (by simpa using g) (by simpa using g')
          unfold Rp.lineF
          rw [if_neg h1, if_neg h2, this]
end Go.Proofs.YtoalnfkjpdgbiaaDoor

namespace Go.Proofs.YtoalnfkjpdgbiaaDoor
open Go.RowKit
set_option linter.unusedVariables false
theorem slice_mid {P : Program} (w : World) (t e : TypeId) (ht : P.underlying t = some (.slice e)) (i : TypeInfo) (hi : P.info? e = some i) (h1 : i.size = 1) (g o n c a b : Nat) (ha : a < b) (hb : b ≤ n) (hn : n ≤ c) :
    (Instr.slice t (.slice (some ⟨g, o, none⟩) n c) (some (.int .i64 (a : Int))) (some (.int .i64 (b : Int))) none).run P w = .ok (.slice (some ⟨g, o + a, none⟩) (b - a) (c - a)) w := by
  have hz : (Go.sizeOf e).run P w = .ok 1 w := by simp [Go.sizeOf, typeInfo, hi, h1]
  have hq : ∀ (x y : Nat) code, x ≤ y → (Instr.sliceBound (.int .i64 (x : Int)) y code).run P w = .ok x w := fun x y code hxy => by
    have := run_sliceBound (P := P) (w := w) .i64 (x : Int) y code (by omega) (by omega)
    simpa using this
  simp (disch := omega) only [Instr.slice, Instr.sliceBounds, run_underlying ht, Sem.run_bind, Sem.run_pure, Result.andThen_ok, hq, hz]
  rw [if_neg (by omega)]
  simp only [Option.map_some, add_at, Nat.mul_one]
theorem line_none (w : World) (p : Nat) (x : List UInt8) (h : So w p x) (hv : Vars w) (hm : x.length ≤ 140737488355328) (hi : Lib.indexAny x crs = -1) :
    Calls Tryd.prog 59 #[.pointer (some ⟨p, 0, none⟩)] w fun e w' => e = .returned (.tuple #[.string .empty, .int .i64 5]) ∧ Below w.heap.size w w' := by
  obtain ⟨v, h1, h2⟩ := h
  have IA := keep (bidx_any w h2 hv hm)
  rw [hi] at IA
  obtain ⟨ao, c, rfl, hc, h3⟩ := h2
  have c0 : w.cell? ⟨p, 0, none⟩ = some (.slice ao x.length c) := by rw [cell_of_row _ _ _ _ _ _ h1]; rfl
  generalize x.length = n at *
  clear h1 h3 hc hi hm hv
  go_enter Tryd.func59, Tryd.ntmps59
  go_wp2_with fail
  refine IA.out.mono ?_
  rintro e w' ⟨rfl, b1⟩
  have B1 := keep b1
  clear b1
  go_wp2
  go_ret2
  exact ⟨rfl, B1.out⟩
theorem line_pre (w : World) (p : Nat) (x : List UInt8) (k : Nat) (h : So w p x) (hv : Vars w) (hm : x.length < 140737488355328) (hi : Lib.indexAny x crs = k) :
    ∃ g o c n MI B L, w.cell? ⟨p, 0, none⟩ = some (.slice (some ⟨g, o, none⟩) n c) ∧
      Kept (Calls Tryd.prog 69 #[.slice (some ⟨g, o, none⟩) n c, .string ⟨#[13, 10]⟩] w fun e w' => e = .returned (.int .i64 k) ∧ Below w.heap.size w w') ∧
      ¬ ((k : Int) < 0) ∧ wrap64 ((k : Int) + 2) = (k : Int) + 2 ∧ IntKind.i64.wrap ((k : Int) + 2) = (k : Int) + 2 ∧ min ((k : Int) + 2) (n : Int) = MI ∧
      (∀ w, (Instr.slice 29 (.slice (some ⟨g, o, none⟩) n c) (some (.int .i64 (k : Int))) (some (.int .i64 MI)) none).run Tryd.prog w = .ok (.slice (some ⟨g, o + k, none⟩) L (c - k)) w) ∧
      Kept (∀ w', Below w.heap.size w w' → w'.cell? ⟨p, 0, none⟩ = some (.slice (some ⟨g, o, none⟩) n c) ∧ (convert 29 9 (.slice (some ⟨g, o + k, none⟩) L (c - k))).run Tryd.prog w' = .ok (.string B) w') ∧
      B.toList = (x.drop k).take 2 := by
  have hlt := h.lt
  have hk := (lineF_hit x k hi).1
  have h' := h
  obtain ⟨v, h1, h2⟩ := h'
  have IA := keep (bidx_any w h2 hv (Nat.le_of_lt hm))
  rw [hi] at IA
  obtain ⟨ao, c, rfl, hc, h3⟩ := h2
  obtain ⟨g, o, rfl, hg, hl⟩ := h3.resolve_left (fun e => by rw [e] at hk; simp at hk)
  obtain ⟨i0, hi0, hz0, hz1, hz2⟩ := parts_of info_u8'
  obtain ⟨M, hM⟩ : ∃ M, M = min (k + 2) x.length := ⟨_, rfl⟩
  have c0 : w.cell? ⟨p, 0, none⟩ = some (.slice (some ⟨g, o, none⟩) x.length c) := by rw [cell_of_row _ _ _ _ _ _ h1]; rfl
  refine ⟨g, o, c, x.length, (M : Int), Rp.ofL ((x.drop k).take (M - k)), M - k, c0, IA, by omega, by unfold wrap64; omega, by rw [IntKind.wrap_i64]; omega, by omega,
    fun w => slice_mid w 29 5 Tryd.underlying29 i0 hi0 hz1 g o x.length c k M (by omega) (by omega) hc, keep (fun w' hb => ⟨?_, ?_⟩), ?_⟩
  · exact (World.cell?_of_block (hb.block p hlt)).trans c0
  · refine bytes_text (by simp; omega) (fun j y hj => ?_)
    rw [List.getElem?_drop] at hj
    rw [Nat.add_assoc]
    exact (World.cell?_of_block (hb.block g (by omega))).trans (hl _ _ hj)
  · rw [ofL_toList]
    by_cases e : k + 2 ≤ x.length
    · rw [show M - k = 2 by omega]
    · rw [List.take_of_length_le (by simp; omega), List.take_of_length_le (by simp; omega)]
set_option maxRecDepth 100000 in
set_option maxHeartbeats 1000000 in
theorem line_ok (w : World) (p : Nat) (x : List UInt8) (k : Nat) (h : So w p x) (hv : Vars w) (hm : x.length < 140737488355328) (hi : Lib.indexAny x crs = k) (hq : (x.drop k).take 2 = [13, 10]) :
    Calls Tryd.prog 59 #[.pointer (some ⟨p, 0, none⟩)] w fun e w' => e = .returned (.tuple #[.string (Rp.ofL (x.take k)), .int .i64 0]) ∧ So w' p (x.drop (k + 2)) ∧ Gp p w w' := by
  have hk2 : k + 2 ≤ x.length := by
    have := congrArg List.length hq
    simp at this
    omega
  have SO := keep h
  have TK := keep (fun w h => take_any w p k x h hk2 (Nat.le_of_lt hm))
  clear hk2
  obtain ⟨g, o, c, n, MI, B, L, c0, IA, hne, nw, nw2, mn, sm, ST, qB⟩ := line_pre w p x k h hv hm hi
  have q1 : (B.toList == [13, 10]) = true := by rw [qB]; rw [hq]; rfl
  clear h hv hm hi hq qB
  go_enter Tryd.func59, Tryd.ntmps59
  go_wp2_with fail
  refine IA.out.mono ?_
  rintro e w' ⟨rfl, b1⟩
  have B1 := keep b1
  clear c0
  obtain ⟨c0, cv⟩ := ST.out w' b1
  clear b1
  go_wp2_with fail
  refine (TK.out _ (SO.out.later B1.out)).mono ?_
  rintro e w2 ⟨rfl, s2, g2⟩
  have S2 := keep s2
  have G2 := keep ((Gp.of B1.out).trans g2)
  clear s2 g2 TK
  go_wp2
  go_ret2
  exact ⟨rfl, S2.out, G2.out⟩
set_option maxRecDepth 100000 in
set_option maxHeartbeats 1000000 in
theorem line_short (w : World) (p : Nat) (x : List UInt8) (k : Nat) (h : So w p x) (hv : Vars w) (hm : x.length < 140737488355328) (hi : Lib.indexAny x crs = k) (hq : (x.drop k).take 2 = [13]) :
    Calls Tryd.prog 59 #[.pointer (some ⟨p, 0, none⟩)] w fun e w' => e = .returned (.tuple #[.string .empty, .int .i64 5]) ∧ Below w.heap.size w w' := by
  obtain ⟨g, o, c, n, MI, B, L, c0, IA, hne, nw, nw2, mn, sm, ST, qB⟩ := line_pre w p x k h hv hm hi
  have q1 : (B.toList == [13, 10]) = false := by rw [qB]; first | exact beq_eq_false_iff_ne.2 hq | (rw [hq]; rfl)
  have q2 : (B.toList == [13]) = true := by rw [qB]; rw [hq]; rfl
  clear h hv hm hi hq qB
  go_enter Tryd.func59, Tryd.ntmps59
  go_wp2_with fail
  refine IA.out.mono ?_
  rintro e w' ⟨rfl, b1⟩
  have B1 := keep b1
  clear c0
  obtain ⟨c0, cv⟩ := ST.out w' b1
  clear b1
  go_wp2
  go_ret2
  exact ⟨rfl, B1.out⟩
set_option maxRecDepth 100000 in
set_option maxHeartbeats 1000000 in
theorem line_bad (w : World) (p : Nat) (x : List UInt8) (k : Nat) (h : So w p x) (hv : Vars w) (hm : x.length < 140737488355328) (hi : Lib.indexAny x crs = k) (hq : (x.drop k).take 2 ≠ [13, 10]) (hq2 : (x.drop k).take 2 ≠ [13]) :
    Calls Tryd.prog 59 #[.pointer (some ⟨p, 0, none⟩)] w fun e w' => e = .returned (.tuple #[.string .empty, .int .i64 160]) ∧ Below w.heap.size w w' := by
  obtain ⟨g, o, c, n, MI, B, L, c0, IA, hne, nw, nw2, mn, sm, ST, qB⟩ := line_pre w p x k h hv hm hi
  have q1 : (B.toList == [13, 10]) = false := by rw [qB]; first | exact beq_eq_false_iff_ne.2 hq | (rw [hq]; rfl)
  have q2 : (B.toList == [13]) = false := by rw [qB]; exact beq_eq_false_iff_ne.2 hq2
  clear h hv hm hi hq qB hq2
  go_enter Tryd.func59, Tryd.ntmps59
  go_wp2_with fail
  refine IA.out.mono ?_
  rintro e w' ⟨rfl, b1⟩
  have B1 := keep b1
  clear c0
  obtain ⟨c0, cv⟩ := ST.out w' b1
  clear b1
  go_wp2
  go_ret2
  exact ⟨rfl, B1.out⟩
end Go.Proofs.YtoalnfkjpdgbiaaDoor
