/-
  A row of replies that grows: what its cells tell.
-/
import Derived.Test.YtoalnfkjpdgbiaaDoorRpLn
import Derived.Lib.SlBytesConst
import Derived.Great.BuildSlice
/-
  Contracts over this program: a count; bytes.HasPrefix of a line's end; a reply of so many bytes.
-/
namespace Go.Proofs.YtoalnfkjpdgbiaaDoor
open Go.RowKit
set_option linter.unusedVariables false
theorem cnt_ok {s : List UInt8} {m : Nat} (h : Rp.cntF s = .ok m) (w : World) (hs : s.length ≤ maxLen) : m ≤ 16777216 ∧
    Calls Tryd.prog 72 #[.string (Rp.ofL s)] w fun e w' => e = .returned (.tuple #[.int .i64 (m : Int), .int .i64 0]) ∧ w' = w := by
  unfold Rp.cntF at h
  split at h
  · rename_i h1
    split at h
    · rename_i h2
      injection h with h
      have e : ((Pl.iv s).toNat : Int) = Pl.iv s := Int.toNat_of_nonneg h1.2
      rw [← h, e]
      exact ⟨by omega, count_ok (Rp.ofL s) w (by rw [Rp.ofL_size]; exact hs) h1.1 h1.2 h2⟩
    · cases h
  · cases h
theorem cnt_err {s : List UInt8} {c : Int} (h : Rp.cntF s = .error c) (w : World) (hs : s.length ≤ maxLen) : c ≠ 0 ∧
    Calls Tryd.prog 72 #[.string (Rp.ofL s)] w fun e w' => e = .returned (.tuple #[.int .i64 0, .int .i64 c]) ∧ w' = w := by
  unfold Rp.cntF at h
  split at h
  · rename_i h1
    split at h
    · cases h
    · rename_i h2
      injection h with h
      subst h
      exact ⟨by decide, count_long (Rp.ofL s) w (by rw [Rp.ofL_size]; exact hs) h1.1 (by show 16777216 < Pl.iv s; omega)⟩
  · rename_i h1
    injection h with h
    subst h
    exact ⟨by decide, count_bad (Rp.ofL s) w (by rw [Rp.ofL_size]; exact hs) h1⟩
theorem nums_bytes (l : List UInt8) : Lib.bytesOf (l.map fun x => (x.toNat : Int)) = l := by
  induction l with
  | nil => rfl
  | cons x l ih =>
    simp only [List.map_cons, Lib.bytesOf] at ih ⊢
    rw [ih]
    simp
theorem prefix_two (l : List UInt8) : Lib.hasPrefix l [13, 10] = decide (l.take 2 = Rp.crlf) := by
  unfold Lib.hasPrefix Rp.crlf
  match l with
  | [] => rfl
  | [a] => simp [List.isPrefixOf]
  | a :: b :: t =>
    by_cases h1 : a = 13
    · by_cases h2 : b = 10
      · subst h1; subst h2; simp [List.isPrefixOf]
      · have : ¬ 10 = b := fun e => h2 e.symm
        simp [List.isPrefixOf, h2, this]
    · have : ¬ 13 = a := fun e => h1 e.symm
      simp [List.isPrefixOf, h1, this]
theorem pre_any (g o n c b : Nat) (l : List UInt8) (w : World) (hn : l.length = n) (hc : n ≤ c) (hl : ∀ j x, l[j]? = some x → w.cell? ⟨g, o + j, none⟩ = some (.int .u8 (x.toNat : Int))) (h0 : w.cell? ⟨b, 0, none⟩ = some (.int .u8 13)) (h1 : w.cell? ⟨b, 1, none⟩ = some (.int .u8 10)) :
    Calls Tryd.prog 73 #[.slice (some ⟨g, o, none⟩) n c, .slice (some ⟨b, 0, none⟩) 2 2] w fun e w' => e = .returned (.bool (decide (l.take 2 = Rp.crlf))) ∧ w' = w := by
  have := Tryd.bytes_HasPrefix_all (some ⟨g, o, none⟩) (some ⟨b, 0, none⟩) n c 2 2 (l.map fun x => (x.toNat : Int)) [13, 10] w (by simpa using hn) rfl hc
    (fun _ => ⟨g, o, rfl, fun i hi => by
      have hx : l[i]? = some (l[i]'(by omega)) := List.getElem?_eq_getElem _
      rw [hl i _ hx, List.getD_eq_getElem?_getD, List.getElem?_map, hx]
      rfl⟩)
    (fun _ => ⟨b, 0, rfl, fun i hi => by
      match i, hi with
      | 0, _ => exact h0
      | 1, _ => exact h1⟩)
  rw [nums_bytes, show Lib.bytesOf [13, 10] = [13, 10] from rfl, prefix_two] at this
  exact this
/-- the source stays: what stands behind, block p aside -/
theorem Box.gp {w w' : World} {b p : Nat} {a0 a1 a2 a3 : Value} (h : Box w b a0 a1 a2 a3) (g : Gp p w w') (hp : b ≠ p) : Box w' b a0 a1 a2 a3 :=
  (g.block b h.lt (fun e => hp (Option.some.inj e))).trans h
theorem Gp.four {p : Nat} {w w' : World} (h : Gp p w w') {b : Nat} (hb : w.heap.size ≤ b) (b0 b1 b2 b3 : Value) : Gp p w (set4 w' b b0 b1 b2 b3) := by
  have f : Below w.heap.size w' (set4 w' b b0 b1 b2 b3) := Below.four (Below.refl _ _) hb b0 b1 b2 b3
  exact ⟨f.os.trans h.os, f.tape.trans h.tape, f.output.trans h.output, Nat.le_trans h.size f.size, fun k hk hne => (f.block k hk).trans (h.block k hk hne)⟩
theorem So.four {w : World} {p b : Nat} {x : List UInt8} (h : So w p x) (hb : p < b) (b0 b1 b2 b3 : Value) : So (set4 w b b0 b1 b2 b3) p x := by
  have f : Below b w (set4 w b b0 b1 b2 b3) := Below.four (Below.refl _ _) (Nat.le_refl _) b0 b1 b2 b3
  obtain ⟨v, h1, h2⟩ := h
  exact ⟨v, (f.block p hb).trans h1, h2.mono (fun _ h => h) (fun k hk => f.block k (by omega))⟩
theorem bulk_null (w : World) (p : Nat) :
    Calls Tryd.prog 61 #[.pointer (some ⟨p, 0, none⟩), .string (Rp.ofL [45, 49])] w fun e w' => e = .returned (.tuple #[.agg #[.int .i64 5, .string .empty, .int .i64 0, .slice none 0 0], .int .i64 0]) ∧ Below w.heap.size w w' := by
  have hq : ((Rp.ofL [45, 49]).toList == [45, 49]) = true := by rw [ofL_toList]; rfl
  generalize Rp.ofL [45, 49] = s at *
  obtain ⟨W1, hW1⟩ : ∃ x, x = w.alloc (.cells #[.int .i64 0, .string ⟨#[]⟩, .int .i64 0, .slice none 0 0] 25) := ⟨_, rfl⟩
  have x1 : Box W1 w.heap.size (.int .i64 0) (.string ⟨#[]⟩) (.int .i64 0) (.slice none 0 0) := hW1 ▸ Box.new w _ _ _ _
  have B1 := keep (hW1 ▸ (Below.refl _ _).alloc (Nat.le_refl _) _ : Below w.heap.size w W1)
  have NU := keep (null_any W1)
  have X1 := keep x1
  have hW1' := hW1.symm
  clear hW1 x1
  go_enter Tryd.func61, Tryd.ntmps61
  go_wp2_with fail
  refine NU.out.mono ?_
  rintro e w2 ⟨rfl, b2⟩
  have X2 := keep (X1.out.below b2 X1.out.lt)
  have B2 := keep (B1.out.trans (b2.mono B1.out.size))
  obtain ⟨d0, d1, d2, d3⟩ := X2.out.cells
  have f0 := X2.out.free 0
  have f1 := X2.out.free 1
  have f2 := X2.out.free 2
  have f3 := X2.out.free 3
  clear b2 hW1'
  go_wp2
  (try simp only [Exit.inBlock, Exit.then])
  refine bodyPost_ret (res_rp2 rfl _ _ w.heap.size _ _ _ _ rfl (Box.four X2.out _ _ _ _)) rfl ⟨rfl, Below.four B2.out (Nat.le_refl _) _ _ _ _⟩
theorem bulk_err (w : World) (p : Nat) (s : List UInt8) (c : Int) (hs : s.length ≤ maxLen) (h1 : s ≠ [45, 49]) (h2 : Rp.cntF s = .error c) :
    Calls Tryd.prog 61 #[.pointer (some ⟨p, 0, none⟩), .string (Rp.ofL s)] w fun e w' => e = .returned (.tuple #[nought, .int .i64 c]) ∧ Below w.heap.size w w' := by
  have hq : ((Rp.ofL s).toList == [45, 49]) = false := by rw [ofL_toList]; exact beq_eq_false_iff_ne.2 h1
  have CN := keep (fun w => (cnt_err h2 w hs).2)
  have hc : (c != 0) = true := by have := (cnt_err h2 w hs).1; simpa using this
  generalize Rp.ofL s = s' at *
  clear h1 h2 hs
  go_enter Tryd.func61, Tryd.ntmps61
  go_wp2_with fail
  refine (CN.out _).mono ?_
  rintro e w' ⟨rfl, rfl⟩
  go_wp2
  (try simp only [Exit.inBlock, Exit.then])
  refine bodyPost_ret (res_rp2 rfl _ _ _ _ _ _ _ rfl (Box.new _ _ _ _ _)) rfl ⟨rfl, (Below.refl _ _).alloc (Nat.le_refl _) _⟩
end Go.Proofs.YtoalnfkjpdgbiaaDoor

/-
  Contracts over this program: a reply of so many bytes, behind its count.
-/
namespace Go.Proofs.YtoalnfkjpdgbiaaDoor
open Go.RowKit
set_option linter.unusedVariables false
set_option maxHeartbeats 1000000 in
theorem bulk_short (w : World) (p : Nat) (s r : List UInt8) (m : Nat) (h : So w p r) (hs : s.length ≤ maxLen) (h1 : s ≠ [45, 49]) (h2 : Rp.cntF s = .ok m) (h3 : r.length < m + 2) :
    Calls Tryd.prog 61 #[.pointer (some ⟨p, 0, none⟩), .string (Rp.ofL s)] w fun e w' => e = .returned (.tuple #[nought, .int .i64 5]) ∧ Below w.heap.size w w' := by
  have hq : ((Rp.ofL s).toList == [45, 49]) = false := by rw [ofL_toList]; exact beq_eq_false_iff_ne.2 h1
  have CN := keep (fun w => (cnt_ok h2 w hs).2)
  have hm := (cnt_ok h2 w hs).1
  have nw : wrap64 ((m : Int) + 2) = (m : Int) + 2 := by unfold wrap64; omega
  have nw2 : IntKind.i64.wrap ((m : Int) + 2) = (m : Int) + 2 := by rw [IntKind.wrap_i64]; omega
  obtain ⟨W1, hW1⟩ : ∃ x, x = w.alloc (.cells #[.int .i64 0, .string ⟨#[]⟩, .int .i64 0, .slice none 0 0] 25) := ⟨_, rfl⟩
  have x1 : Box W1 w.heap.size (.int .i64 0) (.string ⟨#[]⟩) (.int .i64 0) (.slice none 0 0) := hW1 ▸ Box.new w _ _ _ _
  have b1 : Below w.heap.size w W1 := hW1 ▸ (Below.refl _ _).alloc (Nat.le_refl _) _
  have B1 := keep b1
  have X1 := keep x1
  have c0 : ∃ ao c, W1.cell? ⟨p, 0, none⟩ = some (.slice ao r.length c) := by
    obtain ⟨v, k1, ao, c, rfl, _⟩ := h.later b1
    exact ⟨ao, c, by rw [cell_of_row _ _ _ _ _ _ k1]; rfl⟩
  obtain ⟨ao, c, c0⟩ := c0
  have hlt : decide ((r.length : Int) < (m : Int) + 2) = true := decide_eq_true (by omega)
  have hW1' := hW1.symm
  generalize Rp.ofL s = s' at *
  generalize r.length = n at *
  clear h1 h2 hs h h3 hm hW1 x1 b1
  obtain ⟨d0, d1, d2, d3⟩ := X1.out.cells
  have f0 := X1.out.free 0
  have f1 := X1.out.free 1
  have f2 := X1.out.free 2
  have f3 := X1.out.free 3
  go_enter Tryd.func61, Tryd.ntmps61
  go_wp2_with fail
  refine (CN.out _).mono ?_
  rintro e w' ⟨rfl, rfl⟩
  go_wp2
  (try simp only [Exit.inBlock, Exit.then])
  refine bodyPost_ret (res_rp2 rfl _ _ w.heap.size _ _ _ _ rfl (Box.four X1.out _ _ _ _)) rfl ⟨rfl, Below.four B1.out (Nat.le_refl _) _ _ _ _⟩
/-- what bulk knows once there are bytes enough -/
theorem bulk_pre (w : World) (p : Nat) (s r : List UInt8) (m : Nat) (h : So w p r) (hs : s.length ≤ maxLen) (h1 : s ≠ [45, 49]) (h2 : Rp.cntF s = .ok m) (h3 : m + 2 ≤ r.length) (W1 W2 : World)
    (hW1 : W1 = w.alloc (.cells #[.int .i64 0, .string ⟨#[]⟩, .int .i64 0, .slice none 0 0] 25)) (hW2 : W2 = W1.alloc (.cells #[.int .u8 13, .int .u8 10] 5 (2, 3))) :
    ∃ g o c n, ((Rp.ofL s).toList == [45, 49]) = false ∧ Kept (∀ w, Calls Tryd.prog 72 #[.string (Rp.ofL s)] w fun e w' => e = .returned (.tuple #[.int .i64 (m : Int), .int .i64 0]) ∧ w' = w) ∧
      wrap64 ((m : Int) + 2) = (m : Int) + 2 ∧ IntKind.i64.wrap ((m : Int) + 2) = (m : Int) + 2 ∧ W1.cell? ⟨p, 0, none⟩ = some (.slice (some ⟨g, o, none⟩) n c) ∧ decide ((n : Int) < (m : Int) + 2) = false ∧
      (∀ w, (Instr.slice 29 (.slice (some ⟨g, o, none⟩) n c) (some (.int .i64 (m : Int))) none none).run Tryd.prog w = .ok (.slice (some ⟨g, o + m, none⟩) (n - m) (c - m)) w) ∧
      Kept (Calls Tryd.prog 73 #[.slice (some ⟨g, o + m, none⟩) (n - m) (c - m), .slice (some ⟨W1.heap.size, 0, none⟩) 2 2] W2 fun e w' => e = .returned (.bool (decide ((r.drop m).take 2 = Rp.crlf))) ∧ w' = W2) ∧
      Kept (Below w.heap.size w W2) ∧ Box W2 w.heap.size (.int .i64 0) (.string ⟨#[]⟩) (.int .i64 0) (.slice none 0 0) ∧ Kept (So W2 p r) := by
  have hm := (cnt_ok h2 w hs).1
  have x1 : Box W1 w.heap.size (.int .i64 0) (.string ⟨#[]⟩) (.int .i64 0) (.slice none 0 0) := hW1 ▸ Box.new w _ _ _ _
  have b1 : Below w.heap.size w W1 := hW1 ▸ (Below.refl _ _).alloc (Nat.le_refl _) _
  have b2 : Below W1.heap.size W1 W2 := hW2 ▸ (Below.refl _ _).alloc (Nat.le_refl _) _
  have b12 : Below w.heap.size w W2 := b1.trans (b2.mono b1.size)
  obtain ⟨v, k1, ao, c, rfl, hc, k3⟩ := h.later b1
  obtain ⟨g, o, rfl, hg, hl⟩ := k3.resolve_left (fun e => by rw [e] at h3; simp at h3)
  obtain ⟨i0, hi0, hz0, hz1, hz2⟩ := parts_of info_u8'
  have hlt : p < W1.heap.size := (Array.getElem?_eq_some_iff.1 k1).1
  refine ⟨g, o, c, r.length, by rw [ofL_toList]; exact beq_eq_false_iff_ne.2 h1, keep (fun w => (cnt_ok h2 w hs).2), by unfold wrap64; omega, by rw [IntKind.wrap_i64]; omega, by rw [cell_of_row _ _ _ _ _ _ k1]; rfl, decide_eq_false (by omega),
    fun w => ?_, keep ?_, keep b12, x1.below b2 x1.lt, keep (h.later b12)⟩
  · have := slice_from (P := Tryd.prog) w 29 5 Tryd.underlying29 i0 hi0 hz1 g o r.length c m (by omega) hc
    rw [if_neg (by omega)] at this
    exact this
  · refine pre_any g (o + m) (r.length - m) (c - m) W1.heap.size (r.drop m) W2 (by simp) (by omega) (fun j y hj => ?_) ?_ ?_
    · rw [List.getElem?_drop] at hj
      rw [Nat.add_assoc]
      exact (World.cell?_of_block (b2.block g (by omega))).trans (hl _ _ hj)
    · rw [hW2, cell_of_row _ _ _ _ _ _ (heap_alloc_new _ _)]; rfl
    · rw [hW2, cell_of_row _ _ _ _ _ _ (heap_alloc_new _ _)]; rfl
set_option maxRecDepth 100000 in
set_option maxHeartbeats 1000000 in
theorem bulk_bad (w : World) (p : Nat) (s r : List UInt8) (m : Nat) (h : So w p r) (hs : s.length ≤ maxLen) (h1 : s ≠ [45, 49]) (h2 : Rp.cntF s = .ok m) (h3 : m + 2 ≤ r.length) (h4 : (r.drop m).take 2 ≠ Rp.crlf) :
    Calls Tryd.prog 61 #[.pointer (some ⟨p, 0, none⟩), .string (Rp.ofL s)] w fun e w' => e = .returned (.tuple #[nought, .int .i64 160]) ∧ Below w.heap.size w w' := by
  obtain ⟨W1, hW1⟩ : ∃ x, x = w.alloc (.cells #[.int .i64 0, .string ⟨#[]⟩, .int .i64 0, .slice none 0 0] 25) := ⟨_, rfl⟩
  obtain ⟨W2, hW2⟩ : ∃ x, x = W1.alloc (.cells #[.int .u8 13, .int .u8 10] 5 (2, 3)) := ⟨_, rfl⟩
  obtain ⟨R2, hR2⟩ : ∃ x, x = W1.alloc (.cells #[.int .u8 13, .int .u8 10] 5) := ⟨_, rfl⟩
  have kc := Lib.run_convert_bytes_const (P := Tryd.prog) W1 29 5 #[.int .u8 13, .int .u8 10] 2 2 Tryd.underlying29 Tryd.underlying5
  rw [show ((#[Value.int .u8 13, Value.int .u8 10] : Array Value).size, (#[Value.int .u8 13, Value.int .u8 10] : Array Value).size + 1) = (2, 3) from rfl, ← hR2, ← hW2] at kc
  have hR2' := hR2.symm
  obtain ⟨g, o, c, n, hq, CN, nw, nw2, c0, hlt, sf, PR, B2, x2, S2⟩ := bulk_pre w p s r m h hs h1 h2 h3 W1 W2 hW1 hW2
  rw [decide_eq_false h4] at PR
  have hW1' := hW1.symm
  generalize Rp.ofL s = s' at *
  have X2 := keep x2
  clear h1 h2 hs h h3 h4 hW1 hW2 hR2 x2
  obtain ⟨d0, d1, d2, d3⟩ := X2.out.cells
  have f0 := X2.out.free 0
  have f1 := X2.out.free 1
  have f2 := X2.out.free 2
  have f3 := X2.out.free 3
  go_enter Tryd.func61, Tryd.ntmps61
  go_wp2_with fail
  refine (CN.out _).mono ?_
  rintro e w' ⟨rfl, rfl⟩
  go_wp2_with fail
  refine PR.out.mono ?_
  rintro e w' ⟨rfl, rfl⟩
  go_wp2
  (try simp only [Exit.inBlock, Exit.then])
  refine bodyPost_ret (res_rp2 rfl _ _ w.heap.size _ _ _ _ rfl (Box.four X2.out _ _ _ _)) rfl ⟨rfl, Below.four B2.out (Nat.le_refl _) _ _ _ _⟩
set_option maxRecDepth 100000 in
set_option maxHeartbeats 1000000 in
theorem bulk_ok (w : World) (p : Nat) (s r : List UInt8) (m : Nat) (h : So w p r) (hs : s.length ≤ maxLen) (h1 : s ≠ [45, 49]) (h2 : Rp.cntF s = .ok m) (h3 : m + 2 ≤ r.length) (h4 : (r.drop m).take 2 = Rp.crlf) (hr : r.length ≤ 140737488355328) :
    Calls Tryd.prog 61 #[.pointer (some ⟨p, 0, none⟩), .string (Rp.ofL s)] w fun e w' => e = .returned (.tuple #[.agg #[.int .i64 4, .string (Rp.ofL (r.take m)), .int .i64 0, .slice none 0 0], .int .i64 0]) ∧ So w' p (r.drop (m + 2)) ∧ Gp p w w' := by
  obtain ⟨W1, hW1⟩ : ∃ x, x = w.alloc (.cells #[.int .i64 0, .string ⟨#[]⟩, .int .i64 0, .slice none 0 0] 25) := ⟨_, rfl⟩
  obtain ⟨W2, hW2⟩ : ∃ x, x = W1.alloc (.cells #[.int .u8 13, .int .u8 10] 5 (2, 3)) := ⟨_, rfl⟩
  obtain ⟨R2, hR2⟩ : ∃ x, x = W1.alloc (.cells #[.int .u8 13, .int .u8 10] 5) := ⟨_, rfl⟩
  have kc := Lib.run_convert_bytes_const (P := Tryd.prog) W1 29 5 #[.int .u8 13, .int .u8 10] 2 2 Tryd.underlying29 Tryd.underlying5
  rw [show ((#[Value.int .u8 13, Value.int .u8 10] : Array Value).size, (#[Value.int .u8 13, Value.int .u8 10] : Array Value).size + 1) = (2, 3) from rfl, ← hR2, ← hW2] at kc
  have hR2' := hR2.symm
  have LT := keep h.lt
  obtain ⟨g, o, c, n, hq, CN, nw, nw2, c0, hlt, sf, PR, B2, x2, S2⟩ := bulk_pre w p s r m h hs h1 h2 h3 W1 W2 hW1 hW2
  rw [decide_eq_true h4] at PR
  have TK := keep (take_any W2 p m r S2.out h3 hr)
  have hW1' := hW1.symm
  generalize Rp.ofL s = s' at *
  have X2 := keep x2
  clear h1 h2 hs h h3 h4 hW1 hW2 hR2 x2
  go_enter Tryd.func61, Tryd.ntmps61
  go_wp2_with fail
  refine (CN.out _).mono ?_
  rintro e w' ⟨rfl, rfl⟩
  go_wp2_with fail
  refine PR.out.mono ?_
  rintro e w' ⟨rfl, rfl⟩
  go_wp2_with fail
  refine TK.out.mono ?_
  rintro e w3 ⟨rfl, s3, g3⟩
  clear hW1' hR2' kc c0 TK PR CN
  go_wp2_with fail
  refine (bulk1_any _ w3).mono ?_
  rintro e w4 ⟨rfl, b4⟩
  have X4 := keep ((X2.out.gp g3 (by have := LT.out; omega)).below b4 (Nat.lt_of_lt_of_le X2.out.lt g3.size))
  have S4 := keep (s3.later b4)
  have G4 := keep (((Gp.of B2.out).trans g3).trans (Gp.of b4))
  obtain ⟨d0, d1, d2, d3⟩ := X4.out.cells
  have f0 := X4.out.free 0
  have f1 := X4.out.free 1
  have f2 := X4.out.free 2
  have f3 := X4.out.free 3
  clear s3 g3 b4
  go_wp2
  (try simp only [Exit.inBlock, Exit.then])
  refine bodyPost_ret (res_rp2 rfl _ _ w.heap.size _ _ _ _ rfl (Box.four X4.out _ _ _ _)) rfl ⟨rfl, So.four S4.out LT.out _ _ _ _, Gp.four G4.out (Nat.le_refl _) _ _ _ _⟩
end Go.Proofs.YtoalnfkjpdgbiaaDoor

namespace Go.Proofs.YtoalnfkjpdgbiaaDoor
open Go.RowKit
set_option linter.unusedVariables false
/-- blocks from lo on that are there, the row's own aside -/
abbrev Mine (lo : Nat) (w : World) (v : Value) (b : Nat) : Prop := lo ≤ b ∧ b < w.heap.size ∧ v.ownBlock ≠ some b
/-- a row of one's own that tells replies -/
def Row (lo : Nat) (w : World) (n : Nat) (v : Value) (ts : List (Rp.T n)) : Prop :=
  ∃ xs, w.ownsRow lo 25 4 v ts.length xs ∧ (∀ j t, ts[j]? = some t → Tel (Mine lo w v) w n ((xs.drop (j * 4)).take 4) t) ∧ (ts = [] → v = .slice none 0 0)
theorem Row.nil (lo : Nat) (w : World) (n : Nat) : Row lo w n (.slice none 0 0) [] := ⟨[], World.ownsRow_nil _ _ _ _, fun j t h => by simp at h, fun _ => rfl⟩
theorem Row.own {lo : Nat} {w : World} {n : Nat} {v : Value} {ts : List (Rp.T n)} (h : Row lo w n v ts) {k : Nat} (hk : v.ownBlock = some k) : lo ≤ k ∧ k < w.heap.size := by
  obtain ⟨xs, h1, _⟩ := h
  exact h1.lt k hk
theorem Row.later {lo : Nat} {w w' : World} {n : Nat} {v : Value} {ts : List (Rp.T n)} (h : Row lo w n v ts) (hz : w.heap.size ≤ w'.heap.size) (hb : ∀ b, lo ≤ b → b < w.heap.size → w'.heap[b]? = w.heap[b]?) : Row lo w' n v ts := by
  obtain ⟨xs, h1, h2, h9⟩ := h
  exact ⟨xs, own_kept h1 (fun k hk => hb k (h1.lt k hk).1 (h1.lt k hk).2), fun j t ht => Tel.mono (fun b g => ⟨g.1, Nat.lt_of_lt_of_le g.2.1 hz, g.2.2⟩) (fun b g => hb b g.1 g.2.1) n _ _ (h2 j t ht), h9⟩
theorem Row.form {lo : Nat} {w : World} {n : Nat} {v : Value} {ts : List (Rp.T n)} (h : Row lo w n v ts) : ∃ ao c, v = .slice ao ts.length c := by
  obtain ⟨xs, h1, _⟩ := h
  rcases h1.2 with ⟨rfl, e⟩ | ⟨g, cap, cur, rfl, _⟩
  · rw [e]; exact ⟨_, _, rfl⟩
  · exact ⟨_, _, rfl⟩
theorem info_rp : (Tryd.prog.info? 25).map (fun i => (i.zero, i.size, i.bytes)) = some (some (.agg #[.int .i64 0, .string ⟨#[]⟩, .int .i64 0, .slice none 0 0]), 4, 56) := by kernel_rfl
theorem one_of {P : Nat → Prop} {w : World} {n : Nat} {cs : List Value} {r : Rp.T n} (h : Tel P w n cs r) : ∀ u ∈ cs, u.oneCell' = true := by
  obtain ⟨k, s, i, ao, m, c, rfl, _⟩ := h.six
  intro u hu
  simp at hu
  rcases hu with rfl | rfl | rfl | rfl <;> rfl
/-- one reply more, behind a row of them -/
theorem row_app {lo : Nat} {w : World} {n : Nat} {v : Value} {ts : List (Rp.T n)} (h : Row lo w n v ts) {c0 c1 c2 c3 : Value} {t : Rp.T n} (ht : Tel (Mine lo w v) w n [c0, c1, c2, c3] t) (hl : ts.length + 1 ≤ 1000000000) (hlo : lo ≤ w.heap.size) (ty : TypeId) :
    ∃ v' w', (Builtin.append_ #[23, 23] ty #[v, .slice (some ⟨w.heap.size, 0, none⟩) 1 1]).run Tryd.prog (w.alloc (.cells #[c0, c1, c2, c3] 25)) = .ok v' w' ∧ Row lo w' n v' (ts ++ [t]) ∧ Gr v v' w w' := by
  obtain ⟨i0, hi0, hz0, hz1, hz2⟩ := parts_of info_rp
  have hb3 : Below w.heap.size w (w.alloc (.cells #[c0, c1, c2, c3] 25)) := (Below.refl _ w).alloc (Nat.le_refl _) _
  have hsz : (w.alloc (.cells #[c0, c1, c2, c3] 25)).heap.size = w.heap.size + 1 := by show (w.heap.push _).size = _; simp
  have hR := h
  obtain ⟨xs, h1, h2, _⟩ := h
  have h1' := own_kept h1 (w' := w.alloc (.cells #[c0, c1, c2, c3] 25)) (fun k hk => hb3.block k (h1.lt k hk).2)
  have ho := one_of ht
  obtain ⟨v', w', r1, r2, r3, r4, _⟩ := app_gen (w.alloc (.cells #[c0, c1, c2, c3] 25)) lo 23 23 ty 25 i0 _ 4 56 Tryd.underlying23 hi0 hz0 hz1 hz2 rfl (by decide) v ts.length _ h1' _ 1 [c0, c1, c2, c3] (Src.ofSlice _ Tryd.underlying23 ⟨w.heap.size, 0, none⟩ 1 1 [c0, c1, c2, c3] rfl (fun j x hx => by
    rw [add_at, cell_of_row _ _ _ _ _ _ (heap_alloc_new _ _), Nat.zero_add]
    simpa using hx) (fun u hu => ho u hu)) (by unfold maxLen; omega) (by omega) (by omega)
  have G1 : Gr v v' (w.alloc (.cells #[c0, c1, c2, c3] 25)) w' := ⟨r3, fun k hk => by
    rcases r4 with e | e
    · exact .inl (e ▸ hk)
    · rw [e] at hk; cases hk; exact .inr (Nat.le_refl _)⟩
  have G : Gr v v' w w' := Gr.ahead hb3 G1 (fun k hk => (h1.lt k hk).2)
  have keepT : ∀ cs r, Tel (Mine lo w v) w n cs r → Tel (Mine lo w' v') w' n cs r := fun cs r hT =>
    Tel.mono (fun b g => ⟨g.1, (G.far ⟨g.2.1, g.2.2⟩).1, (G.far ⟨g.2.1, g.2.2⟩).2⟩) (fun b g => G.same ⟨g.2.1, g.2.2⟩) n cs r hT
  have hxl : xs.length = ts.length * 4 := h1.1
  refine ⟨v', w', r1, ⟨xs ++ [c0, c1, c2, c3], by rw [List.length_append]; exact r2, fun j u hu => ?_, fun e => by simp at e⟩, G⟩
  by_cases hj : j < ts.length
  · rw [List.getElem?_append_left hj] at hu
    rw [List.drop_append_of_le_length (by omega), List.take_append_of_le_length (by rw [List.length_drop]; omega)]
    exact keepT _ _ (h2 j u hu)
  · have hj2 : j = ts.length := by
      have := (List.getElem?_eq_some_iff.1 hu).1
      rw [List.length_append, List.length_singleton] at this
      omega
    subst hj2
    rw [List.getElem?_append_right (Nat.le_refl _), Nat.sub_self] at hu
    obtain rfl : t = u := by simpa using hu
    rw [← hxl, List.drop_left]
    exact keepT _ _ ht
/-- a row as a list in the memory -/
theorem Row.lst {lo : Nat} {w : World} {n : Nat} {v : Value} {ts : List (Rp.T n)} (h : Row lo w n v ts) : Lst (fun b => lo ≤ b ∧ b < w.heap.size) w (Tel (fun b => lo ≤ b ∧ b < w.heap.size) w n) v ts := by
  obtain ⟨xs, h1, h2, h9⟩ := h
  have hlt := h1.lt
  rcases h1.2 with ⟨rfl, e⟩ | ⟨g, cap, cur, rfl, hg, h3, h4, h5, h6, h7⟩
  · exact .inl ⟨List.length_eq_zero_iff.1 e, _, rfl⟩
  · by_cases e : ts = []
    · exact absurd (h9 e) (by intro q; cases q)
    · refine .inr ⟨g, cap, cur, rfl, e, hlt g rfl, h3, h4, h5, h6, fun j t ht => ?_⟩
      have := h2 j t ht
      rw [← h7] at this
      have hj := (List.getElem?_eq_some_iff.1 ht).1
      rw [List.drop_take, List.take_take, show min 4 (ts.length * 4 - j * 4) = 4 by omega] at this
      exact Tel.mono (fun b g => ⟨g.1, g.2.1⟩) (fun b g => rfl) n _ _ this
end Go.Proofs.YtoalnfkjpdgbiaaDoor
