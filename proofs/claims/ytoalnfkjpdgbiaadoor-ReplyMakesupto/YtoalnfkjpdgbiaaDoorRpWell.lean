/-
  Contracts over this program: wellMade of any reply.
-/
import Derived.Test.YtoalnfkjpdgbiaaDoorRpAny
import Derived.Test.YtoalnfkjpdgbiaaDoorRpHead
import Derived.BigQuiet
import Derived.Deep.QuietTactic
namespace Go.Proofs.YtoalnfkjpdgbiaaDoor
open Go.RowKit
set_option linter.unusedVariables false
theorem box_drew (w : World) (n : Nat) (a0 a1 a2 a3 : Value) : ∃ W, W = (w.alloc (.cells #[a0, a1, a2, a3] 25)).drewN n ∧ Box W w.heap.size a0 a1 a2 a3 ∧ Below w.heap.size w W :=
  ⟨_, rfl, by have := Box.new w a0 a1 a2 a3; simpa [Box] using this, ((Below.refl _ _).alloc (Nat.le_refl _) _).trans ((below_drewN _ _).mono (by show _ ≤ (w.heap.push _).size; simp))⟩

set_option maxRecDepth 100000 in
set_option maxHeartbeats 2000000 in
theorem well_1 (s : ByteArray) (i : Int) (ao : Option Addr) (m cp : Nat) (w : World) (hs : s.size < 4294967281) (a b c : Bool) (ha : s.toList.isEmpty = a) (hb : (i == 0) = b) (hc : ((m : Int) == 0) = c) :
    Calls Tryd.prog 53 #[.agg #[.int .i64 1, .string s, .int .i64 i, .slice ao m cp]] w fun e w' => e = .returned (.bool (b && c && Rp.clean (Rp.bytesOf s))) ∧ Below w.heap.size w w' := by
  have HA := keep ha
  have HB := keep hb
  have HC := keep hc
  have CA := keep (fun w => contains_any s w hs)
  clear ha hb hc
  go_enter Tryd.func53, Tryd.ntmps53
  go_wp2
  go_quiet (fail)
  rw [HA.out, HB.out, HC.out]
  obtain ⟨W, hW, x1, b1⟩ := box_drew w nq (.int .i64 1) (.string s) (.int .i64 i) (.slice ao m cp)
  rw [← hW]
  obtain ⟨d0, d1, d2, d3⟩ := x1.cells
  have B1 := keep b1
  clear hW x1 b1 HA HB HC
  cases b <;> cases c
  · go_wp2
    go_ret
    exact ⟨rfl, B1.out⟩
  · go_wp2
    go_ret
    exact ⟨rfl, B1.out⟩
  · go_wp2
    go_ret
    exact ⟨rfl, B1.out⟩
  · go_wp2_with fail
    refine (CA.out _).mono ?_
    rintro e w2 ⟨rfl, b2⟩
    have B2 := keep (B1.out.trans (b2.mono B1.out.size))
    clear b2
    cases hq : Rp.clean (Rp.bytesOf s)
    · have HQ := keep hq
      clear hq
      go_wp2
      go_ret
      exact ⟨by rw [HQ.out]; rfl, B2.out⟩
    · have HQ := keep hq
      clear hq
      go_wp2
      go_ret
      exact ⟨by rw [HQ.out]; rfl, B2.out⟩

set_option maxRecDepth 100000 in
set_option maxHeartbeats 2000000 in
theorem well_2 (s : ByteArray) (i : Int) (ao : Option Addr) (m cp : Nat) (w : World) (hs : s.size < 4294967281) (a b c : Bool) (ha : s.toList.isEmpty = a) (hb : (i == 0) = b) (hc : ((m : Int) == 0) = c) :
    Calls Tryd.prog 53 #[.agg #[.int .i64 2, .string s, .int .i64 i, .slice ao m cp]] w fun e w' => e = .returned (.bool (b && c && Rp.clean (Rp.bytesOf s))) ∧ Below w.heap.size w w' := by
  have HA := keep ha
  have HB := keep hb
  have HC := keep hc
  have CA := keep (fun w => contains_any s w hs)
  clear ha hb hc
  go_enter Tryd.func53, Tryd.ntmps53
  go_wp2
  go_quiet (fail)
  rw [HA.out, HB.out, HC.out]
  obtain ⟨W, hW, x1, b1⟩ := box_drew w nq (.int .i64 2) (.string s) (.int .i64 i) (.slice ao m cp)
  rw [← hW]
  obtain ⟨d0, d1, d2, d3⟩ := x1.cells
  have B1 := keep b1
  clear hW x1 b1 HA HB HC
  cases b <;> cases c
  · go_wp2
    go_ret
    exact ⟨rfl, B1.out⟩
  · go_wp2
    go_ret
    exact ⟨rfl, B1.out⟩
  · go_wp2
    go_ret
    exact ⟨rfl, B1.out⟩
  · go_wp2_with fail
    refine (CA.out _).mono ?_
    rintro e w2 ⟨rfl, b2⟩
    have B2 := keep (B1.out.trans (b2.mono B1.out.size))
    clear b2
    cases hq : Rp.clean (Rp.bytesOf s)
    · have HQ := keep hq
      clear hq
      go_wp2
      go_ret
      exact ⟨by rw [HQ.out]; rfl, B2.out⟩
    · have HQ := keep hq
      clear hq
      go_wp2
      go_ret
      exact ⟨by rw [HQ.out]; rfl, B2.out⟩

set_option maxRecDepth 100000 in
set_option maxHeartbeats 2000000 in
theorem well_3 (s : ByteArray) (i : Int) (ao : Option Addr) (m cp : Nat) (w : World) (hs : s.size < 4294967281) (a b c : Bool) (ha : s.toList.isEmpty = a) (hb : (i == 0) = b) (hc : ((m : Int) == 0) = c) :
    Calls Tryd.prog 53 #[.agg #[.int .i64 3, .string s, .int .i64 i, .slice ao m cp]] w fun e w' => e = .returned (.bool (a && c)) ∧ Below w.heap.size w w' := by
  have HA := keep ha
  have HB := keep hb
  have HC := keep hc
  have CA := keep (fun w => contains_any s w hs)
  clear ha hb hc
  go_enter Tryd.func53, Tryd.ntmps53
  go_wp2
  go_quiet (fail)
  rw [HA.out, HB.out, HC.out]
  obtain ⟨W, hW, x1, b1⟩ := box_drew w nq (.int .i64 3) (.string s) (.int .i64 i) (.slice ao m cp)
  rw [← hW]
  obtain ⟨d0, d1, d2, d3⟩ := x1.cells
  have B1 := keep b1
  clear hW x1 b1 HA HB HC
  cases a <;> cases c
  · go_wp2
    go_ret
    exact ⟨rfl, B1.out⟩
  · go_wp2
    go_ret
    exact ⟨rfl, B1.out⟩
  · go_wp2
    go_ret
    exact ⟨rfl, B1.out⟩
  · go_wp2
    go_ret
    exact ⟨rfl, B1.out⟩

set_option maxRecDepth 100000 in
set_option maxHeartbeats 2000000 in
theorem well_4 (s : ByteArray) (i : Int) (ao : Option Addr) (m cp : Nat) (w : World) (hs : s.size < 4294967281) (a b c : Bool) (ha : s.toList.isEmpty = a) (hb : (i == 0) = b) (hc : ((m : Int) == 0) = c) :
    Calls Tryd.prog 53 #[.agg #[.int .i64 4, .string s, .int .i64 i, .slice ao m cp]] w fun e w' => e = .returned (.bool (b && c)) ∧ Below w.heap.size w w' := by
  have HA := keep ha
  have HB := keep hb
  have HC := keep hc
  have CA := keep (fun w => contains_any s w hs)
  clear ha hb hc
  go_enter Tryd.func53, Tryd.ntmps53
  go_wp2
  go_quiet (fail)
  rw [HA.out, HB.out, HC.out]
  obtain ⟨W, hW, x1, b1⟩ := box_drew w nq (.int .i64 4) (.string s) (.int .i64 i) (.slice ao m cp)
  rw [← hW]
  obtain ⟨d0, d1, d2, d3⟩ := x1.cells
  have B1 := keep b1
  clear hW x1 b1 HA HB HC
  cases b <;> cases c
  · go_wp2
    go_ret
    exact ⟨rfl, B1.out⟩
  · go_wp2
    go_ret
    exact ⟨rfl, B1.out⟩
  · go_wp2
    go_ret
    exact ⟨rfl, B1.out⟩
  · go_wp2
    go_ret
    exact ⟨rfl, B1.out⟩

set_option maxRecDepth 100000 in
set_option maxHeartbeats 2000000 in
theorem well_5 (s : ByteArray) (i : Int) (ao : Option Addr) (m cp : Nat) (w : World) (hs : s.size < 4294967281) (a b c : Bool) (ha : s.toList.isEmpty = a) (hb : (i == 0) = b) (hc : ((m : Int) == 0) = c) :
    Calls Tryd.prog 53 #[.agg #[.int .i64 5, .string s, .int .i64 i, .slice ao m cp]] w fun e w' => e = .returned (.bool (a && b && c)) ∧ Below w.heap.size w w' := by
  have HA := keep ha
  have HB := keep hb
  have HC := keep hc
  have CA := keep (fun w => contains_any s w hs)
  clear ha hb hc
  go_enter Tryd.func53, Tryd.ntmps53
  go_wp2
  go_quiet (fail)
  rw [HA.out, HB.out, HC.out]
  obtain ⟨W, hW, x1, b1⟩ := box_drew w nq (.int .i64 5) (.string s) (.int .i64 i) (.slice ao m cp)
  rw [← hW]
  obtain ⟨d0, d1, d2, d3⟩ := x1.cells
  have B1 := keep b1
  clear hW x1 b1 HA HB HC
  cases a <;> cases b <;> cases c
  · go_wp2
    go_ret
    exact ⟨rfl, B1.out⟩
  · go_wp2
    go_ret
    exact ⟨rfl, B1.out⟩
  · go_wp2
    go_ret
    exact ⟨rfl, B1.out⟩
  · go_wp2
    go_ret
    exact ⟨rfl, B1.out⟩
  · go_wp2
    go_ret
    exact ⟨rfl, B1.out⟩
  · go_wp2
    go_ret
    exact ⟨rfl, B1.out⟩
  · go_wp2
    go_ret
    exact ⟨rfl, B1.out⟩
  · go_wp2
    go_ret
    exact ⟨rfl, B1.out⟩

set_option maxRecDepth 100000 in
set_option maxHeartbeats 2000000 in
theorem well_6 (s : ByteArray) (i : Int) (ao : Option Addr) (m cp : Nat) (w : World) (hs : s.size < 4294967281) (a b c : Bool) (ha : s.toList.isEmpty = a) (hb : (i == 0) = b) (hc : ((m : Int) == 0) = c) :
    Calls Tryd.prog 53 #[.agg #[.int .i64 6, .string s, .int .i64 i, .slice ao m cp]] w fun e w' => e = .returned (.bool (a && b)) ∧ Below w.heap.size w w' := by
  have HA := keep ha
  have HB := keep hb
  have HC := keep hc
  have CA := keep (fun w => contains_any s w hs)
  clear ha hb hc
  go_enter Tryd.func53, Tryd.ntmps53
  go_wp2
  go_quiet (fail)
  rw [HA.out, HB.out, HC.out]
  obtain ⟨W, hW, x1, b1⟩ := box_drew w nq (.int .i64 6) (.string s) (.int .i64 i) (.slice ao m cp)
  rw [← hW]
  obtain ⟨d0, d1, d2, d3⟩ := x1.cells
  have B1 := keep b1
  clear hW x1 b1 HA HB HC
  cases a <;> cases b
  · go_wp2
    go_ret
    exact ⟨rfl, B1.out⟩
  · go_wp2
    go_ret
    exact ⟨rfl, B1.out⟩
  · go_wp2
    go_ret
    exact ⟨rfl, B1.out⟩
  · go_wp2
    go_ret
    exact ⟨rfl, B1.out⟩

set_option maxRecDepth 100000 in
set_option maxHeartbeats 2000000 in
theorem well_7 (s : ByteArray) (i : Int) (ao : Option Addr) (m cp : Nat) (w : World) (hs : s.size < 4294967281) (a b c : Bool) (ha : s.toList.isEmpty = a) (hb : (i == 0) = b) (hc : ((m : Int) == 0) = c) :
    Calls Tryd.prog 53 #[.agg #[.int .i64 7, .string s, .int .i64 i, .slice ao m cp]] w fun e w' => e = .returned (.bool (a && b && c)) ∧ Below w.heap.size w w' := by
  have HA := keep ha
  have HB := keep hb
  have HC := keep hc
  have CA := keep (fun w => contains_any s w hs)
  clear ha hb hc
  go_enter Tryd.func53, Tryd.ntmps53
  go_wp2
  go_quiet (fail)
  rw [HA.out, HB.out, HC.out]
  obtain ⟨W, hW, x1, b1⟩ := box_drew w nq (.int .i64 7) (.string s) (.int .i64 i) (.slice ao m cp)
  rw [← hW]
  obtain ⟨d0, d1, d2, d3⟩ := x1.cells
  have B1 := keep b1
  clear hW x1 b1 HA HB HC
  cases a <;> cases b <;> cases c
  · go_wp2
    go_ret
    exact ⟨rfl, B1.out⟩
  · go_wp2
    go_ret
    exact ⟨rfl, B1.out⟩
  · go_wp2
    go_ret
    exact ⟨rfl, B1.out⟩
  · go_wp2
    go_ret
    exact ⟨rfl, B1.out⟩
  · go_wp2
    go_ret
    exact ⟨rfl, B1.out⟩
  · go_wp2
    go_ret
    exact ⟨rfl, B1.out⟩
  · go_wp2
    go_ret
    exact ⟨rfl, B1.out⟩
  · go_wp2
    go_ret
    exact ⟨rfl, B1.out⟩

set_option maxRecDepth 100000 in
set_option maxHeartbeats 2000000 in
theorem well_x (k : Int) (hk : ¬ (1 ≤ k ∧ k ≤ 7)) (s : ByteArray) (i : Int) (ao : Option Addr) (m cp : Nat) (w : World) (hs : s.size < 4294967281) (a b c : Bool) (ha : s.toList.isEmpty = a) (hb : (i == 0) = b) (hc : ((m : Int) == 0) = c) :
    Calls Tryd.prog 53 #[.agg #[.int .i64 k, .string s, .int .i64 i, .slice ao m cp]] w fun e w' => e = .returned (.bool (false)) ∧ Below w.heap.size w w' := by
  have HA := keep ha
  have HB := keep hb
  have HC := keep hc
  have CA := keep (fun w => contains_any s w hs)
  clear ha hb hc
  have n1 : (k == 1) = false := beq_eq_false_iff_ne.2 (by omega)
  have n2 : (k == 2) = false := beq_eq_false_iff_ne.2 (by omega)
  have n3 : (k == 3) = false := beq_eq_false_iff_ne.2 (by omega)
  have n4 : (k == 4) = false := beq_eq_false_iff_ne.2 (by omega)
  have n5 : (k == 5) = false := beq_eq_false_iff_ne.2 (by omega)
  have n6 : (k == 6) = false := beq_eq_false_iff_ne.2 (by omega)
  have n7 : (k == 7) = false := beq_eq_false_iff_ne.2 (by omega)
  clear hk
  go_enter Tryd.func53, Tryd.ntmps53
  go_wp2
  go_quiet (fail)
  rw [HA.out, HB.out, HC.out]
  obtain ⟨W, hW, x1, b1⟩ := box_drew w nq (.int .i64 k) (.string s) (.int .i64 i) (.slice ao m cp)
  rw [← hW]
  obtain ⟨d0, d1, d2, d3⟩ := x1.cells
  have B1 := keep b1
  clear hW x1 b1 HA HB HC
  go_wp2
  go_ret
  exact ⟨rfl, B1.out⟩

theorem isEmpty_size (s : ByteArray) : s.toList.isEmpty = (s.size == 0) := by
  rw [Lib.toList_data]
  have h : s.data.toList.length = s.size := Array.length_toList
  cases hq : s.data.toList with
  | nil => rw [hq] at h; simp at h; simp [← h]
  | cons x l => rw [hq] at h; simp at h; rw [← h]; simp
theorem well_any {α : Type} (k i : Int) (s : ByteArray) (L : List α) (ao : Option Addr) (cp : Nat) (w : World) (hs : s.size < 4294967281) :
    Calls Tryd.prog 53 #[.agg #[.int .i64 k, .string s, .int .i64 i, .slice ao L.length cp]] w fun e w' => e = .returned (.bool (Rp.wellW k s i L)) ∧ Below w.heap.size w w' := by
  have hl : ((L.length : Int) == 0) = L.isEmpty := by cases L <;> simp; omega
  have hz := isEmpty_size s
  unfold Rp.wellW
  by_cases k1 : k = 1
  · subst k1; simpa using well_1 s i ao L.length cp w hs _ _ _ hz rfl hl
  by_cases k2 : k = 2
  · subst k2; simpa using well_2 s i ao L.length cp w hs _ _ _ hz rfl hl
  rw [if_neg (by omega : ¬ (k = 1 ∨ k = 2))]
  by_cases k3 : k = 3
  · subst k3; simpa using well_3 s i ao L.length cp w hs _ _ _ hz rfl hl
  rw [if_neg k3]
  by_cases k4 : k = 4
  · subst k4; simpa using well_4 s i ao L.length cp w hs _ _ _ hz rfl hl
  rw [if_neg k4]
  by_cases k6 : k = 6
  · subst k6; simpa using well_6 s i ao L.length cp w hs _ _ _ hz rfl hl
  rw [if_neg k6]
  by_cases k5 : k = 5
  · subst k5; simpa using well_5 s i ao L.length cp w hs _ _ _ hz rfl hl
  by_cases k7 : k = 7
  · subst k7; simpa using well_7 s i ao L.length cp w hs _ _ _ hz rfl hl
  rw [if_neg (by omega : ¬ (k = 5 ∨ k = 7))]
  exact well_x k (by omega) s i ao L.length cp w hs _ _ _ hz rfl hl
end Go.Proofs.YtoalnfkjpdgbiaaDoor
