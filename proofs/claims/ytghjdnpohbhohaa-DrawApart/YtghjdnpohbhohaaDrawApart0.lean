/-
  The walk of DrawApart: another seed, another hash; another byte, another hash.
-/
import Derived.Test.YtghjdnpohbhohaaDrawWakes
import Derived.Laws.IdiomStrings
import Derived.Laws.BitsAllLaws
namespace Go.Proofs.Ytghjdnpohbhohaa
open Go.RowKit
namespace Dw
/-- the text with its byte at k turned -/
def turn (s : ByteArray) (k : Nat) (c : UInt8) : ByteArray := ⟨(s.data.toList.set k (s.data.toList.getD k 0 ^^^ c)).toArray⟩
theorem turn_list (s : ByteArray) (k : Nat) (c : UInt8) : (turn s k c).data.toList = s.data.toList.set k (s.data.toList.getD k 0 ^^^ c) := by unfold turn; simp
theorem turn_size (s : ByteArray) (k : Nat) (c : UInt8) : (turn s k c).size = s.size := by
  have := congrArg List.length (turn_list s k c)
  rw [List.length_set] at this
  simpa using this
theorem getD_at (s : ByteArray) (k : Nat) (h : k < s.size) : s.data.toList.getD k 0 = s[k] := by
  have h2 : k < s.data.toList.length := by simpa using h
  rw [List.getD, List.getElem?_eq_getElem h2]
  rfl
theorem xor_ne {a c : UInt8} (h : c ≠ 0) : a ≠ a ^^^ c := by
  intro e
  apply h
  have e2 : a ^^^ (a ^^^ c) = a ^^^ a := by rw [← e]
  rwa [← UInt8.xor_assoc, UInt8.xor_self, UInt8.zero_xor] at e2
theorem set_split (l : List UInt8) (k : Nat) (x : UInt8) (h : k < l.length) : l.set k x = l.take k ++ x :: l.drop (k + 1) := by
  rw [List.set_eq_take_append_cons_drop, if_pos h]
theorem self_split (l : List UInt8) (k : Nat) (h : k < l.length) : l = l.take k ++ l[k] :: l.drop (k + 1) := by
  rw [List.getElem_cons_drop, List.take_append_drop]
theorem apart {seed : Nat} {s : ByteArray} {k : Nat} {c : UInt8} (hs : seed < M) (hk : k < s.size) (hc : c ≠ 0) : hsh seed (turn s k c).data.toList ≠ hsh seed s.data.toList := by
  have h2 : k < s.data.toList.length := by simpa using hk
  intro e
  rw [turn_list, set_split _ _ _ h2] at e
  have e3 : s.data.toList = s.data.toList.take k ++ s.data.toList[k] :: s.data.toList.drop (k + 1) := self_split _ k h2
  rw [e3] at e
  rw [← e3] at e
  have e4 : hsh seed (s.data.toList.take k ++ (s.data.toList.getD k 0 ^^^ c) :: s.data.toList.drop (k + 1)) = hsh seed (s.data.toList.take k ++ s.data.toList[k] :: s.data.toList.drop (k + 1)) := by
    rw [← e3]; exact e
  have e5 := bytes hs e4
  rw [List.getD, List.getElem?_eq_getElem h2] at e5
  exact xor_ne hc e5.symm
theorem x8 (a c : UInt8) : bits .xor .u8 (a.toNat : Int) (c.toNat : Int) = ((a ^^^ c).toNat : Int) := by
  rw [u8_xor_nat _ _ a.toNat_lt c.toNat_lt, UInt8.toNat_xor]
theorem row_at (s : ByteArray) (cap k : Nat) (h : k < s.size) : (bytesRow s cap)[k]? = some (.int .u8 (s[k].toNat : Int)) := by
  unfold bytesRow
  have h2 : k < s.data.size := h
  rw [Array.getElem?_append_left (by simpa using h2)]
  rw [Array.getElem?_map, Array.getElem?_eq_getElem h2]
  rfl
theorem row_size (s : ByteArray) (cap : Nat) : s.size ≤ (bytesRow s cap).size := by
  unfold bytesRow
  rw [Array.size_append, Array.size_map]
  exact Nat.le_add_right _ _
theorem cell_row (w : World) (C : Array Value) (t : TypeId) (fr : Nat × Nat) (k : Nat) (v : Value) (h : C[k]? = some v) : (w.alloc (.cells C t fr)).cell? ⟨w.heap.size, k, none⟩ = some v := by
  have hb : (w.alloc (.cells C t fr)).heap[w.heap.size]? = some (.cells C t fr) := by
    show (w.heap.push _)[w.heap.size]? = _
    simp
  unfold World.cell?
  rw [hb]
  exact h
theorem free_row (w : World) (C : Array Value) (t : TypeId) (k : Nat) (h : k < C.size) : (w.alloc (.cells C t (C.size, C.size + 1))).frozen? ⟨w.heap.size, k, none⟩ = false := by
  have hb : (w.alloc (.cells C t (C.size, C.size + 1))).heap[w.heap.size]? = some (.cells C t (C.size, C.size + 1)) := by
    show (w.heap.push _)[w.heap.size]? = _
    simp
  unfold World.frozen?
  rw [hb]
  simp
  omega
theorem cell_set_row (w : World) (C : Array Value) (t : TypeId) (fr : Nat × Nat) (k j : Nat) (u : Value) (hk : k < C.size) : ((w.alloc (.cells C t fr)).setCell ⟨w.heap.size, k, none⟩ u).cell? ⟨w.heap.size, j, none⟩ = if j = k then some u else (C[j]?) := by
  have hb : ((w.alloc (.cells C t fr)).setCell ⟨w.heap.size, k, none⟩ u).heap[w.heap.size]? = some (.cells (C.setIfInBounds k u) t fr) := by
    show ((w.heap.push _).modify w.heap.size _)[w.heap.size]? = _
    rw [Array.getElem?_eq_getElem (by simp), Array.getElem_modify_self]
    simp
  simp only [World.cell?, hb]
  by_cases e : j = k
  · subst e; simp [hk]
  · have : ¬ k = j := fun h => e h.symm
    simp [e, Array.getElem?_setIfInBounds_ne this]
end Dw
theorem ret_b {p q : Bool} (h : p = q) : Ending.returned (.bool p) = .returned (.bool q) := by rw [h]
theorem tails (x : Nat) (s : ByteArray) (c : UInt8) (hx : x < Dw.M) (hs : s.size ≤ maxLen) (k : Nat) (hk : k < s.size) (hc0 : c ≠ 0) (w2 : World) : ∃ (C : Array Value) (cap : Nat) (r : ByteArray) (z z' : UInt8),
      (convert 9 39 (.string s)).run Try.prog w2 = .ok (.slice (some ⟨w2.heap.size, 0, none⟩) s.size cap) (w2.drew.alloc (.cells C 5 (C.size, C.size + 1))) ∧
      (w2.alloc (.cells C 5 (C.size, C.size + 1))).cell? ⟨w2.heap.size, k, none⟩ = some (.int .u8 z.toNat) ∧
      (w2.alloc (.cells C 5 (C.size, C.size + 1))).frozen? ⟨w2.heap.size, k, none⟩ = false ∧
      bits .xor .u8 (z.toNat : Int) (c.toNat : Int) = (z'.toNat : Int) ∧
      (convert 39 9 (.slice (some ⟨w2.heap.size, 0, none⟩) s.size cap)).run Try.prog ((w2.alloc (.cells C 5 (C.size, C.size + 1))).setCell ⟨w2.heap.size, k, none⟩ (.int .u8 z'.toNat)).drew = .ok (.string r) ((w2.alloc (.cells C 5 (C.size, C.size + 1))).setCell ⟨w2.heap.size, k, none⟩ (.int .u8 z'.toNat)).drew ∧
      (∀ w, Calls Try.prog 8 #[.int .u64 x, .string r] w fun e w' => e = .returned (.int .u64 (Dw.hsh x r.data.toList)) ∧ w' = w) ∧
      ((Dw.hsh x r.data.toList : Int) != (Dw.hsh x s.data.toList : Int)) = true := by
    refine ⟨bytesRow s (grownCap w2 s.size 0 5), grownCap w2 s.size 0 5, Dw.turn s k c, s.data.toList.getD k 0, s.data.toList.getD k 0 ^^^ c, run_bytes_of_string w2 9 39 5 s Try.underlying9 Try.underlying39 Try.underlying5, ?_, ?_, Dw.x8 _ _, ?_, ?_, ?_⟩
    · rw [Dw.getD_at s k hk]
      exact Dw.cell_row _ _ _ _ _ _ (Dw.row_at s _ k hk)
    · exact Dw.free_row _ _ _ _ (Nat.lt_of_lt_of_le hk (Dw.row_size s _))
    · have e := run_convert_bytes_back (P := Try.prog) ((w2.alloc (.cells (bytesRow s (grownCap w2 s.size 0 5)) 5 ((bytesRow s (grownCap w2 s.size 0 5)).size, (bytesRow s (grownCap w2 s.size 0 5)).size + 1))).setCell ⟨w2.heap.size, k, none⟩ (.int .u8 (s.data.toList.getD k 0 ^^^ c).toNat)).drew 39 9 5 ⟨w2.heap.size, 0, none⟩ (grownCap w2 s.size 0 5) (Dw.turn s k c).data.toList Try.underlying39 Try.underlying5 Try.underlying9 ?_
      · have e1 : (Dw.turn s k c).data.toList.length = s.size := by rw [Array.length_toList]; exact Dw.turn_size s k c
        rw [e1] at e
        rw [e]
      · intro j hj
        have hj2 : j < s.size := by rw [← Dw.turn_size s k c]; simpa using hj
        rw [show (Addr.add ⟨w2.heap.size, 0, none⟩ j) = ⟨w2.heap.size, j, none⟩ from by unfold Addr.add; split <;> simp_all]
        have e2 := Dw.cell_set_row w2 (bytesRow s (grownCap w2 s.size 0 5)) 5 ((bytesRow s (grownCap w2 s.size 0 5)).size, (bytesRow s (grownCap w2 s.size 0 5)).size + 1) k j (.int .u8 (s.data.toList.getD k 0 ^^^ c).toNat) (Nat.lt_of_lt_of_le hk (Dw.row_size s _))
        show ((w2.alloc _).setCell _ _).cell? _ = _
        rw [e2]
        have e3 : (Dw.turn s k c).data.toList[j] = if j = k then (s.data.toList.getD k 0 ^^^ c) else s[j] := by
          simp only [Dw.turn_list, List.getElem_set]
          by_cases e : k = j
          · rw [if_pos e, if_pos e.symm]
          · rw [if_neg e, if_neg (fun h => e h.symm)]; rfl
        rw [e3]
        by_cases e : j = k
        · rw [if_pos e, if_pos e]
        · rw [if_neg e, if_neg e]; exact Dw.row_at s _ j hj2
    · intro w
      exact hash_any x (Dw.turn s k c) w (by rw [Dw.turn_size]; exact hs) hx
    · exact bne_iff_ne.2 fun h => Dw.apart hx hk hc0 (by omega)
set_option maxHeartbeats 1000000 in
theorem apart_empty (x y : Nat) (s : ByteArray) (at' : Int) (c : UInt8) (w : World) (hx : x < Dw.M) (hy : y < Dw.M) (hs : s.size ≤ maxLen) (hl : ((s.size : Int) == 0) = true) :
    Calls Try.prog 5 #[.int .u64 x, .int .u64 y, .string s, .int .i64 at', .int .u8 c.toNat] w fun e w' => e = .returned (.bool true) ∧ Below w.heap.size w w' := by
  have mX := fun w => hash_any x s w hs hx
  have mY := fun w => hash_any y s w hs hy
  have hxy : x = y ∨ (¬ ((x : Int) = (y : Int)) ∧ ((Dw.hsh y s.data.toList : Int) == (Dw.hsh x s.data.toList : Int)) = false) := by
    by_cases e : x = y
    · exact .inl e
    · refine .inr ⟨by omega, beq_eq_false_iff_ne.2 fun h => e ?_⟩
      exact (Dw.seeds (l := s.data.toList) hy hx (by omega)).symm
  have hself : ((Dw.hsh x s.data.toList : Int) == (Dw.hsh x s.data.toList : Int)) = true := beq_self_eq_true _
  rcases hxy with rfl | ⟨hd, hd2⟩
  · clear hx hy
    go_enter Try.func5, Try.ntmps5
    go_wp2_with fail
    refine (wakes_any _).mono ?_
    rintro e w1 ⟨rfl, hb1⟩
    go_wp2_with fail
    refine (mX _).mono ?_
    rintro e w2 ⟨rfl, rfl⟩
    go_wp2_with fail
    refine (mX _).mono ?_
    rintro e w2 ⟨rfl, rfl⟩
    go_wp2
    go_ret
    exact ⟨rfl, hb1⟩
  · clear hx hy
    go_enter Try.func5, Try.ntmps5
    go_wp2_with fail
    refine (wakes_any _).mono ?_
    rintro e w1 ⟨rfl, hb1⟩
    go_wp2_with fail
    refine (mX _).mono ?_
    rintro e w2 ⟨rfl, rfl⟩
    go_wp2_with fail
    refine (mY _).mono ?_
    rintro e w2 ⟨rfl, rfl⟩
    go_wp2_with fail
    refine (mX _).mono ?_
    rintro e w2 ⟨rfl, rfl⟩
    go_wp2
    go_ret
    exact ⟨rfl, hb1⟩
set_option maxHeartbeats 1000000 in
theorem apart_nought (x y : Nat) (s : ByteArray) (at' : Int) (c : UInt8) (w : World) (hx : x < Dw.M) (hy : y < Dw.M) (hs : s.size ≤ maxLen) (hl : ((s.size : Int) == 0) = false) (hc : ((c.toNat : Int) == 0) = true) :
    Calls Try.prog 5 #[.int .u64 x, .int .u64 y, .string s, .int .i64 at', .int .u8 c.toNat] w fun e w' => e = .returned (.bool true) ∧ Below w.heap.size w w' := by
  have mX := fun w => hash_any x s w hs hx
  have mY := fun w => hash_any y s w hs hy
  have hxy : x = y ∨ (¬ ((x : Int) = (y : Int)) ∧ ((Dw.hsh y s.data.toList : Int) == (Dw.hsh x s.data.toList : Int)) = false) := by
    by_cases e : x = y
    · exact .inl e
    · refine .inr ⟨by omega, beq_eq_false_iff_ne.2 fun h => e ?_⟩
      exact (Dw.seeds (l := s.data.toList) hy hx (by omega)).symm
  have hself : ((Dw.hsh x s.data.toList : Int) == (Dw.hsh x s.data.toList : Int)) = true := beq_self_eq_true _
  rcases hxy with rfl | ⟨hd, hd2⟩
  · clear hx hy
    go_enter Try.func5, Try.ntmps5
    go_wp2_with fail
    refine (wakes_any _).mono ?_
    rintro e w1 ⟨rfl, hb1⟩
    go_wp2_with fail
    refine (mX _).mono ?_
    rintro e w2 ⟨rfl, rfl⟩
    go_wp2_with fail
    refine (mX _).mono ?_
    rintro e w2 ⟨rfl, rfl⟩
    go_wp2
    go_ret
    exact ⟨rfl, hb1⟩
  · clear hx hy
    go_enter Try.func5, Try.ntmps5
    go_wp2_with fail
    refine (wakes_any _).mono ?_
    rintro e w1 ⟨rfl, hb1⟩
    go_wp2_with fail
    refine (mX _).mono ?_
    rintro e w2 ⟨rfl, rfl⟩
    go_wp2_with fail
    refine (mY _).mono ?_
    rintro e w2 ⟨rfl, rfl⟩
    go_wp2_with fail
    refine (mX _).mono ?_
    rintro e w2 ⟨rfl, rfl⟩
    go_wp2
    go_ret
    exact ⟨rfl, hb1⟩
theorem tail_below {w w1 : World} {o : Obj} {k : Nat} {v : Value} (h : Below w.heap.size w w1) : Below w.heap.size w ((w1.alloc o).setCell ⟨w1.heap.size, k, none⟩ v).drew :=
  ((h.alloc h.size o).setCell (p := ⟨w1.heap.size, k, none⟩) h.size v).drew
set_option maxHeartbeats 1000000 in
theorem apart_up (x y : Nat) (s : ByteArray) (at' : Int) (c : UInt8) (w : World) (hx : x < Dw.M) (hy : y < Dw.M) (hs : s.size ≤ maxLen) (hl : ((s.size : Int) == 0) = false) (hl0 : 0 < s.size) (hc : ((c.toNat : Int) == 0) = false) (hc0 : c ≠ 0) (k : Nat) (hk : k < s.size) (hq : at'.tmod s.size = k) :
    Calls Try.prog 5 #[.int .u64 x, .int .u64 y, .string s, .int .i64 at', .int .u8 c.toNat] w fun e w' => e = .returned (.bool true) ∧ Below w.heap.size w w' := by
  have mX := fun w => hash_any x s w hs hx
  have mY := fun w => hash_any y s w hs hy
  have hxy : x = y ∨ (¬ ((x : Int) = (y : Int)) ∧ ((Dw.hsh y s.data.toList : Int) == (Dw.hsh x s.data.toList : Int)) = false) := by
    by_cases e : x = y
    · exact .inl e
    · refine .inr ⟨by omega, beq_eq_false_iff_ne.2 fun h => e ?_⟩
      exact (Dw.seeds (l := s.data.toList) hy hx (by omega)).symm
  have hself : ((Dw.hsh x s.data.toList : Int) == (Dw.hsh x s.data.toList : Int)) = true := beq_self_eq_true _
  have T := tails x s c hx hs k hk hc0
  unfold maxLen at hs
  rcases hxy with rfl | ⟨hd, hd2⟩
  · clear hx hy
    go_enter Try.func5, Try.ntmps5
    go_wp2_with fail
    refine (wakes_any _).mono ?_
    rintro e w1 ⟨rfl, hb1⟩
    go_wp2_with fail
    refine (mX _).mono ?_
    rintro e w2 ⟨rfl, rfl⟩
    obtain ⟨C, cap, r, z, z', t1, t2, t3, t4, t5, t6, t7⟩ := T w2
    clear T
    go_wp2_with fail
    refine (t6 _).mono ?_
    rintro e w3 ⟨rfl, rfl⟩
    go_wp2
    go_ret
    exact ⟨rfl, tail_below hb1⟩
  · clear hx hy
    go_enter Try.func5, Try.ntmps5
    go_wp2_with fail
    refine (wakes_any _).mono ?_
    rintro e w1 ⟨rfl, hb1⟩
    go_wp2_with fail
    refine (mX _).mono ?_
    rintro e w2 ⟨rfl, rfl⟩
    go_wp2_with fail
    refine (mY _).mono ?_
    rintro e w2 ⟨rfl, rfl⟩
    obtain ⟨C, cap, r, z, z', t1, t2, t3, t4, t5, t6, t7⟩ := T w2
    clear T
    go_wp2_with fail
    refine (t6 _).mono ?_
    rintro e w3 ⟨rfl, rfl⟩
    go_wp2
    go_ret
    exact ⟨rfl, tail_below hb1⟩
set_option maxHeartbeats 1000000 in
theorem apart_down (x y : Nat) (s : ByteArray) (at' : Int) (c : UInt8) (w : World) (hx : x < Dw.M) (hy : y < Dw.M) (hs : s.size ≤ maxLen) (hl : ((s.size : Int) == 0) = false) (hl0 : 0 < s.size) (hc : ((c.toNat : Int) == 0) = false) (hc0 : c ≠ 0) (k : Nat) (hk : k < s.size) (q : Int) (hq : at'.tmod s.size = q) (hq0 : q < 0) (hqk : q + s.size = k) :
    Calls Try.prog 5 #[.int .u64 x, .int .u64 y, .string s, .int .i64 at', .int .u8 c.toNat] w fun e w' => e = .returned (.bool true) ∧ Below w.heap.size w w' := by
  have mX := fun w => hash_any x s w hs hx
  have mY := fun w => hash_any y s w hs hy
  have hxy : x = y ∨ (¬ ((x : Int) = (y : Int)) ∧ ((Dw.hsh y s.data.toList : Int) == (Dw.hsh x s.data.toList : Int)) = false) := by
    by_cases e : x = y
    · exact .inl e
    · refine .inr ⟨by omega, beq_eq_false_iff_ne.2 fun h => e ?_⟩
      exact (Dw.seeds (l := s.data.toList) hy hx (by omega)).symm
  have hself : ((Dw.hsh x s.data.toList : Int) == (Dw.hsh x s.data.toList : Int)) = true := beq_self_eq_true _
  have T := tails x s c hx hs k hk hc0
  unfold maxLen at hs
  rcases hxy with rfl | ⟨hd, hd2⟩
  · clear hx hy
    go_enter Try.func5, Try.ntmps5
    go_wp2_with fail
    refine (wakes_any _).mono ?_
    rintro e w1 ⟨rfl, hb1⟩
    go_wp2_with fail
    refine (mX _).mono ?_
    rintro e w2 ⟨rfl, rfl⟩
    obtain ⟨C, cap, r, z, z', t1, t2, t3, t4, t5, t6, t7⟩ := T w2
    clear T
    go_wp2_with fail
    refine (t6 _).mono ?_
    rintro e w3 ⟨rfl, rfl⟩
    go_wp2
    go_ret
    exact ⟨rfl, tail_below hb1⟩
  · clear hx hy
    go_enter Try.func5, Try.ntmps5
    go_wp2_with fail
    refine (wakes_any _).mono ?_
    rintro e w1 ⟨rfl, hb1⟩
    go_wp2_with fail
    refine (mX _).mono ?_
    rintro e w2 ⟨rfl, rfl⟩
    go_wp2_with fail
    refine (mY _).mono ?_
    rintro e w2 ⟨rfl, rfl⟩
    obtain ⟨C, cap, r, z, z', t1, t2, t3, t4, t5, t6, t7⟩ := T w2
    clear T
    go_wp2_with fail
    refine (t6 _).mono ?_
    rintro e w3 ⟨rfl, rfl⟩
    go_wp2
    go_ret
    exact ⟨rfl, tail_below hb1⟩
theorem apart_walk (x y : Nat) (s : ByteArray) (at' : Int) (c : UInt8) (w : World) (hx : x < Dw.M) (hy : y < Dw.M) (hs : s.size ≤ maxLen) :
    Calls Try.prog 5 #[.int .u64 x, .int .u64 y, .string s, .int .i64 at', .int .u8 c.toNat] w fun e w' => e = .returned (.bool true) ∧ Below w.heap.size w w' := by
  by_cases e : s.size = 0
  · exact apart_empty x y s at' c w hx hy hs (beq_iff_eq.2 (by omega))
  · have hl : ((s.size : Int) == 0) = false := beq_eq_false_iff_ne.2 (by omega)
    by_cases e2 : c = 0
    · exact apart_nought x y s at' c w hx hy hs hl (beq_iff_eq.2 (by rw [e2]; rfl))
    · have hc : ((c.toNat : Int) == 0) = false := beq_eq_false_iff_ne.2 fun h => e2 (UInt8.toNat_inj.1 (by rw [show (0 : UInt8).toNat = 0 from rfl]; omega))
      have h1 := Int.tmod_lt_of_pos at' (b := (s.size : Int)) (by omega)
      have h2 : -(s.size : Int) < at'.tmod s.size := Int.lt_tmod_of_pos at' (by omega)
      by_cases e3 : at'.tmod s.size < 0
      · exact apart_down x y s at' c w hx hy hs hl (by omega) hc e2 (at'.tmod s.size + s.size).toNat (by omega) _ rfl e3 (by omega)
      · exact apart_up x y s at' c w hx hy hs hl (by omega) hc e2 (at'.tmod s.size).toNat (by omega) (by omega)
end Go.Proofs.Ytghjdnpohbhohaa
