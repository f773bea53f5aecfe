/-
  Contracts over this program: the document's own at, bit, Bit, Join, Slice, Ones at any input.
-/
import Derived.Test.YtlkplmlhlgnnkaaPatchKeeps0
import Derived.Laws.OwnMore
namespace Go.Proofs.Ytlkplmlhlgnnkaa
open Go.RowKit
set_option linter.unusedVariables false
/-- a row of bytes that grows -/
def Kb (B : Nat) (w : World) (v : Value) (l : List UInt8) : Prop := w.ownsRow B 5 1 v l.length (bcells l)
theorem owb_kept {w w' : World} {B e s : Nat} {v : Value} {n : Nat} {xs : List Value} (h : w.ownsRow B e s v n xs) (hk : ∀ k, v.ownBlock = some k → w'.heap[k]? = w.heap[k]?) : w'.ownsRow B e s v n xs := by
  refine ⟨h.1, ?_⟩
  rcases h.2 with hn | ⟨g, cap, cur, rfl, hb, hgg, rest⟩
  · exact .inl hn
  · exact .inr ⟨g, cap, cur, rfl, hb, by rw [hk g rfl]; exact hgg, rest⟩
theorem bcells_app (l m : List UInt8) : bcells (l ++ m) = bcells l ++ bcells m := by simp [bcells]
theorem make_bytes (w : World) (n : Nat) (hn : n ≤ reachBytes) :
    ∃ w', (Instr.makeSlice 40 (.int .i64 0) (.int .i64 (n : Int))).run Try.prog w = .ok (.slice (some ⟨w.heap.size, 0, none⟩) 0 n) w' ∧ Kb w.heap.size w' (.slice (some ⟨w.heap.size, 0, none⟩) 0 n) [] ∧ Below w.heap.size w w' := by
  obtain ⟨i0, hi0, hz0, hz1, hz2⟩ := info_u8
  unfold reachBytes at hn
  obtain ⟨w', h1, h2, h3⟩ := run_make_own (P := Try.prog) w w.heap.size 40 5 i0 _ 1 Try.underlying40 hi0 hz0 hz1 .i64 .i64 n (by rw [hz2]; omega) (by unfold maxLen; omega) (Nat.le_refl _)
  exact ⟨w', h1, h2, (Below.refl _ w).grown h3 (Nat.le_refl _) (fun k hk => by cases hk)⟩
/-- one byte more -/
theorem app_byte (B : Nat) (w : World) (v : Value) (l : List UInt8) (z : UInt8) (h1 : Kb B w v l) (hb : B ≤ w.heap.size) (hl : l.length + 1 ≤ 140737488351232) :
    ∃ v' w', (Builtin.append_ #[40, 40] 40 #[v, .slice (some ⟨w.heap.size, 0, none⟩) 1 1]).run Try.prog (w.alloc (.cells #[.int .u8 z.toNat] 5)) = .ok v' w' ∧ Kb B w' v' (l ++ [z]) ∧ Below B w w' := by
  obtain ⟨i0, hi0, hz0, hz1, hz2⟩ := info_u8
  have hb3 : Below w.heap.size w (w.alloc (.cells #[.int .u8 z.toNat] 5)) := (Below.refl _ w).alloc (Nat.le_refl _) _
  have c0 : (w.alloc (.cells #[.int .u8 z.toNat] 5)).cell? ⟨w.heap.size, 0, none⟩ = some (.int .u8 z.toNat) := by rw [cell_of_row _ _ _ _ _ _ (heap_alloc_new _ _)]; rfl
  have h1' : Kb B (w.alloc (.cells #[.int .u8 z.toNat] 5)) v l := owb_kept h1 (fun k hk => hb3.block k (h1.lt k hk).2)
  have hB := Nat.le_trans hb hb3.size
  unfold Kb at h1'
  obtain ⟨v', w', r1, r2, r3, _⟩ := run_append_own (P := Try.prog) (w.alloc (.cells #[.int .u8 z.toNat] 5)) B 40 40 5 i0 (.int .u8 0) 1 1 Try.underlying40 hi0 hz0 hz1 hz2 rfl (by decide) v l.length _ h1' ⟨w.heap.size, 0, none⟩ 1 1 [.int .u8 z.toNat] (by simp) (fun j x hx => by
    cases j with
    | zero => rw [add_off]; simp at hx; rw [c0, hx]
    | succ j => simp at hx) (fun u hu => by simp at hu; subst hu; rfl) (by unfold maxLen; omega) (by omega) hB
  refine ⟨v', w', r1, ?_, (hb3.mono hb).trans ((Below.refl B _).grown r3 hB (fun k hk => (h1'.lt k hk).1))⟩
  unfold Kb
  rw [List.length_append, bcells_app]
  exact r2
theorem Kb.len {B : Nat} {w : World} {v : Value} {l : List UInt8} (h : Kb B w v l) : ∃ a c, v = .slice a l.length c := by
  rcases h.2 with ⟨rfl, h0⟩ | ⟨g, cap, cur, rfl, _⟩
  · exact ⟨none, 0, by rw [h0]⟩
  · exact ⟨_, _, rfl⟩
theorem Kb.back {B : Nat} {w : World} {v : Value} {l : List UInt8} (h : Kb B w v l) :
    (convert 40 9 v).run Try.prog w = .ok (.string ⟨l.toArray⟩) w := by
  rcases h.2 with ⟨rfl, h0⟩ | ⟨g, cap, cur, rfl, _⟩
  · have e : l = [] := List.length_eq_zero_iff.1 h0
    subst e
    rw [run_convert_bytes_string w 40 9 5 none 0 0 Try.underlying40 Try.underlying5 Try.underlying9]
    rfl
  · refine run_convert_bytes_back (P := Try.prog) w 40 9 5 ⟨g, 0, none⟩ cap l Try.underlying40 Try.underlying5 Try.underlying9 fun j hj => ?_
    exact h.cells (g := g) rfl j _ (by simp [bcells, List.getElem?_map, List.getElem?_eq_getElem hj])
theorem ret_u {a b : UInt8} (h : a = b) : Ending.returned (.int .u8 a.toNat) = .returned (.int .u8 b.toNat) := by rw [h]
set_option maxHeartbeats 400000 in
theorem rat_any (s : ByteArray) (i : Nat) (w : World) (hs : s.size ≤ reachBytes) :
    Calls Try.prog 26 #[.string s, .int .i64 i] w fun e w' => e = .returned (.int .u8 (s.data.toList.getD i 0).toNat) ∧ w' = w := by
  unfold reachBytes at hs
  by_cases c : i < s.size
  · rw [← getD_at s i c]
    have c1 : (i : Int) < (s.size : Int) := by omega
    have c0 : (0 : Int) ≤ (i : Int) := by omega
    go_enter Try.func26, Try.ntmps26
    go_wp2
    go_ret
    exact ⟨rfl, rfl⟩
  · rw [show s.data.toList.getD i 0 = 0 by rw [List.getD_eq_getElem?_getD, List.getElem?_eq_none (by rw [len_is]; omega)]; rfl]
    have c1 : ¬ (i : Int) < (s.size : Int) := by omega
    go_enter Try.func26, Try.ntmps26
    go_wp2
    go_ret
    exact ⟨rfl, rfl⟩
theorem half_step (c k : Nat) : c / 2 ^ k / 2 = c / 2 ^ (k + 1) := by rw [Nat.div_div_eq_div_mul, Nat.pow_succ]
set_option maxHeartbeats 1000000 in
theorem rbit_any (s : ByteArray) (i : Nat) (w : World) (hs : s.size ≤ reachBytes) (hi : i ≤ 9223372036854775807) :
    Calls Try.prog 23 #[.string s, .int .i64 i] w fun e w' => e = .returned (.int .i64 (Pt.bt s.data.toList i : Nat)) ∧ w' = w := by
  have RA := keep fun w => rat_any s (i / 8) w hs
  unfold Pt.bt
  have hz := UInt8.toNat_lt (s.data.toList.getD (i / 8) 0)
  generalize s.data.toList.getD (i / 8) 0 = z at *
  obtain ⟨R, hR⟩ : ∃ R, R = 7 - i % 8 := ⟨_, rfl⟩
  have hR2 : (7 : Int) - (i : Int) % 8 = (R : Int) := by omega
  have hR8 : R < 8 := by omega
  rw [← hR]
  have HR := keep hR
  clear hR hs
  have hz1 : (z.toNat : Int) ≤ 255 := by omega
  go_enter Try.func23, Try.ntmps23
  go_wp2_with fail
  refine (RA.out _).mono ?_
  rintro e w' ⟨rfl, rfl⟩
  go_wp2
  go_loopw [5, 14] (fun u i wr => ∃ (k : Nat), k ≤ R ∧ i = .int .i64 k ∧ u = .int .i64 (z.toNat / 2 ^ k : Nat) ∧ wr = w') (fun _ i _ => R - (intOf i).toNat)
  case atStart => exact ⟨0, Nat.zero_le _, rfl, by simp, rfl⟩
  case round =>
    obtain ⟨k, hk, rfl, rfl, hw⟩ := hrel
    obtain rfl := hw.symm
    have hh := half_step z.toNat k
    have hb : z.toNat / 2 ^ k ≤ 255 := Nat.le_trans (Nat.div_le_self _ _) (by omega)
    obtain ⟨y, hy⟩ : ∃ y, y = z.toNat / 2 ^ (k + 1) := ⟨_, rfl⟩
    by_cases hlt : k < R
    · have hz : (k : Int) < (R : Int) := by omega
      generalize z.toNat / 2 ^ k = x at *
      have HY := keep (hh.trans hy.symm)
      have HY2 := keep hy
      clear hh hy
      go_wp2
      go_roundw
      case measure => simp [intOf]; omega
      case rel => exact ⟨k + 1, by omega, by go_num, by rw [← HY2.out, ← HY.out]; go_num, trivial⟩
    · obtain rfl : k = R := by omega
      have hz : ¬ (k : Int) < (k : Int) := by omega
      clear hh hy
      go_wp2
      go_ret
      exact ⟨ret_i (by push_cast; rfl), rfl⟩
set_option maxHeartbeats 400000 in
theorem rBit_any (s : ByteArray) (i : Int) (w : World) (hs : s.size ≤ reachBytes) (h1 : -9223372036854775808 ≤ i) (h2 : i ≤ 9223372036854775807) :
    Calls Try.prog 17 #[.string s, .int .i64 i] w fun e w' => e = .returned (.tuple #[.int .i64 (bitV s i).1, .int .i64 (bitV s i).2]) ∧ w' = w := by
  unfold bitV
  by_cases c : i < 0 ∨ 1073741824 ≤ i
  · rw [if_pos c]
    rcases c with c | c
    · go_enter Try.func17, Try.ntmps17
      go_wp2
      go_ret2
      exact ⟨rfl, rfl⟩
    · have c0 : ¬ i < 0 := by omega
      go_enter Try.func17, Try.ntmps17
      go_wp2
      go_ret2
      exact ⟨rfl, rfl⟩
  · rw [if_neg c]
    obtain ⟨p, rfl⟩ : ∃ p : Nat, i = (p : Int) := ⟨i.toNat, by omega⟩
    rw [Int.toNat_natCast]
    have RB := keep fun w => rbit_any s p w hs (by omega)
    have c0 : decide ((p : Int) < 0) = false := decide_eq_false (by omega)
    have c1 : decide (1073741824 ≤ (p : Int)) = false := decide_eq_false (by omega)
    clear c h1 h2 hs
    go_enter Try.func17, Try.ntmps17
    go_wp2_with fail
    refine (RB.out _).mono ?_
    rintro e w' ⟨rfl, rfl⟩
    go_wp2
    go_ret2
    exact ⟨rfl, rfl⟩
set_option maxHeartbeats 400000 in
theorem rjoin_any (s v : ByteArray) (w : World) (hs : s.size ≤ reachBytes) (hv : v.size ≤ reachBytes) :
    Calls Try.prog 15 #[.string s, .string v] w fun e w' => e = .returned (.tuple #[.string (joi s v).1, .int .i64 (joi s v).2]) ∧ w' = w := by
  unfold reachBytes at hs hv
  unfold joi
  by_cases c : 1048576 < s.size + v.size
  · rw [if_pos c]
    go_enter Try.func15, Try.ntmps15
    go_wp2
    go_ret2
    exact ⟨rfl, rfl⟩
  · rw [if_neg c]
    go_enter Try.func15, Try.ntmps15
    go_wp2
    go_ret2
    exact ⟨rfl, rfl⟩
end Go.Proofs.Ytlkplmlhlgnnkaa
