/-
  Contracts over this program: what escaped and wakes of the layer's own statements answer.
-/
import Derived.Test.YtekkpmonflpenaaGlobPlain
namespace Go.Proofs.Ytekkpmonflpenaa
open Go.RowKit
namespace Gb
/-- bytes, each with a \ ahead of it -/
def esc (l : List UInt8) : List UInt8 := l.flatMap fun b => [92, b]
def escB (s : ByteArray) : ByteArray := ⟨(esc s.data.toList).toArray⟩
theorem esc_len (l : List UInt8) : (esc l).length = 2 * l.length := by
  induction l with
  | nil => rfl
  | cons b l ih => simp only [esc, List.flatMap_cons, List.length_append, List.length_cons, List.length_nil] at *; omega
theorem esc_snoc (l : List UInt8) (b : UInt8) : esc (l ++ [b]) = esc l ++ [92, b] := by simp [esc]
theorem escB_size (s : ByteArray) : (escB s).size = 2 * s.size := by
  show (esc s.data.toList).toArray.size = _
  rw [List.size_toArray, esc_len, len]
theorem take_snoc (s : ByteArray) (k : Nat) (h : k < s.size) : s.data.toList.take (k + 1) = s.data.toList.take k ++ [s[k]] := by
  rw [List.take_succ_eq_append_getElem (by rw [len]; exact h)]; rfl
theorem take_all (s : ByteArray) (k : Nat) (h : s.size ≤ k) : s.data.toList.take k = s.data.toList := List.take_of_length_le (by rw [len]; exact h)
theorem take_len (s : ByteArray) (k : Nat) (h : k ≤ s.size) : (s.data.toList.take k).length = k := by rw [List.length_take, len]; omega
theorem sgs_step (c : UInt8) (r : List UInt8) : sgs (c :: r) = (rs (c :: r)).1 :: sgs (rs (c :: r)).2 := sgs_cons (by simp)
theorem names_step (b c : UInt8) (r : List UInt8) : names b (c :: r) = (btw (step (c :: r)).1 (step (c :: r)).2.1 b || names b (step (c :: r)).2.2) := names_cons b (by simp)
theorem wake1 : ans ⟨#[104, 91, 97, 101, 93, 108, 108, 111]⟩ ⟨#[104, 97, 108, 108, 111]⟩ = true := by
  simp [ans, D, sgs_step, sgs_nil, rs, rb, setCut, M, setM, names_step, names_nil, step, btw]
theorem wake2 : ans ⟨#[104, 91, 94, 101, 93, 108, 108, 111]⟩ ⟨#[104, 101, 108, 108, 111]⟩ = false := by
  simp [ans, D, sgs_step, sgs_nil, rs, rb, setCut, M, setM, names_step, names_nil, step, btw]
theorem wake3 : ans ⟨#[42]⟩ ⟨#[]⟩ = true := by
  simp [ans, D, sgs_step, sgs_nil, rs, M]
theorem wake4 : ans ⟨#[63]⟩ ⟨#[]⟩ = false := by
  simp [ans, D, sgs_step, sgs_nil, rs, M]
end Gb
theorem map_snoc2 (l : List UInt8) (a b : UInt8) : (l ++ [a, b]).map encB = l.map encB ++ [.int .u8 a.toNat, .int .u8 b.toNat] := by simp [encB]
set_option maxHeartbeats 4000000 in
set_option maxRecDepth 100000 in
theorem escaped_any (s : ByteArray) (w : World) (hs : s.size ≤ 549755813888) :
    Calls Try.prog 18 #[.string s] w fun e w' => e = .returned (.string (Gb.escB s)) ∧ Below w.heap.size w w' := by
  obtain ⟨i0, hi, hz0, hz1, hz2⟩ := info_u8
  obtain ⟨w1, hmk, hown0, hg0⟩ := run_make_own (P := Try.prog) (w := w) w.heap.size 31 5 i0 (.int .u8 0) 1 Try.underlying31 hi hz0 hz1 .i64 .i64 (2 * s.size) (by rw [hz2]; omega) (by unfold maxLen; omega) (Nat.le_refl _)
  have hb0 : Below w.heap.size w w1 := (Below.refl _ _).grown hg0 (Nat.le_refl _) (by simp)
  rw [show ((2 * s.size : Nat) : Int) = 2 * (s.size : Int) from by omega] at hmk
  go_enter Try.func18, Try.ntmps18
  go_wp2
  clear hmk
  go_loopg [3, 4] s.size (fun gg v3 v4 wx => ∃ (i : Nat), i + gg = s.size ∧ v4 = .int .i64 i ∧ v3 = .slice (some ⟨w.heap.size, 0, none⟩) (2 * i) (2 * s.size) ∧ wx.ownsRow w.heap.size 5 1 (.slice (some ⟨w.heap.size, 0, none⟩) (2 * i) (2 * s.size)) (2 * i) ((Gb.esc (s.data.toList.take i)).map encB) ∧ Below w.heap.size w wx)
  case atStart => exact ⟨0, by omega, rfl, rfl, hown0, hb0⟩
  case round =>
    obtain ⟨i, hig, rfl, rfl, hown, hbw⟩ := hrel
    have hown := keep hown
    have hsz := hbw.size
    by_cases hip : i < s.size
    · have hx := s[i].toNat_lt
      go_wp2_with (first
          | (at_builtin; refine wpList_append_fits _ rfl _ _ 31 rfl w.heap.size 5 i0 1 Try.underlying31 hi hz1 w.heap.size (2 * i) (2 * s.size) ((Gb.esc (s.data.toList.take i)).map encB) rfl (hown.out.alloc _) _ 2 2 [.int .u8 92, .int .u8 s[i].toNat] rfl rfl ?c1 ?c2 ?c3 ?c4))
      case c1 =>
        intro j u hj
        match j, hj with
        | 0, hj => simp at hj; subst hj; simp [Addr.add, go_sem]
        | 1, hj => simp at hj; subst hj; simp [Addr.add, go_sem]
      case c2 =>
        intro u hu
        simp at hu
        rcases hu with rfl | rfl <;> rfl
      case c3 => omega
      case c4 =>
        intro w3 hown3 hgrow3
        have hown4 := keep hown3
        have hb3 : Below w.heap.size w w3 := by
          refine Below.grown ?_ hgrow3 (by simp; omega) (fun k hk => by cases hk; exact Nat.le_refl _)
          go_grown
        clear hown3 hgrow3
        go_wp2
        go_roundg (s.size - (i + 1))
        case measure => omega
        case rel => exact ⟨i + 1, by omega, by go_num, by simp; omega, by rw [Gb.take_snoc s i hip, Gb.esc_snoc, map_snoc2]; exact hown4.out, hb3⟩
    · have hl : (Gb.esc (s.data.toList.take i)).length = 2 * i := by rw [Gb.esc_len, Gb.take_len s i (by omega)]
      have e : Gb.escB s = ⟨(Gb.esc (s.data.toList.take i)).toArray⟩ := by rw [Gb.take_all s i (by omega)]; rfl
      have ho := hown.out
      rw [← hl] at ho
      have rt := row_text ho
      rw [hl, ← e] at rt
      clear e hl ho
      go_wp2
      go_ret
      exact ⟨rfl, hbw⟩
set_option maxHeartbeats 4000000 in
theorem wakes_any (w : World) : Calls Try.prog 13 #[] w fun e w' => e = .returned (.bool true) ∧ Below w.heap.size w w' := by
  have m1 := fun w => match_any ⟨#[104, 91, 97, 101, 93, 108, 108, 111]⟩ ⟨#[104, 97, 108, 108, 111]⟩ w (by decide) (by decide)
  have m2 := fun w => match_any ⟨#[104, 91, 94, 101, 93, 108, 108, 111]⟩ ⟨#[104, 101, 108, 108, 111]⟩ w (by decide) (by decide)
  have m3 := fun w => match_any ⟨#[42]⟩ ⟨#[]⟩ w (by decide) (by decide)
  have m4 := fun w => match_any ⟨#[63]⟩ ⟨#[]⟩ w (by decide) (by decide)
  rw [Gb.wake1] at m1
  rw [Gb.wake2] at m2
  rw [Gb.wake3] at m3
  rw [Gb.wake4] at m4
  go_enter Try.func13, Try.ntmps13
  go_wp2_with fail
  refine (m1 _).mono ?_
  rintro e w1 ⟨rfl, h1⟩
  go_wp2_with fail
  refine (m2 _).mono ?_
  rintro e w2 ⟨rfl, h2⟩
  go_wp2_with fail
  refine (m3 _).mono ?_
  rintro e w3 ⟨rfl, h3⟩
  go_wp2_with fail
  refine (m4 _).mono ?_
  rintro e w4 ⟨rfl, h4⟩
  go_wp2
  go_ret
  exact ⟨rfl, bel_trans (bel_trans (bel_trans h1 h2) h3) h4⟩
end Go.Proofs.Ytekkpmonflpenaa
