/-
  Contracts over this program: the small calls of a deque; two chunks are tied; a new chunk; a text is put.
-/
import Derived.Test.YtmgeaanbgjbkcaaGreatQDqMem
namespace Go.Proofs.YtmgeaanbgjbkcaaGreat.DQ
open Go.RowKit
theorem dq_new (w : World) : Dq (w.alloc (.cells #[.pointer none, .pointer none, .int .i64 0, .int .i64 0] 190)) w.heap.size [] := by
  refine ⟨⟨heap_alloc_new _ _, trivial, by simp, fun t h => by simp [row] at h, by simp [row]⟩, fun x h => by cases h⟩
set_option maxHeartbeats 400000 in
theorem new_any (w : World) : Calls Tryz.prog 72 #[] w fun e w' => e = .returned (ptr w.heap.size) ∧ Dq w' w.heap.size [] ∧ Below w.heap.size w w' ∧ w'.heap.size = w.heap.size + 1 := by
  go_enter Tryz.func72, Tryz.ntmps72
  go_wp2
  go_ret
  exact ⟨rfl, dq_new w, (Below.refl _ w).alloc (Nat.le_refl _) _, by simp⟩
set_option maxHeartbeats 400000 in
theorem len_any (w : World) (b : Nat) (f l : Value) (n c : Nat) (hd : Ds w b f l n c) : Calls Tryz.prog 114 #[ptr b] w fun e w' => e = .returned (.int .i64 (n : Nat)) ∧ w' = w := by
  obtain ⟨c0, c1, c2, c3, cf⟩ := hd.four
  clear hd c0 c1 c3 cf
  go_enter Tryz.func114, Tryz.ntmps114
  go_wp2
  go_ret
  exact ⟨rfl, rfl⟩
set_option maxHeartbeats 400000 in
theorem len_nil (w : World) : Calls Tryz.prog 114 #[nul] w fun e w' => e = .returned (.int .i64 0) ∧ w' = w := by
  go_enter Tryz.func114, Tryz.ntmps114
  go_wp2
  go_ret
  exact ⟨rfl, rfl⟩
set_option maxHeartbeats 400000 in
theorem costof_any (w : World) (s : ByteArray) (hs : s.size ≤ maxLen - 16) : Calls Tryz.prog 189 #[.string s] w fun e w' => e = .returned (.int .i64 (16 + s.size : Nat)) ∧ w' = w := by
  unfold maxLen at hs
  have h1 : IntKind.i64.wrap (16 + (s.size : Int)) = ((16 + s.size : Nat) : Int) := by rw [IntKind.wrap_i64]; omega
  go_enter Tryz.func189, Tryz.ntmps189
  go_wp2
  go_ret
  exact ⟨rfl, rfl⟩
/-- why one more text is not taken -/
def refC (n : Nat) (s : ByteArray) : Int := if 1048576 < s.size then 2 else if 1048576 ≤ n then 4 else 0
set_option maxHeartbeats 400000 in
theorem refuse_any (w : World) (b : Nat) (f l : Value) (n c : Nat) (s : ByteArray) (hs : s.size ≤ maxLen) (hd : Ds w b f l n c) : Calls Tryz.prog 134 #[ptr b, .string s] w fun e w' => e = .returned (.int .i64 (refC n s)) ∧ w' = w := by
  unfold maxLen at hs
  obtain ⟨c0, c1, c2, c3, cf⟩ := hd.four
  clear hd c0 c1 c3 cf
  unfold refC
  by_cases h1 : 1048576 < s.size
  · rw [if_pos h1]
    have h1z : decide (1048576 < (s.size : Int)) = true := decide_eq_true (by omega)
    go_enter Tryz.func134, Tryz.ntmps134
    go_wp2
    go_ret
    exact ⟨rfl, rfl⟩
  · rw [if_neg h1]
    have h1z : decide (1048576 < (s.size : Int)) = false := decide_eq_false (by omega)
    by_cases h2 : 1048576 ≤ n
    · rw [if_pos h2]
      have h2z : decide (1048576 ≤ (n : Int)) = true := decide_eq_true (by omega)
      go_enter Tryz.func134, Tryz.ntmps134
      go_wp2
      go_ret
      exact ⟨rfl, rfl⟩
    · rw [if_neg h2]
      have h2z : decide (1048576 ≤ (n : Int)) = false := decide_eq_false (by omega)
      go_enter Tryz.func134, Tryz.ntmps134
      go_wp2
      go_ret
      exact ⟨rfl, rfl⟩
set_option maxHeartbeats 400000 in
theorem room_nil (w : World) : Calls Tryz.prog 135 #[nul] w fun e w' => e = .returned (.bool false) ∧ w' = w := by
  go_enter Tryz.func135, Tryz.ntmps135
  go_wp2
  go_ret
  exact ⟨rfl, rfl⟩
set_option maxHeartbeats 400000 in
theorem room_any (w : World) (c : Nat) (n : Nat) (hn : n ≤ 32) (hc : w.cell? ⟨c, 2, none⟩ = some (.int .i64 (n : Nat))) : Calls Tryz.prog 135 #[ptr c] w fun e w' => e = .returned (.bool (decide (n < 32))) ∧ w' = w := by
  by_cases h : n < 32
  · have hz : decide ((n : Int) < 32) = true := decide_eq_true (by omega)
    go_enter Tryz.func135, Tryz.ntmps135
    go_wp2
    go_ret
    exact ⟨by simp [h], rfl⟩
  · have hz : decide ((n : Int) < 32) = false := decide_eq_false (by omega)
    go_enter Tryz.func135, Tryz.ntmps135
    go_wp2
    go_ret
    exact ⟨by simp [h], rfl⟩
def pvv : Option Nat → Value
  | none => nul
  | some c => ptr c
/-- the memory behind two chunks were tied -/
def tie1 (w : World) (b : Nat) (pv nv : Option Nat) : World := match pv with
  | none => w.setCell ⟨b, 0, none⟩ (pvv nv)
  | some p => w.setCell ⟨p, 1, none⟩ (pvv nv)
def tieW (w : World) (b : Nat) (pv nv : Option Nat) : World := match nv with
  | none => (tie1 w b pv nv).setCell ⟨b, 1, none⟩ (pvv pv)
  | some n => (tie1 w b pv nv).setCell ⟨n, 0, none⟩ (pvv pv)
set_option maxHeartbeats 800000 in
theorem tie_any (w : World) (b : Nat) (pv nv : Option Nat) (v0 v1 v2 v3 : Value) (hp : ∀ p, pv = some p → w.cell? ⟨p, 1, none⟩ = some v2 ∧ w.frozen? ⟨p, 1, none⟩ = false) (hn : ∀ n, nv = some n → (tie1 w b pv nv).cell? ⟨n, 0, none⟩ = some v3 ∧ (tie1 w b pv nv).frozen? ⟨n, 0, none⟩ = false)
    (hb : pv = none → w.cell? ⟨b, 0, none⟩ = some v0 ∧ w.frozen? ⟨b, 0, none⟩ = false) (hb1 : nv = none → (tie1 w b pv nv).cell? ⟨b, 1, none⟩ = some v1 ∧ (tie1 w b pv nv).frozen? ⟨b, 1, none⟩ = false) :
    Calls Tryz.prog 188 #[ptr b, pvv pv, pvv nv] w fun e w' => e = .returned (.tuple #[]) ∧ w' = tieW w b pv nv := by
  unfold tieW
  cases pv with
  | none =>
    obtain ⟨k0, k1⟩ := hb rfl
    cases nv with
    | none =>
      obtain ⟨m0, m1⟩ := hb1 rfl
      clear hp hn hb hb1
      unfold tie1 at *
      unfold pvv at *
      dsimp only at *
      go_enter Tryz.func188, Tryz.ntmps188
      go_wp2
      go_end0
      exact ⟨rfl, rfl⟩
    | some n =>
      obtain ⟨m0, m1⟩ := hn n rfl
      clear hp hn hb hb1
      unfold tie1 at *
      unfold pvv at *
      dsimp only at *
      go_enter Tryz.func188, Tryz.ntmps188
      go_wp2
      go_end0
      exact ⟨rfl, rfl⟩
  | some p =>
    obtain ⟨k0, k1⟩ := hp p rfl
    cases nv with
    | none =>
      obtain ⟨m0, m1⟩ := hb1 rfl
      clear hp hn hb hb1
      unfold tie1 at *
      unfold pvv at *
      dsimp only at *
      go_enter Tryz.func188, Tryz.ntmps188
      go_wp2
      go_end0
      exact ⟨rfl, rfl⟩
    | some n =>
      obtain ⟨m0, m1⟩ := hn n rfl
      clear hp hn hb hb1
      unfold tie1 at *
      unfold pvv at *
      dsimp only at *
      go_enter Tryz.func188, Tryz.ntmps188
      go_wp2
      go_end0
      exact ⟨rfl, rfl⟩
end Go.Proofs.YtmgeaanbgjbkcaaGreat.DQ
