/-
  Contracts over this program: what means of the layer's own statements answers at any sign and byte.
-/
import Derived.Test.YtekkpmonflpenaaGlobWritten
namespace Go.Proofs.Ytekkpmonflpenaa
open Go.RowKit
namespace Gb
def wi (l : List UInt8) (x : UInt8) (j : Nat) : Bool := (l.take j).any (· == x)
theorem wi_zero (l : List UInt8) (x : UInt8) : wi l x 0 = false := rfl
theorem wi_more {l : List UInt8} {x : UInt8} {j : Nat} (hj : j < l.length) : wi l x (j + 1) = (wi l x j || l[j] == x) := by
  unfold wi
  rw [List.take_succ_eq_append_getElem hj, List.any_append]
  simp
theorem wi_all {l : List UInt8} {x : UInt8} {j : Nat} (hj : l.length ≤ j) : wi l x j = l.any (· == x) := by
  unfold wi
  rw [List.take_of_length_le hj]
theorem btw_yes {a b x : UInt8} (h : (a.toNat ≤ x.toNat ∧ x.toNat ≤ b.toNat) ∨ (b.toNat ≤ x.toNat ∧ x.toNat ≤ a.toNat)) : btw a b x = true := by
  unfold btw; exact decide_eq_true (by omega)
theorem btw_no {a b x : UInt8} (h : ¬ ((a.toNat ≤ x.toNat ∧ x.toNat ≤ b.toNat) ∨ (b.toNat ≤ x.toNat ∧ x.toNat ≤ a.toNat))) : btw a b x = false := by
  unfold btw; exact decide_eq_false (by omega)
theorem beq_int (a x : UInt8) : (a == x) = ((a.toNat : Int) == (x.toNat : Int)) := by
  by_cases h : a = x
  · subst h; simp
  · rw [beq_eq_false_iff_ne.2 h, eq_comm, beq_eq_false_iff_ne]
    intro e; exact h (byte_is e)
end Gb
theorem len_row {w : World} {v : Value} {l : List UInt8} (h : hasRow w v l) : ∃ (ao : Option Addr) (cap : Nat), v = .slice ao l.length cap ∧ (∀ j (hj : j < l.length), ∃ a, ao = some a ∧ w.cell? (a.add j) = some (.int .u8 (l[j].toNat : Int))) := by
  rcases h with ⟨rfl, rfl⟩ | ⟨a, cap, rfl, _, _, h4⟩
  · exact ⟨none, 0, rfl, fun j hj => absurd hj (by simp)⟩
  · exact ⟨some a, cap, rfl, fun j hj => ⟨a, rfl, h4 j hj⟩⟩
set_option maxHeartbeats 8000000 in
set_option maxRecDepth 100000 in
theorem lmeans_any (k : Int) (a b x : UInt8) (v : Value) (l : List UInt8) (w : World) (hk1 : -9223372036854775808 ≤ k) (hk2 : k ≤ 9223372036854775807) (hl : l.length ≤ 1048576) (hrow : hasRow w v l) :
    Calls Try.prog 17 #[signL k a b v, .int .u8 x.toNat] w fun e w' => e = .returned (.bool (Gb.smeans k a b l x)) ∧ Below w.heap.size w w' := by
  have ha := a.toNat_lt
  have hb := b.toNat_lt
  have hx := x.toNat_lt
  have B0 := keep (boxed_new w k a b v)
  have hr0 := keep (hasRow_below hrow (bel_alloc w (Obj.cells #[.int .i64 k, .int .u8 a.toNat, .int .u8 b.toNat, v] 33)))
  obtain ⟨ao, cap, rfl, hc⟩ := len_row hr0.out
  have HC := keep hc
  clear hc hrow
  unfold signL
  go_enter Try.func17, Try.ntmps17
  go_wp2
  go_loopg [5, 6] l.length (fun g v5 v6 wx => ∃ j : Nat, j + g = l.length ∧ v6 = .int .i64 j ∧ v5 = .bool (Gb.wi l x j) ∧ wx = w.alloc (Obj.cells #[.int .i64 k, .int .u8 a.toNat, .int .u8 b.toNat, .slice ao l.length cap] 33))
  case atStart => exact ⟨0, by omega, rfl, rfl, rfl⟩
  case round =>
    obtain ⟨j, hjg, rfl, rfl, rfl⟩ := hrel
    by_cases hlt : j < l.length
    · obtain ⟨ad, rfl, hcell⟩ := HC.out j hlt
      have hm := keep (Gb.wi_more (x := x) hlt)
      have hy := l[j].toNat_lt
      cases hq : Gb.wi l x j
      · have he := Gb.beq_int l[j] x
        obtain ⟨q, hq2⟩ : ∃ q, ((l[j].toNat : Int) == (x.toNat : Int)) = q := ⟨_, rfl⟩
        rw [hq2] at he
        have he := keep he
        cases q
        all_goals
          go_wp2
          go_roundg (l.length - (j + 1))
          case measure => omega
          case rel => exact ⟨j + 1, by omega, by go_num, by rw [hm.out, hq, he.out]; rfl, rfl⟩
      · go_wp2
        go_roundg (l.length - (j + 1))
        case measure => omega
        case rel => exact ⟨j + 1, by omega, by go_num, by rw [hm.out, hq]; rfl, rfl⟩
    · have hwi := keep (Gb.wi_all (l := l) (x := x) (j := j) (by omega))
      generalize hW : Gb.wi l x j = wv at *
      clear hW HC
      have hax := keep (Gb.beq_int a x)
      obtain ⟨bt, hbt⟩ : ∃ bt, Gb.btw a b x = bt := ⟨_, rfl⟩
      have hbt2 := keep hbt
      have hbv : (((a.toNat ≤ x.toNat ∧ x.toNat ≤ b.toNat) ∨ (b.toNat ≤ x.toNat ∧ x.toNat ≤ a.toNat)) ∧ bt = true) ∨ (¬ ((a.toNat ≤ x.toNat ∧ x.toNat ≤ b.toNat) ∨ (b.toNat ≤ x.toNat ∧ x.toNat ≤ a.toNat)) ∧ bt = false) := by
        by_cases h : (a.toNat ≤ x.toNat ∧ x.toNat ≤ b.toNat) ∨ (b.toNat ≤ x.toNat ∧ x.toNat ≤ a.toNat)
        · exact .inl ⟨h, by rw [← hbt, Gb.btw_yes h]⟩
        · exact .inr ⟨h, by rw [← hbt, Gb.btw_no h]⟩
      clear hbt
      have hk : k = 1 ∨ k = 3 ∨ k = 4 ∨ k = 5 ∨ k = 6 ∨ (k ≠ 1 ∧ k ≠ 3 ∧ k ≠ 4 ∧ k ≠ 5 ∧ k ≠ 6) := by omega
      by_cases p1 : (a.toNat : Int) ≤ (x.toNat : Int) <;> by_cases p2 : (x.toNat : Int) ≤ (b.toNat : Int) <;> by_cases p3 : (b.toNat : Int) ≤ (x.toNat : Int) <;> by_cases p4 : (x.toNat : Int) ≤ (a.toNat : Int)
      all_goals first | (exfalso; omega) | skip
      all_goals rcases hbv with ⟨hbv, rfl⟩ | ⟨hbv, rfl⟩
      all_goals first | (exfalso; omega) | skip
      all_goals clear hbv
      all_goals
        rcases hk with rfl | rfl | rfl | rfl | rfl | ⟨k1, k3, k4, k5, k6⟩
        · go_wp2
          go_ret
          exact ⟨ret_b rfl, bel_alloc _ _⟩
        · go_wp2
          go_ret
          exact ⟨ret_b (by rw [hwi.out]; rfl), bel_alloc _ _⟩
        · go_wp2
          go_ret
          exact ⟨ret_b (by rw [hwi.out]; rfl), bel_alloc _ _⟩
        · go_wp2
          go_ret
          exact ⟨ret_b hbt2.out.symm, bel_alloc _ _⟩
        · go_wp2
          go_ret
          exact ⟨ret_b (by show _ = !Gb.btw a b x; rw [hbt2.out]; rfl), bel_alloc _ _⟩
        · have e1 : (k == 1) = false := beq_eq_false_iff_ne.2 k1
          have e3 : (k == 3) = false := beq_eq_false_iff_ne.2 k3
          have e4 : (k == 4) = false := beq_eq_false_iff_ne.2 k4
          have e5 : (k == 5) = false := beq_eq_false_iff_ne.2 k5
          have e6 : (k == 6) = false := beq_eq_false_iff_ne.2 k6
          go_wp2
          go_ret
          exact ⟨ret_b (by unfold Gb.smeans; rw [if_neg k1, if_neg k3, if_neg k4, if_neg k5, if_neg k6, hax.out] <;> simp <;> omega), bel_alloc _ _⟩
end Go.Proofs.Ytekkpmonflpenaa
