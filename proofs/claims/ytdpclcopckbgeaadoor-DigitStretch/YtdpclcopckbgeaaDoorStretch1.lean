/-
  The law DigitStretch, way by way.
-/
import Derived.Test.YtdpclcopckbgeaaDoorStretch0
namespace Go.Proofs.YtdpclcopckbgeaaDoor
open Go.RowKit
set_option maxHeartbeats 1000000 in
theorem st_e_y (a b n : Int) (w : World) (ht : Tab w) (a1 : -9223372036854775808 ≤ a) (a2 : a ≤ 9223372036854775807) (b1 : -9223372036854775808 ≤ b) (b2 : b ≤ 9223372036854775807) (n1 : 0 < n) (n2 : n ≤ 1000) (f t A B : Int) (eA : Pl.cnt a n = A) (eB : Pl.cnt b n = B) (e1 : Pl.sp1 a b n = f) (e2 : Pl.sp2 a b n = t) (hf : f = 0) (hz : t = 0) (hk : ∀ k : Int, 0 ≤ k → k < n → ((A ≤ k ∧ ¬ k ≤ B) ∨ ¬ A ≤ k)) (ep : Pl.pl1 a n = A) (eo : Pl.inR a n = true) :
    Calls Tryd.prog 5 #[.int .i64 a, .int .i64 b, .int .i64 n] w fun e w' => e = .returned (.bool true) ∧ Below w.heap.size w w' := by
  have Kht := keep ht
  have KeA := keep eA
  have KeB := keep eB
  have Ke1 := keep e1
  have Ke2 := keep e2
  have Kep := keep ep
  have Keo := keep eo
  have Khk := keep hk
  clear ht eA eB e1 e2 ep eo hk
  subst hf
  subst hz
  have c1 : ¬ n ≤ 0 := by omega
  have c2 : ¬ 1000 < n := by omega
  go_enter Tryd.func5, Tryd.ntmps5
  go_wp2_with fail
  refine (wakes_any _ Kht.out).mono ?_
  rintro e w1 ⟨rfl, hb⟩
  go_wp2_with fail
  refine (span_at _ a1 a2 b1 b2 (by omega) (row_pos n1) Ke1.out Ke2.out).mono ?_
  rintro e w' ⟨rfl, rfl⟩
  go_wp2_with fail
  refine (place_at _ a1 a2 (by omega) (row_pos n1) Kep.out Keo.out).mono ?_
  rintro e w' ⟨rfl, rfl⟩
  go_wp2
  go_loop [13, 64] (fun s i => ∃ k : Nat, (k : Int) ≤ n ∧ i = .int .i64 k ∧ s = .bool false) (fun _ i => (n - intOf i).toNat)
  case atStart => exact ⟨0, by omega, rfl, rfl⟩
  case round =>
    obtain ⟨k, hkn, rfl, rfl⟩ := hrel
    by_cases hlt : (k : Int) < n
    · have hk0 : 0 ≤ (k : Int) := by omega
      by_cases hkA : (k : Int) = A
      · have q1 : ((k : Int) == A) = true := beq_iff_eq.2 hkA
        have q2 : (A == (k : Int)) = true := beq_iff_eq.2 hkA.symm
        have KkA := keep hkA
        clear hkA
        rcases Khk.out k hk0 hlt with ⟨d1, d2⟩ | d1
        · clear Kep
          go_wp2_with fail
          refine (counted_at _ a1 a2 n1 n2 KeA.out).mono ?_
          rintro e w' ⟨rfl, rfl⟩
          go_wp2_with fail
          refine (counted_at _ b1 b2 n1 n2 KeB.out).mono ?_
          rintro e w' ⟨rfl, rfl⟩
          go_wp2_with fail
          refine (counted_at _ a1 a2 n1 n2 KeA.out).mono ?_
          rintro e w' ⟨rfl, rfl⟩
          go_wp2
          go_round
          case rel => exact ⟨k + 1, by omega, by go_num, rfl⟩
          case measure => simp [intOf]; omega
        · clear Kep
          go_wp2_with fail
          refine (counted_at _ a1 a2 n1 n2 KeA.out).mono ?_
          rintro e w' ⟨rfl, rfl⟩
          go_wp2_with fail
          refine (counted_at _ a1 a2 n1 n2 KeA.out).mono ?_
          rintro e w' ⟨rfl, rfl⟩
          go_wp2
          go_round
          case rel => exact ⟨k + 1, by omega, by go_num, rfl⟩
          case measure => simp [intOf]; omega
      · have q1 : ((k : Int) == A) = false := beq_eq_false_iff_ne.2 hkA
        have q2 : (A == (k : Int)) = false := beq_eq_false_iff_ne.2 (Ne.symm hkA)
        clear hkA
        rcases Khk.out k hk0 hlt with ⟨d1, d2⟩ | d1
        · clear Kep
          go_wp2_with fail
          refine (counted_at _ a1 a2 n1 n2 KeA.out).mono ?_
          rintro e w' ⟨rfl, rfl⟩
          go_wp2_with fail
          refine (counted_at _ b1 b2 n1 n2 KeB.out).mono ?_
          rintro e w' ⟨rfl, rfl⟩
          go_wp2_with fail
          refine (counted_at _ a1 a2 n1 n2 KeA.out).mono ?_
          rintro e w' ⟨rfl, rfl⟩
          go_wp2
          go_round
          case rel => exact ⟨k + 1, by omega, by go_num, rfl⟩
          case measure => simp [intOf]; omega
        · clear Kep
          go_wp2_with fail
          refine (counted_at _ a1 a2 n1 n2 KeA.out).mono ?_
          rintro e w' ⟨rfl, rfl⟩
          go_wp2_with fail
          refine (counted_at _ a1 a2 n1 n2 KeA.out).mono ?_
          rintro e w' ⟨rfl, rfl⟩
          go_wp2
          go_round
          case rel => exact ⟨k + 1, by omega, by go_num, rfl⟩
          case measure => simp [intOf]; omega
    · go_wp2
      go_ret
      exact ⟨rfl, hb⟩
set_option maxHeartbeats 1000000 in
theorem st_e_n (a b n : Int) (w : World) (ht : Tab w) (a1 : -9223372036854775808 ≤ a) (a2 : a ≤ 9223372036854775807) (b1 : -9223372036854775808 ≤ b) (b2 : b ≤ 9223372036854775807) (n1 : 0 < n) (n2 : n ≤ 1000) (f t A B : Int) (eA : Pl.cnt a n = A) (eB : Pl.cnt b n = B) (e1 : Pl.sp1 a b n = f) (e2 : Pl.sp2 a b n = t) (hf : f = 0) (hz : t = 0) (hk : ∀ k : Int, 0 ≤ k → k < n → ((A ≤ k ∧ ¬ k ≤ B) ∨ ¬ A ≤ k)) (ep : Pl.pl1 a n = 0) (eo : Pl.inR a n = false) (hno : ∀ k : Int, 0 ≤ k → k < n → k ≠ A) :
    Calls Tryd.prog 5 #[.int .i64 a, .int .i64 b, .int .i64 n] w fun e w' => e = .returned (.bool true) ∧ Below w.heap.size w w' := by
  have Kht := keep ht
  have KeA := keep eA
  have KeB := keep eB
  have Ke1 := keep e1
  have Ke2 := keep e2
  have Kep := keep ep
  have Keo := keep eo
  have Khk := keep hk
  have Khno := keep hno
  clear ht eA eB e1 e2 ep eo hk hno
  subst hf
  subst hz
  have c1 : ¬ n ≤ 0 := by omega
  have c2 : ¬ 1000 < n := by omega
  go_enter Tryd.func5, Tryd.ntmps5
  go_wp2_with fail
  refine (wakes_any _ Kht.out).mono ?_
  rintro e w1 ⟨rfl, hb⟩
  go_wp2_with fail
  refine (span_at _ a1 a2 b1 b2 (by omega) (row_pos n1) Ke1.out Ke2.out).mono ?_
  rintro e w' ⟨rfl, rfl⟩
  go_wp2_with fail
  refine (place_at _ a1 a2 (by omega) (row_pos n1) Kep.out Keo.out).mono ?_
  rintro e w' ⟨rfl, rfl⟩
  go_wp2
  go_loop [13, 64] (fun s i => ∃ k : Nat, (k : Int) ≤ n ∧ i = .int .i64 k ∧ s = .bool false) (fun _ i => (n - intOf i).toNat)
  case atStart => exact ⟨0, by omega, rfl, rfl⟩
  case round =>
    obtain ⟨k, hkn, rfl, rfl⟩ := hrel
    by_cases hlt : (k : Int) < n
    · have hk0 : 0 ≤ (k : Int) := by omega
      have q1 : ((k : Int) == A) = false := beq_eq_false_iff_ne.2 (Khno.out k hk0 hlt)
      rcases Khk.out k hk0 hlt with ⟨d1, d2⟩ | d1
      · clear Kep
        go_wp2_with fail
        refine (counted_at _ a1 a2 n1 n2 KeA.out).mono ?_
        rintro e w' ⟨rfl, rfl⟩
        go_wp2_with fail
        refine (counted_at _ b1 b2 n1 n2 KeB.out).mono ?_
        rintro e w' ⟨rfl, rfl⟩
        go_wp2_with fail
        refine (counted_at _ a1 a2 n1 n2 KeA.out).mono ?_
        rintro e w' ⟨rfl, rfl⟩
        go_wp2
        go_round
        case rel => exact ⟨k + 1, by omega, by go_num, rfl⟩
        case measure => simp [intOf]; omega
      · clear Kep
        go_wp2_with fail
        refine (counted_at _ a1 a2 n1 n2 KeA.out).mono ?_
        rintro e w' ⟨rfl, rfl⟩
        go_wp2_with fail
        refine (counted_at _ a1 a2 n1 n2 KeA.out).mono ?_
        rintro e w' ⟨rfl, rfl⟩
        go_wp2
        go_round
        case rel => exact ⟨k + 1, by omega, by go_num, rfl⟩
        case measure => simp [intOf]; omega
    · go_wp2
      go_ret
      exact ⟨rfl, hb⟩
set_option maxHeartbeats 1000000 in
theorem st_s_y (a b n : Int) (w : World) (ht : Tab w) (a1 : -9223372036854775808 ≤ a) (a2 : a ≤ 9223372036854775807) (b1 : -9223372036854775808 ≤ b) (b2 : b ≤ 9223372036854775807) (n1 : 0 < n) (n2 : n ≤ 1000) (f t A B : Int) (eA : Pl.cnt a n = A) (eB : Pl.cnt b n = B) (e1 : Pl.sp1 a b n = f) (e2 : Pl.sp2 a b n = t) (f0 : 0 ≤ f) (f1 : f < t) (f2 : t ≤ n) (hk : ∀ k : Int, 0 ≤ k → k < n → ((A ≤ k ∧ k ≤ B ∧ f ≤ k ∧ k < t) ∨ (A ≤ k ∧ ¬ k ≤ B ∧ f ≤ k ∧ ¬ k < t) ∨ (¬ A ≤ k ∧ ¬ f ≤ k))) (ep : Pl.pl1 a n = A) (eo : Pl.inR a n = true) :
    Calls Tryd.prog 5 #[.int .i64 a, .int .i64 b, .int .i64 n] w fun e w' => e = .returned (.bool true) ∧ Below w.heap.size w w' := by
  have Kht := keep ht
  have KeA := keep eA
  have KeB := keep eB
  have Ke1 := keep e1
  have Ke2 := keep e2
  have Kep := keep ep
  have Keo := keep eo
  have Khk := keep hk
  clear ht eA eB e1 e2 ep eo hk
  have c1 : ¬ n ≤ 0 := by omega
  have c2 : ¬ 1000 < n := by omega
  go_enter Tryd.func5, Tryd.ntmps5
  go_wp2_with fail
  refine (wakes_any _ Kht.out).mono ?_
  rintro e w1 ⟨rfl, hb⟩
  go_wp2_with fail
  refine (span_at _ a1 a2 b1 b2 (by omega) (row_pos n1) Ke1.out Ke2.out).mono ?_
  rintro e w' ⟨rfl, rfl⟩
  go_wp2_with fail
  refine (place_at _ a1 a2 (by omega) (row_pos n1) Kep.out Keo.out).mono ?_
  rintro e w' ⟨rfl, rfl⟩
  go_wp2
  go_loop [13, 64] (fun s i => ∃ (k : Nat) (g : Bool), (k : Int) ≤ n ∧ i = .int .i64 k ∧ s = .bool g ∧ (g = true ↔ f < (k : Int))) (fun _ i => (n - intOf i).toNat)
  case atStart => exact ⟨0, false, by omega, rfl, rfl, by simp; omega⟩
  case round =>
    obtain ⟨k, g, hkn, rfl, rfl, hg⟩ := hrel
    have Kg := keep hg
    clear hg
    by_cases hlt : (k : Int) < n
    · have hk0 : 0 ≤ (k : Int) := by omega
      by_cases hkA : (k : Int) = A
      · have q1 : ((k : Int) == A) = true := beq_iff_eq.2 hkA
        have q2 : (A == (k : Int)) = true := beq_iff_eq.2 hkA.symm
        have KkA := keep hkA
        clear hkA
        rcases Khk.out k hk0 hlt with ⟨d1, d2, d3, d4⟩ | ⟨d1, d2, d3, d4⟩ | ⟨d1, d3⟩
        · cases g
          · have gz : ¬ f < (k : Int) := by have := Kg.out; simpa using this
            go_wp2_with fail
            refine (counted_at _ a1 a2 n1 n2 KeA.out).mono ?_
            rintro e w' ⟨rfl, rfl⟩
            go_wp2_with fail
            refine (counted_at _ b1 b2 n1 n2 KeB.out).mono ?_
            rintro e w' ⟨rfl, rfl⟩
            go_wp2_with fail
            refine (counted_at _ a1 a2 n1 n2 KeA.out).mono ?_
            rintro e w' ⟨rfl, rfl⟩
            go_wp2
            go_round
            case rel => exact ⟨k + 1, true, by omega, by go_num, rfl, by simp; omega⟩
            case measure => simp [intOf]; omega
          · have gz : f < (k : Int) := by have := Kg.out; simpa using this
            go_wp2_with fail
            refine (counted_at _ a1 a2 n1 n2 KeA.out).mono ?_
            rintro e w' ⟨rfl, rfl⟩
            go_wp2_with fail
            refine (counted_at _ b1 b2 n1 n2 KeB.out).mono ?_
            rintro e w' ⟨rfl, rfl⟩
            go_wp2_with fail
            refine (counted_at _ a1 a2 n1 n2 KeA.out).mono ?_
            rintro e w' ⟨rfl, rfl⟩
            go_wp2
            go_round
            case rel => exact ⟨k + 1, true, by omega, by go_num, rfl, by simp; omega⟩
            case measure => simp [intOf]; omega
        · cases g
          · have gz : ¬ f < (k : Int) := by have := Kg.out; simpa using this
            omega
          · have gz : f < (k : Int) := by have := Kg.out; simpa using this
            go_wp2_with fail
            refine (counted_at _ a1 a2 n1 n2 KeA.out).mono ?_
            rintro e w' ⟨rfl, rfl⟩
            go_wp2_with fail
            refine (counted_at _ b1 b2 n1 n2 KeB.out).mono ?_
            rintro e w' ⟨rfl, rfl⟩
            go_wp2_with fail
            refine (counted_at _ a1 a2 n1 n2 KeA.out).mono ?_
            rintro e w' ⟨rfl, rfl⟩
            go_wp2
            go_round
            case rel => exact ⟨k + 1, true, by omega, by go_num, rfl, by simp; omega⟩
            case measure => simp [intOf]; omega
        · cases g
          · have gz : ¬ f < (k : Int) := by have := Kg.out; simpa using this
            go_wp2_with fail
            refine (counted_at _ a1 a2 n1 n2 KeA.out).mono ?_
            rintro e w' ⟨rfl, rfl⟩
            go_wp2_with fail
            refine (counted_at _ a1 a2 n1 n2 KeA.out).mono ?_
            rintro e w' ⟨rfl, rfl⟩
            go_wp2
            go_round
            case rel => exact ⟨k + 1, false, by omega, by go_num, rfl, by simp; omega⟩
            case measure => simp [intOf]; omega
          · have gz : f < (k : Int) := by have := Kg.out; simpa using this
            omega
      · have q1 : ((k : Int) == A) = false := beq_eq_false_iff_ne.2 hkA
        have q2 : (A == (k : Int)) = false := beq_eq_false_iff_ne.2 (Ne.symm hkA)
        clear hkA
        rcases Khk.out k hk0 hlt with ⟨d1, d2, d3, d4⟩ | ⟨d1, d2, d3, d4⟩ | ⟨d1, d3⟩
        · cases g
          · have gz : ¬ f < (k : Int) := by have := Kg.out; simpa using this
            go_wp2_with fail
            refine (counted_at _ a1 a2 n1 n2 KeA.out).mono ?_
            rintro e w' ⟨rfl, rfl⟩
            go_wp2_with fail
            refine (counted_at _ b1 b2 n1 n2 KeB.out).mono ?_
            rintro e w' ⟨rfl, rfl⟩
            go_wp2_with fail
            refine (counted_at _ a1 a2 n1 n2 KeA.out).mono ?_
            rintro e w' ⟨rfl, rfl⟩
            go_wp2
            go_round
            case rel => exact ⟨k + 1, true, by omega, by go_num, rfl, by simp; omega⟩
            case measure => simp [intOf]; omega
          · have gz : f < (k : Int) := by have := Kg.out; simpa using this
            go_wp2_with fail
            refine (counted_at _ a1 a2 n1 n2 KeA.out).mono ?_
            rintro e w' ⟨rfl, rfl⟩
            go_wp2_with fail
            refine (counted_at _ b1 b2 n1 n2 KeB.out).mono ?_
            rintro e w' ⟨rfl, rfl⟩
            go_wp2_with fail
            refine (counted_at _ a1 a2 n1 n2 KeA.out).mono ?_
            rintro e w' ⟨rfl, rfl⟩
            go_wp2
            go_round
            case rel => exact ⟨k + 1, true, by omega, by go_num, rfl, by simp; omega⟩
            case measure => simp [intOf]; omega
        · cases g
          · have gz : ¬ f < (k : Int) := by have := Kg.out; simpa using this
            omega
          · have gz : f < (k : Int) := by have := Kg.out; simpa using this
            go_wp2_with fail
            refine (counted_at _ a1 a2 n1 n2 KeA.out).mono ?_
            rintro e w' ⟨rfl, rfl⟩
            go_wp2_with fail
            refine (counted_at _ b1 b2 n1 n2 KeB.out).mono ?_
            rintro e w' ⟨rfl, rfl⟩
            go_wp2_with fail
            refine (counted_at _ a1 a2 n1 n2 KeA.out).mono ?_
            rintro e w' ⟨rfl, rfl⟩
            go_wp2
            go_round
            case rel => exact ⟨k + 1, true, by omega, by go_num, rfl, by simp; omega⟩
            case measure => simp [intOf]; omega
        · cases g
          · have gz : ¬ f < (k : Int) := by have := Kg.out; simpa using this
            go_wp2_with fail
            refine (counted_at _ a1 a2 n1 n2 KeA.out).mono ?_
            rintro e w' ⟨rfl, rfl⟩
            go_wp2_with fail
            refine (counted_at _ a1 a2 n1 n2 KeA.out).mono ?_
            rintro e w' ⟨rfl, rfl⟩
            go_wp2
            go_round
            case rel => exact ⟨k + 1, false, by omega, by go_num, rfl, by simp; omega⟩
            case measure => simp [intOf]; omega
          · have gz : f < (k : Int) := by have := Kg.out; simpa using this
            omega
    · have gz : g = true := Kg.out.2 (by omega)
      subst gz
      go_wp2
      go_ret
      exact ⟨rfl, hb⟩
set_option maxHeartbeats 1000000 in
theorem st_s_n (a b n : Int) (w : World) (ht : Tab w) (a1 : -9223372036854775808 ≤ a) (a2 : a ≤ 9223372036854775807) (b1 : -9223372036854775808 ≤ b) (b2 : b ≤ 9223372036854775807) (n1 : 0 < n) (n2 : n ≤ 1000) (f t A B : Int) (eA : Pl.cnt a n = A) (eB : Pl.cnt b n = B) (e1 : Pl.sp1 a b n = f) (e2 : Pl.sp2 a b n = t) (f0 : 0 ≤ f) (f1 : f < t) (f2 : t ≤ n) (hk : ∀ k : Int, 0 ≤ k → k < n → ((A ≤ k ∧ k ≤ B ∧ f ≤ k ∧ k < t) ∨ (A ≤ k ∧ ¬ k ≤ B ∧ f ≤ k ∧ ¬ k < t) ∨ (¬ A ≤ k ∧ ¬ f ≤ k))) (ep : Pl.pl1 a n = 0) (eo : Pl.inR a n = false) (hno : ∀ k : Int, 0 ≤ k → k < n → k ≠ A) :
    Calls Tryd.prog 5 #[.int .i64 a, .int .i64 b, .int .i64 n] w fun e w' => e = .returned (.bool true) ∧ Below w.heap.size w w' := by
  have Kht := keep ht
  have KeA := keep eA
  have KeB := keep eB
  have Ke1 := keep e1
  have Ke2 := keep e2
  have Kep := keep ep
  have Keo := keep eo
  have Khk := keep hk
  have Khno := keep hno
  clear ht eA eB e1 e2 ep eo hk hno
  have c1 : ¬ n ≤ 0 := by omega
  have c2 : ¬ 1000 < n := by omega
  go_enter Tryd.func5, Tryd.ntmps5
  go_wp2_with fail
  refine (wakes_any _ Kht.out).mono ?_
  rintro e w1 ⟨rfl, hb⟩
  go_wp2_with fail
  refine (span_at _ a1 a2 b1 b2 (by omega) (row_pos n1) Ke1.out Ke2.out).mono ?_
  rintro e w' ⟨rfl, rfl⟩
  go_wp2_with fail
  refine (place_at _ a1 a2 (by omega) (row_pos n1) Kep.out Keo.out).mono ?_
  rintro e w' ⟨rfl, rfl⟩
  go_wp2
  go_loop [13, 64] (fun s i => ∃ (k : Nat) (g : Bool), (k : Int) ≤ n ∧ i = .int .i64 k ∧ s = .bool g ∧ (g = true ↔ f < (k : Int))) (fun _ i => (n - intOf i).toNat)
  case atStart => exact ⟨0, false, by omega, rfl, rfl, by simp; omega⟩
  case round =>
    obtain ⟨k, g, hkn, rfl, rfl, hg⟩ := hrel
    have Kg := keep hg
    clear hg
    by_cases hlt : (k : Int) < n
    · have hk0 : 0 ≤ (k : Int) := by omega
      have q1 : ((k : Int) == A) = false := beq_eq_false_iff_ne.2 (Khno.out k hk0 hlt)
      rcases Khk.out k hk0 hlt with ⟨d1, d2, d3, d4⟩ | ⟨d1, d2, d3, d4⟩ | ⟨d1, d3⟩
      · cases g
        · have gz : ¬ f < (k : Int) := by have := Kg.out; simpa using this
          go_wp2_with fail
          refine (counted_at _ a1 a2 n1 n2 KeA.out).mono ?_
          rintro e w' ⟨rfl, rfl⟩
          go_wp2_with fail
          refine (counted_at _ b1 b2 n1 n2 KeB.out).mono ?_
          rintro e w' ⟨rfl, rfl⟩
          go_wp2_with fail
          refine (counted_at _ a1 a2 n1 n2 KeA.out).mono ?_
          rintro e w' ⟨rfl, rfl⟩
          go_wp2
          go_round
          case rel => exact ⟨k + 1, true, by omega, by go_num, rfl, by simp; omega⟩
          case measure => simp [intOf]; omega
        · have gz : f < (k : Int) := by have := Kg.out; simpa using this
          go_wp2_with fail
          refine (counted_at _ a1 a2 n1 n2 KeA.out).mono ?_
          rintro e w' ⟨rfl, rfl⟩
          go_wp2_with fail
          refine (counted_at _ b1 b2 n1 n2 KeB.out).mono ?_
          rintro e w' ⟨rfl, rfl⟩
          go_wp2_with fail
          refine (counted_at _ a1 a2 n1 n2 KeA.out).mono ?_
          rintro e w' ⟨rfl, rfl⟩
          go_wp2
          go_round
          case rel => exact ⟨k + 1, true, by omega, by go_num, rfl, by simp; omega⟩
          case measure => simp [intOf]; omega
      · cases g
        · have gz : ¬ f < (k : Int) := by have := Kg.out; simpa using this
          omega
        · have gz : f < (k : Int) := by have := Kg.out; simpa using this
          go_wp2_with fail
          refine (counted_at _ a1 a2 n1 n2 KeA.out).mono ?_
          rintro e w' ⟨rfl, rfl⟩
          go_wp2_with fail
          refine (counted_at _ b1 b2 n1 n2 KeB.out).mono ?_
          rintro e w' ⟨rfl, rfl⟩
          go_wp2_with fail
          refine (counted_at _ a1 a2 n1 n2 KeA.out).mono ?_
          rintro e w' ⟨rfl, rfl⟩
          go_wp2
          go_round
          case rel => exact ⟨k + 1, true, by omega, by go_num, rfl, by simp; omega⟩
          case measure => simp [intOf]; omega
      · cases g
        · have gz : ¬ f < (k : Int) := by have := Kg.out; simpa using this
          go_wp2_with fail
          refine (counted_at _ a1 a2 n1 n2 KeA.out).mono ?_
          rintro e w' ⟨rfl, rfl⟩
          go_wp2_with fail
          refine (counted_at _ a1 a2 n1 n2 KeA.out).mono ?_
          rintro e w' ⟨rfl, rfl⟩
          go_wp2
          go_round
          case rel => exact ⟨k + 1, false, by omega, by go_num, rfl, by simp; omega⟩
          case measure => simp [intOf]; omega
        · have gz : f < (k : Int) := by have := Kg.out; simpa using this
          omega
    · have gz : g = true := Kg.out.2 (by omega)
      subst gz
      go_wp2
      go_ret
      exact ⟨rfl, hb⟩
end Go.Proofs.YtdpclcopckbgeaaDoor
