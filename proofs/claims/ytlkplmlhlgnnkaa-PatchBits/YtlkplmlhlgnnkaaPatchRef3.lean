/-
  Contracts over this program: the document's own SetBit at any input.
-/
import Derived.Test.YtlkplmlhlgnnkaaPatchRef2
namespace Go.Proofs.Ytlkplmlhlgnnkaa
open Go.RowKit
set_option linter.unusedVariables false
theorem ref_byte : ∀ (c : Fin 256) (r : Fin 8), (c.val / 2 ^ r.val % 2 = 0 → Pt.pb c.val r.val 0 = c.val ∧ IntKind.u8.wrap ((c.val : Int) + ((2 ^ r.val : Nat) : Int)) = (Pt.pb c.val r.val 1 : Nat)) ∧ (c.val / 2 ^ r.val % 2 = 1 → Pt.pb c.val r.val 1 = c.val ∧ IntKind.u8.wrap ((c.val : Int) - ((2 ^ r.val : Nat) : Int)) = (Pt.pb c.val r.val 0 : Nat)) := by decide +kernel
theorem dbl : ∀ r : Fin 8, r.val < 7 → IntKind.u8.wrap (((2 ^ r.val : Nat) : Int) * 2) = ((2 ^ (r.val + 1) : Nat) : Int) := by decide +kernel
theorem ref_plus (z : UInt8) (r was b : Nat) (hr : r < 8) (hb : b < 2) (hw : was = z.toNat / 2 ^ r % 2) :
    (was = b → UInt8.ofNat (Pt.pb z.toNat r b) = z) ∧ (b = 1 → was ≠ b → ∀ W : Nat, W = 2 ^ r → ((z.toNat : Int) + (W : Int)) % 256 = ((UInt8.ofNat (Pt.pb z.toNat r b)).toNat : Int)) ∧ (b = 0 → was ≠ b → ∀ W : Nat, W = 2 ^ r → ((z.toNat : Int) - (W : Int)) % 256 = ((UInt8.ofNat (Pt.pb z.toNat r b)).toNat : Int)) := by
  obtain ⟨h0, h1⟩ := ref_byte ⟨z.toNat, UInt8.toNat_lt _⟩ ⟨r, hr⟩
  have hp := (Pt.pb_small ⟨z.toNat, UInt8.toNat_lt _⟩ ⟨r, hr⟩ ⟨b, hb⟩).1
  simp only at h0 h1 hp
  rw [← hw] at h0 h1
  have hw2 : was < 2 := by rw [hw]; exact Nat.mod_lt _ (by decide)
  refine ⟨fun e => ?_, fun e n W hW => ?_, fun e n W hW => ?_⟩
  · rcases (show b = 0 ∨ b = 1 by omega) with rfl | rfl
    · rw [(h0 e).1]; simp
    · rw [(h1 e).1]; simp
  · subst e hW
    rw [Pt.ofNat_toNat hp]
    have := (h0 (by omega)).2
    rw [IntKind.wrap_u8] at this
    exact this
  · subst e hW
    rw [Pt.ofNat_toNat hp]
    have := (h1 (by omega)).2
    rw [IntKind.wrap_u8] at this
    exact this
theorem two_pow_le {k r : Nat} (h : k ≤ r) (hr : r < 8) : 2 ^ k ≤ 128 := Nat.le_trans (Nat.pow_le_pow_right (by omega) (by omega : k ≤ 7)) (by decide)
theorem ret_sii {a b : ByteArray} {c d e f : Int} {k : IntKind} (h : a = b) (g : c = d) (i : e = f) : Ending.returned (.tuple #[.string a, .int k c, .int k e]) = .returned (.tuple #[.string b, .int k d, .int k f]) := by rw [h, g, i]
set_option maxRecDepth 100000 in
set_option maxHeartbeats 4000000 in
theorem rset_go (s : ByteArray) (p b : Nat) (w : World) (hs : s.size ≤ 1048576) (hp : p < 8388608) (hb : b < 2) :
    Calls Try.prog 19 #[.string s, .int .i64 p, .int .i64 b] w fun e w' => e = .returned (.tuple #[.string ⟨(Pt.setb s.data.toList p b).toArray⟩, .int .i64 (Pt.bt s.data.toList p : Nat), .int .i64 0]) ∧ Below w.heap.size w w' := by
  have ol := Pt.setb_len s.data.toList p b
  have oa := Pt.setb_at s.data.toList p b
  rw [len_is] at ol
  have RA := keep fun (i : Nat) w => rat_any s i w (Nat.le_trans hs (by decide))
  have RB := keep fun w => rbit_any s p w (Nat.le_trans hs (by decide)) (by omega)
  have hwas : Pt.bt s.data.toList p = (s.data.toList.getD (p / 8) 0).toNat / 2 ^ (7 - p % 8) % 2 := rfl
  have hw2 := Pt.bt_le s.data.toList p
  generalize Pt.setb s.data.toList p b = O at *
  generalize Pt.bt s.data.toList p = was at *
  obtain ⟨q, hq⟩ : ∃ q, q = p / 8 := ⟨_, rfl⟩
  obtain ⟨r, hr⟩ : ∃ r, r = 7 - p % 8 := ⟨_, rfl⟩
  rw [← hq] at ol oa hwas
  rw [← hr] at oa hwas
  have q1 : (p : Int) / 8 = (q : Int) := by omega
  have r1 : (7 : Int) - (p : Int) % 8 = (r : Int) := by omega
  have r8 : r < 8 := by omega
  obtain ⟨n, hn⟩ : ∃ n, n = max s.size (q + 1) := ⟨_, rfl⟩
  rw [← hn] at ol
  obtain ⟨w1, m1, m2, m3⟩ := make_bytes w n (Nat.le_trans (by omega : n ≤ 1048576) (by decide))
  have K0 := keep m2
  have B0 := keep m3
  have OA := keep oa
  have OL := keep ol
  have i0 : decide ((p : Int) < 0) = false := decide_eq_false (by omega)
  have i1 : decide (1073741824 ≤ (p : Int)) = false := decide_eq_false (by omega)
  have i2 : decide ((b : Int) < 0) = false := decide_eq_false (by omega)
  have i3 : decide (1 < (b : Int)) = false := decide_eq_false (by omega)
  have i4 : decide (1048576 < (s.size : Int)) = false := decide_eq_false (by omega)
  have i5 : decide (8388608 ≤ (p : Int)) = false := decide_eq_false (by omega)
  have qb : (q : Int) ≤ 1048575 := by omega
  have hM : (decide ((q : Int) + 1 < (s.size : Int)) = true ∧ n = s.size) ∨ (decide ((q : Int) + 1 < (s.size : Int)) = false ∧ n = q + 1) := by
    by_cases c : (q : Int) + 1 < (s.size : Int)
    · exact .inl ⟨decide_eq_true c, by omega⟩
    · exact .inr ⟨decide_eq_false c, by omega⟩
  have O0 := keep (show O.take n = O from List.take_of_length_le (by rw [OL.out]; omega))
  have nb : (n : Int) ≤ 1048576 := by omega
  have NB : Kept (n ≤ 1048576) := by show n ≤ 1048576; omega
  have PL := keep (ref_plus (s.data.toList.getD q 0) r was b r8 hb hwas)
  clear oa m2 m3 ol hs hp hn hwas hq hr
  rcases hM with ⟨h1, rfl⟩ | ⟨h1, hn1⟩
  · go_enter Try.func19, Try.ntmps19
    go_wp2_with fail
    refine (RB.out _).mono ?_
    rintro e w' ⟨rfl, rfl⟩
    go_wp2
    go_loopw [12, 53] (fun u i wr => ∃ (j : Nat), j ≤ s.size ∧ i = .int .i64 j ∧ Kept (Kb w'.heap.size wr u (O.take j)) ∧ Kept (Below w'.heap.size w' wr)) (fun _ i _ => s.size - (intOf i).toNat)
    case atStart => exact ⟨0, Nat.zero_le _, rfl, K0, B0⟩
    case round =>
      obtain ⟨j, hj, rfl, KK, KB⟩ := hrel
      obtain ⟨ua, uc, hu⟩ := KK.out.len
      by_cases hlt : j < s.size
      · have hz : (j : Int) < (s.size : Int) := by omega
        have hll : (O.take j).length + 1 ≤ 140737488351232 := by rw [List.length_take, OL.out]; have := NB.out; omega
        obtain ⟨v', w2, r1', r2, r3⟩ := app_byte w'.heap.size wr _ _ (O.getD j 0) KK.out KB.out.size hll
        rw [← take_more O j (by rw [OL.out]; exact hlt)] at r2
        have oj := OA.out j
        have R2 := keep r2
        have R3 := keep (KB.out.trans r3)
        have RJ := keep (RA.out j)
        subst hu
        clear r2 r3 hll KK
        generalize (O.take j).length = LL at *
        by_cases c1 : j = q
        · have c2 : ((j : Int) == (q : Int)) = true := beq_iff_eq.2 (by omega)
          have c2' : (j == q) = true := beq_iff_eq.2 c1
          subst c1
          rw [if_pos rfl] at oj
          obtain ⟨P1, P2, P3⟩ := PL.out
          generalize s.data.toList.getD j 0 = z at *
          generalize UInt8.ofNat (Pt.pb z.toNat r b) = y at *
          rw [oj] at r1'
          clear oj
          by_cases c3 : was = b
          · have ez := P1 c3
            subst ez
            have c4 : ((was : Int) != (b : Int)) = false := by rw [c3]; exact ne_self _
            have R1 := keep r1'
            clear r1' P1 P2 P3 c3
            go_wp2_with fail
            refine (RJ.out _).mono ?_
            rintro e w3 ⟨rfl, hw⟩
            obtain rfl := hw.symm
            go_wp2_with (first | (at_builtin; refine wpList_app_run rfl _ _ _ _ rfl _ _ _ rfl rfl R1.out ?_))
            go_roundw
            case measure => simp [intOf]; omega
            case rel => exact ⟨j + 1, by omega, by go_num, R2, R3⟩
          · have c4 : ((was : Int) != (b : Int)) = true := by simp; omega
            have Q2 := keep fun h => P2 h c3
            have Q3 := keep fun h => P3 h c3
            have R1 := keep r1'
            clear r1' P1 P2 P3 c3
            go_wp2_with fail
            refine (RJ.out _).mono ?_
            rintro e w3 ⟨rfl, hw⟩
            obtain rfl := hw.symm
            go_wp2
            obtain ⟨wo, hwo⟩ : ∃ x, x = wr := ⟨_, rfl⟩
            subst hwo
            go_loopw [15, 71] (fun u i wr => ∃ (k : Nat), k ≤ r ∧ i = .int .i64 k ∧ u = .int .u8 (2 ^ k : Nat) ∧ wr = wo) (fun _ i _ => r - (intOf i).toNat)
            case atStart => exact ⟨0, Nat.zero_le _, rfl, rfl, rfl⟩
            case round =>
              obtain ⟨k, hk, rfl, rfl, hw⟩ := hrel
              obtain rfl := hw.symm
              by_cases hlk : k < r
              · have hzk : (k : Int) < (r : Int) := by omega
                have e1 := two_pow_le (k := k) (by omega) r8
                have e2 := two_pow_le (k := k + 1) (by omega) r8
                obtain ⟨y2, hy2⟩ : ∃ y2, y2 = 2 ^ (k + 1) := ⟨_, rfl⟩
                have hy3 : y2 = 2 ^ k * 2 := by rw [hy2, Nat.pow_succ]
                rw [← hy2] at e2
                generalize 2 ^ k = x at *
                have e4 : (x : Int) * 2 % 256 = (y2 : Int) := by omega
                have HY := keep hy2
                clear hy2 hy3
                go_wp2
                exact ⟨⟨k + 1, by omega, by go_num, by rw [e4, HY.out], trivial⟩, by simp [intOf]; omega⟩
              · obtain rfl : k = r := by omega
                have hzk : ¬ (k : Int) < (k : Int) := by omega
                rcases (show b = 0 ∨ b = 1 by omega) with hb0 | hb1
                · have qq := Q3.out hb0 (2 ^ k) rfl
                  have e1 := two_pow_le (k := k) (by omega) r8
                  subst hb0
                  generalize 2 ^ k = W at *
                  go_wp2_with (first | (at_builtin; refine wpList_app_run rfl _ _ _ _ rfl _ _ _ rfl rfl R1.out ?_))
                  go_roundw
                  case measure => simp [intOf]; omega
                  case rel =>
                    refine ⟨_, _, _, _, _, ?_, rfl, rfl, rfl, rfl, rfl⟩
                    exact ⟨j + 1, by omega, by go_num, R2⟩
                · have qq := Q2.out hb1 (2 ^ k) rfl
                  have e1 := two_pow_le (k := k) (by omega) r8
                  subst hb1
                  generalize 2 ^ k = W at *
                  go_wp2_with (first | (at_builtin; refine wpList_app_run rfl _ _ _ _ rfl _ _ _ rfl rfl R1.out ?_))
                  go_roundw
                  case measure => simp [intOf]; omega
                  case rel =>
                    refine ⟨_, _, _, _, _, ?_, rfl, rfl, rfl, rfl, rfl⟩
                    exact ⟨j + 1, by omega, by go_num, R2⟩
        · rw [if_neg c1] at oj
          rw [oj] at r1'
          generalize s.data.toList.getD j 0 = z at *
          have R1 := keep r1'
          have c2 : ((j : Int) == (q : Int)) = false := beq_eq_false_iff_ne.2 (by omega)
          have c2' : (j == q) = false := beq_eq_false_iff_ne.2 c1
          clear r1' oj c1
          go_wp2_with fail
          refine (RJ.out _).mono ?_
          rintro e w3 ⟨rfl, hw⟩
          obtain rfl := hw.symm
          go_wp2_with (first | (at_builtin; refine wpList_app_run rfl _ _ _ _ rfl _ _ _ rfl rfl R1.out ?_))
          go_roundw
          case measure => simp [intOf]; omega
          case rel => exact ⟨j + 1, by omega, by go_num, R2, R3⟩
      · obtain rfl : j = s.size := by omega
        have hz : ¬ (s.size : Int) < (s.size : Int) := by omega
        have bk := KK.out.back
        rw [O0.out] at bk
        subst hu
        generalize (O.take s.size).length = LL at *
        go_wp2
        go_ret3
        exact ⟨rfl, KB.out⟩
  · have h2 : (q : Int) + 1 = (n : Int) := by omega
    have h4 : ¬ n < s.size := by have := of_decide_eq_false h1; omega
    have h3 : decide (n < s.size) = false := decide_eq_false h4
    have HN := keep hn1
    clear hn1
    go_enter Try.func19, Try.ntmps19
    go_wp2_with fail
    refine (RB.out _).mono ?_
    rintro e w' ⟨rfl, rfl⟩
    go_wp2
    go_loopw [12, 53] (fun u i wr => ∃ (j : Nat), j ≤ n ∧ i = .int .i64 j ∧ Kept (Kb w'.heap.size wr u (O.take j)) ∧ Kept (Below w'.heap.size w' wr)) (fun _ i _ => n - (intOf i).toNat)
    case atStart => exact ⟨0, Nat.zero_le _, rfl, K0, B0⟩
    case round =>
      obtain ⟨j, hj, rfl, KK, KB⟩ := hrel
      obtain ⟨ua, uc, hu⟩ := KK.out.len
      by_cases hlt : j < n
      · have hz : (j : Int) < (n : Int) := by omega
        have hll : (O.take j).length + 1 ≤ 140737488351232 := by rw [List.length_take, OL.out]; have := NB.out; omega
        obtain ⟨v', w2, r1', r2, r3⟩ := app_byte w'.heap.size wr _ _ (O.getD j 0) KK.out KB.out.size hll
        rw [← take_more O j (by rw [OL.out]; exact hlt)] at r2
        have oj := OA.out j
        have R2 := keep r2
        have R3 := keep (KB.out.trans r3)
        have RJ := keep (RA.out j)
        subst hu
        clear r2 r3 hll KK
        generalize (O.take j).length = LL at *
        by_cases c1 : j = q
        · have c2 : ((j : Int) == (q : Int)) = true := beq_iff_eq.2 (by omega)
          have c2' : (j == q) = true := beq_iff_eq.2 c1
          subst c1
          rw [if_pos rfl] at oj
          obtain ⟨P1, P2, P3⟩ := PL.out
          generalize s.data.toList.getD j 0 = z at *
          generalize UInt8.ofNat (Pt.pb z.toNat r b) = y at *
          rw [oj] at r1'
          clear oj
          by_cases c3 : was = b
          · have ez := P1 c3
            subst ez
            have c4 : ((was : Int) != (b : Int)) = false := by rw [c3]; exact ne_self _
            have R1 := keep r1'
            clear r1' P1 P2 P3 c3
            go_wp2_with fail
            refine (RJ.out _).mono ?_
            rintro e w3 ⟨rfl, hw⟩
            obtain rfl := hw.symm
            go_wp2_with (first | (at_builtin; refine wpList_app_run rfl _ _ _ _ rfl _ _ _ rfl rfl R1.out ?_))
            go_roundw
            case measure => simp [intOf]; omega
            case rel => exact ⟨j + 1, by omega, by go_num, R2, R3⟩
          · have c4 : ((was : Int) != (b : Int)) = true := by simp; omega
            have Q2 := keep fun h => P2 h c3
            have Q3 := keep fun h => P3 h c3
            have R1 := keep r1'
            clear r1' P1 P2 P3 c3
            go_wp2_with fail
            refine (RJ.out _).mono ?_
            rintro e w3 ⟨rfl, hw⟩
            obtain rfl := hw.symm
            go_wp2
            obtain ⟨wo, hwo⟩ : ∃ x, x = wr := ⟨_, rfl⟩
            subst hwo
            go_loopw [15, 71] (fun u i wr => ∃ (k : Nat), k ≤ r ∧ i = .int .i64 k ∧ u = .int .u8 (2 ^ k : Nat) ∧ wr = wo) (fun _ i _ => r - (intOf i).toNat)
            case atStart => exact ⟨0, Nat.zero_le _, rfl, rfl, rfl⟩
            case round =>
              obtain ⟨k, hk, rfl, rfl, hw⟩ := hrel
              obtain rfl := hw.symm
              by_cases hlk : k < r
              · have hzk : (k : Int) < (r : Int) := by omega
                have e1 := two_pow_le (k := k) (by omega) r8
                have e2 := two_pow_le (k := k + 1) (by omega) r8
                obtain ⟨y2, hy2⟩ : ∃ y2, y2 = 2 ^ (k + 1) := ⟨_, rfl⟩
                have hy3 : y2 = 2 ^ k * 2 := by rw [hy2, Nat.pow_succ]
                rw [← hy2] at e2
                generalize 2 ^ k = x at *
                have e4 : (x : Int) * 2 % 256 = (y2 : Int) := by omega
                have HY := keep hy2
                clear hy2 hy3
                go_wp2
                exact ⟨⟨k + 1, by omega, by go_num, by rw [e4, HY.out], trivial⟩, by simp [intOf]; omega⟩
              · obtain rfl : k = r := by omega
                have hzk : ¬ (k : Int) < (k : Int) := by omega
                rcases (show b = 0 ∨ b = 1 by omega) with hb0 | hb1
                · have qq := Q3.out hb0 (2 ^ k) rfl
                  have e1 := two_pow_le (k := k) (by omega) r8
                  subst hb0
                  generalize 2 ^ k = W at *
                  go_wp2_with (first | (at_builtin; refine wpList_app_run rfl _ _ _ _ rfl _ _ _ rfl rfl R1.out ?_))
                  go_roundw
                  case measure => simp [intOf]; omega
                  case rel =>
                    refine ⟨_, _, _, _, _, ?_, rfl, rfl, rfl, rfl, rfl⟩
                    exact ⟨j + 1, by omega, by go_num, R2⟩
                · have qq := Q2.out hb1 (2 ^ k) rfl
                  have e1 := two_pow_le (k := k) (by omega) r8
                  subst hb1
                  generalize 2 ^ k = W at *
                  go_wp2_with (first | (at_builtin; refine wpList_app_run rfl _ _ _ _ rfl _ _ _ rfl rfl R1.out ?_))
                  go_roundw
                  case measure => simp [intOf]; omega
                  case rel =>
                    refine ⟨_, _, _, _, _, ?_, rfl, rfl, rfl, rfl, rfl⟩
                    exact ⟨j + 1, by omega, by go_num, R2⟩
        · rw [if_neg c1] at oj
          rw [oj] at r1'
          generalize s.data.toList.getD j 0 = z at *
          have R1 := keep r1'
          have c2 : ((j : Int) == (q : Int)) = false := beq_eq_false_iff_ne.2 (by omega)
          have c2' : (j == q) = false := beq_eq_false_iff_ne.2 c1
          clear r1' oj c1
          go_wp2_with fail
          refine (RJ.out _).mono ?_
          rintro e w3 ⟨rfl, hw⟩
          obtain rfl := hw.symm
          go_wp2_with (first | (at_builtin; refine wpList_app_run rfl _ _ _ _ rfl _ _ _ rfl rfl R1.out ?_))
          go_roundw
          case measure => simp [intOf]; omega
          case rel => exact ⟨j + 1, by omega, by go_num, R2, R3⟩
      · obtain rfl : j = n := by omega
        have hz : ¬ (j : Int) < (j : Int) := by omega
        have bk := KK.out.back
        rw [O0.out] at bk
        subst hu
        generalize (O.take j).length = LL at *
        go_wp2
        go_ret3
        exact ⟨rfl, KB.out⟩
end Go.Proofs.Ytlkplmlhlgnnkaa
