/-
  The statement's own walk: every script with two pools.
-/
import Derived.Test.YtgniiojeeobffaaPlPlay2
namespace Go.Proofs.Ytgniiojeeobffaa
open Go.RowKit Go.Shelf
set_option linter.unusedVariables false
set_option linter.unusedSimpArgs false
set_option maxRecDepth 100000 in
set_option maxHeartbeats 8000000 in
theorem plays_ii (W : World) (mA : Nat) (mB : Nat) (so : Option Addr) (cap : Nat) (S : List Stp) (hA : 1 ≤ mA ∧ mA ≤ 16) (hB : 1 ≤ mB ∧ mB ≤ 16) (hS : Steps W so S) (hlen : S.length ≤ maxLen) :
    Calls Try.prog 3 #[.int .i64 (mA : Int), .int .i64 (mB : Int), .slice so S.length cap] W fun e w' => e = .returned (.bool true) ∧ Below W.heap.size W w' := by
  obtain ⟨nS, hnS⟩ : ∃ nS, S.length = nS := ⟨_, rfl⟩
  have HS := keep hS
  have HLEN := keep hlen
  have HNS := keep hnS
  have HMA := keep hA
  have HMB := keep hB
  have hd0 : Duo W [] W none none := ⟨[], [], rfl, rfl, fun k hk => (by cases hk), fun k hk => (by cases hk), fun k hk => (by cases hk), Below.refl _ _, fun p hp => (by cases hp)⟩
  rw [hnS]
  clear hS hlen hnS hA hB
  go_enter Try.func3, Try.ntmps3

  have MNA := keep (new_ok W mA HMA.out.1 HMA.out.2)
  go_wp2_with fail
  refine MNA.out.mono ?_
  rintro _ wnA ⟨rfl, hpA⟩
  have MRA := keep (rnew_ok wnA mA HMA.out.1 HMA.out.2)
  clear MNA
  go_wp2_with fail
  refine MRA.out.mono ?_
  rintro _ wrA ⟨rfl, hrA, hbA⟩
  have hdA := Duo.new hd0 hpA hrA hbA HMA.out.1 HMA.out.2
  obtain ⟨pA, hpeA⟩ : ∃ x, W.heap.size = x := ⟨_, rfl⟩
  obtain ⟨rA, hreA⟩ : ∃ x, wnA.heap.size = x := ⟨_, rfl⟩
  rw [hpeA, hreA] at hdA
  rw [hpeA, hreA]
  clear MRA hpA hrA hbA hpeA hreA

  have MNB := keep (new_ok wrA mB HMB.out.1 HMB.out.2)
  go_wp2_with fail
  refine MNB.out.mono ?_
  rintro _ wnB ⟨rfl, hpB⟩
  have MRB := keep (rnew_ok wnB mB HMB.out.1 HMB.out.2)
  clear MNB
  go_wp2_with fail
  refine MRB.out.mono ?_
  rintro _ wrB ⟨rfl, hrB, hbB⟩
  have hdB := Duo.new hdA.swap hpB hrB hbB HMB.out.1 HMB.out.2
  obtain ⟨pB, hpeB⟩ : ∃ x, wrA.heap.size = x := ⟨_, rfl⟩
  obtain ⟨rB, hreB⟩ : ∃ x, wnB.heap.size = x := ⟨_, rfl⟩
  rw [hpeB, hreB] at hdB
  rw [hpeB, hreB]
  clear MRB hpB hrB hbB hpeB hreB
  have D0 : Kept (Duo W [] wrB (some (pA, rA)) (some (pB, rB))) := hdB

  clear hd0 hdA hdB
  go_wp2_with fail
  go_loopg [61] nS (fun kx s wr => ∃ i : Nat, s = .int .i64 i ∧ i ≤ nS ∧ nS - i ≤ kx ∧ Kept (Duo W [] wr (some (pA, rA)) (some (pB, rB))))
  case atStart => exact ⟨0, rfl, Nat.zero_le _, by omega, D0⟩
  case round =>
    obtain ⟨k, rfl, hk, hgk, KD⟩ := hrel
    clear D0
    by_cases hlt : k < nS
    · have hltz : (k : Int) < (nS : Int) := by omega
      have hk0 : (0 : Int) ≤ (k : Int) := by omega
      have hwk : IntKind.i64.wrap ((k : Int) + 1) = (k : Int) + 1 := by have := HLEN.out; have := HNS.out; unfold maxLen at *; rw [IntKind.wrap_i64]; omega
      obtain ⟨a, rfl, ha, hat⟩ := HS.out k (by rw [HNS.out]; exact hlt)
      obtain ⟨o, ho⟩ : ∃ o, S[k]'(by rw [HNS.out]; exact hlt) = o := ⟨_, rfl⟩
      rw [ho] at hat
      have hat' := hat.bel KD.out.bel (by rw [add_block]; exact ha)
      obtain ⟨who, act, c1, c2⟩ := o
      obtain ⟨X, hX⟩ : ∃ X, wr.heap.size = X := ⟨_, rfl⟩
      obtain ⟨W1, hW1⟩ : ∃ x, wr.alloc (stO who act c1 c2) = x := ⟨_, rfl⟩
      have P1 : Kept (Duo W [(X, stO who act c1 c2)] W1 (some (pA, rA)) (some (pB, rB))) := by rw [← hW1, ← hX]; exact KD.out.more _
      obtain ⟨y0, y1, y2, y3⟩ := hat'
      dsimp only at y0 y1 y2 y3
      have SX : Kept (∀ w, Duo W [(X, stO who act c1 c2)] w (some (pA, rA)) (some (pB, rB)) → w.cell? ⟨X, 0, none⟩ = some (.int .i64 who) ∧ w.cell? ⟨X, 1, none⟩ = some (.int .i64 act) ∧ w.cell? ⟨X, 2, none⟩ = some (.string c1) ∧ w.cell? ⟨X, 3, none⟩ = some (.int .u64 c2)) := fun w hd => by
        obtain ⟨FA, FB, _, _, _, _, _, _, h7⟩ := hd
        have h := (h7 (X, stO who act c1 c2) (by simp)).1
        dsimp only [stO] at h
        refine ⟨?_, ?_, ?_, ?_⟩ <;> (rw [cell_of_row _ _ _ _ _ _ h]; rfl)
      obtain ⟨x0, x1, x2, x3⟩ := SX.out W1 P1.out
      unfold stO at hW1
      clear ho hat ha KD hlt
      by_cases h0 : who = 0
      · subst h0
        have MP := keep (duoA P1.out 0 act c2 c1)
        go_wp2_with fail
        refine MP.out.mono ?_
        rintro _ w3 ⟨rfl, d3⟩
        obtain ⟨z0, z1, z2, z3⟩ := SX.out w3 d3
        have P2 : Kept (Duo W [] w3 (some (pA, rA)) (some (pB, rB))) := d3.less (fun p hp => by cases hp)
        clear d3 MP x0 x1 x2 x3
        go_wp2
        go_roundg (nS - (k + 1))
        case measure => omega
        case rel => exact ⟨k + 1, by simp, by omega, Nat.le_refl _, P2.out⟩
      · have h0b : (who == 0) = false := beq_eq_false_iff_ne.2 h0
        by_cases h1 : who = 1
        · subst h1
          have MP := keep (duoB P1.out 1 act c2 c1)
          go_wp2_with fail
          refine MP.out.mono ?_
          rintro _ w3 ⟨rfl, d3⟩
          obtain ⟨z0, z1, z2, z3⟩ := SX.out w3 d3
          have P2 : Kept (Duo W [] w3 (some (pA, rA)) (some (pB, rB))) := d3.less (fun p hp => by cases hp)
          clear d3 MP x0 x1 x2 x3
          go_wp2
          go_roundg (nS - (k + 1))
          case measure => omega
          case rel => exact ⟨k + 1, by simp, by omega, Nat.le_refl _, P2.out⟩
        · have h1b : (who == 1) = false := beq_eq_false_iff_ne.2 h1
          have P2 : Kept (Duo W [] W1 (some (pA, rA)) (some (pB, rB))) := P1.out.less (fun p hp => by cases hp)
          go_wp2
          go_roundg (nS - (k + 1))
          case measure => omega
          case rel => exact ⟨k + 1, by simp, by omega, Nat.le_refl _, P2.out⟩
    · obtain rfl : k = nS := by omega
      have ML := keep (duoRowA KD.out)
      go_wp2_with fail
      refine ML.out.mono ?_
      rintro _ wl1 ⟨rfl, dl1⟩
      have KD1 := keep dl1
      clear dl1 ML

      have ML := keep (duoRowB KD1.out)
      go_wp2_with fail
      refine ML.out.mono ?_
      rintro _ wl2 ⟨rfl, dl2⟩
      have KD2 := keep dl2
      clear dl2 ML

      have BF := keep KD2.out.bel
      go_wp2
      go_ret
      exact ⟨by simp, BF.out⟩
set_option maxRecDepth 100000 in
set_option maxHeartbeats 8000000 in
theorem plays_io (W : World) (mA : Nat) (mB : Int) (so : Option Addr) (cap : Nat) (S : List Stp) (hA : 1 ≤ mA ∧ mA ≤ 16) (hB : mB < 1 ∨ 16 < mB) (hS : Steps W so S) (hlen : S.length ≤ maxLen) :
    Calls Try.prog 3 #[.int .i64 (mA : Int), .int .i64 mB, .slice so S.length cap] W fun e w' => e = .returned (.bool true) ∧ Below W.heap.size W w' := by
  obtain ⟨nS, hnS⟩ : ∃ nS, S.length = nS := ⟨_, rfl⟩
  have HS := keep hS
  have HLEN := keep hlen
  have HNS := keep hnS
  have HMA := keep hA
  have HMB := keep hB
  have hd0 : Duo W [] W none none := ⟨[], [], rfl, rfl, fun k hk => (by cases hk), fun k hk => (by cases hk), fun k hk => (by cases hk), Below.refl _ _, fun p hp => (by cases hp)⟩
  rw [hnS]
  clear hS hlen hnS hA hB
  go_enter Try.func3, Try.ntmps3

  have MNA := keep (new_ok W mA HMA.out.1 HMA.out.2)
  go_wp2_with fail
  refine MNA.out.mono ?_
  rintro _ wnA ⟨rfl, hpA⟩
  have MRA := keep (rnew_ok wnA mA HMA.out.1 HMA.out.2)
  clear MNA
  go_wp2_with fail
  refine MRA.out.mono ?_
  rintro _ wrA ⟨rfl, hrA, hbA⟩
  have hdA := Duo.new hd0 hpA hrA hbA HMA.out.1 HMA.out.2
  obtain ⟨pA, hpeA⟩ : ∃ x, W.heap.size = x := ⟨_, rfl⟩
  obtain ⟨rA, hreA⟩ : ∃ x, wnA.heap.size = x := ⟨_, rfl⟩
  rw [hpeA, hreA] at hdA
  rw [hpeA, hreA]
  clear MRA hpA hrA hbA hpeA hreA

  have MNB := keep (new_no wrA mB HMB.out)
  go_wp2_with fail
  refine MNB.out.mono ?_
  rintro _ wxB ⟨rfl, hw⟩
  obtain rfl := hw.symm
  have MRB := keep (rnew_no wrA mB HMB.out)
  clear MNB
  go_wp2_with fail
  refine MRB.out.mono ?_
  rintro _ wxB ⟨rfl, hw⟩
  obtain rfl := hw.symm
  have hdB := hdA.swap
  clear MRB
  have D0 : Kept (Duo W [] wrA (some (pA, rA)) (none)) := hdB.swap.swap

  clear hd0 hdA hdB
  go_wp2_with fail
  go_loopg [61] nS (fun kx s wr => ∃ i : Nat, s = .int .i64 i ∧ i ≤ nS ∧ nS - i ≤ kx ∧ Kept (Duo W [] wr (some (pA, rA)) (none)))
  case atStart => exact ⟨0, rfl, Nat.zero_le _, by omega, D0⟩
  case round =>
    obtain ⟨k, rfl, hk, hgk, KD⟩ := hrel
    clear D0
    by_cases hlt : k < nS
    · have hltz : (k : Int) < (nS : Int) := by omega
      have hk0 : (0 : Int) ≤ (k : Int) := by omega
      have hwk : IntKind.i64.wrap ((k : Int) + 1) = (k : Int) + 1 := by have := HLEN.out; have := HNS.out; unfold maxLen at *; rw [IntKind.wrap_i64]; omega
      obtain ⟨a, rfl, ha, hat⟩ := HS.out k (by rw [HNS.out]; exact hlt)
      obtain ⟨o, ho⟩ : ∃ o, S[k]'(by rw [HNS.out]; exact hlt) = o := ⟨_, rfl⟩
      rw [ho] at hat
      have hat' := hat.bel KD.out.bel (by rw [add_block]; exact ha)
      obtain ⟨who, act, c1, c2⟩ := o
      obtain ⟨X, hX⟩ : ∃ X, wr.heap.size = X := ⟨_, rfl⟩
      obtain ⟨W1, hW1⟩ : ∃ x, wr.alloc (stO who act c1 c2) = x := ⟨_, rfl⟩
      have P1 : Kept (Duo W [(X, stO who act c1 c2)] W1 (some (pA, rA)) (none)) := by rw [← hW1, ← hX]; exact KD.out.more _
      obtain ⟨y0, y1, y2, y3⟩ := hat'
      dsimp only at y0 y1 y2 y3
      have SX : Kept (∀ w, Duo W [(X, stO who act c1 c2)] w (some (pA, rA)) (none) → w.cell? ⟨X, 0, none⟩ = some (.int .i64 who) ∧ w.cell? ⟨X, 1, none⟩ = some (.int .i64 act) ∧ w.cell? ⟨X, 2, none⟩ = some (.string c1) ∧ w.cell? ⟨X, 3, none⟩ = some (.int .u64 c2)) := fun w hd => by
        obtain ⟨FA, FB, _, _, _, _, _, _, h7⟩ := hd
        have h := (h7 (X, stO who act c1 c2) (by simp)).1
        dsimp only [stO] at h
        refine ⟨?_, ?_, ?_, ?_⟩ <;> (rw [cell_of_row _ _ _ _ _ _ h]; rfl)
      obtain ⟨x0, x1, x2, x3⟩ := SX.out W1 P1.out
      unfold stO at hW1
      clear ho hat ha KD hlt
      by_cases h0 : who = 0
      · subst h0
        have MP := keep (duoA P1.out 0 act c2 c1)
        go_wp2_with fail
        refine MP.out.mono ?_
        rintro _ w3 ⟨rfl, d3⟩
        obtain ⟨z0, z1, z2, z3⟩ := SX.out w3 d3
        have P2 : Kept (Duo W [] w3 (some (pA, rA)) (none)) := d3.less (fun p hp => by cases hp)
        clear d3 MP x0 x1 x2 x3
        go_wp2
        go_roundg (nS - (k + 1))
        case measure => omega
        case rel => exact ⟨k + 1, by simp, by omega, Nat.le_refl _, P2.out⟩
      · have h0b : (who == 0) = false := beq_eq_false_iff_ne.2 h0
        by_cases h1 : who = 1
        · subst h1
          have P2 : Kept (Duo W [] W1 (some (pA, rA)) (none)) := P1.out.less (fun p hp => by cases hp)
          go_wp2
          go_roundg (nS - (k + 1))
          case measure => omega
          case rel => exact ⟨k + 1, by simp, by omega, Nat.le_refl _, P2.out⟩
        · have h1b : (who == 1) = false := beq_eq_false_iff_ne.2 h1
          have P2 : Kept (Duo W [] W1 (some (pA, rA)) (none)) := P1.out.less (fun p hp => by cases hp)
          go_wp2
          go_roundg (nS - (k + 1))
          case measure => omega
          case rel => exact ⟨k + 1, by simp, by omega, Nat.le_refl _, P2.out⟩
    · obtain rfl : k = nS := by omega
      have ML := keep (duoRowA KD.out)
      go_wp2_with fail
      refine ML.out.mono ?_
      rintro _ wl1 ⟨rfl, dl1⟩
      have KD1 := keep dl1
      clear dl1 ML

      have BF := keep KD1.out.bel
      go_wp2
      go_ret
      exact ⟨by simp, BF.out⟩
set_option maxRecDepth 100000 in
set_option maxHeartbeats 8000000 in
theorem plays_oi (W : World) (mA : Int) (mB : Nat) (so : Option Addr) (cap : Nat) (S : List Stp) (hA : mA < 1 ∨ 16 < mA) (hB : 1 ≤ mB ∧ mB ≤ 16) (hS : Steps W so S) (hlen : S.length ≤ maxLen) :
    Calls Try.prog 3 #[.int .i64 mA, .int .i64 (mB : Int), .slice so S.length cap] W fun e w' => e = .returned (.bool true) ∧ Below W.heap.size W w' := by
  obtain ⟨nS, hnS⟩ : ∃ nS, S.length = nS := ⟨_, rfl⟩
  have HS := keep hS
  have HLEN := keep hlen
  have HNS := keep hnS
  have HMA := keep hA
  have HMB := keep hB
  have hd0 : Duo W [] W none none := ⟨[], [], rfl, rfl, fun k hk => (by cases hk), fun k hk => (by cases hk), fun k hk => (by cases hk), Below.refl _ _, fun p hp => (by cases hp)⟩
  rw [hnS]
  clear hS hlen hnS hA hB
  go_enter Try.func3, Try.ntmps3

  have MNA := keep (new_no W mA HMA.out)
  go_wp2_with fail
  refine MNA.out.mono ?_
  rintro _ wxA ⟨rfl, hw⟩
  obtain rfl := hw.symm
  have MRA := keep (rnew_no W mA HMA.out)
  clear MNA
  go_wp2_with fail
  refine MRA.out.mono ?_
  rintro _ wxA ⟨rfl, hw⟩
  obtain rfl := hw.symm
  have hdA := hd0
  clear MRA

  have MNB := keep (new_ok W mB HMB.out.1 HMB.out.2)
  go_wp2_with fail
  refine MNB.out.mono ?_
  rintro _ wnB ⟨rfl, hpB⟩
  have MRB := keep (rnew_ok wnB mB HMB.out.1 HMB.out.2)
  clear MNB
  go_wp2_with fail
  refine MRB.out.mono ?_
  rintro _ wrB ⟨rfl, hrB, hbB⟩
  have hdB := Duo.new hdA hpB hrB hbB HMB.out.1 HMB.out.2
  obtain ⟨pB, hpeB⟩ : ∃ x, W.heap.size = x := ⟨_, rfl⟩
  obtain ⟨rB, hreB⟩ : ∃ x, wnB.heap.size = x := ⟨_, rfl⟩
  rw [hpeB, hreB] at hdB
  rw [hpeB, hreB]
  clear MRB hpB hrB hbB hpeB hreB
  have D0 : Kept (Duo W [] wrB (none) (some (pB, rB))) := hdB

  clear hd0 hdA hdB
  go_wp2_with fail
  go_loopg [61] nS (fun kx s wr => ∃ i : Nat, s = .int .i64 i ∧ i ≤ nS ∧ nS - i ≤ kx ∧ Kept (Duo W [] wr (none) (some (pB, rB))))
  case atStart => exact ⟨0, rfl, Nat.zero_le _, by omega, D0⟩
  case round =>
    obtain ⟨k, rfl, hk, hgk, KD⟩ := hrel
    clear D0
    by_cases hlt : k < nS
    · have hltz : (k : Int) < (nS : Int) := by omega
      have hk0 : (0 : Int) ≤ (k : Int) := by omega
      have hwk : IntKind.i64.wrap ((k : Int) + 1) = (k : Int) + 1 := by have := HLEN.out; have := HNS.out; unfold maxLen at *; rw [IntKind.wrap_i64]; omega
      obtain ⟨a, rfl, ha, hat⟩ := HS.out k (by rw [HNS.out]; exact hlt)
      obtain ⟨o, ho⟩ : ∃ o, S[k]'(by rw [HNS.out]; exact hlt) = o := ⟨_, rfl⟩
      rw [ho] at hat
      have hat' := hat.bel KD.out.bel (by rw [add_block]; exact ha)
      obtain ⟨who, act, c1, c2⟩ := o
      obtain ⟨X, hX⟩ : ∃ X, wr.heap.size = X := ⟨_, rfl⟩
      obtain ⟨W1, hW1⟩ : ∃ x, wr.alloc (stO who act c1 c2) = x := ⟨_, rfl⟩
      have P1 : Kept (Duo W [(X, stO who act c1 c2)] W1 (none) (some (pB, rB))) := by rw [← hW1, ← hX]; exact KD.out.more _
      obtain ⟨y0, y1, y2, y3⟩ := hat'
      dsimp only at y0 y1 y2 y3
      have SX : Kept (∀ w, Duo W [(X, stO who act c1 c2)] w (none) (some (pB, rB)) → w.cell? ⟨X, 0, none⟩ = some (.int .i64 who) ∧ w.cell? ⟨X, 1, none⟩ = some (.int .i64 act) ∧ w.cell? ⟨X, 2, none⟩ = some (.string c1) ∧ w.cell? ⟨X, 3, none⟩ = some (.int .u64 c2)) := fun w hd => by
        obtain ⟨FA, FB, _, _, _, _, _, _, h7⟩ := hd
        have h := (h7 (X, stO who act c1 c2) (by simp)).1
        dsimp only [stO] at h
        refine ⟨?_, ?_, ?_, ?_⟩ <;> (rw [cell_of_row _ _ _ _ _ _ h]; rfl)
      obtain ⟨x0, x1, x2, x3⟩ := SX.out W1 P1.out
      unfold stO at hW1
      clear ho hat ha KD hlt
      by_cases h0 : who = 0
      · subst h0
        have P2 : Kept (Duo W [] W1 (none) (some (pB, rB))) := P1.out.less (fun p hp => by cases hp)
        go_wp2
        go_roundg (nS - (k + 1))
        case measure => omega
        case rel => exact ⟨k + 1, by simp, by omega, Nat.le_refl _, P2.out⟩
      · have h0b : (who == 0) = false := beq_eq_false_iff_ne.2 h0
        by_cases h1 : who = 1
        · subst h1
          have MP := keep (duoB P1.out 1 act c2 c1)
          go_wp2_with fail
          refine MP.out.mono ?_
          rintro _ w3 ⟨rfl, d3⟩
          obtain ⟨z0, z1, z2, z3⟩ := SX.out w3 d3
          have P2 : Kept (Duo W [] w3 (none) (some (pB, rB))) := d3.less (fun p hp => by cases hp)
          clear d3 MP x0 x1 x2 x3
          go_wp2
          go_roundg (nS - (k + 1))
          case measure => omega
          case rel => exact ⟨k + 1, by simp, by omega, Nat.le_refl _, P2.out⟩
        · have h1b : (who == 1) = false := beq_eq_false_iff_ne.2 h1
          have P2 : Kept (Duo W [] W1 (none) (some (pB, rB))) := P1.out.less (fun p hp => by cases hp)
          go_wp2
          go_roundg (nS - (k + 1))
          case measure => omega
          case rel => exact ⟨k + 1, by simp, by omega, Nat.le_refl _, P2.out⟩
    · obtain rfl : k = nS := by omega
      have ML := keep (duoRowB KD.out)
      go_wp2_with fail
      refine ML.out.mono ?_
      rintro _ wl2 ⟨rfl, dl2⟩
      have KD2 := keep dl2
      clear dl2 ML

      have BF := keep KD2.out.bel
      go_wp2
      go_ret
      exact ⟨by simp, BF.out⟩
set_option maxRecDepth 100000 in
set_option maxHeartbeats 8000000 in
theorem plays_oo (W : World) (mA : Int) (mB : Int) (so : Option Addr) (cap : Nat) (S : List Stp) (hA : mA < 1 ∨ 16 < mA) (hB : mB < 1 ∨ 16 < mB) (hS : Steps W so S) (hlen : S.length ≤ maxLen) :
    Calls Try.prog 3 #[.int .i64 mA, .int .i64 mB, .slice so S.length cap] W fun e w' => e = .returned (.bool true) ∧ Below W.heap.size W w' := by
  obtain ⟨nS, hnS⟩ : ∃ nS, S.length = nS := ⟨_, rfl⟩
  have HS := keep hS
  have HLEN := keep hlen
  have HNS := keep hnS
  have HMA := keep hA
  have HMB := keep hB
  have hd0 : Duo W [] W none none := ⟨[], [], rfl, rfl, fun k hk => (by cases hk), fun k hk => (by cases hk), fun k hk => (by cases hk), Below.refl _ _, fun p hp => (by cases hp)⟩
  rw [hnS]
  clear hS hlen hnS hA hB
  go_enter Try.func3, Try.ntmps3

  have MNA := keep (new_no W mA HMA.out)
  go_wp2_with fail
  refine MNA.out.mono ?_
  rintro _ wxA ⟨rfl, hw⟩
  obtain rfl := hw.symm
  have MRA := keep (rnew_no W mA HMA.out)
  clear MNA
  go_wp2_with fail
  refine MRA.out.mono ?_
  rintro _ wxA ⟨rfl, hw⟩
  obtain rfl := hw.symm
  have hdA := hd0
  clear MRA

  have MNB := keep (new_no W mB HMB.out)
  go_wp2_with fail
  refine MNB.out.mono ?_
  rintro _ wxB ⟨rfl, hw⟩
  obtain rfl := hw.symm
  have MRB := keep (rnew_no W mB HMB.out)
  clear MNB
  go_wp2_with fail
  refine MRB.out.mono ?_
  rintro _ wxB ⟨rfl, hw⟩
  obtain rfl := hw.symm
  have hdB := hdA
  clear MRB
  have D0 : Kept (Duo W [] W (none) (none)) := hdB

  clear hd0 hdA hdB
  go_wp2_with fail
  go_loopg [61] nS (fun kx s wr => ∃ i : Nat, s = .int .i64 i ∧ i ≤ nS ∧ nS - i ≤ kx ∧ Kept (Duo W [] wr (none) (none)))
  case atStart => exact ⟨0, rfl, Nat.zero_le _, by omega, D0⟩
  case round =>
    obtain ⟨k, rfl, hk, hgk, KD⟩ := hrel
    clear D0
    by_cases hlt : k < nS
    · have hltz : (k : Int) < (nS : Int) := by omega
      have hk0 : (0 : Int) ≤ (k : Int) := by omega
      have hwk : IntKind.i64.wrap ((k : Int) + 1) = (k : Int) + 1 := by have := HLEN.out; have := HNS.out; unfold maxLen at *; rw [IntKind.wrap_i64]; omega
      obtain ⟨a, rfl, ha, hat⟩ := HS.out k (by rw [HNS.out]; exact hlt)
      obtain ⟨o, ho⟩ : ∃ o, S[k]'(by rw [HNS.out]; exact hlt) = o := ⟨_, rfl⟩
      rw [ho] at hat
      have hat' := hat.bel KD.out.bel (by rw [add_block]; exact ha)
      obtain ⟨who, act, c1, c2⟩ := o
      obtain ⟨X, hX⟩ : ∃ X, wr.heap.size = X := ⟨_, rfl⟩
      obtain ⟨W1, hW1⟩ : ∃ x, wr.alloc (stO who act c1 c2) = x := ⟨_, rfl⟩
      have P1 : Kept (Duo W [(X, stO who act c1 c2)] W1 (none) (none)) := by rw [← hW1, ← hX]; exact KD.out.more _
      obtain ⟨y0, y1, y2, y3⟩ := hat'
      dsimp only at y0 y1 y2 y3
      have SX : Kept (∀ w, Duo W [(X, stO who act c1 c2)] w (none) (none) → w.cell? ⟨X, 0, none⟩ = some (.int .i64 who) ∧ w.cell? ⟨X, 1, none⟩ = some (.int .i64 act) ∧ w.cell? ⟨X, 2, none⟩ = some (.string c1) ∧ w.cell? ⟨X, 3, none⟩ = some (.int .u64 c2)) := fun w hd => by
        obtain ⟨FA, FB, _, _, _, _, _, _, h7⟩ := hd
        have h := (h7 (X, stO who act c1 c2) (by simp)).1
        dsimp only [stO] at h
        refine ⟨?_, ?_, ?_, ?_⟩ <;> (rw [cell_of_row _ _ _ _ _ _ h]; rfl)
      obtain ⟨x0, x1, x2, x3⟩ := SX.out W1 P1.out
      unfold stO at hW1
      clear ho hat ha KD hlt
      by_cases h0 : who = 0
      · subst h0
        have P2 : Kept (Duo W [] W1 (none) (none)) := P1.out.less (fun p hp => by cases hp)
        go_wp2
        go_roundg (nS - (k + 1))
        case measure => omega
        case rel => exact ⟨k + 1, by simp, by omega, Nat.le_refl _, P2.out⟩
      · have h0b : (who == 0) = false := beq_eq_false_iff_ne.2 h0
        by_cases h1 : who = 1
        · subst h1
          have P2 : Kept (Duo W [] W1 (none) (none)) := P1.out.less (fun p hp => by cases hp)
          go_wp2
          go_roundg (nS - (k + 1))
          case measure => omega
          case rel => exact ⟨k + 1, by simp, by omega, Nat.le_refl _, P2.out⟩
        · have h1b : (who == 1) = false := beq_eq_false_iff_ne.2 h1
          have P2 : Kept (Duo W [] W1 (none) (none)) := P1.out.less (fun p hp => by cases hp)
          go_wp2
          go_roundg (nS - (k + 1))
          case measure => omega
          case rel => exact ⟨k + 1, by simp, by omega, Nat.le_refl _, P2.out⟩
    · obtain rfl : k = nS := by omega
      have BF := keep KD.out.bel
      go_wp2
      go_ret
      exact ⟨by simp, BF.out⟩

theorem plays_walk (W : World) (one two : Int) (so : Option Addr) (cap : Nat) (S : List Stp) (hS : Steps W so S) (hlen : S.length ≤ maxLen) :
    Calls Try.prog 3 #[.int .i64 one, .int .i64 two, .slice so S.length cap] W fun e w' => e = .returned (.bool true) ∧ Below W.heap.size W w' := by
  by_cases h1 : one < 1 ∨ 16 < one
  · by_cases h2 : two < 1 ∨ 16 < two
    · exact plays_oo W one two so cap S h1 h2 hS hlen
    · obtain ⟨m, rfl⟩ : ∃ m : Nat, two = (m : Int) := ⟨two.toNat, by omega⟩
      exact plays_oi W one m so cap S h1 (by omega) hS hlen
  · obtain ⟨n, rfl⟩ : ∃ m : Nat, one = (m : Int) := ⟨one.toNat, by omega⟩
    by_cases h2 : two < 1 ∨ 16 < two
    · exact plays_io W n two so cap S (by omega) h2 hS hlen
    · obtain ⟨m, rfl⟩ : ∃ m : Nat, two = (m : Int) := ⟨two.toNat, by omega⟩
      exact plays_ii W n m so cap S (by omega) (by omega) hS hlen
end Go.Proofs.Ytgniiojeeobffaa
