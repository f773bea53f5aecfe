/-
  Contracts over this program: what glob.setMeans answers at any set and byte.
-/
import Derived.Test.YtmlpfijabdkbjaaGlobReads
namespace Go.Proofs.Ytmlpfijabdkbjaa
open Go.RowKit
namespace Gb
theorem step_range {s : ByteArray} {k n m : Nat} {one other : UInt8} (h : rb (D s k) = (one, D s n)) (c1 : n + 1 < s.size) (c0 : n < s.size) (c2 : (s[n].toNat : Int) = 45)
    (h2 : rb (D s (n + 1)) = (other, D s m)) : step (D s k) = (one, other, D s m) := by
  unfold step
  rw [h]
  simp only
  rw [D_cons s n c0]
  rw [D_cons s (n + 1) c1] at h2 ⊢
  simp only
  rw [if_pos (byte_is (b := 45) c2), h2]
theorem step_item {s : ByteArray} {k n : Nat} {one : UInt8} (h : rb (D s k) = (one, D s n)) (c : ∀ c0 : n < s.size, n + 1 < s.size → ¬ (s[n].toNat : Int) = 45) : step (D s k) = (one, one, D s n) := by
  unfold step
  rw [h]
  simp only
  by_cases c0 : n < s.size
  · rw [D_cons s n c0]
    by_cases c1 : n + 1 < s.size
    · rw [D_cons s (n + 1) c1]
      simp only
      rw [if_neg (byte_no (b := 45) (c c0 c1))]
    · rw [D_nil s (n + 1) (by omega)]
  · rw [D_nil s n (by omega)]
theorem names_hit {s : ByteArray} {k : Nat} {one other : UInt8} {r : List UInt8} {b : UInt8} (hk : k < s.size) (h : step (D s k) = (one, other, r)) (g1 : min one.toNat other.toNat ≤ b.toNat) (g2 : b.toNat ≤ max one.toNat other.toNat) : names b (D s k) = true := by
  rw [names_cons b (D_ne s k hk), h]
  simp only [btw]
  rw [decide_eq_true ⟨g1, g2⟩, Bool.true_or]
theorem names_miss {s : ByteArray} {k : Nat} {one other : UInt8} {r : List UInt8} {b : UInt8} (hk : k < s.size) (h : step (D s k) = (one, other, r)) (g : ¬ (min one.toNat other.toNat ≤ b.toNat ∧ b.toNat ≤ max one.toNat other.toNat)) : names b (D s k) = names b r := by
  rw [names_cons b (D_ne s k hk), h]
  simp only [btw]
  rw [decide_eq_false g, Bool.false_or]
theorem setM_not {s : ByteArray} {b : UInt8} (h0 : 0 < s.size) (h : (s[0].toNat : Int) = 94) : setM s.data.toList b = !names b (D s 1) := by
  unfold setM
  rw [← D_zero, D_cons s 0 h0, byte_is (b := 94) h]
  rfl
theorem setM_yes {s : ByteArray} {b : UInt8} (h : ∀ h0 : 0 < s.size, ¬ (s[0].toNat : Int) = 94) : setM s.data.toList b = names b (D s 0) := by
  unfold setM
  rw [← D_zero]
  by_cases h0 : 0 < s.size
  · rw [D_cons s 0 h0, if_neg (by simp only [List.head?_cons, Option.some.injEq]; exact byte_no (b := 94) (h h0))]
  · rw [D_nil s 0 (by omega)]; rfl
end Gb
theorem ret_b {x y : Bool} (h : x = y) : Ending.returned (.bool x) = .returned (.bool y) := by rw [h]
/-- what the loop keeps: the byte is named from here on just if it was from the start -/
def nRel (s : ByteArray) (b : UInt8) (k0 : Nat) (i : Value) : Prop := ∃ k : Nat, k ≤ s.size ∧ i = .int .i64 k ∧ Kept (Gb.names b (Gb.D s k) = Gb.names b (Gb.D s k0))
theorem min_u (a b : UInt8) : ((min a.toNat b.toNat : Nat) : Int) = min (a.toNat : Int) (b.toNat : Int) := by omega
theorem isE (s : ByteArray) (h : ¬ 0 < s.size) : s.toList.isEmpty = true := by
  rw [ByteArray.toList_eq, List.isEmpty_iff, ← List.length_eq_zero_iff, Gb.len]; omega
theorem noE (s : ByteArray) (h : 0 < s.size) : s.toList.isEmpty = false := by
  cases hh : s.toList.isEmpty
  · rfl
  · rw [ByteArray.toList_eq, List.isEmpty_iff, ← List.length_eq_zero_iff, Gb.len] at hh; omega
set_option maxHeartbeats 4000000 in
theorem setMeans_any (s : ByteArray) (b : UInt8) (w : World) (hs : s.size ≤ 1099511627776) :
    Calls Try.prog 14 #[.string s, .int .u8 b.toNat] w fun e w' => e = .returned (.bool (Gb.setM s.data.toList b)) ∧ w' = w := by
  have hb := b.toNat_lt
  by_cases h0 : 0 < s.size
  · have hE := noE s h0
    by_cases h94 : (s[0].toNat : Int) = 94
    · rw [Gb.setM_not h0 h94]
      go_enter Try.func14, Try.ntmps14
      go_wp2
      go_loop [5] (nRel s b 1) (fun i => (s.size - intOf i).toNat)
      case atStart => exact ⟨1, h0, rfl, rfl⟩
      case round =>
        obtain ⟨k, hk, rfl, hn⟩ := hrel
        by_cases hlt : k < s.size
        · go_wp2_with fail
          refine (readByte_any s k _ hs hlt).mono ?_
          rintro e w' ⟨one, n, rfl, hw, h1, hn1, hn2⟩; obtain rfl := hw.symm
          have h1 := keep h1
          have ho := one.toNat_lt
          by_cases c1 : n + 1 < s.size
          · by_cases c2 : (s[n].toNat : Int) = 45
            · go_wp2_with fail
              refine (readByte_any s (n + 1) _ hs c1).mono ?_
              rintro e w' ⟨other, m, rfl, hw, h2, hm1, hm2⟩; obtain rfl := hw.symm
              have h2 := keep h2
              have ht := other.toNat_lt
              have st := keep (Gb.step_range h1.out c1 (by omega) c2 h2.out)
              rcases Nat.lt_trichotomy one.toNat other.toNat with o | o | o
              all_goals
               by_cases g1 : min (one.toNat : Int) (other.toNat : Int) ≤ (b.toNat : Int)
               · by_cases g2 : (b.toNat : Int) ≤ max (one.toNat : Int) (other.toNat : Int)
                 · have hh := keep (Gb.names_hit (b := b) hlt st.out (by omega) (by omega))
                   go_wp2
                   go_ret
                   exact ⟨ret_b (by rw [← hn.out, hh.out] <;> rfl), rfl⟩
                 · have hh := keep (Gb.names_miss (b := b) hlt st.out (by omega))
                   go_wp2
                   go_round
                   case rel => exact ⟨m, by omega, rfl, keep (by rw [← hn.out, hh.out])⟩
                   case measure => simp [intOf]; omega
               · have hh := keep (Gb.names_miss (b := b) hlt st.out (by omega))
                 go_wp2
                 go_round
                 case rel => exact ⟨m, by omega, rfl, keep (by rw [← hn.out, hh.out])⟩
                 case measure => simp [intOf]; omega
            · have st := keep (Gb.step_item h1.out (fun _ _ => c2))
              by_cases g1 : (one.toNat : Int) = (b.toNat : Int)
              · have hh := keep (Gb.names_hit (b := b) hlt st.out (by omega) (by omega))
                go_wp2
                go_ret
                exact ⟨ret_b (by rw [← hn.out, hh.out] <;> rfl), rfl⟩
              · have hh := keep (Gb.names_miss (b := b) hlt st.out (by omega))
                by_cases g2 : (one.toNat : Int) ≤ (b.toNat : Int)
                · go_wp2
                  go_round
                  case rel => exact ⟨n, by omega, rfl, keep (by rw [← hn.out, hh.out])⟩
                  case measure => simp [intOf]; omega
                · go_wp2
                  go_round
                  case rel => exact ⟨n, by omega, rfl, keep (by rw [← hn.out, hh.out])⟩
                  case measure => simp [intOf]; omega
          · have st := keep (Gb.step_item h1.out (fun _ h => absurd h c1))
            by_cases g1 : (one.toNat : Int) = (b.toNat : Int)
            · have hh := keep (Gb.names_hit (b := b) hlt st.out (by omega) (by omega))
              go_wp2
              go_ret
              exact ⟨ret_b (by rw [← hn.out, hh.out] <;> rfl), rfl⟩
            · have hh := keep (Gb.names_miss (b := b) hlt st.out (by omega))
              by_cases g2 : (one.toNat : Int) ≤ (b.toNat : Int)
              · go_wp2
                go_round
                case rel => exact ⟨n, by omega, rfl, keep (by rw [← hn.out, hh.out])⟩
                case measure => simp [intOf]; omega
              · go_wp2
                go_round
                case rel => exact ⟨n, by omega, rfl, keep (by rw [← hn.out, hh.out])⟩
                case measure => simp [intOf]; omega
        · have hh := keep (Gb.names_nil b)
          go_wp2
          go_ret
          exact ⟨ret_b (by rw [← hn.out, Gb.D_nil s k (by omega), hh.out] <;> rfl), rfl⟩
    · rw [Gb.setM_yes (fun _ => h94)]
      have c94 : ((s[0].toNat : Int) == 94) = false := beq_eq_false_iff_ne.2 h94
      go_enter Try.func14, Try.ntmps14
      go_wp2
      go_loop [5] (nRel s b 0) (fun i => (s.size - intOf i).toNat)
      case atStart => exact ⟨0, Nat.zero_le _, rfl, rfl⟩
      case round =>
        obtain ⟨k, hk, rfl, hn⟩ := hrel
        by_cases hlt : k < s.size
        · go_wp2_with fail
          refine (readByte_any s k _ hs hlt).mono ?_
          rintro e w' ⟨one, n, rfl, hw, h1, hn1, hn2⟩; obtain rfl := hw.symm
          have h1 := keep h1
          have ho := one.toNat_lt
          by_cases c1 : n + 1 < s.size
          · by_cases c2 : (s[n].toNat : Int) = 45
            · go_wp2_with fail
              refine (readByte_any s (n + 1) _ hs c1).mono ?_
              rintro e w' ⟨other, m, rfl, hw, h2, hm1, hm2⟩; obtain rfl := hw.symm
              have h2 := keep h2
              have ht := other.toNat_lt
              have st := keep (Gb.step_range h1.out c1 (by omega) c2 h2.out)
              rcases Nat.lt_trichotomy one.toNat other.toNat with o | o | o
              all_goals
               by_cases g1 : min (one.toNat : Int) (other.toNat : Int) ≤ (b.toNat : Int)
               · by_cases g2 : (b.toNat : Int) ≤ max (one.toNat : Int) (other.toNat : Int)
                 · have hh := keep (Gb.names_hit (b := b) hlt st.out (by omega) (by omega))
                   go_wp2
                   go_ret
                   exact ⟨ret_b (by rw [← hn.out, hh.out] <;> rfl), rfl⟩
                 · have hh := keep (Gb.names_miss (b := b) hlt st.out (by omega))
                   go_wp2
                   go_round
                   case rel => exact ⟨m, by omega, rfl, keep (by rw [← hn.out, hh.out])⟩
                   case measure => simp [intOf]; omega
               · have hh := keep (Gb.names_miss (b := b) hlt st.out (by omega))
                 go_wp2
                 go_round
                 case rel => exact ⟨m, by omega, rfl, keep (by rw [← hn.out, hh.out])⟩
                 case measure => simp [intOf]; omega
            · have st := keep (Gb.step_item h1.out (fun _ _ => c2))
              by_cases g1 : (one.toNat : Int) = (b.toNat : Int)
              · have hh := keep (Gb.names_hit (b := b) hlt st.out (by omega) (by omega))
                go_wp2
                go_ret
                exact ⟨ret_b (by rw [← hn.out, hh.out] <;> rfl), rfl⟩
              · have hh := keep (Gb.names_miss (b := b) hlt st.out (by omega))
                by_cases g2 : (one.toNat : Int) ≤ (b.toNat : Int)
                · go_wp2
                  go_round
                  case rel => exact ⟨n, by omega, rfl, keep (by rw [← hn.out, hh.out])⟩
                  case measure => simp [intOf]; omega
                · go_wp2
                  go_round
                  case rel => exact ⟨n, by omega, rfl, keep (by rw [← hn.out, hh.out])⟩
                  case measure => simp [intOf]; omega
          · have st := keep (Gb.step_item h1.out (fun _ h => absurd h c1))
            by_cases g1 : (one.toNat : Int) = (b.toNat : Int)
            · have hh := keep (Gb.names_hit (b := b) hlt st.out (by omega) (by omega))
              go_wp2
              go_ret
              exact ⟨ret_b (by rw [← hn.out, hh.out] <;> rfl), rfl⟩
            · have hh := keep (Gb.names_miss (b := b) hlt st.out (by omega))
              by_cases g2 : (one.toNat : Int) ≤ (b.toNat : Int)
              · go_wp2
                go_round
                case rel => exact ⟨n, by omega, rfl, keep (by rw [← hn.out, hh.out])⟩
                case measure => simp [intOf]; omega
              · go_wp2
                go_round
                case rel => exact ⟨n, by omega, rfl, keep (by rw [← hn.out, hh.out])⟩
                case measure => simp [intOf]; omega
        · have hh := keep (Gb.names_nil b)
          go_wp2
          go_ret
          exact ⟨ret_b (by rw [← hn.out, Gb.D_nil s k (by omega), hh.out] <;> rfl), rfl⟩
  · have hE := isE s h0
    rw [Gb.setM_yes (fun h => absurd h h0), Gb.D_nil s 0 (by omega), Gb.names_nil]
    have hz : s.size = 0 := by omega
    go_enter Try.func14, Try.ntmps14
    go_wp2
    go_loop [5] (fun i => i = .int .i64 (0 : Nat)) (fun _ => 0)
    case atStart => rfl
    case round =>
      subst hrel
      go_wp2
      go_ret
      exact ⟨rfl, rfl⟩
end Go.Proofs.Ytmlpfijabdkbjaa
