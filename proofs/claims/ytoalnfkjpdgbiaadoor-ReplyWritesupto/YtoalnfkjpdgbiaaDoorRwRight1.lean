/-
  Contracts over this program: the document's own right, at every reply.
-/
import Derived.Test.YtoalnfkjpdgbiaaDoorRpPlainM
import Derived.Test.YtoalnfkjpdgbiaaDoorRpEnc
import Derived.Deep.Cut
import Derived.Deep.CutRange
/-
  Contracts over this program: the document's own clean and right.
-/
namespace Go.Proofs.YtoalnfkjpdgbiaaDoor
open Go.RowKit
set_option linter.unusedVariables false
theorem clean_take {s : ByteArray} {j : Nat} (hj : j < s.size) (h : Rp.clean ((Rp.bytesOf s).take j) = true) : Rp.clean ((Rp.bytesOf s).take (j + 1)) = (s[j] != 13 && s[j] != 10) := by
  have hl : (Rp.bytesOf s).length = s.size := Rp.bytes_len s
  unfold Rp.clean at h ⊢
  rw [List.take_add_one, List.all_append, h, List.getElem?_eq_getElem (by omega)]
  have e : (Rp.bytesOf s)[j]'(by omega) = s[j] := rfl
  rw [e]
  simp
theorem clean_not {s : ByteArray} {j : Nat} (hj : j < s.size) (h : (s[j] != 13 && s[j] != 10) = false) : Rp.clean (Rp.bytesOf s) = false := by
  have hl : (Rp.bytesOf s).length = s.size := Rp.bytes_len s
  unfold Rp.clean
  rw [Bool.eq_false_iff]
  intro hc
  have := List.all_eq_true.1 hc s[j] (by
    have e : (Rp.bytesOf s)[j]'(by omega) = s[j] := rfl
    rw [← e]
    exact List.getElem_mem _)
  rw [this] at h
  cases h
theorem eq_int (c d : UInt8) : ((c.toNat : Int) == (d.toNat : Int)) = (c == d) := by
  by_cases h : c = d
  · rw [h]; simp
  · have h1 : ¬ c.toNat = d.toNat := fun e => h (UInt8.toNat_inj.1 e)
    have h2 : ¬ (c.toNat : Int) = (d.toNat : Int) := by omega
    rw [beq_eq_false_iff_ne.2 h, beq_eq_false_iff_ne.2 h2]
set_option maxRecDepth 100000 in
set_option maxHeartbeats 2000000 in
theorem rclean_any (s : ByteArray) (w : World) (hs : s.size < 4294967281) : Calls Tryd.prog 51 #[.string s] w fun e w' => e = .returned (.bool (Rp.clean (Rp.bytesOf s))) ∧ w' = w := by
  obtain ⟨PP, hPP⟩ : ∃ PP : Ending → World → Prop, PP = fun e w' => e = .returned (.bool (Rp.clean (Rp.bytesOf s))) ∧ w' = w := ⟨_, rfl⟩
  rw [← hPP]
  have HP := keep hPP
  clear hPP
  have HS := keep hs
  clear hs
  go_enter Tryd.func51, Tryd.ntmps51
  go_wp2_with fail
  go_loopw [6] (fun v6 wr => ∃ j : Nat, j ≤ s.size ∧ v6 = .int .i64 (j : Nat) ∧ wr = w ∧ Kept (Rp.clean ((Rp.bytesOf s).take j) = true)) (fun v6 _ => s.size - (intOf v6).toNat)
  case atStart => exact ⟨0, Nat.zero_le _, rfl, rfl, by rw [List.take_zero]; rfl⟩
  case round =>
    obtain ⟨j, hj, rfl, hw, KC⟩ := hrel
    obtain rfl := hw.symm
    clear hw
    by_cases hlt : j < s.size
    · have hz : (j : Int) < (s.size : Int) := by omega
      have hz0 : (0 : Int) ≤ (j : Int) := by omega
      have hwj : IntKind.i64.wrap ((j : Int) + 1) = ((j + 1 : Nat) : Int) := by have := HS.out; rw [IntKind.wrap_i64]; omega
      have hct := clean_take hlt KC.out
      have hcn := fun h => clean_not (j := j) hlt h
      have h13 : (((s[j]).toNat : Int) == 13) = (s[j] == 13) := eq_int s[j] 13
      have h10 : (((s[j]).toNat : Int) == 10) = (s[j] == 10) := eq_int s[j] 10
      obtain ⟨c, hc⟩ : ∃ c, c = s[j] := ⟨_, rfl⟩
      rw [← hc] at hct hcn h13 h10
      have HCT := keep hct
      have HCN := keep hcn
      have HC := keep hc.symm
      have hix : ∀ wx, (Instr.index 9 (.string s) (.int .i64 (j : Nat))).run Tryd.prog wx = .ok (.int .u8 c.toNat) wx := fun wx => by
        rw [hc]
        go_simp
      clear hct hcn hc
      cases e13 : (c == 13) with
      | true =>
        rw [e13] at h13
        have HE := keep (HCN.out (by rw [bne, e13]; rfl))
        clear e13
        go_wp2_with fail
        rw [HP.out, HE.out]
        exact ⟨rfl, rfl⟩
      | false =>
        rw [e13] at h13
        cases e10 : (c == 10) with
        | true =>
          rw [e10] at h10
          have HE := keep (HCN.out (by rw [bne, bne, e13, e10]; decide))
          clear e13 e10
          go_wp2_with fail
          rw [HP.out, HE.out]
          exact ⟨rfl, rfl⟩
        | false =>
          rw [e10] at h10
          have HE := keep (HCT.out.trans (by rw [bne, bne, e13, e10]))
          clear e13 e10
          go_wp2_with fail
          go_roundw
          case measure => simp [intOf]; omega
          case rel => exact ⟨j + 1, hlt, by rfl, by first | trivial | rfl, HE⟩
    · obtain rfl : j = s.size := by omega
      have hz : ¬ ((s.size : Nat) : Int) < (s.size : Int) := by omega
      have KC2 := KC.out
      rw [List.take_of_length_le (by rw [Rp.bytes_len]; exact Nat.le_refl _)] at KC2
      have KC3 := keep KC2
      clear KC2
      go_wp2_with fail
      rw [HP.out, KC3.out]
      exact ⟨rfl, rfl⟩
/-- what no reply may have -/
def badB (k : Int) (s : ByteArray) (i : Int) (ln : Nat) : Bool := decide (k < 1) || decide (7 < k) || (!(k == 1 || k == 2 || k == 4) && !(s.size == 0)) || (!(k == 3) && !(i == 0)) || (!(k == 6) && decide (0 < ln))
theorem well_bad {α : Type} (k : Int) (s : ByteArray) (i : Int) (l : List α) : Rp.wellW k s i l = (!badB k s i l.length && (decide (2 < k) || Rp.clean (Rp.bytesOf s))) := by
  unfold Rp.wellW badB
  have hl : l.isEmpty = !decide (0 < l.length) := by cases l <;> simp
  rw [hl]
  generalize (s.size == 0) = a
  generalize (i == 0) = b
  generalize decide (0 < l.length) = c
  generalize Rp.clean (Rp.bytesOf s) = d
  by_cases h1 : k = 1
  · subst h1; cases a <;> cases b <;> cases c <;> cases d <;> rfl
  by_cases h2 : k = 2
  · subst h2; cases a <;> cases b <;> cases c <;> cases d <;> rfl
  by_cases h3 : k = 3
  · subst h3; cases a <;> cases b <;> cases c <;> cases d <;> rfl
  by_cases h4 : k = 4
  · subst h4; cases a <;> cases b <;> cases c <;> cases d <;> rfl
  by_cases h5 : k = 5
  · subst h5; cases a <;> cases b <;> cases c <;> cases d <;> rfl
  by_cases h6 : k = 6
  · subst h6; cases a <;> cases b <;> cases c <;> cases d <;> rfl
  by_cases h7 : k = 7
  · subst h7; cases a <;> cases b <;> cases c <;> cases d <;> rfl
  simp only [h1, h2, h3, h4, h5, h6, h7, or_self, if_false]
  have : k < 1 ∨ 7 < k := by omega
  rcases this with h | h
  · simp [h]
  · simp [h]
end Go.Proofs.YtoalnfkjpdgbiaaDoor

namespace Go.Proofs.YtoalnfkjpdgbiaaDoor
open Go.RowKit
set_option linter.unusedVariables false
/-- what a function that only reads replies answers: a Bool, in a world that has only grown -/
def BlTold (w : World) (b : Bool) (e : Ending) (w' : World) : Prop := e = .returned (.bool b) ∧ Below w.heap.size w w'
theorem all_take {α : Type} {l : List α} {p : α → Bool} {j : Nat} {x : α} (hx : l[j]? = some x) (h : (l.take j).all p = true) : (l.take (j + 1)).all p = p x := by
  rw [List.take_add_one, hx, List.all_append, h]
  simp
theorem all_not {α : Type} {l : List α} {p : α → Bool} {j : Nat} {x : α} (hx : l[j]? = some x) (h : p x = false) : l.all p = false := by
  rw [Bool.eq_false_iff]
  intro hc
  have := List.all_eq_true.1 hc x (List.mem_of_getElem? hx)
  rw [this] at h
  cases h
set_option maxRecDepth 100000 in
set_option maxHeartbeats 8000000 in
theorem right_list (n : Nat) (w : World) (k : Int) (s : ByteArray) (i : Int) (lv : Value) (l : List (Rp.T n)) (hL : Lst (· < w.heap.size) w (Tel (· < w.heap.size) w n) lv l) (hl : l.length ≤ 16777216) (hs : s.size < 4294967281)
    (IH : ∀ (w' : World) (cs : List Value) (t : Rp.T n), t ∈ l → Tel (· < w'.heap.size) w' n cs t → Calls Tryd.prog 40 #[.agg cs.toArray] w' (BlTold w' (Rp.right n t))) :
    Calls Tryd.prog 40 #[.agg #[.int .i64 k, .string s, .int .i64 i, lv]] w (BlTold w (Rp.wellW k s i l && l.all (Rp.right n))) := by
  obtain ⟨PP, hPP⟩ : ∃ PP : Ending → World → Prop, PP = BlTold w (Rp.wellW k s i l && l.all (Rp.right n)) := ⟨_, rfl⟩
  rw [← hPP]
  have HP := keep hPP
  clear hPP
  have AT := keep (fun j x (hx : l[j]? = some x) => hL.at hx (fun cs h => h.four))
  obtain ⟨ao, c, rfl, hlc, hcm⟩ := hL.form
  obtain ⟨ln, hln⟩ : ∃ q, l.length = q := ⟨_, rfl⟩
  have HWB := keep (well_bad k s i l)
  rw [hln] at AT hlc hl HWB ⊢
  obtain ⟨W1, hW1⟩ : ∃ x, x = w.alloc (.cells #[.int .i64 k, .string s, .int .i64 i, .slice ao ln c] 25) := ⟨_, rfl⟩
  have x1 : Box W1 w.heap.size (.int .i64 k) (.string s) (.int .i64 i) (.slice ao ln c) := hW1 ▸ Box.new w _ _ _ _
  have b1 : Below w.heap.size w W1 := hW1 ▸ (Below.refl _ _).alloc (Nat.le_refl _) _
  have X1 := keep x1
  have B1 := keep b1
  have hW1' := hW1.symm
  obtain ⟨d0, d1, d2, d3⟩ := x1.cells
  have HLN := keep hln
  have HLL := keep hl
  have HS := keep hs
  have IHK := keep IH
  have CL := keep (fun w => rclean_any s w hs)
  clear hW1 x1 b1 hln hl hs hlc hcm hL IH
  go_enter Tryd.func40, Tryd.ntmps40
  go_upto_region 1 with fail
  go_cut [3] from 6 to 18 (fun v3 wx => v3 = .bool (k == 1 || k == 2 || k == 4) ∧ wx = W1)
  case first =>
    by_cases h1 : k = 1
    · subst h1
      go_wp2_with fail
      go_meet
      exact ⟨by rfl, rfl⟩
    · by_cases h2 : k = 2
      · subst h2
        go_wp2_with fail
        go_meet
        exact ⟨by rfl, rfl⟩
      · by_cases h4 : k = 4
        · subst h4
          go_wp2_with fail
          go_meet
          exact ⟨by rfl, rfl⟩
        · have e1 : (k == 1) = false := by simpa using h1
          have e2 : (k == 2) = false := by simpa using h2
          have e4 : (k == 4) = false := by simpa using h4
          go_wp2_with fail
          go_meet
          exact ⟨by simp [e1, e2, e4], rfl⟩
  case rest =>
  obtain ⟨rfl, hwc⟩ := hcut
  obtain rfl := hwc.symm
  clear hwc
  go_upto_region 2 with fail
  go_cut [56] from 19 to 56 (fun v wx => v = .bool (badB k s i ln) ∧ wx = W1)
  case first =>
    have hk9 : k < 1 ∨ k = 1 ∨ k = 2 ∨ k = 3 ∨ k = 4 ∨ k = 5 ∨ k = 6 ∨ k = 7 ∨ 7 < k := by omega
    clear HP HWB IHK CL AT
    rcases hk9 with h | rfl | rfl | rfl | rfl | rfl | rfl | rfl | h
    · have hb : badB k s i ln = true := by unfold badB; simp [h]
      go_wp2_with fail
      go_meet
      exact ⟨by rw [hb], rfl⟩
    · by_cases hz : s.size = 0
      · have Z := keep (show (s.size == 0) = true by simpa using hz)
        obtain rfl : s = ⟨#[]⟩ := by
          apply ByteArray.ext
          exact Array.eq_empty_of_size_eq_zero hz
        clear hz
        by_cases hi : i = 0
        · have I := keep (show (i == 0) = true by simpa using hi)
          subst hi
          by_cases h0 : 0 < ln
          · have N := keep (decide_eq_true h0)
            have h0' : (0 : Int) < (ln : Int) := by omega
            go_wp2_with fail
            go_meet
            exact ⟨by unfold badB; rw [Z.out, I.out, N.out]; rfl, rfl⟩
          · have N := keep (decide_eq_false h0)
            have h0' : ¬ (0 : Int) < (ln : Int) := by omega
            go_wp2_with fail
            go_meet
            exact ⟨by unfold badB; rw [Z.out, I.out, N.out]; rfl, rfl⟩
        · have I := keep (show (i == 0) = false by simpa using hi)
          have hi' : (i == 0) = false := by simpa using hi
          by_cases h0 : 0 < ln
          · have N := keep (decide_eq_true h0)
            have h0' : (0 : Int) < (ln : Int) := by omega
            go_wp2_with fail
            go_meet
            exact ⟨by unfold badB; rw [Z.out, I.out, N.out]; rfl, rfl⟩
          · have N := keep (decide_eq_false h0)
            have h0' : ¬ (0 : Int) < (ln : Int) := by omega
            go_wp2_with fail
            go_meet
            exact ⟨by unfold badB; rw [Z.out, I.out, N.out]; rfl, rfl⟩
      · have Z := keep (show (s.size == 0) = false by simpa using hz)
        have hz1 : ¬ s.toList = [] := fun e => hz (by rw [← Rp.bytes_len, show Rp.bytesOf s = s.toList from (ByteArray.toList_eq s).symm, e]; rfl)
        have hz2 : (s.toList == []) = false := by simpa using hz1
        by_cases hi : i = 0
        · have I := keep (show (i == 0) = true by simpa using hi)
          subst hi
          by_cases h0 : 0 < ln
          · have N := keep (decide_eq_true h0)
            have h0' : (0 : Int) < (ln : Int) := by omega
            go_wp2_with fail
            go_meet
            exact ⟨by unfold badB; rw [Z.out, I.out, N.out]; rfl, rfl⟩
          · have N := keep (decide_eq_false h0)
            have h0' : ¬ (0 : Int) < (ln : Int) := by omega
            go_wp2_with fail
            go_meet
            exact ⟨by unfold badB; rw [Z.out, I.out, N.out]; rfl, rfl⟩
        · have I := keep (show (i == 0) = false by simpa using hi)
          have hi' : (i == 0) = false := by simpa using hi
          by_cases h0 : 0 < ln
          · have N := keep (decide_eq_true h0)
            have h0' : (0 : Int) < (ln : Int) := by omega
            go_wp2_with fail
            go_meet
            exact ⟨by unfold badB; rw [Z.out, I.out, N.out]; rfl, rfl⟩
          · have N := keep (decide_eq_false h0)
            have h0' : ¬ (0 : Int) < (ln : Int) := by omega
            go_wp2_with fail
            go_meet
            exact ⟨by unfold badB; rw [Z.out, I.out, N.out]; rfl, rfl⟩
    · by_cases hz : s.size = 0
      · have Z := keep (show (s.size == 0) = true by simpa using hz)
        obtain rfl : s = ⟨#[]⟩ := by
          apply ByteArray.ext
          exact Array.eq_empty_of_size_eq_zero hz
        clear hz
        by_cases hi : i = 0
        · have I := keep (show (i == 0) = true by simpa using hi)
          subst hi
          by_cases h0 : 0 < ln
          · have N := keep (decide_eq_true h0)
            have h0' : (0 : Int) < (ln : Int) := by omega
            go_wp2_with fail
            go_meet
            exact ⟨by unfold badB; rw [Z.out, I.out, N.out]; rfl, rfl⟩
          · have N := keep (decide_eq_false h0)
            have h0' : ¬ (0 : Int) < (ln : Int) := by omega
            go_wp2_with fail
            go_meet
            exact ⟨by unfold badB; rw [Z.out, I.out, N.out]; rfl, rfl⟩
        · have I := keep (show (i == 0) = false by simpa using hi)
          have hi' : (i == 0) = false := by simpa using hi
          by_cases h0 : 0 < ln
          · have N := keep (decide_eq_true h0)
            have h0' : (0 : Int) < (ln : Int) := by omega
            go_wp2_with fail
            go_meet
            exact ⟨by unfold badB; rw [Z.out, I.out, N.out]; rfl, rfl⟩
          · have N := keep (decide_eq_false h0)
            have h0' : ¬ (0 : Int) < (ln : Int) := by omega
            go_wp2_with fail
            go_meet
            exact ⟨by unfold badB; rw [Z.out, I.out, N.out]; rfl, rfl⟩
      · have Z := keep (show (s.size == 0) = false by simpa using hz)
        have hz1 : ¬ s.toList = [] := fun e => hz (by rw [← Rp.bytes_len, show Rp.bytesOf s = s.toList from (ByteArray.toList_eq s).symm, e]; rfl)
        have hz2 : (s.toList == []) = false := by simpa using hz1
        by_cases hi : i = 0
        · have I := keep (show (i == 0) = true by simpa using hi)
          subst hi
          by_cases h0 : 0 < ln
          · have N := keep (decide_eq_true h0)
            have h0' : (0 : Int) < (ln : Int) := by omega
            go_wp2_with fail
            go_meet
            exact ⟨by unfold badB; rw [Z.out, I.out, N.out]; rfl, rfl⟩
          · have N := keep (decide_eq_false h0)
            have h0' : ¬ (0 : Int) < (ln : Int) := by omega
            go_wp2_with fail
            go_meet
            exact ⟨by unfold badB; rw [Z.out, I.out, N.out]; rfl, rfl⟩
        · have I := keep (show (i == 0) = false by simpa using hi)
          have hi' : (i == 0) = false := by simpa using hi
          by_cases h0 : 0 < ln
          · have N := keep (decide_eq_true h0)
            have h0' : (0 : Int) < (ln : Int) := by omega
            go_wp2_with fail
            go_meet
            exact ⟨by unfold badB; rw [Z.out, I.out, N.out]; rfl, rfl⟩
          · have N := keep (decide_eq_false h0)
            have h0' : ¬ (0 : Int) < (ln : Int) := by omega
            go_wp2_with fail
            go_meet
            exact ⟨by unfold badB; rw [Z.out, I.out, N.out]; rfl, rfl⟩
    · by_cases hz : s.size = 0
      · have Z := keep (show (s.size == 0) = true by simpa using hz)
        obtain rfl : s = ⟨#[]⟩ := by
          apply ByteArray.ext
          exact Array.eq_empty_of_size_eq_zero hz
        clear hz
        by_cases hi : i = 0
        · have I := keep (show (i == 0) = true by simpa using hi)
          subst hi
          by_cases h0 : 0 < ln
          · have N := keep (decide_eq_true h0)
            have h0' : (0 : Int) < (ln : Int) := by omega
            go_wp2_with fail
            go_meet
            exact ⟨by unfold badB; rw [Z.out, I.out, N.out]; rfl, rfl⟩
          · have N := keep (decide_eq_false h0)
            have h0' : ¬ (0 : Int) < (ln : Int) := by omega
            go_wp2_with fail
            go_meet
            exact ⟨by unfold badB; rw [Z.out, I.out, N.out]; rfl, rfl⟩
        · have I := keep (show (i == 0) = false by simpa using hi)
          have hi' : (i == 0) = false := by simpa using hi
          by_cases h0 : 0 < ln
          · have N := keep (decide_eq_true h0)
            have h0' : (0 : Int) < (ln : Int) := by omega
            go_wp2_with fail
            go_meet
            exact ⟨by unfold badB; rw [Z.out, I.out, N.out]; rfl, rfl⟩
          · have N := keep (decide_eq_false h0)
            have h0' : ¬ (0 : Int) < (ln : Int) := by omega
            go_wp2_with fail
            go_meet
            exact ⟨by unfold badB; rw [Z.out, I.out, N.out]; rfl, rfl⟩
      · have Z := keep (show (s.size == 0) = false by simpa using hz)
        have hz1 : ¬ s.toList = [] := fun e => hz (by rw [← Rp.bytes_len, show Rp.bytesOf s = s.toList from (ByteArray.toList_eq s).symm, e]; rfl)
        have hz2 : (s.toList == []) = false := by simpa using hz1
        by_cases hi : i = 0
        · have I := keep (show (i == 0) = true by simpa using hi)
          subst hi
          by_cases h0 : 0 < ln
          · have N := keep (decide_eq_true h0)
            have h0' : (0 : Int) < (ln : Int) := by omega
            go_wp2_with fail
            go_meet
            exact ⟨by unfold badB; rw [Z.out, I.out, N.out]; rfl, rfl⟩
          · have N := keep (decide_eq_false h0)
            have h0' : ¬ (0 : Int) < (ln : Int) := by omega
            go_wp2_with fail
            go_meet
            exact ⟨by unfold badB; rw [Z.out, I.out, N.out]; rfl, rfl⟩
        · have I := keep (show (i == 0) = false by simpa using hi)
          have hi' : (i == 0) = false := by simpa using hi
          by_cases h0 : 0 < ln
          · have N := keep (decide_eq_true h0)
            have h0' : (0 : Int) < (ln : Int) := by omega
            go_wp2_with fail
            go_meet
            exact ⟨by unfold badB; rw [Z.out, I.out, N.out]; rfl, rfl⟩
          · have N := keep (decide_eq_false h0)
            have h0' : ¬ (0 : Int) < (ln : Int) := by omega
            go_wp2_with fail
            go_meet
            exact ⟨by unfold badB; rw [Z.out, I.out, N.out]; rfl, rfl⟩
    · by_cases hz : s.size = 0
      · have Z := keep (show (s.size == 0) = true by simpa using hz)
        obtain rfl : s = ⟨#[]⟩ := by
          apply ByteArray.ext
          exact Array.eq_empty_of_size_eq_zero hz
        clear hz
        by_cases hi : i = 0
        · have I := keep (show (i == 0) = true by simpa using hi)
          subst hi
          by_cases h0 : 0 < ln
          · have N := keep (decide_eq_true h0)
            have h0' : (0 : Int) < (ln : Int) := by omega
            go_wp2_with fail
            go_meet
            exact ⟨by unfold badB; rw [Z.out, I.out, N.out]; rfl, rfl⟩
          · have N := keep (decide_eq_false h0)
            have h0' : ¬ (0 : Int) < (ln : Int) := by omega
            go_wp2_with fail
            go_meet
            exact ⟨by unfold badB; rw [Z.out, I.out, N.out]; rfl, rfl⟩
        · have I := keep (show (i == 0) = false by simpa using hi)
          have hi' : (i == 0) = false := by simpa using hi
          by_cases h0 : 0 < ln
          · have N := keep (decide_eq_true h0)
            have h0' : (0 : Int) < (ln : Int) := by omega
            go_wp2_with fail
            go_meet
            exact ⟨by unfold badB; rw [Z.out, I.out, N.out]; rfl, rfl⟩
          · have N := keep (decide_eq_false h0)
            have h0' : ¬ (0 : Int) < (ln : Int) := by omega
            go_wp2_with fail
            go_meet
            exact ⟨by unfold badB; rw [Z.out, I.out, N.out]; rfl, rfl⟩
      · have Z := keep (show (s.size == 0) = false by simpa using hz)
        have hz1 : ¬ s.toList = [] := fun e => hz (by rw [← Rp.bytes_len, show Rp.bytesOf s = s.toList from (ByteArray.toList_eq s).symm, e]; rfl)
        have hz2 : (s.toList == []) = false := by simpa using hz1
        by_cases hi : i = 0
        · have I := keep (show (i == 0) = true by simpa using hi)
          subst hi
          by_cases h0 : 0 < ln
          · have N := keep (decide_eq_true h0)
            have h0' : (0 : Int) < (ln : Int) := by omega
            go_wp2_with fail
            go_meet
            exact ⟨by unfold badB; rw [Z.out, I.out, N.out]; rfl, rfl⟩
          · have N := keep (decide_eq_false h0)
            have h0' : ¬ (0 : Int) < (ln : Int) := by omega
            go_wp2_with fail
            go_meet
            exact ⟨by unfold badB; rw [Z.out, I.out, N.out]; rfl, rfl⟩
        · have I := keep (show (i == 0) = false by simpa using hi)
          have hi' : (i == 0) = false := by simpa using hi
          by_cases h0 : 0 < ln
          · have N := keep (decide_eq_true h0)
            have h0' : (0 : Int) < (ln : Int) := by omega
            go_wp2_with fail
            go_meet
            exact ⟨by unfold badB; rw [Z.out, I.out, N.out]; rfl, rfl⟩
          · have N := keep (decide_eq_false h0)
            have h0' : ¬ (0 : Int) < (ln : Int) := by omega
            go_wp2_with fail
            go_meet
            exact ⟨by unfold badB; rw [Z.out, I.out, N.out]; rfl, rfl⟩
    · by_cases hz : s.size = 0
      · have Z := keep (show (s.size == 0) = true by simpa using hz)
        obtain rfl : s = ⟨#[]⟩ := by
          apply ByteArray.ext
          exact Array.eq_empty_of_size_eq_zero hz
        clear hz
        by_cases hi : i = 0
        · have I := keep (show (i == 0) = true by simpa using hi)
          subst hi
          by_cases h0 : 0 < ln
          · have N := keep (decide_eq_true h0)
            have h0' : (0 : Int) < (ln : Int) := by omega
            go_wp2_with fail
            go_meet
            exact ⟨by unfold badB; rw [Z.out, I.out, N.out]; rfl, rfl⟩
          · have N := keep (decide_eq_false h0)
            have h0' : ¬ (0 : Int) < (ln : Int) := by omega
            go_wp2_with fail
            go_meet
            exact ⟨by unfold badB; rw [Z.out, I.out, N.out]; rfl, rfl⟩
        · have I := keep (show (i == 0) = false by simpa using hi)
          have hi' : (i == 0) = false := by simpa using hi
          by_cases h0 : 0 < ln
          · have N := keep (decide_eq_true h0)
            have h0' : (0 : Int) < (ln : Int) := by omega
            go_wp2_with fail
            go_meet
            exact ⟨by unfold badB; rw [Z.out, I.out, N.out]; rfl, rfl⟩
          · have N := keep (decide_eq_false h0)
            have h0' : ¬ (0 : Int) < (ln : Int) := by omega
            go_wp2_with fail
            go_meet
            exact ⟨by unfold badB; rw [Z.out, I.out, N.out]; rfl, rfl⟩
      · have Z := keep (show (s.size == 0) = false by simpa using hz)
        have hz1 : ¬ s.toList = [] := fun e => hz (by rw [← Rp.bytes_len, show Rp.bytesOf s = s.toList from (ByteArray.toList_eq s).symm, e]; rfl)
        have hz2 : (s.toList == []) = false := by simpa using hz1
        by_cases hi : i = 0
        · have I := keep (show (i == 0) = true by simpa using hi)
          subst hi
          by_cases h0 : 0 < ln
          · have N := keep (decide_eq_true h0)
            have h0' : (0 : Int) < (ln : Int) := by omega
            go_wp2_with fail
            go_meet
            exact ⟨by unfold badB; rw [Z.out, I.out, N.out]; rfl, rfl⟩
          · have N := keep (decide_eq_false h0)
            have h0' : ¬ (0 : Int) < (ln : Int) := by omega
            go_wp2_with fail
            go_meet
            exact ⟨by unfold badB; rw [Z.out, I.out, N.out]; rfl, rfl⟩
        · have I := keep (show (i == 0) = false by simpa using hi)
          have hi' : (i == 0) = false := by simpa using hi
          by_cases h0 : 0 < ln
          · have N := keep (decide_eq_true h0)
            have h0' : (0 : Int) < (ln : Int) := by omega
            go_wp2_with fail
            go_meet
            exact ⟨by unfold badB; rw [Z.out, I.out, N.out]; rfl, rfl⟩
          · have N := keep (decide_eq_false h0)
            have h0' : ¬ (0 : Int) < (ln : Int) := by omega
            go_wp2_with fail
            go_meet
            exact ⟨by unfold badB; rw [Z.out, I.out, N.out]; rfl, rfl⟩
    · by_cases hz : s.size = 0
      · have Z := keep (show (s.size == 0) = true by simpa using hz)
        obtain rfl : s = ⟨#[]⟩ := by
          apply ByteArray.ext
          exact Array.eq_empty_of_size_eq_zero hz
        clear hz
        by_cases hi : i = 0
        · have I := keep (show (i == 0) = true by simpa using hi)
          subst hi
          by_cases h0 : 0 < ln
          · have N := keep (decide_eq_true h0)
            have h0' : (0 : Int) < (ln : Int) := by omega
            go_wp2_with fail
            go_meet
            exact ⟨by unfold badB; rw [Z.out, I.out, N.out]; rfl, rfl⟩
          · have N := keep (decide_eq_false h0)
            have h0' : ¬ (0 : Int) < (ln : Int) := by omega
            go_wp2_with fail
            go_meet
            exact ⟨by unfold badB; rw [Z.out, I.out, N.out]; rfl, rfl⟩
        · have I := keep (show (i == 0) = false by simpa using hi)
          have hi' : (i == 0) = false := by simpa using hi
          by_cases h0 : 0 < ln
          · have N := keep (decide_eq_true h0)
            have h0' : (0 : Int) < (ln : Int) := by omega
            go_wp2_with fail
            go_meet
            exact ⟨by unfold badB; rw [Z.out, I.out, N.out]; rfl, rfl⟩
          · have N := keep (decide_eq_false h0)
            have h0' : ¬ (0 : Int) < (ln : Int) := by omega
            go_wp2_with fail
            go_meet
            exact ⟨by unfold badB; rw [Z.out, I.out, N.out]; rfl, rfl⟩
      · have Z := keep (show (s.size == 0) = false by simpa using hz)
        have hz1 : ¬ s.toList = [] := fun e => hz (by rw [← Rp.bytes_len, show Rp.bytesOf s = s.toList from (ByteArray.toList_eq s).symm, e]; rfl)
        have hz2 : (s.toList == []) = false := by simpa using hz1
        by_cases hi : i = 0
        · have I := keep (show (i == 0) = true by simpa using hi)
          subst hi
          by_cases h0 : 0 < ln
          · have N := keep (decide_eq_true h0)
            have h0' : (0 : Int) < (ln : Int) := by omega
            go_wp2_with fail
            go_meet
            exact ⟨by unfold badB; rw [Z.out, I.out, N.out]; rfl, rfl⟩
          · have N := keep (decide_eq_false h0)
            have h0' : ¬ (0 : Int) < (ln : Int) := by omega
            go_wp2_with fail
            go_meet
            exact ⟨by unfold badB; rw [Z.out, I.out, N.out]; rfl, rfl⟩
        · have I := keep (show (i == 0) = false by simpa using hi)
          have hi' : (i == 0) = false := by simpa using hi
          by_cases h0 : 0 < ln
          · have N := keep (decide_eq_true h0)
            have h0' : (0 : Int) < (ln : Int) := by omega
            go_wp2_with fail
            go_meet
            exact ⟨by unfold badB; rw [Z.out, I.out, N.out]; rfl, rfl⟩
          · have N := keep (decide_eq_false h0)
            have h0' : ¬ (0 : Int) < (ln : Int) := by omega
            go_wp2_with fail
            go_meet
            exact ⟨by unfold badB; rw [Z.out, I.out, N.out]; rfl, rfl⟩
    · by_cases hz : s.size = 0
      · have Z := keep (show (s.size == 0) = true by simpa using hz)
        obtain rfl : s = ⟨#[]⟩ := by
          apply ByteArray.ext
          exact Array.eq_empty_of_size_eq_zero hz
        clear hz
        by_cases hi : i = 0
        · have I := keep (show (i == 0) = true by simpa using hi)
          subst hi
          by_cases h0 : 0 < ln
          · have N := keep (decide_eq_true h0)
            have h0' : (0 : Int) < (ln : Int) := by omega
            go_wp2_with fail
            go_meet
            exact ⟨by unfold badB; rw [Z.out, I.out, N.out]; rfl, rfl⟩
          · have N := keep (decide_eq_false h0)
            have h0' : ¬ (0 : Int) < (ln : Int) := by omega
            go_wp2_with fail
            go_meet
            exact ⟨by unfold badB; rw [Z.out, I.out, N.out]; rfl, rfl⟩
        · have I := keep (show (i == 0) = false by simpa using hi)
          have hi' : (i == 0) = false := by simpa using hi
          by_cases h0 : 0 < ln
          · have N := keep (decide_eq_true h0)
            have h0' : (0 : Int) < (ln : Int) := by omega
            go_wp2_with fail
            go_meet
            exact ⟨by unfold badB; rw [Z.out, I.out, N.out]; rfl, rfl⟩
          · have N := keep (decide_eq_false h0)
            have h0' : ¬ (0 : Int) < (ln : Int) := by omega
            go_wp2_with fail
            go_meet
            exact ⟨by unfold badB; rw [Z.out, I.out, N.out]; rfl, rfl⟩
      · have Z := keep (show (s.size == 0) = false by simpa using hz)
        have hz1 : ¬ s.toList = [] := fun e => hz (by rw [← Rp.bytes_len, show Rp.bytesOf s = s.toList from (ByteArray.toList_eq s).symm, e]; rfl)
        have hz2 : (s.toList == []) = false := by simpa using hz1
        by_cases hi : i = 0
        · have I := keep (show (i == 0) = true by simpa using hi)
          subst hi
          by_cases h0 : 0 < ln
          · have N := keep (decide_eq_true h0)
            have h0' : (0 : Int) < (ln : Int) := by omega
            go_wp2_with fail
            go_meet
            exact ⟨by unfold badB; rw [Z.out, I.out, N.out]; rfl, rfl⟩
          · have N := keep (decide_eq_false h0)
            have h0' : ¬ (0 : Int) < (ln : Int) := by omega
            go_wp2_with fail
            go_meet
            exact ⟨by unfold badB; rw [Z.out, I.out, N.out]; rfl, rfl⟩
        · have I := keep (show (i == 0) = false by simpa using hi)
          have hi' : (i == 0) = false := by simpa using hi
          by_cases h0 : 0 < ln
          · have N := keep (decide_eq_true h0)
            have h0' : (0 : Int) < (ln : Int) := by omega
            go_wp2_with fail
            go_meet
            exact ⟨by unfold badB; rw [Z.out, I.out, N.out]; rfl, rfl⟩
          · have N := keep (decide_eq_false h0)
            have h0' : ¬ (0 : Int) < (ln : Int) := by omega
            go_wp2_with fail
            go_meet
            exact ⟨by unfold badB; rw [Z.out, I.out, N.out]; rfl, rfl⟩
    · have hb : badB k s i ln = true := by unfold badB; simp [h]
      have h0 : ¬ k < 1 := by omega
      have h7 : decide (7 < k) = true := decide_eq_true h
      go_wp2_with fail
      go_meet
      exact ⟨by rw [hb], rfl⟩
  case rest =>
  obtain ⟨rfl, hwc⟩ := hcut
  obtain rfl := hwc.symm
  clear hwc
  cases hb : badB k s i ln with
  | true =>
    have HB := keep hb
    clear hb
    go_wp2_with fail
    rw [HP.out, HWB.out, HB.out]
    exact ⟨rfl, B1.out⟩
  | false =>
    have HB := keep hb
    clear hb
    go_upto_region 4 with fail
    go_cut [65] from 57 to 65 (fun v wx => v = .bool (decide (k ≤ 2) && !Rp.clean (Rp.bytesOf s)) ∧ wx = W1)
    case first =>
      by_cases h : k ≤ 2
      · have hd : decide (k ≤ 2) = true := decide_eq_true h
        go_wp2_with fail
        refine (CL.out _).mono ?_
        rintro _ wq ⟨rfl, hwq⟩
        obtain rfl := hwq.symm
        go_wp2_with fail
        go_meet
        exact ⟨by rw [hd]; rfl, rfl⟩
      · have hd : decide (k ≤ 2) = false := decide_eq_false h
        go_wp2_with fail
        go_meet
        exact ⟨by rw [hd]; rfl, rfl⟩
    case rest =>
    obtain ⟨rfl, hwc⟩ := hcut
    obtain rfl := hwc.symm
    clear hwc
    have hwl : Rp.wellW k s i l = !(decide (k ≤ 2) && !Rp.clean (Rp.bytesOf s)) := by
      rw [HWB.out, HB.out]
      by_cases h : k ≤ 2
      · rw [decide_eq_true h, decide_eq_false (show ¬ 2 < k by omega)]
        cases Rp.clean (Rp.bytesOf s) <;> rfl
      · rw [decide_eq_false h, decide_eq_true (show 2 < k by omega)]
        rfl
    obtain ⟨q, hq⟩ : ∃ q, q = (decide (k ≤ 2) && !Rp.clean (Rp.bytesOf s)) := ⟨_, rfl⟩
    rw [← hq] at hwl ⊢
    have HWL := keep hwl
    clear hwl hq
    cases q with
    | true =>
      go_wp2_with fail
      rw [HP.out, HWL.out]
      exact ⟨rfl, B1.out⟩
    | false =>
      go_wp2_with fail
      go_loopw [69] (fun v wr => ∃ j : Nat, j ≤ ln ∧ v = .int .i64 (j : Nat) ∧ Kept (Below W1.heap.size W1 wr) ∧ Kept ((l.take j).all (Rp.right n) = true)) (fun v _ => ln - (intOf v).toNat)
      case atStart => exact ⟨0, Nat.zero_le _, rfl, Below.refl _ _, by rw [List.take_zero]; rfl⟩
      case round =>
        obtain ⟨j, hj, rfl, KB, KA⟩ := hrel
        clear d0 d1 d2 d3 hW1'
        by_cases hlt : j < ln
        · have h0 : (0 : Int) ≤ (j : Int) := by omega
          have h1 : (j : Int) < (ln : Int) := by omega
          have nw : IntKind.i64.wrap ((j : Int) + 1) = ((j + 1 : Nat) : Int) := by have := HLL.out; rw [IntKind.wrap_i64]; omega
          obtain ⟨x, hx⟩ : ∃ x, l[j]? = some x := ⟨_, List.getElem?_eq_getElem (by rw [HLN.out]; exact hlt)⟩
          obtain ⟨g, cap, hao, hg, c0, c1, c2, c3, tx, m0, m1, m2, m3⟩ := AT.out j x hx
          obtain ⟨e0, e1, e2, e3, e4, e5, hcs, _⟩ := tx.six
          obtain ⟨rfl, rfl, rfl, rfl⟩ : c0 = .int .i64 e0 ∧ c1 = .string e1 ∧ c2 = .int .i64 e2 ∧ c3 = .slice e3 e4 e5 := by
            injection hcs with h1 h2
            injection h2 with h2 h3
            injection h3 with h3 h4
            injection h4 with h4 _
            exact ⟨h1, h2, h3, h4⟩
          clear hcs
          injection hao with ha1 _ ha3
          subst ha1
          subst ha3
          have BW := keep (B1.out.trans (KB.out.mono B1.out.size))
          have n0 := (BW.out.cell (p := ⟨g, j * 4, none⟩) hg).trans m0
          have n1 := (BW.out.cell (p := ⟨g, j * 4 + 1, none⟩) hg).trans m1
          have n2 := (BW.out.cell (p := ⟨g, j * 4 + 2, none⟩) hg).trans m2
          have n3 := (BW.out.cell (p := ⟨g, j * 4 + 3, none⟩) hg).trans m3
          obtain ⟨WA, hWA⟩ : ∃ x, x = wr.alloc (.cells #[.int .i64 e0, .string e1, .int .i64 e2, .slice e3 e4 e5] 25) := ⟨_, rfl⟩
          have xa : Box WA wr.heap.size (.int .i64 e0) (.string e1) (.int .i64 e2) (.slice e3 e4 e5) := hWA ▸ Box.new wr _ _ _ _
          have ba : Below wr.heap.size wr WA := hWA ▸ (Below.refl _ _).alloc (Nat.le_refl _) _
          obtain ⟨p0, p1, p2, p3⟩ := xa.cells
          have hWA' := hWA.symm
          have telx : Tel (· < WA.heap.size) WA n [.int .i64 e0, .string e1, .int .i64 e2, .slice e3 e4 e5] x :=
            Tel.mono (fun b hb => Nat.lt_of_lt_of_le hb (Nat.le_trans BW.out.size ba.size)) (fun b hb => (ba.block b (Nat.lt_of_lt_of_le hb BW.out.size)).trans (BW.out.block b hb)) _ _ _ tx
          have CALL := keep (IHK.out WA _ x (List.mem_of_getElem? hx) telx)
          have HX := keep hx
          have HLT := keep hlt
          have BA := keep (KB.out.trans (ba.mono KB.out.size))
          clear tx hg m0 m1 m2 m3 hx hWA xa ba telx hlt
          go_wp2_with fail
          refine CALL.out.mono ?_
          rintro e w2 ⟨rfl, b2⟩
          have B2 := keep (BA.out.trans (b2.mono BA.out.size))
          obtain ⟨r, hr⟩ : ∃ r, Rp.right n x = r := ⟨_, rfl⟩
          rw [hr]
          have HR := keep hr
          clear hr b2 p0 p1 p2 p3 n0 n1 n2 n3 hWA'
          cases r with
          | true =>
            go_wp2_with fail
            go_roundw
            case measure => have := HLT.out; simp [intOf]; omega
            case rel => exact ⟨j + 1, HLT.out, by rfl, B2, (all_take HX.out KA.out).trans HR.out⟩
          | false =>
            go_wp2_with fail
            rw [HP.out, all_not HX.out HR.out, Bool.and_false]
            exact ⟨rfl, B1.out.trans (B2.out.mono B1.out.size)⟩
        · obtain rfl : j = ln := by omega
          have h1 : ¬ (j : Int) < (j : Int) := by omega
          have hall : l.all (Rp.right n) = true := by
            have := KA.out
            rwa [List.take_of_length_le (by rw [HLN.out]; exact Nat.le_refl _)] at this
          have HA := keep hall
          clear hall
          go_wp2_with fail
          rw [HP.out, HWL.out, HA.out]
          exact ⟨rfl, B1.out.trans (KB.out.mono B1.out.size)⟩
theorem rright_any : ∀ (n : Nat) (t : Rp.T n) (cs : List Value) (w : World), Tel (· < w.heap.size) w n cs t → Rp.wt n t ≤ 2000000 →
    Calls Tryd.prog 40 #[.agg cs.toArray] w (BlTold w (Rp.right n t))
  | 0, t, _, _, _, _ => nomatch t
  | n + 1, t, cs, w, hT, hw => by
    obtain ⟨v, rfl, hL, hk, hi, hs⟩ := hT
    have hw' : Rp.wt (n + 1) t = 4 + (Rp.tx t).size + ((Rp.ls t).map (Rp.wt n)).sum := rfl
    exact right_list n w (Rp.kd t) (Rp.tx t) (Rp.nm t) v (Rp.ls t) hL (by have := Rp.sum_len (Rp.wt n) (Rp.wt_pos n) (Rp.ls t); omega) hs (fun w' cs' u hu hT' => rright_any n u cs' w' hT' (by have := Rp.sum_mem (Rp.wt n) _ u hu; omega))
end Go.Proofs.YtoalnfkjpdgbiaaDoor
