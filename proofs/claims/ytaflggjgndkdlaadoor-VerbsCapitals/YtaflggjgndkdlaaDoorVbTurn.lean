/-
  Contracts over this program: the statements' own turned: some letters turned from small to capital or back.
-/
import Derived.Test.YtaflggjgndkdlaaDoorVbKeys
namespace Go.Proofs.YtaflggjgndkdlaaDoor
open Go.RowKit
set_option linter.unusedVariables false
theorem turn_up : ∀ z : Fin 256, ((97 : Int) ≤ z.val ∧ (z.val : Int) ≤ 122 ∨ (65 : Int) ≤ z.val ∧ (z.val : Int) ≤ 90) → Vb.upB ((UInt8.ofNat z.val) ^^^ 32) = Vb.upB (UInt8.ofNat z.val) ∧ bits .xor .u8 (z.val : Int) 32 = (((UInt8.ofNat z.val) ^^^ 32).toNat : Int) := by decide +kernel
theorem turn_is (c : UInt8) (h : (97 : Int) ≤ c.toNat ∧ (c.toNat : Int) ≤ 122 ∨ (65 : Int) ≤ c.toNat ∧ (c.toNat : Int) ≤ 90) : Vb.upB (c ^^^ 32) = Vb.upB c ∧ bits .xor .u8 (c.toNat : Int) 32 = ((c ^^^ 32).toNat : Int) := by
  have := turn_up ⟨c.toNat, c.toNat_lt⟩ h
  simpa using this
/-- the same letters -/
def Like (l m : List UInt8) : Prop := m.length = l.length ∧ m.map Vb.upB = l.map Vb.upB
theorem Like.set {l m : List UInt8} (h : Like l m) (j : Nat) (hj : j < m.length) (x : UInt8) (hx : Vb.upB x = Vb.upB m[j]) : Like l (m.set j x) := by
  refine ⟨by rw [List.length_set]; exact h.1, ?_⟩
  rw [← h.2]
  apply List.ext_getElem?
  intro k
  rw [List.getElem?_map, List.getElem?_map, List.getElem?_set]
  by_cases e : j = k
  · subst e
    rw [if_pos rfl, if_pos hj, List.getElem?_eq_getElem hj]
    simp [hx]
  · rw [if_neg e]
set_option maxRecDepth 100000 in
set_option maxHeartbeats 2000000 in
theorem turned_any (s : ByteArray) (mask : Int) (w : World) (hs : s.size ≤ 1000000) (hm0 : 0 ≤ mask) (hm1 : mask < 18446744073709551616) :
    Calls Tryd.prog 22 #[.string s, .int .u64 mask] w fun e w' => (∃ t, e = .returned (.string t) ∧ t.size = s.size ∧ Vb.up t = Vb.up s) ∧ Below w.heap.size w w' := by
  obtain ⟨PP, hPP⟩ : ∃ PP : Ending → World → Prop, PP = fun e w' => (∃ t, e = .returned (.string t) ∧ t.size = s.size ∧ Vb.up t = Vb.up s) ∧ Below w.heap.size w w' := ⟨_, rfl⟩
  rw [← hPP]
  have HP := keep hPP
  clear hPP
  have hbr := Br.text w.drew s (grownCap w s.size 0 5) (grownCap_ge w s.size 0 5) 0 (by have := grownCap_ge w s.size 0 5; omega)
  rw [List.replicate_zero, List.append_nil] at hbr
  obtain ⟨w1, hw1⟩ : ∃ x, x = w.drew.alloc (.cells (bytesRow s (grownCap w s.size 0 5)) 5 ((bytesRow s (grownCap w s.size 0 5)).size, (bytesRow s (grownCap w s.size 0 5)).size + 1)) := ⟨_, rfl⟩
  have hB : Below w.heap.size w w1 := by
    rw [hw1]; exact ((Below.refl w.heap.size w).drew).alloc (by exact Nat.le_refl _) _
  rw [← hw1] at hbr
  obtain ⟨l, hl⟩ : ∃ l, l = s.data.toList := ⟨_, rfl⟩
  have hn : l.length = s.size := by rw [hl, Vb.size_list]
  have hup : Vb.up s = Vb.ofL (l.map Vb.upB) := by rw [hl]; rfl
  rw [← hl, show w.drew.heap.size = w.heap.size from rfl] at hbr
  have HU := keep hup
  have HN := keep hn
  have HB := keep hB
  have HBR := keep hbr
  have HSZ := keep hs
  have hcv := run_bytes_of_string (P := Tryd.prog) w 9 51 5 s Tryd.underlying9 Tryd.underlying51 Tryd.underlying5
  rw [← hw1] at hcv
  have HM0 := keep hm0
  have HM1 := keep hm1
  clear hw1 hl hn hup hB hbr hs hm0 hm1
  go_enter Tryd.func22, Tryd.ntmps22
  go_wp2_with fail
  clear hcv
  go_loopw [6, 7] (fun v6 v7 wr => ∃ (j : Nat) (m : List UInt8), j ≤ s.size ∧ v6 = .int .i64 (j : Nat) ∧ Kept (Like l m) ∧ Kept (Br wr w.heap.size m) ∧ Kept (Below w.heap.size w wr)) (fun v6 _ _ => s.size - (intOf v6).toNat)
  case atStart => exact ⟨0, l, Nat.zero_le _, rfl, ⟨rfl, rfl⟩, HBR, HB⟩
  case round =>
    obtain ⟨j, m, hj, rfl, KL, KB, KW⟩ := hrel
    by_cases hlt : j < s.size
    · have hjl : j < m.length := by rw [KL.out.1, HN.out]; exact hlt
      have hz : (j : Int) < (s.size : Int) := by omega
      have hz0 : (0 : Int) ≤ (j : Int) := by omega
      have hdz : decide ((j : Int) < (s.size : Int)) = true := decide_eq_true hz
      obtain ⟨c1, c2⟩ := KB.out.2 j hjl
      have hset := fun x hx => KL.out.set j hjl x hx
      obtain ⟨c, hc⟩ : ∃ c, c = m[j] := ⟨_, rfl⟩
      rw [← hc] at c1 hset
      have hjw : IntKind.i64.wrap ((j : Int) + 1) = ((j + 1 : Nat) : Int) := by have := HSZ.out; rw [IntKind.wrap_i64]; omega
      have HSET := keep hset
      clear hc hset hjl
      by_cases hlet : (97 : Int) ≤ c.toNat ∧ (c.toNat : Int) ≤ 122 ∨ (65 : Int) ≤ c.toNat ∧ (c.toNat : Int) ≤ 90
      · obtain ⟨hu, hx⟩ := turn_is c hlet
        have HU2 := keep hu
        have HX2 := keep hx
        clear hu
        rcases hlet with ⟨h1, h2⟩ | ⟨h1, h2⟩
        · go_wp2_with fail
          · refine ⟨⟨j + 1, m.set j (c ^^^ 32), by omega, by rfl, HSET.out _ HU2.out, ?_, KW.out.setCell (by exact Nat.le_refl _) _⟩, by simp [intOf]; omega⟩
            have e : (c ^^^ 32).toNat = c.toNat ^^^ 32 := by rw [UInt8.toNat_xor]; rfl
            show Br _ _ _
            rw [← e]
            exact KB.out.set j (c ^^^ 32)
          · exact ⟨⟨j + 1, m, by omega, by rfl, KL, KB, KW⟩, by simp [intOf]; omega⟩
        · have h3 : ¬ (97 : Int) ≤ c.toNat := by omega
          go_wp2_with fail
          · refine ⟨⟨j + 1, m.set j (c ^^^ 32), by omega, by rfl, HSET.out _ HU2.out, ?_, KW.out.setCell (by exact Nat.le_refl _) _⟩, by simp [intOf]; omega⟩
            have e : (c ^^^ 32).toNat = c.toNat ^^^ 32 := by rw [UInt8.toNat_xor]; rfl
            show Br _ _ _
            rw [← e]
            exact KB.out.set j (c ^^^ 32)
          · exact ⟨⟨j + 1, m, by omega, by rfl, KL, KB, KW⟩, by simp [intOf]; omega⟩
      · have KL2 := KL
        by_cases h1 : (97 : Int) ≤ c.toNat
        · have h2 : ¬ (c.toNat : Int) ≤ 122 := fun h => hlet (.inl ⟨h1, h⟩)
          have h3 : (65 : Int) ≤ c.toNat := by omega
          have h4 : ¬ (c.toNat : Int) ≤ 90 := by omega
          clear hlet
          go_wp2_with fail
          go_roundw
          case measure => simp [intOf]; omega
          case rel => exact ⟨j + 1, m, by omega, by rfl, KL, KB, KW⟩
        · by_cases h3 : (65 : Int) ≤ c.toNat
          · have h4 : ¬ (c.toNat : Int) ≤ 90 := fun h => hlet (.inr ⟨h3, h⟩)
            clear hlet
            go_wp2_with fail
            go_roundw
            case measure => simp [intOf]; omega
            case rel => exact ⟨j + 1, m, by omega, by rfl, KL, KB, KW⟩
          · clear hlet
            go_wp2_with fail
            go_roundw
            case measure => simp [intOf]; omega
            case rel => exact ⟨j + 1, m, by omega, by rfl, KL, KB, KW⟩
    · have hjn : j = s.size := by omega
      have hz : ¬ (j : Int) < (s.size : Int) := by omega
      have hbk := KB.out.back (grownCap w s.size 0 5)
      rw [KL.out.1, HN.out] at hbk
      go_wp2_with fail
      rw [HP.out]
      refine ⟨⟨_, rfl, ?_, ?_⟩, KW.out⟩
      · show m.toArray.size = _
        rw [List.size_toArray, KL.out.1, HN.out]
      · rw [HU.out, ← KL.out.2]
        rfl
end Go.Proofs.YtaflggjgndkdlaaDoor
