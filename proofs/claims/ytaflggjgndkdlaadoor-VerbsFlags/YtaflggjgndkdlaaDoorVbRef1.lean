/-
  Contracts over this program: the document's own Upper and number.
-/
import Derived.Test.YtaflggjgndkdlaaDoorVbRef0
namespace Go.Proofs.YtaflggjgndkdlaaDoor
open Go.RowKit
set_option linter.unusedVariables false
theorem rup_of (c : UInt8) (h : (97 : Int) ≤ (c.toNat : Int)) (h2 : (c.toNat : Int) ≤ 122) : (c.toNat : Int) - 32 = ((Vb.upB c).toNat : Int) := by
  revert h h2
  have H : ∀ z : Fin 256, (97 : Int) ≤ (z.val : Int) → (z.val : Int) ≤ 122 → (z.val : Int) - 32 = ((Vb.upB (UInt8.ofNat z.val)).toNat : Int) := by decide +kernel
  intro h h2
  have := H ⟨c.toNat, c.toNat_lt⟩ h h2
  simpa using this
set_option maxRecDepth 100000 in
set_option maxHeartbeats 1000000 in
theorem rupper_any (s : ByteArray) (w : World) (hs : s.size ≤ 9223372036854775807) : Calls Tryd.prog 12 #[.string s] w fun e w' => e = .returned (.string (Vb.up s)) ∧ Below w.heap.size w w' := by
  have hbr := Br.text w.drew s (grownCap w s.size 0 5) (grownCap_ge w s.size 0 5) 0 (by have := grownCap_ge w s.size 0 5; omega)
  rw [List.replicate_zero, List.append_nil] at hbr
  obtain ⟨w1, hw1⟩ : ∃ x, x = w.drew.alloc (.cells (bytesRow s (grownCap w s.size 0 5)) 5 ((bytesRow s (grownCap w s.size 0 5)).size, (bytesRow s (grownCap w s.size 0 5)).size + 1)) := ⟨_, rfl⟩
  have hB : Below w.heap.size w w1 := by
    rw [hw1]; exact ((Below.refl w.heap.size w).drew).alloc (by exact Nat.le_refl _) _
  rw [← hw1] at hbr
  obtain ⟨l, hl⟩ : ∃ l, l = s.data.toList := ⟨_, rfl⟩
  have hn : l.length = s.size := by rw [hl, Vb.size_list]
  have hup : Vb.up s = Vb.ofL (l.map Vb.upB) := by rw [hl]; rfl
  rw [← hl, show w.drew.heap.size = w.heap.size from rfl] at hbr
  rw [hup]
  have HN := keep hn
  have HB := keep hB
  have HBR := keep hbr
  have HSZ := keep hs
  have hcv := run_bytes_of_string (P := Tryd.prog) w 9 51 5 s Tryd.underlying9 Tryd.underlying51 Tryd.underlying5
  rw [← hw1] at hcv
  clear hw1 hl hn hup hB hbr hs
  go_enter Tryd.func12, Tryd.ntmps12
  go_wp2_with fail
  clear hcv
  go_loopw [4] (fun v10 wr => ∃ j : Nat, j ≤ s.size ∧ v10 = .int .i64 (j : Nat) ∧ Kept (Br wr w.heap.size (upd l j)) ∧ Kept (Below w.heap.size w wr)) (fun v10 _ => s.size - (intOf v10).toNat)
  case atStart => exact ⟨0, Nat.zero_le _, rfl, by rw [upd_zero]; exact HBR, HB⟩
  case round =>
    obtain ⟨j, hj, rfl, KB, KW⟩ := hrel
    by_cases hlt : j < s.size
    · have hjl : j < l.length := by rw [HN.out]; exact hlt
      have hz : (j : Int) < (s.size : Int) := by omega
      have hz0 : (0 : Int) ≤ (j : Int) := by omega
      have hdz : decide ((j : Int) < (s.size : Int)) = true := decide_eq_true hz
      obtain ⟨c1, c2⟩ := KB.out.2 j (by rw [upd_len]; exact hjl)
      rw [upd_at l j hjl] at c1
      have hset := upd_set l j hjl
      have hlj : l[j]? = some l[j] := List.getElem?_eq_getElem hjl
      obtain ⟨c, hc⟩ : ∃ c, c = l[j] := ⟨_, rfl⟩
      rw [← hc] at c1 hset hlj
      clear hc
      have HLJ := keep hlj
      have hjw : IntKind.i64.wrap ((j : Int) + 1) = ((j + 1 : Nat) : Int) := by have := HSZ.out; rw [IntKind.wrap_i64]; omega
      by_cases hlow : (97 : Int) ≤ (c.toNat : Int) ∧ (c.toNat : Int) ≤ 122
      · obtain ⟨h1, h2⟩ := hlow
        have hu := rup_of c h1 h2
        have HS := keep hset
        have HU := keep hu
        clear hset hu
        go_wp2_with fail
        go_roundw
        case measure => simp [intOf]; omega
        case rel =>
          refine ⟨j + 1, by omega, by rfl, ?_, ?_⟩
          · show Br _ _ _
            rw [← HS.out, HU.out]; exact KB.out.set j _
          · exact KW.out.setCell (by exact Nat.le_refl _) _
      · rw [up_not c hlow] at hset
        have hself : (upd l j).set j c = upd l j := by
          apply List.ext_getElem?
          intro k
          rw [List.getElem?_set]
          split
          · rename_i e
            subst e
            rw [if_pos (by rw [upd_len]; exact hjl), upd_get l j j (by omega), if_neg (by omega), hlj]
          · rfl
        rw [hself] at hset
        have HS := keep hset
        clear hset hself
        by_cases h1 : (97 : Int) ≤ (c.toNat : Int)
        · have h2 : ¬ (c.toNat : Int) ≤ 122 := fun h => hlow ⟨h1, h⟩
          clear hlow
          go_wp2_with fail
          go_roundw
          case measure => simp [intOf]; omega
          case rel => exact ⟨j + 1, by omega, by rfl, by rw [← HS.out]; exact KB, KW⟩
        · clear hlow
          go_wp2_with fail
          go_roundw
          case measure => simp [intOf]; omega
          case rel => exact ⟨j + 1, by omega, by rfl, by rw [← HS.out]; exact KB, KW⟩
    · have hjn : j = s.size := by omega
      have hz : ¬ (j : Int) < (s.size : Int) := by omega
      have hbk := KB.out.back (grownCap w s.size 0 5)
      rw [upd_len, HN.out, hjn, ← HN.out, upd_all, HN.out] at hbk
      clear hjn
      go_wp2_with fail
      go_ret
      exact ⟨rfl, KW.out⟩
/-- a word's number, a sign ahead left out -/
def digF (l : List UInt8) : Nat := l.foldl (fun n c => if c = 45 then n else 10 * n + (c - 48).toNat) 0
def numV (l : List UInt8) : Int := if l.head? = some 45 then -(digF l : Int) else (digF l : Int)
theorem digF_snoc (l : List UInt8) (c : UInt8) : digF (l ++ [c]) = if c = 45 then digF l else 10 * digF l + (c - 48).toNat := by unfold digF; rw [List.foldl_append]; rfl
theorem digF_bound (l : List UInt8) : digF l + 29 ≤ 29 * 10 ^ l.length := by
  suffices H : ∀ n (m : List UInt8), m.length = n → digF m + 29 ≤ 29 * 10 ^ n from H _ l rfl
  intro n
  induction n with
  | zero => intro m hm; have : m = [] := List.length_eq_zero_iff.1 hm; subst this; decide
  | succ n ih =>
    intro m hm
    have hne : m ≠ [] := by intro e; subst e; simp at hm
    have e := List.dropLast_concat_getLast hne
    rw [← e, digF_snoc, Nat.pow_succ]
    have h1 := ih m.dropLast (by simp [hm])
    have h2 : (m.getLast hne - 48).toNat < 256 := UInt8.toNat_lt _
    generalize 10 ^ n = p at *
    split <;> omega
theorem digF_small (l : List UInt8) (h : l.length ≤ 4) : digF l ≤ 290000 := by
  have h1 := digF_bound l
  have h2 : (10 : Nat) ^ l.length ≤ 10 ^ 4 := Nat.pow_le_pow_right (by decide) h
  omega
theorem sub48 (c : UInt8) : IntKind.u8.wrap ((c.toNat : Int) - 48) = ((c - 48).toNat : Int) := by
  have H : ∀ z : Fin 256, IntKind.u8.wrap ((z.val : Int) - 48) = (((UInt8.ofNat z.val) - 48).toNat : Int) := by decide +kernel
  have := H ⟨c.toNat, c.toNat_lt⟩
  simpa using this
theorem is45 (c : UInt8) : ((c.toNat : Int) != 45) = !(decide (c = 45)) ∧ ((c.toNat : Int) == 45) = decide (c = 45) := by
  have H : ∀ z : Fin 256, ((z.val : Int) != 45) = !(decide (UInt8.ofNat z.val = 45)) ∧ ((z.val : Int) == 45) = decide (UInt8.ofNat z.val = 45) := by decide +kernel
  have := H ⟨c.toNat, c.toNat_lt⟩
  simpa using this
set_option maxRecDepth 100000 in
set_option maxHeartbeats 2000000 in
theorem number_any (s : ByteArray) (w : World) (h1 : 1 ≤ s.size) (h4 : s.size ≤ 4) : Calls Tryd.prog 31 #[.string s] w fun e w' => e = .returned (.int .i64 (numV s.data.toList)) ∧ w' = w := by
  obtain ⟨l, hl⟩ : ∃ l, l = s.data.toList := ⟨_, rfl⟩
  have hn : l.length = s.size := by rw [hl, Vb.size_list]
  obtain ⟨PP, hPP⟩ : ∃ PP : Ending → World → Prop, PP = fun e w' => e = .returned (.int .i64 (numV s.data.toList)) ∧ w' = w := ⟨_, rfl⟩
  rw [← hPP]
  have HP := keep hPP
  have hbyte : ∀ (i : Nat) (c : UInt8), l[i]? = some c → ∀ wx, (Instr.index 9 (.string s) (.int .i64 (i : Int))).run Tryd.prog wx = .ok (.int .u8 (c.toNat : Int)) wx := fun i c hc wx => by
    have hi : i < s.size := by have := (List.getElem?_eq_some_iff.1 hc).1; omega
    rw [run_index_string _ _ s .i64 (i : Int) Tryd.underlying9, dif_pos ⟨by omega, by omega⟩]
    have e : l = s.data.toList := hl
    rw [e] at hc
    obtain ⟨h, h2⟩ := List.getElem?_eq_some_iff.1 hc
    have : s[i] = c := by rw [← h2]; rfl
    simp only [Int.toNat_natCast, this]
  have HBY := keep hbyte
  have HLL := keep hl
  have HN := keep hn
  have H4 := keep h4
  have H1 := keep h1
  clear hPP hl hn hbyte h1 h4
  go_enter Tryd.func31, Tryd.ntmps31
  go_wp2_with fail
  go_loopw [3, 4] (fun v3 v4 wr => ∃ j : Nat, j ≤ s.size ∧ v4 = .int .i64 (j : Nat) ∧ v3 = .int .i64 (digF (l.take j) : Nat) ∧ wr = w) (fun _ v4 _ => s.size - (intOf v4).toNat)
  case atStart => exact ⟨0, Nat.zero_le _, rfl, rfl, rfl⟩
  case round =>
    obtain ⟨j, hj, rfl, rfl, hw⟩ := hrel
    obtain rfl := hw.symm
    clear hw
    by_cases hlt : j < s.size
    · have hjl : j < l.length := by rw [HN.out]; exact hlt
      obtain ⟨c, hc⟩ : ∃ c, l[j]? = some c := ⟨_, List.getElem?_eq_getElem hjl⟩
      have htk : l.take (j + 1) = l.take j ++ [c] := by rw [List.take_add_one, hc]; rfl
      have hds := digF_snoc (l.take j) c
      rw [← htk] at hds
      have hb := digF_small (l.take j) (by rw [List.length_take]; have := H4.out; omega)
      have hby := HBY.out j c hc
      have hz : (j : Int) < (s.size : Int) := by omega
      have hz0 : (0 : Int) ≤ (j : Int) := by omega
      have hjw : IntKind.i64.wrap ((j : Int) + 1) = ((j + 1 : Nat) : Int) := by have := H4.out; rw [IntKind.wrap_i64]; omega
      have h48 := sub48 c
      obtain ⟨i45, j45⟩ := is45 c
      have hx : (c - 48).toNat < 256 := UInt8.toNat_lt _
      obtain ⟨X, hX⟩ : ∃ X, X = (c - 48).toNat := ⟨_, rfl⟩
      rw [← hX] at h48 hx hds
      obtain ⟨D, hD⟩ : ∃ D, D = digF (l.take j) := ⟨_, rfl⟩
      rw [← hD] at hds hb
      rw [← hD]
      have HDS := keep hds
      by_cases e : c = 45
      · rw [decide_eq_true e] at i45
        have E := keep e
        clear htk hds hc hX hD hjl h48 hx hb j45 e
        go_wp2_with fail
        go_roundw
        case measure => simp [intOf]; omega
        case rel => exact ⟨j + 1, by omega, by rfl, by rw [HDS.out, if_pos E.out], by first | trivial | rfl⟩
      · rw [decide_eq_false e] at i45
        have E := keep e
        have hm : IntKind.i64.wrap (10 * (D : Int)) = ((10 * D : Nat) : Int) := by rw [IntKind.wrap_i64]; omega
        have hm2 : IntKind.i64.wrap (((10 * D : Nat) : Int) + (X : Int)) = ((10 * D + X : Nat) : Int) := by rw [IntKind.wrap_i64]; omega
        have hxw : IntKind.i64.wrap (X : Int) = (X : Int) := by rw [IntKind.wrap_i64]; omega
        have HW3 : Kept (wrap64 (10 * (D : Int) + (X : Int)) = ((10 * D + X : Nat) : Int)) := by show _ = _; unfold wrap64; omega
        clear htk hds hc hX hD hjl hx hb j45 e
        go_wp2_with fail
        go_roundw
        case measure => simp [intOf]; omega
        case rel => exact ⟨j + 1, by omega, by rfl, by rw [HDS.out, if_neg E.out, HW3.out], by first | trivial | rfl⟩
    · obtain rfl : j = s.size := by omega
      have hz : ¬ ((s.size : Nat) : Int) < (s.size : Int) := by omega
      have htk : l.take s.size = l := List.take_of_length_le (by rw [HN.out]; exact Nat.le_refl _)
      rw [htk]
      obtain ⟨c, hc⟩ : ∃ c, l[0]? = some c := ⟨_, List.getElem?_eq_getElem (by rw [HN.out]; exact H1.out)⟩
      have hby : ∀ wx, (Instr.index 9 (.string s) (.int .i64 0)).run Tryd.prog wx = .ok (.int .u8 (c.toNat : Int)) wx := HBY.out 0 c hc
      obtain ⟨i45, j45⟩ := is45 c
      have hb := digF_small l (by rw [HN.out]; exact H4.out)
      have hhd : l.head? = some c := by rw [List.head?_eq_getElem?]; exact hc
      have hv : numV s.data.toList = if c = 45 then -(digF l : Int) else (digF l : Int) := by
        rw [← HLL.out]; unfold numV; rw [hhd]
        by_cases e : c = 45
        · rw [e, if_pos rfl, if_pos rfl]
        · rw [if_neg (fun h => e (Option.some.inj h)), if_neg e]
      have hs0 : (0 : Int) < (s.size : Int) := by have := H1.out; omega
      obtain ⟨D, hD⟩ : ∃ D, D = digF l := ⟨_, rfl⟩
      rw [← hD] at hb hv
      rw [← hD]
      have hneg : IntKind.i64.wrap (-(D : Int)) = -(D : Int) := by rw [IntKind.wrap_i64]; omega
      have HV := keep hv
      clear htk hc hb hhd hv hD
      by_cases e : c = 45
      · rw [decide_eq_true e] at j45
        have E := keep e
        clear i45 e
        go_wp2_with fail
        rw [HP.out]
        exact ⟨by rw [HV.out, if_pos E.out], rfl⟩
      · rw [decide_eq_false e] at j45
        have E := keep e
        clear i45 e
        go_wp2_with fail
        rw [HP.out]
        exact ⟨by rw [HV.out, if_neg E.out], rfl⟩
end Go.Proofs.YtaflggjgndkdlaaDoor
