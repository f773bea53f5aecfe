/-
  Contracts over this program: Bulks of any texts.
-/
import Derived.Test.YtoalnfkjpdgbiaaDoorRmMade
import Derived.Test.YtoalnfkjpdgbiaaDoorRpPlain0
import Derived.Laws.OwnMore
namespace Go.Proofs.YtoalnfkjpdgbiaaDoor
open Go.RowKit
set_option linter.unusedVariables false
/-- four cells of a row set -/
abbrev put4 (cur : Array Value) (k : Nat) (a b c d : Value) : Array Value := (((cur.setIfInBounds k a).setIfInBounds (k + 1) b).setIfInBounds (k + 2) c).setIfInBounds (k + 3) d
theorem put4_at (cur : Array Value) (k : Nat) (a b c d : Value) (h : k + 3 < cur.size) (i : Nat) : (put4 cur k a b c d)[i]? = if i = k then some a else if i = k + 1 then some b else if i = k + 2 then some c else if i = k + 3 then some d else cur[i]? := by
  simp only [put4, Array.getElem?_setIfInBounds, Array.size_setIfInBounds]
  by_cases h3 : k + 3 = i
  · subst h3
    rw [if_pos rfl, if_pos (by omega), if_neg (by omega), if_neg (by omega), if_neg (by omega), if_pos rfl]
  · rw [if_neg h3]
    by_cases h2 : k + 2 = i
    · subst h2
      rw [if_pos rfl, if_pos (by omega), if_neg (by omega), if_neg (by omega), if_pos rfl]
    · rw [if_neg h2]
      by_cases h1 : k + 1 = i
      · subst h1
        rw [if_pos rfl, if_pos (by omega), if_neg (by omega), if_pos rfl]
      · rw [if_neg h1]
        by_cases h0 : k = i
        · subst h0
          rw [if_pos rfl, if_pos (by omega), if_pos rfl]
        · rw [if_neg h0, if_neg (by omega), if_neg (by omega), if_neg (by omega), if_neg (by omega)]
theorem put4_new (cur : Array Value) (j : Nat) (a b c d : Value) (h : j * 4 + 3 < cur.size) : ((put4 cur (j * 4) a b c d).toList.drop (j * 4)).take 4 = [a, b, c, d] := by
  apply List.ext_getElem?
  intro i
  rw [List.getElem?_take]
  by_cases hi : i < 4
  · rw [if_pos hi, List.getElem?_drop, Array.getElem?_toList, put4_at _ _ _ _ _ _ h]
    match i, hi with
    | 0, _ => rw [if_pos (by omega)]; rfl
    | 1, _ => rw [if_neg (by omega), if_pos rfl]; rfl
    | 2, _ => rw [if_neg (by omega), if_neg (by omega), if_pos rfl]; rfl
    | 3, _ => rw [if_neg (by omega), if_neg (by omega), if_neg (by omega), if_pos rfl]; rfl
  · rw [if_neg hi, List.getElem?_eq_none (by simp; omega)]
theorem put4_old (cur : Array Value) (j t : Nat) (a b c d : Value) (h : j * 4 + 3 < cur.size) (ht : t ≠ j) : ((put4 cur (j * 4) a b c d).toList.drop (t * 4)).take 4 = (cur.toList.drop (t * 4)).take 4 := by
  apply List.ext_getElem?
  intro i
  rw [List.getElem?_take, List.getElem?_take]
  by_cases hi : i < 4
  · rw [if_pos hi, if_pos hi, List.getElem?_drop, List.getElem?_drop, Array.getElem?_toList, Array.getElem?_toList, put4_at _ _ _ _ _ _ h, if_neg (by omega), if_neg (by omega), if_neg (by omega), if_neg (by omega)]
  · rw [if_neg hi, if_neg hi]
theorem set_row {w : World} {b : Nat} {cur : Array Value} {t : TypeId} {fr : Nat × Nat} (h : w.heap[b]? = some (.cells cur t fr)) (k : Nat) (a0 a1 a2 a3 : Value) :
    ((((w.setCell ⟨b, k, none⟩ a0).setCell ⟨b, k + 1, none⟩ a1).setCell ⟨b, k + 2, none⟩ a2).setCell ⟨b, k + 3, none⟩ a3).heap[b]? = some (.cells (put4 cur k a0 a1 a2 a3) t fr) :=
  cell_set (cell_set (cell_set (cell_set h k a0) (k + 1) a1) (k + 2) a2) (k + 3) a3
set_option maxRecDepth 100000 in
set_option maxHeartbeats 4000000 in
theorem bulks_any (m : Nat) (so : Option Addr) (cap : Nat) (S : List ByteArray) (w : World) (hT : Txs w so S) (hl : S.length ≤ 2000000) :
    Calls Tryd.prog 33 #[.slice so S.length cap] w fun e w' => (∃ v, e = .returned (.agg #[.int .i64 6, .string ⟨#[]⟩, .int .i64 0, v]) ∧ Tel (fun b => w.heap.size ≤ b ∧ b < w'.heap.size) w' (m + 2) [.int .i64 6, .string ⟨#[]⟩, .int .i64 0, v] (Rp.mk 6 .empty 0 (S.map (bkR m)))) ∧ Below w.heap.size w w' := by
  obtain ⟨n, hn⟩ : ∃ n, S.length = n := ⟨_, rfl⟩
  rw [hn] at hl ⊢
  obtain ⟨W1, hW1, X1, B1⟩ := rep_pre w
  obtain ⟨i0, hi0, hz0, hz1, hz2⟩ := parts_of info_rp
  have z1 : W1.heap.size = w.heap.size + 1 := by rw [← hW1]; show (w.heap.push _).size = _; simp
  obtain ⟨W2, run2, own2, gr2⟩ := run_makeSlice_full (P := Tryd.prog) W1 0 23 25 i0 _ 4 Tryd.underlying23 hi0 hz0 hz1 .i64 .i64 n (by omega) (by rw [hz2]; omega) (by unfold maxLen; omega) (Nat.zero_le _)
  have b2 : Below W1.heap.size W1 W2 := ⟨gr2.os, gr2.tape, gr2.output, gr2.size, fun b hb => gr2.block b hb (fun e => by cases e)⟩
  obtain ⟨cur0, hc0, hs0⟩ : ∃ cur, W2.heap[W1.heap.size]? = some (.cells cur 25 (0, 0)) ∧ cur.size = n * 4 := by
    rcases own2.2 with ⟨e, _⟩ | ⟨g, cp, cur, e, _, hg, _, _, hs, _⟩
    · cases e
    · injection e with e1 _ e3
      injection e1 with e1
      injection e1 with e1
      subst e1
      subst e3
      exact ⟨cur, hg, hs⟩
  have B2 := keep (B1.out.trans (b2.mono B1.out.size))
  have X2 := keep (X1.out.below b2 X1.out.lt)
  have HC := keep hc0
  have HS := keep hs0
  have Z1 := keep z1
  have HT := keep hT
  have HN := keep hn
  have HL := keep hl
  clear hT hn hl hi0 hz0 hz1 hz2 z1 own2 gr2 b2 hc0 hs0
  go_enter Tryd.func33, Tryd.ntmps33
  go_wp2
  go_loopw [11] (fun j wr => ∃ (jj : Nat) (cur : Array Value), j = .int .i64 (jj : Int) ∧ jj ≤ n ∧ Kept (wr.heap[W1.heap.size]? = some (.cells cur 25 (0, 0))) ∧ Kept (cur.size = n * 4) ∧ Kept (∀ t s, t < jj → S[t]? = some s → (cur.toList.drop (t * 4)).take 4 = [.int .i64 4, .string s, .int .i64 0, .slice none 0 0]) ∧ Kept (Box wr w.heap.size (.int .i64 0) (.string ⟨#[]⟩) (.int .i64 0) (.slice none 0 0)) ∧ Kept (Below w.heap.size w wr)) (fun j _ => n - (intOf j).toNat)
  case atStart => exact ⟨0, cur0, rfl, Nat.zero_le _, HC, HS, keep (fun t s h => absurd h (Nat.not_lt_zero _)), X2, B2⟩
  case round =>
    obtain ⟨jj, cur, rfl, hj, CW, CS, TD, XW, BW⟩ := hrel
    by_cases hlt : jj < n
    · have h0 : (0 : Int) ≤ (jj : Int) := by omega
      have h1 : (jj : Int) < (n : Int) := by omega
      have nw : IntKind.i64.wrap ((jj : Int) + 1) = ((jj + 1 : Nat) : Int) := by have := HL.out; rw [IntKind.wrap_i64]; omega
      have hjS : jj < S.length := by rw [HN.out]; exact hlt
      obtain ⟨a, rfl, hab, hsz, hcs⟩ := HT.out jj hjS
      obtain ⟨s, hs⟩ : ∃ s, S[jj]'hjS = s := ⟨_, rfl⟩
      have hs2 : S[jj]? = some s := by rw [List.getElem?_eq_getElem hjS, hs]
      rw [hs] at hcs hsz
      have c0 := (BW.out.cell (by rw [ad_block]; exact hab)).trans hcs
      have HX := keep hs2
      have HLT := keep hlt
      have HSZ := keep hsz
      clear hs hs2 hcs hab hsz hlt hjS run2 hW1
      go_wp2_with fail
      refine (bulk1_any s _).mono ?_
      rintro e w4 ⟨rfl, b4⟩
      have hg4 : W1.heap.size < wr.heap.size := by
        apply Decidable.byContradiction
        intro h
        have := CW.out
        rw [Array.getElem?_eq_none (by omega)] at this
        cases this
      have hc4 : w4.heap[W1.heap.size]? = some (.cells cur 25 (0, 0)) := (b4.block _ hg4).trans CW.out
      have hroom : jj * 4 + 3 < cur.size := by rw [CS.out]; have := HLT.out; omega
      have at4 : ∀ i, i < 4 → ∃ v, w4.cell? ⟨W1.heap.size, jj * 4 + i, none⟩ = some v := fun i hi => ⟨_, by rw [cell_of_row _ _ _ _ _ _ hc4]; exact Array.getElem?_eq_getElem (by omega)⟩
      obtain ⟨v0, m0⟩ := at4 0 (by omega)
      obtain ⟨v1, m1⟩ := at4 1 (by omega)
      obtain ⟨v2, m2⟩ := at4 2 (by omega)
      obtain ⟨v3, m3⟩ := at4 3 (by omega)
      rw [Nat.add_zero] at m0
      have fz : ∀ i, w4.frozen? ⟨W1.heap.size, i, none⟩ = false := fun i => by simp [World.frozen?, hc4]
      have f0 := fz (jj * 4)
      have f1 := fz (jj * 4 + 1)
      have f2 := fz (jj * 4 + 2)
      have f3 := fz (jj * 4 + 3)
      have B4 := keep (BW.out.trans (b4.mono BW.out.size))
      have X4 := keep (XW.out.below b4 XW.out.lt)
      have HC4 := keep hc4
      have HRM := keep hroom
      clear b4 hg4 hc4 at4 hroom fz
      go_wp2
      go_roundw
      case measure => have := HLT.out; simp [intOf]; omega
      case rel => exact ⟨jj + 1, put4 cur (jj * 4) _ _ _ _, by rfl, HLT.out, keep (set_row HC4.out _ _ _ _ _), keep (by rw [← CS.out]; simp [put4]), keep (fun t s' ht hs' => by
          by_cases e : t = jj
          · subst e
            rw [HX.out] at hs'
            cases hs'
            exact put4_new _ _ _ _ _ _ HRM.out
          · rw [put4_old _ _ _ _ _ _ _ HRM.out e]
            exact TD.out t s' (by omega) hs'), keep ((by rw [one_other (by have := Z1.out; omega), one_other (by have := Z1.out; omega), one_other (by have := Z1.out; omega), one_other (by have := Z1.out; omega)] : _ = w4.heap[w.heap.size]?).trans X4.out), keep ((((B4.out.setCell (p := ⟨W1.heap.size, _, none⟩) B1.out.size _).setCell (p := ⟨W1.heap.size, _, none⟩) B1.out.size _).setCell (p := ⟨W1.heap.size, _, none⟩) B1.out.size _).setCell (p := ⟨W1.heap.size, _, none⟩) B1.out.size _)⟩
    · have h1 : ¬ (jj : Int) < (n : Int) := by omega
      obtain rfl : jj = n := by omega
      obtain ⟨g0, g1, g2, g3⟩ := XW.out.cells
      have f0 := XW.out.free 0
      have f1 := XW.out.free 1
      have f2 := XW.out.free 2
      have f3 := XW.out.free 3
      clear run2 hW1
      go_wp2
      (try simp only [Exit.inBlock, Exit.then])
      refine bodyPost_ret (res_rp1 rfl _ _ w.heap.size _ _ _ _ rfl (Box.four XW.out _ _ _ _)) rfl ?_
      refine ⟨⟨_, rfl, ⟨_, rfl, ?_, (by show I64 6; exact ⟨by decide, by decide⟩), (by show I64 0; exact ⟨by decide, by decide⟩), by show (0 : Nat) < 4294967281; decide⟩⟩, Below.four BW.out (Nat.le_refl _) _ _ _ _⟩
      show Lst _ _ _ _ (S.map (bkR m))
      have hL : (S.map (bkR m)).length = jj := by rw [List.length_map, HN.out]
      have hlow : ∀ b, b < wr.heap.size → b < (set4 wr w.heap.size (.int .i64 6) (.string ⟨#[]⟩) (.int .i64 0) (.slice (some ⟨W1.heap.size, 0, none⟩) jj jj)).heap.size := fun b h => by simp only [set4, World.setCell, Array.size_modify]; exact h
      by_cases e : S = []
      · subst e
        have : jj = 0 := by rw [← HN.out]; rfl
        subst this
        exact .inl ⟨rfl, _, rfl⟩
      · have hgw : W1.heap.size < wr.heap.size := by
          apply Decidable.byContradiction
          intro h
          have := CW.out
          rw [Array.getElem?_eq_none (by omega)] at this
          cases this
        refine .inr ⟨W1.heap.size, jj, cur, by rw [hL], fun h => e (List.map_eq_nil_iff.1 h), ⟨B1.out.size, hlow _ hgw⟩, (four_other (by have := Z1.out; omega) _ _ _ _).trans CW.out, by rw [hL]; exact Nat.le_refl _, by have := HL.out; unfold maxLen; omega, CS.out, fun t x hx => ?_⟩
        rw [List.getElem?_map] at hx
        cases hs : S[t]? with
        | none => rw [hs] at hx; cases hx
        | some s =>
          rw [hs] at hx
          cases hx
          have htl : t < jj := by have := (List.getElem?_eq_some_iff.1 hs).1; rw [HN.out] at this; exact this
          rw [TD.out t s htl hs]
          have hsz : s.size ≤ 1048576 := by
            obtain ⟨ht, rfl⟩ := List.getElem?_eq_some_iff.1 hs
            obtain ⟨_, _, _, h4, _⟩ := HT.out t ht
            exact h4
          exact ⟨_, rfl, .inl ⟨rfl, _, rfl⟩, (by show I64 4; exact ⟨by decide, by decide⟩), (by show I64 0; exact ⟨by decide, by decide⟩), by show s.size < 4294967281; omega⟩
end Go.Proofs.YtoalnfkjpdgbiaaDoor
