/-
  What ReplyKnown asks, more of it: bytes behind a full row; replies that are not right; the greatest.
-/
import Derived.Test.YtehpdgkbggiejabDoorRpKnow0
namespace Go.Proofs.YtehpdgkbggiejabDoor
open Go.RowKit
set_option linter.unusedVariables false
theorem app_full {w : World} {g n : Nat} {x : Value} {l b : List UInt8} (hn : l.length = n) (hl : ∀ j y, l[j]? = some y → w.cell? ⟨g, j, none⟩ = some (.int .u8 (y.toNat : Int))) (hx : Bs (· < w.heap.size) w x b) (hb : b ≠ []) (hs : l.length + b.length ≤ 1000000000) (ty : TypeId) :
    ∃ v' w', (Builtin.append_ #[32, 32] ty #[.slice (some ⟨g, 0, none⟩) n n, x]).run Tryd.prog w = .ok v' w' ∧ Bs (· < w'.heap.size) w' v' (l ++ b) ∧ Below w.heap.size w w' := by
  obtain ⟨i0, hi0, hz0, hz1, hz2⟩ := parts_of info_u8'
  obtain ⟨ao, c, rfl, hc, hd⟩ := hx
  obtain ⟨g2, o, rfl, hg, hl2⟩ := hd.resolve_left hb
  have hpos : 0 < b.length := List.length_pos_iff.2 hb
  have src : Src Tryd.prog i0.size 32 (.slice (some ⟨g2, o, none⟩) b.length c) b.length (bcells b) w := Src.ofSlice _ Tryd.underlying32 ⟨g2, o, none⟩ b.length c (bcells b) (by rw [bcells_len, hz1, Nat.mul_one]) (fun j u hu => by
      rw [bcells, List.getElem?_map] at hu
      cases hx : b[j]? with
      | none => rw [hx] at hu; cases hu
      | some y =>
        rw [hx] at hu
        cases hu
        rw [add_at]
        exact hl2 j y hx) (fun u hu => by
      obtain ⟨y, _, rfl⟩ := List.mem_map.1 hu
      rfl)
  have run := run_append_grow_src w 32 32 ty 5 i0 _ Tryd.underlying32 hi0 hz0 (some ⟨g, 0, none⟩) n n (bcells l) (run_firstCells_some w.drew i0.size n ⟨g, 0, none⟩ n n (bcells l) (by rw [bcells_len, hz1, Nat.mul_one]; exact hn) (fun j u hu => by
      rw [bcells, List.getElem?_map] at hu
      cases hx : l[j]? with
      | none => rw [hx] at hu; cases hu
      | some y =>
        rw [hx] at hu
        cases hu
        rw [add_at, Nat.zero_add]
        exact hl j y hx)) _ b.length (bcells b) src (by omega) (by omega) (by have := nextslicecap_le (need := n + b.length) (old := n) (by omega); rw [hz2]; omega)
  have hge := grownCap_ge w (n + b.length) n 5
  refine ⟨_, _, run, ⟨_, _, by rw [List.length_append, hn], by rw [List.length_append, hn]; exact hge, .inr ⟨w.heap.size, 0, rfl, by show _ < (w.heap.push _).size; simp, fun j y hy => ?_⟩⟩, ⟨rfl, rfl, rfl, by show w.heap.size ≤ (w.heap.push _).size; simp, fun k hk => by show (w.heap.push _)[k]? = _; rw [Array.getElem?_push_lt hk, Array.getElem?_eq_getElem hk]⟩⟩
  have hj : j < (l ++ b).length := (List.getElem?_eq_some_iff.1 hy).1
  rw [cell_of_row _ _ _ _ _ _ (show (w.drew.alloc _).heap[w.heap.size]? = _ from heap_alloc_new _ _), Nat.zero_add, Array.getElem?_append_left (by rw [List.size_toArray, List.length_append, bcells_len, bcells_len, ← List.length_append]; exact hj), List.getElem?_toArray, ← bcells_app, bcells, List.getElem?_map, hy]
  rfl
theorem enc_wrong (k i : Int) (s : ByteArray) (w : World) (hk : I64 k) (hi : I64 i) (hs : s.size < 4294967281) (hv : Rp.right 1 (Rp.mk k s i []) = false) :
    Calls Tryd.prog 11 #[.agg #[.int .i64 k, .string s, .int .i64 i, .slice none 0 0]] w fun e w' => e = .returned (.tuple #[.slice none 0 0, .int .i64 160]) ∧ Below w.heap.size w w' := by
  have hvd : verd 1 (Rp.mk k s i []) = 160 := by unfold verd; rw [if_neg (by rw [hv]; decide)]
  have h := enc_bad 1 (Rp.mk k s i []) [.int .i64 k, .string s, .int .i64 i, .slice none 0 0] w (by decide) (by show 1 + 0 ≤ 4000000000000; decide) ⟨_, rfl, .inl ⟨rfl, _, rfl⟩, hk, hi, hs⟩ (by rw [hvd]; decide)
  rw [hvd] at h
  exact h
theorem enc_full (s : ByteArray) (w : World) (ht : Tab w) (hs : s.size = 16777203) :
    Calls Tryd.prog 11 #[.agg #[.int .i64 4, .string s, .int .i64 0, .slice none 0 0]] w fun e w' => (∃ ao c, e = .returned (.tuple #[.slice ao 16777216 c, .int .i64 0])) ∧ Below w.heap.size w w' := by
  have hv : verd 1 (Rp.mk 4 s 0 []) = 0 := by
    unfold verd
    rw [if_pos (by rfl), if_neg (by rw [show Rp.deep 1 8 (Rp.mk 4 s 0 []) = false from rfl]; decide)]
  have hl : (Rp.enc 1 (Rp.mk 4 s 0 [])).length = 16777216 := by
    rw [bulk_len 0 s, hs, len_most]
  refine (enc_ok 1 (Rp.mk 4 s 0 []) [.int .i64 4, .string s, .int .i64 0, .slice none 0 0] w (by decide) (by show 1 + 0 ≤ 4000000000000; decide) ⟨_, rfl, .inl ⟨rfl, _, rfl⟩, ⟨by show (-9223372036854775808 : Int) ≤ 4; decide, by show (4 : Int) ≤ 9223372036854775807; decide⟩, ⟨by show (-9223372036854775808 : Int) ≤ 0; decide, by show (0 : Int) ≤ 9223372036854775807; decide⟩, by show s.size < 4294967281; omega⟩ ht hv (by rfl) (by omega)).mono ?_
  rintro e w' ⟨⟨ao, m, c, rfl, nb⟩, hb⟩
  obtain rfl : m = 16777216 := nb.1.len.trans hl
  exact ⟨⟨ao, c, rfl⟩, hb⟩
/-- lists in one another, and what is written of them -/
theorem nest_facts : ∃ (R8 : Rp.T 9) (R9 : Rp.T 10) (l8 : List UInt8),
    Kept (∀ w, Calls Tryd.prog 15 #[.int .i64 8] w fun e w' => (∃ cs, e = .returned (.agg cs.toArray) ∧ Tel (· < w'.heap.size) w' 9 cs R8) ∧ Below w.heap.size w w') ∧
    Kept (∀ w, Calls Tryd.prog 15 #[.int .i64 9] w fun e w' => (∃ cs, e = .returned (.agg cs.toArray) ∧ Tel (· < w'.heap.size) w' 10 cs R9) ∧ Below w.heap.size w w') ∧
    Kept (Rp.right 9 R8 = true ∧ verd 9 R8 = 0 ∧ cnt 9 R8 ≤ 10) ∧ Kept (verd 10 R9 = 161 ∧ cnt 10 R9 ≤ 10) ∧ Kept (Rp.enc 9 R8 = l8 ∧ l8.length = 32) ∧ Kept (Rp.dec 8 l8 = .ok (R8, [])) ∧ Kept (Rp.dec 8 ([42, 49, 13, 10] ++ l8) = .error 161) := by
  obtain ⟨h1, h2, h3, h4⟩ := eight_facts
  obtain ⟨k1, k2, k3⟩ := nine_facts
  refine ⟨nestR 1 7, nestR 1 8, Rp.enc 9 (nestR 1 7), keep (fun w => nested_any 1 7 (by decide) w), keep (fun w => nested_any 1 8 (by decide) w), keep ⟨h1, ?_, h4⟩, keep ⟨?_, k3⟩, keep ⟨rfl, ?_⟩, keep eight_dec, keep nine_dec⟩
  · unfold verd; rw [if_pos h1, if_neg (by rw [h2]; decide)]
  · unfold verd; rw [if_pos k1, if_pos k2]
  · rw [h3]; rfl
end Go.Proofs.YtehpdgkbggiejabDoor
