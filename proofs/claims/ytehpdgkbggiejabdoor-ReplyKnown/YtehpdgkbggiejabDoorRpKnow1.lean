/-
  The walk of ReplyKnown: the chapter's examples.
-/
import Derived.Test.YtehpdgkbggiejabDoorRpKnowA
import Derived.Lib.SlBytesConst
namespace Go.Proofs.YtehpdgkbggiejabDoor
open Go.RowKit
set_option linter.unusedVariables false
theorem Bs.later {w w' : World} {v : Value} {l : List UInt8} (h : Bs (· < w.heap.size) w v l) (hb : Below w.heap.size w w') : Bs (· < w'.heap.size) w' v l :=
  h.mono (fun b h => Nat.lt_of_lt_of_le h hb.size) (fun b h => hb.block b h)
theorem rq_two : Rp.enc 2 (rqR [⟨#[71, 69, 84]⟩, ⟨#[107]⟩]) = [42, 50, 13, 10, 36, 51, 13, 10, 71, 69, 84, 13, 10, 36, 49, 13, 10, 107, 13, 10] := by kernel_rfl
theorem rq_nil : Rp.enc 2 (rqR []) = [42, 48, 13, 10] := by kernel_rfl
/-- bytes more, behind a row of one's own -/
theorem app_bs {w : World} {v x : Value} {l b : List UInt8} (h : Kb w v l) (hx : Bs (· < w.heap.size) w x b) (hs : l.length + b.length ≤ 140737488351232) (ty : TypeId) :
    ∃ v' w', (Builtin.append_ #[32, 32] ty #[v, x]).run Tryd.prog w = .ok v' w' ∧ Kb w' v' (l ++ b) ∧ Gr v v' w w' := by
  obtain ⟨i0, hi0, hz0, hz1, hz2⟩ := parts_of info_u8'
  obtain ⟨ao, c, rfl, hc, hb⟩ := hx
  have src : Src Tryd.prog 1 32 (.slice ao b.length c) b.length (bcells b) w := by
    rcases hb with rfl | ⟨g, o, rfl, hg, hl⟩
    · cases ao with
      | none => exact Src.ofNil _ Tryd.underlying32 c
      | some a => exact Src.ofSlice _ Tryd.underlying32 a 0 c [] rfl (fun j u hu => by simp at hu) (fun u hu => by cases hu)
    · exact Src.ofSlice _ Tryd.underlying32 ⟨g, o, none⟩ b.length c (bcells b) (by rw [bcells_len, Nat.mul_one]) (fun j u hu => by
        rw [bcells, List.getElem?_map] at hu
        cases hx : b[j]? with
        | none => rw [hx] at hu; cases hu
        | some y =>
          rw [hx] at hu
          cases hu
          rw [add_at]
          exact hl j y hx) (fun u hu => by
        obtain ⟨y, _, rfl⟩ := List.mem_map.1 hu
        rfl)
  obtain ⟨v', w', r1, r2, r3, r4, _⟩ := app_gen w 0 32 32 ty 5 i0 _ 1 1 Tryd.underlying32 hi0 hz0 hz1 hz2 rfl (by decide) v l.length _ h _ b.length (bcells b) src (by unfold maxLen; omega) (by omega) (Nat.zero_le _)
  refine ⟨v', w', r1, ?_, r3, fun k hk => ?_⟩
  · unfold Kb
    rw [List.length_append, bcells_app]
    exact r2
  · rcases r4 with e | e
    · exact .inl (e ▸ hk)
    · rw [e] at hk; cases hk; exact .inr (Nat.le_refl _)
theorem its_row (w : World) (B : Nat) (aoT : Option Addr) (cT : Nat) (hI : w.heap[B]? = some (.cells #[.int .i64 1, .string ⟨#[79, 75]⟩, .int .i64 0, .slice none 0 0, .string ⟨#[43, 79, 75, 13, 10]⟩, .int .i64 2, .string ⟨#[97, 32, 98]⟩, .int .i64 0, .slice none 0 0, .string ⟨#[45, 97, 32, 98, 13, 10]⟩, .int .i64 3, .string .empty, .int .i64 (-7), .slice none 0 0, .string ⟨#[58, 45, 55, 13, 10]⟩, .int .i64 4, .string ⟨#[104, 105]⟩, .int .i64 0, .slice none 0 0, .string ⟨#[36, 50, 13, 10, 104, 105, 13, 10]⟩, .int .i64 4, .string ⟨#[]⟩, .int .i64 0, .slice none 0 0, .string ⟨#[36, 48, 13, 10, 13, 10]⟩, .int .i64 5, .string .empty, .int .i64 0, .slice none 0 0, .string ⟨#[36, 45, 49, 13, 10]⟩, .int .i64 6, .string ⟨#[]⟩, .int .i64 0, .slice aoT 2 cT, .string ⟨#[42, 50, 13, 10, 58, 49, 13, 10, 36, 45, 49, 13, 10]⟩, .int .i64 6, .string ⟨#[]⟩, .int .i64 0, .slice none 0 0, .string ⟨#[42, 48, 13, 10]⟩, .int .i64 7, .string ⟨#[]⟩, .int .i64 0, .slice none 0 0, .string ⟨#[42, 45, 49, 13, 10]⟩] 27 (0, 0)))
    (TWO : Tel (· < w.heap.size) w 9 [.int .i64 6, .string ⟨#[]⟩, .int .i64 0, .slice aoT 2 cT] (Rp.mk 6 .empty 0 [Rp.mk 3 .empty 1 [], Rp.mk 5 .empty 0 []])) :
    ∀ (k : Nat) (r : Rp.T 9) (t : ByteArray), its[k]? = some (r, t) → ∃ q0 q1 q2 q3 q4 q5, w.cell? ⟨B, k * 5, none⟩ = some (.int .i64 q0) ∧ w.cell? ⟨B, k * 5 + 1, none⟩ = some (.string q1) ∧ w.cell? ⟨B, k * 5 + 2, none⟩ = some (.int .i64 q2) ∧ w.cell? ⟨B, k * 5 + 3, none⟩ = some (.slice q3 q4 q5) ∧ w.cell? ⟨B, k * 5 + 4, none⟩ = some (.string t) ∧ Tel (· < w.heap.size) w 9 [.int .i64 q0, .string q1, .int .i64 q2, .slice q3 q4 q5] r
    | 0, _, _, h => by cases h; exact ⟨_, _, _, _, _, _, by rw [cell_of_row _ _ _ _ _ _ hI]; rfl, by rw [cell_of_row _ _ _ _ _ _ hI]; rfl, by rw [cell_of_row _ _ _ _ _ _ hI]; rfl, by rw [cell_of_row _ _ _ _ _ _ hI]; rfl, by rw [cell_of_row _ _ _ _ _ _ hI]; rfl, ⟨_, rfl, .inl ⟨rfl, _, rfl⟩, ⟨by decide, by decide⟩, ⟨by decide, by decide⟩, by decide⟩⟩
    | 1, _, _, h => by cases h; exact ⟨_, _, _, _, _, _, by rw [cell_of_row _ _ _ _ _ _ hI]; rfl, by rw [cell_of_row _ _ _ _ _ _ hI]; rfl, by rw [cell_of_row _ _ _ _ _ _ hI]; rfl, by rw [cell_of_row _ _ _ _ _ _ hI]; rfl, by rw [cell_of_row _ _ _ _ _ _ hI]; rfl, ⟨_, rfl, .inl ⟨rfl, _, rfl⟩, ⟨by decide, by decide⟩, ⟨by decide, by decide⟩, by decide⟩⟩
    | 2, _, _, h => by cases h; exact ⟨_, _, _, _, _, _, by rw [cell_of_row _ _ _ _ _ _ hI]; rfl, by rw [cell_of_row _ _ _ _ _ _ hI]; rfl, by rw [cell_of_row _ _ _ _ _ _ hI]; rfl, by rw [cell_of_row _ _ _ _ _ _ hI]; rfl, by rw [cell_of_row _ _ _ _ _ _ hI]; rfl, ⟨_, rfl, .inl ⟨rfl, _, rfl⟩, ⟨by decide, by decide⟩, ⟨by decide, by decide⟩, by decide⟩⟩
    | 3, _, _, h => by cases h; exact ⟨_, _, _, _, _, _, by rw [cell_of_row _ _ _ _ _ _ hI]; rfl, by rw [cell_of_row _ _ _ _ _ _ hI]; rfl, by rw [cell_of_row _ _ _ _ _ _ hI]; rfl, by rw [cell_of_row _ _ _ _ _ _ hI]; rfl, by rw [cell_of_row _ _ _ _ _ _ hI]; rfl, ⟨_, rfl, .inl ⟨rfl, _, rfl⟩, ⟨by decide, by decide⟩, ⟨by decide, by decide⟩, by decide⟩⟩
    | 4, _, _, h => by cases h; exact ⟨_, _, _, _, _, _, by rw [cell_of_row _ _ _ _ _ _ hI]; rfl, by rw [cell_of_row _ _ _ _ _ _ hI]; rfl, by rw [cell_of_row _ _ _ _ _ _ hI]; rfl, by rw [cell_of_row _ _ _ _ _ _ hI]; rfl, by rw [cell_of_row _ _ _ _ _ _ hI]; rfl, ⟨_, rfl, .inl ⟨rfl, _, rfl⟩, ⟨by decide, by decide⟩, ⟨by decide, by decide⟩, by decide⟩⟩
    | 5, _, _, h => by cases h; exact ⟨_, _, _, _, _, _, by rw [cell_of_row _ _ _ _ _ _ hI]; rfl, by rw [cell_of_row _ _ _ _ _ _ hI]; rfl, by rw [cell_of_row _ _ _ _ _ _ hI]; rfl, by rw [cell_of_row _ _ _ _ _ _ hI]; rfl, by rw [cell_of_row _ _ _ _ _ _ hI]; rfl, ⟨_, rfl, .inl ⟨rfl, _, rfl⟩, ⟨by decide, by decide⟩, ⟨by decide, by decide⟩, by decide⟩⟩
    | 6, _, _, h => by cases h; exact ⟨_, _, _, _, _, _, by rw [cell_of_row _ _ _ _ _ _ hI]; rfl, by rw [cell_of_row _ _ _ _ _ _ hI]; rfl, by rw [cell_of_row _ _ _ _ _ _ hI]; rfl, by rw [cell_of_row _ _ _ _ _ _ hI]; rfl, by rw [cell_of_row _ _ _ _ _ _ hI]; rfl, TWO⟩
    | 7, _, _, h => by cases h; exact ⟨_, _, _, _, _, _, by rw [cell_of_row _ _ _ _ _ _ hI]; rfl, by rw [cell_of_row _ _ _ _ _ _ hI]; rfl, by rw [cell_of_row _ _ _ _ _ _ hI]; rfl, by rw [cell_of_row _ _ _ _ _ _ hI]; rfl, by rw [cell_of_row _ _ _ _ _ _ hI]; rfl, ⟨_, rfl, .inl ⟨rfl, _, rfl⟩, ⟨by decide, by decide⟩, ⟨by decide, by decide⟩, by decide⟩⟩
    | 8, _, _, h => by cases h; exact ⟨_, _, _, _, _, _, by rw [cell_of_row _ _ _ _ _ _ hI]; rfl, by rw [cell_of_row _ _ _ _ _ _ hI]; rfl, by rw [cell_of_row _ _ _ _ _ _ hI]; rfl, by rw [cell_of_row _ _ _ _ _ _ hI]; rfl, by rw [cell_of_row _ _ _ _ _ _ hI]; rfl, ⟨_, rfl, .inl ⟨rfl, _, rfl⟩, ⟨by decide, by decide⟩, ⟨by decide, by decide⟩, by decide⟩⟩
    | n + 9, _, _, h => nomatch h
theorem bads_row (w : World) (B : Nat) (hB : w.heap[B]? = some (.cells #[.string ⟨#[43, 79, 75]⟩, .int .i64 5, .string ⟨#[43, 79, 75, 13]⟩, .int .i64 5, .string ⟨#[36, 51, 13, 10, 97, 98]⟩, .int .i64 5, .string ⟨#[42, 49, 13, 10]⟩, .int .i64 5, .string ⟨#[]⟩, .int .i64 5, .string ⟨#[120]⟩, .int .i64 160, .string ⟨#[43, 97, 10]⟩, .int .i64 160, .string ⟨#[43, 97, 13, 98]⟩, .int .i64 160, .string ⟨#[58, 48, 49, 13, 10]⟩, .int .i64 160, .string ⟨#[36, 45, 50, 13, 10]⟩, .int .i64 160, .string ⟨#[36, 43, 49, 13, 10, 97, 13, 10]⟩, .int .i64 160, .string ⟨#[36, 49, 13, 10, 97, 98]⟩, .int .i64 5, .string ⟨#[36, 49, 13, 10, 97, 120, 121]⟩, .int .i64 160, .string ⟨#[42, 45, 48, 13, 10]⟩, .int .i64 160, .string ⟨#[36, 49, 54, 55, 55, 55, 50, 49, 55, 13, 10]⟩, .int .i64 2, .string ⟨#[42, 49, 54, 55, 55, 55, 50, 49, 55, 13, 10]⟩, .int .i64 2, .string ⟨#[42, 50, 13, 10, 58, 49, 13, 10]⟩, .int .i64 5] 41 (0, 0))) :
    ∀ (k : Nat) (b : ByteArray) (c : Int), bads[k]? = some (b, c) → w.cell? ⟨B, k * 2, none⟩ = some (.string b) ∧ w.cell? ⟨B, k * 2 + 1, none⟩ = some (.int .i64 c)
    | 0, _, _, h => by cases h; exact ⟨by rw [cell_of_row _ _ _ _ _ _ hB]; rfl, by rw [cell_of_row _ _ _ _ _ _ hB]; rfl⟩
    | 1, _, _, h => by cases h; exact ⟨by rw [cell_of_row _ _ _ _ _ _ hB]; rfl, by rw [cell_of_row _ _ _ _ _ _ hB]; rfl⟩
    | 2, _, _, h => by cases h; exact ⟨by rw [cell_of_row _ _ _ _ _ _ hB]; rfl, by rw [cell_of_row _ _ _ _ _ _ hB]; rfl⟩
    | 3, _, _, h => by cases h; exact ⟨by rw [cell_of_row _ _ _ _ _ _ hB]; rfl, by rw [cell_of_row _ _ _ _ _ _ hB]; rfl⟩
    | 4, _, _, h => by cases h; exact ⟨by rw [cell_of_row _ _ _ _ _ _ hB]; rfl, by rw [cell_of_row _ _ _ _ _ _ hB]; rfl⟩
    | 5, _, _, h => by cases h; exact ⟨by rw [cell_of_row _ _ _ _ _ _ hB]; rfl, by rw [cell_of_row _ _ _ _ _ _ hB]; rfl⟩
    | 6, _, _, h => by cases h; exact ⟨by rw [cell_of_row _ _ _ _ _ _ hB]; rfl, by rw [cell_of_row _ _ _ _ _ _ hB]; rfl⟩
    | 7, _, _, h => by cases h; exact ⟨by rw [cell_of_row _ _ _ _ _ _ hB]; rfl, by rw [cell_of_row _ _ _ _ _ _ hB]; rfl⟩
    | 8, _, _, h => by cases h; exact ⟨by rw [cell_of_row _ _ _ _ _ _ hB]; rfl, by rw [cell_of_row _ _ _ _ _ _ hB]; rfl⟩
    | 9, _, _, h => by cases h; exact ⟨by rw [cell_of_row _ _ _ _ _ _ hB]; rfl, by rw [cell_of_row _ _ _ _ _ _ hB]; rfl⟩
    | 10, _, _, h => by cases h; exact ⟨by rw [cell_of_row _ _ _ _ _ _ hB]; rfl, by rw [cell_of_row _ _ _ _ _ _ hB]; rfl⟩
    | 11, _, _, h => by cases h; exact ⟨by rw [cell_of_row _ _ _ _ _ _ hB]; rfl, by rw [cell_of_row _ _ _ _ _ _ hB]; rfl⟩
    | 12, _, _, h => by cases h; exact ⟨by rw [cell_of_row _ _ _ _ _ _ hB]; rfl, by rw [cell_of_row _ _ _ _ _ _ hB]; rfl⟩
    | 13, _, _, h => by cases h; exact ⟨by rw [cell_of_row _ _ _ _ _ _ hB]; rfl, by rw [cell_of_row _ _ _ _ _ _ hB]; rfl⟩
    | 14, _, _, h => by cases h; exact ⟨by rw [cell_of_row _ _ _ _ _ _ hB]; rfl, by rw [cell_of_row _ _ _ _ _ _ hB]; rfl⟩
    | 15, _, _, h => by cases h; exact ⟨by rw [cell_of_row _ _ _ _ _ _ hB]; rfl, by rw [cell_of_row _ _ _ _ _ _ hB]; rfl⟩
    | 16, _, _, h => by cases h; exact ⟨by rw [cell_of_row _ _ _ _ _ _ hB]; rfl, by rw [cell_of_row _ _ _ _ _ _ hB]; rfl⟩
    | n + 17, _, _, h => nomatch h
set_option maxRecDepth 100000 in
set_option maxHeartbeats 8000000 in
theorem known_walk (w : World) (hv : Vars w) (ht : Tab w) (h3 : 3 ≤ w.heap.size) :
    Calls Tryd.prog 3 #[] w fun e w' => e = .returned (.bool true) ∧ Below w.heap.size w w' := by
  have WK := keep (wakes_any w hv ht h3)
  have HV := keep hv
  have HT := keep ht
  have H3 := keep h3
  have ER := keep (fun w' (hb : Below w.heap.size w w') => error_any ⟨#[97, 13, 98]⟩ w' (hv.below hb) (by decide))
  rw [show errT ⟨#[97, 13, 98]⟩ = ⟨#[97, 32, 98]⟩ by kernel_rfl] at ER
  clear hv ht h3
  go_enter Tryd.func3, Tryd.ntmps3
  go_wp2_with fail
  refine WK.out.mono ?_
  rintro e w1 ⟨rfl, b1⟩
  have B1 := keep b1
  clear b1
  go_wp2_with fail
  refine (simple1_any _ _).mono ?_
  rintro e w2 ⟨rfl, b2⟩
  have B2 := keep (B1.out.trans (b2.mono B1.out.size))
  clear b2
  go_wp2_with fail
  refine (ER.out _ B2.out).mono ?_
  rintro e w3 ⟨rfl, b3⟩
  have B3 := keep (B2.out.trans (b3.mono B2.out.size))
  clear b3 ER
  go_wp2_with fail
  refine (int1_any _ _).mono ?_
  rintro e w4 ⟨rfl, b4⟩
  have B4 := keep (B3.out.trans (b4.mono B3.out.size))
  clear b4
  go_wp2_with fail
  refine (bulk1_any _ _).mono ?_
  rintro e w5 ⟨rfl, b5⟩
  have B5 := keep (B4.out.trans (b5.mono B4.out.size))
  clear b5
  go_wp2_with fail
  refine (bulk1_any _ _).mono ?_
  rintro e w6 ⟨rfl, b6⟩
  have B6 := keep (B5.out.trans (b6.mono B5.out.size))
  clear b6
  go_wp2_with fail
  refine (null_any _).mono ?_
  rintro e w7 ⟨rfl, b7⟩
  have B7 := keep (B6.out.trans (b7.mono B6.out.size))
  clear b7
  go_wp2_with fail
  refine (int1_any _ _).mono ?_
  rintro e w8 ⟨rfl, b8⟩
  have B8 := keep (B7.out.trans (b8.mono B7.out.size))
  clear b8
  go_wp2_with fail
  refine (null_any _).mono ?_
  rintro e w9 ⟨rfl, b9⟩
  have B9 := keep (B8.out.trans (b9.mono B8.out.size))
  clear b9
  -- the list of two
  obtain ⟨w10, hw10⟩ : ∃ x, x = w9.alloc (.cells #[.int .i64 3, .string .empty, .int .i64 1, .slice none 0 0, .int .i64 5, .string .empty, .int .i64 0, .slice none 0 0] 25) := ⟨_, rfl⟩
  have b10 : Below w9.heap.size w9 w10 := hw10 ▸ (Below.refl _ _).alloc (Nat.le_refl _) _
  have hz10 : w9.heap.size < w10.heap.size := by rw [hw10]; show _ < (w9.heap.push _).size; simp
  have B10 := keep (B9.out.trans (b10.mono B9.out.size))
  have L10 : Lst (· < w10.heap.size) w10 (Tel (· < w10.heap.size) w10 8) (.slice (some ⟨w9.heap.size, 0, none⟩) 2 2) [Rp.mk 3 .empty 1 [], Rp.mk 5 .empty 0 []] := by
    refine .inr ⟨w9.heap.size, 2, _, rfl, (fun h => nomatch h), hz10, hw10 ▸ heap_alloc_new _ _, by decide, by decide, rfl, fun j x hx => ?_⟩
    match j, hx with
    | 0, hx => cases hx; exact ⟨_, rfl, .inl ⟨rfl, _, rfl⟩, ⟨by decide, by decide⟩, ⟨by decide, by decide⟩, by decide⟩
    | 1, hx => cases hx; exact ⟨_, rfl, .inl ⟨rfl, _, rfl⟩, ⟨by decide, by decide⟩, ⟨by decide, by decide⟩, by decide⟩
    | j + 2, hx => cases hx
  have AR := keep (Array_any 8 _ _ w10 L10 (fun h => nomatch h) (by decide))
  have hq10 := hw10.symm
  clear hw10 b10 hz10 L10
  go_wp2_with fail
  refine AR.out.mono ?_
  rintro e w11 ⟨⟨vT, rfl, lT⟩, b11⟩
  have B11 := keep (B10.out.trans (b11.mono B10.out.size))
  obtain ⟨aoT, cT, rfl, _⟩ := lT.form
  have T11 := keep (list_cell lT)
  clear b11 lT AR hq10
  go_wp2_with fail
  refine (Array_none _).mono ?_
  rintro e w12 ⟨rfl, b12⟩
  have B12 := keep (B11.out.trans (b12.mono B11.out.size))
  have T12 := keep (T11.out.any b12)
  clear b12
  obtain ⟨wI, hwI⟩ : ∃ x, x = w12.alloc (.cells #[.int .i64 1, .string ⟨#[79, 75]⟩, .int .i64 0, .slice none 0 0, .string ⟨#[43, 79, 75, 13, 10]⟩, .int .i64 2, .string ⟨#[97, 32, 98]⟩, .int .i64 0, .slice none 0 0, .string ⟨#[45, 97, 32, 98, 13, 10]⟩, .int .i64 3, .string .empty, .int .i64 (-7), .slice none 0 0, .string ⟨#[58, 45, 55, 13, 10]⟩, .int .i64 4, .string ⟨#[104, 105]⟩, .int .i64 0, .slice none 0 0, .string ⟨#[36, 50, 13, 10, 104, 105, 13, 10]⟩, .int .i64 4, .string ⟨#[]⟩, .int .i64 0, .slice none 0 0, .string ⟨#[36, 48, 13, 10, 13, 10]⟩, .int .i64 5, .string .empty, .int .i64 0, .slice none 0 0, .string ⟨#[36, 45, 49, 13, 10]⟩, .int .i64 6, .string ⟨#[]⟩, .int .i64 0, .slice aoT 2 cT, .string ⟨#[42, 50, 13, 10, 58, 49, 13, 10, 36, 45, 49, 13, 10]⟩, .int .i64 6, .string ⟨#[]⟩, .int .i64 0, .slice none 0 0, .string ⟨#[42, 48, 13, 10]⟩, .int .i64 7, .string ⟨#[]⟩, .int .i64 0, .slice none 0 0, .string ⟨#[42, 45, 49, 13, 10]⟩] 27) := ⟨_, rfl⟩
  have bI : Below w12.heap.size w12 wI := hwI ▸ (Below.refl _ _).alloc (Nat.le_refl _) _
  have hzI : w12.heap.size < wI.heap.size := by rw [hwI]; show _ < (w12.heap.push _).size; simp
  have BI := keep (B12.out.trans (bI.mono B12.out.size))
  have IT := keep (its_row wI w12.heap.size aoT cT (hwI ▸ heap_alloc_new _ _) (T12.out.any bI))
  have ZI := keep hzI
  have hqI := hwI.symm
  clear hwI bI hzI T11 T12
  go_wp2
  go_loopw [60] (fun i wr => ∃ k : Nat, k ≤ 9 ∧ i = .int .i64 k ∧ Kept (Below wI.heap.size wI wr)) (fun i _ => 9 - (intOf i).toNat)
  case atStart => exact ⟨0, by omega, rfl, keep (Below.refl _ _)⟩
  case round =>
    clear hqI
    obtain ⟨k, hk, rfl, BR⟩ := hrel
    by_cases hlt : k < 9
    · have hz : (k : Int) < 9 := by omega
      have hz0 : (0 : Int) ≤ (k : Int) := by omega
      have hkw : IntKind.i64.wrap ((k : Int) + 1) = ((k + 1 : Nat) : Int) := by rw [IntKind.wrap_i64]; omega
      have HLT := keep hlt
      obtain ⟨r, t, hrt⟩ : ∃ r t, its[k]? = some (r, t) := ⟨_, _, List.getElem?_eq_getElem (show k < its.length from hlt)⟩
      obtain ⟨q0, q1, q2, q3, q4, q5, c0, c1, c2, c3, c4, tl⟩ := IT.out k r t hrt
      have GD := keep (its_good k r t hrt)
      have blk := BR.out.block w12.heap.size ZI.out
      have d0 := (World.cell?_of_block (a := ⟨w12.heap.size, k * 5, none⟩) blk).trans c0
      have d1 := (World.cell?_of_block (a := ⟨w12.heap.size, k * 5 + 1, none⟩) blk).trans c1
      have d2 := (World.cell?_of_block (a := ⟨w12.heap.size, k * 5 + 2, none⟩) blk).trans c2
      have d3 := (World.cell?_of_block (a := ⟨w12.heap.size, k * 5 + 3, none⟩) blk).trans c3
      have d4 := (World.cell?_of_block (a := ⟨w12.heap.size, k * 5 + 4, none⟩) blk).trans c4
      have TR := keep (tl.any BR.out)
      obtain ⟨a1, ha1⟩ : ∃ x, x = wr.alloc (.cells #[.int .i64 q0, .string q1, .int .i64 q2, .slice q3 q4 q5, .string t] 27) := ⟨_, rfl⟩
      have ba1 : Below wr.heap.size wr a1 := ha1 ▸ (Below.refl _ _).alloc (Nat.le_refl _) _
      have A1 := keep (BR.out.trans (ba1.mono BR.out.size))
      have X1 : Kept (a1.heap[wr.heap.size]? = some (.cells #[.int .i64 q0, .string q1, .int .i64 q2, .slice q3 q4 q5, .string t] 27 (0, 0))) := keep (ha1 ▸ heap_alloc_new _ _)
      have L1 := keep (show wr.heap.size < a1.heap.size by rw [ha1]; show _ < (wr.heap.push _).size; simp)
      have e0 : a1.cell? ⟨wr.heap.size, 0, none⟩ = some (.int .i64 q0) := by rw [cell_of_row _ _ _ _ _ _ X1.out]; rfl
      have e1 : a1.cell? ⟨wr.heap.size, 1, none⟩ = some (.string q1) := by rw [cell_of_row _ _ _ _ _ _ X1.out]; rfl
      have e2 : a1.cell? ⟨wr.heap.size, 2, none⟩ = some (.int .i64 q2) := by rw [cell_of_row _ _ _ _ _ _ X1.out]; rfl
      have e3 : a1.cell? ⟨wr.heap.size, 3, none⟩ = some (.slice q3 q4 q5) := by rw [cell_of_row _ _ _ _ _ _ X1.out]; rfl
      have T1 := keep (TR.out.any ba1)
      have W1 := keep (BI.out.trans (A1.out.mono BI.out.size))
      have EN := keep (enc_ok 9 r _ a1 (by decide) (by have := GD.out.2.2.2.2.2; omega) T1.out (tab_below HT.out W1.out (tab_lt HT.out)) (by unfold verd; rw [if_pos GD.out.1, if_neg (by rw [GD.out.2.1]; decide)]) GD.out.1 (by rw [GD.out.2.2.2.1, Rp.bytes_len]; have := GD.out.2.2.2.2.1; omega))
      rw [GD.out.2.2.2.1] at EN
      have hq1 := ha1.symm
      have TZ := keep GD.out.2.2.2.2.1
      obtain ⟨u, hu⟩ : ∃ u, t ++ ⟨#[114, 101, 115, 116]⟩ = u := ⟨_, rfl⟩
      have US : Kept (u.size = t.size + 4) := keep (by rw [← hu, ByteArray.size_append]; rfl)
      have BU : Rp.bytesOf u = Rp.enc 9 r ++ [114, 101, 115, 116] := by
        rw [← hu, GD.out.2.2.2.1]
        unfold Rp.bytesOf
        rw [ByteArray.data_append, Array.toList_append]
      have UD : Rp.dec 8 (Rp.bytesOf u) = .ok (r, [114, 101, 115, 116]) := by rw [BU]; exact Rp.back 8 r _ GD.out.1 GD.out.2.1 GD.out.2.2.1
      have UL : (Rp.bytesOf u).length = t.size + 4 := by rw [Rp.bytes_len]; exact US.out
      have DE := keep (fun w' v (hbs : Bs (· < w'.heap.size) w' v (Rp.bytesOf u)) (hb : Below w.heap.size w w') => Decode_ok w' v (Rp.bytesOf u) [114, 101, 115, 116] r hbs (HV.out.below hb) (Nat.le_trans H3.out hb.size) (by rw [UL]; have := TZ.out; omega) UD (by rw [UL]; have := TZ.out; simp; omega))
      have DL : (Rp.bytesOf u).length - ([114, 101, 115, 116] : List UInt8).length = t.size := by rw [UL]; rfl
      rw [DL] at DE
      have NE := keep (show Rp.bytesOf t ≠ [] from fun h0 => by
        have h1 := Rp.enc_three 9 r
        rw [GD.out.2.2.2.1, h0] at h1
        simp at h1)
      have cat : ¬ 9223372036854775807 < t.size + 4 := by have := TZ.out; omega
      have cat2 : ¬ 9223372036854775807 < t.size + (ByteArray.mk #[114, 101, 115, 116]).size := cat
      have teq : (t.toList == t.toList) = true := by simp
      clear c0 c1 c2 c3 c4 tl hrt hlt blk ba1 ha1 UD UL DL BU
      go_wp2_with fail
      refine EN.out.mono ?_
      rintro e a2 ⟨⟨ao2, m2, cp2, rfl, nb2⟩, b2⟩
      have A2 := keep (A1.out.trans (b2.mono A1.out.size))
      have W2 := keep (BI.out.trans (A2.out.mono BI.out.size))
      have T2 := keep (T1.out.any b2)
      have X2 := keep ((b2.block _ L1.out).trans X1.out)
      have L2 := keep (Nat.lt_of_lt_of_le L1.out b2.size)
      have S2 := keep (Kb.bs nb2.1)
      have y4 : a2.cell? ⟨wr.heap.size, 4, none⟩ = some (.string t) := by rw [cell_of_row _ _ _ _ _ _ X2.out]; rfl
      obtain ⟨c3, a3, run3, bs3, b3⟩ := text_bytes u a2
      have D3 := keep (DE.out a3 _ bs3 (W2.out.trans (b3.mono W2.out.size)))
      have A3 := keep (A2.out.trans (b3.mono A2.out.size))
      have T3 := keep (T2.out.any b3)
      have X3 := keep ((b3.block _ L2.out).trans X2.out)
      have L3 := keep (Nat.lt_of_lt_of_le L2.out b3.size)
      have S3 := keep (S2.out.later b3)
      clear b2 b3 bs3 nb2 EN DE e0 e1 e2 e3 hq1
      go_wp2_with fail
      refine D3.out.mono ?_
      rintro e a4 ⟨⟨cs, rfl, t4⟩, b4⟩
      obtain ⟨p0, p1, p2, p3, p4, p5, rfl, _⟩ := t4.six
      obtain ⟨a5, ha5⟩ : ∃ x, x = a4.alloc (.cells #[.int .i64 p0, .string p1, .int .i64 p2, .slice p3 p4 p5] 25) := ⟨_, rfl⟩
      have b5 : Below a4.heap.size a4 a5 := ha5 ▸ (Below.refl _ _).alloc (Nat.le_refl _) _
      have b45 := b4.trans (b5.mono b4.size)
      have A5 := keep (A3.out.trans (b45.mono A3.out.size))
      have T5 := keep (T3.out.any b45)
      have X5 := keep ((b45.block _ L3.out).trans X3.out)
      have S5 := S3.out.later b45
      have G5 : Tel (· < a5.heap.size) a5 9 [.int .i64 p0, .string p1, .int .i64 p2, .slice p3 p4 p5] r := Tel.mono (fun b h => Nat.lt_of_lt_of_le h.2 b5.size) (fun b h => b5.block b h.2) _ _ _ t4
      have AL := keep (alike_any 9 r r _ _ a5 G5 T5.out)
      have BX := keep (show Box a5 a4.heap.size _ _ _ _ from ha5 ▸ Box.new a4 _ _ _ _)
      obtain ⟨f0, f1, f2, f3⟩ := BX.out.cells
      have e0 : a5.cell? ⟨wr.heap.size, 0, none⟩ = some (.int .i64 q0) := by rw [cell_of_row _ _ _ _ _ _ X5.out]; rfl
      have e1 : a5.cell? ⟨wr.heap.size, 1, none⟩ = some (.string q1) := by rw [cell_of_row _ _ _ _ _ _ X5.out]; rfl
      have e2 : a5.cell? ⟨wr.heap.size, 2, none⟩ = some (.int .i64 q2) := by rw [cell_of_row _ _ _ _ _ _ X5.out]; rfl
      have e3 : a5.cell? ⟨wr.heap.size, 3, none⟩ = some (.slice q3 q4 q5) := by rw [cell_of_row _ _ _ _ _ _ X5.out]; rfl
      have e4 : a5.cell? ⟨wr.heap.size, 4, none⟩ = some (.string t) := by rw [cell_of_row _ _ _ _ _ _ X5.out]; rfl
      have cv : (convert 32 9 (.slice ao2 m2 cp2)).run Tryd.prog a5 = .ok (.string t) a5 := by
        have h := slice_text S5 NE.out
        rwa [show Rp.ofL (Rp.bytesOf t) = t from by unfold Rp.ofL Rp.bytesOf; simp] at h
      have hq5 := ha5.symm
      clear b4 b5 b45 t4 ha5 S5 G5 y4 run3
      go_wp2_with fail
      refine AL.out.mono ?_
      rintro e a6 ⟨⟨v6, rfl, hv6⟩, b6⟩
      obtain rfl : v6 = true := hv6.2 trivial
      have A6 := keep (A5.out.trans (b6.mono A5.out.size))
      clear b6 AL hv6 hq5
      go_wp2
      go_roundw
      case measure => have := HLT.out; simp [intOf]; omega
      case rel => exact ⟨k + 1, HLT.out, by rfl, A6⟩
    · have hz : ¬ (k : Int) < 9 := by omega
      have WR := keep (BI.out.trans (BR.out.mono BI.out.size))
      clear hlt IT ZI BR hk
      obtain ⟨z1, hz1⟩ : ∃ x, x = wr.alloc (.cells #[.string ⟨#[71, 69, 84]⟩, .string ⟨#[107]⟩] 9) := ⟨_, rfl⟩
      have bz1 : Below wr.heap.size wr z1 := hz1 ▸ (Below.refl _ _).alloc (Nat.le_refl _) _
      have Z1 := keep (WR.out.trans (bz1.mono WR.out.size))
      have RQ := keep (request_any (some ⟨wr.heap.size, 0, none⟩) 2 [⟨#[71, 69, 84]⟩, ⟨#[107]⟩] z1 (fun j hj => by
        have hb : z1.heap[wr.heap.size]? = some (.cells #[.string ⟨#[71, 69, 84]⟩, .string ⟨#[107]⟩] 9 (0, 0)) := hz1 ▸ heap_alloc_new _ _
        have hl : wr.heap.size < z1.heap.size := by rw [hz1]; show _ < (wr.heap.push _).size; simp
        match j, hj with
        | 0, _ => exact ⟨_, rfl, hl, by show (3 : Nat) ≤ 1048576; decide, by rw [add_at, cell_of_row _ _ _ _ _ _ hb]; rfl⟩
        | 1, _ => exact ⟨_, rfl, hl, by show (1 : Nat) ≤ 1048576; decide, by rw [add_at, cell_of_row _ _ _ _ _ _ hb]; rfl⟩
        | j + 2, h => exact absurd h (by simp)) (tab_below HT.out Z1.out (tab_lt HT.out)) (by rw [rq_two]; decide))
      rw [rq_two] at RQ
      have RN := keep (fun w' (hb : Below w.heap.size w w') => request_any none 0 [] w' (fun j h => nomatch h) (tab_below HT.out hb (tab_lt HT.out)) (by rw [rq_nil]; decide))
      rw [rq_nil] at RN
      have hqz1 := hz1.symm
      clear hz1 bz1
      go_wp2_with fail
      refine RQ.out.mono ?_
      rintro e z2 ⟨⟨aoq, mq, cq, rfl, nq⟩, bz2⟩
      have Z2 := keep (Z1.out.trans (bz2.mono Z1.out.size))
      have cvq : (convert 32 9 (.slice aoq mq cq)).run Tryd.prog z2 = .ok (.string ⟨#[42, 50, 13, 10, 36, 51, 13, 10, 71, 69, 84, 13, 10, 36, 49, 13, 10, 107, 13, 10]⟩) z2 := slice_text (Kb.bs nq.1) (by simp)
      clear bz2 nq hqz1 RQ
      go_wp2_with fail
      refine (RN.out _ Z2.out).mono ?_
      rintro e z3 ⟨⟨aon, mn, cn, rfl, nn⟩, bz3⟩
      have Z3 := keep (Z2.out.trans (bz3.mono Z2.out.size))
      have cvn : (convert 32 9 (.slice aon mn cn)).run Tryd.prog z3 = .ok (.string ⟨#[42, 48, 13, 10]⟩) z3 := slice_text (Kb.bs nn.1) (by simp)
      clear bz3 nn RN cvq
      obtain ⟨wB, hwB⟩ : ∃ x, x = z3.alloc (.cells #[.string ⟨#[43, 79, 75]⟩, .int .i64 5, .string ⟨#[43, 79, 75, 13]⟩, .int .i64 5, .string ⟨#[36, 51, 13, 10, 97, 98]⟩, .int .i64 5, .string ⟨#[42, 49, 13, 10]⟩, .int .i64 5, .string ⟨#[]⟩, .int .i64 5, .string ⟨#[120]⟩, .int .i64 160, .string ⟨#[43, 97, 10]⟩, .int .i64 160, .string ⟨#[43, 97, 13, 98]⟩, .int .i64 160, .string ⟨#[58, 48, 49, 13, 10]⟩, .int .i64 160, .string ⟨#[36, 45, 50, 13, 10]⟩, .int .i64 160, .string ⟨#[36, 43, 49, 13, 10, 97, 13, 10]⟩, .int .i64 160, .string ⟨#[36, 49, 13, 10, 97, 98]⟩, .int .i64 5, .string ⟨#[36, 49, 13, 10, 97, 120, 121]⟩, .int .i64 160, .string ⟨#[42, 45, 48, 13, 10]⟩, .int .i64 160, .string ⟨#[36, 49, 54, 55, 55, 55, 50, 49, 55, 13, 10]⟩, .int .i64 2, .string ⟨#[42, 49, 54, 55, 55, 55, 50, 49, 55, 13, 10]⟩, .int .i64 2, .string ⟨#[42, 50, 13, 10, 58, 49, 13, 10]⟩, .int .i64 5] 41) := ⟨_, rfl⟩
      have bB : Below z3.heap.size z3 wB := hwB ▸ (Below.refl _ _).alloc (Nat.le_refl _) _
      have BB := keep (Z3.out.trans (bB.mono Z3.out.size))
      have BD := keep (bads_row wB z3.heap.size (hwB ▸ heap_alloc_new _ _))
      have ZB := keep (show z3.heap.size < wB.heap.size by rw [hwB]; show _ < (z3.heap.push _).size; simp)
      have hqB := hwB.symm
      clear hwB bB
      go_wp2
      go_loopw [135] (fun i wr => ∃ k : Nat, k ≤ 17 ∧ i = .int .i64 k ∧ Kept (Below wB.heap.size wB wr)) (fun i _ => 17 - (intOf i).toNat)
      case atStart => exact ⟨0, by omega, rfl, keep (Below.refl _ _)⟩
      case round =>
        clear hqB cvn
        obtain ⟨k, hk, rfl, BR⟩ := hrel
        by_cases hlt : k < 17
        · have hz : (k : Int) < 17 := by omega
          have hz0 : (0 : Int) ≤ (k : Int) := by omega
          have hkw : IntKind.i64.wrap ((k : Int) + 1) = ((k + 1 : Nat) : Int) := by rw [IntKind.wrap_i64]; omega
          have HLT := keep hlt
          obtain ⟨b, c, hbc⟩ : ∃ b c, bads[k]? = some (b, c) := ⟨_, _, List.getElem?_eq_getElem (show k < bads.length from hlt)⟩
          obtain ⟨c0, c1⟩ := BD.out k b c hbc
          obtain ⟨g1, g2⟩ := bads_no k b c hbc
          have blk := BR.out.block z3.heap.size ZB.out
          have d0 := (World.cell?_of_block (a := ⟨z3.heap.size, k * 2, none⟩) blk).trans c0
          have d1 := (World.cell?_of_block (a := ⟨z3.heap.size, k * 2 + 1, none⟩) blk).trans c1
          obtain ⟨a1, ha1⟩ : ∃ x, x = wr.alloc (.cells #[.string b, .int .i64 c] 41) := ⟨_, rfl⟩
          have ba1 : Below wr.heap.size wr a1 := ha1 ▸ (Below.refl _ _).alloc (Nat.le_refl _) _
          have A1 := keep (BR.out.trans (ba1.mono BR.out.size))
          have X1 : Kept (a1.heap[wr.heap.size]? = some (.cells #[.string b, .int .i64 c] 41 (0, 0))) := keep (ha1 ▸ heap_alloc_new _ _)
          have L1 := keep (show wr.heap.size < a1.heap.size by rw [ha1]; show _ < (wr.heap.push _).size; simp)
          have e0 : a1.cell? ⟨wr.heap.size, 0, none⟩ = some (.string b) := by rw [cell_of_row _ _ _ _ _ _ X1.out]; rfl
          obtain ⟨c3, a3, run3, bs3, b3⟩ := text_bytes b a1
          have A3 := keep (A1.out.trans (b3.mono A1.out.size))
          have W3 := BB.out.trans (A3.out.mono BB.out.size)
          have X3 := keep ((b3.block _ L1.out).trans X1.out)
          have L3 := keep (Nat.lt_of_lt_of_le L1.out b3.size)
          have D3 := keep (Decode_err a3 _ (Rp.bytesOf b) c bs3 (HV.out.below W3) (Nat.le_trans H3.out W3.size) (by rw [Rp.bytes_len]; omega) g1)
          have hq1 := ha1.symm
          clear c0 c1 hbc g1 g2 blk ba1 ha1 bs3 b3 W3 hlt
          go_wp2_with fail
          refine D3.out.mono ?_
          rintro e a4 ⟨he, b4⟩
          obtain ⟨l0, l1, l2, l3, l4, l5, rfl⟩ : ∃ l0 l1 l2 l3 l4 l5, e = .returned (.tuple #[.agg #[.int .i64 l0, .string l1, .int .i64 l2, .slice l3 l4 l5], .int .i64 0, .int .i64 c]) := ⟨_, _, _, _, _, _, he⟩
          obtain ⟨a5, ha5⟩ : ∃ x, x = a4.alloc (.cells #[.int .i64 l0, .string l1, .int .i64 l2, .slice l3 l4 l5] 25) := ⟨_, rfl⟩
          have b5 : Below a4.heap.size a4 a5 := ha5 ▸ (Below.refl _ _).alloc (Nat.le_refl _) _
          have b45 := b4.trans (b5.mono b4.size)
          have A5 := keep (A3.out.trans (b45.mono A3.out.size))
          have X5 := keep ((b45.block _ L3.out).trans X3.out)
          have e1 : a5.cell? ⟨wr.heap.size, 1, none⟩ = some (.int .i64 c) := by rw [cell_of_row _ _ _ _ _ _ X5.out]; rfl
          have hq5 := ha5.symm
          clear he b4 b5 b45 ha5 e0 run3 D3 hq1
          go_wp2
          go_roundw
          case measure => have := HLT.out; simp [intOf]; omega
          case rel => exact ⟨k + 1, HLT.out, by rfl, A5⟩
        · have hz : ¬ (k : Int) < 17 := by omega
          have WR2 := keep (BB.out.trans (BR.out.mono BB.out.size))
          clear hlt BD ZB BR hk
          obtain ⟨R8, R9, l8, N8, N9, V8, V9, E8, D8, D9⟩ := nest_facts
          go_wp2_with fail
          refine (N8.out _).mono ?_
          rintro e n1 ⟨⟨cs1, rfl, t1⟩, b1⟩
          have M1 := keep (WR2.out.trans (b1.mono WR2.out.size))
          obtain ⟨p0, p1, p2, p3, p4, p5, rfl, _⟩ := t1.six
          have EN := keep (enc_ok 9 R8 _ n1 (by decide) (by have := V8.out.2.2; omega) t1 (tab_below HT.out M1.out (tab_lt HT.out)) V8.out.2.1 V8.out.1 (by rw [E8.out.1, E8.out.2]; decide))
          rw [E8.out.1] at EN
          clear b1 t1 N8
          go_wp2_with fail
          refine EN.out.mono ?_
          rintro e n2 ⟨⟨ao2, m2, cp2, rfl, nb2⟩, b2⟩
          obtain rfl : m2 = 32 := nb2.1.len.trans E8.out.2
          have M2 := keep (M1.out.trans (b2.mono M1.out.size))
          have S2 := keep (Kb.bs nb2.1)
          clear b2 nb2 EN
          go_wp2_with fail
          refine (N9.out _).mono ?_
          rintro e n3 ⟨⟨cs3, rfl, t3⟩, b3⟩
          have M3 := keep (M2.out.trans (b3.mono M2.out.size))
          have S3 := keep (S2.out.later b3)
          obtain ⟨y0, y1, y2, y3, y4, y5, rfl, _⟩ := t3.six
          have EB := keep (enc_bad 10 R9 _ n3 (by decide) (by have := V9.out.2; omega) t3 (by rw [V9.out.1]; decide))
          rw [V9.out.1] at EB
          clear b3 t3 N9
          go_wp2_with fail
          refine EB.out.mono ?_
          rintro e n4 ⟨rfl, b4⟩
          have M4 := keep (M3.out.trans (b4.mono M3.out.size))
          have S4 := keep (S3.out.later b4)
          have DO := keep (Decode_ok n4 _ l8 [] R8 S4.out (HV.out.below M4.out) (Nat.le_trans H3.out M4.out.size) (by rw [E8.out.2]; decide) D8.out (by rw [E8.out.2]; decide))
          rw [show l8.length - ([] : List UInt8).length = 32 from by rw [E8.out.2]; rfl] at DO
          clear b4 EB
          go_wp2_with fail
          refine DO.out.mono ?_
          rintro e n5 ⟨⟨cs5, rfl, t5⟩, b5⟩
          obtain ⟨x0, x1, x2, x3, x4, x5, rfl, _⟩ := t5.six
          obtain ⟨n6, hn6⟩ : ∃ x, x = n5.alloc (.cells #[.int .i64 x0, .string x1, .int .i64 x2, .slice x3 x4 x5] 25) := ⟨_, rfl⟩
          have b6 : Below n5.heap.size n5 n6 := hn6 ▸ (Below.refl _ _).alloc (Nat.le_refl _) _
          have b56 := b5.trans (b6.mono b5.size)
          have M6 := keep (M4.out.trans (b56.mono M4.out.size))
          have S6 := S4.out.later b56
          obtain ⟨r7, hr7⟩ : ∃ x, x = n6.alloc (.cells #[.int .u8 42, .int .u8 49, .int .u8 13, .int .u8 10] 5) := ⟨_, rfl⟩
          obtain ⟨n7, hn7⟩ : ∃ x, x = n6.alloc (.cells #[.int .u8 42, .int .u8 49, .int .u8 13, .int .u8 10] 5 (4, 5)) := ⟨_, rfl⟩
          have kc := Lib.run_convert_bytes_const (P := Tryd.prog) n6 32 5 #[.int .u8 42, .int .u8 49, .int .u8 13, .int .u8 10] 4 4 Tryd.underlying32 Tryd.underlying5
          rw [show ((#[Value.int .u8 42, Value.int .u8 49, Value.int .u8 13, Value.int .u8 10] : Array Value).size, (#[Value.int .u8 42, Value.int .u8 49, Value.int .u8 13, Value.int .u8 10] : Array Value).size + 1) = (4, 5) from rfl, ← hr7, ← hn7] at kc
          have hr7' := hr7.symm
          have hq6 := hn6.symm
          have b7 : Below n6.heap.size n6 n7 := hn7 ▸ (Below.refl _ _).alloc (Nat.le_refl _) _
          have M7 := M6.out.trans (b7.mono M6.out.size)
          obtain ⟨v8, n8, run8, bs8, b8⟩ := app_full (w := n7) (g := n6.heap.size) (n := 4) (l := [42, 49, 13, 10]) rfl (fun j y hy => by
            rw [hn7, cell_of_row _ _ _ _ _ _ (heap_alloc_new _ _)]
            match j, hy with
            | 0, hy => cases hy; rfl
            | 1, hy => cases hy; rfl
            | 2, hy => cases hy; rfl
            | 3, hy => cases hy; rfl
            | j + 4, hy => exact absurd hy (by simp)) (S6.later b7) (fun h => by have := E8.out.2; rw [h] at this; cases this) (by rw [E8.out.2]; decide) 32
          have M8 := keep (M7.trans (b8.mono M7.size))
          have DX := keep (Decode_err n8 v8 _ 161 bs8 (HV.out.below M8.out) (Nat.le_trans H3.out M8.out.size) (by rw [List.length_append, E8.out.2]; decide) D9.out)
          have RUN := keep run8
          clear hn6 hr7 hn7 b5 b6 b56 b7 b8 bs8 run8 t5 S6 M7 DO
          go_wp2_with (show wpList _ _ _ ({ dst := some 172, op := Op.call { callee := Callee.builtin Builtin.append, args := _, argTypes := _ }, type := _, pos := _, after := _, guard := _ } :: _) _ _; refine wpList_app_run rfl _ _ _ _ rfl _ _ _ rfl rfl RUN.out ?_)
          refine DX.out.mono ?_
          rintro e n9 ⟨he, b9⟩
          obtain ⟨l0, l1, l2, l3, l4, l5, rfl⟩ : ∃ l0 l1 l2 l3 l4 l5, e = .returned (.tuple #[.agg #[.int .i64 l0, .string l1, .int .i64 l2, .slice l3 l4 l5], .int .i64 0, .int .i64 161]) := ⟨_, _, _, _, _, _, he⟩
          obtain ⟨n10, hn10⟩ : ∃ x, x = n9.alloc (.cells #[.int .i64 l0, .string l1, .int .i64 l2, .slice l3 l4 l5] 25) := ⟨_, rfl⟩
          have b10 : Below n9.heap.size n9 n10 := hn10 ▸ (Below.refl _ _).alloc (Nat.le_refl _) _
          have b910 := b9.trans (b10.mono b9.size)
          have M10 := keep (M8.out.trans (b910.mono M8.out.size))
          have hq10 := hn10.symm
          clear he b9 b10 b910 hn10 DX RUN kc hr7' hq6
          go_wp2_with fail
          refine (enc_wrong 1 1 ⟨#[]⟩ _ ⟨by decide, by decide⟩ ⟨by decide, by decide⟩ (by decide) (by kernel_rfl)).mono ?_
          rintro e n11 ⟨rfl, b11⟩
          have M11 := keep (M10.out.trans (b11.mono M10.out.size))
          clear b11 hq10
          go_wp2_with fail
          refine (enc_wrong 8 0 ⟨#[]⟩ _ ⟨by decide, by decide⟩ ⟨by decide, by decide⟩ (by decide) (by kernel_rfl)).mono ?_
          rintro e n12 ⟨rfl, b12⟩
          have M12 := keep (M11.out.trans (b12.mono M11.out.size))
          clear b12
          go_wp2_with fail
          refine (simple1_any _ _).mono ?_
          rintro e n13 ⟨rfl, b13⟩
          have M13 := keep (M12.out.trans (b13.mono M12.out.size))
          clear b13
          go_wp2_with fail
          refine (enc_wrong 1 0 ⟨#[97, 10]⟩ _ ⟨by decide, by decide⟩ ⟨by decide, by decide⟩ (by decide) (by kernel_rfl)).mono ?_
          rintro e n14 ⟨rfl, b14⟩
          have M14 := keep (M13.out.trans (b14.mono M13.out.size))
          clear b14
          go_wp2_with fail
          refine (enc_wrong 0 0 ⟨#[]⟩ _ ⟨by decide, by decide⟩ ⟨by decide, by decide⟩ (by decide) (by kernel_rfl)).mono ?_
          rintro e n15 ⟨rfl, b15⟩
          have M15 := keep (M14.out.trans (b15.mono M14.out.size))
          clear b15
          obtain ⟨n16, zz, mk16, cv16, hz16, b16⟩ := zeros_text n15 16777216 (by decide)
          have M16 := keep (M15.out.trans (b16.mono M15.out.size))
          have HZ := keep hz16
          have mq16 : (Instr.makeSlice 32 (.int .i64 16777216) (.int .i64 16777216)).run Tryd.prog n15 = .ok (.slice (some ⟨n15.heap.size, 0, none⟩) 16777216 16777216) n16 := mk16
          have cq16 : (convert 32 9 (.slice (some ⟨n15.heap.size, 0, none⟩) 16777216 16777216)).run Tryd.prog n16 = .ok (.string zz) n16 := cv16
          clear hz16 b16 mk16 cv16
          go_wp2_with fail
          refine (bulk1_any _ _).mono ?_
          rintro e n17 ⟨rfl, b17⟩
          have M17 := keep (M16.out.trans (b17.mono M16.out.size))
          clear b17 mq16 cq16
          go_wp2_with fail
          refine (enc_long zz _ (tab_below HT.out M17.out (tab_lt HT.out)) HZ.out).mono ?_
          rintro e n18 ⟨rfl, b18⟩
          have M18 := keep (M17.out.trans (b18.mono M17.out.size))
          clear b18
          obtain ⟨n19, zy, mk19, cv19, hz19, b19⟩ := zeros_text n18 16777203 (by decide)
          have M19 := keep (M18.out.trans (b19.mono M18.out.size))
          have HY := keep hz19
          have mq19 : (Instr.makeSlice 32 (.int .i64 16777203) (.int .i64 16777203)).run Tryd.prog n18 = .ok (.slice (some ⟨n18.heap.size, 0, none⟩) 16777203 16777203) n19 := mk19
          have cq19 : (convert 32 9 (.slice (some ⟨n18.heap.size, 0, none⟩) 16777203 16777203)).run Tryd.prog n19 = .ok (.string zy) n19 := cv19
          clear hz19 b19 mk19 cv19
          go_wp2_with fail
          refine (bulk1_any _ _).mono ?_
          rintro e n20 ⟨rfl, b20⟩
          have M20 := keep (M19.out.trans (b20.mono M19.out.size))
          clear b20 mq19 cq19
          go_wp2_with fail
          refine (enc_full zy _ (tab_below HT.out M20.out (tab_lt HT.out)) HY.out).mono ?_
          rintro e n21 ⟨⟨aoz, cz, rfl⟩, b21⟩
          have M21 := keep (M20.out.trans (b21.mono M20.out.size))
          clear b21
          go_wp2
          go_ret
          exact ⟨rfl, M21.out⟩
end Go.Proofs.YtehpdgkbggiejabDoor
