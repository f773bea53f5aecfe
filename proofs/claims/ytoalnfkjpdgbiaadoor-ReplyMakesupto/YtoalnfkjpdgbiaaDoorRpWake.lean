/-
  Contracts over this program: wakes.
-/
import Derived.Test.YtoalnfkjpdgbiaaDoorRpMake
import Derived.Test.YtoalnfkjpdgbiaaDoorRpCut
import Derived.Test.YtoalnfkjpdgbiaaDoorRpEnc
import Derived.Lib.SlBytesConst
/-
  Contracts over this program: what wakes asks, as plain facts.
-/
namespace Go.Proofs.YtoalnfkjpdgbiaaDoor
open Go.RowKit
set_option linter.unusedVariables false
/-- the reply that wakes writes -/
def wkR : Rp.T 2 := (6, .empty, 0, [(3, .empty, -7, []), (4, ⟨#[104, 105]⟩, 0, []), (5, .empty, 0, []), (1, ⟨#[79, 75]⟩, 0, [])])
def wkB : List UInt8 := [42, 52, 13, 10, 58, 45, 55, 13, 10, 36, 50, 13, 10, 104, 105, 13, 10, 36, 45, 49, 13, 10, 43, 79, 75, 13, 10]
/-- the reply that wakes reads -/
def wkQ : Rp.T 9 := (6, .empty, 0, [(3, .empty, 1, []), (5, .empty, 0, [])])
def wkC : List UInt8 := [42, 50, 13, 10, 58, 49, 13, 10, 36, 45, 49, 13, 10]
theorem it4 : Lib.itoa 4 = [52] := by simp [Lib.itoa, Lib.decDigits]
theorem it2 : Lib.itoa 2 = [50] := by simp [Lib.itoa, Lib.decDigits]
theorem it1 : Lib.itoa 1 = [49] := by simp [Lib.itoa, Lib.decDigits]
theorem it7 : Lib.itoa (-7) = [45, 55] := by simp [Lib.itoa, Lib.decDigits]
theorem wk_enc : Rp.enc 2 wkR = wkB := by
  show 42 :: (Lib.itoa 4 ++ Rp.crlf ++ ((58 :: (Lib.itoa (-7) ++ Rp.crlf)) ++ ((36 :: (Lib.itoa 2 ++ Rp.crlf ++ [104, 105] ++ Rp.crlf)) ++ ((36 :: ([45, 49] ++ Rp.crlf)) ++ ((43 :: ([79, 75] ++ Rp.crlf)) ++ []))))) = wkB
  rw [it4, it7, it2]
  rfl
theorem wk_right : Rp.right 2 wkR = true := by rfl
theorem wk_verd : verd 2 wkR = 0 := by
  unfold verd
  rw [wk_right, if_pos rfl, show Rp.deep 2 8 wkR = false from rfl]
  rfl
theorem wk_encQ : Rp.enc 9 wkQ = wkC := by
  show 42 :: (Lib.itoa 2 ++ Rp.crlf ++ ((58 :: (Lib.itoa 1 ++ Rp.crlf)) ++ ((36 :: ([45, 49] ++ Rp.crlf)) ++ []))) = wkC
  rw [it2, it1]
  rfl
theorem wk_dec : Rp.dec 8 wkC = .ok (wkQ, []) := by
  have h := Rp.back 8 wkQ [] (by rfl) (by rfl) ⟨by decide, by decide, ⟨by decide, by decide⟩, fun u hu => by
    have hu' : u = ((3, .empty, 1, []) : Rp.T 8) ∨ u = ((5, .empty, 0, []) : Rp.T 8) := by
      have : u ∈ ([(3, .empty, 1, []), (5, .empty, 0, [])] : List (Rp.T 8)) := hu
      simpa using this
    rcases hu' with rfl | rfl
    · exact ⟨by decide, by decide, ⟨by decide, by decide⟩, fun u hu => by cases hu⟩
    · exact ⟨by decide, by decide, ⟨by decide, by decide⟩, fun u hu => by cases hu⟩⟩
  rw [wk_encQ] at h
  exact h
end Go.Proofs.YtoalnfkjpdgbiaaDoor

namespace Go.Proofs.YtoalnfkjpdgbiaaDoor
open Go.RowKit
set_option linter.unusedVariables false
def wkCells : Array Value := #[.int .i64 3, .string .empty, .int .i64 (-7), .slice none 0 0, .int .i64 4, .string ⟨#[104, 105]⟩, .int .i64 0, .slice none 0 0, .int .i64 5, .string .empty, .int .i64 0, .slice none 0 0, .int .i64 1, .string ⟨#[79, 75]⟩, .int .i64 0, .slice none 0 0]
theorem wk_lst (w W : World) (hW : W = w.alloc (.cells wkCells 25)) : Lst (· < W.heap.size) W (Tel (· < W.heap.size) W 1) (.slice (some ⟨w.heap.size, 0, none⟩) 4 4) (Rp.ls wkR) := by
  have hz : w.heap.size < W.heap.size := by rw [hW]; show _ < (w.heap.push _).size; simp
  have tl : ∀ (k i : Int) (s : ByteArray), I64 k → I64 i → s.size < 4294967281 → Tel (· < W.heap.size) W 1 [.int .i64 k, .string s, .int .i64 i, .slice none 0 0] ((k, s, i, []) : Rp.T 1) := fun k i s h1 h2 h3 => ⟨_, rfl, .inl ⟨rfl, _, rfl⟩, h1, h2, h3⟩
  refine .inr ⟨w.heap.size, 4, wkCells, rfl, (fun h => nomatch h), hz, hW ▸ heap_alloc_new _ _, by decide, by decide, rfl, fun j x hx => ?_⟩
  match j, hx with
  | 0, hx => cases hx; exact tl _ _ _ ⟨by decide, by decide⟩ ⟨by decide, by decide⟩ (by decide)
  | 1, hx => cases hx; exact tl _ _ _ ⟨by decide, by decide⟩ ⟨by decide, by decide⟩ (by decide)
  | 2, hx => cases hx; exact tl _ _ _ ⟨by decide, by decide⟩ ⟨by decide, by decide⟩ (by decide)
  | 3, hx => cases hx; exact tl _ _ _ ⟨by decide, by decide⟩ ⟨by decide, by decide⟩ (by decide)
  | j + 4, hx => cases hx
set_option maxRecDepth 100000 in
set_option maxHeartbeats 4000000 in
theorem wakes_any (w : World) (hv : Vars w) (ht : Tab w) (h3 : 3 ≤ w.heap.size) :
    Calls Tryd.prog 37 #[] w fun e w' => e = .returned (.bool true) ∧ Below w.heap.size w w' := by
  have HV := keep hv
  have HT := keep ht
  have H3 := keep h3
  clear hv ht h3
  go_enter Tryd.func37, Tryd.ntmps37
  go_wp2_with fail
  refine (int1_any (-7) _).mono ?_
  rintro e w1 ⟨rfl, b1⟩
  have B1 := keep b1
  clear b1
  go_wp2_with fail
  refine (bulk1_any _ _).mono ?_
  rintro e w2 ⟨rfl, b2⟩
  have B2 := keep (B1.out.trans (b2.mono B1.out.size))
  clear b2 B1
  go_wp2_with fail
  refine (null_any _).mono ?_
  rintro e w3 ⟨rfl, b3⟩
  have B3 := keep (B2.out.trans (b3.mono B2.out.size))
  clear b3 B2
  go_wp2_with fail
  refine (simple1_any _ _).mono ?_
  rintro e w4 ⟨rfl, b4⟩
  have B4 := keep (B3.out.trans (b4.mono B3.out.size))
  clear b4 B3
  obtain ⟨w5, hw5⟩ : ∃ x, x = w4.alloc (.cells wkCells 25) := ⟨_, rfl⟩
  have b5 : Below w4.heap.size w4 w5 := hw5 ▸ (Below.refl _ _).alloc (Nat.le_refl _) _
  have B5 := keep (B4.out.trans (b5.mono B4.out.size))
  have AR := keep (Array_any 1 _ _ w5 (wk_lst w4 w5 hw5) (fun h => nomatch h) (by decide))
  have hq : w4.alloc (.cells #[.int .i64 3, .string .empty, .int .i64 (-7), .slice none 0 0, .int .i64 4, .string ⟨#[104, 105]⟩, .int .i64 0, .slice none 0 0, .int .i64 5, .string .empty, .int .i64 0, .slice none 0 0, .int .i64 1, .string ⟨#[79, 75]⟩, .int .i64 0, .slice none 0 0] 25) = w5 := hw5.symm
  clear hw5 b5
  go_wp2_with fail
  refine AR.out.mono ?_
  rintro e w6 ⟨⟨v6, rfl, L6⟩, b6⟩
  obtain ⟨ao6, c6, hv6, _⟩ := L6.form
  have hv6' : v6 = .slice ao6 4 c6 := hv6
  subst hv6'
  clear hv6
  obtain ⟨w7, hw7⟩ : ∃ x, x = w6.alloc (.cells #[.int .i64 6, .string ⟨#[]⟩, .int .i64 0, .slice ao6 4 c6] 25) := ⟨_, rfl⟩
  have b7 : Below w6.heap.size w6 w7 := hw7 ▸ (Below.refl _ _).alloc (Nat.le_refl _) _
  have B6 : Below w.heap.size w w6 := B5.out.trans (b6.mono B5.out.size)
  have B7 := keep (B6.trans (b7.mono B6.size))
  have tl7 : Tel (· < w7.heap.size) w7 2 [.int .i64 6, .string ⟨#[]⟩, .int .i64 0, .slice ao6 4 c6] wkR :=
    ⟨_, rfl, L6.mono (fun b h => Nat.lt_of_lt_of_le h b7.size) (fun b h => b7.block b h) (fun cs x hx => Tel.mono (fun b h => Nat.lt_of_lt_of_le h b7.size) (fun b h => b7.block b h) _ _ _ hx), ⟨by decide, by decide⟩, ⟨by decide, by decide⟩, by decide⟩
  have EN := keep (enc_ok 2 wkR _ w7 (by decide) (by decide) tl7 (tab_below HT.out B7.out (tab_lt HT.out)) wk_verd wk_right (by rw [wk_enc]; decide))
  have hq7 := hw7.symm
  have XR := keep (show Box w7 w6.heap.size _ _ _ _ from hw7 ▸ Box.new w6 _ _ _ _)
  obtain ⟨d0, d1, d2, d3⟩ := XR.out.cells
  clear hw7 b7 B6 b6 L6 AR hq tl7
  go_wp2_with fail
  refine EN.out.mono ?_
  rintro e w8 ⟨⟨ao8, m8, c8, rfl, nb8⟩, b8⟩
  have B8 := keep (B7.out.trans (b8.mono B7.out.size))
  have NB := keep nb8
  clear EN nb8 b8 hq7 d0 d1 d2 d3
  obtain ⟨w9, hw9⟩ : ∃ x, x = w8.alloc (.cells (bcells wkC).toArray 5 (13, 14)) := ⟨_, rfl⟩
  obtain ⟨R9, hR9⟩ : ∃ x, x = w8.alloc (.cells (bcells wkC).toArray 5) := ⟨_, rfl⟩
  have kc := Lib.run_convert_bytes_const (P := Tryd.prog) w8 29 5 (bcells wkC).toArray 13 13 Tryd.underlying29 Tryd.underlying5
  rw [show ((bcells wkC).toArray.size, (bcells wkC).toArray.size + 1) = (13, 14) from rfl, ← hR9, ← hw9] at kc
  have hR9' : w8.alloc (.cells #[.int .u8 42, .int .u8 50, .int .u8 13, .int .u8 10, .int .u8 58, .int .u8 49, .int .u8 13, .int .u8 10, .int .u8 36, .int .u8 45, .int .u8 49, .int .u8 13, .int .u8 10] 5) = R9 := hR9.symm
  have b9 : Below w8.heap.size w8 w9 := hw9 ▸ (Below.refl _ _).alloc (Nat.le_refl _) _
  have B9 := keep (B8.out.trans (b9.mono B8.out.size))
  have hz9 : w8.heap.size < w9.heap.size := by rw [hw9]; show _ < (w8.heap.push _).size; simp
  have bs9 : Bs (· < w9.heap.size) w9 (.slice (some ⟨w8.heap.size, 0, none⟩) 13 13) wkC := ⟨_, 13, rfl, by decide, .inr ⟨w8.heap.size, 0, rfl, hz9, fun j x hx => by
    rw [hw9, cell_of_row _ _ _ _ _ _ (heap_alloc_new _ _), Nat.zero_add, List.getElem?_toArray, bcells, List.getElem?_map, hx]; rfl⟩⟩
  have DE := keep (Decode_ok w9 _ wkC [] wkQ bs9 (HV.out.below B9.out) (Nat.le_trans H3.out B9.out.size) (by decide) wk_dec (by decide))
  have NB9 := keep (Kb.bs (NB.out.1.later b9))
  clear hw9 hR9 b9 hz9 bs9
  go_wp2_with fail
  refine DE.out.mono ?_
  rintro e w10 ⟨⟨cs, rfl, t10⟩, b10⟩
  obtain ⟨q0, q1, q2, q3, q4, q5, rfl, _⟩ := t10.six
  obtain ⟨w11, hw11⟩ : ∃ x, x = w10.alloc (.cells #[.int .i64 q0, .string q1, .int .i64 q2, .slice q3 q4 q5] 25) := ⟨_, rfl⟩
  have b11 : Below w10.heap.size w10 w11 := hw11 ▸ (Below.refl _ _).alloc (Nat.le_refl _) _
  have b911 : Below w9.heap.size w9 w11 := b10.trans (b11.mono b10.size)
  have XQ := keep (show Box w11 w10.heap.size _ _ _ _ from hw11 ▸ Box.new w10 _ _ _ _)
  obtain ⟨d0, d1, d2, d3⟩ := XQ.out.cells
  have hq11 := hw11.symm
  have nb := NB9.out
  rw [wk_enc] at nb
  obtain ⟨ao, cc, hsl, hcc, hb⟩ := nb
  obtain ⟨g, o, rfl, hg, hl⟩ := hb.resolve_left (fun h => nomatch h)
  obtain ⟨rfl, rfl, rfl⟩ : ao8 = some ⟨g, o, none⟩ ∧ m8 = 27 ∧ c8 = cc := by injection hsl with a b c; exact ⟨a, b, c⟩
  have cv : (convert 29 9 (.slice (some ⟨g, o, none⟩) 27 c8)).run Tryd.prog w11 = .ok (.string ⟨#[42, 52, 13, 10, 58, 45, 55, 13, 10, 36, 50, 13, 10, 104, 105, 13, 10, 36, 45, 49, 13, 10, 43, 79, 75, 13, 10]⟩) w11 :=
    bytes_text (w := w11) (g := g) (o := o) (k := 27) (c := c8) (l := wkB) (by decide) (fun j x hx => (World.cell?_of_block (b911.block g hg)).trans (hl j x hx))
  obtain ⟨w12, hw12⟩ : ∃ x, x = w11.alloc (.cells #[.int .i64 3, .string ⟨#[]⟩, .int .i64 1, .slice none 0 0, .int .i64 5, .string ⟨#[]⟩, .int .i64 0, .slice none 0 0] 25) := ⟨_, rfl⟩
  have b12 : Below w11.heap.size w11 w12 := hw12 ▸ (Below.refl _ _).alloc (Nat.le_refl _) _
  have hz12 : w11.heap.size < w12.heap.size := by rw [hw12]; show _ < (w11.heap.push _).size; simp
  have B12 := keep (B9.out.trans ((b911.trans (b12.mono b911.size)).mono B9.out.size))
  have tla : Tel (· < w12.heap.size) w12 9 [.int .i64 q0, .string q1, .int .i64 q2, .slice q3 q4 q5] wkQ :=
    Tel.mono (fun b h => Nat.lt_of_lt_of_le (Nat.lt_of_lt_of_le h.2 b11.size) b12.size) (fun b h => (b12.block b (Nat.lt_of_lt_of_le h.2 b11.size)).trans (b11.block b h.2)) _ _ _ t10
  have tl : ∀ (k i : Int) (s : ByteArray), I64 k → I64 i → s.size < 4294967281 → Tel (· < w12.heap.size) w12 8 [.int .i64 k, .string s, .int .i64 i, .slice none 0 0] ((k, s, i, []) : Rp.T 8) := fun k i s h1 h2 h3 => ⟨_, rfl, .inl ⟨rfl, _, rfl⟩, h1, h2, h3⟩
  have tlb : Tel (· < w12.heap.size) w12 9 [.int .i64 6, .string ⟨#[]⟩, .int .i64 0, .slice (some ⟨w11.heap.size, 0, none⟩) 2 2] wkQ := by
    refine ⟨_, rfl, .inr ⟨w11.heap.size, 2, _, rfl, (fun h => nomatch h), hz12, hw12 ▸ heap_alloc_new _ _, by decide, by decide, rfl, fun j x hx => ?_⟩, ⟨by decide, by decide⟩, ⟨by decide, by decide⟩, by decide⟩
    match j, hx with
    | 0, hx => cases hx; exact tl _ _ _ ⟨by decide, by decide⟩ ⟨by decide, by decide⟩ (by decide)
    | 1, hx => cases hx; exact tl _ _ _ ⟨by decide, by decide⟩ ⟨by decide, by decide⟩ (by decide)
    | j + 2, hx => cases hx
  have AL := keep (alike_any 9 wkQ wkQ _ _ w12 tla tlb)
  have hq12 := hw12.symm
  have h13 : ((wkC.length - ([] : List UInt8).length : Nat) : Int) = 13 := rfl
  have h13' : ((wkC.length : Nat) : Int) = 13 := rfl
  clear kc hR9' DE hw11 hw12 tla tlb tl b11 b12 b911 b10 t10 hl hg hb hsl
  go_wp2_with fail
  refine AL.out.mono ?_
  rintro e w13 ⟨⟨v, rfl, hv⟩, b13⟩
  obtain rfl : v = true := hv.2 trivial
  have B13 := keep (B12.out.trans (b13.mono B12.out.size))
  clear b13 hv
  go_wp2
  go_ret
  exact ⟨rfl, B13.out⟩
end Go.Proofs.YtoalnfkjpdgbiaaDoor
