/-
  What ReplyKnown asks, as plain facts; a text as bytes; a reply too long.
-/
import Derived.Test.YtehpdgkbggiejabDoorRpNest
import Derived.Test.YtehpdgkbggiejabDoorRpErrC
import Derived.Test.YtehpdgkbggiejabDoorRpReq
import Derived.Test.YtehpdgkbggiejabDoorRpWake
import Derived.Laws.IdiomStrings
import Derived.OpenShut
namespace Go.Proofs.YtehpdgkbggiejabDoor
open Go.RowKit
set_option linter.unusedVariables false
/-- bytes of a text, laid -/
theorem text_bytes (s : ByteArray) (w : World) :
    ∃ c w', (convert 9 32 (.string s)).run Tryd.prog w = .ok (.slice (some ⟨w.heap.size, 0, none⟩) s.size c) w' ∧ Bs (· < w'.heap.size) w' (.slice (some ⟨w.heap.size, 0, none⟩) s.size c) (Rp.bytesOf s) ∧ Below w.heap.size w w' := by
  obtain ⟨c, hc⟩ : ∃ c, grownCap w s.size 0 5 = c := ⟨_, rfl⟩
  have hcc : s.size ≤ c := hc ▸ grownCap_ge _ _ _ _
  have h := run_bytes_of_string (P := Tryd.prog) w 9 32 5 s Tryd.underlying9 Tryd.underlying32 Tryd.underlying5
  rw [hc] at h
  refine ⟨c, _, h, ⟨_, c, by rw [Rp.bytes_len], by rw [Rp.bytes_len]; exact hcc, .inr ⟨w.heap.size, 0, rfl, by show _ < (w.heap.push _).size; simp, fun j x hx => ?_⟩⟩, ⟨rfl, rfl, rfl, by show w.heap.size ≤ (w.heap.push _).size; simp, fun k hk => by show (w.heap.push _)[k]? = _; rw [Array.getElem?_push_lt hk, Array.getElem?_eq_getElem hk]⟩⟩
  have hj : j < s.data.size := by
    have := (List.getElem?_eq_some_iff.1 hx).1
    simpa [Rp.bytesOf] using this
  rw [cell_of_row _ _ _ _ _ _ (show (w.drew.alloc _).heap[w.heap.size]? = _ from heap_alloc_new _ _), Nat.zero_add, bytesRow_at s c j hj]
  have h3 : s.data[j]? = some x := by rw [← Array.getElem?_toList]; exact hx
  rw [Array.getElem?_eq_getElem hj] at h3
  rw [Option.some.inj h3]
/-- a row's bytes as a text -/
theorem slice_text {w : World} {v : Value} {l : List UInt8} (h : Bs (· < w.heap.size) w v l) (hl : l ≠ []) :
    (convert 32 9 v).run Tryd.prog w = .ok (.string (Rp.ofL l)) w := by
  obtain ⟨ao, c, rfl, hc, hb⟩ := h
  obtain ⟨g, o, rfl, hg, hc⟩ := hb.resolve_left hl
  have := bytes_text (w := w) (g := g) (o := o) (k := l.length) (c := c) (l := l) (Nat.le_refl _) hc
  rwa [List.take_length] at this
/-- as it should be, and read again -/
def Good (r : Rp.T 9) (t : ByteArray) : Prop := Rp.right 9 r = true ∧ Rp.deep 9 8 r = false ∧ Rp.Fits 9 r ∧ Rp.enc 9 r = Rp.bytesOf t ∧ t.size ≤ 20 ∧ cnt 9 r ≤ 10
def its : List (Rp.T 9 × ByteArray) := [
  (Rp.mk 1 ⟨#[79, 75]⟩ 0 [], ⟨#[43, 79, 75, 13, 10]⟩),
  (Rp.mk 2 ⟨#[97, 32, 98]⟩ 0 [], ⟨#[45, 97, 32, 98, 13, 10]⟩),
  (Rp.mk 3 .empty (-7) [], ⟨#[58, 45, 55, 13, 10]⟩),
  (Rp.mk 4 ⟨#[104, 105]⟩ 0 [], ⟨#[36, 50, 13, 10, 104, 105, 13, 10]⟩),
  (Rp.mk 4 ⟨#[]⟩ 0 [], ⟨#[36, 48, 13, 10, 13, 10]⟩),
  (Rp.mk 5 .empty 0 [], ⟨#[36, 45, 49, 13, 10]⟩),
  (Rp.mk 6 .empty 0 [Rp.mk 3 .empty 1 [], Rp.mk 5 .empty 0 []], ⟨#[42, 50, 13, 10, 58, 49, 13, 10, 36, 45, 49, 13, 10]⟩),
  (Rp.mk 6 .empty 0 [], ⟨#[42, 48, 13, 10]⟩),
  (Rp.mk 7 .empty 0 [], ⟨#[42, 45, 49, 13, 10]⟩)]
theorem fits_leaf (n : Nat) (k i : Int) (s : ByteArray) (h1 : s.size ≤ 16777216) (h2 : -9223372036854775808 ≤ i) (h3 : i ≤ 9223372036854775807) : Rp.Fits (n + 1) (Rp.mk k s i []) :=
  ⟨h1, Nat.zero_le _, ⟨h2, h3⟩, fun u hu => nomatch hu⟩
theorem its_good : ∀ (i : Nat) (r : Rp.T 9) (t : ByteArray), its[i]? = some (r, t) → Good r t
  | 0, _, _, h => by cases h; exact ⟨by kernel_rfl, by kernel_rfl, fits_leaf _ _ _ _ (by decide) (by decide) (by decide), by kernel_rfl, by decide, by decide⟩
  | 1, _, _, h => by cases h; exact ⟨by kernel_rfl, by kernel_rfl, fits_leaf _ _ _ _ (by decide) (by decide) (by decide), by kernel_rfl, by decide, by decide⟩
  | 2, _, _, h => by cases h; exact ⟨by kernel_rfl, by kernel_rfl, fits_leaf _ _ _ _ (by decide) (by decide) (by decide), by kernel_rfl, by decide, by decide⟩
  | 3, _, _, h => by cases h; exact ⟨by kernel_rfl, by kernel_rfl, fits_leaf _ _ _ _ (by decide) (by decide) (by decide), by kernel_rfl, by decide, by decide⟩
  | 4, _, _, h => by cases h; exact ⟨by kernel_rfl, by kernel_rfl, fits_leaf _ _ _ _ (by decide) (by decide) (by decide), by kernel_rfl, by decide, by decide⟩
  | 5, _, _, h => by cases h; exact ⟨by kernel_rfl, by kernel_rfl, fits_leaf _ _ _ _ (by decide) (by decide) (by decide), by kernel_rfl, by decide, by decide⟩
  | 6, _, _, h => by
    cases h
    exact ⟨by kernel_rfl, by kernel_rfl, ⟨by decide, by decide, ⟨by decide, by decide⟩, fun u hu => by
      rcases List.mem_cons.1 hu with rfl | hu
      · exact fits_leaf _ _ _ _ (by decide) (by decide) (by decide)
      · obtain rfl := List.mem_singleton.1 hu
        exact fits_leaf _ _ _ _ (by decide) (by decide) (by decide)⟩, by kernel_rfl, by decide, by decide⟩
  | 7, _, _, h => by cases h; exact ⟨by kernel_rfl, by kernel_rfl, fits_leaf _ _ _ _ (by decide) (by decide) (by decide), by kernel_rfl, by decide, by decide⟩
  | 8, _, _, h => by cases h; exact ⟨by kernel_rfl, by kernel_rfl, fits_leaf _ _ _ _ (by decide) (by decide) (by decide), by kernel_rfl, by decide, by decide⟩
  | n + 9, _, _, h => nomatch h
/-- bytes that are no reply, and why -/
def bads : List (ByteArray × Int) := [
  (⟨#[43, 79, 75]⟩, 5), (⟨#[43, 79, 75, 13]⟩, 5), (⟨#[36, 51, 13, 10, 97, 98]⟩, 5), (⟨#[42, 49, 13, 10]⟩, 5), (⟨#[]⟩, 5),
  (⟨#[120]⟩, 160), (⟨#[43, 97, 10]⟩, 160), (⟨#[43, 97, 13, 98]⟩, 160), (⟨#[58, 48, 49, 13, 10]⟩, 160), (⟨#[36, 45, 50, 13, 10]⟩, 160), (⟨#[36, 43, 49, 13, 10, 97, 13, 10]⟩, 160),
  (⟨#[36, 49, 13, 10, 97, 98]⟩, 5), (⟨#[36, 49, 13, 10, 97, 120, 121]⟩, 160), (⟨#[42, 45, 48, 13, 10]⟩, 160),
  (⟨#[36, 49, 54, 55, 55, 55, 50, 49, 55, 13, 10]⟩, 2), (⟨#[42, 49, 54, 55, 55, 55, 50, 49, 55, 13, 10]⟩, 2), (⟨#[42, 50, 13, 10, 58, 49, 13, 10]⟩, 5)]
theorem bads_no : ∀ (i : Nat) (b : ByteArray) (c : Int), bads[i]? = some (b, c) → Rp.dec 8 (Rp.bytesOf b) = .error c ∧ b.size ≤ 20
  | 0, _, _, h => by cases h; exact ⟨by kernel_rfl, by decide⟩
  | 1, _, _, h => by cases h; exact ⟨by kernel_rfl, by decide⟩
  | 2, _, _, h => by cases h; exact ⟨by kernel_rfl, by decide⟩
  | 3, _, _, h => by cases h; exact ⟨by kernel_rfl, by decide⟩
  | 4, _, _, h => by cases h; exact ⟨by kernel_rfl, by decide⟩
  | 5, _, _, h => by cases h; exact ⟨by kernel_rfl, by decide⟩
  | 6, _, _, h => by cases h; exact ⟨by kernel_rfl, by decide⟩
  | 7, _, _, h => by cases h; exact ⟨by kernel_rfl, by decide⟩
  | 8, _, _, h => by cases h; exact ⟨by kernel_rfl, by decide⟩
  | 9, _, _, h => by cases h; exact ⟨by kernel_rfl, by decide⟩
  | 10, _, _, h => by cases h; exact ⟨by kernel_rfl, by decide⟩
  | 11, _, _, h => by cases h; exact ⟨by kernel_rfl, by decide⟩
  | 12, _, _, h => by cases h; exact ⟨by kernel_rfl, by decide⟩
  | 13, _, _, h => by cases h; exact ⟨by kernel_rfl, by decide⟩
  | 14, _, _, h => by cases h; exact ⟨by kernel_rfl, by decide⟩
  | 15, _, _, h => by cases h; exact ⟨by kernel_rfl, by decide⟩
  | 16, _, _, h => by cases h; exact ⟨by kernel_rfl, by decide⟩
  | n + 17, _, _, h => nomatch h
/-- eight lists in one another, and nine -/
theorem eight_facts : Rp.right 9 (nestR 1 7) = true ∧ Rp.deep 9 8 (nestR 1 7) = false ∧ (Rp.enc 9 (nestR 1 7)) = [42, 49, 13, 10, 42, 49, 13, 10, 42, 49, 13, 10, 42, 49, 13, 10, 42, 49, 13, 10, 42, 49, 13, 10, 42, 49, 13, 10, 42, 48, 13, 10] ∧ cnt 9 (nestR 1 7) ≤ 10 := ⟨by kernel_rfl, by kernel_rfl, by kernel_rfl, by decide⟩
theorem nine_facts : Rp.right 10 (nestR 1 8) = true ∧ Rp.deep 10 8 (nestR 1 8) = true ∧ cnt 10 (nestR 1 8) ≤ 10 := ⟨by kernel_rfl, by kernel_rfl, by decide⟩
theorem eight_dec : Rp.dec 8 (Rp.enc 9 (nestR 1 7)) = .ok (nestR 1 7, []) := by kernel_rfl
theorem nine_dec : Rp.dec 8 ([42, 49, 13, 10] ++ Rp.enc 9 (nestR 1 7)) = .error 161 := by kernel_rfl
/-- a text of so many bytes, and its reply -/
theorem bulk_len (n : Nat) (s : ByteArray) : (Rp.enc (n + 1) (Rp.mk 4 s 0 [])).length = 5 + (Lib.itoa s.size).length + s.size := by
  show (36 :: (Lib.itoa s.size ++ Rp.crlf ++ Rp.bytesOf s ++ Rp.crlf)).length = _
  simp only [List.length_cons, List.length_append, Rp.bytes_len, Rp.crlf, List.length_nil]
  omega
theorem len_full : (Lib.itoa ((16777216 : Nat) : Int)).length = 8 := by kernel_rfl
theorem len_most : (Lib.itoa ((16777203 : Nat) : Int)).length = 8 := by kernel_rfl
set_option maxRecDepth 100000 in
set_option maxHeartbeats 1000000 in
theorem enc_long (s : ByteArray) (w : World) (ht : Tab w) (hs : s.size = 16777216) :
    Calls Tryd.prog 11 #[.agg #[.int .i64 4, .string s, .int .i64 0, .slice none 0 0]] w fun e w' => e = .returned (.tuple #[.slice none 0 0, .int .i64 2]) ∧ Below w.heap.size w w' := by
  have hv : verd 1 (Rp.mk 4 s 0 []) = 0 := by
    unfold verd
    rw [if_pos (by rfl), if_neg (by rw [show Rp.deep 1 8 (Rp.mk 4 s 0 []) = false from rfl]; decide)]
  have hT : Tel (· < w.heap.size) w 1 [.int .i64 4, .string s, .int .i64 0, .slice none 0 0] (Rp.mk 4 s 0 []) := ⟨_, rfl, .inl ⟨rfl, _, rfl⟩, ⟨by show (-9223372036854775808 : Int) ≤ 4; decide, by show (4 : Int) ≤ 9223372036854775807; decide⟩, ⟨by show (-9223372036854775808 : Int) ≤ 0; decide, by show (0 : Int) ≤ 9223372036854775807; decide⟩, by show s.size < 4294967281; omega⟩
  obtain ⟨W1, hW1⟩ : ∃ x, x = w.alloc (.cells #[.int .i64 4, .string s, .int .i64 0, .slice none 0 0] 25) := ⟨_, rfl⟩
  have x1 : Box W1 w.heap.size (.int .i64 4) (.string s) (.int .i64 0) (.slice none 0 0) := hW1 ▸ Box.new w _ _ _ _
  have b1 : Below w.heap.size w W1 := hW1 ▸ (Below.refl _ _).alloc (Nat.le_refl _) _
  have T1 := keep (hT.any b1)
  have X1 := keep x1
  have B1 := keep b1
  have TB := keep ht
  have HS := keep hs
  have CH := keep (fun w hT => check_any 1 (Rp.mk 4 s 0 []) [.int .i64 4, .string s, .int .i64 0, .slice none 0 0] w (by decide) (by show 1 + 0 ≤ 4000000000000; decide) hT)
  have HV := keep hv
  have LN := keep (bulk_len 0 s)
  obtain ⟨d0, d1, d2, d3⟩ := x1.cells
  have hW1' := hW1.symm
  clear hT ht hv x1 b1 hW1 hs
  go_enter Tryd.func11, Tryd.ntmps11
  go_wp2_with fail
  refine (CH.out _ T1.out).mono ?_
  rintro e w2 ⟨rfl, b2⟩
  rw [HV.out]
  have B2 := keep (B1.out.trans (b2.mono B1.out.size))
  have X2 := keep (X1.out.below b2 X1.out.lt)
  obtain ⟨e0, e1, e2, e3⟩ := X2.out.cells
  have PU := keep (put_4 (sl := .slice none 0 0) s 0 w2 (Kb.nil _) (tab_below TB.out B2.out (by exact tab_lt TB.out)) ⟨Nat.lt_of_lt_of_le (tab_lt TB.out) B2.out.size, by simp [Value.ownBlock]⟩ ⟨by decide, by decide⟩ (by have := HS.out; unfold maxLen; omega) (by have := HS.out; simp; omega))
  clear CH b2 d0 d1 d2 d3
  go_wp2_with fail
  refine PU.out.mono ?_
  rintro e w3 ⟨ao3, n3, c3, rfl, k3, g3⟩
  have hn3 := k3.len
  have B3 := keep (B2.out.trans (g3.below B2.out.size (fun k hk => by cases hk)))
  have hn : 16777216 < n3 := by
    have h1 := LN.out
    have h2 : (Rp.enc (0 + 1) (Rp.mk 4 s 0 [])).length = n3 := by rw [hn3]; rfl
    have := HS.out
    omega
  have hle : decide ((16777216 : Int) < (n3 : Int)) = true := decide_eq_true (by omega)
  have hle' : (16777216 : Int) < (n3 : Int) := by omega
  clear k3 g3 hn3 PU hn
  go_wp2
  go_ret2
  exact ⟨rfl, B3.out⟩
theorem own_at {B : Nat} {w : World} {e g n cap j : Nat} {xs : List Value} {x : Value} (h : w.ownsRow B e 1 (.slice (some ⟨g, 0, none⟩) n cap) n xs) (hx : xs[j]? = some x) : w.cell? ⟨g, j, none⟩ = some x := by
  have add : ∀ i, (⟨g, 0, none⟩ : Addr).add i = ⟨g, i, none⟩ := by intro i; unfold Addr.add; split <;> simp_all
  have := h.cells (g := g) rfl j x hx
  rwa [add] at this
/-- the text of n bytes 0, as make and a conversion lay it -/
theorem zeros_text (w : World) (n : Nat) (hn : n ≤ 16777216) :
    ∃ w' z, (Instr.makeSlice 32 (.int .i64 (n : Int)) (.int .i64 (n : Int))).run Tryd.prog w = .ok (.slice (some ⟨w.heap.size, 0, none⟩) n n) w' ∧ (convert 32 9 (.slice (some ⟨w.heap.size, 0, none⟩) n n)).run Tryd.prog w' = .ok (.string z) w' ∧ z.size = n ∧ Below w.heap.size w w' := by
  obtain ⟨i0, hi0, hz0, hz1, hz2⟩ := parts_of info_u8'
  obtain ⟨w', h1, h2, h3⟩ := run_make_full (P := Tryd.prog) w w.heap.size 32 5 i0 (.int .u8 0) 1 Tryd.underlying32 hi0 hz0 hz1 .i64 .i64 n (by rw [hz2]; omega) (by unfold maxLen; omega) (Nat.le_refl _)
  have hl : (List.replicate n (0 : UInt8)).length = n := List.length_replicate
  refine ⟨w', ⟨(List.replicate n (0 : UInt8)).toArray⟩, h1, ?_, by show (List.replicate n (0 : UInt8)).toArray.size = n; simp, (Below.refl _ w).grown h3 (Nat.le_refl _) (fun k hk => by cases hk)⟩
  have hb := run_convert_bytes_back (P := Tryd.prog) w' 32 9 5 ⟨w.heap.size, 0, none⟩ n (List.replicate n 0) Tryd.underlying32 Tryd.underlying5 Tryd.underlying9 (fun j hj => by
    rw [hl] at hj
    have e : (⟨w.heap.size, 0, none⟩ : Addr).add j = ⟨w.heap.size, j, none⟩ := by unfold Addr.add; split <;> simp_all
    rw [e, List.getElem_replicate]
    refine own_at h2 ?_
    show (madeCells #[.int .u8 0] (n * 1)).toList[j]? = _
    rw [toList_madeCells_one, Nat.mul_one, List.getElem?_replicate, if_pos hj]
    rfl)
  rw [hl] at hb
  exact hb
end Go.Proofs.YtehpdgkbggiejabDoor
