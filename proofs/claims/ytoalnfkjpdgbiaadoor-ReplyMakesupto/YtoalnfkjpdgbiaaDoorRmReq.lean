/-
  Contracts over this program: the document's own Request.
-/
import Derived.Test.YtoalnfkjpdgbiaaDoorDigs
import Derived.Test.YtoalnfkjpdgbiaaDoorRpHead
import Derived.Test.YtoalnfkjpdgbiaaDoorRpEnc
import Derived.Test.YtoalnfkjpdgbiaaDoorRpPlainM
import Derived.Test.YtoalnfkjpdgbiaaDoorRmBks
/-
  Contracts over this program: what the document's own Text answers at any number.
-/
namespace Go.Proofs.YtoalnfkjpdgbiaaDoor
open Go.RowKit
def dg (r : Nat) : ByteArray := ⟨#[UInt8.ofNat (48 + r)]⟩
theorem slice_dig : ∀ (r : Nat) (_h : r < 10) (wx : World), (Instr.slice 9 (.string ⟨#[48, 49, 50, 51, 52, 53, 54, 55, 56, 57]⟩) (some (.int .i64 (r : Int))) (some (.int .i64 ((r : Int) + 1))) none).run Tryd.prog wx = .ok (.string (dg r)) wx
  | 0, _, _ => by kernel_rfl
  | 1, _, _ => by kernel_rfl
  | 2, _, _ => by kernel_rfl
  | 3, _, _ => by kernel_rfl
  | 4, _, _ => by kernel_rfl
  | 5, _, _ => by kernel_rfl
  | 6, _, _ => by kernel_rfl
  | 7, _, _ => by kernel_rfl
  | 8, _, _ => by kernel_rfl
  | 9, _, _ => by kernel_rfl
  | r + 10, h, _ => absurd h (by omega)
theorem slice_u (u : Nat) (wx : World) : (Instr.slice 9 (.string ⟨#[48, 49, 50, 51, 52, 53, 54, 55, 56, 57]⟩) (some (.int .i64 ((u : Int) % 10))) (some (.int .i64 ((u : Int) % 10 + 1))) none).run Tryd.prog wx = .ok (.string (dg (u % 10))) wx := by
  have e : (u : Int) % 10 = ((u % 10 : Nat) : Int) := by omega
  rw [e]
  exact slice_dig (u % 10) (by omega) wx
theorem slice_n (u : Nat) (h : ¬ 0 < (u : Int) % 10) (wx : World) : (Instr.slice 9 (.string ⟨#[48, 49, 50, 51, 52, 53, 54, 55, 56, 57]⟩) (some (.int .i64 (-((u : Int) % 10)))) (some (.int .i64 (-((u : Int) % 10) + 1))) none).run Tryd.prog wx = .ok (.string (dg (u % 10))) wx := by
  have e : -((u : Int) % 10) = ((u % 10 : Nat) : Int) := by omega
  rw [e]
  exact slice_dig (u % 10) (by omega) wx
theorem dg_size (r : Nat) : (dg r).size = 1 := rfl
theorem app_data (a b : ByteArray) : (a ++ b).data.toList = a.data.toList ++ b.data.toList := by
  rw [ByteArray.data_append, Array.toList_append]
theorem app_size (a b : ByteArray) : (a ++ b).size = a.data.toList.length + b.data.toList.length := by
  rw [← Pl.len, app_data, List.length_append]
theorem text_on {n u : Nat} {t : ByteArray} (hz : ¬ u < 10) (hn : n < 18446744073709551616) (h : Lib.decDigits u ++ t.data.toList = Lib.decDigits n) : Lib.decDigits (u / 10) ++ (dg (u % 10) ++ t).data.toList = Lib.decDigits n ∧ (dg (u % 10) ++ t).size ≤ 20 := by
  have hl := Pl.dd_len 19 n (Nat.lt_of_lt_of_le hn (by decide +kernel))
  have e : Lib.decDigits (u / 10) ++ (dg (u % 10) ++ t).data.toList = Lib.decDigits n := by
    rw [← h, Pl.dd_big hz, app_data, List.append_assoc]; rfl
  refine ⟨e, ?_⟩
  rw [← e, List.length_append, Pl.len] at hl
  omega
theorem text_off {n u : Nat} {t : ByteArray} (hz : u < 10) (hn : n < 18446744073709551616) (h : Lib.decDigits u ++ t.data.toList = Lib.decDigits n) : (dg (u % 10) ++ t).data.toList = Lib.decDigits n ∧ (dg (u % 10) ++ t).size ≤ 20 := by
  have hl := Pl.dd_len 19 n (Nat.lt_of_lt_of_le hn (by decide +kernel))
  have e : (dg (u % 10) ++ t).data.toList = Lib.decDigits n := by
    rw [← h, Pl.dd_small hz, app_data, Nat.mod_eq_of_lt hz]; rfl
  refine ⟨e, ?_⟩
  rw [← e, Pl.len] at hl
  exact hl
set_option maxHeartbeats 400000 in
theorem rtext_pos (n : Nat) (w : World) (h2 : n ≤ 9223372036854775807) :
    Calls Tryd.prog 52 #[.int .i64 n] w fun e w' => (∃ t : ByteArray, e = .returned (.string t) ∧ t.data.toList = Lib.decDigits n) ∧ w' = w := by
  go_enter Tryd.func52, Tryd.ntmps52
  go_wp2
  go_loop [3, 4] (fun s m => ∃ (u : Nat) (t : ByteArray), u ≤ n ∧ m = .int .i64 u ∧ s = .string t ∧ Lib.decDigits u ++ t.data.toList = Lib.decDigits n ∧ t.size ≤ 20) (fun _ m => (intOf m).toNat)
  case atStart => exact ⟨n, ByteArray.empty, Nat.le_refl _, rfl, rfl, by simp, by decide⟩
  case round =>
    obtain ⟨u, t, hu, rfl, rfl, hx, ht⟩ := hrel
    have HX := keep hx
    clear hx
    have hds := dg_size (u % 10)
    have hsl := slice_u u
    by_cases hz : u < 10
    · have hq : ((u : Int) / 10 == 0) = true := beq_iff_eq.2 (by omega)
      have st := keep (text_off hz (show n < 18446744073709551616 by omega) HX.out)
      go_wp2
      go_ret
      exact ⟨⟨_, rfl, st.out.1⟩, rfl⟩
    · have hq : ((u : Int) / 10 == 0) = false := beq_eq_false_iff_ne.2 (by omega)
      have st := keep (text_on hz (show n < 18446744073709551616 by omega) HX.out)
      go_wp2
      go_round
      case rel => exact ⟨u / 10, _, by omega, by go_num, rfl, st.out.1, st.out.2⟩
      case measure => simp [intOf]; omega
set_option maxHeartbeats 400000 in
theorem rtext_neg (n : Nat) (w : World) (h2 : n ≤ 9223372036854775808) (h1 : 0 < n) :
    Calls Tryd.prog 52 #[.int .i64 (-(n : Int))] w fun e w' => (∃ t : ByteArray, e = .returned (.string t) ∧ t.data.toList = 45 :: Lib.decDigits n) ∧ w' = w := by
  go_enter Tryd.func52, Tryd.ntmps52
  go_wp2
  go_loop [3, 4] (fun s m => ∃ (u : Nat) (t : ByteArray), u ≤ n ∧ m = .int .i64 (-(u : Int)) ∧ s = .string t ∧ Lib.decDigits u ++ t.data.toList = Lib.decDigits n ∧ t.size ≤ 20) (fun _ m => (-(intOf m)).toNat)
  case atStart => exact ⟨n, ByteArray.empty, Nat.le_refl _, rfl, rfl, by simp, by decide⟩
  case round =>
    obtain ⟨u, t, hu, rfl, rfl, hx, ht⟩ := hrel
    have HX := keep hx
    clear hx
    have hds := dg_size (u % 10)
    by_cases hz : u < 10
    · have hq : (-((u : Int) / 10) == 0) = true := beq_iff_eq.2 (by omega)
      have st := keep (text_off hz (show n < 18446744073709551616 by omega) HX.out)
      by_cases hr : 0 < (u : Int) % 10
      · have hsl := slice_u u
        go_wp2
        go_ret
        exact ⟨⟨_, rfl, by rw [app_data, st.out.1]; rfl⟩, rfl⟩
      · have hsl := slice_n u hr
        go_wp2
        go_ret
        exact ⟨⟨_, rfl, by rw [app_data, st.out.1]; rfl⟩, rfl⟩
    · have hq : (-((u : Int) / 10) == 0) = false := beq_eq_false_iff_ne.2 (by omega)
      have st := keep (text_on hz (show n < 18446744073709551616 by omega) HX.out)
      by_cases hr : 0 < (u : Int) % 10
      · have hsl := slice_u u
        go_wp2
        go_round
        case rel => exact ⟨u / 10, _, by omega, by go_num, rfl, st.out.1, st.out.2⟩
        case measure => simp [intOf]; omega
      · have hsl := slice_n u hr
        go_wp2
        go_round
        case rel => exact ⟨u / 10, _, by omega, by go_num, rfl, st.out.1, st.out.2⟩
        case measure => simp [intOf]; omega
theorem rtext_any (n : Int) (w : World) (h1 : -9223372036854775808 ≤ n) (h2 : n ≤ 9223372036854775807) :
    Calls Tryd.prog 52 #[.int .i64 n] w fun e w' => (∃ t : ByteArray, e = .returned (.string t) ∧ t.data.toList = Lib.itoa n) ∧ w' = w := by
  by_cases h : n < 0
  · rw [Pl.itoa_neg h]
    obtain ⟨k, rfl⟩ : ∃ k : Nat, n = -(k : Int) := ⟨n.natAbs, by omega⟩
    rw [show (-(k : Int)).natAbs = k by omega]
    exact rtext_neg k w (by omega) (by omega)
  · rw [Pl.itoa_pos h]
    obtain ⟨k, rfl⟩ : ∃ k : Nat, n = (k : Int) := ⟨n.toNat, by omega⟩
    rw [Int.toNat_natCast]
    exact rtext_pos k w (by omega)
end Go.Proofs.YtoalnfkjpdgbiaaDoor

/-
  Contracts over this program: the document's own written, of a reply that is no array.
-/
namespace Go.Proofs.YtoalnfkjpdgbiaaDoor
open Go.RowKit
set_option linter.unusedVariables false
/-- bytes behind others, or as many of them as make more than so many -/
def WrE (l0 e : List UInt8) (most : Int) (l : List UInt8) : Prop := (l = l0 ++ e ∨ most < (l.length : Int)) ∧ ∃ p q, l = l0 ++ p ∧ e = p ++ q
theorem WrE.all (l0 e : List UInt8) (most : Int) : WrE l0 e most (l0 ++ e) := ⟨.inl rfl, e, [], rfl, by simp⟩
theorem WrE.len {l0 e l : List UInt8} {most : Int} (h : WrE l0 e most l) : l.length ≤ l0.length + e.length := by
  obtain ⟨_, p, q, rfl, rfl⟩ := h
  simp only [List.length_append]
  omega
def PutW (v : Value) (l0 e : List UInt8) (most : Int) (w : World) (en : Ending) (w' : World) : Prop := ∃ ao n c l, en = .returned (.slice ao n c) ∧ Kb w' (.slice ao n c) l ∧ Gr v (.slice ao n c) w w' ∧ WrE l0 e most l
theorem bs_app (a b : ByteArray) : Rp.bytesOf (a ++ b) = Rp.bytesOf a ++ Rp.bytesOf b := by
  show (a ++ b).data.toList = _
  rw [ByteArray.data_append, Array.toList_append]
  rfl
theorem sz_app (a b : ByteArray) : (a ++ b).size = a.size + b.size := ByteArray.size_append
theorem sz_itoa {t : ByteArray} {n : Int} (h : t.data.toList = Lib.itoa n) (h1 : -9223372036854775808 ≤ n) (h2 : n ≤ 9223372036854775807) : t.size ≤ 21 := by
  rw [← Rp.bytes_len]
  show t.data.toList.length ≤ 21
  rw [h]
  exact Pl.itoa_len n h1 h2
set_option maxRecDepth 100000 in
set_option maxHeartbeats 4000000 in
theorem writ_1 (v : Value) (l0 : List UInt8) (s : ByteArray) (i : Int) (ao : Option Addr) (ln c : Nat) (most : Int) (w : World) (h : Kb w v l0) (hl : l0.length + s.size ≤ 70368744177664) (hs : s.size < 4294967281) (hi : I64 i) :
    Calls Tryd.prog 42 #[v, .agg #[.int .i64 1, .string s, .int .i64 i, .slice ao ln c], .int .i64 most] w (PutW v l0 (43 :: (Rp.bytesOf s ++ Rp.crlf)) most w) := by
  obtain ⟨PP, hPP⟩ : ∃ PP : Ending → World → Prop, PP = PutW v l0 (43 :: (Rp.bytesOf s ++ Rp.crlf)) most w := ⟨_, rfl⟩
  rw [← hPP]
  have HP := keep hPP
  clear hPP
  obtain ⟨W1, hW1⟩ : ∃ x, x = w.alloc (.cells #[.int .i64 1, .string s, .int .i64 i, .slice ao ln c] 25) := ⟨_, rfl⟩
  have x1 : Box W1 w.heap.size (.int .i64 1) (.string s) (.int .i64 i) (.slice ao ln c) := hW1 ▸ Box.new w _ _ _ _
  have b1 : Below w.heap.size w W1 := hW1 ▸ (Below.refl _ _).alloc (Nat.le_refl _) _
  have hW1' := hW1.symm
  obtain ⟨d0, d1, d2, d3⟩ := x1.cells
  have K1 := keep (h.later b1)
  have HV := keep h.lt
  have B1 := keep b1
  obtain ⟨ao0, c0, rfl⟩ := h.form
  obtain ⟨n0, hn0⟩ : ∃ n0, l0.length = n0 := ⟨_, rfl⟩
  rw [hn0] at K1 HV hl HP ⊢
  have HN0 := keep hn0
  have HL := keep hl
  have HS := keep hs
  clear hW1 x1 b1 h hn0
  obtain ⟨v2, w2, r2, k2, g2⟩ := app_text K1.out (⟨#[43]⟩ ++ s ++ ⟨#[13, 10]⟩) (by rw [HN0.out, sz_app, sz_app]; show n0 + (1 + s.size + 2) ≤ 140737488351232; omega) 29
  obtain ⟨ao2, c2, rfl⟩ := k2.form
  obtain ⟨n2, hn2⟩ : ∃ n2, (l0 ++ Rp.bytesOf (⟨#[43]⟩ ++ s ++ ⟨#[13, 10]⟩)).length = n2 := ⟨_, rfl⟩
  rw [hn2] at r2 k2 g2
  have R2 := keep r2
  have K2 := keep k2
  have G2 := keep (Gr.ahead B1.out g2 HV.out)
  clear r2 k2 g2 hn2
  go_enter Tryd.func42, Tryd.ntmps42
  go_wp2_with (first | (at_builtin; refine wpList_app_run rfl _ _ _ _ rfl _ _ _ rfl rfl R2.out ?_))
  rw [HP.out]
  exact ⟨_, _, _, _, rfl, K2.out, G2.out, by rw [show Rp.bytesOf (⟨#[43]⟩ ++ s ++ ⟨#[13, 10]⟩) = 43 :: (Rp.bytesOf s ++ Rp.crlf) from by rw [bs_app, bs_app]; rfl]; exact WrE.all _ _ _⟩
set_option maxRecDepth 100000 in
set_option maxHeartbeats 4000000 in
theorem writ_2 (v : Value) (l0 : List UInt8) (s : ByteArray) (i : Int) (ao : Option Addr) (ln c : Nat) (most : Int) (w : World) (h : Kb w v l0) (hl : l0.length + s.size ≤ 70368744177664) (hs : s.size < 4294967281) (hi : I64 i) :
    Calls Tryd.prog 42 #[v, .agg #[.int .i64 2, .string s, .int .i64 i, .slice ao ln c], .int .i64 most] w (PutW v l0 (45 :: (Rp.bytesOf s ++ Rp.crlf)) most w) := by
  obtain ⟨PP, hPP⟩ : ∃ PP : Ending → World → Prop, PP = PutW v l0 (45 :: (Rp.bytesOf s ++ Rp.crlf)) most w := ⟨_, rfl⟩
  rw [← hPP]
  have HP := keep hPP
  clear hPP
  obtain ⟨W1, hW1⟩ : ∃ x, x = w.alloc (.cells #[.int .i64 2, .string s, .int .i64 i, .slice ao ln c] 25) := ⟨_, rfl⟩
  have x1 : Box W1 w.heap.size (.int .i64 2) (.string s) (.int .i64 i) (.slice ao ln c) := hW1 ▸ Box.new w _ _ _ _
  have b1 : Below w.heap.size w W1 := hW1 ▸ (Below.refl _ _).alloc (Nat.le_refl _) _
  have hW1' := hW1.symm
  obtain ⟨d0, d1, d2, d3⟩ := x1.cells
  have K1 := keep (h.later b1)
  have HV := keep h.lt
  have B1 := keep b1
  obtain ⟨ao0, c0, rfl⟩ := h.form
  obtain ⟨n0, hn0⟩ : ∃ n0, l0.length = n0 := ⟨_, rfl⟩
  rw [hn0] at K1 HV hl HP ⊢
  have HN0 := keep hn0
  have HL := keep hl
  have HS := keep hs
  clear hW1 x1 b1 h hn0
  obtain ⟨v2, w2, r2, k2, g2⟩ := app_text K1.out (⟨#[45]⟩ ++ s ++ ⟨#[13, 10]⟩) (by rw [HN0.out, sz_app, sz_app]; show n0 + (1 + s.size + 2) ≤ 140737488351232; omega) 29
  obtain ⟨ao2, c2, rfl⟩ := k2.form
  obtain ⟨n2, hn2⟩ : ∃ n2, (l0 ++ Rp.bytesOf (⟨#[45]⟩ ++ s ++ ⟨#[13, 10]⟩)).length = n2 := ⟨_, rfl⟩
  rw [hn2] at r2 k2 g2
  have R2 := keep r2
  have K2 := keep k2
  have G2 := keep (Gr.ahead B1.out g2 HV.out)
  clear r2 k2 g2 hn2
  go_enter Tryd.func42, Tryd.ntmps42
  go_wp2_with (first | (at_builtin; refine wpList_app_run rfl _ _ _ _ rfl _ _ _ rfl rfl R2.out ?_))
  rw [HP.out]
  exact ⟨_, _, _, _, rfl, K2.out, G2.out, by rw [show Rp.bytesOf (⟨#[45]⟩ ++ s ++ ⟨#[13, 10]⟩) = 45 :: (Rp.bytesOf s ++ Rp.crlf) from by rw [bs_app, bs_app]; rfl]; exact WrE.all _ _ _⟩
set_option maxRecDepth 100000 in
set_option maxHeartbeats 4000000 in
theorem writ_3 (v : Value) (l0 : List UInt8) (s : ByteArray) (i : Int) (ao : Option Addr) (ln c : Nat) (most : Int) (w : World) (h : Kb w v l0) (hl : l0.length + s.size ≤ 70368744177664) (hs : s.size < 4294967281) (hi : I64 i) :
    Calls Tryd.prog 42 #[v, .agg #[.int .i64 3, .string s, .int .i64 i, .slice ao ln c], .int .i64 most] w (PutW v l0 (58 :: (Lib.itoa i ++ Rp.crlf)) most w) := by
  obtain ⟨PP, hPP⟩ : ∃ PP : Ending → World → Prop, PP = PutW v l0 (58 :: (Lib.itoa i ++ Rp.crlf)) most w := ⟨_, rfl⟩
  rw [← hPP]
  have HP := keep hPP
  clear hPP
  obtain ⟨W1, hW1⟩ : ∃ x, x = w.alloc (.cells #[.int .i64 3, .string s, .int .i64 i, .slice ao ln c] 25) := ⟨_, rfl⟩
  have x1 : Box W1 w.heap.size (.int .i64 3) (.string s) (.int .i64 i) (.slice ao ln c) := hW1 ▸ Box.new w _ _ _ _
  have b1 : Below w.heap.size w W1 := hW1 ▸ (Below.refl _ _).alloc (Nat.le_refl _) _
  have hW1' := hW1.symm
  obtain ⟨d0, d1, d2, d3⟩ := x1.cells
  have K1 := keep (h.later b1)
  have HV := keep h.lt
  have B1 := keep b1
  obtain ⟨ao0, c0, rfl⟩ := h.form
  obtain ⟨n0, hn0⟩ : ∃ n0, l0.length = n0 := ⟨_, rfl⟩
  rw [hn0] at K1 HV hl HP ⊢
  have HN0 := keep hn0
  have HL := keep hl
  have HS := keep hs
  clear hW1 x1 b1 h hn0
  have HI := keep hi
  have TX := keep (fun w => rtext_any i w hi.1 hi.2)
  go_enter Tryd.func42, Tryd.ntmps42
  go_wp2_with fail
  refine (TX.out _).mono ?_
  rintro _ wq ⟨⟨t, rfl, ht⟩, hwq⟩
  obtain rfl := hwq.symm
  have ht21 := sz_itoa ht HI.out.1 HI.out.2
  have HT := keep ht
  clear hwq ht
  obtain ⟨v2, w2, r2, k2, g2⟩ := app_text K1.out (⟨#[58]⟩ ++ t ++ ⟨#[13, 10]⟩) (by rw [HN0.out, sz_app, sz_app]; show n0 + (1 + t.size + 2) ≤ 140737488351232; omega) 29
  obtain ⟨ao2, c2, rfl⟩ := k2.form
  obtain ⟨n2, hn2⟩ : ∃ n2, (l0 ++ Rp.bytesOf (⟨#[58]⟩ ++ t ++ ⟨#[13, 10]⟩)).length = n2 := ⟨_, rfl⟩
  rw [hn2] at r2 k2 g2
  have R2 := keep r2
  have K2 := keep k2
  have G2 := keep (Gr.ahead B1.out g2 HV.out)
  clear r2 k2 g2 hn2
  go_wp2_with (first | (at_builtin; refine wpList_app_run rfl _ _ _ _ rfl _ _ _ rfl rfl R2.out ?_))
  rw [HP.out]
  exact ⟨_, _, _, _, rfl, K2.out, G2.out, by rw [show Rp.bytesOf (⟨#[58]⟩ ++ t ++ ⟨#[13, 10]⟩) = 58 :: (Lib.itoa i ++ Rp.crlf) from by rw [bs_app, bs_app, show Rp.bytesOf t = Lib.itoa i from HT.out]; rfl]; exact WrE.all _ _ _⟩
set_option maxRecDepth 100000 in
set_option maxHeartbeats 4000000 in
theorem writ_5 (v : Value) (l0 : List UInt8) (s : ByteArray) (i : Int) (ao : Option Addr) (ln c : Nat) (most : Int) (w : World) (h : Kb w v l0) (hl : l0.length + s.size ≤ 70368744177664) (hs : s.size < 4294967281) (hi : I64 i) :
    Calls Tryd.prog 42 #[v, .agg #[.int .i64 5, .string s, .int .i64 i, .slice ao ln c], .int .i64 most] w (PutW v l0 (36 :: ([45, 49] ++ Rp.crlf)) most w) := by
  obtain ⟨PP, hPP⟩ : ∃ PP : Ending → World → Prop, PP = PutW v l0 (36 :: ([45, 49] ++ Rp.crlf)) most w := ⟨_, rfl⟩
  rw [← hPP]
  have HP := keep hPP
  clear hPP
  obtain ⟨W1, hW1⟩ : ∃ x, x = w.alloc (.cells #[.int .i64 5, .string s, .int .i64 i, .slice ao ln c] 25) := ⟨_, rfl⟩
  have x1 : Box W1 w.heap.size (.int .i64 5) (.string s) (.int .i64 i) (.slice ao ln c) := hW1 ▸ Box.new w _ _ _ _
  have b1 : Below w.heap.size w W1 := hW1 ▸ (Below.refl _ _).alloc (Nat.le_refl _) _
  have hW1' := hW1.symm
  obtain ⟨d0, d1, d2, d3⟩ := x1.cells
  have K1 := keep (h.later b1)
  have HV := keep h.lt
  have B1 := keep b1
  obtain ⟨ao0, c0, rfl⟩ := h.form
  obtain ⟨n0, hn0⟩ : ∃ n0, l0.length = n0 := ⟨_, rfl⟩
  rw [hn0] at K1 HV hl HP ⊢
  have HN0 := keep hn0
  have HL := keep hl
  have HS := keep hs
  clear hW1 x1 b1 h hn0
  obtain ⟨v2, w2, r2, k2, g2⟩ := app_text K1.out (⟨#[36, 45, 49]⟩ ++ ⟨#[13, 10]⟩) (by rw [HN0.out]; show n0 + 5 ≤ 140737488351232; omega) 29
  obtain ⟨ao2, c2, rfl⟩ := k2.form
  obtain ⟨n2, hn2⟩ : ∃ n2, (l0 ++ Rp.bytesOf (⟨#[36, 45, 49]⟩ ++ ⟨#[13, 10]⟩)).length = n2 := ⟨_, rfl⟩
  rw [hn2] at r2 k2 g2
  have R2 := keep r2
  have K2 := keep k2
  have G2 := keep (Gr.ahead B1.out g2 HV.out)
  clear r2 k2 g2 hn2
  go_enter Tryd.func42, Tryd.ntmps42
  go_wp2_with (first | (at_builtin; refine wpList_app_run rfl _ _ _ _ rfl _ _ _ rfl rfl R2.out ?_))
  rw [HP.out]
  exact ⟨_, _, _, _, rfl, K2.out, G2.out, by rw [show Rp.bytesOf (⟨#[36, 45, 49]⟩ ++ ⟨#[13, 10]⟩) = 36 :: ([45, 49] ++ Rp.crlf) from rfl]; exact WrE.all _ _ _⟩
set_option maxRecDepth 100000 in
set_option maxHeartbeats 4000000 in
theorem writ_7 (v : Value) (l0 : List UInt8) (s : ByteArray) (i : Int) (ao : Option Addr) (ln c : Nat) (most : Int) (w : World) (h : Kb w v l0) (hl : l0.length + s.size ≤ 70368744177664) (hs : s.size < 4294967281) (hi : I64 i) :
    Calls Tryd.prog 42 #[v, .agg #[.int .i64 7, .string s, .int .i64 i, .slice ao ln c], .int .i64 most] w (PutW v l0 (42 :: ([45, 49] ++ Rp.crlf)) most w) := by
  obtain ⟨PP, hPP⟩ : ∃ PP : Ending → World → Prop, PP = PutW v l0 (42 :: ([45, 49] ++ Rp.crlf)) most w := ⟨_, rfl⟩
  rw [← hPP]
  have HP := keep hPP
  clear hPP
  obtain ⟨W1, hW1⟩ : ∃ x, x = w.alloc (.cells #[.int .i64 7, .string s, .int .i64 i, .slice ao ln c] 25) := ⟨_, rfl⟩
  have x1 : Box W1 w.heap.size (.int .i64 7) (.string s) (.int .i64 i) (.slice ao ln c) := hW1 ▸ Box.new w _ _ _ _
  have b1 : Below w.heap.size w W1 := hW1 ▸ (Below.refl _ _).alloc (Nat.le_refl _) _
  have hW1' := hW1.symm
  obtain ⟨d0, d1, d2, d3⟩ := x1.cells
  have K1 := keep (h.later b1)
  have HV := keep h.lt
  have B1 := keep b1
  obtain ⟨ao0, c0, rfl⟩ := h.form
  obtain ⟨n0, hn0⟩ : ∃ n0, l0.length = n0 := ⟨_, rfl⟩
  rw [hn0] at K1 HV hl HP ⊢
  have HN0 := keep hn0
  have HL := keep hl
  have HS := keep hs
  clear hW1 x1 b1 h hn0
  obtain ⟨v2, w2, r2, k2, g2⟩ := app_text K1.out (⟨#[42, 45, 49]⟩ ++ ⟨#[13, 10]⟩) (by rw [HN0.out]; show n0 + 5 ≤ 140737488351232; omega) 29
  obtain ⟨ao2, c2, rfl⟩ := k2.form
  obtain ⟨n2, hn2⟩ : ∃ n2, (l0 ++ Rp.bytesOf (⟨#[42, 45, 49]⟩ ++ ⟨#[13, 10]⟩)).length = n2 := ⟨_, rfl⟩
  rw [hn2] at r2 k2 g2
  have R2 := keep r2
  have K2 := keep k2
  have G2 := keep (Gr.ahead B1.out g2 HV.out)
  clear r2 k2 g2 hn2
  go_enter Tryd.func42, Tryd.ntmps42
  go_wp2_with (first | (at_builtin; refine wpList_app_run rfl _ _ _ _ rfl _ _ _ rfl rfl R2.out ?_))
  rw [HP.out]
  exact ⟨_, _, _, _, rfl, K2.out, G2.out, by rw [show Rp.bytesOf (⟨#[42, 45, 49]⟩ ++ ⟨#[13, 10]⟩) = 42 :: ([45, 49] ++ Rp.crlf) from rfl]; exact WrE.all _ _ _⟩
end Go.Proofs.YtoalnfkjpdgbiaaDoor

/-
  Contracts over this program: the document's own written, of bytes and of arrays.
-/
namespace Go.Proofs.YtoalnfkjpdgbiaaDoor
open Go.RowKit
set_option linter.unusedVariables false
set_option maxRecDepth 100000 in
set_option maxHeartbeats 4000000 in
theorem writ_4 (v : Value) (l0 : List UInt8) (s : ByteArray) (i : Int) (ao : Option Addr) (ln c : Nat) (most : Int) (w : World) (h : Kb w v l0) (hl : l0.length + s.size ≤ 70368744177664) (hs : s.size < 4294967281) (hi : I64 i) :
    Calls Tryd.prog 42 #[v, .agg #[.int .i64 4, .string s, .int .i64 i, .slice ao ln c], .int .i64 most] w (PutW v l0 (36 :: (Lib.itoa s.size ++ Rp.crlf ++ Rp.bytesOf s ++ Rp.crlf)) most w) := by
  obtain ⟨PP, hPP⟩ : ∃ PP : Ending → World → Prop, PP = PutW v l0 (36 :: (Lib.itoa s.size ++ Rp.crlf ++ Rp.bytesOf s ++ Rp.crlf)) most w := ⟨_, rfl⟩
  rw [← hPP]
  have HP := keep hPP
  clear hPP
  obtain ⟨W1, hW1⟩ : ∃ x, x = w.alloc (.cells #[.int .i64 4, .string s, .int .i64 i, .slice ao ln c] 25) := ⟨_, rfl⟩
  have x1 : Box W1 w.heap.size (.int .i64 4) (.string s) (.int .i64 i) (.slice ao ln c) := hW1 ▸ Box.new w _ _ _ _
  have b1 : Below w.heap.size w W1 := hW1 ▸ (Below.refl _ _).alloc (Nat.le_refl _) _
  have hW1' := hW1.symm
  obtain ⟨d0, d1, d2, d3⟩ := x1.cells
  have K1 := keep (h.later b1)
  have HV := keep h.lt
  have B1 := keep b1
  obtain ⟨ao0, c0, rfl⟩ := h.form
  obtain ⟨n0, hn0⟩ : ∃ n0, l0.length = n0 := ⟨_, rfl⟩
  rw [hn0] at K1 HV hl HP ⊢
  have HN0 := keep hn0
  have HL := keep hl
  have HS := keep hs
  clear hW1 x1 b1 h hn0
  have TX := keep (fun w => rtext_any (s.size : Int) w (by omega) (by have := HS.out; omega))
  have HX1 := keep (show Box W1 w.heap.size (.int .i64 4) (.string s) (.int .i64 i) (.slice ao ln c) from hW1' ▸ Box.new w _ _ _ _)
  go_enter Tryd.func42, Tryd.ntmps42
  go_wp2_with fail
  refine (TX.out _).mono ?_
  rintro _ wq ⟨⟨t, rfl, ht⟩, hwq⟩
  obtain rfl := hwq.symm
  have ht21 := sz_itoa ht (by omega) (by have := HS.out; omega)
  have HT := keep ht
  clear hwq ht
  have hz2 : (⟨#[36]⟩ ++ t ++ ⟨#[13, 10]⟩ : ByteArray).size = 1 + t.size + 2 := by rw [sz_app, sz_app]; rfl
  obtain ⟨v2, w2, r2, k2, g2⟩ := app_text K1.out (⟨#[36]⟩ ++ t ++ ⟨#[13, 10]⟩) (by rw [HN0.out, hz2]; omega) 29
  have g02 := Gr.ahead B1.out g2 HV.out
  have x2 := HX1.out.gr g2 ⟨HX1.out.lt, fun e => Nat.lt_irrefl _ (HV.out _ e)⟩
  obtain ⟨e0, e1, e2, e3⟩ := x2.cells
  have hl1 : (l0 ++ Rp.bytesOf (⟨#[36]⟩ ++ t ++ ⟨#[13, 10]⟩)).length = n0 + (1 + t.size + 2) := by rw [List.length_append, HN0.out, Rp.bytes_len, hz2]
  obtain ⟨v3, w3, r3, k3, g3⟩ := app_text k2 s (by rw [hl1]; omega) 29
  have hl2 : (l0 ++ Rp.bytesOf (⟨#[36]⟩ ++ t ++ ⟨#[13, 10]⟩) ++ Rp.bytesOf s).length = n0 + (1 + t.size + 2) + s.size := by rw [List.length_append, hl1, Rp.bytes_len]
  obtain ⟨v4, w4, r4, k4, g4⟩ := app_text k3 ⟨#[13, 10]⟩ (by rw [hl2]; show _ + 2 ≤ 140737488351232; omega) 29
  have G4 := keep ((g02.trans g3).trans g4)
  obtain ⟨ao2, c2, rfl⟩ := k2.form
  obtain ⟨ao3, c3, rfl⟩ := k3.form
  obtain ⟨ao4, c4, rfl⟩ := k4.form
  have EQ : Kept (l0 ++ Rp.bytesOf (⟨#[36]⟩ ++ t ++ ⟨#[13, 10]⟩) ++ Rp.bytesOf s ++ Rp.bytesOf ⟨#[13, 10]⟩ = l0 ++ 36 :: (Lib.itoa s.size ++ Rp.crlf ++ Rp.bytesOf s ++ Rp.crlf)) := by
    rw [bs_app, bs_app, show Rp.bytesOf t = Lib.itoa s.size from HT.out]
    show l0 ++ ([36] ++ Lib.itoa s.size ++ [13, 10]) ++ Rp.bytesOf s ++ [13, 10] = l0 ++ 36 :: (Lib.itoa s.size ++ [13, 10] ++ Rp.bytesOf s ++ [13, 10])
    simp [List.append_assoc]
  rw [EQ.out] at k4 r4 G4
  have K4 := keep k4
  have E4 := keep (show (l0 ++ 36 :: (Lib.itoa s.size ++ Rp.crlf ++ Rp.bytesOf s ++ Rp.crlf)).length = (l0 ++ 36 :: (Lib.itoa s.size ++ Rp.crlf ++ Rp.bytesOf s ++ Rp.crlf)).length from rfl)
  obtain ⟨n2, hn2⟩ : ∃ n2, (l0 ++ Rp.bytesOf (⟨#[36]⟩ ++ t ++ ⟨#[13, 10]⟩)).length = n2 := ⟨_, rfl⟩
  obtain ⟨n3, hn3⟩ : ∃ n3, (l0 ++ Rp.bytesOf (⟨#[36]⟩ ++ t ++ ⟨#[13, 10]⟩) ++ Rp.bytesOf s).length = n3 := ⟨_, rfl⟩
  obtain ⟨n4, hn4⟩ : ∃ n4, (l0 ++ 36 :: (Lib.itoa s.size ++ Rp.crlf ++ Rp.bytesOf s ++ Rp.crlf)).length = n4 := ⟨_, rfl⟩
  rw [hn2] at r2 r3
  rw [hn3] at r3 r4
  rw [hn4] at r4 K4 G4
  have R2 := keep r2
  have R3 := keep r3
  have R4 := keep r4
  clear r2 r3 r4 k2 k3 k4 g2 g3 g4 g02 hl1 hl2 hz2 x2 hn2 hn3 hn4 E4
  go_wp2_with (first | (at_builtin; refine wpList_app_run rfl _ _ _ _ rfl _ _ _ rfl rfl R2.out ?_; clear R2) | (at_builtin; refine wpList_app_run rfl _ _ _ _ rfl _ _ _ rfl rfl R3.out ?_; clear R3) | (at_builtin; refine wpList_app_run rfl _ _ _ _ rfl _ _ _ rfl rfl R4.out ?_; clear R4))
  rw [HP.out]
  exact ⟨_, _, _, _, rfl, K4.out, G4.out, WrE.all _ _ _⟩
theorem WrE.stop {l0 e q l : List UInt8} {most : Int} (h : WrE l0 e most l) (hm : most < (l.length : Int)) : WrE l0 (e ++ q) most l := by
  obtain ⟨_, a, b, h1, h2⟩ := h
  exact ⟨.inr hm, a, b ++ q, h1, by rw [h2, List.append_assoc]⟩
theorem WrE.on {l0 e x l l' : List UInt8} {most : Int} (h : WrE l0 e most l) (hm : ¬ most < (l.length : Int)) (h' : WrE l x most l') : WrE l0 (e ++ x) most l' := by
  have he := h.1.resolve_right hm
  subst he
  obtain ⟨h1, a, b, h2, h3⟩ := h'
  refine ⟨?_, e ++ a, b, by rw [h2, List.append_assoc], by rw [h3, List.append_assoc]⟩
  rcases h1 with h1 | h1
  · left; rw [h1, List.append_assoc]
  · exact .inr h1
theorem flat_split {α : Type} (f : α → List UInt8) (L : List α) (j : Nat) : L.flatMap f = (L.take j).flatMap f ++ (L.drop j).flatMap f := by
  rw [← List.flatMap_append, List.take_append_drop]
theorem flat_succ {α : Type} (f : α → List UInt8) {L : List α} {j : Nat} {x : α} (hx : L[j]? = some x) : (L.take (j + 1)).flatMap f = (L.take j).flatMap f ++ f x := by
  rw [List.take_add_one, hx, List.flatMap_append]
  simp
set_option maxRecDepth 100000 in
set_option maxHeartbeats 8000000 in
theorem writ_6 (n : Nat) (v : Value) (l0 : List UInt8) (s : ByteArray) (i : Int) (lv : Value) (L : List (Rp.T n)) (most : Int) (w : World) (hL : Lst (Far v w) w (Tel (Far v w) w n) lv L) (h : Kb w v l0) (hL1 : L.length ≤ 16777216)
    (hl : l0.length + (42 :: (Lib.itoa (L.length : Int) ++ Rp.crlf ++ L.flatMap (Rp.enc n))).length ≤ 70368744177664)
    (IH : ∀ (v' : Value) (l' : List UInt8) (cs : List Value) (t : Rp.T n) (w' : World), t ∈ L → Tel (Far v' w') w' n cs t → Kb w' v' l' → l'.length + (Rp.enc n t).length ≤ 70368744177664 → Calls Tryd.prog 42 #[v', .agg cs.toArray, .int .i64 most] w' (PutW v' l' (Rp.enc n t) most w')) :
    Calls Tryd.prog 42 #[v, .agg #[.int .i64 6, .string s, .int .i64 i, lv], .int .i64 most] w (PutW v l0 (42 :: (Lib.itoa (L.length : Int) ++ Rp.crlf ++ L.flatMap (Rp.enc n))) most w) := by
  obtain ⟨PP, hPP⟩ : ∃ PP : Ending → World → Prop, PP = PutW v l0 (42 :: (Lib.itoa (L.length : Int) ++ Rp.crlf ++ L.flatMap (Rp.enc n))) most w := ⟨_, rfl⟩
  rw [← hPP]
  have HP := keep hPP
  clear hPP
  have AT := keep (fun j x (hx : L[j]? = some x) => hL.at hx (fun cs h => h.four))
  obtain ⟨ao, c, rfl, hlc, hcm⟩ := hL.form
  obtain ⟨hd, hhd⟩ : ∃ hd, hd = 42 :: (Lib.itoa (L.length : Int) ++ Rp.crlf) := ⟨_, rfl⟩
  have he : ∀ x : List UInt8, 42 :: (Lib.itoa (L.length : Int) ++ Rp.crlf ++ x) = hd ++ x := fun x => by rw [hhd]; rfl
  rw [he] at HP hl
  obtain ⟨ln, hln⟩ : ∃ q, L.length = q := ⟨_, rfl⟩
  rw [hln] at AT hlc hL1 hhd ⊢
  obtain ⟨W1, hW1⟩ : ∃ x, x = w.alloc (.cells #[.int .i64 6, .string s, .int .i64 i, .slice ao ln c] 25) := ⟨_, rfl⟩
  have x1 : Box W1 w.heap.size (.int .i64 6) (.string s) (.int .i64 i) (.slice ao ln c) := hW1 ▸ Box.new w _ _ _ _
  have b1 : Below w.heap.size w W1 := hW1 ▸ (Below.refl _ _).alloc (Nat.le_refl _) _
  have hW1' := hW1.symm
  obtain ⟨d0, d1, d2, d3⟩ := x1.cells
  have K1 := keep (h.later b1)
  have HV := keep h.lt
  have B1 := keep b1
  have HX1 := keep x1
  obtain ⟨ao0, c0, rfl⟩ := h.form
  obtain ⟨n0, hn0⟩ : ∃ n0, l0.length = n0 := ⟨_, rfl⟩
  rw [hn0] at K1 HV hl HP AT ⊢
  have HN0 := keep hn0
  have HL := keep hl
  have HLN := keep hln
  have HLL := keep hL1
  have IHK := keep IH
  have HHD := keep hhd
  have TX := keep (fun w => rtext_any (ln : Int) w (by omega) (by omega))
  clear hW1 x1 b1 h hn0 hl hln hL1 hlc hcm hL IH hhd he
  go_enter Tryd.func42, Tryd.ntmps42
  go_wp2_with fail
  refine (TX.out _).mono ?_
  rintro _ wq ⟨⟨t, rfl, ht⟩, hwq⟩
  obtain rfl := hwq.symm
  have ht21 := sz_itoa ht (by omega) (by have := HLL.out; omega)
  have HT := keep ht
  clear hwq ht
  have hz2 : (⟨#[42]⟩ ++ t ++ ⟨#[13, 10]⟩ : ByteArray).size = 1 + t.size + 2 := by rw [sz_app, sz_app]; rfl
  have hb2 : Rp.bytesOf (⟨#[42]⟩ ++ t ++ ⟨#[13, 10]⟩) = hd := by
    rw [bs_app, bs_app, show Rp.bytesOf t = Lib.itoa (ln : Int) from HT.out, HHD.out]
    rfl
  obtain ⟨v2, w2, r2, k2, g2⟩ := app_text K1.out (⟨#[42]⟩ ++ t ++ ⟨#[13, 10]⟩) (by rw [HN0.out, hz2]; have := HL.out; omega) 29
  rw [hb2] at k2
  have x2 := HX1.out.gr g2 ⟨HX1.out.lt, fun e => Nat.lt_irrefl _ (HV.out _ e)⟩
  obtain ⟨e0, e1, e2, e3⟩ := x2.cells
  have G2 := keep (Gr.ahead B1.out g2 HV.out)
  obtain ⟨ao2, c2, rfl⟩ := k2.form
  have K2 := keep k2
  obtain ⟨n2, hn2⟩ : ∃ n2, (l0 ++ hd).length = n2 := ⟨_, rfl⟩
  rw [hn2] at r2 K2 G2
  have R2 := keep r2
  clear r2 k2 g2 hz2 hb2 x2 hn2
  go_wp2_with (first | (at_builtin; refine wpList_app_run rfl _ _ _ _ rfl _ _ _ rfl rfl R2.out ?_; clear R2))
  go_loopw [0, 82] (fun v0 vj wr => ∃ (j : Nat) (aoj : Option Addr) (nj cj : Nat) (lj : List UInt8), j ≤ ln ∧ v0 = .slice aoj nj cj ∧ vj = .int .i64 (j : Nat) ∧ Kept (Kb wr (.slice aoj nj cj) lj) ∧ Kept (Gr (.slice ao0 n0 c0) (.slice aoj nj cj) w wr) ∧ Kept (WrE l0 (hd ++ (L.take j).flatMap (Rp.enc n)) most lj)) (fun _ v _ => ln - (intOf v).toNat)
  case atStart => exact ⟨0, _, _, _, _, Nat.zero_le _, rfl, rfl, K2, G2, by rw [List.take_zero]; show WrE l0 (hd ++ []) most (l0 ++ hd); rw [List.append_nil]; exact WrE.all _ _ _⟩
  case round =>
    obtain ⟨j, aoj, nj, cj, lj, hj, rfl, rfl, KJ, GJ, WJ⟩ := hrel
    clear d0 d1 d2 d3 hW1' e0 e1 e2 e3
    have hnj := KJ.out.len
    by_cases hlt : j < ln
    · have h0 : (0 : Int) ≤ (j : Int) := by omega
      have h1 : (j : Int) < (ln : Int) := by omega
      have nw : IntKind.i64.wrap ((j : Int) + 1) = ((j + 1 : Nat) : Int) := by have := HLL.out; rw [IntKind.wrap_i64]; omega
      obtain ⟨x, hx⟩ : ∃ x, L[j]? = some x := ⟨_, List.getElem?_eq_getElem (by rw [HLN.out]; exact hlt)⟩
      obtain ⟨g, cap, hao, hg, a0, a1, a2, a3, tx, m0, m1, m2, m3⟩ := AT.out j x hx
      obtain ⟨e0, e1, e2, e3, e4, e5, hcs, _⟩ := tx.six
      obtain ⟨rfl, rfl, rfl, rfl⟩ : a0 = .int .i64 e0 ∧ a1 = .string e1 ∧ a2 = .int .i64 e2 ∧ a3 = .slice e3 e4 e5 := by
        injection hcs with h1 h2
        injection h2 with h2 h3
        injection h3 with h3 h4
        injection h4 with h4 _
        exact ⟨h1, h2, h3, h4⟩
      clear hcs
      injection hao with ha1 _ ha3
      subst ha1
      subst ha3
      have hgs := GJ.out.same hg
      have cel : ∀ o u, w.cell? ⟨g, o, none⟩ = some u → wr.cell? ⟨g, o, none⟩ = some u := fun o u hu => (World.cell?_of_block hgs).trans hu
      have n0' := cel _ _ m0
      have n1' := cel _ _ m1
      have n2' := cel _ _ m2
      have n3' := cel _ _ m3
      obtain ⟨WA, hWA⟩ : ∃ x, x = wr.alloc (.cells #[.int .i64 e0, .string e1, .int .i64 e2, .slice e3 e4 e5] 25) := ⟨_, rfl⟩
      have xa : Box WA wr.heap.size (.int .i64 e0) (.string e1) (.int .i64 e2) (.slice e3 e4 e5) := hWA ▸ Box.new wr _ _ _ _
      have ba : Below wr.heap.size wr WA := hWA ▸ (Below.refl _ _).alloc (Nat.le_refl _) _
      obtain ⟨p0, p1, p2, p3⟩ := xa.cells
      have hWA' := hWA.symm
      have HX := keep hx
      have HLT := keep hlt
      have hfl : ∀ u, u ∈ [x] → (hd ++ (L.take j).flatMap (Rp.enc n)).length + (Rp.enc n x).length ≤ (hd ++ L.flatMap (Rp.enc n)).length := fun u _ => by
        rw [flat_split (Rp.enc n) L (j + 1), flat_succ (Rp.enc n) hx]
        simp only [List.length_append]
        omega
      by_cases hmo : most < (nj : Int)
      · have WF := keep (WrE.stop (q := Rp.enc n x ++ (L.drop (j + 1)).flatMap (Rp.enc n)) WJ.out (by rw [← hnj]; exact hmo))
        have EQ : Kept (hd ++ (L.take j).flatMap (Rp.enc n) ++ (Rp.enc n x ++ (L.drop (j + 1)).flatMap (Rp.enc n)) = hd ++ L.flatMap (Rp.enc n)) := keep (by
          rw [flat_split (Rp.enc n) L (j + 1), flat_succ (Rp.enc n) hx]
          simp [List.append_assoc])
        rw [EQ.out] at WF
        have GA := keep (GJ.out.behind ba)
        have KA := keep (KJ.out.later ba)
        clear tx hg m0 m1 m2 m3 hx hWA xa ba hlt cel hgs hnj hfl
        go_wp2_with fail
        rw [HP.out]
        exact ⟨_, _, _, _, rfl, KA.out, GA.out, WF.out⟩
      · have telx : Tel (Far (.slice aoj nj cj) WA) WA n [.int .i64 e0, .string e1, .int .i64 e2, .slice e3 e4 e5] x :=
          Tel.mono (fun b hb => ⟨Nat.lt_of_lt_of_le (GJ.out.far hb).1 ba.size, (GJ.out.far hb).2⟩) (fun b hb => (ba.block b (GJ.out.far hb).1).trans (GJ.out.same hb)) _ _ _ tx
        have hmo' : ¬ most < (lj.length : Int) := by rw [← hnj]; exact hmo
        have CALL := keep (IHK.out (.slice aoj nj cj) lj _ x WA (List.mem_of_getElem? hx) telx (KJ.out.later ba) (by
          have h1 := WJ.out.len
          have h2 := hfl x (by simp)
          have h3 := HL.out
          rw [HN0.out] at h1
          omega))
        have GA := keep (GJ.out.behind ba)
        have HMO := keep hmo'
        clear tx hg m0 m1 m2 m3 hx hWA xa ba telx hlt cel hgs hnj hfl hmo'
        go_wp2_with fail
        refine CALL.out.mono ?_
        rintro e w5 ⟨ao5, n5, c5, l5, rfl, k5, g5, we5⟩
        have K5 := keep k5
        have G5 := keep (GA.out.trans g5)
        have W5 := keep (WrE.on WJ.out (by have := HMO.out; omega) we5)
        clear k5 g5 we5 p0 p1 p2 p3 n0' n1' n2' n3' hWA'
        go_wp2_with fail
        go_roundw
        case measure => have := HLT.out; simp [intOf]; omega
        case rel => exact ⟨j + 1, ao5, n5, c5, l5, HLT.out, rfl, by rfl, K5, G5, by rw [flat_succ (Rp.enc n) HX.out, ← List.append_assoc]; exact W5⟩
    · obtain rfl : j = ln := by omega
      have h1 : ¬ (j : Int) < (j : Int) := by omega
      have WF := WJ.out
      rw [List.take_of_length_le (by rw [HLN.out]; exact Nat.le_refl _)] at WF
      have WF' := keep WF
      clear WF hnj
      go_wp2_with fail
      rw [HP.out]
      exact ⟨_, _, _, _, rfl, KJ.out, GJ.out, WF'.out⟩
theorem rwrit_any : ∀ (n : Nat) (t : Rp.T n) (v : Value) (l0 : List UInt8) (cs : List Value) (most : Int) (w : World), Tel (Far v w) w n cs t → Kb w v l0 → Rp.right n t = true → Rp.wt n t ≤ 2000000 → l0.length + (Rp.enc n t).length ≤ 70368744177664 →
    Calls Tryd.prog 42 #[v, .agg cs.toArray, .int .i64 most] w (PutW v l0 (Rp.enc n t) most w)
  | 0, t, _, _, _, _, _, _, _, _, _, _ => nomatch t
  | n + 1, t, v, l0, cs, most, w, hT, hK, hr, hw, hl => by
    obtain ⟨lv, rfl, hL, hk, hi, hs⟩ := hT
    have hw' : Rp.wt (n + 1) t = 4 + (Rp.tx t).size + ((Rp.ls t).map (Rp.wt n)).sum := rfl
    have hr' : (Rp.wellW (Rp.kd t) (Rp.tx t) (Rp.nm t) (Rp.ls t) && (Rp.ls t).all (Rp.right n)) = true := hr
    rw [Bool.and_eq_true] at hr'
    obtain ⟨hwl, hal⟩ := hr'
    have hL0 := hL
    obtain ⟨ao, c, e, _, _⟩ := hL.form
    have hle : Rp.enc (n + 1) t = Rp.encW (Rp.enc n) (Rp.kd t) (Rp.tx t) (Rp.nm t) (Rp.ls t) := rfl
    rw [hle] at hl ⊢
    generalize Rp.kd t = k at *
    by_cases h1 : k = 1
    · subst h1
      have hE : Rp.encW (Rp.enc n) 1 (Rp.tx t) (Rp.nm t) (Rp.ls t) = 43 :: (Rp.bytesOf (Rp.tx t) ++ Rp.crlf) := rfl
      rw [hE, e]
      exact writ_1 v l0 _ _ _ _ _ most w hK (by rw [hE] at hl; simp only [List.length_cons, List.length_append, Rp.bytes_len] at hl; omega) hs hi
    by_cases h2 : k = 2
    · subst h2
      have hE : Rp.encW (Rp.enc n) 2 (Rp.tx t) (Rp.nm t) (Rp.ls t) = 45 :: (Rp.bytesOf (Rp.tx t) ++ Rp.crlf) := rfl
      rw [hE, e]
      exact writ_2 v l0 _ _ _ _ _ most w hK (by rw [hE] at hl; simp only [List.length_cons, List.length_append, Rp.bytes_len] at hl; omega) hs hi
    have hz3 : k = 3 ∨ k = 5 ∨ k = 7 ∨ k = 6 → (Rp.tx t).size = 0 := fun h => by
      unfold Rp.wellW at hwl
      rcases h with rfl | rfl | rfl | rfl
      · simp at hwl; rw [hwl.1]; rfl
      · simp at hwl; rw [hwl.1.1]; rfl
      · simp at hwl; rw [hwl.1.1]; rfl
      · simp at hwl; rw [hwl.1]; rfl
    by_cases h3 : k = 3
    · subst h3
      have hE : Rp.encW (Rp.enc n) 3 (Rp.tx t) (Rp.nm t) (Rp.ls t) = 58 :: (Lib.itoa (Rp.nm t) ++ Rp.crlf) := rfl
      rw [hE, e]
      exact writ_3 v l0 _ _ _ _ _ most w hK (by rw [hz3 (.inl rfl)]; omega) hs hi
    by_cases h4 : k = 4
    · subst h4
      have hE : Rp.encW (Rp.enc n) 4 (Rp.tx t) (Rp.nm t) (Rp.ls t) = 36 :: (Lib.itoa (Rp.tx t).size ++ Rp.crlf ++ Rp.bytesOf (Rp.tx t) ++ Rp.crlf) := rfl
      rw [hE, e]
      exact writ_4 v l0 _ _ _ _ _ most w hK (by rw [hE] at hl; simp only [List.length_cons, List.length_append, Rp.bytes_len] at hl; omega) hs hi
    by_cases h5 : k = 5
    · subst h5
      have hE : Rp.encW (Rp.enc n) 5 (Rp.tx t) (Rp.nm t) (Rp.ls t) = 36 :: ([45, 49] ++ Rp.crlf) := rfl
      rw [hE, e]
      exact writ_5 v l0 _ _ _ _ _ most w hK (by rw [hz3 (.inr (.inl rfl))]; omega) hs hi
    by_cases h7 : k = 7
    · subst h7
      have hE : Rp.encW (Rp.enc n) 7 (Rp.tx t) (Rp.nm t) (Rp.ls t) = 42 :: ([45, 49] ++ Rp.crlf) := rfl
      rw [hE, e]
      exact writ_7 v l0 _ _ _ _ _ most w hK (by rw [hz3 (.inr (.inr (.inl rfl)))]; omega) hs hi
    by_cases h6 : k = 6
    · subst h6
      have hE : Rp.encW (Rp.enc n) 6 (Rp.tx t) (Rp.nm t) (Rp.ls t) = 42 :: (Lib.itoa ((Rp.ls t).length : Int) ++ Rp.crlf ++ (Rp.ls t).flatMap (Rp.enc n)) := rfl
      rw [hE]
      exact writ_6 n v l0 _ _ lv (Rp.ls t) most w hL0 hK (by have := Rp.sum_len (Rp.wt n) (Rp.wt_pos n) (Rp.ls t); omega) (by rw [hE] at hl; exact hl) (fun v' l' cs' u w' hu hT' hK' hl' => rwrit_any n u v' l' cs' most w' hT' hK' (List.all_eq_true.1 hal u hu) (by have := Rp.sum_mem (Rp.wt n) _ u hu; omega) hl')
    · exfalso
      unfold Rp.wellW at hwl
      rw [if_neg (by simp [h1, h2]), if_neg h3, if_neg h4, if_neg h6, if_neg (by simp [h5, h7])] at hwl
      cases hwl
end Go.Proofs.YtoalnfkjpdgbiaaDoor

namespace Go.Proofs.YtoalnfkjpdgbiaaDoor
open Go.RowKit
set_option linter.unusedVariables false
theorem tel_list {P Q : Nat → Prop} {w : World} {n : Nat} {a b c v : Value} {k i : Int} {s : ByteArray} {L : List (Rp.T n)} (h : Tel P w (n + 1) [a, b, c, v] (Rp.mk k s i L)) (hQ : ∀ b, P b → Q b) : Lst Q w (Tel Q w n) v L := by
  obtain ⟨lv, elv, hlst, _⟩ := h
  have elv' : v = lv := by
    injection elv with _ h2
    injection h2 with _ h3
    injection h3 with _ h4
    injection h4
  rw [elv']
  exact hlst.mono hQ (fun b h => rfl) (fun cs x hx => Tel.mono hQ (fun b h => rfl) _ _ _ hx)
set_option maxRecDepth 100000 in
set_option maxHeartbeats 600000 in
theorem rrequest_any (so : Option Addr) (cap : Nat) (S : List ByteArray) (w : World) (hT : Txs w so S) (hl : S.length ≤ 1048576) (hS : ∀ s ∈ S, s.size ≤ 1048576) (hz : (Rp.enc 2 (rqR S)).length ≤ 16777216) :
    Calls Tryd.prog 36 #[.slice so S.length cap] w fun e w' => (∃ ao m c, e = .returned (.slice ao m c) ∧ Nb w w' (.slice ao m c) (Rp.enc 2 (rqR S))) ∧ Below w.heap.size w w' := by
  have hE : Rp.enc 2 (rqR S) = 42 :: (Lib.itoa ((S.map (bkR 0)).length : Int) ++ Rp.crlf ++ (S.map (bkR 0)).flatMap (Rp.enc 1)) := rfl
  rw [hE] at hz ⊢
  obtain ⟨Z, hZ⟩ : ∃ Z, Z = 42 :: (Lib.itoa ((S.map (bkR 0)).length : Int) ++ Rp.crlf ++ (S.map (bkR 0)).flatMap (Rp.enc 1)) := ⟨_, rfl⟩
  rw [← hZ] at hz ⊢
  obtain ⟨PP, hPP⟩ : ∃ PP : Ending → World → Prop, PP = fun e w' => (∃ ao m c, e = .returned (.slice ao m c) ∧ Nb w w' (.slice ao m c) Z) ∧ Below w.heap.size w w' := ⟨_, rfl⟩
  rw [← hPP]
  have HP := keep hPP
  clear hPP hE
  have RB := keep (rbulks_any 0 so cap S w hT (by omega))
  have WR := keep (fun (w2 : World) (lv : Value) (hL : Lst (Far (.slice none 0 0) w2) w2 (Tel (Far (.slice none 0 0) w2) w2 1) lv (S.map (bkR 0))) =>
    (show Calls Tryd.prog 42 #[.slice none 0 0, .agg #[.int .i64 6, .string ⟨#[]⟩, .int .i64 0, lv], .int .i64 4611686018427387904] w2 (PutW (.slice none 0 0) [] Z 4611686018427387904 w2) from by
      rw [hZ]
      exact writ_6 1 (.slice none 0 0) [] ⟨#[]⟩ 0 lv (S.map (bkR 0)) 4611686018427387904 w2 hL (Kb.nil _) (by rw [List.length_map]; omega) (by rw [← hZ, List.length_nil]; omega) (fun v' l' cs t w' ht hT' hK' hl' => by
        obtain ⟨s, hs, rfl⟩ := List.mem_map.1 ht
        refine rwrit_any 1 (bkR 0 s) v' l' cs _ w' hT' hK' (bk_right 0 s) ?_ hl'
        show 4 + s.size + 0 ≤ 2000000
        have := hS s hs
        omega)))
  have HZ := keep hz
  clear hT hS hz hZ hl
  generalize S.length = n at *
  go_enter Tryd.func36, Tryd.ntmps36
  go_wp2_with fail
  refine RB.out.mono ?_
  rintro e w2 ⟨⟨v, rfl, t2⟩, b2⟩
  have hlst := tel_list (n := 1) (Q := Far (.slice none 0 0) w2) t2 (fun b h => ⟨h.2, fun e => by injection e⟩)
  have CW := keep (WR.out w2 v hlst)
  have B2 := keep b2
  obtain ⟨ao, c, rfl, _, _⟩ := hlst.form
  obtain ⟨ln, hln⟩ : ∃ ln, (S.map (bkR 0)).length = ln := ⟨_, rfl⟩
  rw [hln] at CW ⊢
  clear hlst t2 b2 WR RB hln
  go_wp2_with fail
  refine CW.out.mono ?_
  rintro e w3 ⟨ao3, n3, c3, l3, rfl, k3, g3, wre⟩
  have hl3 : l3 = Z := by
    rcases wre.1 with e | e
    · rw [e, List.nil_append]
    · exfalso
      have h1 := wre.len
      have h2 := HZ.out
      rw [List.length_nil] at h1
      clear HP CW k3 g3 wre
      omega
  subst hl3
  have FIN : Kept (PP (.returned (.slice ao3 n3 c3)) w3) := keep (by
    rw [HP.out]
    refine ⟨⟨ao3, n3, c3, rfl, k3, fun k hk => ?_⟩, B2.out.trans (g3.below B2.out.size (fun k hk => by cases hk))⟩
    rcases g3.2 k hk with h | h
    · cases h
    · exact Nat.le_trans B2.out.size h)
  clear k3 g3 wre CW
  go_wp2_with fail
  exact FIN.out
end Go.Proofs.YtoalnfkjpdgbiaaDoor
