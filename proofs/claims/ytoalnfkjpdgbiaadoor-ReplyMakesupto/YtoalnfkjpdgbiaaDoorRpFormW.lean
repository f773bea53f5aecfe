/-
  The walk of ReplyForm: what is read is written as the very bytes that were read.
-/
import Derived.Test.YtoalnfkjpdgbiaaDoorRpErr
import Derived.Test.YtoalnfkjpdgbiaaDoorRpWake
namespace Go.Proofs.YtoalnfkjpdgbiaaDoor
open Go.RowKit
set_option linter.unusedVariables false
theorem Bs.later {w w' : World} {v : Value} {l : List UInt8} (h : Bs (· < w.heap.size) w v l) (hb : Below w.heap.size w w') : Bs (· < w'.heap.size) w' v l :=
  h.mono (fun _ hk => Nat.lt_of_lt_of_le hk hb.size) (fun k hk => hb.block k hk)
theorem tel_none (w : World) (n : Nat) : Tel (· < w.heap.size) w (n + 1) [.int .i64 0, .string ⟨#[]⟩, .int .i64 0, .slice none 0 0] ((0, .empty, 0, []) : Rp.T (n + 1)) :=
  ⟨_, rfl, .inl ⟨rfl, _, rfl⟩, ⟨by show (-9223372036854775808 : Int) ≤ 0; decide, by show (0 : Int) ≤ 9223372036854775807; decide⟩, ⟨by show (-9223372036854775808 : Int) ≤ 0; decide, by show (0 : Int) ≤ 9223372036854775807; decide⟩, by show (0 : Nat) < 4294967281; decide⟩
set_option maxRecDepth 100000 in
set_option maxHeartbeats 4000000 in
theorem form_bad (v : Value) (b : List UInt8) (c : Int) (w : World) (hb : Bs (· < w.heap.size) w v b) (hm : b.length ≤ 1048576) (hv : Vars w) (ht : Tab w) (h3 : 3 ≤ w.heap.size) (hd : Rp.dec 8 b = .error c) :
    Calls Tryd.prog 7 #[v] w fun e w' => e = .returned (.bool true) ∧ Below w.heap.size w w' := by
  have WK := keep (wakes_any w hv ht h3)
  have DE := keep (fun w' (hb' : Below w.heap.size w w') => Decode_err w' v b c (hb.later hb') (hv.below hb') (Nat.le_trans h3 hb'.size) (by omega) hd)
  have hc : (c != 0) = true := by simpa using Rp.dec_err0 8 b c hd
  clear hb hm hv ht h3 hd
  go_enter Tryd.func7, Tryd.ntmps7
  go_wp2_with fail
  refine WK.out.mono ?_
  rintro e w1 ⟨rfl, b1⟩
  have B1 := keep b1
  clear b1
  go_wp2_with fail
  refine (DE.out _ B1.out).mono ?_
  rintro e w2 ⟨he, b2⟩
  have he' : e = .returned (.tuple #[.agg #[.int .i64 0, .string ⟨#[]⟩, .int .i64 0, .slice none 0 0], .int .i64 0, .int .i64 c]) := he
  clear he
  subst he'
  obtain ⟨w3, hw3⟩ : ∃ x, x = w2.alloc (.cells #[.int .i64 0, .string ⟨#[]⟩, .int .i64 0, .slice none 0 0] 25) := ⟨_, rfl⟩
  have b3 : Below w2.heap.size w2 w3 := hw3 ▸ (Below.refl _ _).alloc (Nat.le_refl _) _
  have x3 := (show Box w3 w2.heap.size (.int .i64 0) (.string ⟨#[]⟩) (.int .i64 0) (.slice none 0 0) from hw3 ▸ Box.new w2 _ _ _ _)
  obtain ⟨d0, d1, d2, d3⟩ := x3.cells
  have f0 := x3.free 0
  have f1 := x3.free 1
  have f2 := x3.free 2
  have f3 := x3.free 3
  obtain ⟨w4, hw4⟩ : ∃ x, x = set4 w3 w2.heap.size (.int .i64 0) (.string ⟨#[]⟩) (.int .i64 0) (.slice none 0 0) := ⟨_, rfl⟩
  have b4 : Below w2.heap.size w2 w4 := hw4 ▸ Below.four b3 (Nat.le_refl _) _ _ _ _
  have B4 := keep ((B1.out.trans (b2.mono B1.out.size)).trans (b4.mono (Nat.le_trans B1.out.size b2.size)))
  have XQ := keep (show Box w4 w2.heap.size _ _ _ _ from hw4 ▸ Box.four x3 _ _ _ _)
  obtain ⟨e0, e1, e2, e3⟩ := XQ.out.cells
  have hq3 := hw3.symm
  have hq4 : ((((w3.setCell ⟨w2.heap.size, 0, none⟩ (.int .i64 0)).setCell ⟨w2.heap.size, 1, none⟩ (.string ⟨#[]⟩)).setCell ⟨w2.heap.size, 2, none⟩ (.int .i64 0)).setCell ⟨w2.heap.size, 3, none⟩ (.slice none 0 0)) = w4 := hw4.symm
  have AL := keep (alike_any 1 (0, .empty, 0, []) (0, .empty, 0, []) _ _ w4 (tel_none w4 0) (tel_none w4 0))
  clear hw3 b2 b3 x3 hw4 b4
  go_wp2_with fail
  refine AL.out.mono ?_
  rintro e w5 ⟨⟨u, rfl, hu⟩, b5⟩
  obtain rfl : u = true := hu.2 trivial
  have B5 := keep (B4.out.trans (b5.mono B4.out.size))
  clear b5 hu
  go_wp2
  go_ret
  exact ⟨rfl, B5.out⟩
set_option maxRecDepth 100000 in
set_option maxHeartbeats 4000000 in
theorem form_good (v : Value) (b x : List UInt8) (t : Rp.T 9) (w : World) (hb : Bs (· < w.heap.size) w v b) (hm : b.length ≤ 1048576) (hv : Vars w) (ht : Tab w) (h3 : 3 ≤ w.heap.size) (hd : Rp.dec 8 b = .ok (t, x)) :
    Calls Tryd.prog 7 #[v] w fun e w' => e = .returned (.bool true) ∧ Below w.heap.size w w' := by
  have hfm := Rp.form 8 b t x hd
  obtain ⟨hbx, hf1, hf2⟩ := hfm
  have hlen : b.length = (Rp.enc 9 t).length + x.length := by rw [hbx, List.length_append]
  obtain ⟨k, hk⟩ : ∃ k, k = b.length - x.length := ⟨_, rfl⟩
  have hke : (Rp.enc 9 t).length = k := by omega
  have h33 := Rp.enc_three 9 t
  have hver : verd 9 t = 0 := by unfold verd; rw [if_pos hf1, if_neg (by rw [hf2]; decide)]
  have hcn := Rp.cnt_le 9 t hf1
  have hne : b ≠ [] := fun e => by rw [e] at hlen; simp at hlen; omega
  have WK := keep (wakes_any w hv ht h3)
  have DE := keep (fun w' (hb' : Below w.heap.size w w') => (show Calls Tryd.prog 19 #[v] w' fun e w'' => (∃ cs, e = .returned (.tuple #[.agg cs.toArray, .int .i64 (k : Int), .int .i64 0]) ∧ Tel (fun k => w'.heap.size ≤ k ∧ k < w''.heap.size) w'' 9 cs t) ∧ Below w'.heap.size w' w'' by
    rw [hk]; exact Decode_ok w' v b x t (hb.later hb') (hv.below hb') (Nat.le_trans h3 hb'.size) (by omega) hd (by omega)))
  have EN := keep (fun w' cs (hT : Tel (· < w'.heap.size) w' 9 cs t) (htb : Tab w') => enc_ok 9 t cs w' (by decide) (by omega) hT htb hver hf1 (by omega))
  have TB := keep ht
  have HB := keep hb
  have hbt : b.take k = Rp.enc 9 t := by rw [hbx, ← hke, List.take_left]
  have HBT := keep hbt
  have HM := keep hm
  obtain ⟨ao, c, rfl, hcc, hbl⟩ := hb
  obtain ⟨g, o, rfl, hg, hl⟩ := hbl.resolve_left hne
  obtain ⟨i0, hi0, hz0, hz1, _⟩ := parts_of info_u8'
  have hkb : k ≤ b.length := by omega
  have st := fun w => slice_to (P := Tryd.prog) w 29 5 Tryd.underlying29 i0 hi0 hz1 g o b.length c k hkb hcc
  have k3 : decide ((k : Int) < 3) = false := decide_eq_false (by omega)
  have kl : decide ((b.length : Int) < (k : Int)) = false := decide_eq_false (by omega)
  have LB := keep (fun (w' : World) (hb' : Below w.heap.size w w') => (show Bs (· < w'.heap.size) w' (.slice (some ⟨g, o, none⟩) k c) (b.take k) from
    ⟨_, c, by rw [List.length_take, Nat.min_eq_left hkb], by rw [List.length_take]; omega, .inr ⟨g, o, rfl, Nat.lt_of_lt_of_le hg hb'.size, fun j y hy => by
      rw [List.getElem?_take] at hy
      split at hy
      · exact (World.cell?_of_block (hb'.block g hg)).trans (hl j y hy)
      · cases hy⟩⟩))
  clear hm hv ht h3 hd hbx hf1 hf2 hver hcn hne hbl hl hg hbt hke h33
  generalize b.length = n at *
  have hkn : ¬ n < k := by omega
  clear hlen hcc hk hkb
  have k3' : ¬ (k : Int) < 3 := by simpa using k3
  have k4 : (3 : Int) ≤ (k : Int) := by omega
  have kn : decide (n < k) = false := decide_eq_false hkn
  go_enter Tryd.func7, Tryd.ntmps7
  go_wp2_with fail
  refine WK.out.mono ?_
  rintro e w1 ⟨rfl, b1⟩
  have B1 := keep b1
  clear b1
  go_wp2_with fail
  refine (DE.out _ B1.out).mono ?_
  rintro e w2 ⟨⟨cs, rfl, t2⟩, b2⟩
  obtain ⟨q0, q1, q2, q3, q4, q5, rfl, _⟩ := t2.six
  obtain ⟨w3, hw3⟩ : ∃ x, x = w2.alloc (.cells #[.int .i64 q0, .string q1, .int .i64 q2, .slice q3 q4 q5] 25) := ⟨_, rfl⟩
  have b3 : Below w2.heap.size w2 w3 := hw3 ▸ (Below.refl _ _).alloc (Nat.le_refl _) _
  have B3 := keep ((B1.out.trans (b2.mono B1.out.size)).trans (b3.mono (Nat.le_trans B1.out.size b2.size)))
  have XQ := keep (show Box w3 w2.heap.size _ _ _ _ from hw3 ▸ Box.new w2 _ _ _ _)
  obtain ⟨d0, d1, d2, d3⟩ := XQ.out.cells
  have hq3 := hw3.symm
  have t3 : Tel (· < w3.heap.size) w3 9 [.int .i64 q0, .string q1, .int .i64 q2, .slice q3 q4 q5] t :=
    Tel.mono (fun b h => Nat.lt_of_lt_of_le h.2 b3.size) (fun b h => b3.block b h.2) _ _ _ t2
  have EN3 := keep (EN.out w3 _ t3 (tab_below TB.out B3.out (tab_lt TB.out)))
  clear hw3 b2 b3 t2 t3 EN DE
  go_wp2_with fail
  refine EN3.out.mono ?_
  rintro e w4 ⟨⟨ao4, m4, c4, rfl, nb4⟩, b4⟩
  have B4 := keep (B3.out.trans (b4.mono B3.out.size))
  have SA := keep (same_any _ _ _ _ w4 (Kb.bs nb4.1) (LB.out w4 B4.out) (by rw [← HBT.out, List.length_take]; have := HM.out; omega))
  clear b4 nb4 EN3
  go_wp2_with fail
  refine SA.out.mono ?_
  rintro e w5 ⟨⟨u, rfl, hu⟩, b5⟩
  obtain rfl : u = true := hu.2 HBT.out.symm
  have B5 := keep (B4.out.trans (b5.mono B4.out.size))
  clear b5 hu
  go_wp2
  go_ret
  exact ⟨rfl, B5.out⟩
theorem form_walk (v : Value) (b : List UInt8) (w : World) (hb : Bs (· < w.heap.size) w v b) (hm : b.length ≤ 1048576) (hv : Vars w) (ht : Tab w) (h3 : 3 ≤ w.heap.size) :
    Calls Tryd.prog 7 #[v] w fun e w' => e = .returned (.bool true) ∧ Below w.heap.size w w' := by
  match hd : Rp.dec 8 b with
  | .error c => exact form_bad v b c w hb hm hv ht h3 hd
  | .ok (t, x) => exact form_good v b x t w hb hm hv ht h3 hd
end Go.Proofs.YtoalnfkjpdgbiaaDoor
