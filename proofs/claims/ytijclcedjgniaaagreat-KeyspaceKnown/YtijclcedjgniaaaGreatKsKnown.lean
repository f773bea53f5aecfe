/-
  The statement's own walk: the chapter's examples, and no space.
-/
import Derived.Test.YtijclcedjgniaaaGreatKsKn0
namespace Go.Proofs.YtijclcedjgniaaaGreat
open Go.RowKit Go.Shelf
set_option linter.unusedVariables false
set_option maxRecDepth 100000
namespace Ks
open Vl
def kL : ByteArray := { data := #[108] }
def kM : ByteArray := { data := #[109] }
def kT : ByteArray := { data := #[116] }
def kV : ByteArray := { data := #[118] }
def kW : ByteArray := { data := #[119] }
def kX : ByteArray := { data := #[120] }
theorem asc_two {a k : ByteArray} {x y : En} (h : k ≠ a) : asc [(a, x), (k, y)] k = some y := (if_neg h).trans (if_pos rfl)
theorem asc_not {a k : ByteArray} {x : En} (h : k ≠ a) : asc [(a, x)] k = none := if_neg h
theorem pas0 {x : En} (h : x.dl = 0) (now : Int) : pas now x = false := by unfold pas mor; rw [h]; rfl
theorem ins_new {T : List ByteArray} {k : ByteArray} (h : T.any (fun x => decide (x = k)) = false) : insT T k = T ++ [k] := by unfold insT; rw [h]; rfl
set_option maxHeartbeats 16000000 in
theorem known_walk (W : World) : Calls Tryz.prog 6 #[] W fun e w' => e = .returned (.bool true) ∧ Below W.heap.size W w' := by
  go_enter Tryz.func6, Tryz.ntmps6
  go_wp2_with fail
  refine (wakes_any W).mono ?_
  rintro _ w1 ⟨rfl, hb1⟩
  have HB1 := keep hb1
  clear hb1
  go_wp2_with fail
  refine (kn_new _).mono ?_
  rintro _ w2 ⟨b, rfl, h2⟩
  have H2 := keep h2
  clear h2
  go_wp2_with fail
  refine (text_any _ _).mono ?_
  rintro _ w3 ⟨rfl, hv, hb⟩
  have h3 := H2.out.keep hb (viT w2.heap.size kV).own (fun k hk => by
    have hk' : k = w2.heap.size := hk
    have := (Array.getElem?_eq_some_iff.1 hv).1
    omega)
  have hvs : Vs w3 (viT w2.heap.size kV) := vs_text hv (by decide)
  have hgw : w1.heap.size ≤ w2.heap.size := H2.out.below.size
  have M := keep (kn_put (P' := fun _ => False) h3 kK (by decide) (viT w2.heap.size kV) hvs (fun k hk => ⟨hk, by have hk' : k = w2.heap.size := hk; omega⟩) (fun _ h => h.elim) (show kV.size ≤ 1048576 by decide) rfl rfl (by decide) 50 (by show wrap64 (0 + wrap64 (wrap64 (wrap64 (48 + 1) + 1) - 0)) = 50; rw [wr (48 + 1) (by decide), wr (48 + 1 + 1) (by decide), wr (48 + 1 + 1 - 0) (by decide), wr _ (by decide)]; rfl) (by decide))
  clear hb hv h3 hvs hgw
  go_wp2_with fail
  refine M.out.mono ?_
  rintro _ w4 ⟨rfl, e1, h⟩
  rw [show rc kK (viT w2.heap.size kV).cost = 50 from (by show wrap64 (wrap64 (48 + 1) + 1) = 50; rw [wr (48 + 1) (by decide), wr _ (by decide)]; rfl), show ((0 + 1) % 18446744073709551616 : Nat) = 1 from rfl, show insT [] kK = [kK] from rfl] at h
  obtain ⟨X1, hX1⟩ : ∃ X : En, X = newE e1 (viT w2.heap.size kV) 1 50 := ⟨_, rfl⟩
  rw [← hX1] at h
  have S1 : Kept (X1.stamp = 1) := by rw [hX1]; rfl
  have D1 : Kept (X1.dl = 0) := by rw [hX1]; rfl
  have C1 : Kept (X1.cost = 50) := by rw [hX1]; rfl
  have H4 := keep h.drop
  clear M h hX1
  go_wp2_with fail
  refine (text_any _ _).mono ?_
  rintro _ w5 ⟨rfl, hv, hb⟩
  have h3 := H4.out.keep hb (viT w4.heap.size kW).own (fun k hk => by
    have hk' : k = w4.heap.size := hk
    have := (Array.getElem?_eq_some_iff.1 hv).1
    omega)
  have hvs : Vs w5 (viT w4.heap.size kW) := vs_text hv (by decide)
  have hgw : w1.heap.size ≤ w4.heap.size := H4.out.below.size
  have M := keep (kn_put (P' := fun _ => False) h3 kL (by decide) (viT w4.heap.size kW) hvs (fun k hk => ⟨hk, by have hk' : k = w4.heap.size := hk; omega⟩) (fun _ h => h.elim) (show kW.size ≤ 1048576 by decide) rfl (asc_not (by decide)) (by decide) 100 (by show wrap64 (50 + wrap64 (wrap64 (wrap64 (48 + 1) + 1) - 0)) = 100; rw [wr (48 + 1) (by decide), wr (48 + 1 + 1) (by decide), wr (48 + 1 + 1 - 0) (by decide), wr _ (by decide)]; rfl) (by decide))
  clear hb hv h3 hvs hgw
  go_wp2_with fail
  refine M.out.mono ?_
  rintro _ w6 ⟨rfl, e2, h⟩
  rw [show rc kL (viT w4.heap.size kW).cost = 50 from (by show wrap64 (wrap64 (48 + 1) + 1) = 50; rw [wr (48 + 1) (by decide), wr _ (by decide)]; rfl), show ((1 + 1) % 18446744073709551616 : Nat) = 2 from rfl, show insT [kK] kL = [kK, kL] from rfl] at h
  obtain ⟨X2, hX2⟩ : ∃ X : En, X = newE e2 (viT w4.heap.size kW) 2 50 := ⟨_, rfl⟩
  rw [← hX2] at h
  have S2 : Kept (X2.stamp = 2) := by rw [hX2]; rfl
  have D2 : Kept (X2.dl = 0) := by rw [hX2]; rfl
  have C2 : Kept (X2.cost = 50) := by rw [hX2]; rfl
  have H6 := keep h.drop
  clear M h hX2
  have M := keep (kn_stamp H6.out kK (by decide) X1 (asc_two (by decide)) (pas0 D1.out _) (by decide))
  go_wp2_with fail
  refine M.out.mono ?_
  rintro _ w7 ⟨rfl, h⟩
  rw [S1.out]
  have H7 := keep h
  clear M h
  have M := keep (kn_stamp H7.out kL (by decide) X2 (asc_at _ _ _) (pas0 D2.out _) (by decide))
  go_wp2_with fail
  refine M.out.mono ?_
  rintro _ w8 ⟨rfl, h⟩
  rw [S2.out]
  have H8 := keep h
  clear M h
  have M := keep (kn_get kK (by decide) X1 _ (H8.out.swap (show kL ≠ kK by decide)) (pas0 D1.out _) (by decide))
  go_wp2_with fail
  refine M.out.mono ?_
  rintro _ w9 ⟨rfl, h⟩
  rw [show ((2 + 1) % 18446744073709551616 : Nat) = 3 from rfl] at h
  obtain ⟨Y1, hY1⟩ : ∃ X : En, X = { X1 with stamp := 3 } := ⟨_, rfl⟩
  rw [← hY1] at h
  have SY : Kept (Y1.stamp = 3) := by rw [hY1]; rfl
  have DY : Kept (Y1.dl = 0) := by rw [hY1]; exact D1.out
  have CY : Kept (Y1.cost = 50) := by rw [hY1]; exact C1.out
  clear hY1
  have H9 := keep h
  clear M h
  have M := keep (kn_look H9.out kL (by decide) X2 (asc_two (by decide)) (pas0 D2.out _) (by decide))
  go_wp2_with fail
  refine M.out.mono ?_
  rintro _ w10 ⟨rfl, h⟩
  have H10 := keep h
  clear M h
  have M := keep (kn_stamp H10.out kK (by decide) Y1 (asc_at _ _ _) (pas0 DY.out _) (by decide))
  go_wp2_with fail
  refine M.out.mono ?_
  rintro _ w11 ⟨rfl, h⟩
  rw [SY.out]
  have H11 := keep h
  clear M h
  have M := keep (kn_stamp H11.out kL (by decide) X2 (asc_two (by decide)) (pas0 D2.out _) (by decide))
  go_wp2_with fail
  refine M.out.mono ?_
  rintro _ w12 ⟨rfl, h⟩
  rw [S2.out]
  have H12 := keep h
  clear M h
  have M := keep (kn_tick H12.out 5 (by decide) (by decide) 5 (.inl ⟨by decide, rfl⟩))
  go_wp2_with fail
  refine M.out.mono ?_
  rintro _ w13 ⟨rfl, h⟩
  have H13 := keep h
  clear M h
  have M := keep (kn_touched H13.out (by decide) (by decide))
  go_wp2_with fail
  refine M.out.mono ?_
  rintro _ w14 ⟨⟨v, rfl, _⟩, h⟩
  have H14 := keep h
  clear M h
  have M := keep (kn_setdl_drop kK (by decide) Y1 _ H14.out (pas0 DY.out _) (by decide) (by decide) (asc_not (by decide)) 50 (by rw [CY.out, wr (0 - 50) (by decide)]; exact wr _ (by decide)) 5 (by decide) (by decide))
  go_wp2_with fail
  refine M.out.mono ?_
  rintro _ w15 ⟨rfl, h⟩
  rw [show insT [] kK = [kK] from rfl] at h
  have H15 := keep h
  clear M h
  have M := keep (kn_len H15.out (by decide) (fun key x hx => by
      unfold asc asc at hx
      split at hx
      · cases hx; exact pas0 D2.out _
      · cases hx))
  go_wp2_with fail
  refine M.out.mono ?_
  rintro _ w16 ⟨rfl, h⟩
  have H16 := keep h
  clear M h
  have M := keep (kn_steps H16.out)
  go_wp2_with fail
  refine M.out.mono ?_
  rintro _ w17 ⟨⟨v, rfl, hv⟩, h⟩
  obtain ⟨ao, ca, rfl⟩ := own_sl hv
  rw [show ([] : List (Int × ByteArray)).length = 0 from rfl]
  have H17 := keep h
  clear M h hv
  have M := keep (kn_touched H17.out (by decide) (by decide))
  go_wp2_with fail
  refine M.out.mono ?_
  rintro _ w18 ⟨⟨v2, rfl, hv2⟩, h⟩
  rw [srt_one] at hv2
  have hb : Below w18.heap.size w18 (w18.alloc (.cells #[.string kK] 9)) := (Below.refl _ _).alloc (Nat.le_refl _) _
  have H18 := keep (h.bel hb)
  have M2 := keep (texts_any _ v2 (.slice (some ⟨w18.heap.size, 0, none⟩) 1 1) [kK] (Vl.kept hv2 hb) (row_one w18 kK))
  clear M h hv2 hb
  go_wp2_with fail
  refine M2.out.mono ?_
  rintro _ w19 ⟨rfl, hb⟩
  have H19 := keep (H18.out.bel hb)
  clear M2 hb
  have M := keep (kn_setdl_none H19.out kK (by decide) (asc_not (by decide)) (by decide) 9)
  go_wp2_with fail
  refine M.out.mono ?_
  rintro _ w20 ⟨rfl, h⟩
  have H20 := keep h
  clear M h
  have M := keep (kn_setdl_above H20.out kL (by decide) X2 (asc_at _ _ _) (pas0 D2.out _) (by decide) 9007199254740993 (by decide))
  go_wp2_with fail
  refine M.out.mono ?_
  rintro _ w21 ⟨rfl, h⟩
  have H21 := keep h
  clear M h
  have M := keep (kn_setdl_set kL (by decide) X2 [] H21.out D2.out (pas0 D2.out _) (by decide) (by decide) 9007199254740992 (by decide) (by decide) (by decide) 66 66 (by rw [C2.out]; exact wr _ (by decide)) (by rw [C2.out, wr (66 - 50) (by decide)]; exact wr _ (by decide)))
  go_wp2_with fail
  refine M.out.mono ?_
  rintro _ w22 ⟨rfl, h⟩
  rw [show insT [] kL = [kL] from rfl] at h
  obtain ⟨X3, hX3⟩ : ∃ X : En, X = { X2 with cost := 66, dl := 9007199254740992 } := ⟨_, rfl⟩
  rw [← hX3] at h
  have D3 : Kept (X3.dl = 9007199254740992) := by rw [hX3]; rfl
  have C3 : Kept (X3.cost = 66) := by rw [hX3]; rfl
  clear hX3
  have H22 := keep h
  clear M h
  have M := keep (of_list w22 (plV (dL []) (.slice none 0 0) (.slice none 0 0) (.slice none 0 0)) (dL []) 0 ⟨_, _, _, rfl, nil_row _ _ _ _, nil_row _ _ _ _, nil_row _ _ _ _⟩ (dL_wf (fun x hx => by cases hx)) (by decide) (dL_ok (fun x hx => by cases hx) (by decide)) rfl)
  go_wp2_with fail
  refine M.out.mono ?_
  rintro _ w23 ⟨⟨b1, rfl, hv1⟩, hb⟩
  have V1 := keep hv1
  have HBA := keep hb
  clear M hv1 hb
  have hb : Below w23.heap.size w23 (w23.alloc (.cells #[.string kX] 9)) := (Below.refl _ _).alloc (Nat.le_refl _) _
  have M := keep (of_list (w23.alloc (.cells #[.string kX] 9)) (plV (dL [kX]) (.slice (some ⟨w23.heap.size, 0, none⟩) 1 1) (.slice none 0 0) (.slice none 0 0)) (dL [kX]) 0 ⟨_, _, _, rfl, row_one w23 kX, nil_row _ _ _ _, nil_row _ _ _ _⟩ (dL_wf (fun x hx => by simp at hx; rw [hx]; decide)) (by decide) (dL_ok (fun x hx => by simp at hx; rw [hx]; decide) (by decide)) rfl)
  have HBB := keep hb
  clear hb
  go_wp2_with fail
  refine M.out.mono ?_
  rintro _ w24 ⟨⟨b2, rfl, hv2⟩, hb⟩
  have hbc : Below w23.heap.size w23 w24 := HBB.out.trans (hb.mono HBB.out.size)
  obtain ⟨o1, cs1, q1, q2, q3, q4⟩ := va_vi V1.out
  obtain ⟨o2, cs2, p1, p2, p3, p4⟩ := va_vi hv2
  have hz24 : w23.heap.size + 1 = (w23.alloc (.cells #[.string kX] 9)).heap.size := by simp
  have hz22 := HBA.out.size
  have hzc := hbc.size
  have h := H22.out.drop.keep (w2 := w24) (HBA.out.trans (hbc.mono HBA.out.size)) (fun k => (viL b1 o1 cs1).own k ∨ (viL b2 o2 cs2).own k) (fun k hk => by
    rcases hk with hk | hk
    · have := q4 k hk; omega
    · have := p4 k hk; omega)
  have u1 : Vs w24 (viL b1 o1 cs1) := (vs_list q1 q2).bel hbc
  have u2 : Vs w24 (viL b2 o2 cs2) := vs_list p1 p2
  have hg22 : w1.heap.size ≤ w22.heap.size := H22.out.below.size
  have em1 : (viL b1 o1 cs1).emp = true := (by show ((((DQ.row cs1).length : Nat) : Int) == 0) = true; rw [q3]; rfl)
  have M2 := keep (kn_put_gone (P' := (viL b2 o2 cs2).own) kL (by decide) X3 [] h (by unfold pas mor; rw [D3.out]; rfl) (by decide) (by decide) rfl 0 (by rw [C3.out, wr (0 - 66) (by decide)]; exact wr _ (by decide)) (viL b1 o1 cs1) u1 (fun k hk => ⟨.inl hk, by have := q4 k hk; omega⟩) (fun k hk => ⟨.inr hk, fun e => by have := q4 k e; have := p4 k hk; omega⟩) (show ByteArray.empty.size ≤ 1048576 by decide) em1)
  have P3 := keep p3
  have P4 := keep p4
  have U2 := keep u2
  clear M hv2 hb hbc q1 q2 q3 q4 p1 p2 p3 p4 h u1 u2 em1 hz24 hzc
  go_wp2_with fail
  refine M2.out.mono ?_
  rintro _ w25 ⟨rfl, h⟩
  rw [show insT [kL] kL = [kL] from by unfold insT; simp] at h
  have H25 := keep h
  clear M2 h
  have M := keep (kn_len H25.out (by decide) (fun key x hx => by cases hx))
  go_wp2_with fail
  refine M.out.mono ?_
  rintro _ w26 ⟨rfl, h⟩
  have H26 := keep h
  clear M h
  have em2 : (viL b2 o2 cs2).emp = false := (by show ((((DQ.row cs2).length : Nat) : Int) == 0) = false; rw [P3.out]; rfl)
  have co2 : (viL b2 o2 cs2).cost = 17 := (by show ((DQ.costL (DQ.row cs2) : Nat) : Int) = 17; rw [P3.out]; rfl)
  have M := keep (kn_put (P' := fun _ => False) H26.out kM (by decide) (viL b2 o2 cs2) U2.out (fun k hk => ⟨hk, by have h1 := (P4.out k hk).1; rw [World.size_alloc] at h1; omega⟩) (fun _ h => h.elim) (show ByteArray.empty.size ≤ 1048576 by decide) em2 rfl (by decide) 66 (by rw [co2]; show wrap64 (0 + wrap64 (wrap64 (wrap64 (48 + 1) + 17) - 0)) = 66; rw [wr (48 + 1) (by decide), wr (48 + 1 + 17) (by decide), wr (48 + 1 + 17 - 0) (by decide), wr _ (by decide)]; rfl) (by decide))
  clear em2 hz22 hg22
  go_wp2_with fail
  refine M.out.mono ?_
  rintro _ w27 ⟨rfl, e3, h⟩
  rw [show rc kM (viL b2 o2 cs2).cost = 66 from (by rw [co2]; show wrap64 (wrap64 (48 + 1) + 17) = 66; rw [wr (48 + 1) (by decide), wr _ (by decide)]; rfl), show insT [kL] kM = [kL, kM] from rfl] at h
  obtain ⟨X4, hX4⟩ : ∃ X : En, X = newE e3 (viL b2 o2 cs2) ((3 + 1) % 18446744073709551616) 66 := ⟨_, rfl⟩
  rw [← hX4] at h
  have V4 : Kept (X4.v = viL b2 o2 cs2) := by rw [hX4]; rfl
  have D4 : Kept (X4.dl = 0) := by rw [hX4]; rfl
  have C4 : Kept (X4.cost = 66) := by rw [hX4]; rfl
  have H27 := keep h.drop
  clear M h hX4 co2
  have M := keep (kn_look H27.out kM (by decide) X4 (asc_at _ _ _) (pas0 D4.out _) (by decide))
  go_wp2_with fail
  refine M.out.mono ?_
  rintro _ w28 ⟨rfl, h⟩
  rw [show X4.v.blk = b2 from by rw [V4.out]; rfl]
  have H28 := keep h
  clear M h
  have hm := (H28.out.has (asc_at _ _ _)).2.2 w28 (Nat.le_refl _) (fun _ _ => rfl)
  rw [V4.out] at hm
  obtain ⟨y1, y2⟩ := hm.2.2.2
  have M := keep (aslist_list y1)
  have Y2 := keep y2
  have Y1' := keep y1
  clear hm y1 y2
  go_wp2_with fail
  refine M.out.mono ?_
  rintro _ w29 ⟨rfl, hb⟩
  have y2 := Y2.out.below hb
  have M2 := keep (DQ.pop_in w29 o2 cs2 true 0 y2 kX rfl (by rw [P3.out]; rfl))
  have H29 := keep (H28.out.bel hb)
  have HO := keep (not_owd (Y1'.out.bel hb) y2)
  clear M hb y2
  go_wp2_with fail
  refine M2.out.mono ?_
  rintro _ w30 ⟨rfl, cs3, hrem, hd3, hf3⟩
  have h := kn_value kM X4 [] H29.out b2 o2 cs2 cs3 V4.out hd3 hf3 HO.out (fun k hk => hk)
  have hr3 : DQ.row cs3 = [] := (by rw [hrem.rows, P3.out]; rfl)
  obtain ⟨X5, hX5⟩ : ∃ X : En, X = { X4 with v := viL b2 o2 cs3 } := ⟨_, rfl⟩
  rw [← hX5] at h
  have E5 : Kept (X5.v.emp = true) := by rw [hX5]; show ((((DQ.row cs3).length : Nat) : Int) == 0) = true; rw [hr3]; rfl
  have D5 : Kept (X5.dl = 0) := by rw [hX5]; exact D4.out
  have C5 : Kept (X5.cost = 66) := by rw [hX5]; exact C4.out
  have H30 := keep h
  clear M2 h hX5 hr3 hrem hd3 hf3
  go_wp2_with fail
  have H31 := keep (H30.out.bel (Below.refl _ _).drew)
  have M := keep (kn_changed_gone kM (by decide) X5 [] H31.out (pas0 D5.out _) (by decide) (by decide) rfl 0 (by rw [C5.out, wr (0 - 66) (by decide)]; exact wr _ (by decide)) E5.out)
  refine wp_region_held_drew (S := fun _ => True) (by kernel_rfl) trivial (fun hHeld => ?_)
  refine wpAnyH_take (i := 0) (oi := { dst := some 153, op := _, type := _, pos := _, after := _, guard := _ }) (v := (pb b)) rfl (by kernel_rfl) (by kernel_rfl) (by kernel_rfl) (fun _ _ _ h => h) (Or.inl ⟨by rfl, ?hy1⟩) (by assumption) ?rest1
  case hy1 => (intro w hSw; first | (go_simp; done) | (go_simp; simp [*]; done) | (simp [*]; go_simp; done))
  try simp only [Act.put, List.setIfInBounds_toArray, List.set_cons_zero, List.set_cons_succ]
  refine wpAnyH_ready (rs := [1]) (by kernel_rfl) (by simp) ?_
  refine AllReadyH.cons (o := { dst := some 154, op := _, type := _, pos := _, after := _, guard := _ }) rfl (fun K hK => ?_) AllReadyH.nil
  go_simp
  refine M.out.mono ?_
  rintro _ w31 ⟨rfl, h⟩
  have H32 := keep h
  clear M h
  refine hK.out _ _ trivial (fun hHeld => ?_)
  try simp only [Act.put, List.setIfInBounds_toArray, List.set_cons_zero, List.set_cons_succ]
  clear hK
  refine wpAnyH_take (i := 2) (oi := { dst := some 155, op := _, type := _, pos := _, after := _, guard := _ }) (v := (.bool false)) rfl (by kernel_rfl) (by kernel_rfl) (by kernel_rfl) (fun _ _ _ h => h) (Or.inl ⟨by rfl, ?hy2⟩) (by assumption) ?rest2
  case hy2 => (intro w hSw; first | (go_simp; done) | (go_simp; simp [*]; done) | (simp [*]; go_simp; done))
  try simp only [Act.put, List.setIfInBounds_toArray, List.set_cons_zero, List.set_cons_succ]
  refine wpAnyH_take (i := 3) (oi := { dst := some 156, op := _, type := _, pos := _, after := _, guard := _ }) (v := (.bool false)) rfl (by kernel_rfl) (by kernel_rfl) (by kernel_rfl) (fun _ _ _ h => h) (Or.inl ⟨by rfl, ?hy3⟩) (by assumption) ?rest3
  case hy3 => (intro w hSw; first | (go_simp; done) | (go_simp; simp [*]; done) | (simp [*]; go_simp; done))
  try simp only [Act.put, List.setIfInBounds_toArray, List.set_cons_zero, List.set_cons_succ]
  refine wpAnyH_take (i := 4) (oi := { dst := some 157, op := _, type := _, pos := _, after := _, guard := _ }) (v := (pb b)) rfl (by kernel_rfl) (by kernel_rfl) (by kernel_rfl) (fun _ _ _ h => h) (Or.inl ⟨by rfl, ?hy4⟩) (by assumption) ?rest4
  case hy4 => (intro w hSw; first | (go_simp; done) | (go_simp; simp [*]; done) | (simp [*]; go_simp; done))
  try simp only [Act.put, List.setIfInBounds_toArray, List.set_cons_zero, List.set_cons_succ]
  have M := keep (kn_len H32.out (by decide) (fun key x hx => by cases hx))
  refine wpAnyH_ready (rs := [5]) (by kernel_rfl) (by simp) ?_
  refine AllReadyH.cons (o := { dst := some 158, op := _, type := _, pos := _, after := _, guard := _ }) rfl (fun K hK => ?_) AllReadyH.nil
  go_simp
  refine M.out.mono ?_
  rintro _ w32 ⟨rfl, h⟩
  have H33 := keep h
  clear h
  clear M
  refine hK.out _ _ trivial (fun hHeld => ?_)
  try simp only [Act.put, List.setIfInBounds_toArray, List.set_cons_zero, List.set_cons_succ]
  clear hK
  refine wpAnyH_take (i := 6) (oi := { dst := some 159, op := _, type := _, pos := _, after := _, guard := _ }) (v := (.bool false)) rfl (by kernel_rfl) (by kernel_rfl) (by kernel_rfl) (fun _ _ _ h => h) (Or.inl ⟨by rfl, ?hy5⟩) (by assumption) ?rest5
  case hy5 => (intro w hSw; first | (go_simp; done) | (go_simp; simp [*]; done) | (simp [*]; go_simp; done))
  try simp only [Act.put, List.setIfInBounds_toArray, List.set_cons_zero, List.set_cons_succ]
  refine wpAnyH_take (i := 7) (oi := { dst := some 160, op := _, type := _, pos := _, after := _, guard := _ }) (v := (.bool false)) rfl (by kernel_rfl) (by kernel_rfl) (by kernel_rfl) (fun _ _ _ h => h) (Or.inl ⟨by rfl, ?hy6⟩) (by assumption) ?rest6
  case hy6 => (intro w hSw; first | (go_simp; done) | (go_simp; simp [*]; done) | (simp [*]; go_simp; done))
  try simp only [Act.put, List.setIfInBounds_toArray, List.set_cons_zero, List.set_cons_succ]
  refine wpAnyH_take (i := 8) (oi := { dst := some 161, op := _, type := _, pos := _, after := _, guard := _ }) (v := (.bool false)) rfl (by kernel_rfl) (by kernel_rfl) (by kernel_rfl) (fun _ _ _ h => h) (Or.inl ⟨by rfl, ?hy7⟩) (by assumption) ?rest7
  case hy7 => (intro w hSw; first | (go_simp; done) | (go_simp; simp [*]; done) | (simp [*]; go_simp; done))
  try simp only [Act.put, List.setIfInBounds_toArray, List.set_cons_zero, List.set_cons_succ]
  refine wpAnyH_take (i := 9) (oi := { dst := some 162, op := _, type := _, pos := _, after := _, guard := _ }) (v := (pb b)) rfl (by kernel_rfl) (by kernel_rfl) (by kernel_rfl) (fun _ _ _ h => h) (Or.inl ⟨by rfl, ?hy8⟩) (by assumption) ?rest8
  case hy8 => (intro w hSw; first | (go_simp; done) | (go_simp; simp [*]; done) | (simp [*]; go_simp; done))
  try simp only [Act.put, List.setIfInBounds_toArray, List.set_cons_zero, List.set_cons_succ]
  have M := keep (kn_changed_none H33.out kM (by decide) rfl (by decide))
  refine wpAnyH_ready (rs := [10]) (by kernel_rfl) (by simp) ?_
  refine AllReadyH.cons (o := { dst := some 163, op := _, type := _, pos := _, after := _, guard := _ }) rfl (fun K hK => ?_) AllReadyH.nil
  go_simp
  refine M.out.mono ?_
  rintro _ w33 ⟨rfl, h⟩
  have H34 := keep h
  clear h
  clear M
  refine hK.out _ _ trivial (fun hHeld => ?_)
  try simp only [Act.put, List.setIfInBounds_toArray, List.set_cons_zero, List.set_cons_succ]
  clear hK
  refine wpAnyH_take (i := 11) (oi := { dst := some 164, op := _, type := _, pos := _, after := _, guard := _ }) (v := (.bool false)) rfl (by kernel_rfl) (by kernel_rfl) (by kernel_rfl) (fun _ _ _ h => h) (Or.inl ⟨by rfl, ?hy9⟩) (by assumption) ?rest9
  case hy9 => (intro w hSw; first | (go_simp; done) | (go_simp; simp [*]; done) | (simp [*]; go_simp; done))
  try simp only [Act.put, List.setIfInBounds_toArray, List.set_cons_zero, List.set_cons_succ]
  refine wpAnyH_take (i := 12) (oi := { dst := some 165, op := _, type := _, pos := _, after := _, guard := _ }) (v := (.bool false)) rfl (by kernel_rfl) (by kernel_rfl) (by kernel_rfl) (fun _ _ _ h => h) (Or.inl ⟨by rfl, ?hy10⟩) (by assumption) ?rest10
  case hy10 => (intro w hSw; first | (go_simp; done) | (go_simp; simp [*]; done) | (simp [*]; go_simp; done))
  try simp only [Act.put, List.setIfInBounds_toArray, List.set_cons_zero, List.set_cons_succ]
  refine wpAnyH_take (i := 13) (oi := { dst := some 166, op := _, type := _, pos := _, after := _, guard := _ }) (v := (pb b)) rfl (by kernel_rfl) (by kernel_rfl) (by kernel_rfl) (fun _ _ _ h => h) (Or.inl ⟨by rfl, ?hy11⟩) (by assumption) ?rest11
  case hy11 => (intro w hSw; first | (go_simp; done) | (go_simp; simp [*]; done) | (simp [*]; go_simp; done))
  try simp only [Act.put, List.setIfInBounds_toArray, List.set_cons_zero, List.set_cons_succ]
  have M := keep (put_novalue w33 (some ⟨b, 0, none⟩) { data := #[110] } (.inr ⟨b, rfl⟩))
  refine wpAnyH_ready (rs := [14]) (by kernel_rfl) (by simp) ?_
  refine AllReadyH.cons (o := { dst := some 167, op := _, type := _, pos := _, after := _, guard := _ }) rfl (fun K hK => ?_) AllReadyH.nil
  go_simp
  refine M.out.mono ?_
  rintro _ w34 ⟨rfl, hw⟩
  obtain rfl := hw.symm
  clear hw
  clear M
  refine hK.out _ _ trivial (fun hHeld => ?_)
  try simp only [Act.put, List.setIfInBounds_toArray, List.set_cons_zero, List.set_cons_succ]
  clear hK
  refine wpAnyH_take (i := 15) (oi := { dst := some 168, op := _, type := _, pos := _, after := _, guard := _ }) (v := (.bool false)) rfl (by kernel_rfl) (by kernel_rfl) (by kernel_rfl) (fun _ _ _ h => h) (Or.inl ⟨by rfl, ?hy12⟩) (by assumption) ?rest12
  case hy12 => (intro w hSw; first | (go_simp; done) | (go_simp; simp [*]; done) | (simp [*]; go_simp; done))
  try simp only [Act.put, List.setIfInBounds_toArray, List.set_cons_zero, List.set_cons_succ]
  refine wpAnyH_take (i := 16) (oi := { dst := some 169, op := _, type := _, pos := _, after := _, guard := _ }) (v := (.bool false)) rfl (by kernel_rfl) (by kernel_rfl) (by kernel_rfl) (fun _ _ _ h => h) (Or.inl ⟨by rfl, ?hy13⟩) (by assumption) ?rest13
  case hy13 => (intro w hSw; first | (go_simp; done) | (go_simp; simp [*]; done) | (simp [*]; go_simp; done))
  try simp only [Act.put, List.setIfInBounds_toArray, List.set_cons_zero, List.set_cons_succ]
  refine wpAnyH_take (i := 17) (oi := { dst := some 170, op := _, type := _, pos := _, after := _, guard := _ }) (v := (.bool false)) rfl (by kernel_rfl) (by kernel_rfl) (by kernel_rfl) (fun _ _ _ h => h) (Or.inl ⟨by rfl, ?hy14⟩) (by assumption) ?rest14
  case hy14 => (intro w hSw; first | (go_simp; done) | (go_simp; simp [*]; done) | (simp [*]; go_simp; done))
  try simp only [Act.put, List.setIfInBounds_toArray, List.set_cons_zero, List.set_cons_succ]
  refine wpAnyH_take (i := 18) (oi := { dst := some 171, op := _, type := _, pos := _, after := _, guard := _ }) (v := (pb b)) rfl (by kernel_rfl) (by kernel_rfl) (by kernel_rfl) (fun _ _ _ h => h) (Or.inl ⟨by rfl, ?hy15⟩) (by assumption) ?rest15
  case hy15 => (intro w hSw; first | (go_simp; done) | (go_simp; simp [*]; done) | (simp [*]; go_simp; done))
  try simp only [Act.put, List.setIfInBounds_toArray, List.set_cons_zero, List.set_cons_succ]
  refine wpAnyH_ready (rs := [19, 21]) (by kernel_rfl) (by simp) ?_
  refine AllReadyH.cons (o := { dst := some 172, op := _, type := _, pos := _, after := _, guard := _ }) rfl (fun K hK => ?_) (AllReadyH.cons (o := { dst := some 174, op := _, type := _, pos := _, after := _, guard := _ }) rfl (fun K hK => ?_) AllReadyH.nil)
  · obtain ⟨w35, z, r1, r2, r3, r4⟩ := zeros_text w33 1048577 (by decide)
    have r1 : (Instr.makeSlice 84 (.int .i64 1048577) (.int .i64 1048577)).run Tryz.prog w33 = .ok (.slice (some ⟨w33.heap.size, 0, none⟩) 1048577 1048577) w35 := r1
    have H35 := keep (H34.out.bel r4)
    have R2 := keep r2
    have R3 := keep r3
    have R4 := keep r4
    clear r2 r3 r4
    go_simp
    refine hK.out _ _ trivial (fun hHeld => ?_)
    try simp only [Act.put, List.setIfInBounds_toArray, List.set_cons_zero, List.set_cons_succ]
    clear hK
    clear r1
    refine wpAnyH_ready (rs := [20, 21]) (by kernel_rfl) (by simp) ?_
    refine AllReadyH.cons (o := { dst := some 173, op := _, type := _, pos := _, after := _, guard := _ }) rfl (fun K hK => ?_) (AllReadyH.cons (o := { dst := some 174, op := _, type := _, pos := _, after := _, guard := _ }) rfl (fun K hK => ?_) AllReadyH.nil)
    · have cv := R2.out w35 (Below.refl _ _)
      go_simp
      refine hK.out _ _ trivial (fun hHeld => ?_)
      try simp only [Act.put, List.setIfInBounds_toArray, List.set_cons_zero, List.set_cons_succ]
      clear hK
      clear cv
      refine wpAnyH_ready (rs := [21]) (by kernel_rfl) (by simp) ?_
      refine AllReadyH.cons (o := { dst := some 174, op := _, type := _, pos := _, after := _, guard := _ }) rfl (fun K hK => ?_) AllReadyH.nil
      go_simp
      refine (text_any _ _).mono ?_
      rintro _ w36 ⟨rfl, hv, hb⟩
      have H36 := keep (H35.out.bel hb)
      have VE : Kept (Vs w36 (viT w35.heap.size .empty)) := vs_text hv (by decide)
      have BT := keep hb
      clear hv hb
      refine hK.out _ _ trivial (fun hHeld => ?_)
      try simp only [Act.put, List.setIfInBounds_toArray, List.set_cons_zero, List.set_cons_succ]
      clear hK
      have M := keep (put_long (b := b) z (viT w35.heap.size .empty) VE.out (.inl (by rw [R3.out]; decide)))
      refine wpAnyH_ready (rs := [22]) (by kernel_rfl) (by simp) ?_
      refine AllReadyH.cons (o := { dst := some 175, op := _, type := _, pos := _, after := _, guard := _ }) rfl (fun K hK => ?_) AllReadyH.nil
      go_simp
      refine M.out.mono ?_
      rintro _ w40 ⟨rfl, hb⟩
      have H40 := keep (H36.out.bel hb)
      clear M hb
      refine hK.out _ _ trivial (fun hHeld => ?_)
      try simp only [Act.put, List.setIfInBounds_toArray, List.set_cons_zero, List.set_cons_succ]
      clear hK
      refine wpAnyH_take (i := 23) (oi := { dst := some 176, op := _, type := _, pos := _, after := _, guard := _ }) (v := (.bool false)) rfl (by kernel_rfl) (by kernel_rfl) (by kernel_rfl) (fun _ _ _ h => h) (Or.inl ⟨by rfl, ?hy16⟩) (by assumption) ?rest16
      case hy16 => (intro w hSw; first | (go_simp; done) | (go_simp; simp [*]; done) | (simp [*]; go_simp; done))
      try simp only [Act.put, List.setIfInBounds_toArray, List.set_cons_zero, List.set_cons_succ]
      refine wpAnyH_take (i := 24) (oi := { dst := some 177, op := _, type := _, pos := _, after := _, guard := _ }) (v := (.bool false)) rfl (by kernel_rfl) (by kernel_rfl) (by kernel_rfl) (fun _ _ _ h => h) (Or.inl ⟨by rfl, ?hy17⟩) (by assumption) ?rest17
      case hy17 => (intro w hSw; first | (go_simp; done) | (go_simp; simp [*]; done) | (simp [*]; go_simp; done))
      try simp only [Act.put, List.setIfInBounds_toArray, List.set_cons_zero, List.set_cons_succ]
      refine wpAnyH_take (i := 25) (oi := { dst := some 178, op := _, type := _, pos := _, after := _, guard := _ }) (v := (.bool false)) rfl (by kernel_rfl) (by kernel_rfl) (by kernel_rfl) (fun _ _ _ h => h) (Or.inl ⟨by rfl, ?hy18⟩) (by assumption) ?rest18
      case hy18 => (intro w hSw; first | (go_simp; done) | (go_simp; simp [*]; done) | (simp [*]; go_simp; done))
      try simp only [Act.put, List.setIfInBounds_toArray, List.set_cons_zero, List.set_cons_succ]
      refine wpAnyH_take (i := 26) (oi := { dst := some 179, op := _, type := _, pos := _, after := _, guard := _ }) (v := (pb b)) rfl (by kernel_rfl) (by kernel_rfl) (by kernel_rfl) (fun _ _ _ h => h) (Or.inl ⟨by rfl, ?hy19⟩) (by assumption) ?rest19
      case hy19 => (intro w hSw; first | (go_simp; done) | (go_simp; simp [*]; done) | (simp [*]; go_simp; done))
      try simp only [Act.put, List.setIfInBounds_toArray, List.set_cons_zero, List.set_cons_succ]
      refine wpAnyH_ready (rs := [27]) (by kernel_rfl) (by simp) ?_
      refine AllReadyH.cons (o := { dst := some 180, op := _, type := _, pos := _, after := _, guard := _ }) rfl (fun K hK => ?_) AllReadyH.nil
      obtain ⟨w41, z2, r1, r2, r3, r4⟩ := zeros_text w40 1048577 (by decide)
      have r1 : (Instr.makeSlice 84 (.int .i64 1048577) (.int .i64 1048577)).run Tryz.prog w40 = .ok (.slice (some ⟨w40.heap.size, 0, none⟩) 1048577 1048577) w41 := r1
      have H41 := keep (H40.out.bel r4)
      have Q2 := keep r2
      have Q3 := keep r3
      have Q4 := keep r4
      clear r2 r3 r4
      go_simp
      refine hK.out _ _ trivial (fun hHeld => ?_)
      try simp only [Act.put, List.setIfInBounds_toArray, List.set_cons_zero, List.set_cons_succ]
      clear hK
      clear r1
      refine wpAnyH_ready (rs := [28]) (by kernel_rfl) (by simp) ?_
      refine AllReadyH.cons (o := { dst := some 181, op := _, type := _, pos := _, after := _, guard := _ }) rfl (fun K hK => ?_) AllReadyH.nil
      have cv := Q2.out w41 (Below.refl _ _)
      go_simp
      refine hK.out _ _ trivial (fun hHeld => ?_)
      try simp only [Act.put, List.setIfInBounds_toArray, List.set_cons_zero, List.set_cons_succ]
      clear hK
      clear cv
      refine wpAnyH_ready (rs := [29]) (by kernel_rfl) (by simp) ?_
      refine AllReadyH.cons (o := { dst := some 182, op := _, type := _, pos := _, after := _, guard := _ }) rfl (fun K hK => ?_) AllReadyH.nil
      go_simp
      refine (text_any _ _).mono ?_
      rintro _ w42 ⟨rfl, hv, hb⟩
      have H42 := keep (H41.out.bel hb)
      have VZ : Kept (Vs w42 (viT w41.heap.size z2)) := vs_text hv (by rw [Q3.out]; decide)
      have BT := keep hb
      clear hv hb
      refine hK.out _ _ trivial (fun hHeld => ?_)
      try simp only [Act.put, List.setIfInBounds_toArray, List.set_cons_zero, List.set_cons_succ]
      clear hK
      have M := keep (put_long (b := b) kT (viT w41.heap.size z2) VZ.out (.inr (by show 1048576 < z2.size; rw [Q3.out]; decide)))
      refine wpAnyH_ready (rs := [30]) (by kernel_rfl) (by simp) ?_
      refine AllReadyH.cons (o := { dst := some 183, op := _, type := _, pos := _, after := _, guard := _ }) rfl (fun K hK => ?_) AllReadyH.nil
      go_simp
      refine M.out.mono ?_
      rintro _ w43 ⟨rfl, hb⟩
      have H43 := keep (H42.out.bel hb)
      clear M hb
      refine hK.out _ _ trivial (fun hHeld => ?_)
      try simp only [Act.put, List.setIfInBounds_toArray, List.set_cons_zero, List.set_cons_succ]
      clear hK
      refine wpAnyH_take (i := 31) (oi := { dst := some 184, op := _, type := _, pos := _, after := _, guard := _ }) (v := (.bool false)) rfl (by kernel_rfl) (by kernel_rfl) (by kernel_rfl) (fun _ _ _ h => h) (Or.inl ⟨by rfl, ?hy20⟩) (by assumption) ?rest20
      case hy20 => (intro w hSw; first | (go_simp; done) | (go_simp; simp [*]; done) | (simp [*]; go_simp; done))
      try simp only [Act.put, List.setIfInBounds_toArray, List.set_cons_zero, List.set_cons_succ]
      refine wpAnyH_take (i := 32) (oi := { dst := some 185, op := _, type := _, pos := _, after := _, guard := _ }) (v := (.bool false)) rfl (by kernel_rfl) (by kernel_rfl) (by kernel_rfl) (fun _ _ _ h => h) (Or.inl ⟨by rfl, ?hy21⟩) (by assumption) ?rest21
      case hy21 => (intro w hSw; first | (go_simp; done) | (go_simp; simp [*]; done) | (simp [*]; go_simp; done))
      try simp only [Act.put, List.setIfInBounds_toArray, List.set_cons_zero, List.set_cons_succ]
      refine wpAnyH_done (by kernel_rfl) ?_ _
      clear hHeld
      go_wp2_with fail
      refine (tick_bad _ b (-1) (.inl (by decide))).mono ?_
      rintro _ w44 ⟨rfl, hw⟩
      obtain rfl := hw.symm
      clear hw
      go_wp2_with fail
      refine (tick_bad _ b 9007199254740993 (.inr (by decide))).mono ?_
      rintro _ w44 ⟨rfl, hw⟩
      obtain rfl := hw.symm
      clear hw
      have M := keep (kn_tick H43.out 7 (by decide) (by decide) 7 (.inl ⟨by decide, rfl⟩))
      go_wp2_with fail
      refine M.out.mono ?_
      rintro _ w45 ⟨rfl, h⟩
      have H45 := keep h
      clear M h
      have M := keep (kn_tick H45.out 3 (by decide) (by decide) 7 (.inr ⟨by decide, rfl⟩))
      go_wp2_with fail
      refine M.out.mono ?_
      rintro _ w46 ⟨rfl, h⟩
      have H46 := keep h
      clear M h
      have M := keep (kn_now H46.out)
      go_wp2_with fail
      refine M.out.mono ?_
      rintro _ w47 ⟨rfl, h⟩
      have HW : Kept (Below W.heap.size W w47) := HB1.out.trans (h.below.mono HB1.out.size)
      clear M h
      go_wp2_with fail
      obtain ⟨W2, hW2⟩ : ∃ W2, w47.alloc (.cells aCf 24) = W2 := ⟨_, rfl⟩
      have hx2 : W2.heap[w47.heap.size]? = some (.cells aCf 24 (0, 0)) := by rw [← hW2]; exact heap_alloc_new _ _
      have hbW : Below W.heap.size W W2 := HW.out.trans (by rw [← hW2]; exact ((Below.refl _ _).alloc (Nat.le_refl _) _).mono HW.out.size)
      have hz2 : w47.heap.size < W2.heap.size := (Array.getElem?_eq_some_iff.1 hx2).1
      have HX2 := keep hx2
      have HBW := keep hbW
      have HZ2 := keep hz2
      clear hx2 hbW hz2
      unfold aCf at hW2
      rw [hW2]
      clear hW2
      go_loopw [217] (fun i wr => ∃ k : Nat, k ≤ 6 ∧ i = .int .i64 k ∧ Kept (Below W2.heap.size W2 wr)) (fun i _ => 6 - (intOf i).toNat)
      case atStart => exact ⟨0, Nat.zero_le _, rfl, Below.refl _ _⟩
      case round =>
        obtain ⟨k, hk, rfl, KB⟩ := hrel
        by_cases hlt : k < 6
        · have hz : (k : Int) < 6 := by omega
          have hz0 : (0 : Int) ≤ (k : Int) := by omega
          have KW : IntKind.i64.wrap ((k : Int) + 1) = ((k + 1 : Nat) : Int) := by rw [IntKind.wrap_i64]; omega
          obtain ⟨c, hc⟩ : ∃ c, cfs[k]? = some c := ⟨_, List.getElem?_eq_getElem (show k < cfs.length from hlt)⟩
          obtain ⟨a0, a1, a2, a3⟩ := cf_at k c hc
          have hbad := cf_bad k c hc
          have nu : ∀ i v, aCf[i]? = some v → wr.cell? ⟨w47.heap.size, i, none⟩ = some v := fun i v h => by
            refine (KB.out.cell (p := ⟨w47.heap.size, i, none⟩) HZ2.out).trans ?_
            rw [cell_of_row _ _ _ _ _ _ HX2.out]; exact h
          have d0 := nu _ _ a0
          have d1 := nu _ _ a1
          have d2 := nu _ _ a2
          have d3 := nu _ _ a3
          obtain ⟨c1, c2, c3⟩ := c
          dsimp only at d1 d2 d3 hbad
          have MB := keep (fun w => new_bad w 0 c1 c2 c3 hbad)
          clear hc a0 a1 a2 a3 nu hbad
          go_wp2_with fail
          refine (MB.out _).mono ?_
          rintro _ w48 ⟨rfl, hb⟩
          have KB2 := keep (KB.out.trans ((((Below.refl _ wr).alloc (Nat.le_refl _) _).trans (hb.mono (by simp))).mono KB.out.size))
          clear MB hb d0 d1 d2 d3
          go_wp2
          go_roundw
          case measure => simp [intOf]; omega
          case rel => exact ⟨k + 1, by omega, by go_num, KB2.out⟩
        · have hz : ¬ (k : Int) < 6 := by omega
          have HR : Kept (Below W.heap.size W wr) := HBW.out.trans (KB.out.mono HBW.out.size)
          clear KB HX2 HZ2 HBW
          go_wp2_with fail
          refine (clear_nil _).mono ?_
          rintro _ wx ⟨rfl, hw⟩
          obtain rfl := hw.symm
          clear hw
          go_wp2_with fail
          refine (get_nil _ _).mono ?_
          rintro _ wx ⟨rfl, hw⟩
          obtain rfl := hw.symm
          clear hw
          go_wp2_with fail
          refine (tick_nil _ _).mono ?_
          rintro _ wx ⟨rfl, hw⟩
          obtain rfl := hw.symm
          clear hw
          go_wp2_with fail
          refine (put_novalue _ none _ (.inl rfl)).mono ?_
          rintro _ wx ⟨rfl, hw⟩
          obtain rfl := hw.symm
          clear hw
          go_wp2_with fail
          refine (len_nil _).mono ?_
          rintro _ wx ⟨rfl, hw⟩
          obtain rfl := hw.symm
          clear hw
          go_wp2_with fail
          refine (used_nil _).mono ?_
          rintro _ wx ⟨rfl, hw⟩
          obtain rfl := hw.symm
          clear hw
          go_wp2_with fail
          refine (stored_nil _).mono ?_
          rintro _ wa ⟨rfl, hb⟩
          have HA := keep (HR.out.trans (hb.mono HR.out.size))
          clear hb
          go_wp2_with fail
          refine (delete_nil _ _).mono ?_
          rintro _ wx ⟨rfl, hw⟩
          obtain rfl := hw.symm
          clear hw
          go_wp2_with fail
          refine (sweep_nil _ 5 (by decide)).mono ?_
          rintro _ wb ⟨rfl, hb⟩
          have HC := keep (HA.out.trans (hb.mono HA.out.size))
          clear hb
          go_wp2_with fail
          refine (config_nil _).mono ?_
          rintro _ wd ⟨rfl, hb⟩
          have HD := keep (HC.out.trans (hb.mono HC.out.size))
          clear hb
          go_wp2
          go_ret
          exact ⟨rfl, HD.out⟩
    · go_simp
      refine (text_any _ _).mono ?_
      rintro _ w36 ⟨rfl, hv, hb⟩
      have H36 := keep (H35.out.bel hb)
      have VE : Kept (Vs w36 (viT w35.heap.size .empty)) := vs_text hv (by decide)
      have BT := keep hb
      clear hv hb
      refine hK.out _ _ trivial (fun hHeld => ?_)
      try simp only [Act.put, List.setIfInBounds_toArray, List.set_cons_zero, List.set_cons_succ]
      clear hK
      refine wpAnyH_ready (rs := [20]) (by kernel_rfl) (by simp) ?_
      refine AllReadyH.cons (o := { dst := some 173, op := _, type := _, pos := _, after := _, guard := _ }) rfl (fun K hK => ?_) AllReadyH.nil
      have cv := R2.out w36 BT.out
      go_simp
      refine hK.out _ _ trivial (fun hHeld => ?_)
      try simp only [Act.put, List.setIfInBounds_toArray, List.set_cons_zero, List.set_cons_succ]
      clear hK
      clear cv
      have M := keep (put_long (b := b) z (viT w35.heap.size .empty) VE.out (.inl (by rw [R3.out]; decide)))
      refine wpAnyH_ready (rs := [22]) (by kernel_rfl) (by simp) ?_
      refine AllReadyH.cons (o := { dst := some 175, op := _, type := _, pos := _, after := _, guard := _ }) rfl (fun K hK => ?_) AllReadyH.nil
      go_simp
      refine M.out.mono ?_
      rintro _ w40 ⟨rfl, hb⟩
      have H40 := keep (H36.out.bel hb)
      clear M hb
      refine hK.out _ _ trivial (fun hHeld => ?_)
      try simp only [Act.put, List.setIfInBounds_toArray, List.set_cons_zero, List.set_cons_succ]
      clear hK
      refine wpAnyH_take (i := 23) (oi := { dst := some 176, op := _, type := _, pos := _, after := _, guard := _ }) (v := (.bool false)) rfl (by kernel_rfl) (by kernel_rfl) (by kernel_rfl) (fun _ _ _ h => h) (Or.inl ⟨by rfl, ?hy22⟩) (by assumption) ?rest22
      case hy22 => (intro w hSw; first | (go_simp; done) | (go_simp; simp [*]; done) | (simp [*]; go_simp; done))
      try simp only [Act.put, List.setIfInBounds_toArray, List.set_cons_zero, List.set_cons_succ]
      refine wpAnyH_take (i := 24) (oi := { dst := some 177, op := _, type := _, pos := _, after := _, guard := _ }) (v := (.bool false)) rfl (by kernel_rfl) (by kernel_rfl) (by kernel_rfl) (fun _ _ _ h => h) (Or.inl ⟨by rfl, ?hy23⟩) (by assumption) ?rest23
      case hy23 => (intro w hSw; first | (go_simp; done) | (go_simp; simp [*]; done) | (simp [*]; go_simp; done))
      try simp only [Act.put, List.setIfInBounds_toArray, List.set_cons_zero, List.set_cons_succ]
      refine wpAnyH_take (i := 25) (oi := { dst := some 178, op := _, type := _, pos := _, after := _, guard := _ }) (v := (.bool false)) rfl (by kernel_rfl) (by kernel_rfl) (by kernel_rfl) (fun _ _ _ h => h) (Or.inl ⟨by rfl, ?hy24⟩) (by assumption) ?rest24
      case hy24 => (intro w hSw; first | (go_simp; done) | (go_simp; simp [*]; done) | (simp [*]; go_simp; done))
      try simp only [Act.put, List.setIfInBounds_toArray, List.set_cons_zero, List.set_cons_succ]
      refine wpAnyH_take (i := 26) (oi := { dst := some 179, op := _, type := _, pos := _, after := _, guard := _ }) (v := (pb b)) rfl (by kernel_rfl) (by kernel_rfl) (by kernel_rfl) (fun _ _ _ h => h) (Or.inl ⟨by rfl, ?hy25⟩) (by assumption) ?rest25
      case hy25 => (intro w hSw; first | (go_simp; done) | (go_simp; simp [*]; done) | (simp [*]; go_simp; done))
      try simp only [Act.put, List.setIfInBounds_toArray, List.set_cons_zero, List.set_cons_succ]
      refine wpAnyH_ready (rs := [27]) (by kernel_rfl) (by simp) ?_
      refine AllReadyH.cons (o := { dst := some 180, op := _, type := _, pos := _, after := _, guard := _ }) rfl (fun K hK => ?_) AllReadyH.nil
      obtain ⟨w41, z2, r1, r2, r3, r4⟩ := zeros_text w40 1048577 (by decide)
      have r1 : (Instr.makeSlice 84 (.int .i64 1048577) (.int .i64 1048577)).run Tryz.prog w40 = .ok (.slice (some ⟨w40.heap.size, 0, none⟩) 1048577 1048577) w41 := r1
      have H41 := keep (H40.out.bel r4)
      have Q2 := keep r2
      have Q3 := keep r3
      have Q4 := keep r4
      clear r2 r3 r4
      go_simp
      refine hK.out _ _ trivial (fun hHeld => ?_)
      try simp only [Act.put, List.setIfInBounds_toArray, List.set_cons_zero, List.set_cons_succ]
      clear hK
      clear r1
      refine wpAnyH_ready (rs := [28]) (by kernel_rfl) (by simp) ?_
      refine AllReadyH.cons (o := { dst := some 181, op := _, type := _, pos := _, after := _, guard := _ }) rfl (fun K hK => ?_) AllReadyH.nil
      have cv := Q2.out w41 (Below.refl _ _)
      go_simp
      refine hK.out _ _ trivial (fun hHeld => ?_)
      try simp only [Act.put, List.setIfInBounds_toArray, List.set_cons_zero, List.set_cons_succ]
      clear hK
      clear cv
      refine wpAnyH_ready (rs := [29]) (by kernel_rfl) (by simp) ?_
      refine AllReadyH.cons (o := { dst := some 182, op := _, type := _, pos := _, after := _, guard := _ }) rfl (fun K hK => ?_) AllReadyH.nil
      go_simp
      refine (text_any _ _).mono ?_
      rintro _ w42 ⟨rfl, hv, hb⟩
      have H42 := keep (H41.out.bel hb)
      have VZ : Kept (Vs w42 (viT w41.heap.size z2)) := vs_text hv (by rw [Q3.out]; decide)
      have BT := keep hb
      clear hv hb
      refine hK.out _ _ trivial (fun hHeld => ?_)
      try simp only [Act.put, List.setIfInBounds_toArray, List.set_cons_zero, List.set_cons_succ]
      clear hK
      have M := keep (put_long (b := b) kT (viT w41.heap.size z2) VZ.out (.inr (by show 1048576 < z2.size; rw [Q3.out]; decide)))
      refine wpAnyH_ready (rs := [30]) (by kernel_rfl) (by simp) ?_
      refine AllReadyH.cons (o := { dst := some 183, op := _, type := _, pos := _, after := _, guard := _ }) rfl (fun K hK => ?_) AllReadyH.nil
      go_simp
      refine M.out.mono ?_
      rintro _ w43 ⟨rfl, hb⟩
      have H43 := keep (H42.out.bel hb)
      clear M hb
      refine hK.out _ _ trivial (fun hHeld => ?_)
      try simp only [Act.put, List.setIfInBounds_toArray, List.set_cons_zero, List.set_cons_succ]
      clear hK
      refine wpAnyH_take (i := 31) (oi := { dst := some 184, op := _, type := _, pos := _, after := _, guard := _ }) (v := (.bool false)) rfl (by kernel_rfl) (by kernel_rfl) (by kernel_rfl) (fun _ _ _ h => h) (Or.inl ⟨by rfl, ?hy26⟩) (by assumption) ?rest26
      case hy26 => (intro w hSw; first | (go_simp; done) | (go_simp; simp [*]; done) | (simp [*]; go_simp; done))
      try simp only [Act.put, List.setIfInBounds_toArray, List.set_cons_zero, List.set_cons_succ]
      refine wpAnyH_take (i := 32) (oi := { dst := some 185, op := _, type := _, pos := _, after := _, guard := _ }) (v := (.bool false)) rfl (by kernel_rfl) (by kernel_rfl) (by kernel_rfl) (fun _ _ _ h => h) (Or.inl ⟨by rfl, ?hy27⟩) (by assumption) ?rest27
      case hy27 => (intro w hSw; first | (go_simp; done) | (go_simp; simp [*]; done) | (simp [*]; go_simp; done))
      try simp only [Act.put, List.setIfInBounds_toArray, List.set_cons_zero, List.set_cons_succ]
      refine wpAnyH_done (by kernel_rfl) ?_ _
      clear hHeld
      go_wp2_with fail
      refine (tick_bad _ b (-1) (.inl (by decide))).mono ?_
      rintro _ w44 ⟨rfl, hw⟩
      obtain rfl := hw.symm
      clear hw
      go_wp2_with fail
      refine (tick_bad _ b 9007199254740993 (.inr (by decide))).mono ?_
      rintro _ w44 ⟨rfl, hw⟩
      obtain rfl := hw.symm
      clear hw
      have M := keep (kn_tick H43.out 7 (by decide) (by decide) 7 (.inl ⟨by decide, rfl⟩))
      go_wp2_with fail
      refine M.out.mono ?_
      rintro _ w45 ⟨rfl, h⟩
      have H45 := keep h
      clear M h
      have M := keep (kn_tick H45.out 3 (by decide) (by decide) 7 (.inr ⟨by decide, rfl⟩))
      go_wp2_with fail
      refine M.out.mono ?_
      rintro _ w46 ⟨rfl, h⟩
      have H46 := keep h
      clear M h
      have M := keep (kn_now H46.out)
      go_wp2_with fail
      refine M.out.mono ?_
      rintro _ w47 ⟨rfl, h⟩
      have HW : Kept (Below W.heap.size W w47) := HB1.out.trans (h.below.mono HB1.out.size)
      clear M h
      go_wp2_with fail
      obtain ⟨W2, hW2⟩ : ∃ W2, w47.alloc (.cells aCf 24) = W2 := ⟨_, rfl⟩
      have hx2 : W2.heap[w47.heap.size]? = some (.cells aCf 24 (0, 0)) := by rw [← hW2]; exact heap_alloc_new _ _
      have hbW : Below W.heap.size W W2 := HW.out.trans (by rw [← hW2]; exact ((Below.refl _ _).alloc (Nat.le_refl _) _).mono HW.out.size)
      have hz2 : w47.heap.size < W2.heap.size := (Array.getElem?_eq_some_iff.1 hx2).1
      have HX2 := keep hx2
      have HBW := keep hbW
      have HZ2 := keep hz2
      clear hx2 hbW hz2
      unfold aCf at hW2
      rw [hW2]
      clear hW2
      go_loopw [217] (fun i wr => ∃ k : Nat, k ≤ 6 ∧ i = .int .i64 k ∧ Kept (Below W2.heap.size W2 wr)) (fun i _ => 6 - (intOf i).toNat)
      case atStart => exact ⟨0, Nat.zero_le _, rfl, Below.refl _ _⟩
      case round =>
        obtain ⟨k, hk, rfl, KB⟩ := hrel
        by_cases hlt : k < 6
        · have hz : (k : Int) < 6 := by omega
          have hz0 : (0 : Int) ≤ (k : Int) := by omega
          have KW : IntKind.i64.wrap ((k : Int) + 1) = ((k + 1 : Nat) : Int) := by rw [IntKind.wrap_i64]; omega
          obtain ⟨c, hc⟩ : ∃ c, cfs[k]? = some c := ⟨_, List.getElem?_eq_getElem (show k < cfs.length from hlt)⟩
          obtain ⟨a0, a1, a2, a3⟩ := cf_at k c hc
          have hbad := cf_bad k c hc
          have nu : ∀ i v, aCf[i]? = some v → wr.cell? ⟨w47.heap.size, i, none⟩ = some v := fun i v h => by
            refine (KB.out.cell (p := ⟨w47.heap.size, i, none⟩) HZ2.out).trans ?_
            rw [cell_of_row _ _ _ _ _ _ HX2.out]; exact h
          have d0 := nu _ _ a0
          have d1 := nu _ _ a1
          have d2 := nu _ _ a2
          have d3 := nu _ _ a3
          obtain ⟨c1, c2, c3⟩ := c
          dsimp only at d1 d2 d3 hbad
          have MB := keep (fun w => new_bad w 0 c1 c2 c3 hbad)
          clear hc a0 a1 a2 a3 nu hbad
          go_wp2_with fail
          refine (MB.out _).mono ?_
          rintro _ w48 ⟨rfl, hb⟩
          have KB2 := keep (KB.out.trans ((((Below.refl _ wr).alloc (Nat.le_refl _) _).trans (hb.mono (by simp))).mono KB.out.size))
          clear MB hb d0 d1 d2 d3
          go_wp2
          go_roundw
          case measure => simp [intOf]; omega
          case rel => exact ⟨k + 1, by omega, by go_num, KB2.out⟩
        · have hz : ¬ (k : Int) < 6 := by omega
          have HR : Kept (Below W.heap.size W wr) := HBW.out.trans (KB.out.mono HBW.out.size)
          clear KB HX2 HZ2 HBW
          go_wp2_with fail
          refine (clear_nil _).mono ?_
          rintro _ wx ⟨rfl, hw⟩
          obtain rfl := hw.symm
          clear hw
          go_wp2_with fail
          refine (get_nil _ _).mono ?_
          rintro _ wx ⟨rfl, hw⟩
          obtain rfl := hw.symm
          clear hw
          go_wp2_with fail
          refine (tick_nil _ _).mono ?_
          rintro _ wx ⟨rfl, hw⟩
          obtain rfl := hw.symm
          clear hw
          go_wp2_with fail
          refine (put_novalue _ none _ (.inl rfl)).mono ?_
          rintro _ wx ⟨rfl, hw⟩
          obtain rfl := hw.symm
          clear hw
          go_wp2_with fail
          refine (len_nil _).mono ?_
          rintro _ wx ⟨rfl, hw⟩
          obtain rfl := hw.symm
          clear hw
          go_wp2_with fail
          refine (used_nil _).mono ?_
          rintro _ wx ⟨rfl, hw⟩
          obtain rfl := hw.symm
          clear hw
          go_wp2_with fail
          refine (stored_nil _).mono ?_
          rintro _ wa ⟨rfl, hb⟩
          have HA := keep (HR.out.trans (hb.mono HR.out.size))
          clear hb
          go_wp2_with fail
          refine (delete_nil _ _).mono ?_
          rintro _ wx ⟨rfl, hw⟩
          obtain rfl := hw.symm
          clear hw
          go_wp2_with fail
          refine (sweep_nil _ 5 (by decide)).mono ?_
          rintro _ wb ⟨rfl, hb⟩
          have HC := keep (HA.out.trans (hb.mono HA.out.size))
          clear hb
          go_wp2_with fail
          refine (config_nil _).mono ?_
          rintro _ wd ⟨rfl, hb⟩
          have HD := keep (HC.out.trans (hb.mono HC.out.size))
          clear hb
          go_wp2
          go_ret
          exact ⟨rfl, HD.out⟩
  · go_simp
    refine (text_any _ _).mono ?_
    rintro _ w35 ⟨rfl, hv, hb⟩
    have H35 := keep (H34.out.bel hb)
    have VE : Kept (Vs w35 (viT w33.heap.size .empty)) := vs_text hv (by decide)
    have BT := keep hb
    clear hv hb
    refine hK.out _ _ trivial (fun hHeld => ?_)
    try simp only [Act.put, List.setIfInBounds_toArray, List.set_cons_zero, List.set_cons_succ]
    clear hK
    refine wpAnyH_ready (rs := [19]) (by kernel_rfl) (by simp) ?_
    refine AllReadyH.cons (o := { dst := some 172, op := _, type := _, pos := _, after := _, guard := _ }) rfl (fun K hK => ?_) AllReadyH.nil
    obtain ⟨w36, z, r1, r2, r3, r4⟩ := zeros_text w35 1048577 (by decide)
    have r1 : (Instr.makeSlice 84 (.int .i64 1048577) (.int .i64 1048577)).run Tryz.prog w35 = .ok (.slice (some ⟨w35.heap.size, 0, none⟩) 1048577 1048577) w36 := r1
    have H36 := keep (H35.out.bel r4)
    have R2 := keep r2
    have R3 := keep r3
    have R4 := keep r4
    clear r2 r3 r4
    go_simp
    refine hK.out _ _ trivial (fun hHeld => ?_)
    try simp only [Act.put, List.setIfInBounds_toArray, List.set_cons_zero, List.set_cons_succ]
    clear hK
    clear r1
    have VE : Kept (Vs w36 (viT w33.heap.size .empty)) := VE.out.bel R4.out
    refine wpAnyH_ready (rs := [20]) (by kernel_rfl) (by simp) ?_
    refine AllReadyH.cons (o := { dst := some 173, op := _, type := _, pos := _, after := _, guard := _ }) rfl (fun K hK => ?_) AllReadyH.nil
    have cv := R2.out w36 (Below.refl _ _)
    go_simp
    refine hK.out _ _ trivial (fun hHeld => ?_)
    try simp only [Act.put, List.setIfInBounds_toArray, List.set_cons_zero, List.set_cons_succ]
    clear hK
    clear cv
    have M := keep (put_long (b := b) z (viT w33.heap.size .empty) VE.out (.inl (by rw [R3.out]; decide)))
    refine wpAnyH_ready (rs := [22]) (by kernel_rfl) (by simp) ?_
    refine AllReadyH.cons (o := { dst := some 175, op := _, type := _, pos := _, after := _, guard := _ }) rfl (fun K hK => ?_) AllReadyH.nil
    go_simp
    refine M.out.mono ?_
    rintro _ w40 ⟨rfl, hb⟩
    have H40 := keep (H36.out.bel hb)
    clear M hb
    refine hK.out _ _ trivial (fun hHeld => ?_)
    try simp only [Act.put, List.setIfInBounds_toArray, List.set_cons_zero, List.set_cons_succ]
    clear hK
    refine wpAnyH_take (i := 23) (oi := { dst := some 176, op := _, type := _, pos := _, after := _, guard := _ }) (v := (.bool false)) rfl (by kernel_rfl) (by kernel_rfl) (by kernel_rfl) (fun _ _ _ h => h) (Or.inl ⟨by rfl, ?hy28⟩) (by assumption) ?rest28
    case hy28 => (intro w hSw; first | (go_simp; done) | (go_simp; simp [*]; done) | (simp [*]; go_simp; done))
    try simp only [Act.put, List.setIfInBounds_toArray, List.set_cons_zero, List.set_cons_succ]
    refine wpAnyH_take (i := 24) (oi := { dst := some 177, op := _, type := _, pos := _, after := _, guard := _ }) (v := (.bool false)) rfl (by kernel_rfl) (by kernel_rfl) (by kernel_rfl) (fun _ _ _ h => h) (Or.inl ⟨by rfl, ?hy29⟩) (by assumption) ?rest29
    case hy29 => (intro w hSw; first | (go_simp; done) | (go_simp; simp [*]; done) | (simp [*]; go_simp; done))
    try simp only [Act.put, List.setIfInBounds_toArray, List.set_cons_zero, List.set_cons_succ]
    refine wpAnyH_take (i := 25) (oi := { dst := some 178, op := _, type := _, pos := _, after := _, guard := _ }) (v := (.bool false)) rfl (by kernel_rfl) (by kernel_rfl) (by kernel_rfl) (fun _ _ _ h => h) (Or.inl ⟨by rfl, ?hy30⟩) (by assumption) ?rest30
    case hy30 => (intro w hSw; first | (go_simp; done) | (go_simp; simp [*]; done) | (simp [*]; go_simp; done))
    try simp only [Act.put, List.setIfInBounds_toArray, List.set_cons_zero, List.set_cons_succ]
    refine wpAnyH_take (i := 26) (oi := { dst := some 179, op := _, type := _, pos := _, after := _, guard := _ }) (v := (pb b)) rfl (by kernel_rfl) (by kernel_rfl) (by kernel_rfl) (fun _ _ _ h => h) (Or.inl ⟨by rfl, ?hy31⟩) (by assumption) ?rest31
    case hy31 => (intro w hSw; first | (go_simp; done) | (go_simp; simp [*]; done) | (simp [*]; go_simp; done))
    try simp only [Act.put, List.setIfInBounds_toArray, List.set_cons_zero, List.set_cons_succ]
    refine wpAnyH_ready (rs := [27]) (by kernel_rfl) (by simp) ?_
    refine AllReadyH.cons (o := { dst := some 180, op := _, type := _, pos := _, after := _, guard := _ }) rfl (fun K hK => ?_) AllReadyH.nil
    obtain ⟨w41, z2, r1, r2, r3, r4⟩ := zeros_text w40 1048577 (by decide)
    have r1 : (Instr.makeSlice 84 (.int .i64 1048577) (.int .i64 1048577)).run Tryz.prog w40 = .ok (.slice (some ⟨w40.heap.size, 0, none⟩) 1048577 1048577) w41 := r1
    have H41 := keep (H40.out.bel r4)
    have Q2 := keep r2
    have Q3 := keep r3
    have Q4 := keep r4
    clear r2 r3 r4
    go_simp
    refine hK.out _ _ trivial (fun hHeld => ?_)
    try simp only [Act.put, List.setIfInBounds_toArray, List.set_cons_zero, List.set_cons_succ]
    clear hK
    clear r1
    refine wpAnyH_ready (rs := [28]) (by kernel_rfl) (by simp) ?_
    refine AllReadyH.cons (o := { dst := some 181, op := _, type := _, pos := _, after := _, guard := _ }) rfl (fun K hK => ?_) AllReadyH.nil
    have cv := Q2.out w41 (Below.refl _ _)
    go_simp
    refine hK.out _ _ trivial (fun hHeld => ?_)
    try simp only [Act.put, List.setIfInBounds_toArray, List.set_cons_zero, List.set_cons_succ]
    clear hK
    clear cv
    refine wpAnyH_ready (rs := [29]) (by kernel_rfl) (by simp) ?_
    refine AllReadyH.cons (o := { dst := some 182, op := _, type := _, pos := _, after := _, guard := _ }) rfl (fun K hK => ?_) AllReadyH.nil
    go_simp
    refine (text_any _ _).mono ?_
    rintro _ w42 ⟨rfl, hv, hb⟩
    have H42 := keep (H41.out.bel hb)
    have VZ : Kept (Vs w42 (viT w41.heap.size z2)) := vs_text hv (by rw [Q3.out]; decide)
    have BT := keep hb
    clear hv hb
    refine hK.out _ _ trivial (fun hHeld => ?_)
    try simp only [Act.put, List.setIfInBounds_toArray, List.set_cons_zero, List.set_cons_succ]
    clear hK
    have M := keep (put_long (b := b) kT (viT w41.heap.size z2) VZ.out (.inr (by show 1048576 < z2.size; rw [Q3.out]; decide)))
    refine wpAnyH_ready (rs := [30]) (by kernel_rfl) (by simp) ?_
    refine AllReadyH.cons (o := { dst := some 183, op := _, type := _, pos := _, after := _, guard := _ }) rfl (fun K hK => ?_) AllReadyH.nil
    go_simp
    refine M.out.mono ?_
    rintro _ w43 ⟨rfl, hb⟩
    have H43 := keep (H42.out.bel hb)
    clear M hb
    refine hK.out _ _ trivial (fun hHeld => ?_)
    try simp only [Act.put, List.setIfInBounds_toArray, List.set_cons_zero, List.set_cons_succ]
    clear hK
    refine wpAnyH_take (i := 31) (oi := { dst := some 184, op := _, type := _, pos := _, after := _, guard := _ }) (v := (.bool false)) rfl (by kernel_rfl) (by kernel_rfl) (by kernel_rfl) (fun _ _ _ h => h) (Or.inl ⟨by rfl, ?hy32⟩) (by assumption) ?rest32
    case hy32 => (intro w hSw; first | (go_simp; done) | (go_simp; simp [*]; done) | (simp [*]; go_simp; done))
    try simp only [Act.put, List.setIfInBounds_toArray, List.set_cons_zero, List.set_cons_succ]
    refine wpAnyH_take (i := 32) (oi := { dst := some 185, op := _, type := _, pos := _, after := _, guard := _ }) (v := (.bool false)) rfl (by kernel_rfl) (by kernel_rfl) (by kernel_rfl) (fun _ _ _ h => h) (Or.inl ⟨by rfl, ?hy33⟩) (by assumption) ?rest33
    case hy33 => (intro w hSw; first | (go_simp; done) | (go_simp; simp [*]; done) | (simp [*]; go_simp; done))
    try simp only [Act.put, List.setIfInBounds_toArray, List.set_cons_zero, List.set_cons_succ]
    refine wpAnyH_done (by kernel_rfl) ?_ _
    clear hHeld
    go_wp2_with fail
    refine (tick_bad _ b (-1) (.inl (by decide))).mono ?_
    rintro _ w44 ⟨rfl, hw⟩
    obtain rfl := hw.symm
    clear hw
    go_wp2_with fail
    refine (tick_bad _ b 9007199254740993 (.inr (by decide))).mono ?_
    rintro _ w44 ⟨rfl, hw⟩
    obtain rfl := hw.symm
    clear hw
    have M := keep (kn_tick H43.out 7 (by decide) (by decide) 7 (.inl ⟨by decide, rfl⟩))
    go_wp2_with fail
    refine M.out.mono ?_
    rintro _ w45 ⟨rfl, h⟩
    have H45 := keep h
    clear M h
    have M := keep (kn_tick H45.out 3 (by decide) (by decide) 7 (.inr ⟨by decide, rfl⟩))
    go_wp2_with fail
    refine M.out.mono ?_
    rintro _ w46 ⟨rfl, h⟩
    have H46 := keep h
    clear M h
    have M := keep (kn_now H46.out)
    go_wp2_with fail
    refine M.out.mono ?_
    rintro _ w47 ⟨rfl, h⟩
    have HW : Kept (Below W.heap.size W w47) := HB1.out.trans (h.below.mono HB1.out.size)
    clear M h
    go_wp2_with fail
    obtain ⟨W2, hW2⟩ : ∃ W2, w47.alloc (.cells aCf 24) = W2 := ⟨_, rfl⟩
    have hx2 : W2.heap[w47.heap.size]? = some (.cells aCf 24 (0, 0)) := by rw [← hW2]; exact heap_alloc_new _ _
    have hbW : Below W.heap.size W W2 := HW.out.trans (by rw [← hW2]; exact ((Below.refl _ _).alloc (Nat.le_refl _) _).mono HW.out.size)
    have hz2 : w47.heap.size < W2.heap.size := (Array.getElem?_eq_some_iff.1 hx2).1
    have HX2 := keep hx2
    have HBW := keep hbW
    have HZ2 := keep hz2
    clear hx2 hbW hz2
    unfold aCf at hW2
    rw [hW2]
    clear hW2
    go_loopw [217] (fun i wr => ∃ k : Nat, k ≤ 6 ∧ i = .int .i64 k ∧ Kept (Below W2.heap.size W2 wr)) (fun i _ => 6 - (intOf i).toNat)
    case atStart => exact ⟨0, Nat.zero_le _, rfl, Below.refl _ _⟩
    case round =>
      obtain ⟨k, hk, rfl, KB⟩ := hrel
      by_cases hlt : k < 6
      · have hz : (k : Int) < 6 := by omega
        have hz0 : (0 : Int) ≤ (k : Int) := by omega
        have KW : IntKind.i64.wrap ((k : Int) + 1) = ((k + 1 : Nat) : Int) := by rw [IntKind.wrap_i64]; omega
        obtain ⟨c, hc⟩ : ∃ c, cfs[k]? = some c := ⟨_, List.getElem?_eq_getElem (show k < cfs.length from hlt)⟩
        obtain ⟨a0, a1, a2, a3⟩ := cf_at k c hc
        have hbad := cf_bad k c hc
        have nu : ∀ i v, aCf[i]? = some v → wr.cell? ⟨w47.heap.size, i, none⟩ = some v := fun i v h => by
          refine (KB.out.cell (p := ⟨w47.heap.size, i, none⟩) HZ2.out).trans ?_
          rw [cell_of_row _ _ _ _ _ _ HX2.out]; exact h
        have d0 := nu _ _ a0
        have d1 := nu _ _ a1
        have d2 := nu _ _ a2
        have d3 := nu _ _ a3
        obtain ⟨c1, c2, c3⟩ := c
        dsimp only at d1 d2 d3 hbad
        have MB := keep (fun w => new_bad w 0 c1 c2 c3 hbad)
        clear hc a0 a1 a2 a3 nu hbad
        go_wp2_with fail
        refine (MB.out _).mono ?_
        rintro _ w48 ⟨rfl, hb⟩
        have KB2 := keep (KB.out.trans ((((Below.refl _ wr).alloc (Nat.le_refl _) _).trans (hb.mono (by simp))).mono KB.out.size))
        clear MB hb d0 d1 d2 d3
        go_wp2
        go_roundw
        case measure => simp [intOf]; omega
        case rel => exact ⟨k + 1, by omega, by go_num, KB2.out⟩
      · have hz : ¬ (k : Int) < 6 := by omega
        have HR : Kept (Below W.heap.size W wr) := HBW.out.trans (KB.out.mono HBW.out.size)
        clear KB HX2 HZ2 HBW
        go_wp2_with fail
        refine (clear_nil _).mono ?_
        rintro _ wx ⟨rfl, hw⟩
        obtain rfl := hw.symm
        clear hw
        go_wp2_with fail
        refine (get_nil _ _).mono ?_
        rintro _ wx ⟨rfl, hw⟩
        obtain rfl := hw.symm
        clear hw
        go_wp2_with fail
        refine (tick_nil _ _).mono ?_
        rintro _ wx ⟨rfl, hw⟩
        obtain rfl := hw.symm
        clear hw
        go_wp2_with fail
        refine (put_novalue _ none _ (.inl rfl)).mono ?_
        rintro _ wx ⟨rfl, hw⟩
        obtain rfl := hw.symm
        clear hw
        go_wp2_with fail
        refine (len_nil _).mono ?_
        rintro _ wx ⟨rfl, hw⟩
        obtain rfl := hw.symm
        clear hw
        go_wp2_with fail
        refine (used_nil _).mono ?_
        rintro _ wx ⟨rfl, hw⟩
        obtain rfl := hw.symm
        clear hw
        go_wp2_with fail
        refine (stored_nil _).mono ?_
        rintro _ wa ⟨rfl, hb⟩
        have HA := keep (HR.out.trans (hb.mono HR.out.size))
        clear hb
        go_wp2_with fail
        refine (delete_nil _ _).mono ?_
        rintro _ wx ⟨rfl, hw⟩
        obtain rfl := hw.symm
        clear hw
        go_wp2_with fail
        refine (sweep_nil _ 5 (by decide)).mono ?_
        rintro _ wb ⟨rfl, hb⟩
        have HC := keep (HA.out.trans (hb.mono HA.out.size))
        clear hb
        go_wp2_with fail
        refine (config_nil _).mono ?_
        rintro _ wd ⟨rfl, hb⟩
        have HD := keep (HC.out.trans (hb.mono HC.out.size))
        clear hb
        go_wp2
        go_ret
        exact ⟨rfl, HD.out⟩
end Ks
end Go.Proofs.YtijclcedjgniaaaGreat
