/-
  Contracts over this program: what each statement asks of a space first.
-/
import Derived.Test.YtijclcedjgniaaaGreatKsKn
namespace Go.Proofs.YtijclcedjgniaaaGreat
open Go.RowKit Go.Shelf
set_option linter.unusedVariables false
set_option maxRecDepth 100000
namespace Ks
def kK : ByteArray := { data := #[107] }
def kA : ByteArray := { data := #[97, 98, 99] }
theorem srt_one (k : ByteArray) : srt [k] = [k] := by
  have := srt_perm [k]
  exact List.perm_singleton.1 this
theorem row_one (w : World) (k : ByteArray) : (w.alloc (.cells #[.string k] 9)).ownsRow 0 9 1 (.slice (some ⟨w.heap.size, 0, none⟩) 1 1) 1 [.string k] :=
  ⟨rfl, .inr ⟨w.heap.size, 1, _, rfl, Nat.zero_le _, heap_alloc_new _ _, Nat.le_refl _, by decide, by simp, rfl⟩⟩
theorem row_step (w : World) (c : Int) (k : ByteArray) : (w.alloc (.cells #[.int .i64 c, .string k] 55)).ownsRow 0 55 2 (.slice (some ⟨w.heap.size, 0, none⟩) 1 1) 1 [.int .i64 c, .string k] :=
  ⟨rfl, .inr ⟨w.heap.size, 1, _, rfl, Nat.zero_le _, heap_alloc_new _ _, Nat.le_refl _, by decide, by simp, rfl⟩⟩
theorem own_bel {w w' : World} {B e s : Nat} {v : Value} {n : Nat} {xs : List Value} (h : w.ownsRow B e s v n xs) (hb : Below w.heap.size w w') : w'.ownsRow B e s v n xs := Vl.kept h hb
theorem wr (x : Int) (h : -9223372036854775808 ≤ x ∧ x ≤ 9223372036854775807) : wrap64 x = x := by
  unfold wrap64
  omega
set_option maxHeartbeats 4000000 in
theorem wakes_any (w : World) : Calls Tryz.prog 7 #[] w fun e w' => e = .returned (.bool true) ∧ Below w.heap.size w w' := by
  go_enter Tryz.func7, Tryz.ntmps7
  go_wp2_with fail
  refine (kn_new _).mono ?_
  rintro _ w1 ⟨b, rfl, h1⟩
  have H1 := keep h1
  clear h1
  go_wp2_with fail
  refine (text_any _ _).mono ?_
  rintro _ w2 ⟨rfl, _, hb⟩
  have H2 := keep (H1.out.bel hb)
  clear hb
  go_wp2_with fail
  refine (text_any _ _).mono ?_
  rintro _ w3 ⟨rfl, hv, hb⟩
  have h3 := H2.out.keep hb (viT w2.heap.size kA).own (fun k hk => by
    have hk' : k = w2.heap.size := hk
    have := (Array.getElem?_eq_some_iff.1 hv).1
    omega)
  have hvs : Vs w3 (viT w2.heap.size kA) := vs_text hv (by decide)
  have hgw : w.heap.size ≤ w2.heap.size := by have := H2.out.below.size; exact this
  have MP := keep (kn_put (P' := fun _ => False) h3 kK (by decide) (viT w2.heap.size kA) hvs (fun k hk => ⟨hk, by have hk' : k = w2.heap.size := hk; omega⟩) (fun _ h => h.elim) (show kA.size ≤ 1048576 by decide) rfl rfl (by decide) 52 (by show wrap64 (0 + wrap64 (wrap64 (wrap64 (48 + 1) + 3) - 0)) = 52; rw [wr (48 + 1) (by decide), wr (48 + 1 + 3) (by decide), wr (48 + 1 + 3 - 0) (by decide), wr _ (by decide)]; rfl) (by decide))
  clear hb hv h3 hvs
  go_wp2_with fail
  refine MP.out.mono ?_
  rintro _ w4 ⟨rfl, e0, h4⟩
  rw [show rc kK (viT w2.heap.size kA).cost = 52 from (by show wrap64 (wrap64 (48 + 1) + 3) = 52; rw [wr (48 + 1) (by decide), wr _ (by decide)]; rfl), show ((0 + 1) % 18446744073709551616 : Nat) = 1 from rfl, show insT [] kK = [kK] from rfl] at h4
  have M4 := keep (kn_used h4)
  clear h4 MP
  go_wp2_with fail
  refine M4.out.mono ?_
  rintro _ w5 ⟨rfl, h5⟩
  have M5 := keep (kn_setdl_set kK (by decide) (newE e0 (viT w2.heap.size kA) 1 52) [] h5 rfl rfl (by decide) (by decide) 10 (by decide) (by decide) (by decide) 68 68 (show wrap64 (52 + 16) = 68 from wr _ (by decide)) (by show wrap64 (52 + wrap64 (68 - 52)) = 68; rw [wr (68 - 52) (by decide)]; exact wr _ (by decide)))
  clear h5 M4
  go_wp2_with fail
  refine M5.out.mono ?_
  rintro _ w6 ⟨rfl, h6⟩
  rw [show insT [kK] kK = [kK] from by unfold insT; simp] at h6
  obtain ⟨X, hX⟩ : ∃ X : En, X = ⟨e0, viT w2.heap.size kA, 1, 10, 68⟩ := ⟨_, rfl⟩
  have h6 : KN w.heap.size w (fun _ => False) w3 (0 + 1 + 1) w6 b [(kK, X)] 0 1 68 [kK] [] (0 + 1 + 1) := by rw [hX]; exact h6
  have xv : X.v = viT w2.heap.size kA := by rw [hX]
  have xd : X.dl = 10 := by rw [hX]
  have xc : X.cost = 68 := by rw [hX]
  have XV := keep xv
  have XD := keep xd
  have XC := keep xc
  have M6 := keep (kn_used h6)
  clear h6 M5 hX xv xd xc
  go_wp2_with fail
  refine M6.out.mono ?_
  rintro _ w7 ⟨rfl, h7⟩
  have M7 := keep (kn_tick h7 9 (by decide) (by decide) 9 (.inl ⟨by decide, rfl⟩))
  clear h7 M6
  go_wp2_with fail
  refine M7.out.mono ?_
  rintro _ w8 ⟨rfl, h8⟩
  have M8 := keep (kn_look h8 kK (by decide) X (asc_at _ _ _) (by unfold pas mor; rw [XD.out]; rfl) (by decide))
  clear h8 M7
  go_wp2_with fail
  refine M8.out.mono ?_
  rintro _ w9 ⟨rfl, h9⟩
  have hH : Vl.Hol w9 w2.heap.size 130 (.string kA) := by
    have h1 := h9.has (asc_at _ _ _)
    rw [XV.out] at h1
    exact (h1.2.2 w9 (Nat.le_refl _) (fun _ _ => rfl)).2.2.2
  have hblk : X.v.blk = w2.heap.size := by rw [XV.out]; rfl
  rw [hblk]
  have M9 := keep (astext_text hH)
  have hA : kA.toList = [97, 98, 99] := by decide +kernel
  have H9 := keep h9
  clear h9 hH hblk M8
  go_wp2_with fail
  refine M9.out.mono ?_
  rintro _ w10 ⟨rfl, hw10⟩
  obtain rfl := hw10.symm
  have M10 := keep (kn_tick H9.out 10 (by decide) (by decide) 10 (.inl ⟨by decide, rfl⟩))
  clear M9
  go_wp2_with fail
  refine M10.out.mono ?_
  rintro _ w11 ⟨rfl, h11⟩
  have M11 := keep (kn_look_past kK (by decide) X [] h11 (by unfold pas mor; rw [XD.out]; rfl) (by decide) (by decide) (by decide) rfl 0 (by rw [XC.out, wr (0 - 68) (by decide)]; exact wr _ (by decide)))
  clear h11 M10
  go_wp2_with fail
  refine M11.out.mono ?_
  rintro _ w12 ⟨rfl, h12⟩
  rw [show insT [kK] kK = [kK] from by unfold insT; simp] at h12
  have M12 := keep (kn_used h12)
  clear h12 M11
  go_wp2_with fail
  refine M12.out.mono ?_
  rintro _ w13 ⟨rfl, h13⟩
  have M13 := keep (kn_steps h13)
  clear h13 M12
  go_wp2_with fail
  refine M13.out.mono ?_
  rintro _ w14 ⟨⟨v, rfl, hv⟩, h14⟩
  have hb14 : Below w14.heap.size w14 (w14.alloc (.cells #[.int .i64 1, .string kK] 55)) := (Below.refl _ _).alloc (Nat.le_refl _) _
  have M14 := keep (steps_same _ v (.slice (some ⟨w14.heap.size, 0, none⟩) 1 1) [(1, kK)] (own_bel hv hb14) (row_step w14 1 kK))
  have H14 := keep (h14.bel hb14)
  clear hv h14 hb14 M13
  go_wp2_with fail
  refine M14.out.mono ?_
  rintro _ w15 ⟨rfl, hb⟩
  have M15 := keep (kn_touched (H14.out.bel hb) (by simp) (by decide))
  clear hb M14
  go_wp2_with fail
  refine M15.out.mono ?_
  rintro _ w16 ⟨⟨v2, rfl, hv2⟩, h16⟩
  rw [srt_one] at hv2
  have hb16 : Below w16.heap.size w16 (w16.alloc (.cells #[.string kK] 9)) := (Below.refl _ _).alloc (Nat.le_refl _) _
  have M16 := keep (texts_any _ v2 (.slice (some ⟨w16.heap.size, 0, none⟩) 1 1) [kK] (Vl.kept hv2 hb16) (row_one w16 kK))
  have H16 := keep (h16.bel hb16)
  clear hv2 h16 hb16 M15
  go_wp2_with fail
  refine M16.out.mono ?_
  rintro _ w17 ⟨rfl, hb⟩
  have HB := keep (H16.out.bel hb).below
  clear hb M16
  go_wp2
  go_ret
  exact ⟨rfl, HB.out⟩
end Ks
end Go.Proofs.YtijclcedjgniaaaGreat
