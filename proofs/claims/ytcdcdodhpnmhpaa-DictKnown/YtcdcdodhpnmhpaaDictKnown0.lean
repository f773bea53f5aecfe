/-
  The walk of DictKnown: chapter 5's first example.
-/
import Derived.Test.YtcdcdodhpnmhpaaSameTexts
import Derived.Test.YtcdcdodhpnmhpaaDictKnownM
import Derived.Test.YtcdcdodhpnmhpaaDictWakes
import Derived.Test.YtcdcdodhpnmhpaaDictBoth
namespace Go.Proofs.Ytcdcdodhpnmhpaa
open Go.RowKit Go.Shelf
def ks4 : List ByteArray := [{ data := #[97] }, { data := #[98] }, { data := #[99] }, { data := #[100] }]
def ke : ByteArray := { data := #[101] }
theorem ks4_nd : ks4.Nodup := by decide
theorem ks4_ne : ∀ y ∈ ks4, y ≠ ke := by decide
theorem ks4_sz : ∀ y ∈ ks4, y.size ≤ maxLen := by decide
theorem ke_sz : ke.size ≤ maxLen := by decide
/-- the first k of the four keys are there, no other one -/
def Kk (s : Dc.St ByteArray Int) (k : Nat) : Prop := Dc.look ke (Dc.all s) = none ∧ ∀ j y, ks4[j]? = some y → (j < k → ∃ x, Dc.look y (Dc.all s) = some x) ∧ (k ≤ j → Dc.look y (Dc.all s) = none)
theorem kk_none : Kk Dc.none0 0 := ⟨rfl, fun j y _ => ⟨fun h => by omega, fun _ => rfl⟩⟩
theorem ks4_inj {i j : Nat} {y : ByteArray} (hi : ks4[i]? = some y) (hj : ks4[j]? = some y) : i = j := by
  have all : ∀ i < 4, ∀ j < 4, ks4[i]? = ks4[j]? → i = j := by decide
  exact all i (List.getElem?_eq_some_iff.1 hi).1 j (List.getElem?_eq_some_iff.1 hj).1 (hi.trans hj.symm)
theorem kk_set {h : ByteArray → Nat} {s : Dc.St ByteArray Int} {k m : Nat} {y : ByteArray} {v : Int} (hI : Dc.Inv h s) (hK : Kk s m) (hy : ks4[k]? = some y) (hm : m = k ∨ m = k + 1) : Kk (Dc.set h s y v).1 (k + 1) := by
  have hl := (Dc.set_inv hI y v).2.2.1
  refine ⟨?_, fun j z hz => ?_⟩
  · rw [hl, if_neg (fun e => ks4_ne y (List.mem_of_getElem? hy) e.symm)]
    exact hK.1
  · rw [hl]
    by_cases e : z = y
    · subst e
      have := ks4_inj hz hy
      rw [if_pos rfl]
      exact ⟨fun _ => ⟨_, rfl⟩, fun h => by omega⟩
    · rw [if_neg e]
      have hne : j ≠ k := fun e' => e (by rw [e', hy] at hz; exact (Option.some.inj hz).symm)
      exact ⟨fun h => (hK.2 j z hz).1 (by omega), fun h => (hK.2 j z hz).2 (by omega)⟩
/-- between two rounds -/
def KnW (h : ByteArray → Nat) (W : World) (b g k : Nat) (wr : World) : Prop :=
  ∃ r s, Dd h (2 * k) wr r b 0 s ∧ Kn s k ∧ Kk s k ∧ (∀ j, j < b → r j = (0, 0)) ∧ r g = (0, 0) ∧ wr.heap[g]? = some (.cells #[.string { data := #[97] }, .string { data := #[98] }, .string { data := #[99] }, .string { data := #[100] }] 9 (0, 0)) ∧ Below W.heap.size W wr ∧ W.heap.size ≤ b
theorem KnW.key {wr : World} {g k : Nat} {y : ByteArray} (hw : wr.heap[g]? = some (.cells #[.string { data := #[97] }, .string { data := #[98] }, .string { data := #[99] }, .string { data := #[100] }] 9 (0, 0))) (hy : ks4[k]? = some y) : wr.cell? ⟨g, k, none⟩ = some (.string y) := by
  rw [cell_of_row _ _ _ _ _ _ hw]
  have : (ks4.map Value.string)[k]? = some (.string y) := by rw [List.getElem?_map, hy]; rfl
  simpa [ks4] using this
set_option maxRecDepth 100000 in
set_option maxHeartbeats 2000000 in
theorem known_walk (W : World) : Calls Try.prog 8 #[] W fun e w' => e = .returned (.bool true) ∧ Below W.heap.size W w' := by
  have hH := hs_is 0 (by rw [Dw.M_is]; omega)
  generalize hs 0 = h at hH
  go_enter Try.func8, Try.ntmps8
  go_wp2_with fail
  refine (wakes_any _).mono ?_
  rintro _ w0 ⟨rfl, hb0⟩
  go_wp2_with fail
  refine (new_any h w0 0 0).mono ?_
  rintro _ w1 ⟨rfl, hb1, hz1, hd1⟩
  have hs0 := hb0.size
  have hs1 := hb1.size
  have hbx := (Below.refl w1.heap.size w1).alloc (Nat.le_refl _) (.cells #[.string { data := #[97] }, .string { data := #[98] }, .string { data := #[99] }, .string { data := #[100] }] 9)
  have HK : Kept (KnW h W w0.heap.size w1.heap.size 0 (w1.alloc (.cells #[.string { data := #[97] }, .string { data := #[98] }, .string { data := #[99] }, .string { data := #[100] }] 9))) := by
    refine ⟨_, _, hd1.below hbx, kn_none, kk_none, fun j hj => ?_, ?_, heap_alloc_new _ _, (hb0.trans (hb1.mono hs0)).trans (hbx.mono (by omega)), hs0⟩
    · show (if _ then _ else _) = _
      rw [if_neg (by omega)]
    · show (if _ then _ else _) = _
      rw [if_neg (by omega)]
  obtain ⟨b, hb⟩ : ∃ x, x = w0.heap.size := ⟨_, rfl⟩
  rw [← hb] at HK
  rw [← hb]
  clear hb0 hb1 hz1 hd1 hbx hs0 hs1 hb
  go_wp2
  go_loopw [16] (fun i wr => ∃ k : Nat, k ≤ 4 ∧ i = .int .i64 k ∧ Kept (KnW h W b w1.heap.size k wr)) (fun i _ => 4 - (intOf i).toNat)
  case atStart => exact ⟨0, by omega, rfl, HK⟩
  case round =>
    obtain ⟨k, hk, rfl, KW⟩ := hrel
    by_cases hlt : k < 4
    · have hz : (k : Int) < 4 := by omega
      have hz0 : (0 : Int) ≤ (k : Int) := by omega
      obtain ⟨y, hy⟩ : ∃ y, ks4[k]? = some y := ⟨_, List.getElem?_eq_getElem (by show k < 4; exact hlt)⟩
      obtain ⟨r, s, hd, hKn, hKk, hrb, hrg, hgw, hbW, hWb⟩ := KW.out
      have cy := KnW.key hgw hy
      have hbl : b < wr.heap.size := hd.1.1 b (by rw [hd.1.2.1]; simp)
      have hno := (hKk.2 k y hy).2 (Nat.le_refl _)
      have ysz := ks4_sz y (List.mem_of_getElem? hy)
      have m1 := set_any hH wr r b s y k hd (by omega) ysz
      rw [hno] at m1
      have hI := hd.2.1
      obtain ⟨hn1, ho1⟩ := kn_set (v := (k : Int)) hI hKn hlt hno
      have hk1 := kk_set (v := (k : Int)) hI hKk hy (.inl rfl)
      have HN1 := keep hn1
      have HK1 := keep hk1
      have HO1 := keep ho1
      have HY := keep hy
      have HI := keep hI
      clear hd hKn hKk hn1 hk1 ho1 hy hI
      obtain ⟨wo, hwo⟩ : ∃ x, x = wr := ⟨_, rfl⟩
      subst hwo
      go_wp2_with fail
      refine m1.mono ?_
      rintro _ w2 ⟨rfl, r2, hd2, hf2⟩
      have hI2 := hd2.2.1
      generalize (Dc.set h s y k).1 = s2 at hd2 hI2 HN1 HK1 HO1
      obtain ⟨x, hx⟩ := (HK1.out.2 k y HY.out).1 (by omega)
      have m2 := set_any hH w2 r2 b s2 y k hd2 (by omega) ysz
      rw [hx] at m2
      obtain ⟨hn2, ho2⟩ := kn_again (v := (k : Int)) hI2 HN1.out HO1.out hx
      have hk2 := kk_set (v := (k : Int)) hI2 HK1.out HY.out (.inr rfl)
      have HN2 := keep hn2
      have HK2 := keep hk2
      have HF2 := keep hf2
      clear hd2 hn2 hk2 hx hf2 m1 HK1 HN1 HO1 hI2
      go_wp2_with fail
      refine m2.mono ?_
      rintro _ w3 ⟨rfl, r3, hd3, hf3⟩
      generalize (Dc.set h s2 y k).1 = s3 at hd3 HN2 HK2 ho2
      have m3 := sizes_any w3 r3 b 0 _ s3 hd3.1
      have HF3 := keep (HF2.out.trans hf3)
      have HD3 := keep hd3
      rw [ho2, HN2.out.1, HN2.out.2.1] at m3
      clear hd3 hf3 m2 HF2 ho2
      go_wp2_with fail
      refine m3.mono ?_
      rintro _ w4 ⟨rfl, q, hw4⟩
      have hb4 : Below w3.heap.size w3 w4 := by rw [hw4]; exact below_drewN (Below.refl _ _) q
      have KW4 : Kept (KnW h W b w1.heap.size (k + 1) w4) := by
        have hF := HF3.out
        have hgl := (Array.getElem?_eq_some_iff.1 hgw).1
        have hs3 := hF.2.1
        have e := hF.2.2 _ hgl hrg
        refine ⟨r3, s3, (HD3.out.below hb4).more (by omega), HN2.out, HK2.out, fun j hj => ?_, e.2, ((hb4.block _ (by omega)).trans e.1).trans hgw, hbW.trans ((hF.below (by have := hbW.size; omega) (fun j hj => hrb j (by omega))).trans (hb4.mono (by have := hbW.size; omega))), hWb⟩
        exact (hF.2.2 j (by omega) (hrb j hj)).2
      clear hw4 m3 HD3 HF3 hb4 KW
      go_wp2
      go_roundw
      case measure => simp [intOf]; omega
      case rel => exact ⟨k + 1, by omega, by go_num, KW4⟩
    · have hz : ¬ (k : Int) < 4 := by omega
      obtain rfl : k = 4 := by omega
      obtain ⟨r, s, hd, hKn, hKk, hrb, hrg, hgw, hbW, hWb⟩ := KW.out
      have m1 := set_any hH wr r b s ke 4 hd (by omega) ke_sz
      rw [hKk.1] at m1
      have hI := hd.2.1
      obtain ⟨f1, f2, f3, f4, f5⟩ := kn_fifth (v := 4) hI hKn hKk.1
      have hbl : b < wr.heap.size := hd.1.1 b (by rw [hd.1.2.1]; simp)
      have F4 := keep f4
      clear KW hd hKn hKk hgw hI f4
      obtain ⟨wo, hwo⟩ : ∃ x, x = wr := ⟨_, rfl⟩
      subst hwo
      go_wp2_with fail
      refine m1.mono ?_
      rintro _ w2 ⟨rfl, r2, hd2, hf2⟩
      generalize (Dc.set h s ke 4).1 = s2 at hd2 f1 f2 f3 F4 f5
      have m2 := sizes_any w2 r2 b 0 _ s2 hd2.1
      rw [f1, f2, f3] at m2
      clear m1
      go_wp2_with fail
      refine m2.mono ?_
      rintro _ w3 ⟨rfl, q, hw3⟩
      have hb3 : Below w2.heap.size w2 w3 := by rw [hw3]; exact below_drewN (Below.refl _ _) q
      have hd3 := hd2.below hb3
      have hf3 : Fr wo r w3 r2 := hf2.trans (Fr.of_below hb3)
      obtain ⟨hlt8, mH⟩ := hH ke ke_sz
      clear hw3 m2 hd2 hf2 hb3
      have mB := bucket1_any w3 r2 b 0 _ s2 hd3.1 (by omega) (h ke % 8) _ F4.out (by simp)
      go_wp2_with fail
      refine (mH _).mono ?_
      rintro _ w' ⟨rfl, hw'⟩
      subst hw'
      obtain ⟨P, hP⟩ : ∃ P, h ke % 8 = P := ⟨_, rfl⟩
      have hP8 : P < 8 := by omega
      have hwr : (h ke : Int) % 8 = (P : Int) := by omega
      have HWR := keep hwr
      rw [hP] at mB
      clear mH hlt8 hP hwr
      go_wp2_with fail
      rw [HWR.out]
      refine mB.mono ?_
      rintro _ w4 ⟨⟨v, rfl, hks⟩, hb4⟩
      have hks5 : Ks w'.heap.size (w4.alloc (.cells #[.string { data := #[101] }] 9)) v [ke] := own_kept hks (fun k hk => Below.heap_alloc _ _ _ (own_lt hks hk))
      have hkl : Ks w4.heap.size (w4.alloc (.cells #[.string { data := #[101] }] 9)) (.slice (some ⟨w4.heap.size, 0, none⟩) 1 1) [ke] :=
        ⟨rfl, .inr ⟨w4.heap.size, 1, _, rfl, Nat.le_refl _, heap_alloc_new _ _, Nat.le_refl _, by unfold maxLen; omega, rfl, rfl⟩⟩
      have mS := same_any _ _ _ _ _ _ hks5 hkl
      have hb5 := hb4.alloc hb4.size (.cells #[.string { data := #[101] }] 9)
      clear hks hks5 hkl mB
      go_wp2_with fail
      refine mS.mono ?_
      rintro _ w5 ⟨rfl, hb6⟩
      have hb7 : Below w'.heap.size w' w5 := hb5.trans (hb6.mono hb5.size)
      have hd5 := hd3.below hb7
      have hf5 : Fr wo r w5 r2 := hf3.trans (Fr.of_below hb7)
      have hfin : Below W.heap.size W w5 := hbW.trans (hf5.below hbW.size (fun j hj => hrb j (by omega)))
      have hr2 : ∀ j, j < b → r2 j = (0, 0) := fun j hj => (hf5.2.2 j (by omega) (hrb j hj)).2
      have hw5 : b ≤ w5.heap.size := by have := hf5.2.1; omega
      have HD5 := keep hd5
      have HF5 := keep hfin
      have HR2 := keep hr2
      have hI2 := hd5.2.1
      have hend := Dc.steps_end 4 hI2 (fun e => by rw [e] at f2; cases f2) (by omega)
      rw [f2] at hend
      have HEND := keep hend
      clear mS hb4 hb5 hb6 hb7 hd3 hf3 hd5 hf5 hfin hr2 hI2 hend F4
      go_wp2
      go_loopw [79] (fun i wr => ∃ k : Nat, k ≤ 4 ∧ i = .int .i64 k ∧ ∃ r, Kept (Dd h 9 wr r b 0 (Dc.steps h k s2)) ∧ Kept ((Dc.all (Dc.steps h k s2)).length = 5) ∧ Kept (∀ j, j < b → r j = (0, 0)) ∧ Kept (Below W.heap.size W wr)) (fun i _ => 4 - (intOf i).toNat)
      case atStart => exact ⟨0, by omega, rfl, r2, HD5, f5, HR2, HF5⟩
      case round =>
        obtain ⟨k, hk4, rfl, r5, QD, QL, QR, QB⟩ := hrel
        by_cases hlt4 : k < 4
        · have hz4 : (k : Int) < 4 := by omega
          have m6 := get_any hH wr r5 b _ aa QD.out (by omega) aa_size
          have hlen := (okd_step QD.out.2).2
          rw [QL.out, ← steps_snoc] at hlen
          have HLEN := keep hlen
          clear hlen
          obtain ⟨wo2, hwo2⟩ : ∃ x, x = wr := ⟨_, rfl⟩
          subst hwo2
          go_wp2_with fail
          refine m6.mono ?_
          rintro _ w6 ⟨rfl, r6, hd6, hf6⟩
          rw [← steps_snoc] at hd6
          have HD6 := keep hd6
          have hbl2 : b < wo2.heap.size := QD.out.1.1 b (by rw [QD.out.1.2.1]; simp)
          have HR6 : Kept (∀ j, j < b → r6 j = (0, 0)) := fun j hj => (hf6.2.2 j (by omega) (QR.out j hj)).2
          have HB6 : Kept (Below W.heap.size W w6) := QB.out.trans (hf6.below QB.out.size (fun j hj => QR.out j (by omega)))
          clear hd6 hf6 m6
          unfold got
          go_wp2
          go_roundw
          case measure => simp [intOf]; omega
          case rel => exact ⟨k + 1, by omega, by go_num, r6, HD6, HLEN, HR6, HB6⟩
        · have hz4 : ¬ (k : Int) < 4 := by omega
          obtain rfl : k = 4 := by omega
          obtain ⟨e1, e2, e3⟩ := HEND.out
          have hl5 := QL.out
          have hd6 := QD.out
          generalize Dc.steps h 4 s2 = s6 at e1 e2 e3 hl5 hd6
          have m7 := sizes_any wr r5 b 0 _ s6 hd6.1
          rw [e1, e2, e3] at m7
          clear QD QL HEND
          obtain ⟨wo2, hwo2⟩ : ∃ x, x = wr := ⟨_, rfl⟩
          subst hwo2
          go_wp2_with fail
          refine m7.mono ?_
          rintro _ w7 ⟨rfl, q7, hw7⟩
          have hb7 : Below wo2.heap.size wo2 w7 := by rw [hw7]; exact below_drewN (Below.refl _ _) q7
          have hd7 := hd6.below hb7
          have m8 := len_any w7 r5 b 0 _ s6 hd7.1
          rw [hl5] at m8
          clear m7 hw7
          go_wp2_with fail
          refine m8.mono ?_
          rintro _ w8 ⟨rfl, hw8⟩
          subst hw8
          have m9 := clear_any h w8 r5 b 0 _ 9 s6 hd7.1
          clear m8
          go_wp2_with fail
          refine m9.mono ?_
          rintro _ w9 ⟨rfl, hd9, hf9⟩
          have ma := sizes_any w9 r5 b 0 _ _ hd9.1
          clear m9
          go_wp2_with fail
          refine ma.mono ?_
          rintro _ wa ⟨rfl, qa, hwa⟩
          have hba : Below w9.heap.size w9 wa := by rw [hwa]; exact below_drewN (Below.refl _ _) qa
          have mb := len_any wa r5 b 0 _ _ (hd9.below hba).1
          clear ma hwa
          go_wp2_with fail
          refine mb.mono ?_
          rintro _ wb ⟨rfl, hwb⟩
          subst hwb
          have hb8 : Below W.heap.size W w8 := QB.out.trans (hb7.mono QB.out.size)
          have hb9 : Below W.heap.size W w9 := hb8.trans (hf9.below hb8.size (fun j hj => QR.out j (by omega)))
          have HBA := keep (hb9.trans (hba.mono hb9.size))
          clear mb hba hd9 hf9 hd7 hb7 hb8 hb9
          go_wp2
          go_ret
          exact ⟨rfl, HBA.out⟩
end Go.Proofs.Ytcdcdodhpnmhpaa
