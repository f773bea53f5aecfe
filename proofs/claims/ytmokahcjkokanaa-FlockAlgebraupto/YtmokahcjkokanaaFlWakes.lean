/-
  Contracts over this program: the statements' own wakes answers true.
-/
import Derived.Test.YtmokahcjkokanaaFlScan
import Derived.Test.YtmokahcjkokanaaFlInter
import Derived.Test.YtmokahcjkokanaaSameTexts
namespace Go.Proofs.Ytmokahcjkokanaa
open Go.RowKit Go.Shelf
abbrev ta : ByteArray := ⟨#[97]⟩
abbrev tb : ByteArray := ⟨#[98]⟩
theorem mem_kys {h : ByteArray → Nat} {s : Sx} (hI : Dc.Inv h s) {k : ByteArray} : k ∈ kys s ↔ (lk s k).isSome = true := (has_mem hI).symm
theorem kys_nodup {h : ByteArray → Nat} {s : Sx} (hI : Dc.Inv h s) : (kys s).Nodup := all_nodup hI
theorem kys_len (s : Sx) : (kys s).length = ln s := by unfold kys ln; rw [List.length_map]
/-- what members cost -/
def csk (l : List ByteArray) : Nat := (l.map fun x => 24 + x.size).sum
theorem csk_perm {l m : List ByteArray} (h : l.Perm m) : csk l = csk m := (h.map _).sum_nat
theorem cst_kys (s : Sx) : cst (Dc.all s) = csk (kys s) := by unfold cst csk kys; rw [List.map_map]; rfl
theorem srs_two {h : ByteArray → Nat} {s : Sx} (hI : Dc.Inv h s) (hk : ∀ k, (lk s k).isSome = true ↔ k = ta ∨ k = tb) : Srs (kys s) [ta, tb] := by
  refine ⟨perm_of_mem (by decide) (kys_nodup hI) (fun k => ?_), by decide⟩
  rw [mem_kys hI, hk k]
  simp
theorem srs_nodup {l m : List ByteArray} (h : Srs l m) : l.Nodup := h.1.nodup_iff.1 h.nodup
theorem ks_of {B : Nat} {w : World} {v : Value} {L : List ByteArray} (h : Rw B w v L) : Ks B w v L := h
theorem ks_prs {B : Nat} {w : World} {v : Value} {L : List ByteArray} (h : Prs B w v L) : Ks B w v L := by
  obtain ⟨g, _, h⟩ := h
  exact h
theorem inter_self (l : List ByteArray) : (l.filter fun x => tal [l] x == 1) = l := by
  rw [List.filter_eq_self]
  intro x hx
  unfold tal
  simp [(inB_iff x l).2 hx]
set_option maxRecDepth 100000 in
set_option maxHeartbeats 4000000 in
theorem wakes_any [Inhabited Txt] (w : World) : Calls Try.prog 7 #[] w fun e w' => e = .returned (.bool true) ∧ Below w.heap.size w w' := by
  have hH := hs_is 0 (by decide)
  obtain ⟨h, hh⟩ : ∃ h, hs 0 = h := ⟨_, rfl⟩
  rw [hh] at hH
  clear hh
  have mN := rnew_any h w 0 0
  rw [show ((0 : Nat) : Int) = 0 from rfl] at mN
  have HH := keep hH
  clear hH
  go_enter Try.func7, Try.ntmps7
  go_wp2_with fail
  refine mN.mono ?_
  rintro _ w1 ⟨rfl, hb1, hr1⟩
  have hn1 : Rn h 0 w w1 (fun k => if k = w.heap.size then (5, 0) else (0, 0)) (w.heap.size + 1) w.heap.size 0 Dc.none0 := ⟨hr1, by omega, fun k hk => if_neg (by omega), hb1⟩
  generalize (fun k => if k = w.heap.size then (5, 0) else (0, 0)) = r1 at hn1
  have m1 := fadd_new HH.out hn1.1 (by omega) tb (by decide) rfl (by decide)
  have HN1 := keep hn1
  clear hr1 hn1 hb1 mN
  obtain ⟨R, hR⟩ : ∃ R, w.heap.size + 1 = R := ⟨_, rfl⟩
  rw [hR] at m1 HN1
  go_wp2_with fail
  refine m1.mono ?_
  clear hR
  rintro _ w2 ⟨rfl, r2, s2, hr2, hs2, hf2⟩
  have HN2 := keep (HN1.out.step hr2 hf2)
  have HS2 := keep hs2
  have hl2 : lk s2 ta = none := by rw [hs2.1 ta]; rfl
  have hz2 : ln s2 < 1048576 := by rw [hs2.2]; decide
  have m2 := fadd_new HH.out hr2 (by omega) ta (by decide) hl2 hz2
  clear m1 HN1 hr2 hs2 hf2 hl2 hz2
  go_wp2_with fail
  refine m2.mono ?_
  rintro _ w3 ⟨rfl, r3, s3, hr3, hs3, hf3⟩
  have HN3 := keep (HN2.out.step hr3 hf3)
  have hk3 : ∀ k, (lk s3 k).isSome = true ↔ k = ta ∨ k = tb := fun k => by
    rw [hs3.1 k]
    by_cases e1 : k = ta
    · simp [e1]
    · rw [if_neg e1, HS2.out.1 k]
      by_cases e2 : k = tb
      · simp [e2]
      · rw [if_neg e2]; simp [e1, e2, lk_none]
  have hL3 := srs_two hr3.1.2.1 hk3
  obtain ⟨c', l, mS, _, hl1, _, _, hl2, hl3⟩ := fscan_any w3 r3 R w.heap.size s3 hr3 (by omega) 0 (by decide) 100
  have hc0 : c' = 0 := by
    rcases hl2 with e | e
    · exact e
    · omega
  subst hc0
  have hll : l.length = 2 := by rw [(hl3 rfl rfl).length_eq, ← hL3.1.length_eq]; rfl
  rw [show ((0 : Nat) : Int) = 0 from rfl] at mS
  have HL3 := keep hL3
  have HK3 := keep hk3
  clear m2 HN2 HS2 hr3 hs3 hf3 hk3 hL3 hl1 hl2 hl3
  go_wp2_with fail
  refine mS.mono ?_
  rintro _ w4 ⟨⟨v4, rfl, hk4⟩, hb4⟩
  obtain ⟨ao4, cap4, rfl⟩ := ks_len hk4
  rw [hll]
  have HN4 := keep (HN3.out.below hb4)
  clear hk4 hb4 HN3 mS hll
  have m4 := fsample_at w4 r3 R w.heap.size s3 HN4.out.1 (by omega) 0 (by decide) [ta, tb] HL3.out ta rfl
  rw [show ((0 : Nat) : Int) = 0 from rfl] at m4
  go_wp2_with fail
  refine m4.mono ?_
  rintro _ w5 ⟨rfl, hb5⟩
  have HN5 := keep (HN4.out.below hb5)
  have m5 := fhas_any HH.out HN5.out.1 (by omega) ta (by decide)
  rw [show (lk s3 ta).isSome = true from (HK3.out ta).2 (.inl rfl)] at m5
  clear m4 HN4 hb5
  go_wp2_with fail
  refine m5.mono ?_
  rintro _ w6 ⟨rfl, r6, s6, hr6, hs6, hf6⟩
  have HN6 := keep (HN5.out.step hr6 hf6)
  have hL6 := srs_two hr6.1.2.1 (fun k => by rw [hs6.1 k]; exact HK3.out k)
  have mL := rlen_any hr6
  have mC := rcost_any hr6
  have mM := fmembers_any w6 r6 R w.heap.size s6 hr6 (by omega)
  rw [← kys_len, ← hL6.1.length_eq, show ((([ta, tb] : List ByteArray).length : Nat) : Int) = 2 from rfl] at mL
  rw [cst_kys, ← csk_perm hL6.1, show ((csk [ta, tb] : Nat) : Int) = 50 from rfl] at mC
  have HL6 := keep hL6
  clear m5 HN5 hr6 hs6 hf6 hL6 HK3 HL3
  go_wp2_with fail
  refine mL.mono ?_
  rintro _ w' ⟨rfl, hw'⟩
  obtain rfl := hw'.symm
  go_wp2_with fail
  refine mC.mono ?_
  rintro _ w' ⟨rfl, hw'⟩
  obtain rfl := hw'.symm
  go_wp2_with fail
  refine mM.mono ?_
  rintro _ w7 ⟨v7, L7, rfl, hL7, hP7, hb7⟩
  obtain rfl : L7 = [ta, tb] := hL7.eq HL6.out (List.Perm.refl _)
  have hk7 := ks_prs hP7
  have hk8 : Ks w6.heap.size (w7.alloc (.cells #[.string ta, .string tb] 9)) v7 [ta, tb] := own_kept hk7 (fun k hk => Below.heap_alloc _ _ _ (own_lt hk7 hk))
  have hkl : Ks w7.heap.size (w7.alloc (.cells #[.string ta, .string tb] 9)) (.slice (some ⟨w7.heap.size, 0, none⟩) 2 2) [ta, tb] :=
    ⟨rfl, .inr ⟨w7.heap.size, 2, _, rfl, Nat.le_refl _, heap_alloc_new _ _, Nat.le_refl _, by unfold maxLen; omega, rfl, rfl⟩⟩
  have mE := keep (same_any _ _ _ _ _ _ hk8 hkl)
  have hba : Below w7.heap.size w7 (w7.alloc (.cells #[.string ta, .string tb] 9)) := (Below.refl _ _).alloc (Nat.le_refl _) _
  have HB7 := keep (hb7.trans (hba.mono hb7.size))
  clear hL7 hP7 hb7 hk7 hk8 hkl hba mL mC mM
  go_wp2_with fail
  refine mE.out.mono ?_
  rintro _ w8 ⟨rfl, hb8⟩
  have hb68 : Below w6.heap.size w6 w8 := HB7.out.trans (hb8.mono HB7.out.size)
  have HN8 := keep (HN6.out.below hb68)
  obtain ⟨W9, hW9⟩ : ∃ W9, w8.alloc (.cells #[.pointer (some ⟨R, 0, none⟩), .pointer (some ⟨R, 0, none⟩)] 25) = W9 := ⟨_, rfl⟩
  have hb9 : Below w8.heap.size w8 W9 := by rw [← hW9]; exact (Below.refl _ w8).alloc (Nat.le_refl _) _
  have hg9 : W9.heap[w8.heap.size]? = some (.cells #[.pointer (some ⟨R, 0, none⟩), .pointer (some ⟨R, 0, none⟩)] 25 (0, 0)) := by rw [← hW9]; exact heap_alloc_new _ _
  have hn9 := HN8.out.below hb9
  have mI := inter_any W9 w8.heap.size 0 2 (R, kys s6) [(R, kys s6)] (fun j p hp => by
    rw [Nat.zero_add]
    match j, hp with
    | 0, hp => cases hp; rw [cell_of_row _ _ _ _ _ _ hg9]; rfl
    | 1, hp => cases hp; rw [cell_of_row _ _ _ _ _ _ hg9]; rfl
    | j + 2, hp => simp at hp) (fun p hp => by
      obtain rfl : p = (R, kys s6) := by simpa using hp
      exact ⟨h, _, r6, w.heap.size, 0, s6, hn9.1, by omega, rfl⟩) (by simp) (by simp) (by
      show (kys s6).length + 0 ≤ _
      rw [← HL6.out.1.length_eq]; decide)
  rw [show ((kys s6).filter fun x => tal ([(R, kys s6)].map (·.2)) x == [(R, kys s6)].length) = kys s6 from inter_self _] at mI
  have HN9 := keep hn9
  clear mE HB7 hb8 hb68 HN6 HN8 hb9 hg9 hn9
  go_wp2_with fail
  refine mI.mono ?_
  rintro _ w10 ⟨v10, rfl, L10, hL10, hR10, hb10⟩
  obtain rfl : L10 = [ta, tb] := hL10.eq HL6.out (List.Perm.refl _)
  have hk10 := ks_of hR10
  have hk11 : Ks W9.heap.size (w10.alloc (.cells #[.string ta, .string tb] 9)) v10 [ta, tb] := own_kept hk10 (fun k hk => Below.heap_alloc _ _ _ (own_lt hk10 hk))
  have hkl : Ks w10.heap.size (w10.alloc (.cells #[.string ta, .string tb] 9)) (.slice (some ⟨w10.heap.size, 0, none⟩) 2 2) [ta, tb] :=
    ⟨rfl, .inr ⟨w10.heap.size, 2, _, rfl, Nat.le_refl _, heap_alloc_new _ _, Nat.le_refl _, by unfold maxLen; omega, rfl, rfl⟩⟩
  have mE := keep (same_any _ _ _ _ _ _ hk11 hkl)
  have hba : Below w10.heap.size w10 (w10.alloc (.cells #[.string ta, .string tb] 9)) := (Below.refl _ _).alloc (Nat.le_refl _) _
  have HN11 := keep ((HN9.out.below hb10).below hba)
  clear hL10 hR10 hb10 hk10 hk11 hkl hba mI HN9
  go_wp2_with fail
  refine mE.out.mono ?_
  rintro _ w11 ⟨rfl, hb11⟩
  have HN12 := keep (HN11.out.below hb11)
  clear mE HN11 hb11
  go_wp2
  go_ret
  exact ⟨rfl, HN12.out.2.2.2⟩
end Go.Proofs.Ytmokahcjkokanaa
