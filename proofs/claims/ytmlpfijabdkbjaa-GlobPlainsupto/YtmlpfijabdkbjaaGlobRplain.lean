/-
  Contracts over this program: what the document's own Plain answers at any pattern.
-/
import Derived.Test.YtmlpfijabdkbjaaGlobSgAt
import Derived.Test.YtmlpfijabdkbjaaGlobPlain
namespace Go.Proofs.Ytmlpfijabdkbjaa
open Go.RowKit
namespace Gb
/-- so far each sign was a byte, and these were they -/
def plUp (l : List Sg) (a : List UInt8) (i : Nat) : Prop := plainOf l = (plainOf (l.drop i)).map (a ++ ·)
theorem plUp_zero (l : List Sg) : plUp l [] 0 := by
  unfold plUp
  rw [List.drop_zero]
  cases plainOf l <;> rfl
theorem plB_is {g : Sg} (h : plB g = true) : g = .byte (onB g) := by
  rcases g with _ | _ | _ | _ <;> first | rfl | cases h
theorem plUp_more {l : List Sg} {a : List UInt8} {i : Nat} (h : plUp l a i) (hi : i < l.length) (hp : plB l[i] = true) : plUp l (a ++ [onB l[i]]) (i + 1) := by
  unfold plUp at *
  rw [h, List.drop_eq_getElem_cons hi]
  generalize l[i] = g at hp
  rw [plB_is hp]
  show ((plainOf (l.drop (i + 1))).map _).map _ = _
  cases plainOf (l.drop (i + 1)) <;> simp [onB]
theorem plUp_no {l : List Sg} {a : List UInt8} {i : Nat} (h : plUp l a i) (hi : i < l.length) (hp : plB l[i] = false) : plainOf l = none := by
  unfold plUp at h
  rw [h, List.drop_eq_getElem_cons hi]
  generalize l[i] = g at hp
  rcases g with _ | _ | _ | _ <;> first | rfl | cases hp
theorem plUp_end {l : List Sg} {a : List UInt8} {i : Nat} (h : plUp l a i) (hi : l.length ≤ i) : plainOf l = some a := by
  unfold plUp at h
  rw [h, List.drop_of_length_le hi]
  simp [plainOf]
theorem pl_none {p : ByteArray} (h : plainOf (sgs (D p 0)) = none) : pok p = false ∧ ptext p = ⟨#[]⟩ := by
  unfold pok ptext
  rw [h]; exact ⟨rfl, rfl⟩
theorem pl_some {p : ByteArray} {a : List UInt8} (h : plainOf (sgs (D p 0)) = some a) : pok p = true ∧ ptext p = ⟨a.toArray⟩ := by
  unfold pok ptext
  rw [h]; exact ⟨rfl, rfl⟩
end Gb
theorem one_cell (w : World) (b : UInt8) : ∀ (j : Nat) u, [Value.int .u8 b.toNat][j]? = some u → (w.alloc (.cells #[.int .u8 b.toNat] 5)).cell? (Addr.add ⟨w.heap.size, 0, none⟩ j) = some u := by
  intro j u hu
  match j, hu with
  | 0, hu => simp at hu; subst hu; simp [Addr.add, go_sem]
theorem one_one (b : UInt8) : ∀ u ∈ [Value.int .u8 b.toNat], u.oneCell' = true := by
  intro u hu
  simp at hu; subst hu; rfl
set_option maxHeartbeats 2000000 in
set_option maxRecDepth 100000 in
theorem rplain_any (p : ByteArray) (w : World) (hp : p.size ≤ 1048576) :
    Calls Try.prog 8 #[.string p] w fun e w' => e = .returned (.tuple #[.string (Gb.ptext p), .bool (Gb.pok p)]) ∧ Below w.heap.size w w' := by
  obtain ⟨i0, hi, hz0, hz1, hz2⟩ := info_u8
  have hmx : (1048576 : Nat) ≤ maxLen := by decide
  have hll := Gb.sgs_length p
  go_enter Try.func8, Try.ntmps8
  go_wp2_with fail
  refine (signs_any p w hp).mono ?_
  rintro e w1 ⟨v, rfl, hown, hb1⟩
  obtain ⟨ao, cap, rfl, hc1, hc2, hS⟩ := sgs_at hown.out rfl rfl
  have hN := keep (fun h => Gb.pl_none (p := p) h)
  have hY := keep (fun a h => Gb.pl_some (p := p) (a := a) h)
  clear hown
  generalize Gb.sgs (Gb.D p 0) = l at *
  have kb1 := keep hb1
  clear hb1
  go_wp2_with (first
    | (at_make; refine wpList_make_own _ rfl _ _ 37 rfl w1.heap.size 5 i0 (.int .u8 0) 1 Try.underlying37 hi hz0 hz1 _ _ _ l.length rfl rfl rfl (by rw [hz2]; omega) (by omega) (Nat.le_refl _) ?_; intro w2 hown2 hg2; have kown2 := keep hown2; have kb2 := keep ((Below.refl w1.heap.size w1).grown hg2 (Nat.le_refl _) (fun k hk => by cases hk)); clear hown2 hg2))
  go_loopw [5, 6] (fun v5 v6 wx => ∃ (i : Nat) (a : List UInt8), i ≤ l.length ∧ a.length = i ∧ v6 = .int .i64 i ∧ v5 = .slice (some ⟨w1.heap.size, 0, none⟩) i l.length ∧ Kept (wx.ownsRow w1.heap.size 5 1 (.slice (some ⟨w1.heap.size, 0, none⟩) i l.length) i (a.map encB)) ∧ Kept (Gb.plUp l a i) ∧ Kept (Below w1.heap.size w1 wx)) (fun _ v6 _ => l.length - (intOf v6).toNat)
  case atStart => exact ⟨0, [], by omega, rfl, rfl, rfl, kown2, Gb.plUp_zero l, kb2⟩
  case round =>
    clear kown2 kb2
    obtain ⟨i, a, hil, hai, rfl, rfl, kown, kpl, kb⟩ := hrel
    by_cases hlt : i < l.length
    · obtain ⟨g, rfl, hg, hcell⟩ := hS.out.bel kb.out i hlt
      have c1 := hcell 258 _ (sg_plain l[i])
      have c2 := hcell 257 _ (sg_one l[i])
      cases hpb : Gb.plB l[i]
      · have an := keep (hN.out (Gb.plUp_no kpl.out hlt hpb))
        rw [hpb] at c1
        clear hcell
        go_wp2
        go_ret2
        exact ⟨ret_sb an.out.2.symm an.out.1.symm, kb1.out.trans (kb.out.mono kb1.out.size)⟩
      · have km := keep (Gb.plUp_more kpl.out hlt hpb)
        rw [hpb] at c1
        clear hcell
        generalize Gb.onB l[i] = b at *
        clear hpb
        have hbl := b.toNat_lt
        have kbz := kb.out.size
        go_wp2_with (first
          | (at_builtin; refine wpList_append_fits _ rfl (.tmp 24) (.tmp 30) 37 rfl w1.heap.size 5 i0 1 Try.underlying37 hi hz1 w1.heap.size i l.length (a.map encB) rfl (kown.out.alloc _) ⟨wr.heap.size, 0, none⟩ 1 1 [.int .u8 b.toNat] rfl rfl (one_cell wr b) (one_one b) (by omega) ?_; intro w3 hown3 hgrow3; have kown3 := keep hown3; have kb3 : Kept (Below w1.heap.size w1 w3) := (kb.out.alloc kb.out.size _).grown hgrow3 (by simp; omega) (fun k hk => by cases hk; exact Nat.le_refl _); clear hown3 hgrow3))
        go_roundw
        case rel => exact ⟨i + 1, a ++ [b], by omega, by simp [hai], by go_num, by simp, by rw [map_snoc]; exact kown3.out, km, kb3⟩
        case measure => simp [intOf]; omega
    · have an := keep (hY.out a (Gb.plUp_end kpl.out (by omega)))
      have hio : i = l.length := by omega
      subst hio
      have rt := row_text (w := wr) (base := w1.heap.size) (g := w1.heap.size) (cap := l.length) (l := a) (by rw [hai]; exact kown.out)
      rw [hai] at rt
      go_wp2
      go_ret2
      exact ⟨ret_sb an.out.2.symm an.out.1.symm, kb1.out.trans (kb.out.mono kb1.out.size)⟩
end Go.Proofs.Ytmlpfijabdkbjaa
