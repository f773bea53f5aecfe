/-
  The statement's own walk: the chapter's examples, and no flock.
-/
import Derived.Test.YtmokahcjkokanaaFlAlg2
import Derived.Test.YtmokahcjkokanaaFlTally2
/-
  Contracts over this program: a flock of these texts (of); a text of bytes 0; what rows of a few texts have together.
-/
namespace Go.Proofs.Ytmokahcjkokanaa
open Go.RowKit Go.Shelf
theorem info_u8C : (Try.prog.info? 5).map (fun i => (i.zero, i.size, i.bytes)) = some (some (.int .u8 0), 1, 1) := by kernel_rfl
theorem own_at {B : Nat} {w : World} {e g n cap j : Nat} {xs : List Value} {x : Value} (h : w.ownsRow B e 1 (.slice (some ⟨g, 0, none⟩) n cap) n xs) (hx : xs[j]? = some x) : w.cell? ⟨g, j, none⟩ = some x := by
  have add : ∀ i, (⟨g, 0, none⟩ : Addr).add i = ⟨g, i, none⟩ := by intro i; unfold Addr.add; split <;> simp_all
  have := h.cells (g := g) rfl j x hx
  rwa [add] at this
/-- the text of n bytes 0, as make and a conversion lay it -/
theorem zeros_text (w : World) (n : Nat) (hn : n ≤ 2097152) :
    ∃ w' z, (Instr.makeSlice 51 (.int .i64 (n : Int)) (.int .i64 (n : Int))).run Try.prog w = .ok (.slice (some ⟨w.heap.size, 0, none⟩) n n) w' ∧ (convert 51 9 (.slice (some ⟨w.heap.size, 0, none⟩) n n)).run Try.prog w' = .ok (.string z) w' ∧ z.size = n ∧ Below w.heap.size w w' := by
  obtain ⟨i0, hi0, hz0, hz1, hz2⟩ := info_parts info_u8C
  obtain ⟨w', h1, h2, h3⟩ := run_make_full (P := Try.prog) w w.heap.size 51 5 i0 (.int .u8 0) 1 Try.underlying51 hi0 hz0 hz1 .i64 .i64 n (by rw [hz2]; omega) (by unfold maxLen; omega) (Nat.le_refl _)
  have hl : (List.replicate n (0 : UInt8)).length = n := List.length_replicate
  refine ⟨w', ⟨(List.replicate n (0 : UInt8)).toArray⟩, h1, ?_, by show (List.replicate n (0 : UInt8)).toArray.size = n; simp, (Below.refl _ w).grown h3 (Nat.le_refl _) (fun k hk => by cases hk)⟩
  have hb := run_convert_bytes_back (P := Try.prog) w' 51 9 5 ⟨w.heap.size, 0, none⟩ n (List.replicate n 0) Try.underlying51 Try.underlying5 Try.underlying9 (fun j hj => by
    rw [hl] at hj
    have e : (⟨w.heap.size, 0, none⟩ : Addr).add j = ⟨w.heap.size, j, none⟩ := by unfold Addr.add; split <;> simp_all
    rw [e, List.getElem_replicate]
    refine own_at h2 ?_
    show (madeCells #[.int .u8 0] (n * 1)).toList[j]? = _
    rw [toList_madeCells_one, Nat.mul_one, List.getElem?_replicate, if_pos hj]
    rfl)
  rw [hl] at hb
  exact hb
/-- Add of a text that may be a member, while there is room -/
theorem fadd_in {h : ByteArray → Nat} {seed N : Nat} (hH : HashIs seed h) {w : World} {r : Roles} {R b : Nat} {s : Sx} (hr : Rec h N w r R b seed s) (hN : N + 1 ≤ 2600000000000) (f : ByteArray) (hf : f.size ≤ 1048576) (hl : ln s < 1048576) :
    Calls Try.prog 11 #[.pointer (some ⟨R, 0, none⟩), .string f] w fun e w' => (∃ (x : Bool) (c : Int), e = .returned (.tuple #[.bool x, .int .i64 c])) ∧ ∃ r' s', Rec h (N + 1) w' r' R b seed s' ∧ (∀ k, (lk s' k).isSome = true ↔ (lk s k).isSome = true ∨ k = f) ∧ ln s' ≤ ln s + 1 ∧ Fr w (rr r R) w' (rr r' R) := by
  cases hlk : lk s f with
  | some u =>
    refine (fadd_old hH hr (by omega) f hf u hlk).mono ?_
    rintro _ w' ⟨rfl, r', s', q1, q2, q3⟩
    refine ⟨⟨_, _, rfl⟩, r', s', q1.more (by omega), fun k => ?_, by rw [q2.2]; omega, q3⟩
    rw [q2.1 k]
    constructor
    · exact .inl
    · rintro (e | e)
      · exact e
      · rw [e, hlk]; rfl
  | none =>
    refine (fadd_new hH hr hN f hf hlk hl).mono ?_
    rintro _ w' ⟨rfl, r', s', q1, q2, q3⟩
    refine ⟨⟨_, _, rfl⟩, r', s', q1, fun k => ?_, ?_, q3⟩
    · rw [q2.1 k]
      by_cases e : k = f
      · rw [if_pos e]; simp [e]
      · rw [if_neg e]; simp [e]
    · rw [q2.2]
      split <;> omega
/-- the table has just these texts -/
def Just (s : Sx) (L : List ByteArray) : Prop := ∀ k, (lk s k).isSome = true ↔ k ∈ L
set_option maxHeartbeats 600000 in
theorem made_any (w : World) (g cap : Nat) (L : List ByteArray) (hc : ∀ j x, L[j]? = some x → w.cell? ⟨g, j, none⟩ = some (.string x)) (hsz : ∀ x ∈ L, x.size ≤ 1048576) (hl : L.length ≤ 1000) :
    Calls Try.prog 23 #[.slice (some ⟨g, 0, none⟩) L.length cap] w fun e w' => e = .returned (.pointer (some ⟨w.heap.size + 1, 0, none⟩)) ∧ ∃ h, HashIs 9 h ∧ ∃ r s, Rn h L.length w w' r (w.heap.size + 1) w.heap.size 9 s ∧ Just s L := by
  have hH := hs_is 9 (by decide)
  obtain ⟨h, hh⟩ : ∃ h, hs 9 = h := ⟨_, rfl⟩
  rw [hh] at hH
  clear hh
  have mN := rnew_any h w 9 0
  rw [show ((9 : Nat) : Int) = 9 from rfl] at mN
  obtain ⟨n, hn⟩ : ∃ n, L.length = n := ⟨_, rfl⟩
  rw [hn] at hl ⊢
  have HN := keep hn
  have HC := keep hc
  have HS := keep hsz
  have HH := keep hH
  clear hn hc hsz hH
  go_enter Try.func23, Try.ntmps23
  go_wp2_with fail
  refine mN.mono ?_
  rintro _ w1 ⟨rfl, hb1, hr1⟩
  have I1 : Kept (Rn h 0 w w1 (fun k => if k = w.heap.size then (5, 0) else (0, 0)) (w.heap.size + 1) w.heap.size 9 Dc.none0) := ⟨hr1, by omega, fun k hk => if_neg (by omega), hb1⟩
  clear hb1 hr1 mN
  go_wp2
  go_loopw [9] (fun i wr => ∃ (k : Nat) (r : Roles) (s : Sx), k ≤ n ∧ i = .int .i64 k ∧ Kept (Rn h k w wr r (w.heap.size + 1) w.heap.size 9 s) ∧ Kept (Just s (L.take k)) ∧ Kept (ln s ≤ k)) (fun i _ => n - (intOf i).toNat)
  case atStart => exact ⟨0, _, _, Nat.zero_le _, rfl, I1, fun k => by simp [lk_none], by rw [ln_none]; exact Nat.zero_le _⟩
  case round =>
    obtain ⟨k, r, s, hk, rfl, KR, KJ, KL⟩ := hrel
    by_cases hlt : k < n
    · have hltz : (k : Int) < (n : Int) := by omega
      have hk0 : (0 : Int) ≤ (k : Int) := by omega
      have hwk : IntKind.i64.wrap ((k : Int) + 1) = (k : Int) + 1 := by rw [IntKind.wrap_i64]; omega
      obtain ⟨x, hx⟩ : ∃ x, L[k]? = some x := ⟨_, List.getElem?_eq_getElem (by rw [HN.out]; exact hlt)⟩
      have c0 := (KR.out.2.2.2.cell (p := ⟨g, k, none⟩) (World.block_lt_of_cell? _ _ (HC.out k x hx))).trans (HC.out k x hx)
      have mA := fadd_in HH.out KR.out.1 (by omega) x (HS.out x (List.mem_of_getElem? hx)) (by have := KL.out; omega)
      have hJ : ∀ y, y ∈ L.take (k + 1) ↔ y ∈ L.take k ∨ y = x := fun y => by
        obtain ⟨hkl, e⟩ := List.getElem?_eq_some_iff.1 hx
        rw [List.take_succ_eq_append_getElem hkl, e]
        simp
      have HJ := keep hJ
      clear hx hJ
      go_wp2_with fail
      refine mA.mono ?_
      rintro _ w2 ⟨⟨xb, cc, rfl⟩, r2, s2, q1, q2, q3, q4⟩
      have I4 := keep (KR.out.step q1 q4)
      have J4 : Kept (Just s2 (L.take (k + 1))) := fun y => by rw [q2 y, KJ.out y]; exact (HJ.out y).symm
      have L4 : Kept (ln s2 ≤ k + 1) := by have := KL.out; show _ ≤ _; omega
      clear mA q1 q2 q3 q4
      go_wp2
      go_roundw
      case measure => simp [intOf]; omega
      case rel => exact ⟨k + 1, r2, s2, by omega, by go_num, I4, J4, L4⟩
    · have hltz : ¬ (k : Int) < (n : Int) := by omega
      obtain rfl : k = n := by omega
      go_wp2
      go_ret
      refine ⟨rfl, h, HH.out, r, s, KR.out, ?_⟩
      have := KJ.out
      rwa [List.take_of_length_le (by rw [HN.out]; exact Nat.le_refl _)] at this
theorem mem_just {h : ByteArray → Nat} {s : Sx} {L : List ByteArray} (hI : Dc.Inv h s) (hJ : Just s L) (k : ByteArray) : k ∈ kys s ↔ k ∈ L := by rw [mem_kys hI]; exact hJ k
theorem srs_of {ks res : List ByteArray} (hn : ks.Nodup) (hr : res.Pairwise (fun a b => ky a < ky b)) (hm : ∀ x, x ∈ ks ↔ x ∈ res) : Srs ks res :=
  ⟨perm_of_mem (Srs.nodup (l := res) ⟨List.Perm.refl _, hr⟩) hn (fun x => (hm x).symm), hr⟩
theorem tal1 (l : List ByteArray) (x : ByteArray) : tal [l] x = if inB x l then 1 else 0 := by unfold tal; cases h : inB x l <;> simp [h]
theorem tal2 (l m : List ByteArray) (x : ByteArray) : tal [l, m] x = (if inB x l then 1 else 0) + if inB x m then 1 else 0 := by
  have := tal_snoc [l] m x
  rw [List.singleton_append, tal1] at this
  exact this
theorem both2 {l m : List ByteArray} {x : ByteArray} : (tal [l, m] x == 2) = true ↔ x ∈ l ∧ x ∈ m := by
  rw [tal2, ← inB_iff, ← inB_iff, beq_iff_eq]
  cases inB x l <;> cases inB x m <;> simp
theorem none2 {l m : List ByteArray} {x : ByteArray} : (tal [l, m] x == 0) = true ↔ x ∉ l ∧ x ∉ m := by
  rw [tal2, ← inB_iff, ← inB_iff, beq_iff_eq]
  cases inB x l <;> cases inB x m <;> simp
end Go.Proofs.Ytmokahcjkokanaa

namespace Go.Proofs.Ytmokahcjkokanaa
open Go.RowKit Go.Shelf
abbrev tc : ByteArray := ⟨#[99]⟩
abbrev td : ByteArray := ⟨#[100]⟩
abbrev tx : ByteArray := ⟨#[120]⟩
theorem t_ne : ta ≠ tb ∧ ta ≠ tc ∧ ta ≠ td ∧ tb ≠ tc ∧ tb ≠ td ∧ tc ≠ td := by decide
theorem just_flk {h : ByteArray → Nat} {N R b seed : Nat} {W w : World} {r : Roles} {s : Sx} (hn : Rn h N W w r R b seed s) (hN : N ≤ 2600000000000) : FlkO w (some R) (kys s) := ⟨h, N, r, b, seed, s, hn.1, hN, rfl⟩
theorem some_of {s : Sx} {k : ByteArray} (h : (lk s k).isSome = true) : lk s k = some () := by
  cases hh : lk s k with
  | none => rw [hh] at h; cases h
  | some u => rfl
theorem none_of' {s : Sx} {k : ByteArray} (h : ¬ (lk s k).isSome = true) : lk s k = none := by
  cases hh : lk s k with
  | none => rfl
  | some u => rw [hh] at h; exact absurd rfl h
set_option maxRecDepth 100000 in
set_option maxHeartbeats 16000000 in
theorem known_walk [Inhabited Txt] (W0 : World) : Calls Try.prog 6 #[] W0 fun e w' => e = .returned (.bool true) ∧ Below W0.heap.size W0 w' := by
  go_enter Try.func6, Try.ntmps6
  go_wp2_with fail
  refine (wakes_any W0).mono ?_
  rintro _ W ⟨rfl, hbW⟩
  have HBW := keep hbW
  clear hbW
  obtain ⟨X1, hX1⟩ : ∃ X, W.alloc (.cells #[.string tb, .string ta] 9) = X := ⟨_, rfl⟩
  have hbX1 : Below W.heap.size W X1 := by rw [← hX1]; exact (Below.refl _ _).alloc (Nat.le_refl _) _
  have hgX1 : X1.heap[W.heap.size]? = some (.cells #[.string tb, .string ta] 9 (0, 0)) := by rw [← hX1]; exact heap_alloc_new _ _
  have mM := made_any X1 W.heap.size 2 [tb, ta] (fun j x hp => by
      match j, hp with
      | 0, hp => cases hp; rw [cell_of_row _ _ _ _ _ _ hgX1]; rfl
      | 1, hp => cases hp; rw [cell_of_row _ _ _ _ _ _ hgX1]; rfl
      | j + 2, hp => simp at hp) (by decide) (by decide)
  go_wp2_with fail
  refine mM.mono ?_
  rintro _ w2 ⟨rfl, hf, HHf, rf, sf, hn, hj⟩
  have HHf := keep HHf
  have Jf := keep hj
  have hbN : Below X1.heap.size X1 w2 := hn.2.2.2
  have HX := keep hX1
  have Nf := keep hn
  clear mM hj hn hbN hbX1 hgX1
  have HB1 : Kept (Below W0.heap.size W0 X1) := HBW.out.trans ((by rw [← HX.out]; exact (Below.refl _ _).alloc (Nat.le_refl _) _ : Below W.heap.size W X1).mono HBW.out.size)
  have mA := fadd_old HHf.out Nf.out.1 (by decide) tb (by decide) () (some_of ((Jf.out tb).2 (by simp)))
  go_wp2_with fail
  refine mA.mono ?_
  rintro _ w3 ⟨rfl, r3, s3, q1, q2, q3⟩
  have Nf := keep (Nf.out.step q1 q3)
  have J3 : Kept (Just s3 [tb, ta]) := fun k => by rw [q2.1 k]; exact Jf.out k
  have hL3 := srs_two Nf.out.1.1.2.1 (fun k => by rw [J3.out k]; simp [or_comm])
  have mS := fsample_at w3 r3 _ _ s3 Nf.out.1 (by decide) 5 (by decide) [ta, tb] hL3 tb rfl
  rw [show ((5 : Nat) : Int) = 5 from rfl] at mS
  clear mA q1 q2 q3 hL3
  go_wp2_with fail
  refine mS.mono ?_
  rintro _ w4 ⟨rfl, hb4⟩
  have Nf := keep (Nf.out.below hb4)
  have mD := fdel_any HHf.out Nf.out.1 (by decide) ta (by decide)
  rw [show (lk s3 ta).isSome = true from (J3.out ta).2 (by simp)] at mD
  clear mS hb4
  go_wp2_with fail
  refine mD.mono ?_
  rintro _ w5 ⟨rfl, r5, s5, q1, q2, q3⟩
  have Nf := keep (Nf.out.step q1 q3)
  have J5 : Kept (Just s5 [tb]) := fun k => by
    rw [q2.1 k]
    by_cases e : k = ta
    · rw [if_pos e, e]; simp [t_ne.1]
    · rw [if_neg e, J3.out k]; simp [e]
  have mD := fdel_any HHf.out Nf.out.1 (by decide) ta (by decide)
  rw [show (lk s5 ta).isSome = false from by
    cases hh : (lk s5 ta).isSome with
    | false => rfl
    | true => exact absurd ((J5.out ta).1 hh) (by simp [t_ne.1])] at mD
  clear q1 q2 q3
  go_wp2_with fail
  refine mD.mono ?_
  rintro _ w6 ⟨rfl, r6, s6, q1, q2, q3⟩
  have Nf := keep (Nf.out.step q1 q3)
  have J6 : Kept (Just s6 [tb]) := fun k => by
    rw [q2.1 k]
    by_cases e : k = ta
    · rw [if_pos e, e]; simp [t_ne.1]
    · rw [if_neg e, J5.out k]
  have hL6 : Srs (kys s6) [tb] := srs_of (kys_nodup Nf.out.1.1.2.1) (by simp) (mem_just Nf.out.1.1.2.1 J6.out)
  have mC := rcost_any Nf.out.1
  rw [cst_kys, ← csk_perm hL6.1, show ((csk [tb] : Nat) : Int) = 25 from rfl] at mC
  have LN6 : Kept (ln s6 = 1) := by show _ = _; rw [← kys_len, ← hL6.1.length_eq]; rfl
  clear mD q1 q2 q3 hL6
  go_wp2_with fail
  refine mC.mono ?_
  rintro _ w' ⟨rfl, hw'⟩
  obtain rfl := hw'.symm
  clear mC
  obtain ⟨X2, hX2⟩ : ∃ X, w6.alloc (.cells #[.string ta, .string tb, .string tc] 9) = X := ⟨_, rfl⟩
  have hbX2 : Below w6.heap.size w6 X2 := by rw [← hX2]; exact (Below.refl _ _).alloc (Nat.le_refl _) _
  have hgX2 : X2.heap[w6.heap.size]? = some (.cells #[.string ta, .string tb, .string tc] 9 (0, 0)) := by rw [← hX2]; exact heap_alloc_new _ _
  have Nf := keep (Nf.out.below hbX2)
  have mM := made_any X2 w6.heap.size 3 [ta, tb, tc] (fun j x hp => by
      match j, hp with
      | 0, hp => cases hp; rw [cell_of_row _ _ _ _ _ _ hgX2]; rfl
      | 1, hp => cases hp; rw [cell_of_row _ _ _ _ _ _ hgX2]; rfl
      | 2, hp => cases hp; rw [cell_of_row _ _ _ _ _ _ hgX2]; rfl
      | j + 3, hp => simp at hp) (by decide) (by decide)
  go_wp2_with fail
  refine mM.mono ?_
  rintro _ w8 ⟨rfl, ha, HHa, ra, sa, hn, hj⟩
  have HHa := keep HHa
  have Ja := keep hj
  have hbN : Below X2.heap.size X2 w8 := hn.2.2.2
  have Nf := keep (Nf.out.below hbN)
  have HX := keep hX2
  have Na := keep hn
  clear mM hj hn hbN hbX2 hgX2
  obtain ⟨X3, hX3⟩ : ∃ X, w8.alloc (.cells #[.string tb, .string tc, .string td] 9) = X := ⟨_, rfl⟩
  have hbX3 : Below w8.heap.size w8 X3 := by rw [← hX3]; exact (Below.refl _ _).alloc (Nat.le_refl _) _
  have hgX3 : X3.heap[w8.heap.size]? = some (.cells #[.string tb, .string tc, .string td] 9 (0, 0)) := by rw [← hX3]; exact heap_alloc_new _ _
  have Nf := keep (Nf.out.below hbX3)
  have Na := keep (Na.out.below hbX3)
  have mM := made_any X3 w8.heap.size 3 [tb, tc, td] (fun j x hp => by
      match j, hp with
      | 0, hp => cases hp; rw [cell_of_row _ _ _ _ _ _ hgX3]; rfl
      | 1, hp => cases hp; rw [cell_of_row _ _ _ _ _ _ hgX3]; rfl
      | 2, hp => cases hp; rw [cell_of_row _ _ _ _ _ _ hgX3]; rfl
      | j + 3, hp => simp at hp) (by decide) (by decide)
  go_wp2_with fail
  refine mM.mono ?_
  rintro _ w10 ⟨rfl, hb, HHb, rb, sb, hn, hj⟩
  have HHb := keep HHb
  have Jb := keep hj
  have hbN : Below X3.heap.size X3 w10 := hn.2.2.2
  have Nf := keep (Nf.out.below hbN)
  have Na := keep (Na.out.below hbN)
  have HX := keep hX3
  have Nb := keep hn
  clear mM hj hn hbN hbX3 hgX3
  obtain ⟨X4, hX4⟩ : ∃ X, w10.alloc (.cells #[.string tc] 9) = X := ⟨_, rfl⟩
  have hbX4 : Below w10.heap.size w10 X4 := by rw [← hX4]; exact (Below.refl _ _).alloc (Nat.le_refl _) _
  have hgX4 : X4.heap[w10.heap.size]? = some (.cells #[.string tc] 9 (0, 0)) := by rw [← hX4]; exact heap_alloc_new _ _
  have Nf := keep (Nf.out.below hbX4)
  have Na := keep (Na.out.below hbX4)
  have Nb := keep (Nb.out.below hbX4)
  have mM := made_any X4 w10.heap.size 1 [tc] (fun j x hp => by
      match j, hp with
      | 0, hp => cases hp; rw [cell_of_row _ _ _ _ _ _ hgX4]; rfl
      | j + 1, hp => simp at hp) (by decide) (by decide)
  go_wp2_with fail
  refine mM.mono ?_
  rintro _ w12 ⟨rfl, hc, HHc, rc, sc, hn, hj⟩
  have HHc := keep HHc
  have Jc := keep hj
  have hbN : Below X4.heap.size X4 w12 := hn.2.2.2
  have Nf := keep (Nf.out.below hbN)
  have Na := keep (Na.out.below hbN)
  have Nb := keep (Nb.out.below hbN)
  have HX := keep hX4
  have Nc := keep hn
  clear mM hj hn hbN hbX4 hgX4
  have Fa := keep (just_flk Na.out (by decide))
  have Ma := keep (mem_just Na.out.1.1.2.1 Ja.out)
  have Da := keep (kys_nodup Na.out.1.1.2.1)
  have La : Kept ((kys sa).length ≤ 3) := by
    show _ ≤ _
    rw [(srs_of Da.out (by decide) Ma.out : Srs (kys sa) [ta, tb, tc]).1.length_eq.symm]; decide
  clear Na
  have Fb := keep (just_flk Nb.out (by decide))
  have Mb := keep (mem_just Nb.out.1.1.2.1 Jb.out)
  have Db := keep (kys_nodup Nb.out.1.1.2.1)
  have Lb : Kept ((kys sb).length ≤ 3) := by
    show _ ≤ _
    rw [(srs_of Db.out (by decide) Mb.out : Srs (kys sb) [tb, tc, td]).1.length_eq.symm]; decide
  clear Nb
  have Fc := keep (just_flk Nc.out (by decide))
  have Mc := keep (mem_just Nc.out.1.1.2.1 Jc.out)
  have Dc := keep (kys_nodup Nc.out.1.1.2.1)
  have Lc : Kept ((kys sc).length ≤ 3) := by
    show _ ≤ _
    rw [(srs_of Dc.out (by decide) Mc.out : Srs (kys sc) [tc]).1.length_eq.symm]; decide
  clear Nc
  obtain ⟨X5, hX5⟩ : ∃ X, w12.alloc (.cells #[.pointer (some ⟨X2.heap.size + 1, 0, none⟩), .pointer (some ⟨X3.heap.size + 1, 0, none⟩), .pointer (some ⟨X4.heap.size + 1, 0, none⟩)] 25) = X := ⟨_, rfl⟩
  have hbX5 : Below w12.heap.size w12 X5 := by rw [← hX5]; exact (Below.refl _ _).alloc (Nat.le_refl _) _
  have hgX5 : X5.heap[w12.heap.size]? = some (.cells #[.pointer (some ⟨X2.heap.size + 1, 0, none⟩), .pointer (some ⟨X3.heap.size + 1, 0, none⟩), .pointer (some ⟨X4.heap.size + 1, 0, none⟩)] 25 (0, 0)) := by rw [← hX5]; exact heap_alloc_new _ _
  have Nf := keep (Nf.out.below hbX5)
  have Fa := keep (Fa.out.below hbX5)
  have Fb := keep (Fb.out.below hbX5)
  have Fc := keep (Fc.out.below hbX5)
  have mU := uniono_any X5 (some ⟨w12.heap.size, 0, none⟩) 3 [(some (X2.heap.size + 1), kys sa), (some (X3.heap.size + 1), kys sb), (some (X4.heap.size + 1), kys sc)] (fun j p hp => ⟨_, 0, rfl, by
      rw [Nat.zero_add]
      match j, hp with
      | 0, hp => cases hp; rw [cell_of_row _ _ _ _ _ _ hgX5]; rfl
      | 1, hp => cases hp; rw [cell_of_row _ _ _ _ _ _ hgX5]; rfl
      | 2, hp => cases hp; rw [cell_of_row _ _ _ _ _ _ hgX5]; rfl
      | j + 3, hp => simp at hp⟩) (fun p hp => by
      simp only [List.mem_cons, List.not_mem_nil, or_false] at hp
      rcases hp with rfl | rfl | rfl
      · exact Fa.out
      · exact Fb.out
      · exact Fc.out) (by simp) (by have := La.out; have := Lb.out; have := Lc.out; simp only [List.map_cons, List.map_nil, List.sum_cons, List.sum_nil]; omega)
  simp only [List.length_cons, List.length_nil, Nat.zero_add, Nat.reduceAdd] at mU
  go_wp2_with fail
  refine mU.mono ?_
  rintro _ w14 ⟨v, rfl, L, hL, hR, hbU⟩
  obtain rfl : L = [ta, tb, tc, td] := hL.eq (srs_of (nodup_uniq _) (by decide) (fun x => by rw [mem_uniq]; simp only [List.map_cons, List.map_nil, List.flatten_cons, List.flatten_nil, List.mem_append, List.not_mem_nil, or_false]; rw [Ma.out, Mb.out, Mc.out]; simp only [List.mem_cons, List.not_mem_nil, or_false]; grind)) (List.Perm.refl _)
  have Nf := keep (Nf.out.below hbU)
  have Fa := keep (Fa.out.below hbU)
  have Fb := keep (Fb.out.below hbU)
  have Fc := keep (Fc.out.below hbU)
  have hk := ks_of hR
  have HXX5 := keep hX5
  obtain ⟨X6, hX6⟩ : ∃ X, w14.alloc (.cells #[.string ta, .string tb, .string tc, .string td] 9) = X := ⟨_, rfl⟩
  have hbX6 : Below w14.heap.size w14 X6 := by rw [← hX6]; exact (Below.refl _ _).alloc (Nat.le_refl _) _
  have hgX6 : X6.heap[w14.heap.size]? = some (.cells #[.string ta, .string tb, .string tc, .string td] 9 (0, 0)) := by rw [← hX6]; exact heap_alloc_new _ _
  have Nf := keep (Nf.out.below hbX6)
  have Fa := keep (Fa.out.below hbX6)
  have Fb := keep (Fb.out.below hbX6)
  have Fc := keep (Fc.out.below hbX6)
  have hk8 : Ks X5.heap.size X6 v [ta, tb, tc, td] := own_kept hk (fun k hk' => hbX6.block k (own_lt hk hk'))
  have hkl : Ks w14.heap.size X6 (.slice (some ⟨w14.heap.size, 0, none⟩) 4 4) [ta, tb, tc, td] :=
    ⟨rfl, .inr ⟨w14.heap.size, 4, _, rfl, Nat.le_refl _, hgX6, Nat.le_refl _, by unfold maxLen; omega, rfl, rfl⟩⟩
  have mE := same_any _ _ _ _ _ _ hk8 hkl
  clear mU hL hR hbU hk hk8 hkl hbX5 hgX5 hbX6 hgX6
  go_wp2_with fail
  refine mE.mono ?_
  rintro _ w14b ⟨rfl, hbE⟩
  have Nf := keep (Nf.out.below hbE)
  have Fa := keep (Fa.out.below hbE)
  have Fb := keep (Fb.out.below hbE)
  have Fc := keep (Fc.out.below hbE)
  clear mE hbE
  obtain ⟨X7, hX7⟩ : ∃ X, w14b.alloc (.cells #[.pointer (some ⟨X2.heap.size + 1, 0, none⟩), .pointer (some ⟨X3.heap.size + 1, 0, none⟩), .pointer (some ⟨X4.heap.size + 1, 0, none⟩)] 25) = X := ⟨_, rfl⟩
  have hbX7 : Below w14b.heap.size w14b X7 := by rw [← hX7]; exact (Below.refl _ _).alloc (Nat.le_refl _) _
  have hgX7 : X7.heap[w14b.heap.size]? = some (.cells #[.pointer (some ⟨X2.heap.size + 1, 0, none⟩), .pointer (some ⟨X3.heap.size + 1, 0, none⟩), .pointer (some ⟨X4.heap.size + 1, 0, none⟩)] 25 (0, 0)) := by rw [← hX7]; exact heap_alloc_new _ _
  have Nf := keep (Nf.out.below hbX7)
  have Fa := keep (Fa.out.below hbX7)
  have Fb := keep (Fb.out.below hbX7)
  have Fc := keep (Fc.out.below hbX7)
  have mU := intero_any X7 w14b.heap.size 0 3 (some (X2.heap.size + 1), kys sa) [(some (X3.heap.size + 1), kys sb), (some (X4.heap.size + 1), kys sc)] (fun j p hp => by
      rw [Nat.zero_add]
      match j, hp with
      | 0, hp => cases hp; rw [cell_of_row _ _ _ _ _ _ hgX7]; rfl
      | 1, hp => cases hp; rw [cell_of_row _ _ _ _ _ _ hgX7]; rfl
      | 2, hp => cases hp; rw [cell_of_row _ _ _ _ _ _ hgX7]; rfl
      | j + 3, hp => simp at hp) (fun p hp => by
      simp only [List.mem_cons, List.not_mem_nil, or_false] at hp
      rcases hp with rfl | rfl | rfl
      · exact Fa.out
      · exact Fb.out
      · exact Fc.out) (by simp) (by simp) (by have := La.out; have := Lb.out; have := Lc.out; simp only [List.map_cons, List.map_nil, List.sum_cons, List.sum_nil]; omega)
  simp only [List.length_cons, List.length_nil, Nat.zero_add, Nat.reduceAdd] at mU
  go_wp2_with fail
  refine mU.mono ?_
  rintro _ w16 ⟨v, rfl, L, hL, hR, hbU⟩
  obtain rfl : L = [tc] := hL.eq (srs_of (Da.out.filter _) (by decide) (fun x => by rw [List.mem_filter, Ma.out]; simp only [List.map_cons, List.map_nil]; rw [both2, Mb.out, Mc.out]; have := t_ne; simp only [List.mem_cons, List.not_mem_nil, or_false]; grind)) (List.Perm.refl _)
  have Nf := keep (Nf.out.below hbU)
  have Fa := keep (Fa.out.below hbU)
  have Fb := keep (Fb.out.below hbU)
  have Fc := keep (Fc.out.below hbU)
  have hk := ks_of hR
  have HXX7 := keep hX7
  obtain ⟨X8, hX8⟩ : ∃ X, w16.alloc (.cells #[.string tc] 9) = X := ⟨_, rfl⟩
  have hbX8 : Below w16.heap.size w16 X8 := by rw [← hX8]; exact (Below.refl _ _).alloc (Nat.le_refl _) _
  have hgX8 : X8.heap[w16.heap.size]? = some (.cells #[.string tc] 9 (0, 0)) := by rw [← hX8]; exact heap_alloc_new _ _
  have Nf := keep (Nf.out.below hbX8)
  have Fa := keep (Fa.out.below hbX8)
  have Fb := keep (Fb.out.below hbX8)
  have Fc := keep (Fc.out.below hbX8)
  have hk8 : Ks X7.heap.size X8 v [tc] := own_kept hk (fun k hk' => hbX8.block k (own_lt hk hk'))
  have hkl : Ks w16.heap.size X8 (.slice (some ⟨w16.heap.size, 0, none⟩) 1 1) [tc] :=
    ⟨rfl, .inr ⟨w16.heap.size, 1, _, rfl, Nat.le_refl _, hgX8, Nat.le_refl _, by unfold maxLen; omega, rfl, rfl⟩⟩
  have mE := same_any _ _ _ _ _ _ hk8 hkl
  clear mU hL hR hbU hk hk8 hkl hbX7 hgX7 hbX8 hgX8
  go_wp2_with fail
  refine mE.mono ?_
  rintro _ w16b ⟨rfl, hbE⟩
  have Nf := keep (Nf.out.below hbE)
  have Fa := keep (Fa.out.below hbE)
  have Fb := keep (Fb.out.below hbE)
  have Fc := keep (Fc.out.below hbE)
  clear mE hbE
  obtain ⟨X9, hX9⟩ : ∃ X, w16b.alloc (.cells #[.pointer (some ⟨X2.heap.size + 1, 0, none⟩), .pointer (some ⟨X3.heap.size + 1, 0, none⟩), .pointer (some ⟨X4.heap.size + 1, 0, none⟩)] 25) = X := ⟨_, rfl⟩
  have hbX9 : Below w16b.heap.size w16b X9 := by rw [← hX9]; exact (Below.refl _ _).alloc (Nat.le_refl _) _
  have hgX9 : X9.heap[w16b.heap.size]? = some (.cells #[.pointer (some ⟨X2.heap.size + 1, 0, none⟩), .pointer (some ⟨X3.heap.size + 1, 0, none⟩), .pointer (some ⟨X4.heap.size + 1, 0, none⟩)] 25 (0, 0)) := by rw [← hX9]; exact heap_alloc_new _ _
  have Nf := keep (Nf.out.below hbX9)
  have Fa := keep (Fa.out.below hbX9)
  have Fb := keep (Fb.out.below hbX9)
  have Fc := keep (Fc.out.below hbX9)
  have mU := diffo_any X9 w16b.heap.size 0 3 (some (X2.heap.size + 1), kys sa) [(some (X3.heap.size + 1), kys sb), (some (X4.heap.size + 1), kys sc)] (fun j p hp => by
      rw [Nat.zero_add]
      match j, hp with
      | 0, hp => cases hp; rw [cell_of_row _ _ _ _ _ _ hgX9]; rfl
      | 1, hp => cases hp; rw [cell_of_row _ _ _ _ _ _ hgX9]; rfl
      | 2, hp => cases hp; rw [cell_of_row _ _ _ _ _ _ hgX9]; rfl
      | j + 3, hp => simp at hp) (fun p hp => by
      simp only [List.mem_cons, List.not_mem_nil, or_false] at hp
      rcases hp with rfl | rfl | rfl
      · exact Fa.out
      · exact Fb.out
      · exact Fc.out) (by simp) (by simp) (by have := La.out; have := Lb.out; have := Lc.out; simp only [List.map_cons, List.map_nil, List.sum_cons, List.sum_nil]; omega)
  simp only [List.length_cons, List.length_nil, Nat.zero_add, Nat.reduceAdd] at mU
  go_wp2_with fail
  refine mU.mono ?_
  rintro _ w18 ⟨v, rfl, L, hL, hR, hbU⟩
  obtain rfl : L = [ta] := hL.eq (srs_of (Da.out.filter _) (by decide) (fun x => by rw [List.mem_filter, Ma.out]; simp only [List.map_cons, List.map_nil]; rw [none2, Mb.out, Mc.out]; have := t_ne; simp only [List.mem_cons, List.not_mem_nil, or_false]; grind)) (List.Perm.refl _)
  have Nf := keep (Nf.out.below hbU)
  have Fa := keep (Fa.out.below hbU)
  have Fb := keep (Fb.out.below hbU)
  have Fc := keep (Fc.out.below hbU)
  have hk := ks_of hR
  have HXX9 := keep hX9
  obtain ⟨X10, hX10⟩ : ∃ X, w18.alloc (.cells #[.string ta] 9) = X := ⟨_, rfl⟩
  have hbX10 : Below w18.heap.size w18 X10 := by rw [← hX10]; exact (Below.refl _ _).alloc (Nat.le_refl _) _
  have hgX10 : X10.heap[w18.heap.size]? = some (.cells #[.string ta] 9 (0, 0)) := by rw [← hX10]; exact heap_alloc_new _ _
  have Nf := keep (Nf.out.below hbX10)
  have Fa := keep (Fa.out.below hbX10)
  have Fb := keep (Fb.out.below hbX10)
  have Fc := keep (Fc.out.below hbX10)
  have hk8 : Ks X9.heap.size X10 v [ta] := own_kept hk (fun k hk' => hbX10.block k (own_lt hk hk'))
  have hkl : Ks w18.heap.size X10 (.slice (some ⟨w18.heap.size, 0, none⟩) 1 1) [ta] :=
    ⟨rfl, .inr ⟨w18.heap.size, 1, _, rfl, Nat.le_refl _, hgX10, Nat.le_refl _, by unfold maxLen; omega, rfl, rfl⟩⟩
  have mE := same_any _ _ _ _ _ _ hk8 hkl
  clear mU hL hR hbU hk hk8 hkl hbX9 hgX9 hbX10 hgX10
  go_wp2_with fail
  refine mE.mono ?_
  rintro _ w18b ⟨rfl, hbE⟩
  have Nf := keep (Nf.out.below hbE)
  have Fa := keep (Fa.out.below hbE)
  have Fb := keep (Fb.out.below hbE)
  have Fc := keep (Fc.out.below hbE)
  clear mE hbE
  obtain ⟨X11, hX11⟩ : ∃ X, w18b.alloc (.cells #[.pointer (some ⟨X3.heap.size + 1, 0, none⟩), .pointer (some ⟨X2.heap.size + 1, 0, none⟩), .pointer (some ⟨X4.heap.size + 1, 0, none⟩)] 25) = X := ⟨_, rfl⟩
  have hbX11 : Below w18b.heap.size w18b X11 := by rw [← hX11]; exact (Below.refl _ _).alloc (Nat.le_refl _) _
  have hgX11 : X11.heap[w18b.heap.size]? = some (.cells #[.pointer (some ⟨X3.heap.size + 1, 0, none⟩), .pointer (some ⟨X2.heap.size + 1, 0, none⟩), .pointer (some ⟨X4.heap.size + 1, 0, none⟩)] 25 (0, 0)) := by rw [← hX11]; exact heap_alloc_new _ _
  have Nf := keep (Nf.out.below hbX11)
  have Fa := keep (Fa.out.below hbX11)
  have Fb := keep (Fb.out.below hbX11)
  have Fc := keep (Fc.out.below hbX11)
  have mU := diffo_any X11 w18b.heap.size 0 3 (some (X3.heap.size + 1), kys sb) [(some (X2.heap.size + 1), kys sa), (some (X4.heap.size + 1), kys sc)] (fun j p hp => by
      rw [Nat.zero_add]
      match j, hp with
      | 0, hp => cases hp; rw [cell_of_row _ _ _ _ _ _ hgX11]; rfl
      | 1, hp => cases hp; rw [cell_of_row _ _ _ _ _ _ hgX11]; rfl
      | 2, hp => cases hp; rw [cell_of_row _ _ _ _ _ _ hgX11]; rfl
      | j + 3, hp => simp at hp) (fun p hp => by
      simp only [List.mem_cons, List.not_mem_nil, or_false] at hp
      rcases hp with rfl | rfl | rfl
      · exact Fb.out
      · exact Fa.out
      · exact Fc.out) (by simp) (by simp) (by have := La.out; have := Lb.out; have := Lc.out; simp only [List.map_cons, List.map_nil, List.sum_cons, List.sum_nil]; omega)
  simp only [List.length_cons, List.length_nil, Nat.zero_add, Nat.reduceAdd] at mU
  go_wp2_with fail
  refine mU.mono ?_
  rintro _ w20 ⟨v, rfl, L, hL, hR, hbU⟩
  obtain rfl : L = [td] := hL.eq (srs_of (Db.out.filter _) (by decide) (fun x => by rw [List.mem_filter, Mb.out]; simp only [List.map_cons, List.map_nil]; rw [none2, Ma.out, Mc.out]; have := t_ne; simp only [List.mem_cons, List.not_mem_nil, or_false]; grind)) (List.Perm.refl _)
  have Nf := keep (Nf.out.below hbU)
  have Fa := keep (Fa.out.below hbU)
  have Fb := keep (Fb.out.below hbU)
  have Fc := keep (Fc.out.below hbU)
  have hk := ks_of hR
  have HXX11 := keep hX11
  obtain ⟨X12, hX12⟩ : ∃ X, w20.alloc (.cells #[.string td] 9) = X := ⟨_, rfl⟩
  have hbX12 : Below w20.heap.size w20 X12 := by rw [← hX12]; exact (Below.refl _ _).alloc (Nat.le_refl _) _
  have hgX12 : X12.heap[w20.heap.size]? = some (.cells #[.string td] 9 (0, 0)) := by rw [← hX12]; exact heap_alloc_new _ _
  have Nf := keep (Nf.out.below hbX12)
  have Fa := keep (Fa.out.below hbX12)
  have Fb := keep (Fb.out.below hbX12)
  have Fc := keep (Fc.out.below hbX12)
  have hk8 : Ks X11.heap.size X12 v [td] := own_kept hk (fun k hk' => hbX12.block k (own_lt hk hk'))
  have hkl : Ks w20.heap.size X12 (.slice (some ⟨w20.heap.size, 0, none⟩) 1 1) [td] :=
    ⟨rfl, .inr ⟨w20.heap.size, 1, _, rfl, Nat.le_refl _, hgX12, Nat.le_refl _, by unfold maxLen; omega, rfl, rfl⟩⟩
  have mE := same_any _ _ _ _ _ _ hk8 hkl
  clear mU hL hR hbU hk hk8 hkl hbX11 hgX11 hbX12 hgX12
  go_wp2_with fail
  refine mE.mono ?_
  rintro _ w20b ⟨rfl, hbE⟩
  have Nf := keep (Nf.out.below hbE)
  have Fa := keep (Fa.out.below hbE)
  have Fb := keep (Fb.out.below hbE)
  have Fc := keep (Fc.out.below hbE)
  clear mE hbE
  have mU := uniono_any w20b none 0 [] (fun j p hp => by simp at hp) (fun p hp => by simp at hp) (by simp) (by simp)
  simp only [List.length_nil] at mU
  go_wp2_with fail
  refine mU.mono ?_
  rintro _ w22 ⟨v, rfl, L, hL, hR, hbU⟩
  obtain rfl : L = [] := List.perm_nil.1 hL.1
  have Nf := keep (Nf.out.below hbU)
  have Fa := keep (Fa.out.below hbU)
  have Fb := keep (Fb.out.below hbU)
  have Fc := keep (Fc.out.below hbU)
  obtain ⟨ao22, cp22, rfl, _⟩ := ks_form (ks_of hR)
  simp only [List.length_nil]
  clear mU hL hR hbU
  go_wp2_with fail
  refine (inter_nil w22).mono ?_
  rintro _ w23 ⟨rfl, hbU⟩
  have Nf := keep (Nf.out.below hbU)
  have Fa := keep (Fa.out.below hbU)
  have Fb := keep (Fb.out.below hbU)
  have Fc := keep (Fc.out.below hbU)
  clear hbU
  go_wp2_with fail
  refine (diff_nil w23).mono ?_
  rintro _ w24 ⟨rfl, hbU⟩
  have Nf := keep (Nf.out.below hbU)
  have Fa := keep (Fa.out.below hbU)
  have Fb := keep (Fb.out.below hbU)
  have Fc := keep (Fc.out.below hbU)
  clear hbU
  obtain ⟨X13, hX13⟩ : ∃ X, w24.alloc (.cells #[.pointer (some ⟨X2.heap.size + 1, 0, none⟩), .pointer none] 25) = X := ⟨_, rfl⟩
  have hbX13 : Below w24.heap.size w24 X13 := by rw [← hX13]; exact (Below.refl _ _).alloc (Nat.le_refl _) _
  have hgX13 : X13.heap[w24.heap.size]? = some (.cells #[.pointer (some ⟨X2.heap.size + 1, 0, none⟩), .pointer none] 25 (0, 0)) := by rw [← hX13]; exact heap_alloc_new _ _
  have Nf := keep (Nf.out.below hbX13)
  have Fa := keep (Fa.out.below hbX13)
  have Fb := keep (Fb.out.below hbX13)
  have Fc := keep (Fc.out.below hbX13)
  have mU := intero_any X13 w24.heap.size 0 2 (some (X2.heap.size + 1), kys sa) [(none, [])] (fun j p hp => by
      rw [Nat.zero_add]
      match j, hp with
      | 0, hp => cases hp; rw [cell_of_row _ _ _ _ _ _ hgX13]; rfl
      | 1, hp => cases hp; rw [cell_of_row _ _ _ _ _ _ hgX13]; rfl
      | j + 2, hp => simp at hp) (fun p hp => by
      simp only [List.mem_cons, List.not_mem_nil, or_false] at hp
      rcases hp with rfl | rfl
      · exact Fa.out
      · exact rfl) (by simp) (by simp) (by have := La.out; have := Lb.out; have := Lc.out; simp only [List.map_cons, List.map_nil, List.sum_cons, List.sum_nil, List.length_nil]; omega)
  simp only [List.length_cons, List.length_nil, Nat.zero_add, Nat.reduceAdd] at mU
  go_wp2_with fail
  refine mU.mono ?_
  rintro _ w26 ⟨v, rfl, L, hL, hR, hbU⟩
  obtain rfl : L = [] := hL.eq (srs_of (Da.out.filter _) (by simp) (fun x => by rw [List.mem_filter]; simp only [List.map_cons, List.map_nil]; rw [tal1]; simp [inB])) (List.Perm.refl _)
  have Nf := keep (Nf.out.below hbU)
  have Fa := keep (Fa.out.below hbU)
  have Fb := keep (Fb.out.below hbU)
  have Fc := keep (Fc.out.below hbU)
  have hk := ks_of hR
  have HXX13 := keep hX13
  obtain ⟨ao, cp, rfl, _⟩ := ks_form hk
  simp only [List.length_nil]
  clear mU hL hR hbU hk hbX13 hgX13
  obtain ⟨X14, hX14⟩ : ∃ X, w26.alloc (.cells #[.pointer (some ⟨X2.heap.size + 1, 0, none⟩), .pointer none] 25) = X := ⟨_, rfl⟩
  have hbX14 : Below w26.heap.size w26 X14 := by rw [← hX14]; exact (Below.refl _ _).alloc (Nat.le_refl _) _
  have hgX14 : X14.heap[w26.heap.size]? = some (.cells #[.pointer (some ⟨X2.heap.size + 1, 0, none⟩), .pointer none] 25 (0, 0)) := by rw [← hX14]; exact heap_alloc_new _ _
  have Nf := keep (Nf.out.below hbX14)
  have Fa := keep (Fa.out.below hbX14)
  have Fb := keep (Fb.out.below hbX14)
  have Fc := keep (Fc.out.below hbX14)
  have mU := diffo_any X14 w26.heap.size 0 2 (some (X2.heap.size + 1), kys sa) [(none, [])] (fun j p hp => by
      rw [Nat.zero_add]
      match j, hp with
      | 0, hp => cases hp; rw [cell_of_row _ _ _ _ _ _ hgX14]; rfl
      | 1, hp => cases hp; rw [cell_of_row _ _ _ _ _ _ hgX14]; rfl
      | j + 2, hp => simp at hp) (fun p hp => by
      simp only [List.mem_cons, List.not_mem_nil, or_false] at hp
      rcases hp with rfl | rfl
      · exact Fa.out
      · exact rfl) (by simp) (by simp) (by have := La.out; have := Lb.out; have := Lc.out; simp only [List.map_cons, List.map_nil, List.sum_cons, List.sum_nil, List.length_nil]; omega)
  simp only [List.length_cons, List.length_nil, Nat.zero_add, Nat.reduceAdd] at mU
  go_wp2_with fail
  refine mU.mono ?_
  rintro _ w28 ⟨v, rfl, L, hL, hR, hbU⟩
  obtain rfl : L = [ta, tb, tc] := hL.eq (srs_of (Da.out.filter _) (by decide) (fun x => by rw [List.mem_filter, Ma.out]; simp only [List.map_cons, List.map_nil]; rw [tal1]; simp [inB])) (List.Perm.refl _)
  have Nf := keep (Nf.out.below hbU)
  have Fa := keep (Fa.out.below hbU)
  have Fb := keep (Fb.out.below hbU)
  have Fc := keep (Fc.out.below hbU)
  have hk := ks_of hR
  have HXX14 := keep hX14
  obtain ⟨X15, hX15⟩ : ∃ X, w28.alloc (.cells #[.string ta, .string tb, .string tc] 9) = X := ⟨_, rfl⟩
  have hbX15 : Below w28.heap.size w28 X15 := by rw [← hX15]; exact (Below.refl _ _).alloc (Nat.le_refl _) _
  have hgX15 : X15.heap[w28.heap.size]? = some (.cells #[.string ta, .string tb, .string tc] 9 (0, 0)) := by rw [← hX15]; exact heap_alloc_new _ _
  have Nf := keep (Nf.out.below hbX15)
  have Fa := keep (Fa.out.below hbX15)
  have Fb := keep (Fb.out.below hbX15)
  have Fc := keep (Fc.out.below hbX15)
  have hk8 : Ks X14.heap.size X15 v [ta, tb, tc] := own_kept hk (fun k hk' => hbX15.block k (own_lt hk hk'))
  have hkl : Ks w28.heap.size X15 (.slice (some ⟨w28.heap.size, 0, none⟩) 3 3) [ta, tb, tc] :=
    ⟨rfl, .inr ⟨w28.heap.size, 3, _, rfl, Nat.le_refl _, hgX15, Nat.le_refl _, by unfold maxLen; omega, rfl, rfl⟩⟩
  have mE := same_any _ _ _ _ _ _ hk8 hkl
  clear mU hL hR hbU hk hk8 hkl hbX14 hgX14 hbX15 hgX15
  go_wp2_with fail
  refine mE.mono ?_
  rintro _ w28b ⟨rfl, hbE⟩
  have Nf := keep (Nf.out.below hbE)
  have Fa := keep (Fa.out.below hbE)
  have Fb := keep (Fb.out.below hbE)
  have Fc := keep (Fc.out.below hbE)
  clear mE hbE
  obtain ⟨X16, hX16⟩ : ∃ X, w28b.alloc (.cells #[.pointer none] 25) = X := ⟨_, rfl⟩
  have hbX16 : Below w28b.heap.size w28b X16 := by rw [← hX16]; exact (Below.refl _ _).alloc (Nat.le_refl _) _
  have hgX16 : X16.heap[w28b.heap.size]? = some (.cells #[.pointer none] 25 (0, 0)) := by rw [← hX16]; exact heap_alloc_new _ _
  have Nf := keep (Nf.out.below hbX16)
  have Fa := keep (Fa.out.below hbX16)
  have Fb := keep (Fb.out.below hbX16)
  have Fc := keep (Fc.out.below hbX16)
  have mU := uniono_any X16 (some ⟨w28b.heap.size, 0, none⟩) 1 [(none, [])] (fun j p hp => ⟨_, 0, rfl, by
      rw [Nat.zero_add]
      match j, hp with
      | 0, hp => cases hp; rw [cell_of_row _ _ _ _ _ _ hgX16]; rfl
      | j + 1, hp => simp at hp⟩) (fun p hp => by
      simp only [List.mem_cons, List.not_mem_nil, or_false] at hp
      rcases hp with rfl
      · exact rfl) (by simp) (by have := La.out; have := Lb.out; have := Lc.out; simp only [List.map_cons, List.map_nil, List.sum_cons, List.sum_nil, List.length_nil]; omega)
  simp only [List.length_cons, List.length_nil, Nat.zero_add] at mU
  go_wp2_with fail
  refine mU.mono ?_
  rintro _ w30 ⟨v, rfl, L, hL, hR, hbU⟩
  obtain rfl : L = [] := hL.eq (srs_of (nodup_uniq _) (by simp) (fun x => by rw [mem_uniq]; simp)) (List.Perm.refl _)
  have Nf := keep (Nf.out.below hbU)
  have Fa := keep (Fa.out.below hbU)
  have Fb := keep (Fb.out.below hbU)
  have Fc := keep (Fc.out.below hbU)
  have hk := ks_of hR
  have HXX16 := keep hX16
  obtain ⟨ao, cp, rfl, _⟩ := ks_form hk
  simp only [List.length_nil]
  clear mU hL hR hbU hk hbX16 hgX16
  clear Fa Fb Fc Ma Mb Mc Da Db Dc La Lb Lc
  obtain ⟨w31, z1, mk1, cv1, hz1, hb31⟩ := zeros_text w30 1048577 (by decide)
  rw [show ((1048577 : Nat) : Int) = 1048577 from rfl] at mk1
  have Nf := keep (Nf.out.below hb31)
  have mA := fadd_long (w := w31) (R := X1.heap.size + 1) z1 (decide_eq_true (by rw [hz1]; decide))
  clear hz1 hb31
  go_wp2_with fail
  refine mA.mono ?_
  rintro _ w' ⟨rfl, hw'⟩
  obtain rfl := hw'.symm
  clear mA
  obtain ⟨w33, z2, mk2, cv2, hz2, hb33⟩ := zeros_text w31 1048576 (by decide)
  rw [show ((1048576 : Nat) : Int) = 1048576 from rfl] at mk2
  have Nf := keep (Nf.out.below hb33)
  have hzn : lk s6 z2 = none := none_of' (fun h => by
    have := (J6.out z2).1 h
    rw [List.mem_singleton] at this
    rw [this] at hz2
    exact absurd hz2 (by decide))
  have mA := fadd_new HHf.out Nf.out.1 (by decide) z2 (by rw [hz2]; decide) hzn (by rw [LN6.out]; decide)
  have HZN := keep hzn
  clear hz2 hb33 hzn mk1 cv1
  go_wp2_with fail
  refine mA.mono ?_
  rintro _ w34 ⟨rfl, r34, s34, q1, q2, q3⟩
  have Nf := keep (Nf.out.step q1 q3)
  have L34 : Kept (ln s34 = 2) := by show _ = _; rw [q2.2, HZN.out, LN6.out]; rfl
  clear mA q1 q2 q3 mk2 cv2
  have hH3 := hs_is 3 (by decide)
  obtain ⟨h3, hh3⟩ : ∃ h3, hs 3 = h3 := ⟨_, rfl⟩
  rw [hh3] at hH3
  have mN := rnew_any h3 w34 3 0
  rw [show ((3 : Nat) : Int) = 3 from rfl] at mN
  clear hh3
  go_wp2_with fail
  refine mN.mono ?_
  rintro _ w35 ⟨rfl, hb35, hr35⟩
  have Nf := keep (Nf.out.below hb35)
  have mS := fsample_none w35 _ _ _ _ hr35 (by decide) 7 rfl
  clear mN hb35
  go_wp2_with fail
  refine mS.mono ?_
  rintro _ w36 ⟨rfl, hb36⟩
  have Nf := keep (Nf.out.below hb36)
  obtain ⟨c', l, mC, _, hl1, _, _, hl2, _⟩ := fscan_any w36 _ _ _ _ (hr35.below hb36) (by decide) 3 (by decide) 10
  have hll : l = [] := List.length_eq_zero_iff.1 (by omega)
  subst hll
  have hc0 : c' = 0 := by
    rcases hl2 with e | e
    · exact e
    · simp at e
  subst hc0
  rw [show ((0 : Nat) : Int) = 0 from rfl, show ((3 : Nat) : Int) = 3 from rfl] at mC
  clear mS hb36 hl1 hl2
  go_wp2_with fail
  refine mC.mono ?_
  rintro _ w37 ⟨⟨v37, rfl, hk37⟩, hb37⟩
  have Nf := keep (Nf.out.below hb37)
  obtain ⟨ao37, cp37, rfl, _⟩ := ks_form hk37
  simp only [List.length_nil]
  have mL := rlen_any Nf.out.1
  rw [L34.out, show ((2 : Nat) : Int) = 2 from rfl] at mL
  clear mC hk37 hb37 hr35
  go_wp2_with fail
  refine mL.mono ?_
  rintro _ w' ⟨rfl, hw'⟩
  obtain rfl := hw'.symm
  clear mL
  go_wp2_with fail
  refine (fadd_nil tx).mono ?_
  rintro _ w' ⟨rfl, hw'⟩
  obtain rfl := hw'.symm
  have mC := fscan_nil w37 5 5
  rw [show ((5 : Nat) : Int) = 5 from rfl] at mC
  go_wp2_with fail
  refine mC.mono ?_
  rintro _ w' ⟨rfl, hw'⟩
  obtain rfl := hw'.symm
  clear mC
  go_wp2_with fail
  refine (fhas_nil w37 tx).mono ?_
  rintro _ w38 ⟨rfl, hb⟩
  have Nf := keep (Nf.out.below hb)
  clear hb
  go_wp2_with fail
  refine (fdel_nil w38 tx).mono ?_
  rintro _ w39 ⟨rfl, hb⟩
  have Nf := keep (Nf.out.below hb)
  clear hb
  go_wp2_with fail
  refine (flen_nil w39).mono ?_
  rintro _ w' ⟨rfl, hw'⟩
  obtain rfl := hw'.symm
  go_wp2_with fail
  refine (fcost_nil w39).mono ?_
  rintro _ w' ⟨rfl, hw'⟩
  obtain rfl := hw'.symm
  go_wp2_with fail
  refine (fmembers_nil w39).mono ?_
  rintro _ w40 ⟨rfl, _, hb⟩
  have Nf := keep (Nf.out.below hb)
  clear hb
  go_wp2
  go_ret
  exact ⟨rfl, HB1.out.trans (Nf.out.2.2.2.mono HB1.out.size)⟩
end Go.Proofs.Ytmokahcjkokanaa
