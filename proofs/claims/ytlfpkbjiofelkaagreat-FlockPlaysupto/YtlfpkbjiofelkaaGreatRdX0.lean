/-
  Contracts over this program: Has, Add and Delete of a flock, with the table that they leave, exactly.
-/
import Derived.Test.YtlfpkbjiofelkaaGreatFlAdd
namespace Go.Proofs.YtlfpkbjiofelkaaGreat
open Go.RowKit Go.Shelf
theorem get_x {h : ByteArray → Nat} {seed N : Nat} (hH : HashIs seed h) (w : World) (r : Roles) (b : Nat) (s : Sx) (key : ByteArray) (hd : Dd h N w r b seed s) (hN : N ≤ 2600000000000) (hk : key.size ≤ maxLen) :
    Calls Tryz.prog 55 #[.pointer (some ⟨b, 0, none⟩), .string key] w fun e w' => e = .returned (got (lk s key)) ∧ ∃ r' s', Dd h N w' r' b seed s' ∧ (Samd s s' ∧ s' = Dc.step h s) ∧ Fr w r w' r' := by
  refine (get_any hH w r b s key hd hN hk).mono ?_
  rintro _ w' ⟨rfl, r', q1, q2⟩
  exact ⟨rfl, r', _, q1, ⟨samd_step hd.2.1, rfl⟩, q2⟩
theorem set_x {h : ByteArray → Nat} {seed N : Nat} (hH : HashIs seed h) (w : World) (r : Roles) (b : Nat) (s : Sx) (key : ByteArray) (v : Unit) (hd : Dd h N w r b seed s) (hN : N + 1 ≤ 2600000000000) (hk : key.size ≤ maxLen) (hz : lk s key = none) :
    Calls Tryz.prog 40 #[.pointer (some ⟨b, 0, none⟩), .string key, .agg #[]] w fun e w' => e = .returned (.bool (lk s key).isNone) ∧ ∃ r' s', Dd h (N + 1) w' r' b seed s' ∧ (Setd s s' key v ∧ s' = (Dc.set h s key v).1) ∧ Fr w r w' r' := by
  refine (set_any hH w r b s key v hd hN hk hz).mono ?_
  rintro _ w' ⟨rfl, r', q1, q2⟩
  exact ⟨rfl, r', _, q1, ⟨setd_of hd.2.1 key v, rfl⟩, q2⟩
theorem del_x {h : ByteArray → Nat} {seed N : Nat} (hH : HashIs seed h) (w : World) (r : Roles) (b : Nat) (s : Sx) (key : ByteArray) (hd : Dd h N w r b seed s) (hN : N + 1 ≤ 2600000000000) (hk : key.size ≤ maxLen) :
    Calls Tryz.prog 54 #[.pointer (some ⟨b, 0, none⟩), .string key] w fun e w' => e = .returned (.bool (lk s key).isSome) ∧ ∃ r' s', Dd h N w' r' b seed s' ∧ (Deld s s' key ∧ s' = (Dc.delete h s key).1) ∧ Fr w r w' r' := by
  refine (delete_any hH w r b s key hd hN hk).mono ?_
  rintro _ w' ⟨rfl, r', q1, q2⟩
  exact ⟨rfl, r', _, q1, ⟨deld_of hd.2.1 key, rfl⟩, q2⟩
/-- what Delete leaves of the table -/
def delX (h : ByteArray → Nat) (s : Sx) (f : ByteArray) : Sx := if (lk s f).isSome then (Dc.delete h (Dc.step h s) f).1 else Dc.step h s
set_option maxHeartbeats 400000 in
theorem fhas_x {h : ByteArray → Nat} {seed N : Nat} (hH : HashIs seed h) {w : World} {r : Roles} {R b : Nat} {s : Sx} (hr : Rec h N w r R b seed s) (hN : N ≤ 2600000000000) (key : ByteArray) (hk : key.size ≤ maxLen) :
    Calls Tryz.prog 29 #[.pointer (some ⟨R, 0, none⟩), .string key] w fun e w' => e = .returned (.bool (lk s key).isSome) ∧ ∃ r' s', Rec h N w' r' R b seed s' ∧ (Samd s s' ∧ s' = Dc.step h s) ∧ Fr w (rr r R) w' (rr r' R) := by
  have mD := dictionary_any hr
  have mG := get_x hH w r b s key hr.1 hN hk
  have HR := keep hr
  clear hr
  unfold got at mG
  go_enter Tryz.func29, Tryz.ntmps29
  go_wp2_with fail
  refine mD.mono ?_
  rintro _ w1 ⟨rfl, rfl⟩
  go_wp2_with fail
  refine mG.mono ?_
  rintro _ w2 ⟨rfl, r', s', q1, ⟨q2, qe⟩, q3⟩
  go_wp2
  go_ret
  obtain ⟨h1, h2, h3, h4⟩ := HR.out
  have hl := (Array.getElem?_eq_some_iff.1 h4).1
  obtain ⟨k1, k2⟩ := q3.2.2 R hl h3
  have hR2 : Rec h N w2 r' R b seed s' := ⟨q1, h2.sam q2, k2, by rw [k1, h4, cst_perm (sam_cst h1.2.1 q1.2.1 q2)]⟩
  have hb : Below w2.heap.size w2 (w2.alloc (.cells #[] 54)) := (Below.refl _ _).alloc (Nat.le_refl _) _
  exact ⟨rfl, r', s', hR2.below hb, ⟨q2, qe⟩, (q3.rr R).trans (Fr.of_below hb)⟩
set_option maxHeartbeats 400000 in
theorem fadd_oldx {h : ByteArray → Nat} {seed N : Nat} (hH : HashIs seed h) {w : World} {r : Roles} {R b : Nat} {s : Sx} (hr : Rec h N w r R b seed s) (hN : N ≤ 2600000000000) (f : ByteArray) (hf : f.size ≤ 1048576) (x : Unit) (hx : lk s f = some x) :
    Calls Tryz.prog 12 #[.pointer (some ⟨R, 0, none⟩), .string f] w fun e w' => e = .returned (.tuple #[.bool false, .int .i64 0]) ∧ ∃ r' s', Rec h N w' r' R b seed s' ∧ (Samd s s' ∧ s' = Dc.step h s) ∧ Fr w (rr r R) w' (rr r' R) := by
  have mG := fhas_x hH hr hN f (by unfold maxLen; omega)
  rw [hx] at mG
  have hs : decide ((1048576 : Int) < (f.size : Int)) = false := decide_eq_false (by omega)
  clear hr hx hf hN
  go_enter Tryz.func12, Tryz.ntmps12
  go_wp2_with fail
  refine mG.mono ?_
  rintro _ w2 ⟨rfl, r', s', q1, q2, q3⟩
  go_wp2
  refine bodyPost_ret (results_tmp2 rfl _ _ _) rfl ?_
  exact ⟨rfl, r', s', q1, q2, q3⟩
set_option maxHeartbeats 400000 in
theorem fadd_fullx {h : ByteArray → Nat} {seed N : Nat} (hH : HashIs seed h) {w : World} {r : Roles} {R b : Nat} {s : Sx} (hr : Rec h N w r R b seed s) (hN : N ≤ 2600000000000) (f : ByteArray) (hf : f.size ≤ 1048576) (hx : lk s f = none) (hl : 1048576 ≤ ln s) :
    Calls Tryz.prog 12 #[.pointer (some ⟨R, 0, none⟩), .string f] w fun e w' => e = .returned (.tuple #[.bool false, .int .i64 4]) ∧ ∃ r' s', Rec h N w' r' R b seed s' ∧ (Samd s s' ∧ s' = Dc.step h s) ∧ Fr w (rr r R) w' (rr r' R) := by
  have mG := fhas_x hH hr hN f (by unfold maxLen; omega)
  rw [hx] at mG
  have hs : decide ((1048576 : Int) < (f.size : Int)) = false := decide_eq_false (by omega)
  have HL := keep hl
  clear hr hx hf hN hl
  go_enter Tryz.func12, Tryz.ntmps12
  go_wp2_with fail
  refine mG.mono ?_
  rintro _ w2 ⟨rfl, r', s', q1, ⟨q2, qe⟩, q3⟩
  have QE := keep qe
  clear qe
  have mL := rlen_any q1
  have hge : decide ((1048576 : Int) ≤ (ln s' : Int)) = true := decide_eq_true (by rw [q2.2]; have := HL.out; omega)
  have Q1 := keep q1
  have Q2 := keep q2
  have Q3 := keep q3
  clear q1 q2 q3 mG
  go_wp2_with fail
  refine mL.mono ?_
  rintro _ w' ⟨rfl, hw'⟩
  obtain rfl := hw'.symm
  go_wp2
  refine bodyPost_ret (results_tmp2 rfl _ _ _) rfl ?_
  exact ⟨rfl, r', s', Q1.out, ⟨Q2.out, QE.out⟩, Q3.out⟩
set_option maxRecDepth 100000 in
set_option maxHeartbeats 1000000 in
theorem fadd_newx {h : ByteArray → Nat} {seed N : Nat} (hH : HashIs seed h) {w : World} {r : Roles} {R b : Nat} {s : Sx} (hr : Rec h N w r R b seed s) (hN : N + 1 ≤ 2600000000000) (f : ByteArray) (hf : f.size ≤ 1048576) (hx : lk s f = none) (hn : ln s < 1048576) :
    Calls Tryz.prog 12 #[.pointer (some ⟨R, 0, none⟩), .string f] w fun e w' => e = .returned (.tuple #[.bool true, .int .i64 0]) ∧ ∃ r' s', Rec h (N + 1) w' r' R b seed s' ∧ (Setd s s' f () ∧ s' = (Dc.set h (Dc.step h s) f ()).1) ∧ Fr w (rr r R) w' (rr r' R) := by
  have hfm : f.size ≤ maxLen := by unfold maxLen; omega
  have mG := fhas_x hH hr (by omega) f hfm
  rw [hx] at mG
  have hs : decide ((1048576 : Int) < (f.size : Int)) = false := decide_eq_false (by omega)
  have hB := hr.2.1.cst hr.1.2.1
  have HR := keep hr
  have HN := keep hn
  have HNN := keep hN
  have HF := keep hf
  have HFM := keep hfm
  have HB := keep hB
  have HX := keep hx
  clear hr hn hf hfm hB hN hx
  go_enter Tryz.func12, Tryz.ntmps12
  go_wp2_with fail
  refine mG.mono ?_
  rintro _ w2 ⟨rfl, r', s', q1, ⟨q2, qe⟩, q3⟩
  have QE := keep qe
  clear qe
  have k1' := q1.2.2.2
  rw [cst_perm (sam_cst HR.out.1.2.1 q1.1.2.1 q2)] at k1'
  obtain ⟨d0, d1, d2, df⟩ := three k1'
  have mL := rlen_any q1
  have hlt : ln s' < 1048576 := by rw [q2.2]; exact HN.out
  have hge : decide ((1048576 : Int) ≤ (ln s' : Int)) = false := decide_eq_false (by omega)
  have MC := keep (fun W => costOf_any f W HF.out)
  have hwr : IntKind.i64.wrap ((cst (Dc.all s) : Nat) + ((24 + f.size : Nat) : Int)) = ((cst (Dc.all s) + (24 + f.size) : Nat) : Int) := by
    rw [IntKind.wrap_i64]; have := HB.out; have := HF.out; omega
  have CS := keep (Cst.one (V := ((cst (Dc.all s) + (24 + f.size) : Nat) : Int)) k1')
  have f2 := df 2
  have Q1 := keep q1
  have Q2 := keep q2
  have Q3 := keep q3
  obtain ⟨C1, hC1⟩ : ∃ C1 : Int, ((cst (Dc.all s) : Nat) : Int) = C1 := ⟨_, rfl⟩
  obtain ⟨C2, hC2⟩ : ∃ C2 : Int, ((24 + f.size : Nat) : Int) = C2 := ⟨_, rfl⟩
  obtain ⟨C3, hC3⟩ : ∃ C3 : Int, ((cst (Dc.all s) + (24 + f.size) : Nat) : Int) = C3 := ⟨_, rfl⟩
  rw [hC1, hC2, hC3] at hwr
  rw [hC3] at CS
  rw [hC2] at MC
  rw [hC1] at d2
  have HC3 := keep hC3
  clear q1 q2 q3 k1' d0 df hlt hC1 hC2 hC3
  go_wp2_with fail
  refine mL.mono ?_
  rintro _ w' ⟨rfl, hw'⟩
  obtain rfl := hw'.symm
  clear mL mG
  go_wp2
  go_region_with (first | (go_at_call 39; refine (MC.out _).mono ?_; rintro _ _ ⟨rfl, rfl⟩))
  all_goals
    go_wp2_with fail
    refine (set_x hH _ r' b s' f () (CS.out.drew.dd Q1.out.1 Q1.out.2.2.1) HNN.out HFM.out (by rw [Q2.out.1 f]; exact HX.out)).mono ?_
    rintro _ w4 ⟨rfl, r4, s4, p1, ⟨p2, pe⟩, p3⟩
    go_wp2
    refine bodyPost_ret (results_tmp2 rfl _ _ _) rfl ?_
    have FE := fadd_end HR.out Q1.out Q2.out Q3.out CS.out.drew p1 p2 p3 HF.out (fun _ => HN.out) (by rw [HX.out, ← HC3.out]; simp [cstO])
    refine ⟨?_, r4, s4, FE.1, ⟨FE.2.1, by rw [pe, QE.out]⟩, FE.2.2⟩
    rw [Q2.out.1 f, HX.out]; rfl
set_option maxRecDepth 100000 in
set_option maxHeartbeats 1000000 in
theorem fdel_x {h : ByteArray → Nat} {seed N : Nat} (hH : HashIs seed h) {w : World} {r : Roles} {R b : Nat} {s : Sx} (hr : Rec h N w r R b seed s) (hN : N + 1 ≤ 2600000000000) (f : ByteArray) (hf : f.size ≤ maxLen) :
    Calls Tryz.prog 27 #[.pointer (some ⟨R, 0, none⟩), .string f] w fun e w' => e = .returned (.bool (lk s f).isSome) ∧ ∃ r' s', Rec h N w' r' R b seed s' ∧ (Deld s s' f ∧ s' = delX h s f) ∧ Fr w (rr r R) w' (rr r' R) := by
  have mG := fhas_x hH hr (by omega) f hf
  have hB := hr.2.1.cst hr.1.2.1
  have HR := keep hr
  have HN := keep hN
  have HF := keep hf
  have HB := keep hB
  clear hr hf hB hN
  cases hlk : lk s f with
  | none =>
    rw [hlk] at mG
    have HL := keep hlk
    clear hlk
    go_enter Tryz.func27, Tryz.ntmps27
    go_wp2_with fail
    refine mG.mono ?_
    rintro _ w2 ⟨rfl, r', s', q1, ⟨q2, qe⟩, q3⟩
    have QE := keep qe
    clear qe
    go_wp2
    go_ret
    refine ⟨rfl, r', s', q1, ⟨⟨fun k => ?_, ?_⟩, by unfold delX; rw [HL.out]; exact QE.out⟩, q3⟩
    · rw [q2.1 k]
      by_cases e : k = f
      · rw [if_pos e, e]; exact HL.out
      · rw [if_neg e]
    · rw [q2.2, HL.out]; rfl
  | some x =>
    rw [hlk] at mG
    have HL := keep hlk
    have hsz := HR.out.2.1.1 f x hlk
    have hcl := cst_split (k := f) (all_nodup HR.out.1.2.1)
    rw [show Dc.look f (Dc.all s) = some x from hlk] at hcl
    simp only [cstO] at hcl
    have hge : 24 + f.size ≤ cst (Dc.all s) := by omega
    clear hlk hcl
    go_enter Tryz.func27, Tryz.ntmps27
    go_wp2_with fail
    refine mG.mono ?_
    rintro _ w2 ⟨rfl, r', s', q1, ⟨q2, qe⟩, q3⟩
    have QE := keep qe
    clear qe
    have k1' := q1.2.2.2
    rw [cst_perm (sam_cst HR.out.1.2.1 q1.1.2.1 q2)] at k1'
    obtain ⟨d0, d1, d2, df⟩ := three k1'
    have MC1 := keep (fun W => costOf_any f W hsz)
    have hwr1 : IntKind.i64.wrap ((cst (Dc.all s) : Nat) - ((24 + f.size : Nat) : Int)) = ((cst (Dc.all s) - (24 + f.size) : Nat) : Int) := by
      rw [IntKind.wrap_i64]; have := HB.out; omega
    have hfin : ((cst (Dc.all s) - (24 + f.size) : Nat) : Int) + ((24 + f.size : Nat) : Int) = ((cst (Dc.all s) : Nat) : Int) := by omega
    have CS1 := keep (Cst.one (V := ((cst (Dc.all s) - (24 + f.size) : Nat) : Int)) k1')
    have f2 := df 2
    have Q1 := keep q1
    have Q2 := keep q2
    have Q3 := keep q3
    obtain ⟨C1, hC1⟩ : ∃ C1 : Int, ((cst (Dc.all s) : Nat) : Int) = C1 := ⟨_, rfl⟩
    obtain ⟨X2, hX2⟩ : ∃ X2 : Int, ((24 + f.size : Nat) : Int) = X2 := ⟨_, rfl⟩
    obtain ⟨C3, hC3⟩ : ∃ C3 : Int, ((cst (Dc.all s) - (24 + f.size) : Nat) : Int) = C3 := ⟨_, rfl⟩
    rw [hC1, hX2, hC3] at hwr1
    rw [hC3, hX2] at hfin
    rw [hC3] at CS1
    rw [hX2] at MC1
    rw [hC1] at d2
    have HC4 := keep hfin
    have HX2 := keep hX2
    clear q1 q2 q3 k1' d0 df hge hC1 hC3 hX2 hfin hsz mG
    go_wp2
    go_region_with (first | (go_at_call 39; refine (MC1.out _).mono ?_; rintro _ _ ⟨rfl, rfl⟩))
    all_goals
      go_wp2_with fail
      refine (del_x hH _ r' b s' f (CS1.out.drew.dd Q1.out.1 Q1.out.2.2.1) HN.out HF.out).mono ?_
      rintro _ w4 ⟨rfl, r4, s4, p1, ⟨p2, pe⟩, p3⟩
      go_wp2
      go_ret
      have FE := fdel_end HR.out Q1.out Q2.out Q3.out CS1.out.drew p1 p2 p3 (by rw [HL.out]; show C3 + ((24 + f.size : Nat) : Int) = _; rw [HX2.out]; exact HC4.out)
      refine ⟨?_, r4, s4, FE.1, ⟨FE.2.1, by unfold delX; rw [HL.out, pe, QE.out]; rfl⟩, FE.2.2⟩
      rw [Q2.out.1 f, HL.out]; rfl
end Go.Proofs.YtlfpkbjiofelkaaGreat
