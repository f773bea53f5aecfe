/-
  Contracts over this program: a key that expires, that is met; deadlines set and taken; a value that is held.
-/
import Derived.Test.YtijclcedjgniaaaGreatKsCalls
namespace Go.Proofs.YtijclcedjgniaaaGreat
open Go.RowKit Go.Shelf
set_option linter.unusedVariables false
set_option maxRecDepth 100000
namespace Ks
def goneS (s : Sx) (key : ByteArray) (x : En) : Sx := { dropS s key x with st := s.st ++ [(1, key)] }
set_option maxHeartbeats 1000000 in
theorem expire_any {N : Nat} {w : World} {R : Ro} {b : Nat} {s : Sx} (h : Sp N w R b s) (key : ByteArray) (hk : key.size ≤ maxLen) (x : En) (hx : s.E key = some x) (hN : N + 1 ≤ 2600000000000) (hn : s.tn < maxLen) (hl : s.st.length ≤ 5000000000000) :
    Calls Tryz.prog 84 #[.pointer (some ⟨b, 0, none⟩), .string key, .pointer (some ⟨x.e, 0, none⟩)] w fun e w' => e = .returned (.tuple #[]) ∧ ∃ R', Sp N w' R' b (goneS s key x) ∧ Fs w R w' R' := by
  have MD := keep (drop_any h key hk x hx hN hn)
  have HL := keep hl
  clear h hk hx hN hn hl
  go_enter Tryz.func84, Tryz.ntmps84
  go_wp2_with fail
  refine MD.out.mono ?_
  rintro _ w1 ⟨rfl, R1, s1, f1⟩
  have MS := keep (step_any s1 1 key HL.out)
  have F1 := keep f1
  clear s1 f1 MD
  go_wp2_with fail
  refine MS.out.mono ?_
  rintro _ w2 ⟨rfl, R2, s2, f2⟩
  have S2 := keep s2
  have F2 := keep (F1.out.trans f2)
  clear s2 f2 MS
  go_wp2
  go_end0
  exact ⟨rfl, R2, S2.out, F2.out⟩
set_option maxHeartbeats 400000 in
theorem meet_nil (w : World) (key : ByteArray) : Calls Tryz.prog 66 #[.pointer none, .string key] w fun e w' => e = .returned (.pointer none) ∧ w' = w := by
  go_enter Tryz.func66, Tryz.ntmps66
  go_wp2
  go_ret
  exact ⟨rfl, rfl⟩
set_option maxHeartbeats 1000000 in
theorem meet_none {N : Nat} {w : World} {R : Ro} {b : Nat} {s : Sx} (h : Sp N w R b s) (key : ByteArray) (hk : key.size ≤ maxLen) (hx : s.lm key = none) (hN : N ≤ 2600000000000) :
    Calls Tryz.prog 66 #[.pointer (some ⟨b, 0, none⟩), .string key] w fun e w' => e = .returned (.pointer none) ∧ ∃ R', Sp N w' R' b s ∧ Fs w R w' R' := by
  obtain ⟨sv, hpb, _⟩ := h.blk
  obtain ⟨_, _, _, _, _, _, _, d7, _, _, _, _⟩ := hpb.cells
  have MG := sp_mget h hN key hk
  rw [hx] at MG
  simp only [Option.getD_none, Option.isSome_none] at MG
  have MG := keep MG
  clear h hpb hx hN hk
  go_enter Tryz.func66, Tryz.ntmps66
  go_wp2_with fail
  refine MG.out.mono ?_
  rintro _ w1 ⟨rfl, R1, s1, f1⟩
  have S1 := keep s1
  have F1 := keep f1
  clear s1 f1 MG d7
  go_wp2
  go_ret
  exact ⟨rfl, R1, S1.out, F1.out⟩
set_option maxHeartbeats 1000000 in
theorem meet_here {N : Nat} {w : World} {R : Ro} {b : Nat} {s : Sx} (h : Sp N w R b s) (key : ByteArray) (hk : key.size ≤ maxLen) (x : En) (hl : s.lm key = some (some ⟨x.e, 0, none⟩)) (hx : s.E key = some x) (hp : pas s.now x = false) (hN : N ≤ 2600000000000) :
    Calls Tryz.prog 66 #[.pointer (some ⟨b, 0, none⟩), .string key] w fun e w' => e = .returned (.pointer (some ⟨x.e, 0, none⟩)) ∧ ∃ R', Sp N w' R' b s ∧ Fs w R w' R' := by
  obtain ⟨sv, hpb, _⟩ := h.blk
  obtain ⟨_, _, _, _, _, _, _, d7, _, _, _, _⟩ := hpb.cells
  have MG := sp_mget h hN key hk
  rw [hl] at MG
  simp only [Option.getD_some, Option.isSome_some] at MG
  have MG := keep MG
  have HX := keep hx
  have HP := keep hp
  clear h hpb hx hN hk hl hp
  go_enter Tryz.func66, Tryz.ntmps66
  go_wp2_with fail
  refine MG.out.mono ?_
  rintro _ w1 ⟨rfl, R1, s1, f1⟩
  obtain ⟨sv1, hpb1, _⟩ := s1.blk
  have mP := past_any hpb1 (s1.ent key x HX.out).1.2
  rw [HP.out] at mP
  have S1 := keep s1
  have F1 := keep f1
  clear s1 f1 MG d7 hpb1
  go_wp2_with fail
  refine mP.mono ?_
  rintro _ w2 ⟨rfl, hb⟩
  have S2 := keep (S1.out.bel hb)
  have F2 := keep (F1.out.trans (Ch.bel hb S1.out.lt))
  clear mP hb
  go_wp2
  go_ret
  exact ⟨rfl, R1, S2.out, F2.out⟩
set_option maxHeartbeats 1000000 in
theorem meet_past {N : Nat} {w : World} {R : Ro} {b : Nat} {s : Sx} (h : Sp N w R b s) (key : ByteArray) (hk : key.size ≤ maxLen) (x : En) (hl : s.lm key = some (some ⟨x.e, 0, none⟩)) (hx : s.E key = some x) (hp : pas s.now x = true) (hN : N + 1 ≤ 2600000000000) (hn : s.tn < maxLen) (hls : s.st.length ≤ 5000000000000) :
    Calls Tryz.prog 66 #[.pointer (some ⟨b, 0, none⟩), .string key] w fun e w' => e = .returned (.pointer none) ∧ ∃ R', Sp N w' R' b (goneS s key x) ∧ Fs w R w' R' := by
  obtain ⟨sv, hpb, _⟩ := h.blk
  obtain ⟨_, _, _, _, _, _, _, d7, _, _, _, _⟩ := hpb.cells
  have MG := sp_mget h (by omega) key hk
  rw [hl] at MG
  simp only [Option.getD_some, Option.isSome_some] at MG
  have MG := keep MG
  have HX := keep hx
  have HP := keep hp
  have HK := keep hk
  have HN := keep hN
  have HT := keep hn
  have HLS := keep hls
  clear h hpb hx hN hk hl hp hn hls
  go_enter Tryz.func66, Tryz.ntmps66
  go_wp2_with fail
  refine MG.out.mono ?_
  rintro _ w1 ⟨rfl, R1, s1, f1⟩
  obtain ⟨sv1, hpb1, _⟩ := s1.blk
  have mP := past_any hpb1 (s1.ent key x HX.out).1.2
  rw [HP.out] at mP
  have S1 := keep s1
  have F1 := keep f1
  clear s1 f1 MG d7 hpb1
  go_wp2_with fail
  refine mP.mono ?_
  rintro _ w2 ⟨rfl, hb⟩
  have MX := keep (expire_any (S1.out.bel hb) key HK.out x HX.out HN.out HT.out HLS.out)
  have F2 := keep (F1.out.trans (Ch.bel hb S1.out.lt))
  clear mP hb
  go_wp2_with fail
  refine MX.out.mono ?_
  rintro _ w3 ⟨rfl, R3, s3, f3⟩
  have S3 := keep s3
  have F3 := keep (F2.out.trans f3)
  clear s3 f3 MX
  go_wp2
  go_ret
  exact ⟨rfl, R3, S3.out, F3.out⟩
theorem ne_be {w : World} {R : Ro} {b : Nat} {s : Sx} {sv : Value} {key : ByteArray} {x : En} (hpb : Pb w R b s sv) (hP : Pe w R key x) : ¬ b = x.e := fun e => by
  have := hpb.1
  rw [e, hP.1.1] at this
  exact absurd (congrArg Prod.fst this) (by show (6 : Nat) ≠ 1; decide)
/-- a deadline is set -/
def limS (s : Sx) (key : ByteArray) (x : En) (at' : Int) : Sx :=
  { s with used := if mor x then s.used else wrap64 (s.used + wrap64 (wrap64 (x.cost + 16) - x.cost)), ld := upl s.ld key (some (some ⟨x.e, 0, none⟩)), nd := s.nd + (if (s.ld key).isNone then 1 else 0), E := upe s.E key (some { x with cost := if mor x then x.cost else wrap64 (x.cost + 16), dl := at' }) }
set_option maxHeartbeats 1000000 in
theorem limit_any {N : Nat} {w : World} {R : Ro} {b : Nat} {s : Sx} (h : Sp N w R b s) (key : ByteArray) (hk : key.size ≤ maxLen) (x : En) (hx : s.E key = some x) (at' : Int) (hN : N + 1 ≤ 2600000000000) :
    Calls Tryz.prog 73 #[.pointer (some ⟨b, 0, none⟩), .string key, .pointer (some ⟨x.e, 0, none⟩), .int .i64 at'] w fun e w' => e = .returned (.tuple #[]) ∧ ∃ R', Sp (N + 1) w' R' b (limS s key x at') ∧ Fs w R w' R' := by
  have p := h.ent key x hx
  obtain ⟨_, _, c2, c3, cf⟩ := p.1.2.cells
  have mM := mortal_any p.1.2
  have H := keep h
  have HX := keep hx
  have HK := keep hk
  have HN := keep hN
  have P := keep p
  clear h hx hN hk p
  go_enter Tryz.func73, Tryz.ntmps73
  go_wp2_with fail
  refine mM.mono ?_
  rintro _ w1' ⟨rfl, hw⟩
  obtain rfl := hw.symm
  clear mM
  cases hm : mor x
  · have MC := keep (charge_any H.out HX.out (wrap64 (x.cost + 16)))
    go_wp2_with fail
    refine MC.out.mono ?_
    rintro _ w2 ⟨rfl, s2, f2⟩
    have p2 := s2.ent key _ (upe_same _ _ _)
    obtain ⟨_, _, e2, _, ef⟩ := p2.1.2.cells
    obtain ⟨s3, p3, c3'⟩ := s2.put p2 2 (.int .i64 at') { x with cost := wrap64 (x.cost + 16), dl := at' } rfl rfl (DP.cells_setCell p2.1.2)
    obtain ⟨sv1, hpb1, hps1⟩ := s2.blk
    obtain ⟨_, _, _, _, _, _, _, _, d8, _, _, _⟩ := hpb1.cells
    have hne := ne_be hpb1 p2
    have hne' : ¬ x.e = b := fun e => hne e.symm
    have MD := keep (sp_dset s3 HN.out key HK.out (some ⟨x.e, 0, none⟩))
    have F3 := keep (f2.trans (c3'.mono own6))
    dsimp only at e2 ef d8 F3 MD hne
    clear s2 f2 p2 s3 p3 c3' hpb1 hps1 MC c2 c3 cf
    go_wp2_with fail
    refine MD.out.mono ?_
    rintro _ w4 ⟨⟨q, rfl⟩, R4, s4, f4⟩
    have S4 := keep s4
    have F4 := keep (F3.out.trans f4)
    clear s4 f4 MD d8
    go_wp2
    go_end0
    refine ⟨rfl, R4, ?_, F4.out⟩
    have := S4.out
    unfold limS
    rw [hm]
    simpa [upe_upe] using this
  · obtain ⟨s3, p3, c3'⟩ := H.out.put P.out 2 (.int .i64 at') { x with dl := at' } rfl rfl (DP.cells_setCell P.out.1.2)
    obtain ⟨sv1, hpb1, hps1⟩ := H.out.blk
    obtain ⟨_, _, _, _, _, _, _, _, d8, _, _, _⟩ := hpb1.cells
    have hne := ne_be hpb1 P.out
    have hne' : ¬ x.e = b := fun e => hne e.symm
    have MD := keep (sp_dset s3 HN.out key HK.out (some ⟨x.e, 0, none⟩))
    have F3 := keep ((c3'.mono own6 : Fs w R _ R))
    dsimp only at F3 MD
    clear s3 p3 c3' hpb1 hps1 c3
    go_wp2_with fail
    refine MD.out.mono ?_
    rintro _ w4 ⟨⟨q, rfl⟩, R4, s4, f4⟩
    have S4 := keep s4
    have F4 := keep (F3.out.trans f4)
    clear s4 f4 MD d8
    go_wp2
    go_end0
    refine ⟨rfl, R4, ?_, F4.out⟩
    have := S4.out
    unfold limS
    rw [hm]
    simpa [upe_upe] using this
end Ks
end Go.Proofs.YtijclcedjgniaaaGreat
