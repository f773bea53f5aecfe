/-
  Contracts over this program: a value is put; the clock, what is used, the steps that are told.
-/
import Derived.Test.YtijclcedjgniaaaGreatKsPub
namespace Go.Proofs.YtijclcedjgniaaaGreat
open Go.RowKit Go.Shelf
set_option linter.unusedVariables false
set_option maxRecDepth 100000
namespace Ks

set_option maxHeartbeats 400000 in
theorem put_novalue (w : World) (b : Option Addr) (key : ByteArray) (hb : b = none ∨ ∃ x, b = some ⟨x, 0, none⟩) : Calls Tryz.prog 26 #[.pointer b, .string key, .pointer none] w fun e w' => e = .returned (.int .i64 1) ∧ w' = w := by
  rcases hb with rfl | ⟨x, rfl⟩
  · go_enter Tryz.func26, Tryz.ntmps26
    go_wp2
    go_ret
    exact ⟨rfl, rfl⟩
  · go_enter Tryz.func26, Tryz.ntmps26
    go_wp2
    go_ret
    exact ⟨rfl, rfl⟩
set_option maxHeartbeats 1000000 in
theorem put_long {w : World} {b : Nat} (key : ByteArray) (v : Vi) (hv : Vs w v) (hl : 1048576 < key.size ∨ 1048576 < v.txt.size) :
    Calls Tryz.prog 26 #[pb b, .string key, pb v.blk] w fun e w' => e = .returned (.int .i64 2) ∧ Below w.heap.size w w' := by
  have MT := keep (hv.2.2 w (Nat.le_refl _) (fun _ _ => rfl)).1
  clear hv
  rcases hl with hl | hl
  · have h1 : (1048576 : Int) < (key.size : Int) := by omega
    clear hl
    go_enter Tryz.func26, Tryz.ntmps26
    go_wp2_with fail
    refine MT.out.mono ?_
    rintro _ w1 ⟨⟨q, rfl⟩, hb⟩
    have HB := keep hb
    clear hb MT
    go_wp2
    go_ret
    exact ⟨rfl, HB.out⟩
  · have h1 : (1048576 : Int) < (v.txt.size : Int) := by omega
    clear hl
    by_cases hk : (1048576 : Int) < (key.size : Int)
    · go_enter Tryz.func26, Tryz.ntmps26
      go_wp2_with fail
      refine MT.out.mono ?_
      rintro _ w1 ⟨⟨q, rfl⟩, hb⟩
      have HB := keep hb
      clear hb MT
      go_wp2
      go_ret
      exact ⟨rfl, HB.out⟩
    · go_enter Tryz.func26, Tryz.ntmps26
      go_wp2_with fail
      refine MT.out.mono ?_
      rintro _ w1 ⟨⟨q, rfl⟩, hb⟩
      have HB := keep hb
      clear hb MT
      go_wp2
      go_ret
      exact ⟨rfl, HB.out⟩

set_option maxHeartbeats 1000000 in
theorem put_new {N : Nat} {w : World} {R : Ro} {b : Nat} {s : Sx} (h : Sp N w R b s) (key : ByteArray) (hk : key.size ≤ 1048576) (v : Vi) (hv : Vs w v) (hr : ∀ k, v.own k → R k = (7, key)) (hts : v.txt.size ≤ 1048576) (hx : s.lm key = none) (hN : N + 1 ≤ 2600000000000) (hn : s.tn < maxLen) (he : v.emp = false) :
    Calls Tryz.prog 26 #[pb b, .string key, pb v.blk] w fun e w' => e = .returned (.int .i64 0) ∧ ∃ e0 R', Sp (N + 1) w' R' b (holS s key e0 v) ∧ Fs w R w' R' := by
  have hkm : key.size ≤ maxLen := Nat.le_trans hk (by decide)
  have MT := keep (hv.2.2 w (Nat.le_refl _) (fun _ _ => rfl)).1
  have k1 : ¬ (1048576 : Int) < (key.size : Int) := by omega
  have k2 : ¬ (1048576 : Int) < (v.txt.size : Int) := by omega
  have H := keep h
  have HV := keep hv
  have HR := keep hr
  have HK := keep hkm
  have HN := keep hN
  have HT := keep hn
  have HX := keep hx
  clear h hv hr hk hkm hts hN hn hx
  go_enter Tryz.func26, Tryz.ntmps26
  go_wp2_with fail
  refine MT.out.mono ?_
  rintro _ w1 ⟨⟨q, rfl⟩, hb⟩
  have h1 := H.out.bel hb
  have v1 := HV.out.bel hb
  have F1 := keep (Ch.bel hb H.out.lt : Fs w R w1 R)
  have MM := keep (meet_none h1 key HK.out HX.out (by have := HN.out; omega))
  have V1 := keep v1
  clear h1 v1 hb MT
  go_wp2_with fail
  refine MM.out.mono ?_
  rintro _ w2 ⟨rfl, R2, s2, f2⟩
  obtain ⟨v2, r2⟩ := V1.out.ch HR.out f2 (fun e => e.2 rfl)
  have mE := (v2.2.2 w2 (Nat.le_refl _) (fun _ _ => rfl)).2.1
  rw [he] at mE
  have S2 := keep s2
  have V2 := keep v2
  have R2' := keep r2
  have F2 := keep (F1.out.trans f2)
  clear s2 f2 v2 r2 MM k1 k2
  go_wp2_with fail
  refine mE.mono ?_
  rintro _ w3 ⟨rfl, hb⟩
  have h3 := S2.out.bel hb
  have F3 := keep (F2.out.trans (Ch.bel hb S2.out.lt))
  have V3 := keep (V2.out.bel hb)
  have H3 := keep h3
  clear mE hb h3
  have MH := keep (hold_new H3.out key HK.out v V3.out R2'.out HN.out HT.out)
  go_wp2_with fail
  refine MH.out.mono ?_
  rintro _ w4 ⟨rfl, e0, R4, s4, f4⟩
  have S4 := keep s4
  have F4 := keep (F3.out.trans f4)
  clear s4 f4 MH
  go_wp2
  go_ret
  exact ⟨rfl, e0, R4, S4.out, F4.out⟩

set_option maxHeartbeats 1000000 in
theorem put_gone {N : Nat} {w : World} {R : Ro} {b : Nat} {s : Sx} (h : Sp N w R b s) (key : ByteArray) (hk : key.size ≤ 1048576) (v : Vi) (hv : Vs w v) (hr : ∀ k, v.own k → R k = (7, key)) (hts : v.txt.size ≤ 1048576) (x : En) (hl : s.lm key = some (some ⟨x.e, 0, none⟩)) (hx : s.E key = some x) (hp : pas s.now x = false) (hN : N + 1 ≤ 2600000000000) (hn : s.tn < maxLen) (he : v.emp = true) :
    Calls Tryz.prog 26 #[pb b, .string key, pb v.blk] w fun e w' => e = .returned (.int .i64 0) ∧ ∃ R', Sp N w' R' b (dropS s key x) ∧ Fs w R w' R' := by
  have hkm : key.size ≤ maxLen := Nat.le_trans hk (by decide)
  have MT := keep (hv.2.2 w (Nat.le_refl _) (fun _ _ => rfl)).1
  have k1 : ¬ (1048576 : Int) < (key.size : Int) := by omega
  have k2 : ¬ (1048576 : Int) < (v.txt.size : Int) := by omega
  have H := keep h
  have HV := keep hv
  have HR := keep hr
  have HK := keep hkm
  have HN := keep hN
  have HT := keep hn
  have HX := keep hx
  have HLL := keep hl
  have HPP := keep hp
  clear hl hp
  clear h hv hr hk hkm hts hN hn hx
  go_enter Tryz.func26, Tryz.ntmps26
  go_wp2_with fail
  refine MT.out.mono ?_
  rintro _ w1 ⟨⟨q, rfl⟩, hb⟩
  have h1 := H.out.bel hb
  have v1 := HV.out.bel hb
  have F1 := keep (Ch.bel hb H.out.lt : Fs w R w1 R)
  have MM := keep (meet_here h1 key HK.out x HLL.out HX.out HPP.out (by have := HN.out; omega))
  have V1 := keep v1
  clear h1 v1 hb MT
  go_wp2_with fail
  refine MM.out.mono ?_
  rintro _ w2 ⟨rfl, R2, s2, f2⟩
  obtain ⟨v2, r2⟩ := V1.out.ch HR.out f2 (fun e => e.2 rfl)
  have mE := (v2.2.2 w2 (Nat.le_refl _) (fun _ _ => rfl)).2.1
  rw [he] at mE
  have S2 := keep s2
  have V2 := keep v2
  have R2' := keep r2
  have F2 := keep (F1.out.trans f2)
  clear s2 f2 v2 r2 MM k1 k2
  go_wp2_with fail
  refine mE.mono ?_
  rintro _ w3 ⟨rfl, hb⟩
  have h3 := S2.out.bel hb
  have F3 := keep (F2.out.trans (Ch.bel hb S2.out.lt))
  have V3 := keep (V2.out.bel hb)
  have H3 := keep h3
  clear mE hb h3
  have MH := keep (drop_any H3.out key HK.out x HX.out HN.out HT.out)
  go_wp2_with fail
  refine MH.out.mono ?_
  rintro _ w4 ⟨rfl, R4, s4, f4⟩
  have S4 := keep s4
  have F4 := keep (F3.out.trans f4)
  clear s4 f4 MH
  go_wp2
  go_ret
  exact ⟨rfl, R4, S4.out, F4.out⟩

set_option maxHeartbeats 400000 in
theorem tick_nil (w : World) (t : Int) : Calls Tryz.prog 30 #[.pointer none, .int .i64 t] w fun e w' => e = .returned (.int .i64 1) ∧ w' = w := by
  go_enter Tryz.func30, Tryz.ntmps30
  go_wp2
  go_ret
  exact ⟨rfl, rfl⟩
set_option maxHeartbeats 400000 in
theorem tick_bad (w : World) (b : Nat) (t : Int) (h : t < 0 ∨ 9007199254740992 < t) : Calls Tryz.prog 30 #[pb b, .int .i64 t] w fun e w' => e = .returned (.int .i64 3) ∧ w' = w := by
  by_cases h0 : t < 0
  · clear h
    go_enter Tryz.func30, Tryz.ntmps30
    go_wp2
    go_ret
    exact ⟨rfl, rfl⟩
  · have h1 : (9007199254740992 : Int) < t := by omega
    clear h
    go_enter Tryz.func30, Tryz.ntmps30
    go_wp2
    go_ret
    exact ⟨rfl, rfl⟩
set_option maxHeartbeats 400000 in
theorem tick_to {N : Nat} {w : World} {R : Ro} {b : Nat} {s : Sx} (h : Sp N w R b s) (t : Int) (h0 : 0 ≤ t) (h1 : t ≤ 9007199254740992) (m : Int) (hm : (s.now < t ∧ m = t) ∨ (t ≤ s.now ∧ m = s.now)) :
    Calls Tryz.prog 30 #[pb b, .int .i64 t] w fun e w' => e = .returned (.int .i64 0) ∧ Sp N w' R b { s with now := m } ∧ Fs w R w' R := by
  obtain ⟨sv, hpb, _⟩ := h.blk
  obtain ⟨_, _, _, _, d4, _, _, _, _, _, _, df⟩ := hpb.cells
  have H := keep h
  have HPB := keep hpb
  clear h hpb
  have h0' : ¬ t < 0 := by omega
  have h1' : ¬ (9007199254740992 : Int) < t := by omega
  rcases hm with ⟨hm, rfl⟩ | ⟨hm, hm'⟩
  · go_enter Tryz.func30, Tryz.ntmps30
    go_wp2
    go_ret
    obtain ⟨s1, c1⟩ := H.out.cell HPB.out.1 (w' := w.setCell ⟨b, 4, none⟩ (.int .i64 m)) 4 _ m s.uses s.used ⟨rfl, rfl, rfl, rfl⟩ (fun sv hp => ⟨hp.1, DP.cells_setCell hp.2⟩)
    exact ⟨rfl, s1, c1.mono (own_ro (by decide) (by decide))⟩
  · have hm2 : ¬ s.now < t := by omega
    have HM := keep hm'
    clear hm'
    go_enter Tryz.func30, Tryz.ntmps30
    go_wp2
    go_ret
    obtain ⟨s1, c1⟩ := H.out.cell HPB.out.1 (w' := w.setCell ⟨b, 4, none⟩ (.int .i64 s.now)) 4 _ s.now s.uses s.used ⟨rfl, rfl, rfl, rfl⟩ (fun sv hp => ⟨hp.1, DP.cells_setCell hp.2⟩)
    rw [HM.out]
    exact ⟨rfl, s1, c1.mono (own_ro (by decide) (by decide))⟩
set_option maxHeartbeats 400000 in
theorem now_any {N : Nat} {w : World} {R : Ro} {b : Nat} {s : Sx} (h : Sp N w R b s) : Calls Tryz.prog 16 #[pb b] w fun e w' => e = .returned (.int .i64 s.now) ∧ w' = w := by
  obtain ⟨sv, hpb, _⟩ := h.blk
  obtain ⟨_, _, _, _, d4, _⟩ := hpb.cells
  clear h hpb
  go_enter Tryz.func16, Tryz.ntmps16
  go_wp2
  go_ret
  exact ⟨rfl, rfl⟩
set_option maxHeartbeats 400000 in
theorem used_any {N : Nat} {w : World} {R : Ro} {b : Nat} {s : Sx} (h : Sp N w R b s) : Calls Tryz.prog 12 #[pb b] w fun e w' => e = .returned (.int .i64 s.used) ∧ w' = w := by
  obtain ⟨sv, hpb, _⟩ := h.blk
  obtain ⟨_, _, _, _, _, _, d6, _⟩ := hpb.cells
  clear h hpb
  go_enter Tryz.func12, Tryz.ntmps12
  go_wp2
  go_ret
  exact ⟨rfl, rfl⟩
set_option maxHeartbeats 400000 in
theorem used_nil (w : World) : Calls Tryz.prog 12 #[.pointer none] w fun e w' => e = .returned (.int .i64 0) ∧ w' = w := by
  go_enter Tryz.func12, Tryz.ntmps12
  go_wp2
  go_ret
  exact ⟨rfl, rfl⟩
set_option maxHeartbeats 1000000 in
theorem steps_any {N : Nat} {w : World} {R : Ro} {b : Nat} {s : Sx} (h : Sp N w R b s) : Calls Tryz.prog 13 #[pb b] w fun e w' => (∃ v, e = .returned v ∧ w'.ownsRow 0 55 2 v s.st.length (enS s.st)) ∧ ∃ R', Sp N w' R' b { s with st := [] } ∧ Fs w R w' R' := by
  obtain ⟨sv, hpb, hps⟩ := h.blk
  obtain ⟨_, _, _, _, _, _, _, _, _, _, d10, df⟩ := hpb.cells
  have H := keep h
  have HPB := keep hpb
  have HPS := keep hps
  obtain ⟨ao, ca, hv⟩ := Vl.own_sl hps.1
  obtain ⟨LL, hLL⟩ : ∃ LL, s.st.length = LL := ⟨_, rfl⟩
  rw [hLL] at hv
  subst hv
  have HLL := keep hLL
  clear h hpb hps hLL
  go_enter Tryz.func13, Tryz.ntmps13
  go_wp2
  go_ret
  have c : Ch (fun x => x = ro 1 ∨ x = ro 5) w R (w.setCell ⟨b, 10, none⟩ (.slice none 0 0)) R := Ch.set _ H.out.lt (.inl HPB.out.1)
  have hvb : ¬ (Value.slice ao LL ca).ownBlock = some b := fun e => by have := HPS.out.2 b e; rw [HPB.out.1] at this; exact absurd (congrArg Prod.fst this) (show (1 : Nat) ≠ 5 by decide)
  refine ⟨⟨.slice ao LL ca, rfl, DP.own_kept HPS.out.1 (fun k e => Below.heap_setCell _ _ _ _ (fun e' => hvb (by rw [e]; simp at e'; rw [e'])))⟩, R, H.out.stps c (.slice none 0 0) [] ⟨HPB.out.1, DP.cells_setCell HPB.out.2⟩ ⟨⟨rfl, .inl ⟨rfl, rfl⟩⟩, fun k e => by cases e⟩, c.mono (fun x hx => hx.elim (own_ro (by decide) (by decide) x) (own_ro (by decide) (by decide) x))⟩

end Ks
end Go.Proofs.YtijclcedjgniaaaGreat
