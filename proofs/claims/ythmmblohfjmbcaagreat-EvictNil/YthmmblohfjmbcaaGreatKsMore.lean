/-
  Contracts over this program: a value is put over another one; keys are changed, deleted, evicted; deadlines told and taken.
-/
import Derived.Test.YthmmblohfjmbcaaGreatKsPut
namespace Go.Proofs.YthmmblohfjmbcaaGreat
open Go.RowKit Go.Shelf
set_option linter.unusedVariables false
set_option maxRecDepth 100000
namespace Ks
/-- an entry holds another value -/
theorem Sp.putv {N : Nat} {w : World} {R : Ro} {b : Nat} {s : Sx} {key : ByteArray} {x : En} (h : Sp N w R b s) (hP : Pe w R key x) (v : Vi) (hv : Vs w v) (hr : ∀ k, v.own k → R k = (7, key)) :
    Sp N (w.setCell ⟨x.e, 0, none⟩ (.pointer (some ⟨v.blk, 0, none⟩))) R b { s with E := upe s.E key (some { x with v := v }) } ∧ Ch (· = (6, key)) w R (w.setCell ⟨x.e, 0, none⟩ (.pointer (some ⟨v.blk, 0, none⟩))) R := by
  have c : Ch (· = (6, key)) w R (w.setCell ⟨x.e, 0, none⟩ (.pointer (some ⟨v.blk, 0, none⟩))) R := Ch.set _ h.lt hP.1.1
  have hp : Pe (w.setCell ⟨x.e, 0, none⟩ (.pointer (some ⟨v.blk, 0, none⟩))) R key { x with v := v } := by
    refine ⟨⟨hP.1.1, DP.cells_setCell hP.1.2⟩, ?_⟩
    exact hv.ch hr c (fun e => absurd (congrArg Prod.fst e) (show (7 : Nat) ≠ 6 by decide))
  exact ⟨h.entry key c _ hp, c⟩
def freed (x : En) : En := if mor x then { x with cost := wrap64 (x.cost - 16), dl := 0 } else x
def freeS (s : Sx) (key : ByteArray) (x : En) : Sx := if mor x then unlS s key x else s
theorem freed_e (x : En) : (freed x).e = x.e := by unfold freed; split <;> rfl
theorem freed_v (x : En) : (freed x).v = x.v := by unfold freed; split <;> rfl
theorem freed_mor (x : En) : mor { freed x with v := x.v } = false := by
  unfold freed
  cases h : mor x
  · rw [if_neg (by simp)]; exact h
  · rw [if_pos rfl]; rfl
/-- what a key that was there holds then -/
def rc0 (key : ByteArray) (c : Int) : Int := wrap64 (wrap64 (48 + (key.size : Int)) + c)
def ovrX (key : ByteArray) (x : En) (v : Vi) (stamp : Nat) : En := { freed x with v := v, cost := rc0 key v.cost, stamp := stamp }

def ovrS (s : Sx) (key : ByteArray) (x : En) (v : Vi) : Sx :=
  { freeS s key x with lm := upl s.lm key (some (some ⟨x.e, 0, none⟩)), nm := s.nm + (if (s.lm key).isNone then 1 else 0), used := wrap64 ((freeS s key x).used + wrap64 (rc0 key v.cost - (freed x).cost)), uses := (s.uses + 1) % 18446744073709551616, tn := s.tn + 1, T := insT s.T key, E := upe s.E key (some (ovrX key x v ((s.uses + 1) % 18446744073709551616))) }
theorem rck_free (key : ByteArray) (x : En) (v : Vi) : rck key { freed x with v := v } = rc0 key v.cost := if_neg (by
  have h := freed_mor x
  unfold mor at h ⊢
  dsimp only at h ⊢
  rw [h]; decide)
def restS (s : Sx) (key : ByteArray) (x : En) (v : Vi) : Sx := { s with lm := upl s.lm key (some (some ⟨x.e, 0, none⟩)), nm := s.nm + (if (s.lm key).isNone then 1 else 0), used := wrap64 (s.used + wrap64 (rck key { x with v := v } - x.cost)), uses := (s.uses + 1) % 18446744073709551616, tn := s.tn + 1, T := insT s.T key, E := upe s.E key (some { x with v := v, cost := rck key { x with v := v }, stamp := (s.uses + 1) % 18446744073709551616 }) }
set_option maxHeartbeats 1000000 in
/-- behind the deadline: the value, the main dict, cost, stamp, touch -/
theorem hold_rest {N : Nat} {w : World} {R : Ro} {b : Nat} {s : Sx} (h : Sp N w R b s) (key : ByteArray) (hk : key.size ≤ maxLen) (x : En) (hx : s.E key = some x) (v : Vi) (hv : Vs w v) (hr : ∀ k, v.own k → R k = (7, key)) (hN : N + 1 ≤ 2600000000000) (hn : s.tn < maxLen) (hm : mor x = false) :
    Calls Tryz.prog 39 #[pb b, .string key, pb x.e, pb v.blk] w fun e w' => e = .returned (.tuple #[]) ∧ ∃ R', Sp (N + 1) w' R' b (restS s key x v) ∧ Fs w R w' R' := by
  have p := h.ent key x hx
  have mM := mortal_any p.1.2
  rw [hm] at mM
  obtain ⟨c0, _, _, _, cf⟩ := p.1.2.cells
  obtain ⟨s1, ch1⟩ := h.putv p v hv hr
  obtain ⟨sv, hpb, _⟩ := h.blk
  have hne := ne_be hpb p
  have hne' : ¬ x.e = b := fun e => hne e.symm
  obtain ⟨_, _, _, _, _, _, _, d7, _, _, _, _⟩ := hpb.cells
  have MS := keep (sp_mset s1 hN key hk (some ⟨x.e, 0, none⟩))
  have F1 := keep (ch1.mono own6 : Fs w R _ R)
  have HK := keep hk
  have HT := keep hn
  dsimp only at MS F1
  clear h hx hv hr hN hn p s1 ch1 hpb hk
  go_enter Tryz.func39, Tryz.ntmps39
  go_wp2_with fail
  refine mM.mono ?_
  rintro _ w2 ⟨rfl, hw⟩
  obtain rfl := hw.symm
  clear mM
  go_wp2_with fail
  refine MS.out.mono ?_
  rintro _ w3 ⟨⟨q, rfl⟩, R3, s3, f3⟩
  have MR := keep (reckon_any s3 key _ (upe_same _ _ _))
  have F3 := keep (F1.out.trans f3)
  dsimp only at MR
  clear s3 f3 c0 cf d7 MS
  go_wp2_with fail
  refine MR.out.mono ?_
  rintro _ w4 ⟨rfl, s4, f4⟩
  have MU := keep (use_any s4 (upe_same _ _ _))
  have F4 := keep (F3.out.trans f4)
  dsimp only at MU
  clear s4 f4 MR
  go_wp2_with fail
  refine MU.out.mono ?_
  rintro _ w5 ⟨rfl, s5, f5⟩
  have MT := keep (touch_any s5 key HK.out HT.out)
  have F5 := keep (F4.out.trans f5)
  clear s5 f5 MU
  go_wp2_with fail
  refine MT.out.mono ?_
  rintro _ w6 ⟨rfl, s6, f6⟩
  have S6 := keep s6
  have F6 := keep (F5.out.trans f6)
  clear s6 f6 MT
  go_wp2
  go_end0
  refine ⟨rfl, R3, ?_, F6.out⟩
  have := S6.out
  simp only [upe_upe] at this
  unfold restS
  exact this

set_option maxHeartbeats 1000000 in
theorem hold_old {N : Nat} {w : World} {R : Ro} {b : Nat} {s : Sx} (h : Sp N w R b s) (key : ByteArray) (hk : key.size ≤ maxLen) (x : En) (hx : s.E key = some x) (v : Vi) (hv : Vs w v) (hr : ∀ k, v.own k → R k = (7, key)) (hN : N + 1 ≤ 2600000000000) (hn : s.tn < maxLen) (hm : mor x = true) :
    Calls Tryz.prog 39 #[pb b, .string key, pb x.e, pb v.blk] w fun e w' => e = .returned (.tuple #[]) ∧ ∃ R', Sp (N + 1) w' R' b (restS (unlS s key x) key { x with cost := wrap64 (x.cost - 16), dl := 0 } v) ∧ Fs w R w' R' := by
  have p := h.ent key x hx
  have mM := mortal_any p.1.2
  rw [hm] at mM
  have ML := keep (unlimit_any h key hk x hx hN)
  have HV := keep hv
  have HR := keep hr
  have HK := keep hk
  have HN := keep hN
  have HT := keep hn
  clear h hx hv hr hN hn p hk
  go_enter Tryz.func39, Tryz.ntmps39
  go_wp2_with fail
  refine mM.mono ?_
  rintro _ w2 ⟨rfl, hw⟩
  obtain rfl := hw.symm
  clear mM
  go_wp2_with fail
  refine ML.out.mono ?_
  rintro _ w1 ⟨rfl, R1, s0, f0⟩
  obtain ⟨v1, r1⟩ := HV.out.ch HR.out f0 (fun e => e.2 rfl)
  have p := s0.ent key _ (upe_same _ _ _)
  obtain ⟨c0, _, _, _, cf⟩ := p.1.2.cells
  obtain ⟨s1, ch1⟩ := s0.putv p v v1 r1
  obtain ⟨sv, hpb, _⟩ := s0.blk
  have hne := ne_be hpb p
  have hne' : ¬ x.e = b := fun e => hne e.symm
  obtain ⟨_, _, _, _, _, _, _, d7, _, _, _, _⟩ := hpb.cells
  have MS := keep (sp_mset s1 HN.out key HK.out (some ⟨x.e, 0, none⟩))
  have F1 := keep (f0.trans (ch1.mono own6))
  dsimp only at MS F1 c0 cf hne d7
  clear p s1 ch1 hpb s0 f0 v1 r1 ML
  go_wp2_with fail
  refine MS.out.mono ?_
  rintro _ w3 ⟨⟨q, rfl⟩, R3, s3, f3⟩
  have MR := keep (reckon_any s3 key _ (upe_same _ _ _))
  have F3 := keep (F1.out.trans f3)
  dsimp only at MR
  clear s3 f3 c0 cf d7 MS
  go_wp2_with fail
  refine MR.out.mono ?_
  rintro _ w4 ⟨rfl, s4, f4⟩
  have MU := keep (use_any s4 (upe_same _ _ _))
  have F4 := keep (F3.out.trans f4)
  dsimp only at MU
  clear s4 f4 MR
  go_wp2_with fail
  refine MU.out.mono ?_
  rintro _ w5 ⟨rfl, s5, f5⟩
  have MT := keep (touch_any s5 key HK.out HT.out)
  have F5 := keep (F4.out.trans f5)
  clear s5 f5 MU
  go_wp2_with fail
  refine MT.out.mono ?_
  rintro _ w6 ⟨rfl, s6, f6⟩
  have S6 := keep s6
  have F6 := keep (F5.out.trans f6)
  clear s6 f6 MT
  go_wp2
  go_end0
  refine ⟨rfl, R3, ?_, F6.out⟩
  have := S6.out
  simp only [upe_upe] at this
  unfold restS
  exact this

set_option maxHeartbeats 1000000 in
theorem stamp_past {N : Nat} {w : World} {R : Ro} {b : Nat} {s : Sx} (h : Sp N w R b s) (key : ByteArray) (hk : key.size ≤ maxLen) (x : En) (hl : s.lm key = some (some ⟨x.e, 0, none⟩)) (hx : s.E key = some x) (hp : pas s.now x = true) (hN : N + 1 ≤ 2600000000000) (hn : s.tn < maxLen) (hls : s.st.length ≤ 5000000000000) :
    Calls Tryz.prog 42 #[pb b, .string key] w fun e w' => e = .returned (.tuple #[.int .u64 0, .bool false]) ∧ ∃ R', Sp N w' R' b (goneS s key x) ∧ Fs w R w' R' := by
  have MM := keep (meet_past h key hk x hl hx hp hN hn hls)
  clear h hk hx hN hl hp hn hls
  go_enter Tryz.func42, Tryz.ntmps42
  go_wp2_with fail
  refine MM.out.mono ?_
  rintro _ w1 ⟨rfl, R1, s1, f1⟩
  have S1 := keep s1
  have F1 := keep f1
  clear s1 f1 MM
  go_wp2
  refine bodyPost_ret (results_tmp2 rfl _ _ _) rfl ?_
  exact ⟨rfl, R1, S1.out, F1.out⟩

set_option maxHeartbeats 1000000 in
theorem delete_none {N : Nat} {w : World} {R : Ro} {b : Nat} {s : Sx} (h : Sp N w R b s) (key : ByteArray) (hk : key.size ≤ maxLen) (hx : s.lm key = none) (hN : N ≤ 2600000000000) :
    Calls Tryz.prog 34 #[pb b, .string key] w fun e w' => e = .returned (.bool false) ∧ ∃ R', Sp N w' R' b s ∧ Fs w R w' R' := by
  have MM := keep (meet_none h key hk hx hN)
  clear h hk hx hN
  go_enter Tryz.func34, Tryz.ntmps34
  go_wp2_with fail
  refine MM.out.mono ?_
  rintro _ w1 ⟨rfl, R1, s1, f1⟩
  have S1 := keep s1
  have F1 := keep f1
  clear s1 f1 MM
  go_wp2
  go_ret
  exact ⟨rfl, R1, S1.out, F1.out⟩

set_option maxHeartbeats 1000000 in
theorem delete_past {N : Nat} {w : World} {R : Ro} {b : Nat} {s : Sx} (h : Sp N w R b s) (key : ByteArray) (hk : key.size ≤ maxLen) (x : En) (hl : s.lm key = some (some ⟨x.e, 0, none⟩)) (hx : s.E key = some x) (hp : pas s.now x = true) (hN : N + 1 ≤ 2600000000000) (hn : s.tn < maxLen) (hls : s.st.length ≤ 5000000000000) :
    Calls Tryz.prog 34 #[pb b, .string key] w fun e w' => e = .returned (.bool false) ∧ ∃ R', Sp N w' R' b (goneS s key x) ∧ Fs w R w' R' := by
  have MM := keep (meet_past h key hk x hl hx hp hN hn hls)
  clear h hk hx hN hl hp hn hls
  go_enter Tryz.func34, Tryz.ntmps34
  go_wp2_with fail
  refine MM.out.mono ?_
  rintro _ w1 ⟨rfl, R1, s1, f1⟩
  have S1 := keep s1
  have F1 := keep f1
  clear s1 f1 MM
  go_wp2
  go_ret
  exact ⟨rfl, R1, S1.out, F1.out⟩

set_option maxHeartbeats 1000000 in
theorem deadline_none {N : Nat} {w : World} {R : Ro} {b : Nat} {s : Sx} (h : Sp N w R b s) (key : ByteArray) (hk : key.size ≤ maxLen) (hx : s.lm key = none) (hN : N ≤ 2600000000000) :
    Calls Tryz.prog 44 #[pb b, .string key] w fun e w' => e = .returned (.tuple #[.int .i64 0, .bool false]) ∧ ∃ R', Sp N w' R' b s ∧ Fs w R w' R' := by
  have MM := keep (meet_none h key hk hx hN)
  clear h hk hx hN
  go_enter Tryz.func44, Tryz.ntmps44
  go_wp2_with fail
  refine MM.out.mono ?_
  rintro _ w1 ⟨rfl, R1, s1, f1⟩
  have S1 := keep s1
  have F1 := keep f1
  clear s1 f1 MM
  go_wp2
  refine bodyPost_ret (results_tmp2 rfl _ _ _) rfl ?_
  exact ⟨rfl, R1, S1.out, F1.out⟩

set_option maxHeartbeats 1000000 in
theorem deadline_past {N : Nat} {w : World} {R : Ro} {b : Nat} {s : Sx} (h : Sp N w R b s) (key : ByteArray) (hk : key.size ≤ maxLen) (x : En) (hl : s.lm key = some (some ⟨x.e, 0, none⟩)) (hx : s.E key = some x) (hp : pas s.now x = true) (hN : N + 1 ≤ 2600000000000) (hn : s.tn < maxLen) (hls : s.st.length ≤ 5000000000000) :
    Calls Tryz.prog 44 #[pb b, .string key] w fun e w' => e = .returned (.tuple #[.int .i64 0, .bool false]) ∧ ∃ R', Sp N w' R' b (goneS s key x) ∧ Fs w R w' R' := by
  have MM := keep (meet_past h key hk x hl hx hp hN hn hls)
  clear h hk hx hN hl hp hn hls
  go_enter Tryz.func44, Tryz.ntmps44
  go_wp2_with fail
  refine MM.out.mono ?_
  rintro _ w1 ⟨rfl, R1, s1, f1⟩
  have S1 := keep s1
  have F1 := keep f1
  clear s1 f1 MM
  go_wp2
  refine bodyPost_ret (results_tmp2 rfl _ _ _) rfl ?_
  exact ⟨rfl, R1, S1.out, F1.out⟩

set_option maxHeartbeats 1000000 in
theorem delete_here {N : Nat} {w : World} {R : Ro} {b : Nat} {s : Sx} (h : Sp N w R b s) (key : ByteArray) (hk : key.size ≤ maxLen) (x : En) (hl : s.lm key = some (some ⟨x.e, 0, none⟩)) (hx : s.E key = some x) (hp : pas s.now x = false) (hN : N + 1 ≤ 2600000000000) (hn : s.tn < maxLen)  :
    Calls Tryz.prog 34 #[pb b, .string key] w fun e w' => e = .returned (.bool true) ∧ ∃ R', Sp N w' R' b (dropS s key x) ∧ Fs w R w' R' := by
  have MM := keep (meet_here h key hk x hl hx hp (by omega))
  have HX := keep hx
  have HK := keep hk
  have HN := keep hN
  have HT := keep hn
  clear h hk hx hN hl hp hn
  go_enter Tryz.func34, Tryz.ntmps34
  go_wp2_with fail
  refine MM.out.mono ?_
  rintro _ w1 ⟨rfl, R1, s1, f1⟩
  have MD := keep (drop_any s1 key HK.out x HX.out HN.out HT.out)
  have F1 := keep f1
  clear s1 f1 MM
  go_wp2_with fail
  refine MD.out.mono ?_
  rintro _ w3 ⟨rfl, R3, s3, f3⟩
  have S3 := keep s3
  have F3 := keep (F1.out.trans f3)
  clear s3 f3 MD
  go_wp2
  go_ret
  exact ⟨rfl, R3, S3.out, F3.out⟩

set_option maxHeartbeats 1000000 in
theorem deadline_here {N : Nat} {w : World} {R : Ro} {b : Nat} {s : Sx} (h : Sp N w R b s) (key : ByteArray) (hk : key.size ≤ maxLen) (x : En) (hl : s.lm key = some (some ⟨x.e, 0, none⟩)) (hx : s.E key = some x) (hp : pas s.now x = false) (hN : N + 1 ≤ 2600000000000) (hn : s.tn < maxLen)  :
    Calls Tryz.prog 44 #[pb b, .string key] w fun e w' => e = .returned (.tuple #[.int .i64 x.dl, .bool (mor x)]) ∧ ∃ R', Sp N w' R' b s ∧ Fs w R w' R' := by
  have MM := keep (meet_here h key hk x hl hx hp (by omega))
  have HX := keep hx
  have HK := keep hk
  have HN := keep hN
  have HT := keep hn
  clear h hk hx hN hl hp hn
  go_enter Tryz.func44, Tryz.ntmps44
  go_wp2_with fail
  refine MM.out.mono ?_
  rintro _ w1 ⟨rfl, R1, s1, f1⟩
  have p := s1.ent key x HX.out
  obtain ⟨c0, c1, c2, c3, cf⟩ := p.1.2.cells
  have mM : ∀ n, Calls Tryz.prog 60 #[.pointer (some ⟨x.e, 0, none⟩)] (w1.drewN n) fun e w'' => e = .returned (.bool (mor x)) ∧ w'' = w1.drewN n := fun n => mortal_any (w := w1.drewN n) (x := x) p.1.2
  have MM2 := keep mM
  have S1 := keep s1
  have F1 := keep f1
  clear s1 f1 MM p mM
  go_wp2
  go_quiet (first | (go_at_call 60; refine Calls.quiet_of_same (MM2.out _)))
  go_wp2
  refine bodyPost_ret (results_tmp2 rfl _ _ _) rfl ?_
  exact ⟨rfl, R1, S1.out.bel (below_drewN (Below.refl _ _) _), F1.out.trans (Ch.bel (below_drewN (Below.refl _ _) _) S1.out.lt)⟩

set_option maxHeartbeats 1000000 in
theorem put_over {N : Nat} {w : World} {R : Ro} {b : Nat} {s : Sx} (h : Sp N w R b s) (key : ByteArray) (hk : key.size ≤ 1048576) (v : Vi) (hv : Vs w v) (hr : ∀ k, v.own k → R k = (7, key)) (hts : v.txt.size ≤ 1048576) (x : En) (hl : s.lm key = some (some ⟨x.e, 0, none⟩)) (hx : s.E key = some x) (hp : pas s.now x = false) (hN : N + 1 ≤ 2600000000000) (hn : s.tn < maxLen) (hm : mor x = false) (he : v.emp = false) :
    Calls Tryz.prog 21 #[pb b, .string key, pb v.blk] w fun e w' => e = .returned (.int .i64 0) ∧ ∃ R', Sp (N + 1) w' R' b (restS s key x v) ∧ Fs w R w' R' := by
  have hkm : key.size ≤ maxLen := Nat.le_trans hk (by decide)
  have MT := keep (hv.2.2 w (Nat.le_refl _) (fun _ _ => rfl)).1
  have k1 : ¬ (1048576 : Int) < (key.size : Int) := by omega
  have k2 : ¬ (1048576 : Int) < (v.txt.size : Int) := by omega
  have H := keep h
  have HV := keep hv
  have HR := keep hr
  have HK := keep hkm
  have HN := keep hN
  have HT := keep hn
  have HX := keep hx
  have HLL := keep hl
  have HPP := keep hp
  clear hl hp
  clear h hv hr hk hkm hts hN hn hx
  go_enter Tryz.func21, Tryz.ntmps21
  go_wp2_with fail
  refine MT.out.mono ?_
  rintro _ w1 ⟨⟨q, rfl⟩, hb⟩
  have h1 := H.out.bel hb
  have v1 := HV.out.bel hb
  have F1 := keep (Ch.bel hb H.out.lt : Fs w R w1 R)
  have MM := keep (meet_here h1 key HK.out x HLL.out HX.out HPP.out (by have := HN.out; omega))
  have V1 := keep v1
  clear h1 v1 hb MT
  go_wp2_with fail
  refine MM.out.mono ?_
  rintro _ w2 ⟨rfl, R2, s2, f2⟩
  obtain ⟨v2, r2⟩ := V1.out.ch HR.out f2 (fun e => e.2 rfl)
  have mE := (v2.2.2 w2 (Nat.le_refl _) (fun _ _ => rfl)).2.1
  rw [he] at mE
  have S2 := keep s2
  have V2 := keep v2
  have R2' := keep r2
  have F2 := keep (F1.out.trans f2)
  clear s2 f2 v2 r2 MM k1 k2
  go_wp2_with fail
  refine mE.mono ?_
  rintro _ w3 ⟨rfl, hb⟩
  have h3 := S2.out.bel hb
  have F3 := keep (F2.out.trans (Ch.bel hb S2.out.lt))
  have V3 := keep (V2.out.bel hb)
  have H3 := keep h3
  clear mE hb h3
  have MH := keep (hold_rest H3.out key HK.out x HX.out v V3.out R2'.out HN.out HT.out hm)
  go_wp2_with fail
  refine MH.out.mono ?_
  rintro _ w4 ⟨rfl, R4, s4, f4⟩
  have S4 := keep s4
  have F4 := keep (F3.out.trans f4)
  clear s4 f4 MH
  go_wp2
  go_ret
  exact ⟨rfl, R4, S4.out, F4.out⟩

set_option maxHeartbeats 1000000 in
theorem put_overd {N : Nat} {w : World} {R : Ro} {b : Nat} {s : Sx} (h : Sp N w R b s) (key : ByteArray) (hk : key.size ≤ 1048576) (v : Vi) (hv : Vs w v) (hr : ∀ k, v.own k → R k = (7, key)) (hts : v.txt.size ≤ 1048576) (x : En) (hl : s.lm key = some (some ⟨x.e, 0, none⟩)) (hx : s.E key = some x) (hp : pas s.now x = false) (hN : N + 1 ≤ 2600000000000) (hn : s.tn < maxLen) (hm : mor x = true) (he : v.emp = false) :
    Calls Tryz.prog 21 #[pb b, .string key, pb v.blk] w fun e w' => e = .returned (.int .i64 0) ∧ ∃ R', Sp (N + 1) w' R' b (restS (unlS s key x) key { x with cost := wrap64 (x.cost - 16), dl := 0 } v) ∧ Fs w R w' R' := by
  have hkm : key.size ≤ maxLen := Nat.le_trans hk (by decide)
  have MT := keep (hv.2.2 w (Nat.le_refl _) (fun _ _ => rfl)).1
  have k1 : ¬ (1048576 : Int) < (key.size : Int) := by omega
  have k2 : ¬ (1048576 : Int) < (v.txt.size : Int) := by omega
  have H := keep h
  have HV := keep hv
  have HR := keep hr
  have HK := keep hkm
  have HN := keep hN
  have HT := keep hn
  have HX := keep hx
  have HLL := keep hl
  have HPP := keep hp
  clear hl hp
  clear h hv hr hk hkm hts hN hn hx
  go_enter Tryz.func21, Tryz.ntmps21
  go_wp2_with fail
  refine MT.out.mono ?_
  rintro _ w1 ⟨⟨q, rfl⟩, hb⟩
  have h1 := H.out.bel hb
  have v1 := HV.out.bel hb
  have F1 := keep (Ch.bel hb H.out.lt : Fs w R w1 R)
  have MM := keep (meet_here h1 key HK.out x HLL.out HX.out HPP.out (by have := HN.out; omega))
  have V1 := keep v1
  clear h1 v1 hb MT
  go_wp2_with fail
  refine MM.out.mono ?_
  rintro _ w2 ⟨rfl, R2, s2, f2⟩
  obtain ⟨v2, r2⟩ := V1.out.ch HR.out f2 (fun e => e.2 rfl)
  have mE := (v2.2.2 w2 (Nat.le_refl _) (fun _ _ => rfl)).2.1
  rw [he] at mE
  have S2 := keep s2
  have V2 := keep v2
  have R2' := keep r2
  have F2 := keep (F1.out.trans f2)
  clear s2 f2 v2 r2 MM k1 k2
  go_wp2_with fail
  refine mE.mono ?_
  rintro _ w3 ⟨rfl, hb⟩
  have h3 := S2.out.bel hb
  have F3 := keep (F2.out.trans (Ch.bel hb S2.out.lt))
  have V3 := keep (V2.out.bel hb)
  have H3 := keep h3
  clear mE hb h3
  have MH := keep (hold_old H3.out key HK.out x HX.out v V3.out R2'.out HN.out HT.out hm)
  go_wp2_with fail
  refine MH.out.mono ?_
  rintro _ w4 ⟨rfl, R4, s4, f4⟩
  have S4 := keep s4
  have F4 := keep (F3.out.trans f4)
  clear s4 f4 MH
  go_wp2
  go_ret
  exact ⟨rfl, R4, S4.out, F4.out⟩

set_option maxHeartbeats 1000000 in
theorem put_void {N : Nat} {w : World} {R : Ro} {b : Nat} {s : Sx} (h : Sp N w R b s) (key : ByteArray) (hk : key.size ≤ 1048576) (v : Vi) (hv : Vs w v) (hr : ∀ k, v.own k → R k = (7, key)) (hts : v.txt.size ≤ 1048576) (hx : s.lm key = none) (hN : N + 1 ≤ 2600000000000) (hn : s.tn < maxLen) (he : v.emp = true) :
    Calls Tryz.prog 21 #[pb b, .string key, pb v.blk] w fun e w' => e = .returned (.int .i64 0) ∧ ∃ R', Sp N w' R' b s ∧ Fs w R w' R' := by
  have hkm : key.size ≤ maxLen := Nat.le_trans hk (by decide)
  have MT := keep (hv.2.2 w (Nat.le_refl _) (fun _ _ => rfl)).1
  have k1 : ¬ (1048576 : Int) < (key.size : Int) := by omega
  have k2 : ¬ (1048576 : Int) < (v.txt.size : Int) := by omega
  have H := keep h
  have HV := keep hv
  have HR := keep hr
  have HK := keep hkm
  have HN := keep hN
  have HT := keep hn
  have HX := keep hx
  clear h hv hr hk hkm hts hN hn hx
  go_enter Tryz.func21, Tryz.ntmps21
  go_wp2_with fail
  refine MT.out.mono ?_
  rintro _ w1 ⟨⟨q, rfl⟩, hb⟩
  have h1 := H.out.bel hb
  have v1 := HV.out.bel hb
  have F1 := keep (Ch.bel hb H.out.lt : Fs w R w1 R)
  have MM := keep (meet_none h1 key HK.out HX.out (by have := HN.out; omega))
  have V1 := keep v1
  clear h1 v1 hb MT
  go_wp2_with fail
  refine MM.out.mono ?_
  rintro _ w2 ⟨rfl, R2, s2, f2⟩
  obtain ⟨v2, r2⟩ := V1.out.ch HR.out f2 (fun e => e.2 rfl)
  have mE := (v2.2.2 w2 (Nat.le_refl _) (fun _ _ => rfl)).2.1
  rw [he] at mE
  have S2 := keep s2
  have V2 := keep v2
  have R2' := keep r2
  have F2 := keep (F1.out.trans f2)
  clear s2 f2 v2 r2 MM k1 k2
  go_wp2_with fail
  refine mE.mono ?_
  rintro _ w3 ⟨rfl, hb⟩
  have h3 := S2.out.bel hb
  have F3 := keep (F2.out.trans (Ch.bel hb S2.out.lt))
  have V3 := keep (V2.out.bel hb)
  have H3 := keep h3
  clear mE hb h3
  go_wp2
  go_ret
  exact ⟨rfl, R2, H3.out, F3.out⟩

set_option maxHeartbeats 1000000 in
theorem put_voidp {N : Nat} {w : World} {R : Ro} {b : Nat} {s : Sx} (h : Sp N w R b s) (key : ByteArray) (hk : key.size ≤ 1048576) (v : Vi) (hv : Vs w v) (hr : ∀ k, v.own k → R k = (7, key)) (hts : v.txt.size ≤ 1048576) (x : En) (hl : s.lm key = some (some ⟨x.e, 0, none⟩)) (hx : s.E key = some x) (hp : pas s.now x = true) (hN : N + 1 ≤ 2600000000000) (hn : s.tn < maxLen) (hls : s.st.length ≤ 5000000000000) (he : v.emp = true) :
    Calls Tryz.prog 21 #[pb b, .string key, pb v.blk] w fun e w' => e = .returned (.int .i64 0) ∧ ∃ R', Sp N w' R' b (goneS s key x) ∧ Fs w R w' R' := by
  have hkm : key.size ≤ maxLen := Nat.le_trans hk (by decide)
  have MT := keep (hv.2.2 w (Nat.le_refl _) (fun _ _ => rfl)).1
  have k1 : ¬ (1048576 : Int) < (key.size : Int) := by omega
  have k2 : ¬ (1048576 : Int) < (v.txt.size : Int) := by omega
  have H := keep h
  have HV := keep hv
  have HR := keep hr
  have HK := keep hkm
  have HN := keep hN
  have HT := keep hn
  have HX := keep hx
  have HLL := keep hl
  have HPP := keep hp
  have HLS := keep hls
  clear hl hp hls
  clear h hv hr hk hkm hts hN hn hx
  go_enter Tryz.func21, Tryz.ntmps21
  go_wp2_with fail
  refine MT.out.mono ?_
  rintro _ w1 ⟨⟨q, rfl⟩, hb⟩
  have h1 := H.out.bel hb
  have v1 := HV.out.bel hb
  have F1 := keep (Ch.bel hb H.out.lt : Fs w R w1 R)
  have MM := keep (meet_past h1 key HK.out x HLL.out HX.out HPP.out HN.out HT.out HLS.out)
  have V1 := keep v1
  clear h1 v1 hb MT
  go_wp2_with fail
  refine MM.out.mono ?_
  rintro _ w2 ⟨rfl, R2, s2, f2⟩
  obtain ⟨v2, r2⟩ := V1.out.ch HR.out f2 (fun e => e.2 rfl)
  have mE := (v2.2.2 w2 (Nat.le_refl _) (fun _ _ => rfl)).2.1
  rw [he] at mE
  have S2 := keep s2
  have V2 := keep v2
  have R2' := keep r2
  have F2 := keep (F1.out.trans f2)
  clear s2 f2 v2 r2 MM k1 k2
  go_wp2_with fail
  refine mE.mono ?_
  rintro _ w3 ⟨rfl, hb⟩
  have h3 := S2.out.bel hb
  have F3 := keep (F2.out.trans (Ch.bel hb S2.out.lt))
  have V3 := keep (V2.out.bel hb)
  have H3 := keep h3
  clear mE hb h3
  go_wp2
  go_ret
  exact ⟨rfl, R2, H3.out, F3.out⟩

set_option maxHeartbeats 1000000 in
theorem put_newp {N : Nat} {w : World} {R : Ro} {b : Nat} {s : Sx} (h : Sp N w R b s) (key : ByteArray) (hk : key.size ≤ 1048576) (v : Vi) (hv : Vs w v) (hr : ∀ k, v.own k → R k = (7, key)) (hts : v.txt.size ≤ 1048576) (x : En) (hl : s.lm key = some (some ⟨x.e, 0, none⟩)) (hx : s.E key = some x) (hp : pas s.now x = true) (hN : N + 1 ≤ 2600000000000) (hn : s.tn < maxLen) (hls : s.st.length ≤ 5000000000000) (hn2 : s.tn + 1 < maxLen) (he : v.emp = false) :
    Calls Tryz.prog 21 #[pb b, .string key, pb v.blk] w fun e w' => e = .returned (.int .i64 0) ∧ ∃ e0 R', Sp (N + 1) w' R' b (holS (goneS s key x) key e0 v) ∧ Fs w R w' R' := by
  have hkm : key.size ≤ maxLen := Nat.le_trans hk (by decide)
  have MT := keep (hv.2.2 w (Nat.le_refl _) (fun _ _ => rfl)).1
  have k1 : ¬ (1048576 : Int) < (key.size : Int) := by omega
  have k2 : ¬ (1048576 : Int) < (v.txt.size : Int) := by omega
  have H := keep h
  have HV := keep hv
  have HR := keep hr
  have HK := keep hkm
  have HN := keep hN
  have HT := keep hn
  have HX := keep hx
  have HLL := keep hl
  have HPP := keep hp
  have HLS := keep hls
  clear hl hp hls
  clear h hv hr hk hkm hts hN hn hx
  go_enter Tryz.func21, Tryz.ntmps21
  go_wp2_with fail
  refine MT.out.mono ?_
  rintro _ w1 ⟨⟨q, rfl⟩, hb⟩
  have h1 := H.out.bel hb
  have v1 := HV.out.bel hb
  have F1 := keep (Ch.bel hb H.out.lt : Fs w R w1 R)
  have MM := keep (meet_past h1 key HK.out x HLL.out HX.out HPP.out HN.out HT.out HLS.out)
  have V1 := keep v1
  clear h1 v1 hb MT
  go_wp2_with fail
  refine MM.out.mono ?_
  rintro _ w2 ⟨rfl, R2, s2, f2⟩
  obtain ⟨v2, r2⟩ := V1.out.ch HR.out f2 (fun e => e.2 rfl)
  have mE := (v2.2.2 w2 (Nat.le_refl _) (fun _ _ => rfl)).2.1
  rw [he] at mE
  have S2 := keep s2
  have V2 := keep v2
  have R2' := keep r2
  have F2 := keep (F1.out.trans f2)
  clear s2 f2 v2 r2 MM k1 k2
  go_wp2_with fail
  refine mE.mono ?_
  rintro _ w3 ⟨rfl, hb⟩
  have h3 := S2.out.bel hb
  have F3 := keep (F2.out.trans (Ch.bel hb S2.out.lt))
  have V3 := keep (V2.out.bel hb)
  have H3 := keep h3
  clear mE hb h3
  have MH := keep (hold_new H3.out key HK.out v V3.out R2'.out HN.out hn2)
  go_wp2_with fail
  refine MH.out.mono ?_
  rintro _ w4 ⟨rfl, e0, R4, s4, f4⟩
  have S4 := keep s4
  have F4 := keep (F3.out.trans f4)
  clear s4 f4 MH
  go_wp2
  go_ret
  exact ⟨rfl, e0, R4, S4.out, F4.out⟩

set_option maxHeartbeats 1000000 in
theorem evict_none {N : Nat} {w : World} {R : Ro} {b : Nat} {s : Sx} (h : Sp N w R b s) (key : ByteArray) (hk : key.size ≤ maxLen) (hx : s.lm key = none) (hN : N ≤ 2600000000000) :
    Calls Tryz.prog 20 #[pb b, .string key] w fun e w' => e = .returned (.bool false) ∧ ∃ R', Sp N w' R' b s ∧ Fs w R w' R' := by
  have MM := keep (delete_none h key hk hx hN)
  clear h
  go_enter Tryz.func20, Tryz.ntmps20
  go_wp2_with fail
  refine MM.out.mono ?_
  rintro _ w1 ⟨rfl, R1, s1, f1⟩
  have S1 := keep s1
  have F1 := keep f1
  clear s1 f1 MM
  go_wp2
  go_ret
  exact ⟨rfl, R1, S1.out, F1.out⟩

set_option maxHeartbeats 1000000 in
theorem evict_past {N : Nat} {w : World} {R : Ro} {b : Nat} {s : Sx} (h : Sp N w R b s) (key : ByteArray) (hk : key.size ≤ maxLen) (x : En) (hl : s.lm key = some (some ⟨x.e, 0, none⟩)) (hx : s.E key = some x) (hp : pas s.now x = true) (hN : N + 1 ≤ 2600000000000) (hn : s.tn < maxLen) (hls : s.st.length ≤ 5000000000000) :
    Calls Tryz.prog 20 #[pb b, .string key] w fun e w' => e = .returned (.bool false) ∧ ∃ R', Sp N w' R' b (goneS s key x) ∧ Fs w R w' R' := by
  have MM := keep (delete_past h key hk x hl hx hp hN hn hls)
  clear h
  go_enter Tryz.func20, Tryz.ntmps20
  go_wp2_with fail
  refine MM.out.mono ?_
  rintro _ w1 ⟨rfl, R1, s1, f1⟩
  have S1 := keep s1
  have F1 := keep f1
  clear s1 f1 MM
  go_wp2
  go_ret
  exact ⟨rfl, R1, S1.out, F1.out⟩

set_option maxHeartbeats 1000000 in
theorem evict_here {N : Nat} {w : World} {R : Ro} {b : Nat} {s : Sx} (h : Sp N w R b s) (key : ByteArray) (hk : key.size ≤ maxLen) (x : En) (hl : s.lm key = some (some ⟨x.e, 0, none⟩)) (hx : s.E key = some x) (hp : pas s.now x = false) (hN : N + 1 ≤ 2600000000000) (hn : s.tn < maxLen) (hls : s.st.length ≤ 5000000000000) :
    Calls Tryz.prog 20 #[pb b, .string key] w fun e w' => e = .returned (.bool true) ∧ ∃ R', Sp N w' R' b { dropS s key x with st := s.st ++ [(2, key)] } ∧ Fs w R w' R' := by
  have MM := keep (delete_here h key hk x hl hx hp hN hn)
  have HL := keep hls
  clear h hk hx hN hl hp hn hls
  go_enter Tryz.func20, Tryz.ntmps20
  go_wp2_with fail
  refine MM.out.mono ?_
  rintro _ w1 ⟨rfl, R1, s1, f1⟩
  have MS := keep (step_any s1 2 key HL.out)
  have F1 := keep f1
  clear s1 f1 MM
  go_wp2_with fail
  refine MS.out.mono ?_
  rintro _ w2 ⟨rfl, R2, s2, f2⟩
  have S2 := keep s2
  have F2 := keep (F1.out.trans f2)
  clear s2 f2 MS
  go_wp2
  go_ret
  exact ⟨rfl, R2, S2.out, F2.out⟩

end Ks
end Go.Proofs.YthmmblohfjmbcaaGreat
