/-
  Contracts over this program: the calls that ask for one key.
-/
import Derived.Test.YtijclcedjgniaaaGreatKsHold
namespace Go.Proofs.YtijclcedjgniaaaGreat
open Go.RowKit Go.Shelf
set_option linter.unusedVariables false
set_option maxRecDepth 100000
namespace Ks
abbrev pb (b : Nat) : Value := .pointer (some ⟨b, 0, none⟩)

set_option maxHeartbeats 1000000 in
theorem look_none {N : Nat} {w : World} {R : Ro} {b : Nat} {s : Sx} (h : Sp N w R b s) (key : ByteArray) (hk : key.size ≤ maxLen) (hx : s.lm key = none) (hN : N ≤ 2600000000000) :
    Calls Tryz.prog 29 #[pb b, .string key] w fun e w' => e = .returned (.tuple #[.pointer none, .bool false]) ∧ ∃ R', Sp N w' R' b s ∧ Fs w R w' R' := by
  have MM := keep (meet_none h key hk hx hN)
  clear h hk hx hN
  go_enter Tryz.func29, Tryz.ntmps29
  go_wp2_with fail
  refine MM.out.mono ?_
  rintro _ w1 ⟨rfl, R1, s1, f1⟩
  have S1 := keep s1
  have F1 := keep f1
  clear s1 f1 MM
  go_wp2
  refine bodyPost_ret (results_tmp2 rfl _ _ _) rfl ?_
  exact ⟨rfl, R1, S1.out, F1.out⟩

set_option maxHeartbeats 1000000 in
theorem look_here {N : Nat} {w : World} {R : Ro} {b : Nat} {s : Sx} (h : Sp N w R b s) (key : ByteArray) (hk : key.size ≤ maxLen) (x : En) (hl : s.lm key = some (some ⟨x.e, 0, none⟩)) (hx : s.E key = some x) (hp : pas s.now x = false) (hN : N ≤ 2600000000000) :
    Calls Tryz.prog 29 #[pb b, .string key] w fun e w' => e = .returned (.tuple #[pb x.v.blk, .bool true]) ∧ ∃ R', Sp N w' R' b s ∧ Fs w R w' R' := by
  have MM := keep (meet_here h key hk x hl hx hp hN)
  have HX := keep hx
  clear h hk hx hN hl hp
  go_enter Tryz.func29, Tryz.ntmps29
  go_wp2_with fail
  refine MM.out.mono ?_
  rintro _ w1 ⟨rfl, R1, s1, f1⟩
  have p := s1.ent key x HX.out
  obtain ⟨c0, c1, c2, c3, cf⟩ := p.1.2.cells
  clear p
  have S1 := keep s1
  have F1 := keep f1
  clear s1 f1 MM
  go_wp2
  refine bodyPost_ret (results_tmp2 rfl _ _ _) rfl ?_
  exact ⟨rfl, R1, S1.out, F1.out⟩

set_option maxHeartbeats 1000000 in
theorem look_past {N : Nat} {w : World} {R : Ro} {b : Nat} {s : Sx} (h : Sp N w R b s) (key : ByteArray) (hk : key.size ≤ maxLen) (x : En) (hl : s.lm key = some (some ⟨x.e, 0, none⟩)) (hx : s.E key = some x) (hp : pas s.now x = true) (hN : N + 1 ≤ 2600000000000) (hn : s.tn < maxLen) (hls : s.st.length ≤ 5000000000000) :
    Calls Tryz.prog 29 #[pb b, .string key] w fun e w' => e = .returned (.tuple #[.pointer none, .bool false]) ∧ ∃ R', Sp N w' R' b (goneS s key x) ∧ Fs w R w' R' := by
  have MM := keep (meet_past h key hk x hl hx hp hN hn hls)
  clear h hk hx hN hl hp hn hls
  go_enter Tryz.func29, Tryz.ntmps29
  go_wp2_with fail
  refine MM.out.mono ?_
  rintro _ w1 ⟨rfl, R1, s1, f1⟩
  have S1 := keep s1
  have F1 := keep f1
  clear s1 f1 MM
  go_wp2
  refine bodyPost_ret (results_tmp2 rfl _ _ _) rfl ?_
  exact ⟨rfl, R1, S1.out, F1.out⟩

set_option maxHeartbeats 1000000 in
theorem stamp_none {N : Nat} {w : World} {R : Ro} {b : Nat} {s : Sx} (h : Sp N w R b s) (key : ByteArray) (hk : key.size ≤ maxLen) (hx : s.lm key = none) (hN : N ≤ 2600000000000) :
    Calls Tryz.prog 21 #[pb b, .string key] w fun e w' => e = .returned (.tuple #[.int .u64 0, .bool false]) ∧ ∃ R', Sp N w' R' b s ∧ Fs w R w' R' := by
  have MM := keep (meet_none h key hk hx hN)
  clear h hk hx hN
  go_enter Tryz.func21, Tryz.ntmps21
  go_wp2_with fail
  refine MM.out.mono ?_
  rintro _ w1 ⟨rfl, R1, s1, f1⟩
  have S1 := keep s1
  have F1 := keep f1
  clear s1 f1 MM
  go_wp2
  refine bodyPost_ret (results_tmp2 rfl _ _ _) rfl ?_
  exact ⟨rfl, R1, S1.out, F1.out⟩

set_option maxHeartbeats 1000000 in
theorem stamp_here {N : Nat} {w : World} {R : Ro} {b : Nat} {s : Sx} (h : Sp N w R b s) (key : ByteArray) (hk : key.size ≤ maxLen) (x : En) (hl : s.lm key = some (some ⟨x.e, 0, none⟩)) (hx : s.E key = some x) (hp : pas s.now x = false) (hN : N ≤ 2600000000000) :
    Calls Tryz.prog 21 #[pb b, .string key] w fun e w' => e = .returned (.tuple #[.int .u64 (x.stamp : Nat), .bool true]) ∧ ∃ R', Sp N w' R' b s ∧ Fs w R w' R' := by
  have MM := keep (meet_here h key hk x hl hx hp hN)
  have HX := keep hx
  clear h hk hx hN hl hp
  go_enter Tryz.func21, Tryz.ntmps21
  go_wp2_with fail
  refine MM.out.mono ?_
  rintro _ w1 ⟨rfl, R1, s1, f1⟩
  have p := s1.ent key x HX.out
  obtain ⟨c0, c1, c2, c3, cf⟩ := p.1.2.cells
  clear p
  have S1 := keep s1
  have F1 := keep f1
  clear s1 f1 MM
  go_wp2
  refine bodyPost_ret (results_tmp2 rfl _ _ _) rfl ?_
  exact ⟨rfl, R1, S1.out, F1.out⟩

set_option maxHeartbeats 1000000 in
theorem changed_none {N : Nat} {w : World} {R : Ro} {b : Nat} {s : Sx} (h : Sp N w R b s) (key : ByteArray) (hk : key.size ≤ maxLen) (hx : s.lm key = none) (hN : N ≤ 2600000000000) :
    Calls Tryz.prog 35 #[pb b, .string key] w fun e w' => e = .returned (.bool false) ∧ ∃ R', Sp N w' R' b s ∧ Fs w R w' R' := by
  have MM := keep (meet_none h key hk hx hN)
  clear h hk hx hN
  go_enter Tryz.func35, Tryz.ntmps35
  go_wp2_with fail
  refine MM.out.mono ?_
  rintro _ w1 ⟨rfl, R1, s1, f1⟩
  have S1 := keep s1
  have F1 := keep f1
  clear s1 f1 MM
  go_wp2
  go_ret
  exact ⟨rfl, R1, S1.out, F1.out⟩

set_option maxHeartbeats 1000000 in
theorem get_none {N : Nat} {w : World} {R : Ro} {b : Nat} {s : Sx} (h : Sp N w R b s) (key : ByteArray) (hk : key.size ≤ maxLen) (hx : s.lm key = none) (hN : N ≤ 2600000000000) :
    Calls Tryz.prog 28 #[pb b, .string key] w fun e w' => e = .returned (.tuple #[.pointer none, .bool false]) ∧ ∃ R', Sp N w' R' b s ∧ Fs w R w' R' := by
  have MM := keep (meet_none h key hk hx hN)
  clear h hk hx hN
  go_enter Tryz.func28, Tryz.ntmps28
  go_wp2_with fail
  refine MM.out.mono ?_
  rintro _ w1 ⟨rfl, R1, s1, f1⟩
  have S1 := keep s1
  have F1 := keep f1
  clear s1 f1 MM
  go_wp2
  refine bodyPost_ret (results_tmp2 rfl _ _ _) rfl ?_
  exact ⟨rfl, R1, S1.out, F1.out⟩

set_option maxHeartbeats 1000000 in
theorem get_here {N : Nat} {w : World} {R : Ro} {b : Nat} {s : Sx} (h : Sp N w R b s) (key : ByteArray) (hk : key.size ≤ maxLen) (x : En) (hl : s.lm key = some (some ⟨x.e, 0, none⟩)) (hx : s.E key = some x) (hp : pas s.now x = false) (hN : N ≤ 2600000000000) :
    Calls Tryz.prog 28 #[pb b, .string key] w fun e w' => e = .returned (.tuple #[pb x.v.blk, .bool true]) ∧ ∃ R', Sp N w' R' b { s with uses := (s.uses + 1) % 18446744073709551616, E := upe s.E key (some { x with stamp := (s.uses + 1) % 18446744073709551616 }) } ∧ Fs w R w' R' := by
  have MM := keep (meet_here h key hk x hl hx hp hN)
  have HX := keep hx
  clear h hk hx hN hl hp
  go_enter Tryz.func28, Tryz.ntmps28
  go_wp2_with fail
  refine MM.out.mono ?_
  rintro _ w1 ⟨rfl, R1, s1, f1⟩
  have MU := keep (use_any s1 HX.out)
  have F1 := keep f1
  clear s1 f1 MM
  go_wp2_with fail
  refine MU.out.mono ?_
  rintro _ w2 ⟨rfl, s2, f2⟩
  have p := s2.ent key _ (upe_same _ _ _)
  obtain ⟨c0, c1, c2, c3, cf⟩ := p.1.2.cells
  have S2 := keep s2
  have F2 := keep (F1.out.trans f2)
  dsimp only at c0
  clear s2 f2 MU p
  go_wp2
  refine bodyPost_ret (results_tmp2 rfl _ _ _) rfl ?_
  exact ⟨rfl, R1, S2.out, F2.out⟩
set_option maxHeartbeats 400000 in
theorem get_nil (w : World) (key : ByteArray) : Calls Tryz.prog 28 #[.pointer none, .string key] w fun e w' => e = .returned (.tuple #[.pointer none, .bool false]) ∧ w' = w := by
  have mM := meet_nil w key
  go_enter Tryz.func28, Tryz.ntmps28
  go_wp2_with fail
  refine mM.mono ?_
  rintro _ w1 ⟨rfl, rfl⟩
  clear mM
  go_wp2
  refine bodyPost_ret (results_tmp2 rfl _ _ _) rfl ?_
  exact ⟨rfl, rfl⟩

set_option maxHeartbeats 1000000 in
theorem changed_gone {N : Nat} {w : World} {R : Ro} {b : Nat} {s : Sx} (h : Sp N w R b s) (key : ByteArray) (hk : key.size ≤ maxLen) (x : En) (hl : s.lm key = some (some ⟨x.e, 0, none⟩)) (hx : s.E key = some x) (hp : pas s.now x = false) (hN : N + 1 ≤ 2600000000000) (hn : s.tn < maxLen) (he : x.v.emp = true) :
    Calls Tryz.prog 35 #[pb b, .string key] w fun e w' => e = .returned (.bool true) ∧ ∃ R', Sp N w' R' b (dropS s key x) ∧ Fs w R w' R' := by
  have MM := keep (meet_here h key hk x hl hx hp (by omega))
  have HX := keep hx
  have HK := keep hk
  have HN := keep hN
  have HT := keep hn
  clear h hk hx hN hl hp hn
  go_enter Tryz.func35, Tryz.ntmps35
  go_wp2_with fail
  refine MM.out.mono ?_
  rintro _ w1 ⟨rfl, R1, s1, f1⟩
  have p := s1.ent key x HX.out
  obtain ⟨c0, c1, c2, c3, cf⟩ := p.1.2.cells
  have mE := (p.2.1.2.2 w1 (Nat.le_refl _) (fun _ _ => rfl)).2.1
  rw [he] at mE
  have S1 := keep s1
  have F1 := keep f1
  clear s1 f1 MM p
  go_wp2_with fail
  refine mE.mono ?_
  rintro _ w2 ⟨rfl, hb⟩
  have MD := keep (drop_any (S1.out.bel hb) key HK.out x HX.out HN.out HT.out)
  have F2 := keep (F1.out.trans (Ch.bel hb S1.out.lt))
  clear mE hb c0 c1 c2 c3 cf
  go_wp2_with fail
  refine MD.out.mono ?_
  rintro _ w3 ⟨rfl, R3, s3, f3⟩
  have S3 := keep s3
  have F3 := keep (F2.out.trans f3)
  clear s3 f3 MD
  go_wp2
  go_ret
  exact ⟨rfl, R3, S3.out, F3.out⟩

set_option maxHeartbeats 1000000 in
theorem setdl_none {N : Nat} {w : World} {R : Ro} {b : Nat} {s : Sx} (h : Sp N w R b s) (key : ByteArray) (hk : key.size ≤ maxLen) (at' : Int) (hx : s.lm key = none) (hN : N ≤ 2600000000000) :
    Calls Tryz.prog 31 #[pb b, .string key, .int .i64 at'] w fun e w' => e = .returned (.bool false) ∧ ∃ R', Sp N w' R' b s ∧ Fs w R w' R' := by
  have MM := keep (meet_none h key hk hx hN)
  clear h hk hx hN
  go_enter Tryz.func31, Tryz.ntmps31
  go_wp2_with fail
  refine MM.out.mono ?_
  rintro _ w1 ⟨rfl, R1, s1, f1⟩
  have S1 := keep s1
  have F1 := keep f1
  clear s1 f1 MM
  go_wp2
  go_ret
  exact ⟨rfl, R1, S1.out, F1.out⟩

set_option maxHeartbeats 1000000 in
theorem setdl_above {N : Nat} {w : World} {R : Ro} {b : Nat} {s : Sx} (h : Sp N w R b s) (key : ByteArray) (hk : key.size ≤ maxLen) (at' : Int) (x : En) (hl : s.lm key = some (some ⟨x.e, 0, none⟩)) (hx : s.E key = some x) (hp : pas s.now x = false) (hN : N ≤ 2600000000000) (ha : ¬ at' ≤ 9007199254740992) :
    Calls Tryz.prog 31 #[pb b, .string key, .int .i64 at'] w fun e w' => e = .returned (.bool false) ∧ ∃ R', Sp N w' R' b s ∧ Fs w R w' R' := by
  have MM := keep (meet_here h key hk x hl hx hp hN)
  have ha' : (9007199254740992 : Int) < at' := by omega
  clear h hk hx hN hl hp ha
  go_enter Tryz.func31, Tryz.ntmps31
  go_wp2_with fail
  refine MM.out.mono ?_
  rintro _ w1 ⟨rfl, R1, s1, f1⟩
  have S1 := keep s1
  have F1 := keep f1
  clear s1 f1 MM
  go_wp2
  go_ret
  exact ⟨rfl, R1, S1.out, F1.out⟩

set_option maxHeartbeats 1000000 in
theorem setdl_drop {N : Nat} {w : World} {R : Ro} {b : Nat} {s : Sx} (h : Sp N w R b s) (key : ByteArray) (hk : key.size ≤ maxLen) (at' : Int) (x : En) (hl : s.lm key = some (some ⟨x.e, 0, none⟩)) (hx : s.E key = some x) (hp : pas s.now x = false) (hN : N + 1 ≤ 2600000000000) (hn : s.tn < maxLen) (ha : at' ≤ 9007199254740992) (hd : at' ≤ s.now) :
    Calls Tryz.prog 31 #[pb b, .string key, .int .i64 at'] w fun e w' => e = .returned (.bool true) ∧ ∃ R', Sp N w' R' b (dropS s key x) ∧ Fs w R w' R' := by
  have MM := keep (meet_here h key hk x hl hx hp (by omega))
  have HX := keep hx
  have HK := keep hk
  have HN := keep hN
  have HT := keep hn
  clear h hk hx hN hl hp hn
  go_enter Tryz.func31, Tryz.ntmps31
  go_wp2_with fail
  refine MM.out.mono ?_
  rintro _ w1 ⟨rfl, R1, s1, f1⟩
  obtain ⟨sv1, hpb1, _⟩ := s1.blk
  obtain ⟨_, _, _, _, d4, _⟩ := hpb1.cells
  have MD := keep (drop_any s1 key HK.out x HX.out HN.out HT.out)
  have F1 := keep f1
  clear s1 f1 MM hpb1
  go_wp2_with fail
  refine MD.out.mono ?_
  rintro _ w3 ⟨rfl, R3, s3, f3⟩
  have S3 := keep s3
  have F3 := keep (F1.out.trans f3)
  clear s3 f3 MD
  go_wp2
  go_ret
  exact ⟨rfl, R3, S3.out, F3.out⟩

set_option maxHeartbeats 1000000 in
theorem setdl_set {N : Nat} {w : World} {R : Ro} {b : Nat} {s : Sx} (h : Sp N w R b s) (key : ByteArray) (hk : key.size ≤ maxLen) (at' : Int) (x : En) (hl : s.lm key = some (some ⟨x.e, 0, none⟩)) (hx : s.E key = some x) (hp : pas s.now x = false) (hN : N + 1 ≤ 2600000000000) (hn : s.tn < maxLen) (ha : at' ≤ 9007199254740992) (hd : s.now < at') :
    Calls Tryz.prog 31 #[pb b, .string key, .int .i64 at'] w fun e w' => e = .returned (.bool true) ∧ ∃ R', Sp (N + 1) w' R' b { limS s key x at' with tn := s.tn + 1, T := insT s.T key } ∧ Fs w R w' R' := by
  have MM := keep (meet_here h key hk x hl hx hp (by omega))
  have HX := keep hx
  have HK := keep hk
  have HN := keep hN
  have HT := keep hn
  clear h hk hx hN hl hp hn
  go_enter Tryz.func31, Tryz.ntmps31
  go_wp2_with fail
  refine MM.out.mono ?_
  rintro _ w1 ⟨rfl, R1, s1, f1⟩
  obtain ⟨sv1, hpb1, _⟩ := s1.blk
  obtain ⟨_, _, _, _, d4, _⟩ := hpb1.cells
  have MD := keep (limit_any s1 key HK.out x HX.out at' HN.out)
  have F1 := keep f1
  clear s1 f1 MM hpb1
  go_wp2_with fail
  refine MD.out.mono ?_
  rintro _ w3 ⟨rfl, R3, s3, f3⟩
  have MT := keep (touch_any s3 key HK.out HT.out)
  have F3 := keep (F1.out.trans f3)
  clear s3 f3 MD
  go_wp2_with fail
  refine MT.out.mono ?_
  rintro _ w4 ⟨rfl, s4, f4⟩
  have S4 := keep s4
  have F4 := keep (F3.out.trans f4)
  clear s4 f4 MT
  go_wp2
  go_ret
  exact ⟨rfl, R3, S4.out, F4.out⟩

end Ks
end Go.Proofs.YtijclcedjgniaaaGreat
