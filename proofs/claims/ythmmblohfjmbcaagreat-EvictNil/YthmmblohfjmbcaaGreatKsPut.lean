/-
  Contracts over this program: a value is put; the clock, what is used, the steps that are told.
-/
import Derived.Test.YthmmblohfjmbcaaGreatKsCalls
/-
  Contracts over this program: a key that expires, that is met; deadlines set and taken; a value that is held.
-/
namespace Go.Proofs.YthmmblohfjmbcaaGreat
open Go.RowKit Go.Shelf
set_option linter.unusedVariables false
set_option maxRecDepth 100000
namespace Ks
def goneS (s : Sx) (key : ByteArray) (x : En) : Sx := { dropS s key x with st := s.st ++ [(1, key)] }
set_option maxHeartbeats 1000000 in
theorem expire_any {N : Nat} {w : World} {R : Ro} {b : Nat} {s : Sx} (h : Sp N w R b s) (key : ByteArray) (hk : key.size ≤ maxLen) (x : En) (hx : s.E key = some x) (hN : N + 1 ≤ 2600000000000) (hn : s.tn < maxLen) (hl : s.st.length ≤ 5000000000000) :
    Calls Tryz.prog 32 #[.pointer (some ⟨b, 0, none⟩), .string key, .pointer (some ⟨x.e, 0, none⟩)] w fun e w' => e = .returned (.tuple #[]) ∧ ∃ R', Sp N w' R' b (goneS s key x) ∧ Fs w R w' R' := by
  have MD := keep (drop_any h key hk x hx hN hn)
  have HL := keep hl
  clear h hk hx hN hn hl
  go_enter Tryz.func32, Tryz.ntmps32
  go_wp2_with fail
  refine MD.out.mono ?_
  rintro _ w1 ⟨rfl, R1, s1, f1⟩
  have MS := keep (step_any s1 1 key HL.out)
  have F1 := keep f1
  clear s1 f1 MD
  go_wp2_with fail
  refine MS.out.mono ?_
  rintro _ w2 ⟨rfl, R2, s2, f2⟩
  have S2 := keep s2
  have F2 := keep (F1.out.trans f2)
  clear s2 f2 MS
  go_wp2
  go_end0
  exact ⟨rfl, R2, S2.out, F2.out⟩
set_option maxHeartbeats 400000 in
theorem meet_nil (w : World) (key : ByteArray) : Calls Tryz.prog 37 #[.pointer none, .string key] w fun e w' => e = .returned (.pointer none) ∧ w' = w := by
  go_enter Tryz.func37, Tryz.ntmps37
  go_wp2
  go_ret
  exact ⟨rfl, rfl⟩
set_option maxHeartbeats 1000000 in
theorem meet_none {N : Nat} {w : World} {R : Ro} {b : Nat} {s : Sx} (h : Sp N w R b s) (key : ByteArray) (hk : key.size ≤ maxLen) (hx : s.lm key = none) (hN : N ≤ 2600000000000) :
    Calls Tryz.prog 37 #[.pointer (some ⟨b, 0, none⟩), .string key] w fun e w' => e = .returned (.pointer none) ∧ ∃ R', Sp N w' R' b s ∧ Fs w R w' R' := by
  obtain ⟨sv, hpb, _⟩ := h.blk
  obtain ⟨_, _, _, _, _, _, _, d7, _, _, _, _⟩ := hpb.cells
  have MG := sp_mget h hN key hk
  rw [hx] at MG
  simp only [Option.getD_none, Option.isSome_none] at MG
  have MG := keep MG
  clear h hpb hx hN hk
  go_enter Tryz.func37, Tryz.ntmps37
  go_wp2_with fail
  refine MG.out.mono ?_
  rintro _ w1 ⟨rfl, R1, s1, f1⟩
  have S1 := keep s1
  have F1 := keep f1
  clear s1 f1 MG d7
  go_wp2
  go_ret
  exact ⟨rfl, R1, S1.out, F1.out⟩
set_option maxHeartbeats 1000000 in
theorem meet_here {N : Nat} {w : World} {R : Ro} {b : Nat} {s : Sx} (h : Sp N w R b s) (key : ByteArray) (hk : key.size ≤ maxLen) (x : En) (hl : s.lm key = some (some ⟨x.e, 0, none⟩)) (hx : s.E key = some x) (hp : pas s.now x = false) (hN : N ≤ 2600000000000) :
    Calls Tryz.prog 37 #[.pointer (some ⟨b, 0, none⟩), .string key] w fun e w' => e = .returned (.pointer (some ⟨x.e, 0, none⟩)) ∧ ∃ R', Sp N w' R' b s ∧ Fs w R w' R' := by
  obtain ⟨sv, hpb, _⟩ := h.blk
  obtain ⟨_, _, _, _, _, _, _, d7, _, _, _, _⟩ := hpb.cells
  have MG := sp_mget h hN key hk
  rw [hl] at MG
  simp only [Option.getD_some, Option.isSome_some] at MG
  have MG := keep MG
  have HX := keep hx
  have HP := keep hp
  clear h hpb hx hN hk hl hp
  go_enter Tryz.func37, Tryz.ntmps37
  go_wp2_with fail
  refine MG.out.mono ?_
  rintro _ w1 ⟨rfl, R1, s1, f1⟩
  obtain ⟨sv1, hpb1, _⟩ := s1.blk
  have mP := past_any hpb1 (s1.ent key x HX.out).1.2
  rw [HP.out] at mP
  have S1 := keep s1
  have F1 := keep f1
  clear s1 f1 MG d7 hpb1
  go_wp2_with fail
  refine mP.mono ?_
  rintro _ w2 ⟨rfl, hb⟩
  have S2 := keep (S1.out.bel hb)
  have F2 := keep (F1.out.trans (Ch.bel hb S1.out.lt))
  clear mP hb
  go_wp2
  go_ret
  exact ⟨rfl, R1, S2.out, F2.out⟩
set_option maxHeartbeats 1000000 in
theorem meet_past {N : Nat} {w : World} {R : Ro} {b : Nat} {s : Sx} (h : Sp N w R b s) (key : ByteArray) (hk : key.size ≤ maxLen) (x : En) (hl : s.lm key = some (some ⟨x.e, 0, none⟩)) (hx : s.E key = some x) (hp : pas s.now x = true) (hN : N + 1 ≤ 2600000000000) (hn : s.tn < maxLen) (hls : s.st.length ≤ 5000000000000) :
    Calls Tryz.prog 37 #[.pointer (some ⟨b, 0, none⟩), .string key] w fun e w' => e = .returned (.pointer none) ∧ ∃ R', Sp N w' R' b (goneS s key x) ∧ Fs w R w' R' := by
  obtain ⟨sv, hpb, _⟩ := h.blk
  obtain ⟨_, _, _, _, _, _, _, d7, _, _, _, _⟩ := hpb.cells
  have MG := sp_mget h (by omega) key hk
  rw [hl] at MG
  simp only [Option.getD_some, Option.isSome_some] at MG
  have MG := keep MG
  have HX := keep hx
  have HP := keep hp
  have HK := keep hk
  have HN := keep hN
  have HT := keep hn
  have HLS := keep hls
  clear h hpb hx hN hk hl hp hn hls
  go_enter Tryz.func37, Tryz.ntmps37
  go_wp2_with fail
  refine MG.out.mono ?_
  rintro _ w1 ⟨rfl, R1, s1, f1⟩
  obtain ⟨sv1, hpb1, _⟩ := s1.blk
  have mP := past_any hpb1 (s1.ent key x HX.out).1.2
  rw [HP.out] at mP
  have S1 := keep s1
  have F1 := keep f1
  clear s1 f1 MG d7 hpb1
  go_wp2_with fail
  refine mP.mono ?_
  rintro _ w2 ⟨rfl, hb⟩
  have MX := keep (expire_any (S1.out.bel hb) key HK.out x HX.out HN.out HT.out HLS.out)
  have F2 := keep (F1.out.trans (Ch.bel hb S1.out.lt))
  clear mP hb
  go_wp2_with fail
  refine MX.out.mono ?_
  rintro _ w3 ⟨rfl, R3, s3, f3⟩
  have S3 := keep s3
  have F3 := keep (F2.out.trans f3)
  clear s3 f3 MX
  go_wp2
  go_ret
  exact ⟨rfl, R3, S3.out, F3.out⟩
theorem ne_be {w : World} {R : Ro} {b : Nat} {s : Sx} {sv : Value} {key : ByteArray} {x : En} (hpb : Pb w R b s sv) (hP : Pe w R key x) : ¬ b = x.e := fun e => by
  have := hpb.1
  rw [e, hP.1.1] at this
  exact absurd (congrArg Prod.fst this) (by show (6 : Nat) ≠ 1; decide)
/-- a deadline is set -/
def limS (s : Sx) (key : ByteArray) (x : En) (at' : Int) : Sx :=
  { s with used := if mor x then s.used else wrap64 (s.used + wrap64 (wrap64 (x.cost + 16) - x.cost)), ld := upl s.ld key (some (some ⟨x.e, 0, none⟩)), nd := s.nd + (if (s.ld key).isNone then 1 else 0), E := upe s.E key (some { x with cost := if mor x then x.cost else wrap64 (x.cost + 16), dl := at' }) }
end Ks
end Go.Proofs.YthmmblohfjmbcaaGreat

/-
  Contracts over this program: what a key costs is reckoned; a value that is held under a new key.
-/
namespace Go.Proofs.YthmmblohfjmbcaaGreat
open Go.RowKit Go.Shelf
set_option linter.unusedVariables false
set_option maxRecDepth 100000
namespace Ks
set_option maxHeartbeats 400000 in
theorem mortal_cell {w : World} {e : Nat} {dl : Int} (c2 : w.cell? ⟨e, 2, none⟩ = some (.int .i64 dl)) : Calls Tryz.prog 60 #[.pointer (some ⟨e, 0, none⟩)] w fun r w' => r = .returned (.bool (dl != 0)) ∧ w' = w := by
  go_enter Tryz.func60, Tryz.ntmps60
  go_wp2
  go_ret
  exact ⟨rfl, rfl⟩
/-- what a key costs -/
def rck (key : ByteArray) (x : En) : Int := if mor x then wrap64 (wrap64 (wrap64 (48 + (key.size : Int)) + x.v.cost) + 16) else wrap64 (wrap64 (48 + (key.size : Int)) + x.v.cost)
set_option maxHeartbeats 1000000 in
theorem reckon_any {N : Nat} {w : World} {R : Ro} {b : Nat} {s : Sx} (h : Sp N w R b s) (key : ByteArray) (x : En) (hx : s.E key = some x) :
    Calls Tryz.prog 63 #[.pointer (some ⟨b, 0, none⟩), .string key, .pointer (some ⟨x.e, 0, none⟩)] w fun e w' => e = .returned (.tuple #[]) ∧ Sp N w' R b { s with used := wrap64 (s.used + wrap64 (rck key x - x.cost)), E := upe s.E key (some { x with cost := rck key x }) } ∧ Fs w R w' R := by
  have p := h.ent key x hx
  obtain ⟨c0, _, _, _, _⟩ := p.1.2.cells
  have MV := keep (p.2.1.2.2 w (Nat.le_refl _) (fun _ _ => rfl)).2.2.1
  have H := keep h
  have HX := keep hx
  clear h hx p
  go_enter Tryz.func63, Tryz.ntmps63
  go_wp2_with fail
  refine MV.out.mono ?_
  rintro _ w1 ⟨rfl, hb⟩
  have h1 := H.out.bel hb
  have mM := mortal_any (h1.ent key x HX.out).1.2
  have MC := keep (charge_any h1 HX.out (rck key x))
  have F1 := keep (Ch.bel hb H.out.lt : Fs w R w1 R)
  clear c0 MV h1 hb
  go_wp2_with fail
  refine mM.mono ?_
  rintro _ w2 ⟨rfl, hw⟩
  obtain rfl := hw.symm
  clear mM
  cases hm : mor x
  · have e : rck key x = wrap64 (wrap64 (48 + (key.size : Int)) + x.v.cost) := by unfold rck; exact if_neg (by rw [hm]; decide)
    rw [e] at MC
    have EE := keep e
    clear e
    go_wp2_with fail
    refine MC.out.mono ?_
    rintro _ w3 ⟨rfl, s3, f3⟩
    have S3 := keep s3
    have F3 := keep (F1.out.trans f3)
    clear s3 f3 MC
    go_wp2
    go_end0
    rw [EE.out]
    exact ⟨rfl, S3.out, F3.out⟩
  · have e : rck key x = wrap64 (wrap64 (wrap64 (48 + (key.size : Int)) + x.v.cost) + 16) := by unfold rck; exact if_pos hm
    rw [e] at MC
    have EE := keep e
    clear e
    go_wp2_with fail
    refine MC.out.mono ?_
    rintro _ w3 ⟨rfl, s3, f3⟩
    have S3 := keep s3
    have F3 := keep (F1.out.trans f3)
    clear s3 f3 MC
    go_wp2
    go_end0
    rw [EE.out]
    exact ⟨rfl, S3.out, F3.out⟩
/-- the deadline is taken away -/
def unlS (s : Sx) (key : ByteArray) (x : En) : Sx :=
  { s with used := wrap64 (s.used + wrap64 (wrap64 (x.cost - 16) - x.cost)), ld := upl s.ld key none, nd := s.nd - (if (s.ld key).isSome then 1 else 0), E := upe s.E key (some { x with cost := wrap64 (x.cost - 16), dl := 0 }) }
set_option maxHeartbeats 1000000 in
theorem unlimit_any {N : Nat} {w : World} {R : Ro} {b : Nat} {s : Sx} (h : Sp N w R b s) (key : ByteArray) (hk : key.size ≤ maxLen) (x : En) (hx : s.E key = some x) (hN : N + 1 ≤ 2600000000000) :
    Calls Tryz.prog 61 #[.pointer (some ⟨b, 0, none⟩), .string key, .pointer (some ⟨x.e, 0, none⟩)] w fun e w' => e = .returned (.tuple #[]) ∧ ∃ R', Sp N w' R' b (unlS s key x) ∧ Fs w R w' R' := by
  have p := h.ent key x hx
  obtain ⟨_, _, c2, c3, cf⟩ := p.1.2.cells
  have MC := keep (charge_any h hx (wrap64 (x.cost - 16)))
  have HX := keep hx
  have HK := keep hk
  have HN := keep hN
  clear h hx hN hk p
  go_enter Tryz.func61, Tryz.ntmps61
  go_wp2_with fail
  refine MC.out.mono ?_
  rintro _ w2 ⟨rfl, s2, f2⟩
  have p2 := s2.ent key _ (upe_same _ _ _)
  obtain ⟨_, _, e2, _, ef⟩ := p2.1.2.cells
  obtain ⟨s3, p3, c3'⟩ := s2.put p2 2 (.int .i64 0) { x with cost := wrap64 (x.cost - 16), dl := 0 } rfl rfl (DP.cells_setCell p2.1.2)
  obtain ⟨sv1, hpb1, hps1⟩ := s2.blk
  obtain ⟨_, _, _, _, _, _, _, _, d8, _, _, _⟩ := hpb1.cells
  have hne := ne_be hpb1 p2
  have hne' : ¬ x.e = b := fun e => hne e.symm
  have MD := keep (sp_ddel s3 HN.out key HK.out)
  have F3 := keep (f2.trans (c3'.mono own6))
  dsimp only at e2 ef d8 F3 MD hne
  clear s2 f2 p2 s3 p3 c3' hpb1 hps1 MC c2 c3 cf
  go_wp2_with fail
  refine MD.out.mono ?_
  rintro _ w4 ⟨⟨q, rfl⟩, R4, s4, f4⟩
  have S4 := keep s4
  have F4 := keep (F3.out.trans f4)
  clear s4 f4 MD d8
  go_wp2
  go_end0
  refine ⟨rfl, R4, ?_, F4.out⟩
  have := S4.out
  unfold unlS
  simpa [upe_upe] using this
/-- a new key holds a value -/
def newE (e0 : Nat) (v : Vi) (stamp : Nat) (cost : Int) : En := ⟨e0, v, stamp, 0, cost⟩
def holS (s : Sx) (key : ByteArray) (e0 : Nat) (v : Vi) : Sx :=
  { s with lm := upl s.lm key (some (some ⟨e0, 0, none⟩)), nm := s.nm + (if (s.lm key).isNone then 1 else 0), used := wrap64 (s.used + wrap64 (rck key (newE e0 v 0 0) - 0)), uses := (s.uses + 1) % 18446744073709551616, tn := s.tn + 1, T := insT s.T key, E := upe s.E key (some (newE e0 v ((s.uses + 1) % 18446744073709551616) (rck key (newE e0 v 0 0)))) }
set_option maxHeartbeats 1000000 in
theorem hold_new {N : Nat} {w : World} {R : Ro} {b : Nat} {s : Sx} (h : Sp N w R b s) (key : ByteArray) (hk : key.size ≤ maxLen) (v : Vi) (hv : Vs w v) (hr : ∀ k, v.own k → R k = (7, key)) (hN : N + 1 ≤ 2600000000000) (hn : s.tn < maxLen) :
    Calls Tryz.prog 39 #[.pointer (some ⟨b, 0, none⟩), .string key, .pointer none, .pointer (some ⟨v.blk, 0, none⟩)] w fun e w' => e = .returned (.tuple #[]) ∧ ∃ e0 R', Sp (N + 1) w' R' b (holS s key e0 v) ∧ Fs w R w' R' := by
  obtain ⟨W1, hW1⟩ : ∃ W1, w.alloc (.cells #[.pointer none, .int .u64 0, .int .i64 0, .int .i64 0] 116) = W1 := ⟨_, rfl⟩
  have hb1 : Below w.heap.size w W1 := by rw [← hW1]; exact (Below.refl _ w).alloc (Nat.le_refl _) _
  have hx : W1.heap[w.heap.size]? = some (.cells #[.pointer none, .int .u64 0, .int .i64 0, .int .i64 0] 116 (0, 0)) := by rw [← hW1]; exact heap_alloc_new _ _
  have hz : W1.heap.size = w.heap.size + 1 := by rw [← hW1]; simp
  obtain ⟨e0, he0⟩ : ∃ e0, w.heap.size = e0 := ⟨_, rfl⟩
  have c2 : W1.cell? ⟨e0, 2, none⟩ = some (.int .i64 0) := by rw [← he0, cell_of_row _ _ _ _ _ _ hx]; rfl
  have c0 : W1.cell? ⟨e0, 0, none⟩ = some (.pointer none) := by rw [← he0, cell_of_row _ _ _ _ _ _ hx]; rfl
  have cf : W1.frozen? ⟨e0, 0, none⟩ = false := by rw [← he0]; simp [World.frozen?, hx]
  have mM := mortal_cell c2
  rw [show ((0 : Int) != 0) = false from rfl] at mM
  rw [he0] at hx
  -- the entry, with its value
  obtain ⟨W2, hW2⟩ : ∃ W2, W1.setCell ⟨e0, 0, none⟩ (.pointer (some ⟨v.blk, 0, none⟩)) = W2 := ⟨_, rfl⟩
  have hx2 : W2.heap[e0]? = some (.cells #[.pointer (some ⟨v.blk, 0, none⟩), .int .u64 0, .int .i64 0, .int .i64 0] 116 (0, 0)) := by rw [← hW2]; exact DP.cells_setCell hx
  have hb2 : Below w.heap.size w W2 := by rw [← hW2]; exact hb1.setCell (by show w.heap.size ≤ e0; omega) _
  have hz2 : W2.heap.size = w.heap.size + 1 := by rw [← hW2, size_set]; exact hz
  have cc : Ch (· = (6, key)) w R W2 (fun k => if k = e0 then (6, key) else R k) := by
    refine ⟨hb2.os, hb2.tape, hb2.output, hb2.size, fun k hk' hn' => ⟨hb2.block k hk', if_neg (by omega)⟩, fun k hk' => ?_⟩
    by_cases e : k = e0
    · omega
    · rw [if_neg e] at hk'; have := h.lt k hk'; omega
  have hpe : Pe W2 (fun k => if k = e0 then (6, key) else R k) key (newE e0 v 0 0) := by
    refine ⟨⟨if_pos rfl, hx2⟩, hv.bel hb2, fun k hk' => ?_⟩
    have hlt := hv.1 k hk'
    have hne : ¬ k = e0 := by omega
    show (if k = e0 then _ else _) = _
    rw [if_neg hne]
    exact hr k hk'
  have h2 := h.entry key cc _ hpe
  have f2 : Fs w R W2 (fun k => if k = e0 then (6, key) else R k) := cc.mono own6
  generalize (fun k => if k = e0 then (6, key) else R k) = R2 at h2 f2
  obtain ⟨sv1, hpb1, _⟩ := h2.blk
  obtain ⟨_, _, _, _, _, _, _, d7, _, _, _, _⟩ := hpb1.cells
  have MS := keep (sp_mset h2 hN key hk (some ⟨e0, 0, none⟩))
  have F2 := keep f2
  have HK := keep hk
  have HT := keep hn
  have HE0 := keep he0
  have HW2 := keep hW2
  dsimp only at d7
  clear h hx hN hk hv hr hn hx2 hb1 hb2 hz hz2 cc hpe h2 f2 hpb1 hW2
  go_enter Tryz.func39, Tryz.ntmps39
  go_wp2_with fail
  refine mM.mono ?_
  rintro _ w2 ⟨rfl, hw⟩
  obtain rfl := hw.symm
  have hW2 := HW2.out
  clear mM c2 hW1 he0
  go_wp2_with fail
  refine MS.out.mono ?_
  rintro _ w3 ⟨⟨q, rfl⟩, R3, s3, f3⟩
  have MR := keep (reckon_any s3 key _ (upe_same _ _ _))
  have F3 := keep (F2.out.trans f3)
  clear s3 f3 hW2 c0 cf d7 MS
  go_wp2_with fail
  refine MR.out.mono ?_
  rintro _ w4 ⟨rfl, s4, f4⟩
  have MU := keep (use_any s4 (upe_same _ _ _))
  have F4 := keep (F3.out.trans f4)
  clear s4 f4 MR
  go_wp2_with fail
  refine MU.out.mono ?_
  rintro _ w5 ⟨rfl, s5, f5⟩
  have MT := keep (touch_any s5 key HK.out HT.out)
  have F5 := keep (F4.out.trans f5)
  clear s5 f5 MU
  go_wp2_with fail
  refine MT.out.mono ?_
  rintro _ w6 ⟨rfl, s6, f6⟩
  have S6 := keep s6
  have F6 := keep (F5.out.trans f6)
  clear s6 f6 MT
  go_wp2
  go_end0
  refine ⟨rfl, e0, R3, ?_, F6.out⟩
  have := S6.out
  unfold holS
  simpa [upe_upe, newE] using this
end Ks
end Go.Proofs.YthmmblohfjmbcaaGreat

/-
  Contracts over this program: the calls that ask for one key.
-/
namespace Go.Proofs.YthmmblohfjmbcaaGreat
open Go.RowKit Go.Shelf
set_option linter.unusedVariables false
set_option maxRecDepth 100000
namespace Ks
abbrev pb (b : Nat) : Value := .pointer (some ⟨b, 0, none⟩)

set_option maxHeartbeats 1000000 in
theorem stamp_none {N : Nat} {w : World} {R : Ro} {b : Nat} {s : Sx} (h : Sp N w R b s) (key : ByteArray) (hk : key.size ≤ maxLen) (hx : s.lm key = none) (hN : N ≤ 2600000000000) :
    Calls Tryz.prog 42 #[pb b, .string key] w fun e w' => e = .returned (.tuple #[.int .u64 0, .bool false]) ∧ ∃ R', Sp N w' R' b s ∧ Fs w R w' R' := by
  have MM := keep (meet_none h key hk hx hN)
  clear h hk hx hN
  go_enter Tryz.func42, Tryz.ntmps42
  go_wp2_with fail
  refine MM.out.mono ?_
  rintro _ w1 ⟨rfl, R1, s1, f1⟩
  have S1 := keep s1
  have F1 := keep f1
  clear s1 f1 MM
  go_wp2
  refine bodyPost_ret (results_tmp2 rfl _ _ _) rfl ?_
  exact ⟨rfl, R1, S1.out, F1.out⟩

set_option maxHeartbeats 1000000 in
theorem stamp_here {N : Nat} {w : World} {R : Ro} {b : Nat} {s : Sx} (h : Sp N w R b s) (key : ByteArray) (hk : key.size ≤ maxLen) (x : En) (hl : s.lm key = some (some ⟨x.e, 0, none⟩)) (hx : s.E key = some x) (hp : pas s.now x = false) (hN : N ≤ 2600000000000) :
    Calls Tryz.prog 42 #[pb b, .string key] w fun e w' => e = .returned (.tuple #[.int .u64 (x.stamp : Nat), .bool true]) ∧ ∃ R', Sp N w' R' b s ∧ Fs w R w' R' := by
  have MM := keep (meet_here h key hk x hl hx hp hN)
  have HX := keep hx
  clear h hk hx hN hl hp
  go_enter Tryz.func42, Tryz.ntmps42
  go_wp2_with fail
  refine MM.out.mono ?_
  rintro _ w1 ⟨rfl, R1, s1, f1⟩
  have p := s1.ent key x HX.out
  obtain ⟨c0, c1, c2, c3, cf⟩ := p.1.2.cells
  clear p
  have S1 := keep s1
  have F1 := keep f1
  clear s1 f1 MM
  go_wp2
  refine bodyPost_ret (results_tmp2 rfl _ _ _) rfl ?_
  exact ⟨rfl, R1, S1.out, F1.out⟩

end Ks
end Go.Proofs.YthmmblohfjmbcaaGreat

namespace Go.Proofs.YthmmblohfjmbcaaGreat
open Go.RowKit Go.Shelf
set_option linter.unusedVariables false
set_option maxRecDepth 100000
namespace Ks

set_option maxHeartbeats 400000 in
theorem put_novalue (w : World) (b : Option Addr) (key : ByteArray) (hb : b = none ∨ ∃ x, b = some ⟨x, 0, none⟩) : Calls Tryz.prog 21 #[.pointer b, .string key, .pointer none] w fun e w' => e = .returned (.int .i64 1) ∧ w' = w := by
  rcases hb with rfl | ⟨x, rfl⟩
  · go_enter Tryz.func21, Tryz.ntmps21
    go_wp2
    go_ret
    exact ⟨rfl, rfl⟩
  · go_enter Tryz.func21, Tryz.ntmps21
    go_wp2
    go_ret
    exact ⟨rfl, rfl⟩
set_option maxHeartbeats 1000000 in
theorem put_long {w : World} {b : Nat} (key : ByteArray) (v : Vi) (hv : Vs w v) (hl : 1048576 < key.size ∨ 1048576 < v.txt.size) :
    Calls Tryz.prog 21 #[pb b, .string key, pb v.blk] w fun e w' => e = .returned (.int .i64 2) ∧ Below w.heap.size w w' := by
  have MT := keep (hv.2.2 w (Nat.le_refl _) (fun _ _ => rfl)).1
  clear hv
  rcases hl with hl | hl
  · have h1 : (1048576 : Int) < (key.size : Int) := by omega
    clear hl
    go_enter Tryz.func21, Tryz.ntmps21
    go_wp2_with fail
    refine MT.out.mono ?_
    rintro _ w1 ⟨⟨q, rfl⟩, hb⟩
    have HB := keep hb
    clear hb MT
    go_wp2
    go_ret
    exact ⟨rfl, HB.out⟩
  · have h1 : (1048576 : Int) < (v.txt.size : Int) := by omega
    clear hl
    by_cases hk : (1048576 : Int) < (key.size : Int)
    · go_enter Tryz.func21, Tryz.ntmps21
      go_wp2_with fail
      refine MT.out.mono ?_
      rintro _ w1 ⟨⟨q, rfl⟩, hb⟩
      have HB := keep hb
      clear hb MT
      go_wp2
      go_ret
      exact ⟨rfl, HB.out⟩
    · go_enter Tryz.func21, Tryz.ntmps21
      go_wp2_with fail
      refine MT.out.mono ?_
      rintro _ w1 ⟨⟨q, rfl⟩, hb⟩
      have HB := keep hb
      clear hb MT
      go_wp2
      go_ret
      exact ⟨rfl, HB.out⟩

set_option maxHeartbeats 1000000 in
theorem put_new {N : Nat} {w : World} {R : Ro} {b : Nat} {s : Sx} (h : Sp N w R b s) (key : ByteArray) (hk : key.size ≤ 1048576) (v : Vi) (hv : Vs w v) (hr : ∀ k, v.own k → R k = (7, key)) (hts : v.txt.size ≤ 1048576) (hx : s.lm key = none) (hN : N + 1 ≤ 2600000000000) (hn : s.tn < maxLen) (he : v.emp = false) :
    Calls Tryz.prog 21 #[pb b, .string key, pb v.blk] w fun e w' => e = .returned (.int .i64 0) ∧ ∃ e0 R', Sp (N + 1) w' R' b (holS s key e0 v) ∧ Fs w R w' R' := by
  have hkm : key.size ≤ maxLen := Nat.le_trans hk (by decide)
  have MT := keep (hv.2.2 w (Nat.le_refl _) (fun _ _ => rfl)).1
  have k1 : ¬ (1048576 : Int) < (key.size : Int) := by omega
  have k2 : ¬ (1048576 : Int) < (v.txt.size : Int) := by omega
  have H := keep h
  have HV := keep hv
  have HR := keep hr
  have HK := keep hkm
  have HN := keep hN
  have HT := keep hn
  have HX := keep hx
  clear h hv hr hk hkm hts hN hn hx
  go_enter Tryz.func21, Tryz.ntmps21
  go_wp2_with fail
  refine MT.out.mono ?_
  rintro _ w1 ⟨⟨q, rfl⟩, hb⟩
  have h1 := H.out.bel hb
  have v1 := HV.out.bel hb
  have F1 := keep (Ch.bel hb H.out.lt : Fs w R w1 R)
  have MM := keep (meet_none h1 key HK.out HX.out (by have := HN.out; omega))
  have V1 := keep v1
  clear h1 v1 hb MT
  go_wp2_with fail
  refine MM.out.mono ?_
  rintro _ w2 ⟨rfl, R2, s2, f2⟩
  obtain ⟨v2, r2⟩ := V1.out.ch HR.out f2 (fun e => e.2 rfl)
  have mE := (v2.2.2 w2 (Nat.le_refl _) (fun _ _ => rfl)).2.1
  rw [he] at mE
  have S2 := keep s2
  have V2 := keep v2
  have R2' := keep r2
  have F2 := keep (F1.out.trans f2)
  clear s2 f2 v2 r2 MM k1 k2
  go_wp2_with fail
  refine mE.mono ?_
  rintro _ w3 ⟨rfl, hb⟩
  have h3 := S2.out.bel hb
  have F3 := keep (F2.out.trans (Ch.bel hb S2.out.lt))
  have V3 := keep (V2.out.bel hb)
  have H3 := keep h3
  clear mE hb h3
  have MH := keep (hold_new H3.out key HK.out v V3.out R2'.out HN.out HT.out)
  go_wp2_with fail
  refine MH.out.mono ?_
  rintro _ w4 ⟨rfl, e0, R4, s4, f4⟩
  have S4 := keep s4
  have F4 := keep (F3.out.trans f4)
  clear s4 f4 MH
  go_wp2
  go_ret
  exact ⟨rfl, e0, R4, S4.out, F4.out⟩

set_option maxHeartbeats 1000000 in
theorem put_gone {N : Nat} {w : World} {R : Ro} {b : Nat} {s : Sx} (h : Sp N w R b s) (key : ByteArray) (hk : key.size ≤ 1048576) (v : Vi) (hv : Vs w v) (hr : ∀ k, v.own k → R k = (7, key)) (hts : v.txt.size ≤ 1048576) (x : En) (hl : s.lm key = some (some ⟨x.e, 0, none⟩)) (hx : s.E key = some x) (hp : pas s.now x = false) (hN : N + 1 ≤ 2600000000000) (hn : s.tn < maxLen) (he : v.emp = true) :
    Calls Tryz.prog 21 #[pb b, .string key, pb v.blk] w fun e w' => e = .returned (.int .i64 0) ∧ ∃ R', Sp N w' R' b (dropS s key x) ∧ Fs w R w' R' := by
  have hkm : key.size ≤ maxLen := Nat.le_trans hk (by decide)
  have MT := keep (hv.2.2 w (Nat.le_refl _) (fun _ _ => rfl)).1
  have k1 : ¬ (1048576 : Int) < (key.size : Int) := by omega
  have k2 : ¬ (1048576 : Int) < (v.txt.size : Int) := by omega
  have H := keep h
  have HV := keep hv
  have HR := keep hr
  have HK := keep hkm
  have HN := keep hN
  have HT := keep hn
  have HX := keep hx
  have HLL := keep hl
  have HPP := keep hp
  clear hl hp
  clear h hv hr hk hkm hts hN hn hx
  go_enter Tryz.func21, Tryz.ntmps21
  go_wp2_with fail
  refine MT.out.mono ?_
  rintro _ w1 ⟨⟨q, rfl⟩, hb⟩
  have h1 := H.out.bel hb
  have v1 := HV.out.bel hb
  have F1 := keep (Ch.bel hb H.out.lt : Fs w R w1 R)
  have MM := keep (meet_here h1 key HK.out x HLL.out HX.out HPP.out (by have := HN.out; omega))
  have V1 := keep v1
  clear h1 v1 hb MT
  go_wp2_with fail
  refine MM.out.mono ?_
  rintro _ w2 ⟨rfl, R2, s2, f2⟩
  obtain ⟨v2, r2⟩ := V1.out.ch HR.out f2 (fun e => e.2 rfl)
  have mE := (v2.2.2 w2 (Nat.le_refl _) (fun _ _ => rfl)).2.1
  rw [he] at mE
  have S2 := keep s2
  have V2 := keep v2
  have R2' := keep r2
  have F2 := keep (F1.out.trans f2)
  clear s2 f2 v2 r2 MM k1 k2
  go_wp2_with fail
  refine mE.mono ?_
  rintro _ w3 ⟨rfl, hb⟩
  have h3 := S2.out.bel hb
  have F3 := keep (F2.out.trans (Ch.bel hb S2.out.lt))
  have V3 := keep (V2.out.bel hb)
  have H3 := keep h3
  clear mE hb h3
  have MH := keep (drop_any H3.out key HK.out x HX.out HN.out HT.out)
  go_wp2_with fail
  refine MH.out.mono ?_
  rintro _ w4 ⟨rfl, R4, s4, f4⟩
  have S4 := keep s4
  have F4 := keep (F3.out.trans f4)
  clear s4 f4 MH
  go_wp2
  go_ret
  exact ⟨rfl, R4, S4.out, F4.out⟩

set_option maxHeartbeats 400000 in
theorem used_any {N : Nat} {w : World} {R : Ro} {b : Nat} {s : Sx} (h : Sp N w R b s) : Calls Tryz.prog 23 #[pb b] w fun e w' => e = .returned (.int .i64 s.used) ∧ w' = w := by
  obtain ⟨sv, hpb, _⟩ := h.blk
  obtain ⟨_, _, _, _, _, _, d6, _⟩ := hpb.cells
  clear h hpb
  go_enter Tryz.func23, Tryz.ntmps23
  go_wp2
  go_ret
  exact ⟨rfl, rfl⟩
set_option maxHeartbeats 400000 in
theorem used_nil (w : World) : Calls Tryz.prog 23 #[.pointer none] w fun e w' => e = .returned (.int .i64 0) ∧ w' = w := by
  go_enter Tryz.func23, Tryz.ntmps23
  go_wp2
  go_ret
  exact ⟨rfl, rfl⟩
end Ks
end Go.Proofs.YthmmblohfjmbcaaGreat
