/-
  A round over a space of one key, and Enforce over it.
-/
import Derived.Test.YthmmblohfjmbcaaGreatEv1
namespace Go.Proofs.YthmmblohfjmbcaaGreat
open Go.RowKit Go.Shelf
set_option linter.unusedVariables false
set_option linter.unusedSimpArgs false
set_option maxRecDepth 100000
namespace Ks
theorem st_rk (g : Nat) (w : World) (a : Addr) : (store a (.func (.func 41) #[] #[.pointer (some ⟨g, 0, none⟩)])).run Tryz.prog w = stored Tryz.prog w a (.func (.func 41) #[] #[.pointer (some ⟨g, 0, none⟩)]) .plain := run_store _ w a _ _ rfl
def wyO (g : Nat) : Obj := .cells #[.bool true, .func (.func 41) #[] #[.pointer (some ⟨g, 0, none⟩)]] 56 (0, 0)
def srO (ao : Option Addr) (cp : Nat) : Obj := .cells #[.slice ao 0 cp] 52 (0, 0)
/-- one key alone lies there, and is not past; all keys may go -/
structure One (s : Sx) (k : ByteArray) (x : En) : Prop where
  only : ∀ key a, s.lm key = some a → key = k
  lm : s.lm k = some (some ⟨x.e, 0, none⟩)
  E : s.E k = some x
  np : pas s.now x = false
  fr : Fresh s
  nm : s.nm ≠ 0
  pol : s.pol = 1
section
variable {W w w' : World} {R R' : Ro} {b N N' p m g r : Nat} {s s' : Sx} {v v' : Value} {l l' : List DV.Ent} {X Y : List (Nat × Obj)} {k : ByteArray} {x : En}
theorem smp_one (h : One s k x) {e : Ending} (hs : Smp s.lm s.nm e) : e = .returned (.tuple #[.string k, .bool true]) := by
  rcases hs with ⟨h0, _⟩ | ⟨key, a, h1, h2⟩
  · exact absurd h0 h.nm
  · rw [h2, h.only key a h1]
set_option maxHeartbeats 1000000 in
theorem renew_none (h : Ev W w R b s N p v m [] X) (f : Value) :
    Calls Tryz.prog 13 #[pb p, f] w fun e w' => e = .returned (.tuple #[]) ∧ Below w.heap.size w w' := by
  have MC := keep (DV.cands_any w p m v [] h.pl (by simp))
  clear h
  go_enter Tryz.func13, Tryz.ntmps13
  go_wp2_with fail
  refine MC.out.mono ?_
  rintro _ w1 ⟨u, rfl, hr, hn, hb⟩
  have HB := keep hb
  clear MC hn hb
  rcases hr.form with ⟨rfl, _⟩ | ⟨g, c, rfl, _, _⟩
  all_goals
    clear hr
    go_wp2
    refine loop_at ?_
    go_wp2
    first | exact ⟨rfl, HB.out⟩ | (go_end0; exact ⟨rfl, HB.out⟩) | (go_ret; exact ⟨rfl, HB.out⟩)
set_option maxHeartbeats 1000000 in
theorem anyMayGo_one (h : Ev W w R b s N p v m l X) (ho : One s k x) (hN : N ≤ 2600000000000) :
    Calls Tryz.prog 18 #[pb b] w fun e w' => e = .returned (.bool true) ∧ Below w.heap.size w w' := by
  have MW := keep (wayOf_use h.sp ho.pol)
  have MS := keep (fun w1 (hb : Below w.heap.size w w1) => (sample_all (h.sp.bel hb) hN ho.fr 0 (by decide) : Calls Tryz.prog 29 #[pb b, .bool true, .int .u64 0] w1 _))
  have HO := keep ho
  clear h ho hN
  go_enter Tryz.func18, Tryz.ntmps18
  go_wp2_with fail
  refine MW.out.mono ?_
  rintro _ w1 ⟨g, rfl, hg, hx, hb⟩
  obtain ⟨B, hB⟩ : ∃ B, w1.heap.size = B := ⟨_, rfl⟩
  obtain ⟨W2, hW2⟩ : ∃ W2, w1.alloc (.cells #[.bool true, rkV g] 56) = W2 := ⟨_, rfl⟩
  have g2 : W2.heap[B]? = some (.cells #[.bool true, rkV g] 56 (0, 0)) := by rw [← hW2, ← hB]; exact heap_alloc_new _ _
  have hb2 : Below w.heap.size w W2 := by rw [← hW2]; exact bel2 hb ((Below.refl _ _).alloc (Nat.le_refl _) _)
  have c0 : W2.cell? ⟨B, 0, none⟩ = some (.bool true) := by simp [World.cell?, g2]
  have M2 := keep (MS.out W2 hb2)
  have B2 := keep hb2
  unfold rkV at hW2 ⊢
  have sf := st_rk g
  clear hx hb g2 hb2 MW MS hg
  go_wp2_with fail
  refine M2.out.mono ?_
  rintro e w3 ⟨hs, hb3⟩
  obtain rfl := smp_one HO.out hs
  have B3 := keep (bel2 B2.out hb3)
  clear hs hb3 M2 c0
  go_wp2
  go_ret
  exact ⟨rfl, B3.out⟩
/-- the candidate -/
abbrev cnd (k : ByteArray) (x : En) : DV.Ent := (k, (x.stamp : Int))
theorem good_nil : DV.Good [] := ⟨List.Pairwise.nil, List.Pairwise.nil⟩
theorem good_one (c : DV.Ent) : DV.Good [c] := ⟨List.pairwise_singleton _ _, List.pairwise_singleton _ _⟩
theorem isK_same (k : ByteArray) (y : Int) : DV.isK k (k, y) = true := by simp [DV.isK]
theorem off_nil (hm : 1 ≤ m) (c : DV.Ent) : DV.offL m c [] = [c] := by
  obtain ⟨m', rfl⟩ : ∃ m', m = m' + 1 := ⟨m - 1, by omega⟩
  simp [DV.offL, DV.del, DV.put]
theorem off_one (hm : 1 ≤ m) (c : DV.Ent) : DV.offL m c [c] = [c] := by
  obtain ⟨m', rfl⟩ : ∃ m', m = m' + 1 := ⟨m - 1, by omega⟩
  obtain ⟨k, y⟩ := c
  simp [DV.offL, DV.del, DV.put, isK_same]
/-- none yet, or that one alone -/
def Lst (k : ByteArray) (x : En) (i : Nat) (l : List DV.Ent) : Prop := (i = 0 ∧ l = []) ∨ l = [cnd k x]
set_option maxHeartbeats 4000000 in
theorem offer_one {ao : Option Addr} {cp n : Nat} (h : Ev W w R b s N p v m [] X) (ho : One s k x) (hk : k.size ≤ maxLen) (hN : N ≤ 2600000000000) (hm1 : 1 ≤ m) (hm : m ≤ 16) (hg : (g, bxO b) ∈ X) (hr : (r, srO ao cp) ∈ X) (hc : cp ≤ maxLen) (hn : s.smp = (n : Int)) (hn1 : 1 ≤ n) (hn16 : n ≤ 16) :
    Calls Tryz.prog 14 #[pb b, pb p, .agg #[.bool true, .func (.func 41) #[] #[.pointer (some ⟨g, 0, none⟩)]], .func (.func 15) #[pb r] #[]] w fun e w' => e = .returned (.tuple #[]) ∧ ∃ R' v', Ev W w' R' b s N p v' m [cnd k x] X := by
  obtain ⟨B, hB⟩ : ∃ B, w.heap.size = B := ⟨_, rfl⟩
  obtain ⟨W1, hW1⟩ : ∃ W1, w.alloc (.cells #[.bool true, .func (.func 41) #[] #[.pointer (some ⟨g, 0, none⟩)]] 56) = W1 := ⟨_, rfl⟩
  have g1 : W1.heap[B]? = some (wyO g) := by rw [← hW1, ← hB]; exact heap_alloc_new _ _
  have hb1 : Below w.heap.size w W1 := by rw [← hW1]; exact (Below.refl _ _).alloc (Nat.le_refl _) _
  have h1 := h.one hb1 (Nat.le_of_eq hB) g1
  have MC := keep (config_any h1.sp)
  rw [hn] at MC
  have f3 := fd3 s.seed s.most s.pol (n : Int)
  have HO := keep ho
  have HK := keep hk
  have HN := keep hN
  have HG : Kept ((g, bxO b) ∈ (B, wyO g) :: X) := List.mem_cons_of_mem _ hg
  have HR : Kept ((r, srO ao cp) ∈ (B, wyO g) :: X) := List.mem_cons_of_mem _ hr
  have HC := keep hc
  have H1 := keep h1
  have HM1 := keep hm1
  have HM := keep hm
  have HN1 := keep hn1
  have HN16 := keep hn16
  clear h ho hk hN hg hr hc h1 g1 hb1 hm1 hm hn1 hn16 hn
  go_enter Tryz.func14, Tryz.ntmps14
  go_wp2_with fail
  refine MC.out.mono ?_
  rintro _ w2 ⟨rfl, hb2⟩
  have L0 : Kept (∃ R' v' l', Ev W w2 R' b s N p v' m l' ((B, wyO g) :: X) ∧ Lst k x 0 l') := ⟨R, v, [], H1.out.below hb2, .inl ⟨rfl, rfl⟩⟩
  clear hb2 MC H1
  go_wp2
  go_loopg [13] n (fun kx s13 wr => ∃ i : Nat, s13 = .int .i64 i ∧ i ≤ n ∧ n - i ≤ kx ∧ Kept (∃ R' v' l', Ev W wr R' b s N p v' m l' ((B, wyO g) :: X) ∧ Lst k x i l'))
  case atStart => exact ⟨0, rfl, Nat.zero_le _, by omega, L0⟩
  case round =>
    clear L0
    obtain ⟨i, rfl, hi, hgk, KL⟩ := hrel
    by_cases hlt : i < n
    · have hltz : (i : Int) < (n : Int) := by omega
      have hwi : IntKind.i64.wrap ((i : Int) + 1) = (i : Int) + 1 := by rw [IntKind.wrap_i64]; have := HN16.out; omega
      obtain ⟨R3, v3, l3, h3, hl3⟩ := KL.out
      have gB := (h3.side (B, wyO g) (List.mem_cons_self ..)).1
      have c0 : wr.cell? ⟨B, 0, none⟩ = some (.bool true) := by simp [World.cell?, gB, wyO]
      have c1 : wr.cell? ⟨B, 1, none⟩ = some (.func (.func 41) #[] #[.pointer (some ⟨g, 0, none⟩)]) := by simp [World.cell?, gB, wyO]
      have hS : ∀ w' : World, w'.heap[r]? = wr.heap[r]? → DQ.Src w' r r [] := fun w' e => ⟨fun e => absurd rfl e, ao, cp, e.trans (h3.side _ HR.out).1, Nat.zero_le _, HC.out, fun j hj => absurd hj (Nat.not_lt_zero j)⟩
      have MN := keep (DQ.next_none wr.drew r r (hS wr.drew rfl))
      have bd : Below wr.heap.size wr wr.drew := (Below.refl _ _).drew
      have h4 := h3.below bd
      have MS : Kept (Calls Tryz.prog 29 #[pb b, .bool true, .int .u64 0] wr.drew _) := sample_all h4.sp HN.out HO.out.fr 0 (by decide)
      have H4 := keep h4
      have HL3 := keep hl3
      have HLT := keep hlt
      clear KL hl3 hlt h4 hS gB h3
      go_wp2_with fail
      refine wp_region_held_drew (S := fun Wd => Wd.cell? ⟨B, 0, none⟩ = some (.bool true)) (by kernel_rfl) (by simpa using c0) (fun hHeld => ?_)
      refine wpAnyH_take (i := 0) (oi := { dst := some 16, op := _, type := _, pos := _, after := _, guard := _ }) (v := ?v1) rfl (by kernel_rfl) (by kernel_rfl) (by kernel_rfl) (fun _ _ _ h => h) (Or.inl ⟨by rfl, ?hy1⟩) (by assumption) ?rest1
      case hy1 => (intro w hSw; obtain q1 := hSw; go_simp; try with_reducible rfl)
      try simp only [Act.put, List.setIfInBounds_toArray, List.set_cons_zero, List.set_cons_succ]
      refine wpAnyH_take (i := 1) (oi := { dst := some 17, op := _, type := _, pos := _, after := _, guard := _ }) (v := ?v2) rfl (by kernel_rfl) (by kernel_rfl) (by kernel_rfl) (fun _ _ _ h => h) (Or.inl ⟨by rfl, ?hy2⟩) (by assumption) ?rest2
      case hy2 => (intro w hSw; obtain q1 := hSw; go_simp; try with_reducible rfl)
      try simp only [Act.put, List.setIfInBounds_toArray, List.set_cons_zero, List.set_cons_succ]
      refine wpAnyH_take (i := 2) (oi := { dst := some 18, op := _, type := _, pos := _, after := _, guard := _ }) (v := ?v3) rfl (by kernel_rfl) (by kernel_rfl) (by kernel_rfl) (fun _ _ _ h => h) (Or.inl ⟨by rfl, ?hy3⟩) (by assumption) ?rest3
      case hy3 => (intro w hSw; obtain q1 := hSw; go_simp; try with_reducible rfl)
      try simp only [Act.put, List.setIfInBounds_toArray, List.set_cons_zero, List.set_cons_succ]
      refine wpAnyH_take (i := 3) (oi := { dst := some 19, op := _, type := _, pos := _, after := _, guard := _ }) (v := ?v4) rfl (by kernel_rfl) (by kernel_rfl) (by kernel_rfl) (fun _ _ _ h => h) (Or.inl ⟨by rfl, ?hy4⟩) (by assumption) ?rest4
      case hy4 => (intro w hSw; obtain q1 := hSw; go_simp; try with_reducible rfl)
      try simp only [Act.put, List.setIfInBounds_toArray, List.set_cons_zero, List.set_cons_succ]
      refine wpAnyH_ready (rs := [4]) (by kernel_rfl) (by simp) ?_
      refine AllReadyH.cons (o := { dst := some 20, op := _, type := _, pos := _, after := _, guard := _ }) rfl (fun K hK => ?_) AllReadyH.nil
      go_simp
      refine MN.out.mono ?_
      rintro _ w5 ⟨rfl, hw5⟩
      obtain rfl := hw5.symm
      refine hK.out _ _ hHeld (fun hHeld => ?_)
      try simp only [Act.put, List.setIfInBounds_toArray, List.set_cons_zero, List.set_cons_succ]
      clear hK MN hw5
      refine wpAnyH_ready (rs := [5]) (by kernel_rfl) (by simp) ?_
      refine AllReadyH.cons (o := { dst := some 21, op := _, type := _, pos := _, after := _, guard := _ }) rfl (fun K hK => ?_) AllReadyH.nil
      go_simp
      refine MS.out.mono ?_
      rintro e w6 ⟨hs, hb6⟩
      obtain rfl := smp_one HO.out hs
      have H6 := keep (H4.out.below hb6)
      have gB := (H6.out.side (B, wyO g) (List.mem_cons_self ..)).1
      have d0 : w6.cell? ⟨B, 0, none⟩ = some (.bool true) := by simp [World.cell?, gB, wyO]
      have d1 : w6.cell? ⟨B, 1, none⟩ = some (.func (.func 41) #[] #[.pointer (some ⟨g, 0, none⟩)]) := by simp [World.cell?, gB, wyO]
      refine hK.out _ _ d0 (fun hHeld => ?_)
      try simp only [Act.put, List.setIfInBounds_toArray, List.set_cons_zero, List.set_cons_succ]
      clear hK MS hs hb6 gB c0 c1 H4
      refine wpAnyH_take (i := 6) (oi := { dst := some 15, op := _, type := _, pos := _, after := _, guard := _ }) (v := ?v5) rfl (by kernel_rfl) (by kernel_rfl) (by kernel_rfl) (fun _ _ _ h => h) (Or.inl ⟨by rfl, ?hy5⟩) (by assumption) ?rest5
      case hy5 => (intro w hSw; go_simp; try with_reducible rfl)
      try simp only [Act.put, List.setIfInBounds_toArray, List.set_cons_zero, List.set_cons_succ]
      refine wpAnyH_take (i := 7) (oi := { dst := some 22, op := _, type := _, pos := _, after := _, guard := _ }) (v := ?v6) rfl (by kernel_rfl) (by kernel_rfl) (by kernel_rfl) (fun _ _ _ h => h) (Or.inl ⟨by rfl, ?hy6⟩) (by assumption) ?rest6
      case hy6 => (intro w hSw; go_simp; try with_reducible rfl)
      try simp only [Act.put, List.setIfInBounds_toArray, List.set_cons_zero, List.set_cons_succ]
      refine wpAnyH_take (i := 8) (oi := { dst := some 23, op := _, type := _, pos := _, after := _, guard := _ }) (v := ?v7) rfl (by kernel_rfl) (by kernel_rfl) (by kernel_rfl) (fun _ _ _ h => h) (Or.inl ⟨by rfl, ?hy7⟩) (by assumption) ?rest7
      case hy7 => (intro w hSw; go_simp; try with_reducible rfl)
      try simp only [Act.put, List.setIfInBounds_toArray, List.set_cons_zero, List.set_cons_succ]
      refine wpAnyH_take (i := 9) (oi := { dst := some 8, op := _, type := _, pos := _, after := _, guard := _ }) (v := ?v8) rfl (by kernel_rfl) (by kernel_rfl) (by kernel_rfl) (fun _ _ _ h => h) (Or.inl ⟨by rfl, ?hy8⟩) (by assumption) ?rest8
      case hy8 => (intro w hSw; go_simp; try with_reducible rfl)
      try simp only [Act.put, List.setIfInBounds_toArray, List.set_cons_zero, List.set_cons_succ]
      refine wpAnyH_take (i := 10) (oi := { dst := some 9, op := _, type := _, pos := _, after := _, guard := _ }) (v := ?v9) rfl (by kernel_rfl) (by kernel_rfl) (by kernel_rfl) (fun _ _ _ h => h) (Or.inl ⟨by rfl, ?hy9⟩) (by assumption) ?rest9
      case hy9 => (intro w hSw; go_simp; try with_reducible rfl)
      try simp only [Act.put, List.setIfInBounds_toArray, List.set_cons_zero, List.set_cons_succ]
      refine wpAnyH_done (by kernel_rfl) ?_ _
      have ML : Kept (Calls Tryz.prog 28 #[pb p, .string k, .func (.func 41) #[] #[.pointer (some ⟨g, 0, none⟩)]] w6 fun e w' => e = .returned (.tuple #[]) ∧ ∃ R' v', Ev W w' R' b s N p v' m [cnd k x] ((B, wyO g) :: X)) := by
        rcases HL3.out with ⟨_, e⟩ | e
        · have := weigh_here (g := g) H6.out HG.out k HK.out x HO.out.lm HO.out.E HO.out.np HN.out (by rw [e]; exact good_nil) (by rw [e]; exact Nat.zero_le _) HM.out
          rw [e, off_nil HM1.out] at this
          exact this
        · have := weigh_here (g := g) H6.out HG.out k HK.out x HO.out.lm HO.out.E HO.out.np HN.out (by rw [e]; exact good_one _) (by rw [e]; exact HM1.out) HM.out
          rw [e, off_one HM1.out] at this
          exact this
      clear hHeld d0 H6 HL3
      go_wp2_with fail
      refine ML.out.mono ?_
      rintro _ w7 ⟨rfl, R7, v7, h7⟩
      have L7 : Kept (∃ R' v' l', Ev W w7 R' b s N p v' m l' ((B, wyO g) :: X) ∧ Lst k x (i + 1) l') := ⟨R7, v7, _, h7, .inr rfl⟩
      clear ML h7 d1
      go_wp2
      go_roundg (n - (i + 1))
      case measure => omega
      case rel => exact ⟨i + 1, by simp, by have := HLT.out; omega, Nat.le_refl _, L7⟩
    · have hltz : ¬ (i : Int) < (n : Int) := by omega
      have HD : Kept (∃ R' v', Ev W wr R' b s N p v' m [cnd k x] X) := by
        obtain ⟨R3, v3, l3, h3, hl3⟩ := KL.out
        rcases hl3 with ⟨e, _⟩ | rfl
        · have := HN1.out; omega
        · exact ⟨R3, v3, h3.sub (fun q hq => List.mem_cons_of_mem _ hq)⟩
      go_wp2
      first | exact ⟨rfl, HD.out⟩ | (go_end0; exact ⟨rfl, HD.out⟩) | (go_ret; exact ⟨rfl, HD.out⟩)
end
end Ks
end Go.Proofs.YthmmblohfjmbcaaGreat
