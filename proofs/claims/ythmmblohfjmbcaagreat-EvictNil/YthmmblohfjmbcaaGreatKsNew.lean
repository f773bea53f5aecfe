/-
  Contracts over this program: a space is made.
-/
import Derived.Test.YthmmblohfjmbcaaGreatKsPut
import Derived.BigRegion
namespace Go.Proofs.YthmmblohfjmbcaaGreat
open Go.RowKit Go.Shelf
set_option linter.unusedVariables false
set_option maxRecDepth 100000
namespace Ks
def sf (pol smp : Int) : Bool := if pol = 0 then decide (0 ≤ smp) && decide (smp ≤ 16) else decide (1 ≤ smp) && decide (smp ≤ 16)
def cfgV (seed : Nat) (most pol smp : Int) : Value := .agg #[.int .u64 seed, .int .i64 most, .int .i64 pol, .int .i64 smp]
set_option maxHeartbeats 1000000 in
theorem fit_any (w : World) (seed : Nat) (most pol smp : Int) : Calls Tryz.prog 10 #[.agg #[.int .u64 seed, .int .i64 most, .int .i64 pol, .int .i64 smp]] w fun e w' => e = .returned (.bool (sf pol smp)) ∧ Below w.heap.size w w' := by
  obtain ⟨W1, hW1⟩ : ∃ W1, w.alloc (.cells #[.int .u64 seed, .int .i64 most, .int .i64 pol, .int .i64 smp] 24) = W1 := ⟨_, rfl⟩
  have hb1 : Below w.heap.size w W1 := by rw [← hW1]; exact (Below.refl _ w).alloc (Nat.le_refl _) _
  have hx : W1.heap[w.heap.size]? = some (.cells #[.int .u64 seed, .int .i64 most, .int .i64 pol, .int .i64 smp] 24 (0, 0)) := by rw [← hW1]; exact heap_alloc_new _ _
  have c2 : W1.cell? ⟨w.heap.size, 2, none⟩ = some (.int .i64 pol) := by rw [cell_of_row _ _ _ _ _ _ hx]; rfl
  have c3 : W1.cell? ⟨w.heap.size, 3, none⟩ = some (.int .i64 smp) := by rw [cell_of_row _ _ _ _ _ _ hx]; rfl
  have HB := keep hb1
  clear hx hb1
  by_cases hp : pol = 0
  · subst hp
    by_cases h0 : 0 ≤ smp
    · by_cases h1 : smp ≤ 16
      · have hs : sf 0 smp = true := by unfold sf; rw [if_pos rfl]; simp [h0, h1]
        rw [hs]
        go_enter Tryz.func10, Tryz.ntmps10
        go_wp2
        go_ret
        exact ⟨rfl, HB.out⟩
      · have hs : sf 0 smp = false := by unfold sf; rw [if_pos rfl]; simp [h0, h1]
        rw [hs]
        go_enter Tryz.func10, Tryz.ntmps10
        go_wp2
        go_ret
        exact ⟨rfl, HB.out⟩
    · have hs : sf 0 smp = false := by unfold sf; rw [if_pos rfl]; simp [h0]
      rw [hs]
      go_enter Tryz.func10, Tryz.ntmps10
      go_wp2
      go_ret
      exact ⟨rfl, HB.out⟩
  · by_cases h0 : 1 ≤ smp
    · by_cases h1 : smp ≤ 16
      · have hs : sf pol smp = true := by unfold sf; rw [if_neg hp]; simp [h0, h1]
        rw [hs]
        go_enter Tryz.func10, Tryz.ntmps10
        go_wp2
        go_ret
        exact ⟨rfl, HB.out⟩
      · have hs : sf pol smp = false := by unfold sf; rw [if_neg hp]; simp [h0, h1]
        rw [hs]
        go_enter Tryz.func10, Tryz.ntmps10
        go_wp2
        go_ret
        exact ⟨rfl, HB.out⟩
    · have hs : sf pol smp = false := by unfold sf; rw [if_neg hp]; simp [h0]
      rw [hs]
      go_enter Tryz.func10, Tryz.ntmps10
      go_wp2
      go_ret
      exact ⟨rfl, HB.out⟩
def NewD (w w' : World) (bb sd : Nat) : Prop := bb = w.heap.size ∧ Below w.heap.size w w' ∧ w'.heap.size = w.heap.size + 1 ∧ DP.Dd (DP.hs sd) 0 w' (fun k => if k = bb then (5, 0) else (0, 0)) bb sd Dc.none0
theorem newd_any (sd : Nat) (w : World) : Calls Tryz.prog 11 #[.int .u64 sd] w fun e w' => ∃ bb, e = .returned (.pointer (some ⟨bb, 0, none⟩)) ∧ NewD w w' bb sd := by
  refine (DP.new_any (DP.hs sd) w sd 0).mono ?_
  rintro _ w' ⟨rfl, h1, h2, h3⟩
  exact ⟨_, rfl, rfl, h1, h2, h3⟩
def newS (seed : Nat) (most pol smp : Int) (bm bd tb : Nat) : Sx := ⟨seed, most, pol, smp, 0, 0, 0, bm, bd, tb, fun _ => none, 0, fun _ => none, 0, 0, [], [], fun _ => none⟩
theorem bel2 {a b c : World} (h : Below a.heap.size a b) (k : Below b.heap.size b c) : Below a.heap.size a c := h.trans (k.mono h.size)
def Dd0 (w : World) (bb sd : Nat) : Prop := DP.Dd (DP.hs sd) 0 w (fun k => if k = bb then (5, 0) else (0, 0)) bb sd Dc.none0
theorem Dd0.bel {w w' : World} {bb sd : Nat} (h : Dd0 w bb sd) (hb : Below w.heap.size w w') : Dd0 w' bb sd := DP.Dd.below h hb
theorem Dd0.lt {w : World} {bb sd : Nat} (h : Dd0 w bb sd) : bb < w.heap.size := h.1.1 bb (by simp)
theorem new_sp {w5 : World} {seed sd1 bm bd tb b : Nat} {most pol smp : Int} (hsd : seed < Dw.M) (hs1 : sd1 < Dw.M) (he : (seed + 1) % 18446744073709551616 = sd1) (h1 : Dd0 w5 bm seed) (h2 : Dd0 w5 bd sd1) (hm : Vl.Seen w5 tb 0 [])
    (hb : w5.heap[b]? = some (.cells #[.int .u64 seed, .int .i64 most, .int .i64 pol, .int .i64 smp, .int .i64 0, .int .u64 0, .int .i64 0, .pointer (some ⟨bm, 0, none⟩), .pointer (some ⟨bd, 0, none⟩), .map (some tb), .slice none 0 0] 47 (0, 0)))
    (n1 : bm ≠ bd) (n2 : bm ≠ tb) (n3 : bm ≠ b) (n4 : bd ≠ tb) (n5 : bd ≠ b) (n6 : tb ≠ b) (g : Nat) (hg : g ≤ bm ∧ g ≤ bd ∧ g ≤ tb ∧ g ≤ b) :
    ∃ R, Sp 0 w5 R b (newS seed most pol smp bm bd tb) ∧ ∀ k, R k ≠ z0 → g ≤ k := by
  have hbl := (Array.getElem?_eq_some_iff.1 hb).1
  have l1 := h1.lt
  have l2 := h2.lt
  have htb : tb < w5.heap.size := by obtain ⟨D, hh, _⟩ := hm; exact hh.lt
  obtain ⟨R, hR⟩ : ∃ R : Ro, R = fun k => if k = b then ro 1 else if k = bm then ro 2 else if k = bd then ro 3 else if k = tb then ro 4 else z0 := ⟨_, rfl⟩
  have p2 : Pd 2 0 w5 R seed bm (fun _ => none) 0 := ⟨_, _, _, DP.hs_is seed hsd, h1, fun k hk => by
    have e : k = bm := Decidable.byContradiction fun e => hk (if_neg e)
    rw [hR, e]
    simp [n3], fun _ => rfl, rfl⟩
  have p3 : Pd 3 0 w5 R ((seed + 1) % 18446744073709551616) bd (fun _ => none) 0 := by
    rw [he]
    exact ⟨_, _, _, DP.hs_is sd1 hs1, h2, fun k hk => by
      have e : k = bd := Decidable.byContradiction fun e => hk (if_neg e)
      rw [hR, e]
      simp [n5, Ne.symm n1], fun _ => rfl, rfl⟩
  have p4 : R tb = ro 4 := by rw [hR]; simp [n6, Ne.symm n2, Ne.symm n4]
  have p1 : R b = ro 1 := by rw [hR]; simp
  refine ⟨R, ⟨fun k hk => ?_, ⟨.slice none 0 0, ⟨p1, hb⟩, ⟨rfl, .inl ⟨rfl, rfl⟩⟩, fun k e => by cases e⟩, p2, p3, ⟨p4, hm⟩, fun key x hx => by cases hx⟩, fun k hk => ?_⟩
  all_goals rw [hR] at hk
  · by_cases e1 : k = b
    · omega
    · by_cases e2 : k = bm
      · omega
      · by_cases e3 : k = bd
        · omega
        · by_cases e4 : k = tb
          · omega
          · simp [e1, e2, e3, e4] at hk
  · by_cases e1 : k = b
    · omega
    · by_cases e2 : k = bm
      · omega
      · by_cases e3 : k = bd
        · omega
        · by_cases e4 : k = tb
          · omega
          · simp [e1, e2, e3, e4] at hk
def CS (g : Nat) (seed : Nat) (most pol smp : Int) (W : World) : Prop := W.cell? ⟨g, 0, none⟩ = some (.int .u64 seed) ∧ W.cell? ⟨g, 1, none⟩ = some (.int .i64 most) ∧ W.cell? ⟨g, 2, none⟩ = some (.int .i64 pol) ∧ W.cell? ⟨g, 3, none⟩ = some (.int .i64 smp)
theorem CS.bel {g : Nat} {seed : Nat} {most pol smp : Int} {w w' : World} (h : CS g seed most pol smp w) (hb : Below w.heap.size w w') : CS g seed most pol smp w' := by
  have hl : g < w.heap.size := World.block_lt_of_cell? _ _ h.1
  exact ⟨(hb.cell (p := ⟨g, 0, none⟩) hl).trans h.1, (hb.cell (p := ⟨g, 1, none⟩) hl).trans h.2.1, (hb.cell (p := ⟨g, 2, none⟩) hl).trans h.2.2.1, (hb.cell (p := ⟨g, 3, none⟩) hl).trans h.2.2.2⟩
theorem NewD.z {w w' : World} {bb sd : Nat} (h : NewD w w' bb sd) : bb = w.heap.size ∧ w'.heap.size = w.heap.size + 1 := ⟨h.1, h.2.2.1⟩
set_option maxHeartbeats 2000000 in
theorem new_ok (w : World) (seed : Nat) (hsd : seed < Dw.M) (most pol smp : Int) (h1 : ¬ most < 0) (h2 : ¬ pol < 0) (h3 : ¬ 2 < pol) (h4 : sf pol smp = true) :
    Calls Tryz.prog 4 #[.agg #[.int .u64 seed, .int .i64 most, .int .i64 pol, .int .i64 smp]] w fun e w' => ∃ b bm bd tb, e = .returned (.tuple #[pb b, .int .i64 0]) ∧ Below w.heap.size w w' ∧ ∃ R, Sp 0 w' R b (newS seed most pol smp bm bd tb) ∧ ∀ k, R k ≠ z0 → w.heap.size ≤ k := by
  obtain ⟨W1, hW1⟩ : ∃ W1, w.alloc (.cells #[.int .u64 seed, .int .i64 most, .int .i64 pol, .int .i64 smp] 24) = W1 := ⟨_, rfl⟩
  have hb1 : Below w.heap.size w W1 := by rw [← hW1]; exact (Below.refl _ w).alloc (Nat.le_refl _) _
  have hx : W1.heap[w.heap.size]? = some (.cells #[.int .u64 seed, .int .i64 most, .int .i64 pol, .int .i64 smp] 24 (0, 0)) := by rw [← hW1]; exact heap_alloc_new _ _
  obtain ⟨g, hg⟩ : ∃ g, w.heap.size = g := ⟨_, rfl⟩
  have c1 : W1.cell? ⟨g, 1, none⟩ = some (.int .i64 most) := by rw [← hg, cell_of_row _ _ _ _ _ _ hx]; rfl
  have c2 : W1.cell? ⟨g, 2, none⟩ = some (.int .i64 pol) := by rw [← hg, cell_of_row _ _ _ _ _ _ hx]; rfl
  have mF := fit_any W1 seed most pol smp
  rw [h4] at mF
  have HB := keep hb1
  have HX := keep hx
  have HG := keep hg
  have c0 : W1.cell? ⟨g, 0, none⟩ = some (.int .u64 seed) := by rw [← hg, cell_of_row _ _ _ _ _ _ hx]; rfl
  have c3 : W1.cell? ⟨g, 3, none⟩ = some (.int .i64 smp) := by rw [← hg, cell_of_row _ _ _ _ _ _ hx]; rfl
  clear hx hb1
  go_enter Tryz.func4, Tryz.ntmps4
  go_wp2_with fail
  refine mF.mono ?_
  rintro _ w2 ⟨rfl, hb⟩
  have hgl : g < W1.heap.size := by rw [← hg]; exact (Array.getElem?_eq_some_iff.1 HX.out).1
  have e0 : w2.cell? ⟨g, 0, none⟩ = some (.int .u64 seed) := (hb.cell (p := ⟨g, 0, none⟩) hgl).trans c0
  have e1 : w2.cell? ⟨g, 1, none⟩ = some (.int .i64 most) := (hb.cell (p := ⟨g, 1, none⟩) hgl).trans c1
  have e2 : w2.cell? ⟨g, 2, none⟩ = some (.int .i64 pol) := (hb.cell (p := ⟨g, 2, none⟩) hgl).trans c2
  have e3 : w2.cell? ⟨g, 3, none⟩ = some (.int .i64 smp) := (hb.cell (p := ⟨g, 3, none⟩) hgl).trans c3
  have HB2 := keep (HB.out.trans (hb.mono HB.out.size))
  have hu : IntKind.u64.wrap ((seed : Int) + 1) = (((seed + 1) % 18446744073709551616 : Nat) : Int) := by rw [IntKind.wrap_u64]; omega
  have hs1 : (seed + 1) % 18446744073709551616 < Dw.M := Nat.mod_lt _ (by decide)
  obtain ⟨sd1, hsd1⟩ : ∃ sd1, (seed + 1) % 18446744073709551616 = sd1 := ⟨_, rfl⟩
  rw [hsd1] at hu hs1
  have HSD1 := keep hsd1
  have HS1 := keep hs1
  have HSD := keep hsd
  have mA := keep (newd_any seed)
  have mB := keep (newd_any sd1)
  have hmm : ∀ w, (Instr.makeMap 44 none).run Tryz.prog w = .ok (.map (some w.heap.size)) (w.alloc (.map #[] 0)) := fun w => rfl
  have H4 := keep h4
  clear hsd1 hs1 hsd hb c0 c1 c2 c3 mF hgl h1 h2 h3 h4 hW1 hg
  go_wp2_with fail
  have cs : CS g seed most pol smp w2.drew := ⟨e0, e1, e2, e3⟩
  have gl : g ≤ w2.drew.heap.size := Nat.le_of_lt (World.block_lt_of_cell? _ _ e0)
  have HB3 := keep HB2.out.drew
  clear e0 e1 e2 e3 HB2
  refine wp_region_held_drew (S := CS g seed most pol smp) (by kernel_rfl) cs (fun hHeld => ?_)
  clear cs
  refine wpAnyH_take (i := 0) (oi := { dst := some 22, op := _, type := _, pos := _, after := _, guard := _ }) (v := ?v1) rfl (by kernel_rfl) (by kernel_rfl) (by kernel_rfl) (fun _ _ _ h => h) (Or.inl ⟨by rfl, ?hy1⟩) (by assumption) ?rest1
  case hy1 => (intro w hSw; obtain ⟨q0, q1, q2, q3⟩ := hSw; go_simp; try with_reducible rfl)
  try simp only [Act.put, List.setIfInBounds_toArray, List.set_cons_zero, List.set_cons_succ]
  refine wpAnyH_take (i := 1) (oi := { dst := some 23, op := _, type := _, pos := _, after := _, guard := _ }) (v := ?v2) rfl (by kernel_rfl) (by kernel_rfl) (by kernel_rfl) (fun _ _ _ h => h) (Or.inl ⟨by rfl, ?hy2⟩) (by assumption) ?rest2
  case hy2 => (intro w hSw; obtain ⟨q0, q1, q2, q3⟩ := hSw; go_simp; try with_reducible rfl)
  try simp only [Act.put, List.setIfInBounds_toArray, List.set_cons_zero, List.set_cons_succ]
  refine wpAnyH_take (i := 2) (oi := { dst := some 24, op := _, type := _, pos := _, after := _, guard := _ }) (v := ?v3) rfl (by kernel_rfl) (by kernel_rfl) (by kernel_rfl) (fun _ _ _ h => h) (Or.inl ⟨by rfl, ?hy3⟩) (by assumption) ?rest3
  case hy3 => (intro w hSw; obtain ⟨q0, q1, q2, q3⟩ := hSw; go_simp; try with_reducible rfl)
  try simp only [Act.put, List.setIfInBounds_toArray, List.set_cons_zero, List.set_cons_succ]
  refine wpAnyH_take (i := 4) (oi := { dst := some 26, op := _, type := _, pos := _, after := _, guard := _ }) (v := ?v4) rfl (by kernel_rfl) (by kernel_rfl) (by kernel_rfl) (fun _ _ _ h => h) (Or.inl ⟨by rfl, ?hy4⟩) (by assumption) ?rest4
  case hy4 => (intro w hSw; obtain ⟨q0, q1, q2, q3⟩ := hSw; go_simp; try with_reducible rfl)
  try simp only [Act.put, List.setIfInBounds_toArray, List.set_cons_zero, List.set_cons_succ]
  refine wpAnyH_take (i := 5) (oi := { dst := some 27, op := _, type := _, pos := _, after := _, guard := _ }) (v := ?v5) rfl (by kernel_rfl) (by kernel_rfl) (by kernel_rfl) (fun _ _ _ h => h) (Or.inl ⟨by rfl, ?hy5⟩) (by assumption) ?rest5
  case hy5 => (intro w hSw; obtain ⟨q0, q1, q2, q3⟩ := hSw; go_simp; try with_reducible rfl)
  try simp only [Act.put, List.setIfInBounds_toArray, List.set_cons_zero, List.set_cons_succ]
  refine wpAnyH_take (i := 6) (oi := { dst := some 28, op := _, type := _, pos := _, after := _, guard := _ }) (v := ?v6) rfl (by kernel_rfl) (by kernel_rfl) (by kernel_rfl) (fun _ _ _ h => h) (Or.inl ⟨by rfl, ?hy6⟩) (by assumption) ?rest6
  case hy6 => (intro w hSw; obtain ⟨q0, q1, q2, q3⟩ := hSw; go_simp; try with_reducible rfl)
  try simp only [Act.put, List.setIfInBounds_toArray, List.set_cons_zero, List.set_cons_succ]
  generalize w2.drew = w2 at *
  refine wpAnyH_ready (rs := [3, 8]) (by kernel_rfl) (by simp) ?_
  refine AllReadyH.cons (o := { dst := some 25, op := _, type := _, pos := _, after := _, guard := _ }) rfl (fun K hK => ?_) (AllReadyH.cons (o := { dst := some 30, op := _, type := _, pos := _, after := _, guard := _ }) rfl (fun K hK => ?_) AllReadyH.nil)
  · go_simp
    refine (mA.out _).mono ?_
    rintro _ wA ⟨bA, rfl, hA⟩
    refine hK.out _ _ (hHeld.bel hA.2.1) (fun hHeld => ?_)
    try simp only [Act.put, List.setIfInBounds_toArray, List.set_cons_zero, List.set_cons_succ]
    clear hK
    refine wpAnyH_ready (rs := [7, 8]) (by kernel_rfl) (by simp) ?_
    refine AllReadyH.cons (o := { dst := some 29, op := _, type := _, pos := _, after := _, guard := _ }) rfl (fun K hK => ?_) (AllReadyH.cons (o := { dst := some 30, op := _, type := _, pos := _, after := _, guard := _ }) rfl (fun K hK => ?_) AllReadyH.nil)
    · go_simp
      refine (mB.out _).mono ?_
      rintro _ wB ⟨bB, rfl, hB⟩
      refine hK.out _ _ (hHeld.bel hB.2.1) (fun hHeld => ?_)
      try simp only [Act.put, List.setIfInBounds_toArray, List.set_cons_zero, List.set_cons_succ]
      clear hK
      refine wpAnyH_ready (rs := [8]) (by kernel_rfl) (by simp) ?_
      refine AllReadyH.cons (o := { dst := some 30, op := _, type := _, pos := _, after := _, guard := _ }) rfl (fun K hK => ?_) AllReadyH.nil
      go_simp
      refine hK.out _ _ (hHeld.bel ((Below.refl _ _).alloc (Nat.le_refl _) _)) (fun hHeld => ?_)
      try simp only [Act.put, List.setIfInBounds_toArray, List.set_cons_zero, List.set_cons_succ]
      clear hK
      refine wpAnyH_take (i := 9) (oi := { dst := some 31, op := _, type := _, pos := _, after := _, guard := _ }) (v := ?v7) rfl (by kernel_rfl) (by kernel_rfl) (by kernel_rfl) (fun _ _ _ h => h) (Or.inl ⟨by rfl, ?hy7⟩) (by assumption) ?rest7
      case hy7 => (intro w hSw; obtain ⟨q0, q1, q2, q3⟩ := hSw; go_simp; try with_reducible rfl)
      try simp only [Act.put, List.setIfInBounds_toArray, List.set_cons_zero, List.set_cons_succ]
      refine wpAnyH_ready (rs := [10]) (by kernel_rfl) (by simp) ?_
      refine AllReadyH.cons (o := { dst := some 32, op := _, type := _, pos := _, after := _, guard := _ }) rfl (fun K hK => ?_) AllReadyH.nil
      go_simp
      refine hK.out _ _ (hHeld.bel ((Below.refl _ _).alloc (Nat.le_refl _) _)) (fun hHeld => ?_)
      try simp only [Act.put, List.setIfInBounds_toArray, List.set_cons_zero, List.set_cons_succ]
      clear hK
      refine wpAnyH_take (i := 11) (oi := { dst := some 2, op := _, type := _, pos := _, after := _, guard := _ }) (v := ?v8) rfl (by kernel_rfl) (by kernel_rfl) (by kernel_rfl) (fun _ _ _ h => h) (Or.inl ⟨by rfl, ?hy8⟩) (by assumption) ?rest8
      case hy8 => (intro w hSw; go_simp; try with_reducible rfl)
      try simp only [Act.put, List.setIfInBounds_toArray, List.set_cons_zero, List.set_cons_succ]
      refine wpAnyH_take (i := 12) (oi := { dst := some 3, op := _, type := _, pos := _, after := _, guard := _ }) (v := ?v9) rfl (by kernel_rfl) (by kernel_rfl) (by kernel_rfl) (fun _ _ _ h => h) (Or.inl ⟨by rfl, ?hy9⟩) (by assumption) ?rest9
      case hy9 => (intro w hSw; go_simp; try with_reducible rfl)
      try simp only [Act.put, List.setIfInBounds_toArray, List.set_cons_zero, List.set_cons_succ]
      refine wpAnyH_done (by kernel_rfl) ?_ _
      clear hHeld
      go_wp2
      refine bodyPost_ret (results_tmp2 rfl _ _ _) rfl ?_
      obtain ⟨za, za'⟩ := hA.z
      obtain ⟨zb, zb'⟩ := hB.z
      have zm : (wB.alloc (.map #[] 0)).heap.size = wB.heap.size + 1 := (by simp)
      have bm0 : Below wB.heap.size wB (wB.alloc (.map #[] 0)) := (Below.refl _ _).alloc (Nat.le_refl _) _
      have bx : ∀ o, Below (wB.alloc (.map #[] 0)).heap.size (wB.alloc (.map #[] 0)) ((wB.alloc (.map #[] 0)).alloc o) := fun o => (Below.refl _ _).alloc (Nat.le_refl _) _
      have sm := Vl.Seen.made wB
      refine ⟨_, bA, bB, wB.heap.size, rfl, HB3.out.trans ((bel2 (bel2 (bel2 hA.2.1 hB.2.1) bm0) (bx _)).mono HB3.out.size), ?_⟩
      rw [← zm]
      exact new_sp (most := most) (pol := pol) (smp := smp) HSD.out HS1.out HSD1.out (Dd0.bel (show Dd0 wA bA seed from hA.2.2.2) (bel2 (bel2 hB.2.1 bm0) (bx _))) (Dd0.bel (show Dd0 wB bB sd1 from hB.2.2.2) (bel2 bm0 (bx _))) (sm.bel (bx _)) (heap_alloc_new _ _) (by omega) (by omega) (by omega) (by omega) (by omega) (by omega) w.heap.size (by have := HB3.out.size; omega)
    · go_simp
      refine hK.out _ _ (hHeld.bel ((Below.refl _ _).alloc (Nat.le_refl _) _)) (fun hHeld => ?_)
      try simp only [Act.put, List.setIfInBounds_toArray, List.set_cons_zero, List.set_cons_succ]
      clear hK
      refine wpAnyH_ready (rs := [7]) (by kernel_rfl) (by simp) ?_
      refine AllReadyH.cons (o := { dst := some 29, op := _, type := _, pos := _, after := _, guard := _ }) rfl (fun K hK => ?_) AllReadyH.nil
      go_simp
      refine (mB.out _).mono ?_
      rintro _ wB ⟨bB, rfl, hB⟩
      refine hK.out _ _ (hHeld.bel hB.2.1) (fun hHeld => ?_)
      try simp only [Act.put, List.setIfInBounds_toArray, List.set_cons_zero, List.set_cons_succ]
      clear hK
      refine wpAnyH_take (i := 9) (oi := { dst := some 31, op := _, type := _, pos := _, after := _, guard := _ }) (v := ?v10) rfl (by kernel_rfl) (by kernel_rfl) (by kernel_rfl) (fun _ _ _ h => h) (Or.inl ⟨by rfl, ?hy10⟩) (by assumption) ?rest10
      case hy10 => (intro w hSw; obtain ⟨q0, q1, q2, q3⟩ := hSw; go_simp; try with_reducible rfl)
      try simp only [Act.put, List.setIfInBounds_toArray, List.set_cons_zero, List.set_cons_succ]
      refine wpAnyH_ready (rs := [10]) (by kernel_rfl) (by simp) ?_
      refine AllReadyH.cons (o := { dst := some 32, op := _, type := _, pos := _, after := _, guard := _ }) rfl (fun K hK => ?_) AllReadyH.nil
      go_simp
      refine hK.out _ _ (hHeld.bel ((Below.refl _ _).alloc (Nat.le_refl _) _)) (fun hHeld => ?_)
      try simp only [Act.put, List.setIfInBounds_toArray, List.set_cons_zero, List.set_cons_succ]
      clear hK
      refine wpAnyH_take (i := 11) (oi := { dst := some 2, op := _, type := _, pos := _, after := _, guard := _ }) (v := ?v11) rfl (by kernel_rfl) (by kernel_rfl) (by kernel_rfl) (fun _ _ _ h => h) (Or.inl ⟨by rfl, ?hy11⟩) (by assumption) ?rest11
      case hy11 => (intro w hSw; go_simp; try with_reducible rfl)
      try simp only [Act.put, List.setIfInBounds_toArray, List.set_cons_zero, List.set_cons_succ]
      refine wpAnyH_take (i := 12) (oi := { dst := some 3, op := _, type := _, pos := _, after := _, guard := _ }) (v := ?v12) rfl (by kernel_rfl) (by kernel_rfl) (by kernel_rfl) (fun _ _ _ h => h) (Or.inl ⟨by rfl, ?hy12⟩) (by assumption) ?rest12
      case hy12 => (intro w hSw; go_simp; try with_reducible rfl)
      try simp only [Act.put, List.setIfInBounds_toArray, List.set_cons_zero, List.set_cons_succ]
      refine wpAnyH_done (by kernel_rfl) ?_ _
      clear hHeld
      go_wp2
      refine bodyPost_ret (results_tmp2 rfl _ _ _) rfl ?_
      obtain ⟨za, za'⟩ := hA.z
      obtain ⟨zb, zb'⟩ := hB.z
      have zm : (wA.alloc (.map #[] 0)).heap.size = wA.heap.size + 1 := (by simp)
      have bm0 : Below wA.heap.size wA (wA.alloc (.map #[] 0)) := (Below.refl _ _).alloc (Nat.le_refl _) _
      have bx : ∀ o, Below wB.heap.size wB (wB.alloc o) := fun o => (Below.refl _ _).alloc (Nat.le_refl _) _
      have sm := Vl.Seen.made wA
      refine ⟨_, bA, bB, wA.heap.size, rfl, HB3.out.trans ((bel2 (bel2 (bel2 hA.2.1 bm0) hB.2.1) (bx _)).mono HB3.out.size), ?_⟩
      exact new_sp (most := most) (pol := pol) (smp := smp) HSD.out HS1.out HSD1.out (Dd0.bel (show Dd0 wA bA seed from hA.2.2.2) (bel2 (bel2 bm0 hB.2.1) (bx _))) (Dd0.bel (show Dd0 wB bB sd1 from hB.2.2.2) (bx _)) (sm.bel (bel2 hB.2.1 (bx _))) (heap_alloc_new _ _) (by omega) (by omega) (by omega) (by omega) (by omega) (by omega) w.heap.size (by have := HB3.out.size; omega)
  · go_simp
    refine hK.out _ _ (hHeld.bel ((Below.refl _ _).alloc (Nat.le_refl _) _)) (fun hHeld => ?_)
    try simp only [Act.put, List.setIfInBounds_toArray, List.set_cons_zero, List.set_cons_succ]
    clear hK
    refine wpAnyH_ready (rs := [3]) (by kernel_rfl) (by simp) ?_
    refine AllReadyH.cons (o := { dst := some 25, op := _, type := _, pos := _, after := _, guard := _ }) rfl (fun K hK => ?_) AllReadyH.nil
    go_simp
    refine (mA.out _).mono ?_
    rintro _ wA ⟨bA, rfl, hA⟩
    refine hK.out _ _ (hHeld.bel hA.2.1) (fun hHeld => ?_)
    try simp only [Act.put, List.setIfInBounds_toArray, List.set_cons_zero, List.set_cons_succ]
    clear hK
    refine wpAnyH_ready (rs := [7]) (by kernel_rfl) (by simp) ?_
    refine AllReadyH.cons (o := { dst := some 29, op := _, type := _, pos := _, after := _, guard := _ }) rfl (fun K hK => ?_) AllReadyH.nil
    go_simp
    refine (mB.out _).mono ?_
    rintro _ wB ⟨bB, rfl, hB⟩
    refine hK.out _ _ (hHeld.bel hB.2.1) (fun hHeld => ?_)
    try simp only [Act.put, List.setIfInBounds_toArray, List.set_cons_zero, List.set_cons_succ]
    clear hK
    refine wpAnyH_take (i := 9) (oi := { dst := some 31, op := _, type := _, pos := _, after := _, guard := _ }) (v := ?v13) rfl (by kernel_rfl) (by kernel_rfl) (by kernel_rfl) (fun _ _ _ h => h) (Or.inl ⟨by rfl, ?hy13⟩) (by assumption) ?rest13
    case hy13 => (intro w hSw; obtain ⟨q0, q1, q2, q3⟩ := hSw; go_simp; try with_reducible rfl)
    try simp only [Act.put, List.setIfInBounds_toArray, List.set_cons_zero, List.set_cons_succ]
    refine wpAnyH_ready (rs := [10]) (by kernel_rfl) (by simp) ?_
    refine AllReadyH.cons (o := { dst := some 32, op := _, type := _, pos := _, after := _, guard := _ }) rfl (fun K hK => ?_) AllReadyH.nil
    go_simp
    refine hK.out _ _ (hHeld.bel ((Below.refl _ _).alloc (Nat.le_refl _) _)) (fun hHeld => ?_)
    try simp only [Act.put, List.setIfInBounds_toArray, List.set_cons_zero, List.set_cons_succ]
    clear hK
    refine wpAnyH_take (i := 11) (oi := { dst := some 2, op := _, type := _, pos := _, after := _, guard := _ }) (v := ?v14) rfl (by kernel_rfl) (by kernel_rfl) (by kernel_rfl) (fun _ _ _ h => h) (Or.inl ⟨by rfl, ?hy14⟩) (by assumption) ?rest14
    case hy14 => (intro w hSw; go_simp; try with_reducible rfl)
    try simp only [Act.put, List.setIfInBounds_toArray, List.set_cons_zero, List.set_cons_succ]
    refine wpAnyH_take (i := 12) (oi := { dst := some 3, op := _, type := _, pos := _, after := _, guard := _ }) (v := ?v15) rfl (by kernel_rfl) (by kernel_rfl) (by kernel_rfl) (fun _ _ _ h => h) (Or.inl ⟨by rfl, ?hy15⟩) (by assumption) ?rest15
    case hy15 => (intro w hSw; go_simp; try with_reducible rfl)
    try simp only [Act.put, List.setIfInBounds_toArray, List.set_cons_zero, List.set_cons_succ]
    refine wpAnyH_done (by kernel_rfl) ?_ _
    clear hHeld
    go_wp2
    refine bodyPost_ret (results_tmp2 rfl _ _ _) rfl ?_
    obtain ⟨za, za'⟩ := hA.z
    obtain ⟨zb, zb'⟩ := hB.z
    have zm : (w2.alloc (.map #[] 0)).heap.size = w2.heap.size + 1 := (by simp)
    have bm0 : Below w2.heap.size w2 (w2.alloc (.map #[] 0)) := (Below.refl _ _).alloc (Nat.le_refl _) _
    have bx : ∀ o, Below wB.heap.size wB (wB.alloc o) := fun o => (Below.refl _ _).alloc (Nat.le_refl _) _
    have sm := Vl.Seen.made w2
    refine ⟨_, bA, bB, w2.heap.size, rfl, HB3.out.trans ((bel2 (bel2 (bel2 bm0 hA.2.1) hB.2.1) (bx _)).mono HB3.out.size), ?_⟩
    exact new_sp (most := most) (pol := pol) (smp := smp) HSD.out HS1.out HSD1.out (Dd0.bel (show Dd0 wA bA seed from hA.2.2.2) (bel2 hB.2.1 (bx _))) (Dd0.bel (show Dd0 wB bB sd1 from hB.2.2.2) (bx _)) (sm.bel (bel2 (bel2 hA.2.1 hB.2.1) (bx _))) (heap_alloc_new _ _) (by omega) (by omega) (by omega) (by omega) (by omega) (by omega) w.heap.size (by have := HB3.out.size; omega)
end Ks
end Go.Proofs.YthmmblohfjmbcaaGreat
