/-
  Contracts over this program: Copy of ranks.
-/
import Derived.Test.YtapehjlpiobeaaaRkCopy0
namespace Go.Proofs.Ytapehjlpiobeaaa
open Go.RowKit Go.Shelf
set_option linter.unusedVariables false
set_option linter.unusedSimpArgs false
def onlyN (R : Act → World → Prop) : Exit → Act → World → Prop
  | .normal, a, w => R a w
  | _, _, _ => False
theorem code_three {P : Program} {c : Code} {Q : Exit → Act → World → Prop} {a : Act} {w : World} (f : Act → Value → Value → Value → Act) (G : World → Prop) (h : c.wp P (onlyN (fun a' w' => ∃ u v z, a' = f a u v z ∧ G w')) a w) (hR : ∀ u v z w', G w' → Q .normal (f a u v z) w') : c.wp P Q a w :=
  Code.wp_mono (fun e a' w' h => by
    cases e
    case normal => obtain ⟨u, v, z, rfl, hg⟩ := h; exact hR u v z w' hg
    all_goals exact (h : False).elim) h
theorem split_rows {T : List Rw} {i : Nat} {x : Rw} (h : T[i]? = some x) : T = T.take i ++ x :: T.drop (i + 1) := by
  obtain ⟨hp, rfl⟩ := List.getElem?_eq_some_iff.1 h
  rw [← List.drop_eq_getElem_cons hp, List.take_append_drop]
theorem at_split' {l : List Ent} {j : Nat} {e : Ent} (h : l[j]? = some e) : l = l.take j ++ e :: l.drop (j + 1) := by
  obtain ⟨hp, rfl⟩ := List.getElem?_eq_some_iff.1 h
  rw [← List.drop_eq_getElem_cons hp, List.take_append_drop]
theorem flat_of_map {T U : List Rw} (h : T.map (fun x => x.2.2) = U.map (fun x => x.2.2)) : flat T = flat U := by unfold flat; rw [h]
theorem flat_take_succ {T : List Rw} {i : Nat} {x : Rw} (h : T[i]? = some x) : flat (T.take (i + 1)) = flat (T.take i) ++ x.2.2 := by
  rw [List.take_add_one, h, flat_app]
  simp [flat]
theorem gd_of_map {T U : List Rw} (h : T.map (fun x => x.2.2) = U.map (fun x => x.2.2)) (hU : Gd U) : Gd T := fun x hx => by
  have : x.2.2 ∈ U.map (fun x => x.2.2) := by rw [← h]; exact List.mem_map.2 ⟨x, hx, rfl⟩
  obtain ⟨y, hy, e⟩ := List.mem_map.1 this
  rw [← e]
  exact hU y hy
set_option maxRecDepth 100000 in
set_option maxHeartbeats 8000000 in
theorem kcopy_any {w : World} {O : Nat → Prop} {R seed : Nat} {L : List Ent} (hK : RK w O R seed L) (hseed : seed < Dw.M) :
    Calls Try.prog 8 #[.pointer (some ⟨R, 0, none⟩)] w fun e w' => (∃ R2 O2, e = .returned (.pointer (some ⟨R2, 0, none⟩)) ∧ RK w' O2 R2 seed L ∧ ∀ k, O2 k → w.heap.size ≤ k) ∧ Below w.heap.size w w' := by
  have sf : ∀ (x : Nat) (w : World) (a : Addr), (store a (.float .f64 x)).run Try.prog w = stored Try.prog w a (.float .f64 x) .plain := fun x w a => run_store _ w a _ _ rfl
  have hmath := hK.math
  obtain ⟨h0, r0, b0, rv0, T0, s0, hH0, hRk, hfl0, hO0⟩ := hK
  obtain ⟨c0, c1, c2, c3, _⟩ := four hRk.2.2.1.1
  obtain ⟨o0, cp0, hrv0⟩ := hRk.2.2.1.2.1.len
  subst hrv0
  obtain ⟨n0, hn0⟩ : ∃ n, T0.length = n := ⟨_, rfl⟩
  rw [hn0] at c2
  have MN := keep (knew_any w seed hseed)
  have HL0 := keep hRk.2.2.1
  have HG0 := keep hRk.2.2.2.1
  have HMI := keep hRk.2.2.2.2
  have HF0 := keep hfl0
  have HN0 := keep hn0
  have HM := keep hmath
  have HTL : Kept (n0 ≤ 1048576) := by rw [← hn0]; have := gd_len (fun x hx => (hRk.2.2.2.1 x hx).1); rw [hfl0] at this; exact Nat.le_trans this hmath.2.2.1
  clear hRk hfl0 hO0 hH0 hmath hn0
  go_enter Try.func8, Try.ntmps8
  go_wp2_with fail
  refine MN.out.mono ?_
  rintro _ w1 ⟨⟨R2, O2, rfl, hK2, hO2⟩, hb1⟩
  obtain ⟨h, r, b, rv, T, s, hH, hR2, hfl, hO2'⟩ := hK2
  have hT : T = [] := by
    cases T with
    | nil => rfl
    | cons x T => rw [flat_cons] at hfl; exact absurd (List.append_eq_nil_iff.1 hfl).1 (hR2.2.2.2.1 x (by simp)).1
  subst hT
  have CP0 : Kept (Cp h w w1 R2 b seed rv [] r s (flat (T0.take 0))) := by
    refine ⟨hR2.1, hR2.2.1, ?_, ?_, hb1, fun k hk => hO2 k ((hO2' k).2 hk)⟩
    · exact hR2.2.2.1
    · exact hR2.2.2.2.2.1
  have HH := keep hH
  have B1 := keep hb1
  have k2 : w1.cell? ⟨R, 2, none⟩ = some (.slice o0 n0 cp0) := (hb1.cell (p := ⟨R, 2, none⟩) (World.block_lt_of_cell? _ _ c2)).trans c2
  clear MN hR2 hO2 hO2' hb1 hfl hH
  go_wp2
  go_loopg [20] n0 (fun kx s20 wr => ∃ i : Nat, s20 = .int .i64 i ∧ i ≤ n0 ∧ n0 - i ≤ kx ∧ ∃ rv T r s, Kept (Cp h w wr R2 b seed rv T r s (flat (T0.take i)) ∧ T.map (fun x => x.2.2) = (T0.take i).map (fun x => x.2.2)))
  case atStart => exact ⟨0, rfl, Nat.zero_le _, by omega, rv, [], r, s, CP0.out, rfl⟩
  case round =>
    obtain ⟨wo, hwo⟩ : ∃ x, x = wr := ⟨_, rfl⟩
    subst hwo
    obtain ⟨i, rfl, hin, hgi, rvi, Ti, ri, si, KC⟩ := hrel
    clear CP0
    by_cases hil : i < n0
    · obtain ⟨x0, hx0⟩ : ∃ x, T0[i]? = some x := ⟨_, List.getElem?_eq_getElem (by have := HN0.out; omega)⟩
      have hLw := HL0.out.below KC.out.1.bel
      obtain ⟨g0, c0', hform, _⟩ := hLw.2.1.form (by have := HN0.out; omega)
      have ho0 : o0 = some ⟨g0, 0, none⟩ := by injection hform
      subst ho0
      have e0 := hLw.2.1.at hx0
      have hrow := hLw.2.1.2.1 x0 (List.mem_of_getElem? hx0)
      have hmem : x0 ∈ T0 := List.mem_of_getElem? hx0
      obtain ⟨gx, cx, mx⟩ := x0
      unfold rwV at e0
      dsimp only at e0
      obtain ⟨lx, hlx⟩ : ∃ l, mx.length = l := ⟨_, rfl⟩
      rw [hlx] at e0
      have hi0 : (0 : Int) ≤ (i : Int) := by omega
      have hi1 : (i : Int) < (n0 : Int) := by omega
      have hwi : IntKind.i64.wrap ((i : Int) + 1) = (i : Int) + 1 := by have := HTL.out; rw [IntKind.wrap_i64]; omega
      have hmxl : mx.length ≤ 1024 := (HG0.out _ hmem).2
      have hmx0 : 0 < lx := by rw [← hlx]; exact List.length_pos_iff.2 (HG0.out _ hmem).1
      have HX0 := keep hx0
      have HLX := keep hlx
      have HMX : Kept (mx.length ≤ 1024 ∧ 0 < lx) := ⟨hmxl, hmx0⟩
      have HROW : Kept (∀ wz, Below w.heap.size w wz → Row wz (gx, cx, mx)) := fun wz hb => (HL0.out.below hb).2.1.2.1 _ hmem
      obtain ⟨q0, q1, q2, q3, qf⟩ := four KC.out.1.lay.1
      obtain ⟨ri_o, ri_c, hrvi⟩ := KC.out.1.lay.2.1.len
      have hTi : Ti.length = i := by have := congrArg List.length KC.out.2; simp [List.length_map, List.length_take] at this; have := HN0.out; omega
      have hcl := clone_any wo.drew gx 0 lx cx (enR mx) (by rw [enR_len, hlx]) (by omega) (fun j u hj => by
        have := World.ownsRow.cells hrow (g := gx) rfl j u hj
        exact this) enR_one hmx0
      have MC := keep hcl
      have LA : Kept (∀ w2 g cap, w2.ownsRow 0 46 2 (.slice (some ⟨g, 0, none⟩) lx cap) lx (enR mx) → wo.heap.size ≤ g → Below wo.heap.size wo w2 → w2.cell? ⟨R2, 2, none⟩ = some rvi ∧ ∀ W3, w2.alloc (.cells #[.slice (some ⟨g, 0, none⟩) lx cap] 41) = W3 → W3.cell? ⟨R2, 2, none⟩ = some rvi ∧ ∃ ao n c W4, (Builtin.append_ #[61, 61] 61 #[rvi, .slice (some ⟨w2.heap.size, 0, none⟩) 1 1]).run Try.prog W3 = .ok (.slice ao n c) W4 ∧ W4.cell? ⟨R2, 2, none⟩ = some rvi ∧ W4.frozen? ⟨R2, 2, none⟩ = false ∧ Cp h w (W4.setCell ⟨R2, 2, none⟩ (.slice ao n c)) R2 b seed (.slice ao n c) (Ti ++ [(g, cap, mx)]) ri si (flat (T0.take i)) ∧ (Ti ++ [(g, cap, mx)]).map (fun x => x.2.2) = (T0.take (i + 1)).map (fun x => x.2.2)) := fun w2 g cap hr hg hb => by
        have hl2 := KC.out.1.lay.below hb
        refine ⟨(four hl2.1).2.2.1, fun W3 hW3 => ?_⟩
        have hb3 : Below w2.heap.size w2 W3 := by rw [← hW3]; exact (Below.refl _ w2).alloc (Nat.le_refl _) _
        have hb03 := Below.up hb hb3
        have hl3 := hl2.below hb3
        have hxr : Row W3 (g, cap, mx) := by
          have : Row w2 (g, cap, mx) := by unfold Row rwV; dsimp only; rw [hlx]; exact hr
          exact this.kept (hb3.block _ this.lt)
        have gv : W3.heap[w2.heap.size]? = some (.cells #[rwV (g, cap, mx)] 41 (0, 0)) := by rw [← hW3]; unfold rwV; dsimp only; rw [hlx]; exact heap_alloc_new _ _
        obtain ⟨ao, n, c, W4, a1, a2, a3, a4, _, _⟩ := lay_app KC.out.1.lay hb03 hxr hg gv (by have := HTL.out; omega)
        have t4 := four (a2.trans KC.out.1.lay.1)
        refine ⟨(four hl3.1).2.2.1, ao, n, c, W4, a1, t4.2.2.1, t4.2.2.2.2 _, KC.out.1.row a3 a4, ?_⟩
        rw [List.map_append, KC.out.2, List.take_add_one, HX0.out, List.map_append]
        rfl
      rw [hTi] at hrvi
      subst hrvi
      have X0 : Kept (wo.drew.cell? ⟨R2, 2, none⟩ = some (.slice ri_o i ri_c)) := q2
      clear hTi hx0 hrow hmem hlx hmxl hmx0 hcl KC q0 q1 q2 q3 qf hform hLw
      go_wp2_with fail
      refine code_three (fun a u v z => ((((((((((a.put (some 24) (.pointer (some ⟨R2, 0, none⟩))).put (some 25) (.pointer (some ⟨R2, 0, none⟩))).put (some 26) (.pointer (some ⟨R2, 0, none⟩))).put (some 27) (.pointer (some ⟨R2, 2, none⟩))).put (some 28) (.slice ri_o i ri_c)).put (some 29) (.slice (some ⟨gx, 0, none⟩) lx cx)).put (some 30) u).put (some 31) v).put (some 32) z).put (some 33) (.pointer (some ⟨R2, 0, none⟩))).put (some 34) (.pointer (some ⟨R2, 2, none⟩))) (fun w' => ∃ rv T, Cp h w w' R2 b seed rv T ri si (flat (T0.take i)) ∧ T.map (fun x => x.2.2) = (T0.take (i + 1)).map (fun x => x.2.2)) ?first ?rest
      case first =>
        refine wp_region_held_drew (S := fun _ => True) (by kernel_rfl) trivial (fun hHeld => ?_)
        refine wpAnyH_take (i := 0) (oi := { dst := some 24, op := _, type := _, pos := _, after := _, guard := _ }) (v := ?v416) rfl (by kernel_rfl) (by kernel_rfl) (by kernel_rfl) (fun _ _ _ h => h) (Or.inl ⟨by rfl, ?hy416⟩) (by assumption) ?rest416
        case hy416 => (intro w hSw; go_simp; try with_reducible rfl)
        try simp only [Act.put, List.setIfInBounds_toArray, List.set_cons_zero, List.set_cons_succ]
        refine wpAnyH_take (i := 1) (oi := { dst := some 25, op := _, type := _, pos := _, after := _, guard := _ }) (v := ?v417) rfl (by kernel_rfl) (by kernel_rfl) (by kernel_rfl) (fun _ _ _ h => h) (Or.inl ⟨by rfl, ?hy417⟩) (by assumption) ?rest417
        case hy417 => (intro w hSw; go_simp; try with_reducible rfl)
        try simp only [Act.put, List.setIfInBounds_toArray, List.set_cons_zero, List.set_cons_succ]
        refine wpAnyH_take (i := 2) (oi := { dst := some 26, op := _, type := _, pos := _, after := _, guard := _ }) (v := ?v418) rfl (by kernel_rfl) (by kernel_rfl) (by kernel_rfl) (fun _ _ _ h => h) (Or.inl ⟨by rfl, ?hy418⟩) (by assumption) ?rest418
        case hy418 => (intro w hSw; go_simp; try with_reducible rfl)
        try simp only [Act.put, List.setIfInBounds_toArray, List.set_cons_zero, List.set_cons_succ]
        refine wpAnyH_take (i := 3) (oi := { dst := some 27, op := _, type := _, pos := _, after := _, guard := _ }) (v := ?v419) rfl (by kernel_rfl) (by kernel_rfl) (by kernel_rfl) (fun _ _ _ h => h) (Or.inl ⟨by rfl, ?hy419⟩) (by assumption) ?rest419
        case hy419 => (intro w hSw; go_simp; try with_reducible rfl)
        try simp only [Act.put, List.setIfInBounds_toArray, List.set_cons_zero, List.set_cons_succ]
        refine wpAnyH_take (i := 5) (oi := { dst := some 29, op := _, type := _, pos := _, after := _, guard := _ }) (v := ?v420) rfl (by kernel_rfl) (by kernel_rfl) (by kernel_rfl) (fun _ _ _ h => h) (Or.inl ⟨by rfl, ?hy420⟩) (by assumption) ?rest420
        case hy420 => (intro w hSw; go_simp; try with_reducible rfl)
        try simp only [Act.put, List.setIfInBounds_toArray, List.set_cons_zero, List.set_cons_succ]
        refine wpAnyH_ready (rs := [4, 6]) (by kernel_rfl) (by simp) ?_
        refine AllReadyH.cons (o := { dst := some 28, op := _, type := _, pos := _, after := _, guard := _ }) rfl (fun K hK => ?_) (AllReadyH.cons (o := { dst := some 30, op := _, type := _, pos := _, after := _, guard := _ }) rfl (fun K hK => ?_) AllReadyH.nil)
        · have cL := X0.out
          go_simp
          refine hK.out _ _ trivial (fun hHeld => ?_)
          try simp only [Act.put, List.setIfInBounds_toArray, List.set_cons_zero, List.set_cons_succ]
          clear hK cL
          refine wpAnyH_ready (rs := [6]) (by kernel_rfl) (by simp) ?_
          refine AllReadyH.cons (o := { dst := some 30, op := _, type := _, pos := _, after := _, guard := _ }) rfl (fun K hK => ?_) AllReadyH.nil
          go_simp
          refine MC.out.mono ?_
          rintro _ w2 ⟨g, cap, rfl, hr, hg, hb⟩
          obtain ⟨y2, la⟩ := LA.out w2 g cap hr hg ((Below.refl _ wo).drew.trans hb)
          obtain ⟨W3, hW3⟩ : ∃ x, w2.alloc (.cells #[.slice (some ⟨g, 0, none⟩) lx cap] 41) = x := ⟨_, rfl⟩
          obtain ⟨y3, ao, n, c, W4, a1, a2, a3, cp, mp⟩ := la W3 hW3
          obtain ⟨W5, hW5⟩ : ∃ x, W4.setCell ⟨R2, 2, none⟩ (.slice ao n c) = x := ⟨_, rfl⟩
          rw [hW5] at cp
          have Y2 := keep y2
          have Y3 := keep y3
          have A1 := keep a1
          have CP := keep cp
          refine hK.out _ _ trivial (fun hHeld => ?_)
          try simp only [Act.put, List.setIfInBounds_toArray, List.set_cons_zero, List.set_cons_succ]
          clear hK y2 y3 a1 cp la hr hg hb
          refine wpAnyH_ready (rs := [7]) (by kernel_rfl) (by simp) ?_
          refine AllReadyH.cons (o := { dst := some 31, op := _, type := _, pos := _, after := _, guard := _ }) rfl (fun K hK => ?_) AllReadyH.nil
          go_simp
          try rw [hW3]
          refine hK.out _ _ trivial (fun hHeld => ?_)
          try simp only [Act.put, List.setIfInBounds_toArray, List.set_cons_zero, List.set_cons_succ]
          clear hK
          refine wpAnyH_ready (rs := [8]) (by kernel_rfl) (by simp) ?_
          refine AllReadyH.cons (o := { dst := some 32, op := _, type := _, pos := _, after := _, guard := _ }) rfl (fun K hK => ?_) AllReadyH.nil
          rw [if_pos (by rfl)]
          refine wp_app_run (.tmp 28) (.tmp 31) 61 61 rfl _ _ _ rfl rfl A1.out ?_
          refine hK.out _ _ trivial (fun hHeld => ?_)
          try simp only [Act.put, List.setIfInBounds_toArray, List.set_cons_zero, List.set_cons_succ]
          clear hK
          refine wpAnyH_take (i := 9) (oi := { dst := some 33, op := _, type := _, pos := _, after := _, guard := _ }) (v := ?v421) rfl (by kernel_rfl) (by kernel_rfl) (by kernel_rfl) (fun _ _ _ h => h) (Or.inl ⟨by rfl, ?hy421⟩) (by assumption) ?rest421
          case hy421 => (intro w hSw; go_simp; try with_reducible rfl)
          try simp only [Act.put, List.setIfInBounds_toArray, List.set_cons_zero, List.set_cons_succ]
          refine wpAnyH_take (i := 10) (oi := { dst := some 34, op := _, type := _, pos := _, after := _, guard := _ }) (v := ?v422) rfl (by kernel_rfl) (by kernel_rfl) (by kernel_rfl) (fun _ _ _ h => h) (Or.inl ⟨by rfl, ?hy422⟩) (by assumption) ?rest422
          case hy422 => (intro w hSw; go_simp; try with_reducible rfl)
          try simp only [Act.put, List.setIfInBounds_toArray, List.set_cons_zero, List.set_cons_succ]
          refine wpAnyH_ready (rs := [11]) (by kernel_rfl) (by simp) ?_
          refine AllReadyH.cons (o := { dst := none, op := _, type := _, pos := _, after := _, guard := _ }) rfl (fun K hK => ?_) AllReadyH.nil
          go_simp
          try rw [hW5]
          refine hK.out _ _ trivial (fun hHeld => ?_)
          try simp only [Act.put, List.setIfInBounds_toArray, List.set_cons_zero, List.set_cons_succ]
          clear hK
          refine wpAnyH_done (by kernel_rfl) ?_ _
          exact ⟨_, _, _, rfl, _, _, CP.out, mp⟩
        · go_simp
          refine MC.out.mono ?_
          rintro _ w2 ⟨g, cap, rfl, hr, hg, hb⟩
          obtain ⟨y2, la⟩ := LA.out w2 g cap hr hg ((Below.refl _ wo).drew.trans hb)
          obtain ⟨W3, hW3⟩ : ∃ x, w2.alloc (.cells #[.slice (some ⟨g, 0, none⟩) lx cap] 41) = x := ⟨_, rfl⟩
          obtain ⟨y3, ao, n, c, W4, a1, a2, a3, cp, mp⟩ := la W3 hW3
          obtain ⟨W5, hW5⟩ : ∃ x, W4.setCell ⟨R2, 2, none⟩ (.slice ao n c) = x := ⟨_, rfl⟩
          rw [hW5] at cp
          have Y2 := keep y2
          have Y3 := keep y3
          have A1 := keep a1
          have CP := keep cp
          refine hK.out _ _ trivial (fun hHeld => ?_)
          try simp only [Act.put, List.setIfInBounds_toArray, List.set_cons_zero, List.set_cons_succ]
          clear hK y2 y3 a1 cp la hr hg hb
          refine wpAnyH_ready (rs := [4, 7]) (by kernel_rfl) (by simp) ?_
          refine AllReadyH.cons (o := { dst := some 28, op := _, type := _, pos := _, after := _, guard := _ }) rfl (fun K hK => ?_) (AllReadyH.cons (o := { dst := some 31, op := _, type := _, pos := _, after := _, guard := _ }) rfl (fun K hK => ?_) AllReadyH.nil)
          · have cL := Y2.out
            go_simp
            refine hK.out _ _ trivial (fun hHeld => ?_)
            try simp only [Act.put, List.setIfInBounds_toArray, List.set_cons_zero, List.set_cons_succ]
            clear hK cL
            refine wpAnyH_ready (rs := [7]) (by kernel_rfl) (by simp) ?_
            refine AllReadyH.cons (o := { dst := some 31, op := _, type := _, pos := _, after := _, guard := _ }) rfl (fun K hK => ?_) AllReadyH.nil
            go_simp
            try rw [hW3]
            refine hK.out _ _ trivial (fun hHeld => ?_)
            try simp only [Act.put, List.setIfInBounds_toArray, List.set_cons_zero, List.set_cons_succ]
            clear hK
            refine wpAnyH_ready (rs := [8]) (by kernel_rfl) (by simp) ?_
            refine AllReadyH.cons (o := { dst := some 32, op := _, type := _, pos := _, after := _, guard := _ }) rfl (fun K hK => ?_) AllReadyH.nil
            rw [if_pos (by rfl)]
            refine wp_app_run (.tmp 28) (.tmp 31) 61 61 rfl _ _ _ rfl rfl A1.out ?_
            refine hK.out _ _ trivial (fun hHeld => ?_)
            try simp only [Act.put, List.setIfInBounds_toArray, List.set_cons_zero, List.set_cons_succ]
            clear hK
            refine wpAnyH_take (i := 9) (oi := { dst := some 33, op := _, type := _, pos := _, after := _, guard := _ }) (v := ?v423) rfl (by kernel_rfl) (by kernel_rfl) (by kernel_rfl) (fun _ _ _ h => h) (Or.inl ⟨by rfl, ?hy423⟩) (by assumption) ?rest423
            case hy423 => (intro w hSw; go_simp; try with_reducible rfl)
            try simp only [Act.put, List.setIfInBounds_toArray, List.set_cons_zero, List.set_cons_succ]
            refine wpAnyH_take (i := 10) (oi := { dst := some 34, op := _, type := _, pos := _, after := _, guard := _ }) (v := ?v424) rfl (by kernel_rfl) (by kernel_rfl) (by kernel_rfl) (fun _ _ _ h => h) (Or.inl ⟨by rfl, ?hy424⟩) (by assumption) ?rest424
            case hy424 => (intro w hSw; go_simp; try with_reducible rfl)
            try simp only [Act.put, List.setIfInBounds_toArray, List.set_cons_zero, List.set_cons_succ]
            refine wpAnyH_ready (rs := [11]) (by kernel_rfl) (by simp) ?_
            refine AllReadyH.cons (o := { dst := none, op := _, type := _, pos := _, after := _, guard := _ }) rfl (fun K hK => ?_) AllReadyH.nil
            go_simp
            try rw [hW5]
            refine hK.out _ _ trivial (fun hHeld => ?_)
            try simp only [Act.put, List.setIfInBounds_toArray, List.set_cons_zero, List.set_cons_succ]
            clear hK
            refine wpAnyH_done (by kernel_rfl) ?_ _
            exact ⟨_, _, _, rfl, _, _, CP.out, mp⟩
          · go_simp
            try rw [hW3]
            refine hK.out _ _ trivial (fun hHeld => ?_)
            try simp only [Act.put, List.setIfInBounds_toArray, List.set_cons_zero, List.set_cons_succ]
            clear hK
            have cL := Y3.out
            refine wpAnyH_ready (rs := [4]) (by kernel_rfl) (by simp) ?_
            refine AllReadyH.cons (o := { dst := some 28, op := _, type := _, pos := _, after := _, guard := _ }) rfl (fun K hK => ?_) AllReadyH.nil
            go_simp
            refine hK.out _ _ trivial (fun hHeld => ?_)
            try simp only [Act.put, List.setIfInBounds_toArray, List.set_cons_zero, List.set_cons_succ]
            clear hK cL
            refine wpAnyH_ready (rs := [8]) (by kernel_rfl) (by simp) ?_
            refine AllReadyH.cons (o := { dst := some 32, op := _, type := _, pos := _, after := _, guard := _ }) rfl (fun K hK => ?_) AllReadyH.nil
            rw [if_pos (by rfl)]
            refine wp_app_run (.tmp 28) (.tmp 31) 61 61 rfl _ _ _ rfl rfl A1.out ?_
            refine hK.out _ _ trivial (fun hHeld => ?_)
            try simp only [Act.put, List.setIfInBounds_toArray, List.set_cons_zero, List.set_cons_succ]
            clear hK
            refine wpAnyH_take (i := 9) (oi := { dst := some 33, op := _, type := _, pos := _, after := _, guard := _ }) (v := ?v425) rfl (by kernel_rfl) (by kernel_rfl) (by kernel_rfl) (fun _ _ _ h => h) (Or.inl ⟨by rfl, ?hy425⟩) (by assumption) ?rest425
            case hy425 => (intro w hSw; go_simp; try with_reducible rfl)
            try simp only [Act.put, List.setIfInBounds_toArray, List.set_cons_zero, List.set_cons_succ]
            refine wpAnyH_take (i := 10) (oi := { dst := some 34, op := _, type := _, pos := _, after := _, guard := _ }) (v := ?v426) rfl (by kernel_rfl) (by kernel_rfl) (by kernel_rfl) (fun _ _ _ h => h) (Or.inl ⟨by rfl, ?hy426⟩) (by assumption) ?rest426
            case hy426 => (intro w hSw; go_simp; try with_reducible rfl)
            try simp only [Act.put, List.setIfInBounds_toArray, List.set_cons_zero, List.set_cons_succ]
            refine wpAnyH_ready (rs := [11]) (by kernel_rfl) (by simp) ?_
            refine AllReadyH.cons (o := { dst := none, op := _, type := _, pos := _, after := _, guard := _ }) rfl (fun K hK => ?_) AllReadyH.nil
            go_simp
            try rw [hW5]
            refine hK.out _ _ trivial (fun hHeld => ?_)
            try simp only [Act.put, List.setIfInBounds_toArray, List.set_cons_zero, List.set_cons_succ]
            clear hK
            refine wpAnyH_done (by kernel_rfl) ?_ _
            exact ⟨_, _, _, rfl, _, _, CP.out, mp⟩
      case rest =>
        rintro u v z wq ⟨rvq, Tq, hq⟩
        simp only [Act.put, List.setIfInBounds_toArray, List.set_cons_zero, List.set_cons_succ]
        have HQ := keep hq
        have CQ : Kept (Cp h w wq R2 b seed rvq Tq ri si (flat (T0.take i) ++ mx.take 0)) := by rw [List.take_zero, List.append_nil]; exact hq.1
        have HSP : Kept (∀ j e, mx[j]? = some e → (∀ a ∈ flat (T0.take i) ++ mx.take j, a.1 ≠ e.1) ∧ (flat (T0.take i) ++ mx.take j).length < 1048576 ∧ e.1.size ≤ 1048576) := fun j e he => by
          have hT := split_rows HX0.out
          have hLe : L = (flat (T0.take i) ++ mx.take j) ++ e :: (mx.drop (j + 1) ++ flat (T0.drop (i + 1))) := by
            rw [← HF0.out]
            conv => lhs; rw [hT]
            rw [flat_app, flat_cons]
            dsimp only
            conv => lhs; rw [(at_split' he)]
            simp
          have hkn := HM.out.2.2.2
          have hlen := HM.out.2.2.1
          refine ⟨fun a ha e' => ?_, ?_, ?_⟩
          · rw [hLe] at hkn
            unfold Dc.keys at hkn
            rw [List.map_append, List.nodup_append] at hkn
            exact hkn.2.2 a.1 (List.mem_map.2 ⟨a, ha, rfl⟩) e.1 (List.mem_map.2 ⟨e, by simp, rfl⟩) e'
          · rw [hLe, List.length_append, List.length_cons] at hlen
            omega
          · exact HM.out.2.1 e (by rw [hLe]; simp)
        clear hq LA MC X0
        go_wp2_with fail
        go_loopg [37] lx (fun kx s37 wz => ∃ j : Nat, s37 = .int .i64 j ∧ j ≤ lx ∧ lx - j ≤ kx ∧ ∃ r s, Kept (Cp h w wz R2 b seed rvq Tq r s (flat (T0.take i) ++ mx.take j)))
        case atStart => exact ⟨0, rfl, Nat.zero_le _, by omega, ri, si, CQ⟩
        case round =>
          obtain ⟨j, rfl, hjl, hgj, rj, sj, CJ⟩ := hrel
          clear CQ
          by_cases hjx : j < lx
          · obtain ⟨e, he⟩ : ∃ e, mx[j]? = some e := ⟨_, List.getElem?_eq_getElem (by have := HLX.out; omega)⟩
            obtain ⟨oJ, hoJ⟩ : ∃ o, o = j * 2 := ⟨_, rfl⟩
            obtain ⟨f0, f1⟩ := (HROW.out wr CJ.out.bel).at he
            rw [← hoJ] at f0 f1
            have hoJ' : j * 2 = oJ := hoJ.symm
            have j0 : (0 : Int) ≤ (j : Int) := by omega
            have j1 : (j : Int) < (lx : Int) := by omega
            have hwj : IntKind.i64.wrap ((j : Int) + 1) = (j : Int) + 1 := by have := HMX.out; have := HLX.out; rw [IntKind.wrap_i64]; omega
            obtain ⟨g1, g2, g3⟩ := HSP.out j e he
            obtain ⟨e1, e2⟩ := e
            dsimp only at f0 f1 g1 g3
            obtain ⟨D, hD⟩ : ∃ D, wr.heap.size = D := ⟨_, rfl⟩
            obtain ⟨W7, hW7⟩ : ∃ W7, wr.alloc (.cells #[.string e1, .float .f64 e2] 46) = W7 := ⟨_, rfl⟩
            have hb7 : Below wr.heap.size wr W7 := by rw [← hW7]; exact (Below.refl _ wr).alloc (Nat.le_refl _) _
            have gD : W7.heap[D]? = some (.cells #[.string e1, .float .f64 e2] 46 (0, 0)) := by rw [← hW7, ← hD]; exact heap_alloc_new _ _
            have hDl : D < W7.heap.size := (Array.getElem?_eq_some_iff.1 gD).1
            have hrD : rj D = (0, 0) := Classical.byContradiction fun hne => by have := CJ.out.dd.1.1 D hne; omega
            have C7 : Kept (Cp h w W7.drew R2 b seed rvq Tq rj sj (flat (T0.take i) ++ mx.take j)) := (CJ.out.below hb7).below ((Below.refl _ W7).drew)
            have MS := keep (set_any HH.out W7.drew rj b sj e1 e2 C7.out.dd (by omega) (by unfold maxLen; omega))
            have SD : Kept (∀ wz : World, wz.heap[D]? = some (.cells #[.string e1, .float .f64 e2] 46 (0, 0)) → wz.cell? ⟨D, 0, none⟩ = some (.string e1) ∧ wz.cell? ⟨D, 1, none⟩ = some (.float .f64 e2)) := fun wz hz => ⟨by rw [cell_of_row _ _ _ _ _ _ hz]; rfl, by rw [cell_of_row _ _ _ _ _ _ hz]; rfl⟩
            have S7 : Kept (W7.drew.cell? ⟨R2, 1, none⟩ = some (.pointer (some ⟨b, 0, none⟩)) ∧ W7.drew.cell? ⟨D, 0, none⟩ = some (.string e1) ∧ W7.drew.cell? ⟨D, 1, none⟩ = some (.float .f64 e2)) := ⟨(four C7.out.lay.1).2.1, SD.out W7.drew gD⟩
            have FN : Kept (∀ w8 r8, Dd h (1048576 + 1) w8 r8 b seed (Dc.set h sj e1 e2).1 → Fr W7.drew rj w8 r8 → (w8.cell? ⟨R2, 1, none⟩ = some (.pointer (some ⟨b, 0, none⟩)) ∧ w8.cell? ⟨D, 0, none⟩ = some (.string e1) ∧ w8.cell? ⟨D, 1, none⟩ = some (.float .f64 e2)) ∧ Cp h w w8 R2 b seed rvq Tq r8 (Dc.set h sj e1 e2).1 (flat (T0.take i) ++ mx.take (j + 1))) := fun w8 r8 hd hf => by
              have c8 := C7.out.set (by unfold maxLen; omega) g1 g2 hd hf
              refine ⟨⟨(four c8.lay.1).2.1, SD.out w8 ((hf.2.2 D hDl hrD).1.trans gD)⟩, ?_⟩
              rw [List.take_add_one, he, ← List.append_assoc]
              exact c8
            clear he hoJ g1 g2 g3 hb7 gD hDl hrD CJ
            go_wp2_with fail
            refine wp_region_held_drew (S := fun W => W.cell? ⟨R2, 1, none⟩ = some (.pointer (some ⟨b, 0, none⟩)) ∧ W.cell? ⟨D, 0, none⟩ = some (.string e1) ∧ W.cell? ⟨D, 1, none⟩ = some (.float .f64 e2)) (by kernel_rfl) S7.out (fun hHeld => ?_)
            refine wpAnyH_take (i := 0) (oi := { dst := some 41, op := _, type := _, pos := _, after := _, guard := _ }) (v := ?v427) rfl (by kernel_rfl) (by kernel_rfl) (by kernel_rfl) (fun _ _ _ h => h) (Or.inl ⟨by rfl, ?hy427⟩) (by assumption) ?rest427
            case hy427 => (intro w hSw; obtain ⟨p0,p1,p2⟩ := hSw; go_simp; try with_reducible rfl)
            try simp only [Act.put, List.setIfInBounds_toArray, List.set_cons_zero, List.set_cons_succ]
            refine wpAnyH_take (i := 1) (oi := { dst := some 42, op := _, type := _, pos := _, after := _, guard := _ }) (v := ?v428) rfl (by kernel_rfl) (by kernel_rfl) (by kernel_rfl) (fun _ _ _ h => h) (Or.inl ⟨by rfl, ?hy428⟩) (by assumption) ?rest428
            case hy428 => (intro w hSw; obtain ⟨p0,p1,p2⟩ := hSw; go_simp; try with_reducible rfl)
            try simp only [Act.put, List.setIfInBounds_toArray, List.set_cons_zero, List.set_cons_succ]
            refine wpAnyH_take (i := 2) (oi := { dst := some 43, op := _, type := _, pos := _, after := _, guard := _ }) (v := ?v429) rfl (by kernel_rfl) (by kernel_rfl) (by kernel_rfl) (fun _ _ _ h => h) (Or.inl ⟨by rfl, ?hy429⟩) (by assumption) ?rest429
            case hy429 => (intro w hSw; obtain ⟨p0,p1,p2⟩ := hSw; go_simp; try with_reducible rfl)
            try simp only [Act.put, List.setIfInBounds_toArray, List.set_cons_zero, List.set_cons_succ]
            refine wpAnyH_take (i := 3) (oi := { dst := some 44, op := _, type := _, pos := _, after := _, guard := _ }) (v := (.pointer (some ⟨b, 0, none⟩))) rfl (by kernel_rfl) (by kernel_rfl) (by kernel_rfl) (fun _ _ _ h => h) (Or.inl ⟨by rfl, ?hy430⟩) (by assumption) ?rest430
            case hy430 => (intro w hSw; obtain ⟨p0,p1,p2⟩ := hSw; first | (go_simp; done) | (go_simp; simp [*]; done) | (simp [*]; go_simp; done))
            try simp only [Act.put, List.setIfInBounds_toArray, List.set_cons_zero, List.set_cons_succ]
            refine wpAnyH_take (i := 4) (oi := { dst := some 45, op := _, type := _, pos := _, after := _, guard := _ }) (v := ?v431) rfl (by kernel_rfl) (by kernel_rfl) (by kernel_rfl) (fun _ _ _ h => h) (Or.inl ⟨by rfl, ?hy431⟩) (by assumption) ?rest431
            case hy431 => (intro w hSw; obtain ⟨p0,p1,p2⟩ := hSw; go_simp; try with_reducible rfl)
            try simp only [Act.put, List.setIfInBounds_toArray, List.set_cons_zero, List.set_cons_succ]
            refine wpAnyH_take (i := 5) (oi := { dst := some 46, op := _, type := _, pos := _, after := _, guard := _ }) (v := (.string e1)) rfl (by kernel_rfl) (by kernel_rfl) (by kernel_rfl) (fun _ _ _ h => h) (Or.inl ⟨by rfl, ?hy432⟩) (by assumption) ?rest432
            case hy432 => (intro w hSw; obtain ⟨p0,p1,p2⟩ := hSw; first | (go_simp; done) | (go_simp; simp [*]; done) | (simp [*]; go_simp; done))
            try simp only [Act.put, List.setIfInBounds_toArray, List.set_cons_zero, List.set_cons_succ]
            refine wpAnyH_take (i := 6) (oi := { dst := some 47, op := _, type := _, pos := _, after := _, guard := _ }) (v := ?v433) rfl (by kernel_rfl) (by kernel_rfl) (by kernel_rfl) (fun _ _ _ h => h) (Or.inl ⟨by rfl, ?hy433⟩) (by assumption) ?rest433
            case hy433 => (intro w hSw; obtain ⟨p0,p1,p2⟩ := hSw; go_simp; try with_reducible rfl)
            try simp only [Act.put, List.setIfInBounds_toArray, List.set_cons_zero, List.set_cons_succ]
            refine wpAnyH_take (i := 7) (oi := { dst := some 48, op := _, type := _, pos := _, after := _, guard := _ }) (v := (.float .f64 e2)) rfl (by kernel_rfl) (by kernel_rfl) (by kernel_rfl) (fun _ _ _ h => h) (Or.inl ⟨by rfl, ?hy434⟩) (by assumption) ?rest434
            case hy434 => (intro w hSw; obtain ⟨p0,p1,p2⟩ := hSw; first | (go_simp; done) | (go_simp; simp [*]; done) | (simp [*]; go_simp; done))
            try simp only [Act.put, List.setIfInBounds_toArray, List.set_cons_zero, List.set_cons_succ]
            refine wpAnyH_ready (rs := [8]) (by kernel_rfl) (by simp) ?_
            refine AllReadyH.cons (o := { dst := some 49, op := _, type := _, pos := _, after := _, guard := _ }) rfl (fun K hK => ?_) AllReadyH.nil
            go_simp
            refine MS.out.mono ?_
            rintro _ w8 ⟨rfl, r8, hd8, hf8⟩
            obtain ⟨s8, c8⟩ := FN.out w8 r8 hd8 hf8
            have C8 := keep c8
            refine hK.out _ _ s8 (fun hHeld => ?_)
            try simp only [Act.put, List.setIfInBounds_toArray, List.set_cons_zero, List.set_cons_succ]
            clear hK s8 c8 hd8 hf8 MS FN
            refine wpAnyH_done (by kernel_rfl) ?_ _
            clear hHeld
            go_wp2
            go_roundg (lx - (j + 1))
            case measure => omega
            case rel => exact ⟨j + 1, by simp, by omega, Nat.le_refl _, r8, _, C8.out⟩
          · obtain rfl : j = lx := by omega
            have CF : Kept (Cp h w wr R2 b seed rvq Tq rj sj (flat (T0.take (i + 1)))) := by
              have := CJ.out
              rw [show mx.take j = mx from List.take_of_length_le (by have := HLX.out; omega)] at this
              rw [flat_take_succ HX0.out]
              exact this
            go_wp2
            go_roundg (n0 - (i + 1))
            case measure => omega
            case rel => exact ⟨i + 1, by simp, by omega, Nat.le_refl _, rvq, Tq, rj, sj, CF.out, HQ.out.2⟩
    · obtain rfl : i = n0 := by omega
      have hmap : Ti.map (fun x => x.2.2) = T0.map (fun x => x.2.2) := by rw [KC.out.2, List.take_of_length_le (by have := HN0.out; omega)]
      have hflat : flat Ti = L := (flat_of_map hmap).trans HF0.out
      have hcp := KC.out.1
      rw [List.take_of_length_le (by have := HN0.out; omega), HF0.out] at hcp
      have d3 : wo.cell? ⟨R, 3, none⟩ = some (.int .i64 ((rcst (flat T0) : Nat) : Int)) := (hcp.bel.cell (p := ⟨R, 3, none⟩) (World.block_lt_of_cell? _ _ c3)).trans c3
      obtain ⟨q0, q1, q2, q3, qf⟩ := four hcp.lay.1
      obtain ⟨W9, hW9⟩ : ∃ x, wo.setCell ⟨R2, 3, none⟩ (.int .i64 ((rcst (flat T0) : Nat) : Int)) = x := ⟨_, rfl⟩
      obtain ⟨l9, f9⟩ := hcp.lay.cost (.int .i64 ((rcst (flat T0) : Nat) : Int))
      rw [hW9] at l9 f9
      obtain ⟨t1, t2, t3⟩ := rk_rows hcp.dd f9 hcp.free
      obtain ⟨u1, u2⟩ := FO.bel t1 hcp.new hcp.bel.size
      have HD : Kept ((∃ R' O', Ending.returned (.pointer (some ⟨R2, 0, none⟩)) = .returned (.pointer (some ⟨R', 0, none⟩)) ∧ RK W9 O' R' seed L ∧ ∀ k, O' k → w.heap.size ≤ k) ∧ Below w.heap.size w W9) := by
        refine ⟨⟨R2, rq ri (R2 :: bl rvi Ti), rfl, ⟨h, ri, b, rvi, Ti, si, HH.out, ⟨t3, t2, ?_, gd_of_map hmap HG0.out, ?_⟩, hflat, fun k => Iff.rfl⟩, u2⟩, hcp.bel.trans u1⟩
        · rw [hflat, ← HF0.out]; exact l9
        · rw [hflat, ← HF0.out]
          exact ⟨by rw [HF0.out]; exact hcp.all, HMI.out.2⟩
      generalize (rcst (flat T0) : Nat) = ct at *
      clear hmap hflat hcp l9 f9 t1 t2 t3 u1 u2 KC q0 q1 q2 c3
      go_wp2
      go_ret
      exact HD.out
end Go.Proofs.Ytapehjlpiobeaaa
