/-
  Contracts over this program: takeOut.
-/
import Derived.Test.YtapehjlpiobeaaaRkJoin
namespace Go.Proofs.Ytapehjlpiobeaaa
open Go.RowKit Go.Shelf
set_option linter.unusedVariables false
set_option linter.unusedSimpArgs false
/-- what is so behind a change of the rows: the members are L' -/
def Chg (R : Nat) (u0 u1 u3 rv : Value) (T : List Rw) (L' : List Ent) (w w' : World) : Prop :=
  ∃ rv' T', Lay w' R u0 u1 u3 rv' T' ∧ flat T' = L' ∧ Gd T' ∧ Fm (R :: bl rv T) w (R :: bl rv' T') w'
theorem mo_ahd {l : List Ent} (hl : Ris l) {x : Ent} (hx : Num x) : Mo (fun e => ahd e x) l := by
  refine List.Pairwise.imp_of_mem ?_ hl.1
  intro a b ha hb hab h
  exact ahd_trans (hl.2 a ha) (hl.2 b hb) hx hab h
theorem flat_set {T : List Rw} {i : Nat} {x y : Rw} (h : T[i]? = some x) : flat (T.set i y) = flat (T.take i) ++ y.2.2 ++ flat (T.drop (i + 1)) := by
  have hl := (List.getElem?_eq_some_iff.1 h).1
  have h2 : (T.set i y)[i]? = some y := by rw [List.getElem?_set, if_pos rfl, if_pos hl]
  rw [flat_at h2, List.take_set_of_le (Nat.le_refl _), List.drop_set_of_lt (by omega)]
theorem flat_erase {T : List Rw} {i : Nat} {x : Rw} (h : T[i]? = some x) (hx : x.2.2 = []) : flat (T.eraseIdx i) = flat T := by
  rw [flat_at h, List.eraseIdx_eq_take_drop_succ, flat_app, hx, List.append_nil]
/-- where a member stands -/
theorem out_at {T : List Rw} {e : Ent} {l1 l2 : List Ent} {i p : Nat} (hR : Ris (flat T)) (hf : flat T = l1 ++ e :: l2) (hs : Sk T (fun a => ahd a e) i p) :
    ∃ x, T[i]? = some x ∧ p < x.2.2.length ∧ flat (T.take i) ++ (x.2.2.take p ++ x.2.2.drop (p + 1)) ++ flat (T.drop (i + 1)) = l1 ++ l2 := by
  have he : Num e := hR.2 e (by rw [hf]; simp)
  rw [hf] at hR
  obtain ⟨a1, a2⟩ := ris_at hR
  have n2 : ∀ a ∈ e :: l2, ahd a e = false := by
    intro a ha
    rcases List.mem_cons.1 ha with rfl | ha
    · exact ahd_irr he
    · exact ahd_asym he (hR.2 a (by simp [ha])) (a2 a ha)
  rcases hs with ⟨_, _, h⟩ | ⟨x, hx, hp, s1, s2, s3, s4⟩
  · have this : ahd e e = true := h e (by rw [hf]; simp)
    rw [ahd_irr he] at this; cases this
  · refine ⟨x, hx, hp, ?_⟩
    have hfl := flat_at hx
    rw [hf] at hfl
    have e1 : l1 ++ e :: l2 = (flat (T.take i) ++ x.2.2.take p) ++ (x.2.2.drop p ++ flat (T.drop (i + 1))) := by
      rw [hfl]
      conv => lhs; rw [← List.take_append_drop p x.2.2]
      simp only [List.append_assoc]
    obtain ⟨q1, q2⟩ := pre_eq (q := fun a => ahd a e) e1 a1 n2 (fun a ha => by rcases List.mem_append.1 ha with h | h; exact s1 a h; exact s2 a h) (fun a ha => by rcases List.mem_append.1 ha with h | h; exact s3 a h; exact s4 a h)
    rw [List.drop_eq_getElem_cons hp, List.cons_append] at q2
    injection q2 with _ q3
    rw [q1, q3]
    simp only [List.append_assoc]
set_option maxRecDepth 100000 in
set_option maxHeartbeats 2000000 in
theorem takeOut_any (w : World) (R : Nat) (u0 u1 u3 rv : Value) (T : List Rw) (e : Ent) (l1 l2 : List Ent) (hL : Lay w R u0 u1 u3 rv T) (hG : Gd T) (hRis : Ris (flat T)) (hf : flat T = l1 ++ e :: l2) (hb : (flat T).length ≤ 2000000) :
    Calls Try.prog 52 #[.pointer (some ⟨R, 0, none⟩), agE e] w fun en w' => en = .returned (.tuple #[]) ∧ Chg R u0 u1 u3 rv T (l1 ++ l2) w w' := by
  have sf : ∀ (x : Nat) (w : World) (a : Addr), (store a (.float .f64 x)).run Try.prog w = stored Try.prog w a (.float .f64 x) .plain := fun x w a => run_store _ w a _ _ rfl
  have hne : ∀ x ∈ T, x.2.2 ≠ [] := fun x hx => (hG x hx).1
  have hTl : T.length ≤ 2000000 := Nat.le_trans (gd_len hne) hb
  have hnum : Num e := hRis.2 e (by rw [hf]; simp)
  obtain ⟨W0, hW0⟩ : ∃ W0, w.alloc (.cells #[.string e.1, .float .f64 e.2] 46) = W0 := ⟨_, rfl⟩
  have hb0 : Below w.heap.size w W0 := by rw [← hW0]; exact (Below.refl _ w).alloc (Nat.le_refl _) _
  have hh0 : W0.heap[w.heap.size]? = some (.cells #[.string e.1, .float .f64 e.2] 46 (0, 0)) := by rw [← hW0]; exact heap_alloc_new _ _
  have ce0 : W0.cell? ⟨w.heap.size, 0, none⟩ = some (.string e.1) := by simp [World.cell?, hh0]
  have ce1 : W0.cell? ⟨w.heap.size, 1, none⟩ = some (.float .f64 e.2) := by simp [World.cell?, hh0]
  have mN := notAhead_any e W0
  have MS := keep (fun w1 (hb1 : Below W0.heap.size W0 w1) (hr : Rch 64 #[.pointer (some ⟨W0.heap.size, 0, none⟩)] (fun a => ahd a e) w1) => rseek_any w1 R u0 u1 u3 rv T _ _ _ (hL.below (Below.up hb0 hb1)) hne (fun x hx => by have := (hG x hx).2; omega) hTl hr (mo_ahd hRis hnum))
  have HL := keep hL
  have HG := keep hG
  have HR := keep hRis
  have HF := keep hf
  have HB := keep hb
  have HB0 := keep hb0
  have HTl := keep hTl
  clear hL hG hRis hf hb hne hTl hb0 hh0 hnum
  obtain ⟨e1, e2⟩ := e
  unfold agE at *
  dsimp only at *
  go_enter Try.func52, Try.ntmps52
  go_wp2_with fail
  try rw [hW0]
  refine mN.mono ?_
  rintro _ w1 ⟨rfl, hb1, hr1⟩
  have HB1 := keep hb1
  have mS := MS.out w1 hb1 hr1
  clear hb1 hr1 MS mN
  go_wp2_with fail
  refine mS.mono ?_
  rintro _ w2 ⟨⟨i, p, rfl, hsk⟩, hb2⟩
  have hbw2 : Below w.heap.size w w2 := Below.up (Below.up HB0.out HB1.out) hb2
  have hL2 := HL.out.below hbw2
  obtain ⟨x, hx, hp, hout⟩ := out_at HR.out HF.out hsk
  have hil : i < T.length := (List.getElem?_eq_some_iff.1 hx).1
  obtain ⟨gt, c, hrv, hc1, hc2⟩ := hL2.2.1.form (by omega)
  subst hrv
  obtain ⟨n, hn'⟩ : ∃ n, T.length = n := ⟨_, rfl⟩
  have hTl := HTl.out
  rw [hn'] at hil hTl
  have hL2' := hL2
  rw [hn'] at hL2'
  obtain ⟨c0, c1, c2, c3, cf⟩ := four hL2'.1
  have hcx := hL2'.2.1.at hx
  have hRx := hL2'.2.1.2.1 x (List.mem_of_getElem? hx)
  have hxG := HG.out x (List.mem_of_getElem? hx)
  obtain ⟨gx, cx, mx⟩ := x
  unfold rwV at hcx
  dsimp only at hcx hxG hp hout
  obtain ⟨lx, hlx⟩ : ∃ lx, mx.length = lx := ⟨_, rfl⟩
  rw [hlx] at hcx hxG hp
  obtain ⟨m, hm⟩ : ∃ m, lx = m + 1 := ⟨lx - 1, by omega⟩
  have hRx' : w2.drew.ownsRow 0 46 2 (.slice (some ⟨gx, 0, none⟩) lx cx) lx (enR mx) := by have := hRx; unfold Row rwV at this; dsimp only at this; rw [hlx] at this; exact this
  have mD := delM_any w2.drew gx lx m cx p _ hRx' hm (by omega) enR_one
  rw [← enR_cut] at mD
  obtain ⟨my, hmy⟩ : ∃ my, mx.take p ++ mx.drop (p + 1) = my := ⟨_, rfl⟩
  rw [hmy] at mD hout
  have hmyl : my.length = m := by rw [← hmy, List.length_append, List.length_take, List.length_drop, hlx]; omega
  -- behind the deletion
  have hD : ∀ w3, w3.ownsRow 0 46 2 (.slice (some ⟨gx, 0, none⟩) m cx) m (enR my) → Only gx w2.drew w3 →
      (Lay (w3.setCell ⟨gt, i, none⟩ (.slice (some ⟨gx, 0, none⟩) m cx)) R u0 u1 u3 (.slice (some ⟨gt, 0, none⟩) n c) (T.set i (gx, cx, my)) ∧ Fm (R :: bl (.slice (some ⟨gt, 0, none⟩) n c) T) w (R :: bl (.slice (some ⟨gt, 0, none⟩) n c) (T.set i (gx, cx, my))) (w3.setCell ⟨gt, i, none⟩ (.slice (some ⟨gx, 0, none⟩) m cx))) ∧
      w3.cell? ⟨R, 2, none⟩ = some (.slice (some ⟨gt, 0, none⟩) n c) ∧ w3.cell? ⟨gt, i, none⟩ = some (.slice (some ⟨gx, 0, none⟩) lx cx) ∧ w3.frozen? ⟨gt, i, none⟩ = false := fun w3 h1 h2 => by
    have hrow : Row w3 (gx, cx, my) := by unfold Row rwV; dsimp only; rw [hmyl]; exact h1
    have hgr : w2.grownBy w3 (some gx) := ⟨h2.1.1, h2.1.2.1, h2.1.2.2, Nat.le_of_eq h2.2.1.symm, fun k _ hk => h2.2.2 k (fun e => hk (by rw [e]))⟩
    have := hL2'.row hx hrow (.inl rfl) hgr
    rw [show rwV (gx, cx, my) = .slice (some ⟨gx, 0, none⟩) m cx by unfold rwV; dsimp only; rw [hmyl]] at this
    have hgx : gt ≠ gx := fun e => (hL2'.2.1.apart hx) e.symm
    have hRgx : R ≠ gx := fun e => hL2'.2.2 (by rw [bl_some, e]; exact List.mem_cons.2 (.inr (List.mem_map.2 ⟨_, List.mem_of_getElem? hx, rfl⟩)))
    refine ⟨⟨this.1, (Fm.below hbw2).trans this.2⟩, (World.cell?_of_block (w := w2) (a := ⟨R, 2, none⟩) (h2.2.2 R hRgx)).trans c2, (World.cell?_of_block (w := w2) (a := ⟨gt, i, none⟩) (h2.2.2 gt hgx)).trans hcx, ?_⟩
    rw [World.frozen?_of_block (w := w2) (a := ⟨gt, i, none⟩) (h2.2.2 gt hgx)]
    exact hL2'.2.1.free i
  have hset : (T.set i (gx, cx, my))[i]? = some (gx, cx, my) := by rw [List.getElem?_set, if_pos rfl, if_pos (by omega)]
  have hflat : flat (T.set i (gx, cx, my)) = l1 ++ l2 := by rw [flat_set hx]; exact hout
  have hlen4 : (T.set i (gx, cx, my)).length = n := by rw [List.length_set]; exact hn'
  have hGset : ∀ u ∈ T.set i (gx, cx, my), u = (gx, cx, my) ∨ u ∈ T := fun u hu => by
    rcases List.mem_or_eq_of_mem_set hu with h | h
    · exact .inr h
    · exact .inl h
  have hGm : 0 < m → Gd (T.set i (gx, cx, my)) := fun h u hu => by
    rcases hGset u hu with rfl | hu
    · exact ⟨fun e => by have e : my = [] := e; rw [e] at hmyl; simp at hmyl; omega, by show my.length ≤ 1024; rw [hmyl]; have := hxG.2; omega⟩
    · exact HG.out u hu
  have hflatlen : (flat (T.set i (gx, cx, my))).length ≤ 2000000 := by rw [hflat]; have := HB.out; rw [HF.out] at this; simp at this ⊢; omega
  have HLN := keep hn'
  have i0 : (0 : Int) ≤ (i : Int) := by omega
  have i1 : (i : Int) < (n : Int) := by omega
  have hw1 : IntKind.i64.wrap ((p : Int) + 1) = (p : Int) + 1 := by rw [IntKind.wrap_i64]; have := hxG.2; omega
  have hw2 : IntKind.i64.wrap ((i : Int) + 1) = (i : Int) + 1 := by rw [IntKind.wrap_i64]; omega
  have hw3 : IntKind.i64.wrap ((i : Int) - 1) = (i : Int) - 1 := by rw [IntKind.wrap_i64]; omega
  have CI : Kept (w2.drew.cell? ⟨gt, i, none⟩ = some (.slice (some ⟨gx, 0, none⟩) lx cx)) := hcx
  have CR : Kept (w2.drew.cell? ⟨R, 2, none⟩ = some (.slice (some ⟨gt, 0, none⟩) n c)) := c2
  have MD := keep mD
  have HD := keep hD
  have HST := keep hset
  have HFL := keep hflat
  have HL4 := keep hlen4
  have HGM := keep hGm
  have HGS := keep hGset
  have HFF := keep hflatlen
  have HMY := keep hmyl
  have HIL := keep hil
  have HTL := keep hTl
  clear hb2 hbw2 hL2 hL2' hx hp hout hil hc1 hc2 hn' hTl c0 c1 c2 c3 cf hcx hRx hxG hlx hm hRx' mD hmy hmyl hD hset hflat hlen4 hGset hGm hflatlen hsk mS ce0 ce1 HTl HB1
  go_wp2_with fail
  refine wp_region_held_drew (S := fun W => W.cell? ⟨R, 2, none⟩ = some (.slice (some ⟨gt, 0, none⟩) n c)) (by kernel_rfl) CR.out (fun hHeld => ?_)
  refine wpAnyH_take (i := 0) (oi := { dst := some 13, op := _, type := _, pos := _, after := _, guard := _ }) (v := ?v317) rfl (by kernel_rfl) (by kernel_rfl) (by kernel_rfl) (fun _ _ _ h => h) (Or.inl ⟨by rfl, ?hy317⟩) (by assumption) ?rest317
  case hy317 => (intro w hSw; obtain p0 := hSw; go_simp; try with_reducible rfl)
  try simp only [Act.put, List.setIfInBounds_toArray, List.set_cons_zero, List.set_cons_succ]
  refine wpAnyH_take (i := 1) (oi := { dst := some 14, op := _, type := _, pos := _, after := _, guard := _ }) (v := ?v318) rfl (by kernel_rfl) (by kernel_rfl) (by kernel_rfl) (fun _ _ _ h => h) (Or.inl ⟨by rfl, ?hy318⟩) (by assumption) ?rest318
  case hy318 => (intro w hSw; obtain p0 := hSw; go_simp; try with_reducible rfl)
  try simp only [Act.put, List.setIfInBounds_toArray, List.set_cons_zero, List.set_cons_succ]
  refine wpAnyH_take (i := 2) (oi := { dst := some 15, op := _, type := _, pos := _, after := _, guard := _ }) (v := ?v319) rfl (by kernel_rfl) (by kernel_rfl) (by kernel_rfl) (fun _ _ _ h => h) (Or.inl ⟨by rfl, ?hy319⟩) (by assumption) ?rest319
  case hy319 => (intro w hSw; obtain p0 := hSw; go_simp; try with_reducible rfl)
  try simp only [Act.put, List.setIfInBounds_toArray, List.set_cons_zero, List.set_cons_succ]
  refine wpAnyH_take (i := 3) (oi := { dst := some 16, op := _, type := _, pos := _, after := _, guard := _ }) (v := ?v320) rfl (by kernel_rfl) (by kernel_rfl) (by kernel_rfl) (fun _ _ _ h => h) (Or.inl ⟨by rfl, ?hy320⟩) (by assumption) ?rest320
  case hy320 => (intro w hSw; obtain p0 := hSw; go_simp; try with_reducible rfl)
  try simp only [Act.put, List.setIfInBounds_toArray, List.set_cons_zero, List.set_cons_succ]
  refine wpAnyH_take (i := 4) (oi := { dst := some 17, op := _, type := _, pos := _, after := _, guard := _ }) (v := ?v321) rfl (by kernel_rfl) (by kernel_rfl) (by kernel_rfl) (fun _ _ _ h => h) (Or.inl ⟨by rfl, ?hy321⟩) (by assumption) ?rest321
  case hy321 => (intro w hSw; obtain p0 := hSw; go_simp; try with_reducible rfl)
  try simp only [Act.put, List.setIfInBounds_toArray, List.set_cons_zero, List.set_cons_succ]
  refine wpAnyH_take (i := 5) (oi := { dst := some 18, op := _, type := _, pos := _, after := _, guard := _ }) (v := ?v322) rfl (by kernel_rfl) (by kernel_rfl) (by kernel_rfl) (fun _ _ _ h => h) (Or.inl ⟨by rfl, ?hy322⟩) (by assumption) ?rest322
  case hy322 => (intro w hSw; obtain p0 := hSw; go_simp; try with_reducible rfl)
  try simp only [Act.put, List.setIfInBounds_toArray, List.set_cons_zero, List.set_cons_succ]
  refine wpAnyH_take (i := 6) (oi := { dst := some 19, op := _, type := _, pos := _, after := _, guard := _ }) (v := ?v323) rfl (by kernel_rfl) (by kernel_rfl) (by kernel_rfl) (fun _ _ _ h => h) (Or.inl ⟨by rfl, ?hy323⟩) (by assumption) ?rest323
  case hy323 => (intro w hSw; obtain p0 := hSw; go_simp; try with_reducible rfl)
  try simp only [Act.put, List.setIfInBounds_toArray, List.set_cons_zero, List.set_cons_succ]
  refine wpAnyH_take (i := 7) (oi := { dst := some 20, op := _, type := _, pos := _, after := _, guard := _ }) (v := ?v324) rfl (by kernel_rfl) (by kernel_rfl) (by kernel_rfl) (fun _ _ _ h => h) (Or.inl ⟨by rfl, ?hy324⟩) (by assumption) ?rest324
  case hy324 => (intro w hSw; obtain p0 := hSw; go_simp; try with_reducible rfl)
  try simp only [Act.put, List.setIfInBounds_toArray, List.set_cons_zero, List.set_cons_succ]
  refine wpAnyH_take (i := 8) (oi := { dst := some 21, op := _, type := _, pos := _, after := _, guard := _ }) (v := ?v325) rfl (by kernel_rfl) (by kernel_rfl) (by kernel_rfl) (fun _ _ _ h => h) (Or.inl ⟨by rfl, ?hy325⟩) (by assumption) ?rest325
  case hy325 => (intro w hSw; obtain p0 := hSw; go_simp; try with_reducible rfl)
  try simp only [Act.put, List.setIfInBounds_toArray, List.set_cons_zero, List.set_cons_succ]
  refine wpAnyH_take (i := 9) (oi := { dst := some 22, op := _, type := _, pos := _, after := _, guard := _ }) (v := ?v326) rfl (by kernel_rfl) (by kernel_rfl) (by kernel_rfl) (fun _ _ _ h => h) (Or.inl ⟨by rfl, ?hy326⟩) (by assumption) ?rest326
  case hy326 => (intro w hSw; obtain p0 := hSw; go_simp; try with_reducible rfl)
  try simp only [Act.put, List.setIfInBounds_toArray, List.set_cons_zero, List.set_cons_succ]
  refine wpAnyH_take (i := 10) (oi := { dst := some 23, op := _, type := _, pos := _, after := _, guard := _ }) (v := (.pointer (some ⟨gt, i, none⟩))) rfl (by kernel_rfl) (by kernel_rfl) (by kernel_rfl) (fun _ _ _ h => h) (Or.inl ⟨by rfl, ?hy327⟩) (by assumption) ?rest327
  case hy327 => (intro w hSw; obtain p0 := hSw; first | (go_simp; done) | (go_simp; simp [*]; done) | (simp [*]; go_simp; done))
  try simp only [Act.put, List.setIfInBounds_toArray, List.set_cons_zero, List.set_cons_succ]
  refine wpAnyH_take (i := 12) (oi := { dst := some 25, op := _, type := _, pos := _, after := _, guard := _ }) (v := ?v328) rfl (by kernel_rfl) (by kernel_rfl) (by kernel_rfl) (fun _ _ _ h => h) (Or.inl ⟨by rfl, ?hy328⟩) (by assumption) ?rest328
  case hy328 => (intro w hSw; obtain p0 := hSw; go_simp; try with_reducible rfl)
  try simp only [Act.put, List.setIfInBounds_toArray, List.set_cons_zero, List.set_cons_succ]
  refine wpAnyH_take (i := 13) (oi := { dst := some 26, op := _, type := _, pos := _, after := _, guard := _ }) (v := ?v329) rfl (by kernel_rfl) (by kernel_rfl) (by kernel_rfl) (fun _ _ _ h => h) (Or.inl ⟨by rfl, ?hy329⟩) (by assumption) ?rest329
  case hy329 => (intro w hSw; obtain p0 := hSw; go_simp; try with_reducible rfl)
  try simp only [Act.put, List.setIfInBounds_toArray, List.set_cons_zero, List.set_cons_succ]
  refine wpAnyH_take (i := 14) (oi := { dst := some 27, op := _, type := _, pos := _, after := _, guard := _ }) (v := (.int .i64 ((p : Int) + 1))) rfl (by kernel_rfl) (by kernel_rfl) (by kernel_rfl) (fun _ _ _ h => h) (Or.inl ⟨by rfl, ?hy330⟩) (by assumption) ?rest330
  case hy330 => (intro w hSw; obtain p0 := hSw; first | (go_simp; done) | (go_simp; simp [*]; done) | (simp [*]; go_simp; done))
  try simp only [Act.put, List.setIfInBounds_toArray, List.set_cons_zero, List.set_cons_succ]
  have cI := CI.out
  refine wpAnyH_ready (rs := [11]) (by kernel_rfl) (by simp) ?_
  refine AllReadyH.cons (o := { dst := some 24, op := _, type := _, pos := _, after := _, guard := _ }) rfl (fun K hK => ?_) AllReadyH.nil
  go_simp
  refine hK.out _ _ CR.out (fun hHeld => ?_)
  try simp only [Act.put, List.setIfInBounds_toArray, List.set_cons_zero, List.set_cons_succ]
  clear hK cI
  refine wpAnyH_ready (rs := [15]) (by kernel_rfl) (by simp) ?_
  refine AllReadyH.cons (o := { dst := some 28, op := _, type := _, pos := _, after := _, guard := _ }) rfl (fun K hK => ?_) AllReadyH.nil
  go_simp
  refine MD.out.mono ?_
  rintro _ w3 ⟨rfl, hd1, hd2⟩
  obtain ⟨⟨hL4, hF4⟩, d2, dT, dF⟩ := HD.out w3 hd1 hd2
  obtain ⟨W4, hW4⟩ : ∃ W4, w3.setCell ⟨gt, i, none⟩ (.slice (some ⟨gx, 0, none⟩) m cx) = W4 := ⟨_, rfl⟩
  rw [hW4] at hL4 hF4
  have HL4' := keep hL4
  have HF4 := keep hF4
  have C4 := keep (four hL4.1).2.2.1
  refine hK.out _ _ d2 (fun hHeld => ?_)
  try simp only [Act.put, List.setIfInBounds_toArray, List.set_cons_zero, List.set_cons_succ]
  clear hK hd1 hd2 hL4 hF4 MD HD CI CR
  refine wpAnyH_take (i := 16) (oi := { dst := some 29, op := _, type := _, pos := _, after := _, guard := _ }) (v := (.pointer (some ⟨gt, i, none⟩))) rfl (by kernel_rfl) (by kernel_rfl) (by kernel_rfl) (fun _ _ _ h => h) (Or.inl ⟨by rfl, ?hy331⟩) (by assumption) ?rest331
  case hy331 => (intro w hSw; first | (go_simp; done) | (go_simp; simp [*]; done) | (simp [*]; go_simp; done))
  try simp only [Act.put, List.setIfInBounds_toArray, List.set_cons_zero, List.set_cons_succ]
  refine wpAnyH_ready (rs := [17]) (by kernel_rfl) (by simp) ?_
  refine AllReadyH.cons (o := { dst := none, op := _, type := _, pos := _, after := _, guard := _ }) rfl (fun K hK => ?_) AllReadyH.nil
  go_simp
  try rw [hW4]
  refine hK.out _ _ C4.out (fun hHeld => ?_)
  try simp only [Act.put, List.setIfInBounds_toArray, List.set_cons_zero, List.set_cons_succ]
  clear hK
  refine wpAnyH_done (by kernel_rfl) ?_ _
  clear hHeld d2 dT dF
  have r4 := C4.out
  have q4 : W4.cell? ⟨gt, i, none⟩ = some (.slice (some ⟨gx, 0, none⟩) m cx) := by have := HL4'.out.2.1.at HST.out; unfold rwV at this; dsimp only at this; rw [HMY.out] at this; exact this
  by_cases hm0 : m = 0
  · subst hm0
    have hown : W4.ownsRow 0 41 1 (.slice (some ⟨gt, 0, none⟩) n c) n ((T.set i (gx, cx, my)).map rwV) := by have := HL4'.out.2.1.1; rw [HL4.out] at this; exact this
    have HIL' := HIL.out
    obtain ⟨m', hm'⟩ : ∃ m', n = m' + 1 := ⟨n - 1, by omega⟩
    have mE := delR_any W4 gt n m' c i _ hown hm' (by omega) rwVs_one
    have hP : ∀ W5, W5.ownsRow 0 41 1 (.slice (some ⟨gt, 0, none⟩) m' c) m' (((T.set i (gx, cx, my)).map rwV).take (i * 1) ++ ((T.set i (gx, cx, my)).map rwV).drop ((i + 1) * 1)) → Only gt W4 W5 →
        Chg R u0 u1 u3 (.slice (some ⟨gt, 0, none⟩) T.length c) T (l1 ++ l2) w (W5.setCell ⟨R, 2, none⟩ (.slice (some ⟨gt, 0, none⟩) m' c)) ∧ W5.cell? ⟨R, 2, none⟩ = some (.slice (some ⟨gt, 0, none⟩) n c) ∧ W5.frozen? ⟨R, 2, none⟩ = false := fun W5 h1 h2 => by
      have q1 := HL4'.out
      obtain ⟨s1, s2⟩ := Rws.cut (i := i) q1.2.1 (by rw [HL4.out]; exact HIL.out) (by rw [HL4.out]; exact hm') h1 h2
      have hRg : R ≠ gt := fun e => q1.2.2 (by rw [bl_some, e]; simp)
      have hR5 : W5.heap[R]? = W4.heap[R]? := h2.2.2 R hRg
      obtain ⟨t1, t2⟩ := q1.put hR5 s1 (fun hh => q1.2.2 (s2 R hh)) h2.1 (Nat.le_of_eq h2.2.1.symm) (fun k hk hkm => ⟨h2.2.2 k (fun e => hkm (by rw [bl_some, e]; simp)), fun hh => hkm (List.mem_cons.2 (.inr (s2 k hh)))⟩)
      have t3 := four (hR5.trans q1.1)
      have hmy0 : my = [] := List.length_eq_zero_iff.1 HMY.out
      rw [HLN.out]
      refine ⟨⟨_, _, t1, by rw [flat_erase HST.out hmy0]; exact HFL.out, fun u hu => ?_, HF4.out.trans t2⟩, t3.2.2.1, t3.2.2.2.2 2⟩
      have hus := (List.eraseIdx_sublist _ i).subset hu
      rw [List.eraseIdx_eq_take_drop_succ, List.take_set_of_le (Nat.le_refl _), List.drop_set_of_lt (by omega)] at hu
      rcases List.mem_append.1 hu with h | h
      · exact HG.out u (List.mem_of_mem_take h)
      · exact HG.out u (List.mem_of_mem_drop h)
    have ME := keep mE
    have HP := keep hP
    clear hown hm' mE hP HIL'
    go_wp2_with fail
    refine ME.out.mono ?_
    rintro _ W5 ⟨rfl, hd1, hd2⟩
    obtain ⟨z1, z2, z3⟩ := HP.out W5 hd1 hd2
    have Z1 := keep z1
    clear z1 hd1 hd2 ME HP
    go_wp2
    refine bodyPost_ret (results_none rfl _ _ _) rfl ?_
    exact ⟨rfl, Z1.out⟩
  · have hm1 : ((m : Int) == 0) = false := beq_eq_false_iff_ne.2 (by omega)
    have hm2 : ¬ m = 0 := hm0
    have mJ := join_any W4 R u0 u1 u3 _ (T.set i (gx, cx, my)) (i : Int) HL4'.out (HGM.out (by omega)) (by have := HTL.out; have := HIL.out; omega) (by rw [HL4.out]; exact HTL.out)
    have MJ := keep mJ
    clear mJ
    go_wp2_with fail
    refine MJ.out.mono ?_
    rintro _ w5 ⟨rfl, rv5, T5, s1, s2, s3, s4⟩
    have hn5 : T5.length ≤ 2000000 := Nat.le_trans (gd_len (fun x hx => (s3 x hx).1)) (by rw [s2]; exact HFF.out)
    have mJ := join_any w5 R u0 u1 u3 rv5 T5 ((i : Int) - 1) s1 s3 (by have := HTL.out; have := HIL.out; omega) hn5
    have MJ2 := keep mJ
    have S2 := keep s2
    have S4 := keep s4
    clear mJ MJ s1 s2 s3 s4 hn5
    go_wp2_with fail
    refine MJ2.out.mono ?_
    rintro _ w6 ⟨rfl, rv6, T6, s1, s2, s3, s4⟩
    have ZZ : Kept (Chg R u0 u1 u3 (.slice (some ⟨gt, 0, none⟩) T.length c) T (l1 ++ l2) w w6) := ⟨rv6, T6, s1, by rw [s2, S2.out]; exact HFL.out, s3, by rw [HLN.out]; exact (HF4.out.trans S4.out).trans s4⟩
    clear s1 s2 s3 s4 MJ2
    go_wp2
    go_end0
    exact ⟨rfl, ZZ.out⟩
end Go.Proofs.Ytapehjlpiobeaaa
