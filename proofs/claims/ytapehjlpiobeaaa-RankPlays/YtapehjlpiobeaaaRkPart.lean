/-
  Contracts over this program: part.
-/
import Derived.Test.YtapehjlpiobeaaaRkOut
namespace Go.Proofs.Ytapehjlpiobeaaa
open Go.RowKit Go.Shelf
set_option linter.unusedVariables false
set_option linter.unusedSimpArgs false
/-- one row gives way to two -/
theorem part_rows {w w1 w2 : World} {g n c g' c' i : Nat} {T : List Rw} {x a b : Rw} (h : Rws w (.slice (some ⟨g, 0, none⟩) n c) T) (hn : T.length = n) (hi : T[i]? = some x) (hb1 : Below w.heap.size w w1) (ha : Row w1 a) (hb : Row w1 b) (ha1 : w.heap.size ≤ a.1) (hb2 : w.heap.size ≤ b.1) (hab : a.1 ≠ b.1)
    (hr : w2.ownsRow 0 41 1 (.slice (some ⟨g', 0, none⟩) (n + 1) c') (n + 1) (rp (T.map rwV) i (rwV a) (rwV b))) (hg' : g' = g ∨ w1.heap.size ≤ g') (hgr : w1.grownBy w2 (some g)) :
    Rws w2 (.slice (some ⟨g', 0, none⟩) (n + 1) c') (T.take i ++ a :: b :: T.drop (i + 1)) ∧ ∀ k, k < w.heap.size → k ∉ bl (.slice (some ⟨g, 0, none⟩) n c) T → k ∉ bl (.slice (some ⟨g', 0, none⟩) (n + 1) c') (T.take i ++ a :: b :: T.drop (i + 1)) := by
  obtain ⟨e1, l1⟩ := split1 hi
  have hlt := h.lt
  rw [bl_some] at hlt
  have hnd := h.2.2
  rw [bl_some, List.nodup_cons] at hnd
  have hgl : g < w.heap.size := hlt g (by simp)
  have hmem : ∀ u ∈ T.take i ++ T.drop (i + 1), u ∈ T := fun u hu => by
    rcases List.mem_append.1 hu with h | h
    · exact List.mem_of_mem_take h
    · exact List.mem_of_mem_drop h
  have hsub : (T.take i ++ T.drop (i + 1)).Sublist T := by
    conv => rhs; rw [e1]
    exact List.Sublist.append (List.Sublist.refl _) (List.sublist_cons_self _ _)
  have hperm : (T.take i ++ a :: b :: T.drop (i + 1)).Perm (a :: b :: (T.take i ++ T.drop (i + 1))) := by
    refine List.perm_middle.trans (List.Perm.cons a ?_)
    exact List.perm_middle
  have hold : ∀ u ∈ T, u.1 < w.heap.size ∧ u.1 ≠ g := fun u hu => ⟨hlt u.1 (List.mem_cons.2 (.inr (List.mem_map.2 ⟨u, hu, rfl⟩))), fun e => hnd.1 (List.mem_map.2 ⟨u, hu, e⟩)⟩
  have hal := ha.lt
  have hbl := hb.lt
  refine ⟨⟨?_, fun u hu => ?_, ?_⟩, fun k hk hkm => ?_⟩
  · have e2 : (T.take i ++ a :: b :: T.drop (i + 1)).map rwV = rp (T.map rwV) i (rwV a) (rwV b) := by
      unfold rp
      rw [List.map_append, List.map_cons, List.map_cons, List.map_take, List.map_drop, List.append_assoc]; rfl
    have l2 : (T.take i ++ a :: b :: T.drop (i + 1)).length = n + 1 := by
      have hl := (List.getElem?_eq_some_iff.1 hi).1
      rw [List.length_append, l1, List.length_cons, List.length_cons, List.length_drop]; omega
    rw [e2, l2]
    exact hr
  · rcases List.mem_cons.1 ((hperm.mem_iff).1 hu) with rfl | hu
    · exact ha.kept (hgr.block _ hal (fun e => by have := Option.some.inj e; omega))
    · rcases List.mem_cons.1 hu with rfl | hu
      · exact hb.kept (hgr.block _ hbl (fun e => by have := Option.some.inj e; omega))
      · obtain ⟨q1, q2⟩ := hold u (hmem u hu)
        refine (h.2.1 u (hmem u hu)).kept ?_
        rw [hgr.block _ (Nat.lt_of_lt_of_le q1 hb1.size) (fun e => q2 (Option.some.inj e))]
        exact hb1.block _ q1
  · rw [bl_some, List.nodup_cons]
    refine ⟨fun hm => ?_, ?_⟩
    · obtain ⟨u, hu, e⟩ := List.mem_map.1 hm
      rcases List.mem_cons.1 ((hperm.mem_iff).1 hu) with rfl | hu
      · omega
      · rcases List.mem_cons.1 hu with rfl | hu
        · omega
        · obtain ⟨q1, q2⟩ := hold u (hmem u hu)
          have := hb1.size
          omega
    · rw [(hperm.map Prod.fst).nodup_iff, List.map_cons, List.map_cons, List.nodup_cons, List.nodup_cons]
      refine ⟨?_, ?_, (hsub.map _).nodup hnd.2⟩
      · rw [List.mem_cons, not_or]
        refine ⟨hab, fun hm => ?_⟩
        obtain ⟨u, hu, e⟩ := List.mem_map.1 hm
        have := (hold u (hmem u hu)).1
        omega
      · intro hm
        obtain ⟨u, hu, e⟩ := List.mem_map.1 hm
        have := (hold u (hmem u hu)).1
        omega
  · rw [bl_some] at hkm ⊢
    simp only [List.mem_cons, not_or] at hkm ⊢
    refine ⟨?_, fun hm => ?_⟩
    · rcases hg' with e | e
      · rw [e]; exact hkm.1
      · have := hb1.size; omega
    · obtain ⟨u, hu, e⟩ := List.mem_map.1 hm
      rcases List.mem_cons.1 ((hperm.mem_iff).1 hu) with rfl | hu
      · omega
      · rcases List.mem_cons.1 hu with rfl | hu
        · omega
        · exact hkm.2 (List.mem_map.2 ⟨u, hmem u hu, e⟩)
set_option maxRecDepth 100000 in
set_option maxHeartbeats 2000000 in
theorem part_any (w : World) (R : Nat) (u0 u1 u3 rv : Value) (T : List Rw) (i : Nat) (x : Rw) (hL : Lay w R u0 u1 u3 rv T) (hx : T[i]? = some x) (hG : ∀ u ∈ T, u ≠ x → u.2.2 ≠ [] ∧ u.2.2.length ≤ 1024) (hxl : x.2.2.length = 1025) (hn : T.length ≤ 2000000) :
    Calls Try.prog 75 #[.pointer (some ⟨R, 0, none⟩), .int .i64 i] w fun en w' => en = .returned (.tuple #[]) ∧ Same R u0 u1 u3 rv T w w' := by
  have hil : i < T.length := (List.getElem?_eq_some_iff.1 hx).1
  obtain ⟨gt, c, hrv, hc1, hc2⟩ := hL.2.1.form (by omega)
  subst hrv
  obtain ⟨n, hn'⟩ : ∃ n, T.length = n := ⟨_, rfl⟩
  have hL' := hL
  rw [hn'] at hL' hil hn
  obtain ⟨c0, c1, c2, c3, cf⟩ := four hL'.1
  have hcx := hL'.2.1.at hx
  have hRx := hL'.2.1.2.1 x (List.mem_of_getElem? hx)
  obtain ⟨gx, cx, mx⟩ := x
  unfold rwV at hcx
  dsimp only at hcx hxl
  rw [hxl] at hcx
  obtain ⟨i0', hi0', hz0, hz1, hz2⟩ := info_parts info_rk
  have uT := Try.underlying41
  have hown : w.ownsRow 0 46 2 (.slice (some ⟨gx, 0, none⟩) 1025 cx) 1025 (enR mx) := by have := hRx; unfold Row rwV at this; dsimp only at this; rw [hxl] at this; exact this
  obtain ⟨cur, hcur, hcc, hcm, hsz, htk, hxl2⟩ := own_cur hown
  have hs1 : ∀ w, (Instr.slice 41 (.slice (some ⟨gx, 0, none⟩) 1025 cx) none (some (.int .i64 512)) none).run Try.prog w = .ok (.slice (some ⟨gx, 0, none⟩) 512 cx) w := fun w => by
    rw [show (512 : Int) = ((512 : Nat) : Int) from rfl, slice_run w _ _ uT i0' hi0' ⟨gx, 0, none⟩ 1025 cx 0 512 cx _ _ _ (.inl ⟨rfl, rfl⟩) (.inr ⟨rfl, by omega⟩) (.inl ⟨rfl, rfl⟩)]
    rw [Nat.zero_mul, add_at, Nat.zero_add, ite_self]; rfl
  obtain ⟨cy, hcy⟩ : ∃ cy, cy = cx - 512 := ⟨_, rfl⟩
  have hs2 : ∀ w, (Instr.slice 41 (.slice (some ⟨gx, 0, none⟩) 1025 cx) (some (.int .i64 512)) none none).run Try.prog w = .ok (.slice (some ⟨gx, 1024, none⟩) 513 cy) w := fun w => by
    rw [show (512 : Int) = ((512 : Nat) : Int) from rfl, slice_run w _ _ uT i0' hi0' ⟨gx, 0, none⟩ 1025 cx 512 1025 cx _ _ _ (.inl ⟨rfl, rfl⟩) (.inl ⟨rfl, rfl, rfl⟩) (.inr ⟨rfl, by omega⟩), if_neg (by omega), hz1, add_at, ← hcy]
  have hl1 : (mx.take 512).length = 512 := by rw [List.length_take, hxl]; rfl
  have hl2 : (mx.drop 512).length = 513 := by rw [List.length_drop, hxl]
  have mC1 := clone_any w.drew gx 0 512 cx (enR (mx.take 512)) (by rw [enR_len, hl1]) (by omega) (fun j u hj => by
    rw [enR_take, List.getElem?_take] at hj
    split at hj
    · exact row_cells (w := w.drew) (a := 0) hcur htk j u (by simpa using hj)
    · cases hj) enR_one (by omega)
  have MC2 := keep (fun w1 (hb1 : Below w.drew.heap.size w.drew w1) => clone_any w1 gx 1024 513 cy (enR (mx.drop 512)) (by rw [enR_len, hl2]) (by omega) (fun j u hj => by
    rw [enR_drop] at hj
    have hc := row_cells (w := w.drew) (a := 512 * 2) hcur htk j u hj
    rw [add_at] at hc ⊢
    exact (hb1.cell (p := ⟨gx, 512 * 2 + j, none⟩) (World.block_lt_of_cell? _ _ hc)).trans hc) enR_one (by omega))
  have hw1 : IntKind.i64.wrap ((i : Int) + 1) = (i : Int) + 1 := by rw [IntKind.wrap_i64]; omega
  have i0 : (0 : Int) ≤ (i : Int) := by omega
  have i1 : (i : Int) < (n : Int) := by omega
  -- behind it
  have hP : ∀ (ga ca gb cb : Nat) (w1 w2 w3 : World) (g' c' : Nat), Below w.drew.heap.size w.drew w1 → w1.ownsRow 0 46 2 (.slice (some ⟨ga, 0, none⟩) 512 ca) 512 (enR (mx.take 512)) → w.heap.size ≤ ga →
      Below w1.heap.size w1 w2 → w2.ownsRow 0 46 2 (.slice (some ⟨gb, 0, none⟩) 513 cb) 513 (enR (mx.drop 512)) → w1.heap.size ≤ gb →
      w3.ownsRow 0 41 1 (.slice (some ⟨g', 0, none⟩) (n + 1) c') (n + 1) (rp (T.map rwV) i (.slice (some ⟨ga, 0, none⟩) 512 ca) (.slice (some ⟨gb, 0, none⟩) 513 cb)) → (g' = gt ∨ w2.heap.size ≤ g') → w2.grownBy w3 (some gt) →
      Same R u0 u1 u3 (.slice (some ⟨gt, 0, none⟩) T.length c) T w (w3.setCell ⟨R, 2, none⟩ (.slice (some ⟨g', 0, none⟩) (n + 1) c')) ∧ w3.cell? ⟨R, 2, none⟩ = some (.slice (some ⟨gt, 0, none⟩) n c) ∧ w3.frozen? ⟨R, 2, none⟩ = false := by
    intro ga ca gb cb w1 w2 w3 g' c' b1 o1 s1 b2 o2 s2 o3 s3 g3
    have b1' : Below w.heap.size w w1 := (Below.refl _ w).drew.trans b1
    have b12 : Below w.heap.size w w2 := Below.up b1' b2
    have ra : Row w2 (ga, ca, mx.take 512) := by
      have : Row w1 (ga, ca, mx.take 512) := by unfold Row rwV; dsimp only; rw [hl1]; exact o1
      exact this.kept (b2.block _ this.lt)
    have rb : Row w2 (gb, cb, mx.drop 512) := by unfold Row rwV; dsimp only; rw [hl2]; exact o2
    have ga1 : ga < w1.heap.size := (own_lt o1 (k := ga) rfl)
    have va : rwV (ga, ca, mx.take 512) = .slice (some ⟨ga, 0, none⟩) 512 ca := by unfold rwV; dsimp only; rw [hl1]
    have vb : rwV (gb, cb, mx.drop 512) = .slice (some ⟨gb, 0, none⟩) 513 cb := by unfold rwV; dsimp only; rw [hl2]
    have hb2s := b12.size
    obtain ⟨q1, q2⟩ := part_rows (w2 := w3) (a := (ga, ca, mx.take 512)) (b := (gb, cb, mx.drop 512)) hL'.2.1 hn' hx b12 ra rb s1 (by have := b1'.size; show w.heap.size ≤ gb; omega) (by show ga ≠ gb; omega) (by rw [va, vb]; exact o3) s3 g3
    have hRl : R < w.heap.size := hL'.lt R (by simp)
    have hRg : R ≠ gt := fun e => hL'.2.2 (by rw [bl_some, e]; simp)
    have hR3 : w3.heap[R]? = w.heap[R]? := by rw [g3.block R (by omega) (fun e => hRg (Option.some.inj e))]; exact b12.block R hRl
    obtain ⟨t1, t2⟩ := hL'.put hR3 q1 (q2 R hRl hL'.2.2) ⟨g3.os.trans b12.os, g3.tape.trans b12.tape, g3.output.trans b12.output⟩ (Nat.le_trans b12.size g3.size) (fun k hk hkm => by
      simp only [List.mem_cons, not_or] at hkm
      have hkg : k ≠ gt := fun e => hkm.2 (by rw [bl_some, e]; simp)
      exact ⟨by rw [g3.block k (by omega) (fun e => hkg (Option.some.inj e))]; exact b12.block k hk, q2 k hk hkm.2⟩)
    have t3 := four (hR3.trans hL'.1)
    rw [hn']
    refine ⟨⟨_, _, t1, ?_, fun u hu => ?_, t2⟩, t3.2.2.1, t3.2.2.2.2 2⟩
    · rw [flat_at hx, flat_app, flat_cons, flat_cons]
      dsimp only
      conv => rhs; rw [← List.take_append_drop 512 mx]
      simp only [List.append_assoc]
    · have hnd := hL'.2.1.2.2
      rw [bl_some, List.nodup_cons] at hnd
      have hother : ∀ j, j ≠ i → T[j]? = some u → u.2.2 ≠ [] ∧ u.2.2.length ≤ 1024 := fun j hj hu => by
        refine hG u (List.mem_of_getElem? hu) (fun e => ?_)
        have q1 : (T.map Prod.fst)[i]? = some gx := by rw [List.getElem?_map, hx]; rfl
        have q2 : (T.map Prod.fst)[j]? = some gx := by rw [List.getElem?_map, hu, e]; rfl
        exact hj ((List.getElem?_inj (List.getElem?_eq_some_iff.1 q2).1 hnd.2).1 (q2.trans q1.symm))
      rcases List.mem_append.1 hu with h | h
      · obtain ⟨j, hj⟩ := List.getElem?_of_mem h
        rw [List.getElem?_take] at hj
        split at hj
        · exact hother j (by omega) hj
        · cases hj
      · rcases List.mem_cons.1 h with rfl | h
        · exact ⟨fun e => (by have e : mx.take 512 = [] := e; rw [e] at hl1; cases hl1), by show (mx.take 512).length ≤ 1024; omega⟩
        · rcases List.mem_cons.1 h with rfl | h
          · exact ⟨fun e => (by have e : mx.drop 512 = [] := e; rw [e] at hl2; cases hl2), by show (mx.drop 512).length ≤ 1024; omega⟩
          · obtain ⟨j, hj⟩ := List.getElem?_of_mem h
            rw [List.getElem?_drop] at hj
            exact hother (i + 1 + j) (by omega) hj
  have HP := keep hP
  have MC1 := keep mC1
  have CR : Kept (w.drew.cell? ⟨R, 2, none⟩ = some (.slice (some ⟨gt, 0, none⟩) n c)) := c2
  have HL := keep hL'
  have HN := keep hn
  have HIL := keep hil
  have HN' := keep hn'
  clear hL hL' hx hG hxl hn hil hc1 hc2 hn' c0 c1 c3 cf hRx hown hcur hcc hcm hsz htk hxl2 hl1 hl2 mC1 hP hcy
  go_enter Try.func75, Try.ntmps75
  go_wp2_with fail
  refine wp_region_held_drew (S := fun _ => True) (by kernel_rfl) trivial (fun hHeld => ?_)
  refine wpAnyH_take (i := 0) (oi := { dst := some 12, op := _, type := _, pos := _, after := _, guard := _ }) (v := ?v332) rfl (by kernel_rfl) (by kernel_rfl) (by kernel_rfl) (fun _ _ _ h => h) (Or.inl ⟨by rfl, ?hy332⟩) (by assumption) ?rest332
  case hy332 => (intro w hSw; go_simp; try with_reducible rfl)
  try simp only [Act.put, List.setIfInBounds_toArray, List.set_cons_zero, List.set_cons_succ]
  refine wpAnyH_take (i := 1) (oi := { dst := some 13, op := _, type := _, pos := _, after := _, guard := _ }) (v := ?v333) rfl (by kernel_rfl) (by kernel_rfl) (by kernel_rfl) (fun _ _ _ h => h) (Or.inl ⟨by rfl, ?hy333⟩) (by assumption) ?rest333
  case hy333 => (intro w hSw; go_simp; try with_reducible rfl)
  try simp only [Act.put, List.setIfInBounds_toArray, List.set_cons_zero, List.set_cons_succ]
  refine wpAnyH_take (i := 2) (oi := { dst := some 14, op := _, type := _, pos := _, after := _, guard := _ }) (v := ?v334) rfl (by kernel_rfl) (by kernel_rfl) (by kernel_rfl) (fun _ _ _ h => h) (Or.inl ⟨by rfl, ?hy334⟩) (by assumption) ?rest334
  case hy334 => (intro w hSw; go_simp; try with_reducible rfl)
  try simp only [Act.put, List.setIfInBounds_toArray, List.set_cons_zero, List.set_cons_succ]
  refine wpAnyH_take (i := 3) (oi := { dst := some 15, op := _, type := _, pos := _, after := _, guard := _ }) (v := ?v335) rfl (by kernel_rfl) (by kernel_rfl) (by kernel_rfl) (fun _ _ _ h => h) (Or.inl ⟨by rfl, ?hy335⟩) (by assumption) ?rest335
  case hy335 => (intro w hSw; go_simp; try with_reducible rfl)
  try simp only [Act.put, List.setIfInBounds_toArray, List.set_cons_zero, List.set_cons_succ]
  refine wpAnyH_take (i := 5) (oi := { dst := some 17, op := _, type := _, pos := _, after := _, guard := _ }) (v := ?v336) rfl (by kernel_rfl) (by kernel_rfl) (by kernel_rfl) (fun _ _ _ h => h) (Or.inl ⟨by rfl, ?hy336⟩) (by assumption) ?rest336
  case hy336 => (intro w hSw; go_simp; try with_reducible rfl)
  try simp only [Act.put, List.setIfInBounds_toArray, List.set_cons_zero, List.set_cons_succ]
  refine wpAnyH_take (i := 6) (oi := { dst := some 18, op := _, type := _, pos := _, after := _, guard := _ }) (v := ?v337) rfl (by kernel_rfl) (by kernel_rfl) (by kernel_rfl) (fun _ _ _ h => h) (Or.inl ⟨by rfl, ?hy337⟩) (by assumption) ?rest337
  case hy337 => (intro w hSw; go_simp; try with_reducible rfl)
  try simp only [Act.put, List.setIfInBounds_toArray, List.set_cons_zero, List.set_cons_succ]
  refine wpAnyH_take (i := 7) (oi := { dst := some 19, op := _, type := _, pos := _, after := _, guard := _ }) (v := (.int .i64 ((i : Int) + 1))) rfl (by kernel_rfl) (by kernel_rfl) (by kernel_rfl) (fun _ _ _ h => h) (Or.inl ⟨by rfl, ?hy338⟩) (by assumption) ?rest338
  case hy338 => (intro w hSw; first | (go_simp; done) | (go_simp; simp [*]; done) | (simp [*]; go_simp; done))
  try simp only [Act.put, List.setIfInBounds_toArray, List.set_cons_zero, List.set_cons_succ]
  refine wpAnyH_take (i := 8) (oi := { dst := some 20, op := _, type := _, pos := _, after := _, guard := _ }) (v := ?v339) rfl (by kernel_rfl) (by kernel_rfl) (by kernel_rfl) (fun _ _ _ h => h) (Or.inl ⟨by rfl, ?hy339⟩) (by assumption) ?rest339
  case hy339 => (intro w hSw; go_simp; try with_reducible rfl)
  try simp only [Act.put, List.setIfInBounds_toArray, List.set_cons_zero, List.set_cons_succ]
  refine wpAnyH_take (i := 9) (oi := { dst := some 21, op := _, type := _, pos := _, after := _, guard := _ }) (v := (.slice (some ⟨gx, 0, none⟩) 512 cx)) rfl (by kernel_rfl) (by kernel_rfl) (by kernel_rfl) (fun _ _ _ h => h) (Or.inl ⟨by rfl, ?hy340⟩) (by assumption) ?rest340
  case hy340 => (intro w hSw; first | (go_simp; done) | (go_simp; simp [*]; done) | (simp [*]; go_simp; done))
  try simp only [Act.put, List.setIfInBounds_toArray, List.set_cons_zero, List.set_cons_succ]
  refine wpAnyH_take (i := 11) (oi := { dst := some 23, op := _, type := _, pos := _, after := _, guard := _ }) (v := ?v341) rfl (by kernel_rfl) (by kernel_rfl) (by kernel_rfl) (fun _ _ _ h => h) (Or.inl ⟨by rfl, ?hy341⟩) (by assumption) ?rest341
  case hy341 => (intro w hSw; go_simp; try with_reducible rfl)
  try simp only [Act.put, List.setIfInBounds_toArray, List.set_cons_zero, List.set_cons_succ]
  refine wpAnyH_take (i := 12) (oi := { dst := some 24, op := _, type := _, pos := _, after := _, guard := _ }) (v := (.slice (some ⟨gx, 1024, none⟩) 513 cy)) rfl (by kernel_rfl) (by kernel_rfl) (by kernel_rfl) (fun _ _ _ h => h) (Or.inl ⟨by rfl, ?hy342⟩) (by assumption) ?rest342
  case hy342 => (intro w hSw; first | (go_simp; done) | (go_simp; simp [*]; done) | (simp [*]; go_simp; done))
  try simp only [Act.put, List.setIfInBounds_toArray, List.set_cons_zero, List.set_cons_succ]
  refine wpAnyH_ready (rs := [4, 10]) (by kernel_rfl) (by simp) ?_
  refine AllReadyH.cons (o := { dst := some 16, op := _, type := _, pos := _, after := _, guard := _ }) rfl (fun K hK => ?_) (AllReadyH.cons (o := { dst := some 22, op := _, type := _, pos := _, after := _, guard := _ }) rfl (fun K hK => ?_) AllReadyH.nil)
  · have cL := CR.out
    go_simp
    refine hK.out _ _ trivial (fun hHeld => ?_)
    try simp only [Act.put, List.setIfInBounds_toArray, List.set_cons_zero, List.set_cons_succ]
    clear hK cL
    refine wpAnyH_ready (rs := [10]) (by kernel_rfl) (by simp) ?_
    refine AllReadyH.cons (o := { dst := some 22, op := _, type := _, pos := _, after := _, guard := _ }) rfl (fun K hK => ?_) AllReadyH.nil
    go_simp
    refine MC1.out.mono ?_
    rintro _ w1 ⟨ga, ca, rfl, o1, s1, b1⟩
    have MC2' := keep (MC2.out w1 b1)
    have O1 := keep o1
    have S1 := keep s1
    have B1 := keep b1
    have CR1 : Kept (w1.cell? ⟨R, 2, none⟩ = some (.slice (some ⟨gt, 0, none⟩) n c)) := (b1.cell (p := ⟨R, 2, none⟩) (World.block_lt_of_cell? _ _ CR.out)).trans CR.out
    clear o1 s1 b1 MC1 MC2
    refine hK.out _ _ trivial (fun hHeld => ?_)
    try simp only [Act.put, List.setIfInBounds_toArray, List.set_cons_zero, List.set_cons_succ]
    clear hK
    refine wpAnyH_ready (rs := [13]) (by kernel_rfl) (by simp) ?_
    refine AllReadyH.cons (o := { dst := some 25, op := _, type := _, pos := _, after := _, guard := _ }) rfl (fun K hK => ?_) AllReadyH.nil
    go_simp
    refine MC2'.out.mono ?_
    rintro _ w2 ⟨gb, cb, rfl, o2, s2, b2⟩
    have O2 := keep o2
    have S2 := keep s2
    have B2 := keep b2
    have CR2 : Kept (w2.cell? ⟨R, 2, none⟩ = some (.slice (some ⟨gt, 0, none⟩) n c)) := (b2.cell (p := ⟨R, 2, none⟩) (World.block_lt_of_cell? _ _ CR1.out)).trans CR1.out
    obtain ⟨W2, hW2⟩ : ∃ W2, w2.alloc (.cells #[.slice (some ⟨ga, 0, none⟩) 512 ca, .slice (some ⟨gb, 0, none⟩) 513 cb] 41) = W2 := ⟨_, rfl⟩
    have b3 : Below w2.heap.size w2 W2 := by rw [← hW2]; exact (Below.refl _ w2).alloc (Nat.le_refl _) _
    have hh2 : W2.heap[w2.heap.size]? = some (.cells #[.slice (some ⟨ga, 0, none⟩) 512 ca, .slice (some ⟨gb, 0, none⟩) 513 cb] 41 (0, 0)) := by rw [← hW2]; exact heap_alloc_new _ _
    have CR3 : Kept (W2.cell? ⟨R, 2, none⟩ = some (.slice (some ⟨gt, 0, none⟩) n c)) := (b3.cell (p := ⟨R, 2, none⟩) (World.block_lt_of_cell? _ _ CR2.out)).trans CR2.out
    have bw2 : Below w.heap.size w W2 := Below.up (Below.up ((Below.refl w.heap.size w).drew.trans B1.out) B2.out) b3
    have hL2 := HL.out.below bw2
    have hgt2 : gt < w2.heap.size := by
      have h1 := HL.out.lt gt (by rw [bl_some]; simp)
      have h2 := ((Below.refl w.heap.size w).drew.trans B1.out).size
      have h3 := B2.out.size
      omega
    have hown2 : W2.ownsRow 0 41 1 (.slice (some ⟨gt, 0, none⟩) n c) n (T.map rwV) := by have := hL2.2.1.1; rw [HN'.out] at this; exact this
    have MR := keep (rep_any W2 gt n c w2.heap.size i (T.map rwV) _ _ hown2 hh2 (by omega) HN.out HIL.out rwVs_one rfl rfl)
    have B3 := keep b3
    clear o2 s2 b2 MC2' b3 hh2 bw2 hL2 hgt2 hown2
    refine hK.out _ _ trivial (fun hHeld => ?_)
    try simp only [Act.put, List.setIfInBounds_toArray, List.set_cons_zero, List.set_cons_succ]
    clear hK
    refine wpAnyH_ready (rs := [14]) (by kernel_rfl) (by simp) ?_
    refine AllReadyH.cons (o := { dst := some 26, op := _, type := _, pos := _, after := _, guard := _ }) rfl (fun K hK => ?_) AllReadyH.nil
    go_simp
    try rw [hW2]
    refine hK.out _ _ trivial (fun hHeld => ?_)
    try simp only [Act.put, List.setIfInBounds_toArray, List.set_cons_zero, List.set_cons_succ]
    clear hK
    refine wpAnyH_ready (rs := [15]) (by kernel_rfl) (by simp) ?_
    refine AllReadyH.cons (o := { dst := some 27, op := _, type := _, pos := _, after := _, guard := _ }) rfl (fun K hK => ?_) AllReadyH.nil
    go_simp
    refine MR.out.mono ?_
    rintro _ w3 ⟨g', c', rfl, o3, s3, g3⟩
    have o2W : W2.ownsRow 0 46 2 (.slice (some ⟨gb, 0, none⟩) 513 cb) 513 _ := own_kept O2.out (fun k hk => B3.out.block k (own_lt O2.out hk))
    obtain ⟨z1, z2, z3⟩ := HP.out ga ca gb cb w1 W2 w3 g' c' B1.out O1.out S1.out (Below.up B2.out B3.out) o2W S2.out o3 s3 g3
    have Z1 := keep z1
    clear o3 s3 g3 o2W z1 MR HP
    refine hK.out _ _ trivial (fun hHeld => ?_)
    try simp only [Act.put, List.setIfInBounds_toArray, List.set_cons_zero, List.set_cons_succ]
    clear hK
    refine wpAnyH_take (i := 16) (oi := { dst := some 28, op := _, type := _, pos := _, after := _, guard := _ }) (v := ?v343) rfl (by kernel_rfl) (by kernel_rfl) (by kernel_rfl) (fun _ _ _ h => h) (Or.inl ⟨by rfl, ?hy343⟩) (by assumption) ?rest343
    case hy343 => (intro w hSw; go_simp; try with_reducible rfl)
    try simp only [Act.put, List.setIfInBounds_toArray, List.set_cons_zero, List.set_cons_succ]
    refine wpAnyH_take (i := 17) (oi := { dst := some 29, op := _, type := _, pos := _, after := _, guard := _ }) (v := ?v344) rfl (by kernel_rfl) (by kernel_rfl) (by kernel_rfl) (fun _ _ _ h => h) (Or.inl ⟨by rfl, ?hy344⟩) (by assumption) ?rest344
    case hy344 => (intro w hSw; go_simp; try with_reducible rfl)
    try simp only [Act.put, List.setIfInBounds_toArray, List.set_cons_zero, List.set_cons_succ]
    refine wpAnyH_ready (rs := [18]) (by kernel_rfl) (by simp) ?_
    refine AllReadyH.cons (o := { dst := none, op := _, type := _, pos := _, after := _, guard := _ }) rfl (fun K hK => ?_) AllReadyH.nil
    go_simp
    refine hK.out _ _ trivial (fun hHeld => ?_)
    try simp only [Act.put, List.setIfInBounds_toArray, List.set_cons_zero, List.set_cons_succ]
    clear hK
    refine wpAnyH_done (by kernel_rfl) ?_ _
    clear hHeld
    go_wp2
    go_end0
    exact ⟨rfl, Z1.out⟩
  · go_simp
    refine MC1.out.mono ?_
    rintro _ w1 ⟨ga, ca, rfl, o1, s1, b1⟩
    have MC2' := keep (MC2.out w1 b1)
    have O1 := keep o1
    have S1 := keep s1
    have B1 := keep b1
    have CR1 : Kept (w1.cell? ⟨R, 2, none⟩ = some (.slice (some ⟨gt, 0, none⟩) n c)) := (b1.cell (p := ⟨R, 2, none⟩) (World.block_lt_of_cell? _ _ CR.out)).trans CR.out
    clear o1 s1 b1 MC1 MC2
    refine hK.out _ _ trivial (fun hHeld => ?_)
    try simp only [Act.put, List.setIfInBounds_toArray, List.set_cons_zero, List.set_cons_succ]
    clear hK
    refine wpAnyH_ready (rs := [4, 13]) (by kernel_rfl) (by simp) ?_
    refine AllReadyH.cons (o := { dst := some 16, op := _, type := _, pos := _, after := _, guard := _ }) rfl (fun K hK => ?_) (AllReadyH.cons (o := { dst := some 25, op := _, type := _, pos := _, after := _, guard := _ }) rfl (fun K hK => ?_) AllReadyH.nil)
    · have cL := CR1.out
      go_simp
      refine hK.out _ _ trivial (fun hHeld => ?_)
      try simp only [Act.put, List.setIfInBounds_toArray, List.set_cons_zero, List.set_cons_succ]
      clear hK cL
      refine wpAnyH_ready (rs := [13]) (by kernel_rfl) (by simp) ?_
      refine AllReadyH.cons (o := { dst := some 25, op := _, type := _, pos := _, after := _, guard := _ }) rfl (fun K hK => ?_) AllReadyH.nil
      go_simp
      refine MC2'.out.mono ?_
      rintro _ w2 ⟨gb, cb, rfl, o2, s2, b2⟩
      have O2 := keep o2
      have S2 := keep s2
      have B2 := keep b2
      have CR2 : Kept (w2.cell? ⟨R, 2, none⟩ = some (.slice (some ⟨gt, 0, none⟩) n c)) := (b2.cell (p := ⟨R, 2, none⟩) (World.block_lt_of_cell? _ _ CR1.out)).trans CR1.out
      obtain ⟨W2, hW2⟩ : ∃ W2, w2.alloc (.cells #[.slice (some ⟨ga, 0, none⟩) 512 ca, .slice (some ⟨gb, 0, none⟩) 513 cb] 41) = W2 := ⟨_, rfl⟩
      have b3 : Below w2.heap.size w2 W2 := by rw [← hW2]; exact (Below.refl _ w2).alloc (Nat.le_refl _) _
      have hh2 : W2.heap[w2.heap.size]? = some (.cells #[.slice (some ⟨ga, 0, none⟩) 512 ca, .slice (some ⟨gb, 0, none⟩) 513 cb] 41 (0, 0)) := by rw [← hW2]; exact heap_alloc_new _ _
      have CR3 : Kept (W2.cell? ⟨R, 2, none⟩ = some (.slice (some ⟨gt, 0, none⟩) n c)) := (b3.cell (p := ⟨R, 2, none⟩) (World.block_lt_of_cell? _ _ CR2.out)).trans CR2.out
      have bw2 : Below w.heap.size w W2 := Below.up (Below.up ((Below.refl w.heap.size w).drew.trans B1.out) B2.out) b3
      have hL2 := HL.out.below bw2
      have hgt2 : gt < w2.heap.size := by
        have h1 := HL.out.lt gt (by rw [bl_some]; simp)
        have h2 := ((Below.refl w.heap.size w).drew.trans B1.out).size
        have h3 := B2.out.size
        omega
      have hown2 : W2.ownsRow 0 41 1 (.slice (some ⟨gt, 0, none⟩) n c) n (T.map rwV) := by have := hL2.2.1.1; rw [HN'.out] at this; exact this
      have MR := keep (rep_any W2 gt n c w2.heap.size i (T.map rwV) _ _ hown2 hh2 (by omega) HN.out HIL.out rwVs_one rfl rfl)
      have B3 := keep b3
      clear o2 s2 b2 MC2' b3 hh2 bw2 hL2 hgt2 hown2
      refine hK.out _ _ trivial (fun hHeld => ?_)
      try simp only [Act.put, List.setIfInBounds_toArray, List.set_cons_zero, List.set_cons_succ]
      clear hK
      refine wpAnyH_ready (rs := [14]) (by kernel_rfl) (by simp) ?_
      refine AllReadyH.cons (o := { dst := some 26, op := _, type := _, pos := _, after := _, guard := _ }) rfl (fun K hK => ?_) AllReadyH.nil
      go_simp
      try rw [hW2]
      refine hK.out _ _ trivial (fun hHeld => ?_)
      try simp only [Act.put, List.setIfInBounds_toArray, List.set_cons_zero, List.set_cons_succ]
      clear hK
      refine wpAnyH_ready (rs := [15]) (by kernel_rfl) (by simp) ?_
      refine AllReadyH.cons (o := { dst := some 27, op := _, type := _, pos := _, after := _, guard := _ }) rfl (fun K hK => ?_) AllReadyH.nil
      go_simp
      refine MR.out.mono ?_
      rintro _ w3 ⟨g', c', rfl, o3, s3, g3⟩
      have o2W : W2.ownsRow 0 46 2 (.slice (some ⟨gb, 0, none⟩) 513 cb) 513 _ := own_kept O2.out (fun k hk => B3.out.block k (own_lt O2.out hk))
      obtain ⟨z1, z2, z3⟩ := HP.out ga ca gb cb w1 W2 w3 g' c' B1.out O1.out S1.out (Below.up B2.out B3.out) o2W S2.out o3 s3 g3
      have Z1 := keep z1
      clear o3 s3 g3 o2W z1 MR HP
      refine hK.out _ _ trivial (fun hHeld => ?_)
      try simp only [Act.put, List.setIfInBounds_toArray, List.set_cons_zero, List.set_cons_succ]
      clear hK
      refine wpAnyH_take (i := 16) (oi := { dst := some 28, op := _, type := _, pos := _, after := _, guard := _ }) (v := ?v345) rfl (by kernel_rfl) (by kernel_rfl) (by kernel_rfl) (fun _ _ _ h => h) (Or.inl ⟨by rfl, ?hy345⟩) (by assumption) ?rest345
      case hy345 => (intro w hSw; go_simp; try with_reducible rfl)
      try simp only [Act.put, List.setIfInBounds_toArray, List.set_cons_zero, List.set_cons_succ]
      refine wpAnyH_take (i := 17) (oi := { dst := some 29, op := _, type := _, pos := _, after := _, guard := _ }) (v := ?v346) rfl (by kernel_rfl) (by kernel_rfl) (by kernel_rfl) (fun _ _ _ h => h) (Or.inl ⟨by rfl, ?hy346⟩) (by assumption) ?rest346
      case hy346 => (intro w hSw; go_simp; try with_reducible rfl)
      try simp only [Act.put, List.setIfInBounds_toArray, List.set_cons_zero, List.set_cons_succ]
      refine wpAnyH_ready (rs := [18]) (by kernel_rfl) (by simp) ?_
      refine AllReadyH.cons (o := { dst := none, op := _, type := _, pos := _, after := _, guard := _ }) rfl (fun K hK => ?_) AllReadyH.nil
      go_simp
      refine hK.out _ _ trivial (fun hHeld => ?_)
      try simp only [Act.put, List.setIfInBounds_toArray, List.set_cons_zero, List.set_cons_succ]
      clear hK
      refine wpAnyH_done (by kernel_rfl) ?_ _
      clear hHeld
      go_wp2
      go_end0
      exact ⟨rfl, Z1.out⟩
    · go_simp
      refine MC2'.out.mono ?_
      rintro _ w2 ⟨gb, cb, rfl, o2, s2, b2⟩
      have O2 := keep o2
      have S2 := keep s2
      have B2 := keep b2
      have CR2 : Kept (w2.cell? ⟨R, 2, none⟩ = some (.slice (some ⟨gt, 0, none⟩) n c)) := (b2.cell (p := ⟨R, 2, none⟩) (World.block_lt_of_cell? _ _ CR1.out)).trans CR1.out
      obtain ⟨W2, hW2⟩ : ∃ W2, w2.alloc (.cells #[.slice (some ⟨ga, 0, none⟩) 512 ca, .slice (some ⟨gb, 0, none⟩) 513 cb] 41) = W2 := ⟨_, rfl⟩
      have b3 : Below w2.heap.size w2 W2 := by rw [← hW2]; exact (Below.refl _ w2).alloc (Nat.le_refl _) _
      have hh2 : W2.heap[w2.heap.size]? = some (.cells #[.slice (some ⟨ga, 0, none⟩) 512 ca, .slice (some ⟨gb, 0, none⟩) 513 cb] 41 (0, 0)) := by rw [← hW2]; exact heap_alloc_new _ _
      have CR3 : Kept (W2.cell? ⟨R, 2, none⟩ = some (.slice (some ⟨gt, 0, none⟩) n c)) := (b3.cell (p := ⟨R, 2, none⟩) (World.block_lt_of_cell? _ _ CR2.out)).trans CR2.out
      have bw2 : Below w.heap.size w W2 := Below.up (Below.up ((Below.refl w.heap.size w).drew.trans B1.out) B2.out) b3
      have hL2 := HL.out.below bw2
      have hgt2 : gt < w2.heap.size := by
        have h1 := HL.out.lt gt (by rw [bl_some]; simp)
        have h2 := ((Below.refl w.heap.size w).drew.trans B1.out).size
        have h3 := B2.out.size
        omega
      have hown2 : W2.ownsRow 0 41 1 (.slice (some ⟨gt, 0, none⟩) n c) n (T.map rwV) := by have := hL2.2.1.1; rw [HN'.out] at this; exact this
      have MR := keep (rep_any W2 gt n c w2.heap.size i (T.map rwV) _ _ hown2 hh2 (by omega) HN.out HIL.out rwVs_one rfl rfl)
      have B3 := keep b3
      clear o2 s2 b2 MC2' b3 hh2 bw2 hL2 hgt2 hown2
      refine hK.out _ _ trivial (fun hHeld => ?_)
      try simp only [Act.put, List.setIfInBounds_toArray, List.set_cons_zero, List.set_cons_succ]
      clear hK
      refine wpAnyH_ready (rs := [4, 14]) (by kernel_rfl) (by simp) ?_
      refine AllReadyH.cons (o := { dst := some 16, op := _, type := _, pos := _, after := _, guard := _ }) rfl (fun K hK => ?_) (AllReadyH.cons (o := { dst := some 26, op := _, type := _, pos := _, after := _, guard := _ }) rfl (fun K hK => ?_) AllReadyH.nil)
      · have cL := CR2.out
        go_simp
        refine hK.out _ _ trivial (fun hHeld => ?_)
        try simp only [Act.put, List.setIfInBounds_toArray, List.set_cons_zero, List.set_cons_succ]
        clear hK cL
        refine wpAnyH_ready (rs := [14]) (by kernel_rfl) (by simp) ?_
        refine AllReadyH.cons (o := { dst := some 26, op := _, type := _, pos := _, after := _, guard := _ }) rfl (fun K hK => ?_) AllReadyH.nil
        go_simp
        try rw [hW2]
        refine hK.out _ _ trivial (fun hHeld => ?_)
        try simp only [Act.put, List.setIfInBounds_toArray, List.set_cons_zero, List.set_cons_succ]
        clear hK
        refine wpAnyH_ready (rs := [15]) (by kernel_rfl) (by simp) ?_
        refine AllReadyH.cons (o := { dst := some 27, op := _, type := _, pos := _, after := _, guard := _ }) rfl (fun K hK => ?_) AllReadyH.nil
        go_simp
        refine MR.out.mono ?_
        rintro _ w3 ⟨g', c', rfl, o3, s3, g3⟩
        have o2W : W2.ownsRow 0 46 2 (.slice (some ⟨gb, 0, none⟩) 513 cb) 513 _ := own_kept O2.out (fun k hk => B3.out.block k (own_lt O2.out hk))
        obtain ⟨z1, z2, z3⟩ := HP.out ga ca gb cb w1 W2 w3 g' c' B1.out O1.out S1.out (Below.up B2.out B3.out) o2W S2.out o3 s3 g3
        have Z1 := keep z1
        clear o3 s3 g3 o2W z1 MR HP
        refine hK.out _ _ trivial (fun hHeld => ?_)
        try simp only [Act.put, List.setIfInBounds_toArray, List.set_cons_zero, List.set_cons_succ]
        clear hK
        refine wpAnyH_take (i := 16) (oi := { dst := some 28, op := _, type := _, pos := _, after := _, guard := _ }) (v := ?v347) rfl (by kernel_rfl) (by kernel_rfl) (by kernel_rfl) (fun _ _ _ h => h) (Or.inl ⟨by rfl, ?hy347⟩) (by assumption) ?rest347
        case hy347 => (intro w hSw; go_simp; try with_reducible rfl)
        try simp only [Act.put, List.setIfInBounds_toArray, List.set_cons_zero, List.set_cons_succ]
        refine wpAnyH_take (i := 17) (oi := { dst := some 29, op := _, type := _, pos := _, after := _, guard := _ }) (v := ?v348) rfl (by kernel_rfl) (by kernel_rfl) (by kernel_rfl) (fun _ _ _ h => h) (Or.inl ⟨by rfl, ?hy348⟩) (by assumption) ?rest348
        case hy348 => (intro w hSw; go_simp; try with_reducible rfl)
        try simp only [Act.put, List.setIfInBounds_toArray, List.set_cons_zero, List.set_cons_succ]
        refine wpAnyH_ready (rs := [18]) (by kernel_rfl) (by simp) ?_
        refine AllReadyH.cons (o := { dst := none, op := _, type := _, pos := _, after := _, guard := _ }) rfl (fun K hK => ?_) AllReadyH.nil
        go_simp
        refine hK.out _ _ trivial (fun hHeld => ?_)
        try simp only [Act.put, List.setIfInBounds_toArray, List.set_cons_zero, List.set_cons_succ]
        clear hK
        refine wpAnyH_done (by kernel_rfl) ?_ _
        clear hHeld
        go_wp2
        go_end0
        exact ⟨rfl, Z1.out⟩
      · go_simp
        try rw [hW2]
        refine hK.out _ _ trivial (fun hHeld => ?_)
        try simp only [Act.put, List.setIfInBounds_toArray, List.set_cons_zero, List.set_cons_succ]
        clear hK
        have cL := CR3.out
        refine wpAnyH_ready (rs := [4]) (by kernel_rfl) (by simp) ?_
        refine AllReadyH.cons (o := { dst := some 16, op := _, type := _, pos := _, after := _, guard := _ }) rfl (fun K hK => ?_) AllReadyH.nil
        go_simp
        refine hK.out _ _ trivial (fun hHeld => ?_)
        try simp only [Act.put, List.setIfInBounds_toArray, List.set_cons_zero, List.set_cons_succ]
        clear hK cL
        refine wpAnyH_ready (rs := [15]) (by kernel_rfl) (by simp) ?_
        refine AllReadyH.cons (o := { dst := some 27, op := _, type := _, pos := _, after := _, guard := _ }) rfl (fun K hK => ?_) AllReadyH.nil
        go_simp
        refine MR.out.mono ?_
        rintro _ w3 ⟨g', c', rfl, o3, s3, g3⟩
        have o2W : W2.ownsRow 0 46 2 (.slice (some ⟨gb, 0, none⟩) 513 cb) 513 _ := own_kept O2.out (fun k hk => B3.out.block k (own_lt O2.out hk))
        obtain ⟨z1, z2, z3⟩ := HP.out ga ca gb cb w1 W2 w3 g' c' B1.out O1.out S1.out (Below.up B2.out B3.out) o2W S2.out o3 s3 g3
        have Z1 := keep z1
        clear o3 s3 g3 o2W z1 MR HP
        refine hK.out _ _ trivial (fun hHeld => ?_)
        try simp only [Act.put, List.setIfInBounds_toArray, List.set_cons_zero, List.set_cons_succ]
        clear hK
        refine wpAnyH_take (i := 16) (oi := { dst := some 28, op := _, type := _, pos := _, after := _, guard := _ }) (v := ?v349) rfl (by kernel_rfl) (by kernel_rfl) (by kernel_rfl) (fun _ _ _ h => h) (Or.inl ⟨by rfl, ?hy349⟩) (by assumption) ?rest349
        case hy349 => (intro w hSw; go_simp; try with_reducible rfl)
        try simp only [Act.put, List.setIfInBounds_toArray, List.set_cons_zero, List.set_cons_succ]
        refine wpAnyH_take (i := 17) (oi := { dst := some 29, op := _, type := _, pos := _, after := _, guard := _ }) (v := ?v350) rfl (by kernel_rfl) (by kernel_rfl) (by kernel_rfl) (fun _ _ _ h => h) (Or.inl ⟨by rfl, ?hy350⟩) (by assumption) ?rest350
        case hy350 => (intro w hSw; go_simp; try with_reducible rfl)
        try simp only [Act.put, List.setIfInBounds_toArray, List.set_cons_zero, List.set_cons_succ]
        refine wpAnyH_ready (rs := [18]) (by kernel_rfl) (by simp) ?_
        refine AllReadyH.cons (o := { dst := none, op := _, type := _, pos := _, after := _, guard := _ }) rfl (fun K hK => ?_) AllReadyH.nil
        go_simp
        refine hK.out _ _ trivial (fun hHeld => ?_)
        try simp only [Act.put, List.setIfInBounds_toArray, List.set_cons_zero, List.set_cons_succ]
        clear hK
        refine wpAnyH_done (by kernel_rfl) ?_ _
        clear hHeld
        go_wp2
        go_end0
        exact ⟨rfl, Z1.out⟩
end Go.Proofs.Ytapehjlpiobeaaa
