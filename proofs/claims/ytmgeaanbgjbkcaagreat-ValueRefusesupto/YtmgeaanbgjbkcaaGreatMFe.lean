/-
  Contracts over this program, put together.
-/
import Derived.Test.YtmgeaanbgjbkcaaGreatMFd
set_option maxHeartbeats 8000000
namespace Go.Proofs.YtmgeaanbgjbkcaaGreat.DF
open Go.RowKit Go.Shelf
set_option linter.unusedVariables false
set_option linter.unusedSimpArgs false
def Gd (T : List Rw) : Prop := ∀ x ∈ T, x.2.2 ≠ [] ∧ x.2.2.length ≤ 1024
theorem gd_len {T : List Rw} (h : ∀ x ∈ T, x.2.2 ≠ []) : T.length ≤ (flat T).length := by
  induction T with
  | nil => simp
  | cons x T ih =>
    rw [flat_cons, List.length_append, List.length_cons]
    have h1 : 0 < x.2.2.length := List.length_pos_iff.2 (h x (by simp))
    have h2 := ih (fun y hy => h y (by simp [hy]))
    omega
theorem split1 {T : List Rw} {i : Nat} {x : Rw} (h : T[i]? = some x) : T = T.take i ++ x :: T.drop (i + 1) ∧ (T.take i).length = i := by
  have hl := (List.getElem?_eq_some_iff.1 h).1
  exact ⟨by rw [← (List.getElem?_eq_some_iff.1 h).2, ← List.drop_eq_getElem_cons hl, List.take_append_drop], by rw [List.length_take]; omega⟩
def Same (R : Nat) (u0 u1 u3 rv : Value) (T : List Rw) (w w' : World) : Prop :=
  ∃ rv' T', Lay w' R u0 u1 u3 rv' T' ∧ flat T' = flat T ∧ Gd T' ∧ Fm (R :: bl rv T) w (R :: bl rv' T') w'
end Go.Proofs.YtmgeaanbgjbkcaaGreat.DF

namespace Go.Proofs.YtmgeaanbgjbkcaaGreat.DF
open Go.RowKit Go.Shelf
set_option linter.unusedVariables false
set_option linter.unusedSimpArgs false
def Chg (R : Nat) (u0 u1 u3 rv : Value) (T : List Rw) (L' : List Ent) (w w' : World) : Prop :=
  ∃ rv' T', Lay w' R u0 u1 u3 rv' T' ∧ flat T' = L' ∧ Gd T' ∧ Fm (R :: bl rv T) w (R :: bl rv' T') w'
theorem mo_ahd {l : List Ent} (hl : Ris l) {x : Ent} (hx : Num x) : Mo (fun e => ahd e x) l := by
  refine List.Pairwise.imp_of_mem ?_ hl.1
  intro a b ha hb hab h
  exact ahd_trans (hl.2 a ha) (hl.2 b hb) hx hab h
theorem flat_set {T : List Rw} {i : Nat} {x y : Rw} (h : T[i]? = some x) : flat (T.set i y) = flat (T.take i) ++ y.2.2 ++ flat (T.drop (i + 1)) := by
  have hl := (List.getElem?_eq_some_iff.1 h).1
  have h2 : (T.set i y)[i]? = some y := by rw [List.getElem?_set, if_pos rfl, if_pos hl]
  rw [flat_at h2, List.take_set_of_le (Nat.le_refl _), List.drop_set_of_lt (by omega)]
end Go.Proofs.YtmgeaanbgjbkcaaGreat.DF

namespace Go.Proofs.YtmgeaanbgjbkcaaGreat.DF
open Go.RowKit Go.Shelf
set_option linter.unusedVariables false
set_option linter.unusedSimpArgs false
theorem part_rows {w w1 w2 : World} {g n c g' c' i : Nat} {T : List Rw} {x a b : Rw} (h : Rws w (.slice (some ⟨g, 0, none⟩) n c) T) (hn : T.length = n) (hi : T[i]? = some x) (hb1 : Below w.heap.size w w1) (ha : Row w1 a) (hb : Row w1 b) (ha1 : w.heap.size ≤ a.1) (hb2 : w.heap.size ≤ b.1) (hab : a.1 ≠ b.1)
    (hr : w2.ownsRow 0 28 1 (.slice (some ⟨g', 0, none⟩) (n + 1) c') (n + 1) (rp (T.map rwV) i (rwV a) (rwV b))) (hg' : g' = g ∨ w1.heap.size ≤ g') (hgr : w1.grownBy w2 (some g)) :
    Rws w2 (.slice (some ⟨g', 0, none⟩) (n + 1) c') (T.take i ++ a :: b :: T.drop (i + 1)) ∧ ∀ k, k < w.heap.size → k ∉ bl (.slice (some ⟨g, 0, none⟩) n c) T → k ∉ bl (.slice (some ⟨g', 0, none⟩) (n + 1) c') (T.take i ++ a :: b :: T.drop (i + 1)) := by
  obtain ⟨e1, l1⟩ := split1 hi
  have hlt := h.lt
  rw [bl_some] at hlt
  have hnd := h.2.2
  rw [bl_some, List.nodup_cons] at hnd
  have hgl : g < w.heap.size := hlt g (by simp)
  have hmem : ∀ u ∈ T.take i ++ T.drop (i + 1), u ∈ T := fun u hu => by
    rcases List.mem_append.1 hu with h | h
    · exact List.mem_of_mem_take h
    · exact List.mem_of_mem_drop h
  have hsub : (T.take i ++ T.drop (i + 1)).Sublist T := by
    conv => rhs; rw [e1]
    exact List.Sublist.append (List.Sublist.refl _) (List.sublist_cons_self _ _)
  have hperm : (T.take i ++ a :: b :: T.drop (i + 1)).Perm (a :: b :: (T.take i ++ T.drop (i + 1))) := by
    refine List.perm_middle.trans (List.Perm.cons a ?_)
    exact List.perm_middle
  have hold : ∀ u ∈ T, u.1 < w.heap.size ∧ u.1 ≠ g := fun u hu => ⟨hlt u.1 (List.mem_cons.2 (.inr (List.mem_map.2 ⟨u, hu, rfl⟩))), fun e => hnd.1 (List.mem_map.2 ⟨u, hu, e⟩)⟩
  have hal := ha.lt
  have hbl := hb.lt
  refine ⟨⟨?_, fun u hu => ?_, ?_⟩, fun k hk hkm => ?_⟩
  · have e2 : (T.take i ++ a :: b :: T.drop (i + 1)).map rwV = rp (T.map rwV) i (rwV a) (rwV b) := by
      unfold rp
      rw [List.map_append, List.map_cons, List.map_cons, List.map_take, List.map_drop, List.append_assoc]; rfl
    have l2 : (T.take i ++ a :: b :: T.drop (i + 1)).length = n + 1 := by
      have hl := (List.getElem?_eq_some_iff.1 hi).1
      rw [List.length_append, l1, List.length_cons, List.length_cons, List.length_drop]; omega
    rw [e2, l2]
    exact hr
  · rcases List.mem_cons.1 ((hperm.mem_iff).1 hu) with rfl | hu
    · exact ha.kept (hgr.block _ hal (fun e => by have := Option.some.inj e; omega))
    · rcases List.mem_cons.1 hu with rfl | hu
      · exact hb.kept (hgr.block _ hbl (fun e => by have := Option.some.inj e; omega))
      · obtain ⟨q1, q2⟩ := hold u (hmem u hu)
        refine (h.2.1 u (hmem u hu)).kept ?_
        rw [hgr.block _ (Nat.lt_of_lt_of_le q1 hb1.size) (fun e => q2 (Option.some.inj e))]
        exact hb1.block _ q1
  · rw [bl_some, List.nodup_cons]
    refine ⟨fun hm => ?_, ?_⟩
    · obtain ⟨u, hu, e⟩ := List.mem_map.1 hm
      rcases List.mem_cons.1 ((hperm.mem_iff).1 hu) with rfl | hu
      · omega
      · rcases List.mem_cons.1 hu with rfl | hu
        · omega
        · obtain ⟨q1, q2⟩ := hold u (hmem u hu)
          have := hb1.size
          omega
    · rw [(hperm.map Prod.fst).nodup_iff, List.map_cons, List.map_cons, List.nodup_cons, List.nodup_cons]
      refine ⟨?_, ?_, (hsub.map _).nodup hnd.2⟩
      · rw [List.mem_cons, not_or]
        refine ⟨hab, fun hm => ?_⟩
        obtain ⟨u, hu, e⟩ := List.mem_map.1 hm
        have := (hold u (hmem u hu)).1
        omega
      · intro hm
        obtain ⟨u, hu, e⟩ := List.mem_map.1 hm
        have := (hold u (hmem u hu)).1
        omega
  · rw [bl_some] at hkm ⊢
    simp only [List.mem_cons, not_or] at hkm ⊢
    refine ⟨?_, fun hm => ?_⟩
    · rcases hg' with e | e
      · rw [e]; exact hkm.1
      · have := hb1.size; omega
    · obtain ⟨u, hu, e⟩ := List.mem_map.1 hm
      rcases List.mem_cons.1 ((hperm.mem_iff).1 hu) with rfl | hu
      · omega
      · rcases List.mem_cons.1 hu with rfl | hu
        · omega
        · exact hkm.2 (List.mem_map.2 ⟨u, hmem u hu, e⟩)
set_option maxRecDepth 100000 in
theorem part_any (w : World) (R : Nat) (u0 u1 u3 rv : Value) (T : List Rw) (i : Nat) (x : Rw) (hL : Lay w R u0 u1 u3 rv T) (hx : T[i]? = some x) (hG : ∀ u ∈ T, u ≠ x → u.2.2 ≠ [] ∧ u.2.2.length ≤ 1024) (hxl : x.2.2.length = 1025) (hn : T.length ≤ 2000000) :
    Calls Tryz.prog 218 #[.pointer (some ⟨R, 0, none⟩), .int .i64 i] w fun en w' => en = .returned (.tuple #[]) ∧ Same R u0 u1 u3 rv T w w' := by
  have hil : i < T.length := (List.getElem?_eq_some_iff.1 hx).1
  obtain ⟨gt, c, hrv, hc1, hc2⟩ := hL.2.1.form (by omega)
  subst hrv
  obtain ⟨n, hn'⟩ : ∃ n, T.length = n := ⟨_, rfl⟩
  have hL' := hL
  rw [hn'] at hL' hil hn
  obtain ⟨c0, c1, c2, c3, cf⟩ := four hL'.1
  have hcx := hL'.2.1.at hx
  have hRx := hL'.2.1.2.1 x (List.mem_of_getElem? hx)
  obtain ⟨gx, cx, mx⟩ := x
  unfold rwV at hcx
  dsimp only at hcx hxl
  rw [hxl] at hcx
  obtain ⟨i0', hi0', hz0, hz1, hz2⟩ := info_parts info_rk
  have uT := Tryz.underlying28
  have hown : w.ownsRow 0 73 2 (.slice (some ⟨gx, 0, none⟩) 1025 cx) 1025 (enR mx) := by have := hRx; unfold Row rwV at this; dsimp only at this; rw [hxl] at this; exact this
  obtain ⟨cur, hcur, hcc, hcm, hsz, htk, hxl2⟩ := own_cur hown
  have hs1 : ∀ w, (Instr.slice 28 (.slice (some ⟨gx, 0, none⟩) 1025 cx) none (some (.int .i64 512)) none).run Tryz.prog w = .ok (.slice (some ⟨gx, 0, none⟩) 512 cx) w := fun w => by
    rw [show (512 : Int) = ((512 : Nat) : Int) from rfl, slice_run w _ _ uT i0' hi0' ⟨gx, 0, none⟩ 1025 cx 0 512 cx _ _ _ (.inl ⟨rfl, rfl⟩) (.inr ⟨rfl, by omega⟩) (.inl ⟨rfl, rfl⟩)]
    rw [Nat.zero_mul, add_at, Nat.zero_add, ite_self]; rfl
  obtain ⟨cy, hcy⟩ : ∃ cy, cy = cx - 512 := ⟨_, rfl⟩
  have hs2 : ∀ w, (Instr.slice 28 (.slice (some ⟨gx, 0, none⟩) 1025 cx) (some (.int .i64 512)) none none).run Tryz.prog w = .ok (.slice (some ⟨gx, 1024, none⟩) 513 cy) w := fun w => by
    rw [show (512 : Int) = ((512 : Nat) : Int) from rfl, slice_run w _ _ uT i0' hi0' ⟨gx, 0, none⟩ 1025 cx 512 1025 cx _ _ _ (.inl ⟨rfl, rfl⟩) (.inl ⟨rfl, rfl, rfl⟩) (.inr ⟨rfl, by omega⟩), if_neg (by omega), hz1, add_at, ← hcy]
  have hl1 : (mx.take 512).length = 512 := by rw [List.length_take, hxl]; rfl
  have hl2 : (mx.drop 512).length = 513 := by rw [List.length_drop, hxl]
  have mC1 := clone_any w.drew gx 0 512 cx (enR (mx.take 512)) (by rw [enR_len, hl1]) (by omega) (fun j u hj => by
    rw [enR_take, List.getElem?_take] at hj
    split at hj
    · exact row_cells (w := w.drew) (a := 0) hcur htk j u (by simpa using hj)
    · cases hj) enR_one (by omega)
  have MC2 := keep (fun w1 (hb1 : Below w.drew.heap.size w.drew w1) => clone_any w1 gx 1024 513 cy (enR (mx.drop 512)) (by rw [enR_len, hl2]) (by omega) (fun j u hj => by
    rw [enR_drop] at hj
    have hc := row_cells (w := w.drew) (a := 512 * 2) hcur htk j u hj
    rw [add_at] at hc ⊢
    exact (hb1.cell (p := ⟨gx, 512 * 2 + j, none⟩) (World.block_lt_of_cell? _ _ hc)).trans hc) enR_one (by omega))
  have hw1 : IntKind.i64.wrap ((i : Int) + 1) = (i : Int) + 1 := by rw [IntKind.wrap_i64]; omega
  have i0 : (0 : Int) ≤ (i : Int) := by omega
  have i1 : (i : Int) < (n : Int) := by omega
  -- behind it
  have hP : ∀ (ga ca gb cb : Nat) (w1 w2 w3 : World) (g' c' : Nat), Below w.drew.heap.size w.drew w1 → w1.ownsRow 0 73 2 (.slice (some ⟨ga, 0, none⟩) 512 ca) 512 (enR (mx.take 512)) → w.heap.size ≤ ga →
      Below w1.heap.size w1 w2 → w2.ownsRow 0 73 2 (.slice (some ⟨gb, 0, none⟩) 513 cb) 513 (enR (mx.drop 512)) → w1.heap.size ≤ gb →
      w3.ownsRow 0 28 1 (.slice (some ⟨g', 0, none⟩) (n + 1) c') (n + 1) (rp (T.map rwV) i (.slice (some ⟨ga, 0, none⟩) 512 ca) (.slice (some ⟨gb, 0, none⟩) 513 cb)) → (g' = gt ∨ w2.heap.size ≤ g') → w2.grownBy w3 (some gt) →
      Same R u0 u1 u3 (.slice (some ⟨gt, 0, none⟩) T.length c) T w (w3.setCell ⟨R, 2, none⟩ (.slice (some ⟨g', 0, none⟩) (n + 1) c')) ∧ w3.cell? ⟨R, 2, none⟩ = some (.slice (some ⟨gt, 0, none⟩) n c) ∧ w3.frozen? ⟨R, 2, none⟩ = false := by
    intro ga ca gb cb w1 w2 w3 g' c' b1 o1 s1 b2 o2 s2 o3 s3 g3
    have b1' : Below w.heap.size w w1 := (Below.refl _ w).drew.trans b1
    have b12 : Below w.heap.size w w2 := Below.up b1' b2
    have ra : Row w2 (ga, ca, mx.take 512) := by
      have : Row w1 (ga, ca, mx.take 512) := by unfold Row rwV; dsimp only; rw [hl1]; exact o1
      exact this.kept (b2.block _ this.lt)
    have rb : Row w2 (gb, cb, mx.drop 512) := by unfold Row rwV; dsimp only; rw [hl2]; exact o2
    have ga1 : ga < w1.heap.size := (own_lt o1 (k := ga) rfl)
    have va : rwV (ga, ca, mx.take 512) = .slice (some ⟨ga, 0, none⟩) 512 ca := by unfold rwV; dsimp only; rw [hl1]
    have vb : rwV (gb, cb, mx.drop 512) = .slice (some ⟨gb, 0, none⟩) 513 cb := by unfold rwV; dsimp only; rw [hl2]
    have hb2s := b12.size
    obtain ⟨q1, q2⟩ := part_rows (w2 := w3) (a := (ga, ca, mx.take 512)) (b := (gb, cb, mx.drop 512)) hL'.2.1 hn' hx b12 ra rb s1 (by have := b1'.size; show w.heap.size ≤ gb; omega) (by show ga ≠ gb; omega) (by rw [va, vb]; exact o3) s3 g3
    have hRl : R < w.heap.size := hL'.lt R (by simp)
    have hRg : R ≠ gt := fun e => hL'.2.2 (by rw [bl_some, e]; simp)
    have hR3 : w3.heap[R]? = w.heap[R]? := by rw [g3.block R (by omega) (fun e => hRg (Option.some.inj e))]; exact b12.block R hRl
    obtain ⟨t1, t2⟩ := hL'.put hR3 q1 (q2 R hRl hL'.2.2) ⟨g3.os.trans b12.os, g3.tape.trans b12.tape, g3.output.trans b12.output⟩ (Nat.le_trans b12.size g3.size) (fun k hk hkm => by
      simp only [List.mem_cons, not_or] at hkm
      have hkg : k ≠ gt := fun e => hkm.2 (by rw [bl_some, e]; simp)
      exact ⟨by rw [g3.block k (by omega) (fun e => hkg (Option.some.inj e))]; exact b12.block k hk, q2 k hk hkm.2⟩)
    have t3 := four (hR3.trans hL'.1)
    rw [hn']
    refine ⟨⟨_, _, t1, ?_, fun u hu => ?_, t2⟩, t3.2.2.1, t3.2.2.2.2 2⟩
    · rw [flat_at hx, flat_app, flat_cons, flat_cons]
      dsimp only
      conv => rhs; rw [← List.take_append_drop 512 mx]
      simp only [List.append_assoc]
    · have hnd := hL'.2.1.2.2
      rw [bl_some, List.nodup_cons] at hnd
      have hother : ∀ j, j ≠ i → T[j]? = some u → u.2.2 ≠ [] ∧ u.2.2.length ≤ 1024 := fun j hj hu => by
        refine hG u (List.mem_of_getElem? hu) (fun e => ?_)
        have q1 : (T.map Prod.fst)[i]? = some gx := by rw [List.getElem?_map, hx]; rfl
        have q2 : (T.map Prod.fst)[j]? = some gx := by rw [List.getElem?_map, hu, e]; rfl
        exact hj ((List.getElem?_inj (List.getElem?_eq_some_iff.1 q2).1 hnd.2).1 (q2.trans q1.symm))
      rcases List.mem_append.1 hu with h | h
      · obtain ⟨j, hj⟩ := List.getElem?_of_mem h
        rw [List.getElem?_take] at hj
        split at hj
        · exact hother j (by omega) hj
        · cases hj
      · rcases List.mem_cons.1 h with rfl | h
        · exact ⟨fun e => (by have e : mx.take 512 = [] := e; rw [e] at hl1; cases hl1), by show (mx.take 512).length ≤ 1024; omega⟩
        · rcases List.mem_cons.1 h with rfl | h
          · exact ⟨fun e => (by have e : mx.drop 512 = [] := e; rw [e] at hl2; cases hl2), by show (mx.drop 512).length ≤ 1024; omega⟩
          · obtain ⟨j, hj⟩ := List.getElem?_of_mem h
            rw [List.getElem?_drop] at hj
            exact hother (i + 1 + j) (by omega) hj
  have HP := keep hP
  have MC1 := keep mC1
  have CR : Kept (w.drew.cell? ⟨R, 2, none⟩ = some (.slice (some ⟨gt, 0, none⟩) n c)) := c2
  have HL := keep hL'
  have HN := keep hn
  have HIL := keep hil
  have HN' := keep hn'
  clear hL hL' hx hG hxl hn hil hc1 hc2 hn' c0 c1 c3 cf hRx hown hcur hcc hcm hsz htk hxl2 hl1 hl2 mC1 hP hcy
  go_enter Tryz.func218, Tryz.ntmps218
  go_wp2_with fail
  refine wp_region_held_drew (S := fun _ => True) (by kernel_rfl) trivial (fun hHeld => ?_)
  refine wpAnyH_take (i := 0) (oi := ⟨some 12, _, _, _, _, _⟩) (v := ?v254) rfl (by kernel_rfl) (by kernel_rfl) (by kernel_rfl) (fun _ _ _ h => h) (Or.inl ⟨by rfl, ?hy254⟩) (by assumption) ?rest254
  case hy254 => (intro w hSw; go_simp; try with_reducible rfl)
  try simp only [Act.put, List.setIfInBounds_toArray, List.set_cons_zero, List.set_cons_succ]
  refine wpAnyH_take (i := 1) (oi := ⟨some 13, _, _, _, _, _⟩) (v := ?v255) rfl (by kernel_rfl) (by kernel_rfl) (by kernel_rfl) (fun _ _ _ h => h) (Or.inl ⟨by rfl, ?hy255⟩) (by assumption) ?rest255
  case hy255 => (intro w hSw; go_simp; try with_reducible rfl)
  try simp only [Act.put, List.setIfInBounds_toArray, List.set_cons_zero, List.set_cons_succ]
  refine wpAnyH_take (i := 2) (oi := ⟨some 14, _, _, _, _, _⟩) (v := ?v256) rfl (by kernel_rfl) (by kernel_rfl) (by kernel_rfl) (fun _ _ _ h => h) (Or.inl ⟨by rfl, ?hy256⟩) (by assumption) ?rest256
  case hy256 => (intro w hSw; go_simp; try with_reducible rfl)
  try simp only [Act.put, List.setIfInBounds_toArray, List.set_cons_zero, List.set_cons_succ]
  refine wpAnyH_take (i := 3) (oi := ⟨some 15, _, _, _, _, _⟩) (v := ?v257) rfl (by kernel_rfl) (by kernel_rfl) (by kernel_rfl) (fun _ _ _ h => h) (Or.inl ⟨by rfl, ?hy257⟩) (by assumption) ?rest257
  case hy257 => (intro w hSw; go_simp; try with_reducible rfl)
  try simp only [Act.put, List.setIfInBounds_toArray, List.set_cons_zero, List.set_cons_succ]
  refine wpAnyH_take (i := 5) (oi := ⟨some 17, _, _, _, _, _⟩) (v := ?v258) rfl (by kernel_rfl) (by kernel_rfl) (by kernel_rfl) (fun _ _ _ h => h) (Or.inl ⟨by rfl, ?hy258⟩) (by assumption) ?rest258
  case hy258 => (intro w hSw; go_simp; try with_reducible rfl)
  try simp only [Act.put, List.setIfInBounds_toArray, List.set_cons_zero, List.set_cons_succ]
  refine wpAnyH_take (i := 6) (oi := ⟨some 18, _, _, _, _, _⟩) (v := ?v259) rfl (by kernel_rfl) (by kernel_rfl) (by kernel_rfl) (fun _ _ _ h => h) (Or.inl ⟨by rfl, ?hy259⟩) (by assumption) ?rest259
  case hy259 => (intro w hSw; go_simp; try with_reducible rfl)
  try simp only [Act.put, List.setIfInBounds_toArray, List.set_cons_zero, List.set_cons_succ]
  refine wpAnyH_take (i := 7) (oi := ⟨some 19, _, _, _, _, _⟩) (v := (.int .i64 ((i : Int) + 1))) rfl (by kernel_rfl) (by kernel_rfl) (by kernel_rfl) (fun _ _ _ h => h) (Or.inl ⟨by rfl, ?hy260⟩) (by assumption) ?rest260
  case hy260 => (intro w hSw; first | (go_simp; done) | (go_simp; simp [*]; done) | (simp [*]; go_simp; done))
  try simp only [Act.put, List.setIfInBounds_toArray, List.set_cons_zero, List.set_cons_succ]
  refine wpAnyH_take (i := 8) (oi := ⟨some 20, _, _, _, _, _⟩) (v := ?v261) rfl (by kernel_rfl) (by kernel_rfl) (by kernel_rfl) (fun _ _ _ h => h) (Or.inl ⟨by rfl, ?hy261⟩) (by assumption) ?rest261
  case hy261 => (intro w hSw; go_simp; try with_reducible rfl)
  try simp only [Act.put, List.setIfInBounds_toArray, List.set_cons_zero, List.set_cons_succ]
  refine wpAnyH_take (i := 9) (oi := ⟨some 21, _, _, _, _, _⟩) (v := (.slice (some ⟨gx, 0, none⟩) 512 cx)) rfl (by kernel_rfl) (by kernel_rfl) (by kernel_rfl) (fun _ _ _ h => h) (Or.inl ⟨by rfl, ?hy262⟩) (by assumption) ?rest262
  case hy262 => (intro w hSw; first | (go_simp; done) | (go_simp; simp [*]; done) | (simp [*]; go_simp; done))
  try simp only [Act.put, List.setIfInBounds_toArray, List.set_cons_zero, List.set_cons_succ]
  refine wpAnyH_take (i := 11) (oi := ⟨some 23, _, _, _, _, _⟩) (v := ?v263) rfl (by kernel_rfl) (by kernel_rfl) (by kernel_rfl) (fun _ _ _ h => h) (Or.inl ⟨by rfl, ?hy263⟩) (by assumption) ?rest263
  case hy263 => (intro w hSw; go_simp; try with_reducible rfl)
  try simp only [Act.put, List.setIfInBounds_toArray, List.set_cons_zero, List.set_cons_succ]
  refine wpAnyH_take (i := 12) (oi := ⟨some 24, _, _, _, _, _⟩) (v := (.slice (some ⟨gx, 1024, none⟩) 513 cy)) rfl (by kernel_rfl) (by kernel_rfl) (by kernel_rfl) (fun _ _ _ h => h) (Or.inl ⟨by rfl, ?hy264⟩) (by assumption) ?rest264
  case hy264 => (intro w hSw; first | (go_simp; done) | (go_simp; simp [*]; done) | (simp [*]; go_simp; done))
  try simp only [Act.put, List.setIfInBounds_toArray, List.set_cons_zero, List.set_cons_succ]
  refine wpAnyH_ready (rs := [4, 10]) (by kernel_rfl) (by simp) ?_
  refine AllReadyH.cons (o := ⟨some 16, _, _, _, _, _⟩) rfl (fun K hK => ?_) (AllReadyH.cons (o := ⟨some 22, _, _, _, _, _⟩) rfl (fun K hK => ?_) AllReadyH.nil)
  · have cL := CR.out
    go_simp
    refine hK.out _ _ trivial (fun hHeld => ?_)
    try simp only [Act.put, List.setIfInBounds_toArray, List.set_cons_zero, List.set_cons_succ]
    clear hK cL
    refine wpAnyH_ready (rs := [10]) (by kernel_rfl) (by simp) ?_
    refine AllReadyH.cons (o := ⟨some 22, _, _, _, _, _⟩) rfl (fun K hK => ?_) AllReadyH.nil
    go_simp
    refine MC1.out.mono ?_
    rintro _ w1 ⟨ga, ca, rfl, o1, s1, b1⟩
    have MC2' := keep (MC2.out w1 b1)
    have O1 := keep o1
    have S1 := keep s1
    have B1 := keep b1
    have CR1 : Kept (w1.cell? ⟨R, 2, none⟩ = some (.slice (some ⟨gt, 0, none⟩) n c)) := (b1.cell (p := ⟨R, 2, none⟩) (World.block_lt_of_cell? _ _ CR.out)).trans CR.out
    clear o1 s1 b1 MC1 MC2
    refine hK.out _ _ trivial (fun hHeld => ?_)
    try simp only [Act.put, List.setIfInBounds_toArray, List.set_cons_zero, List.set_cons_succ]
    clear hK
    refine wpAnyH_ready (rs := [13]) (by kernel_rfl) (by simp) ?_
    refine AllReadyH.cons (o := ⟨some 25, _, _, _, _, _⟩) rfl (fun K hK => ?_) AllReadyH.nil
    go_simp
    refine MC2'.out.mono ?_
    rintro _ w2 ⟨gb, cb, rfl, o2, s2, b2⟩
    have O2 := keep o2
    have S2 := keep s2
    have B2 := keep b2
    have CR2 : Kept (w2.cell? ⟨R, 2, none⟩ = some (.slice (some ⟨gt, 0, none⟩) n c)) := (b2.cell (p := ⟨R, 2, none⟩) (World.block_lt_of_cell? _ _ CR1.out)).trans CR1.out
    obtain ⟨W2, hW2⟩ : ∃ W2, w2.alloc (.cells #[.slice (some ⟨ga, 0, none⟩) 512 ca, .slice (some ⟨gb, 0, none⟩) 513 cb] 28) = W2 := ⟨_, rfl⟩
    have b3 : Below w2.heap.size w2 W2 := by rw [← hW2]; exact (Below.refl _ w2).alloc (Nat.le_refl _) _
    have hh2 : W2.heap[w2.heap.size]? = some (.cells #[.slice (some ⟨ga, 0, none⟩) 512 ca, .slice (some ⟨gb, 0, none⟩) 513 cb] 28 (0, 0)) := by rw [← hW2]; exact heap_alloc_new _ _
    have CR3 : Kept (W2.cell? ⟨R, 2, none⟩ = some (.slice (some ⟨gt, 0, none⟩) n c)) := (b3.cell (p := ⟨R, 2, none⟩) (World.block_lt_of_cell? _ _ CR2.out)).trans CR2.out
    have bw2 : Below w.heap.size w W2 := Below.up (Below.up ((Below.refl w.heap.size w).drew.trans B1.out) B2.out) b3
    have hL2 := HL.out.below bw2
    have hgt2 : gt < w2.heap.size := by
      have h1 := HL.out.lt gt (by rw [bl_some]; simp)
      have h2 := ((Below.refl w.heap.size w).drew.trans B1.out).size
      have h3 := B2.out.size
      omega
    have hown2 : W2.ownsRow 0 28 1 (.slice (some ⟨gt, 0, none⟩) n c) n (T.map rwV) := by have := hL2.2.1.1; rw [HN'.out] at this; exact this
    have MR := keep (rep_any W2 gt n c w2.heap.size i (T.map rwV) _ _ hown2 hh2 (by omega) HN.out HIL.out rwVs_one rfl rfl)
    have B3 := keep b3
    clear o2 s2 b2 MC2' b3 hh2 bw2 hL2 hgt2 hown2
    refine hK.out _ _ trivial (fun hHeld => ?_)
    try simp only [Act.put, List.setIfInBounds_toArray, List.set_cons_zero, List.set_cons_succ]
    clear hK
    refine wpAnyH_ready (rs := [14]) (by kernel_rfl) (by simp) ?_
    refine AllReadyH.cons (o := ⟨some 26, _, _, _, _, _⟩) rfl (fun K hK => ?_) AllReadyH.nil
    go_simp
    try rw [hW2]
    refine hK.out _ _ trivial (fun hHeld => ?_)
    try simp only [Act.put, List.setIfInBounds_toArray, List.set_cons_zero, List.set_cons_succ]
    clear hK
    refine wpAnyH_ready (rs := [15]) (by kernel_rfl) (by simp) ?_
    refine AllReadyH.cons (o := ⟨some 27, _, _, _, _, _⟩) rfl (fun K hK => ?_) AllReadyH.nil
    go_simp
    refine MR.out.mono ?_
    rintro _ w3 ⟨g', c', rfl, o3, s3, g3⟩
    have o2W : W2.ownsRow 0 73 2 (.slice (some ⟨gb, 0, none⟩) 513 cb) 513 _ := own_kept O2.out (fun k hk => B3.out.block k (own_lt O2.out hk))
    obtain ⟨z1, z2, z3⟩ := HP.out ga ca gb cb w1 W2 w3 g' c' B1.out O1.out S1.out (Below.up B2.out B3.out) o2W S2.out o3 s3 g3
    have Z1 := keep z1
    clear o3 s3 g3 o2W z1 MR HP
    refine hK.out _ _ trivial (fun hHeld => ?_)
    try simp only [Act.put, List.setIfInBounds_toArray, List.set_cons_zero, List.set_cons_succ]
    clear hK
    refine wpAnyH_take (i := 16) (oi := ⟨some 28, _, _, _, _, _⟩) (v := ?v265) rfl (by kernel_rfl) (by kernel_rfl) (by kernel_rfl) (fun _ _ _ h => h) (Or.inl ⟨by rfl, ?hy265⟩) (by assumption) ?rest265
    case hy265 => (intro w hSw; go_simp; try with_reducible rfl)
    try simp only [Act.put, List.setIfInBounds_toArray, List.set_cons_zero, List.set_cons_succ]
    refine wpAnyH_take (i := 17) (oi := ⟨some 29, _, _, _, _, _⟩) (v := ?v266) rfl (by kernel_rfl) (by kernel_rfl) (by kernel_rfl) (fun _ _ _ h => h) (Or.inl ⟨by rfl, ?hy266⟩) (by assumption) ?rest266
    case hy266 => (intro w hSw; go_simp; try with_reducible rfl)
    try simp only [Act.put, List.setIfInBounds_toArray, List.set_cons_zero, List.set_cons_succ]
    refine wpAnyH_ready (rs := [18]) (by kernel_rfl) (by simp) ?_
    refine AllReadyH.cons (o := ⟨none, _, _, _, _, _⟩) rfl (fun K hK => ?_) AllReadyH.nil
    go_simp
    refine hK.out _ _ trivial (fun hHeld => ?_)
    try simp only [Act.put, List.setIfInBounds_toArray, List.set_cons_zero, List.set_cons_succ]
    clear hK
    refine wpAnyH_done (by kernel_rfl) ?_ _
    clear hHeld
    go_wp2
    go_end0
    exact ⟨rfl, Z1.out⟩
  · go_simp
    refine MC1.out.mono ?_
    rintro _ w1 ⟨ga, ca, rfl, o1, s1, b1⟩
    have MC2' := keep (MC2.out w1 b1)
    have O1 := keep o1
    have S1 := keep s1
    have B1 := keep b1
    have CR1 : Kept (w1.cell? ⟨R, 2, none⟩ = some (.slice (some ⟨gt, 0, none⟩) n c)) := (b1.cell (p := ⟨R, 2, none⟩) (World.block_lt_of_cell? _ _ CR.out)).trans CR.out
    clear o1 s1 b1 MC1 MC2
    refine hK.out _ _ trivial (fun hHeld => ?_)
    try simp only [Act.put, List.setIfInBounds_toArray, List.set_cons_zero, List.set_cons_succ]
    clear hK
    refine wpAnyH_ready (rs := [4, 13]) (by kernel_rfl) (by simp) ?_
    refine AllReadyH.cons (o := ⟨some 16, _, _, _, _, _⟩) rfl (fun K hK => ?_) (AllReadyH.cons (o := ⟨some 25, _, _, _, _, _⟩) rfl (fun K hK => ?_) AllReadyH.nil)
    · have cL := CR1.out
      go_simp
      refine hK.out _ _ trivial (fun hHeld => ?_)
      try simp only [Act.put, List.setIfInBounds_toArray, List.set_cons_zero, List.set_cons_succ]
      clear hK cL
      refine wpAnyH_ready (rs := [13]) (by kernel_rfl) (by simp) ?_
      refine AllReadyH.cons (o := ⟨some 25, _, _, _, _, _⟩) rfl (fun K hK => ?_) AllReadyH.nil
      go_simp
      refine MC2'.out.mono ?_
      rintro _ w2 ⟨gb, cb, rfl, o2, s2, b2⟩
      have O2 := keep o2
      have S2 := keep s2
      have B2 := keep b2
      have CR2 : Kept (w2.cell? ⟨R, 2, none⟩ = some (.slice (some ⟨gt, 0, none⟩) n c)) := (b2.cell (p := ⟨R, 2, none⟩) (World.block_lt_of_cell? _ _ CR1.out)).trans CR1.out
      obtain ⟨W2, hW2⟩ : ∃ W2, w2.alloc (.cells #[.slice (some ⟨ga, 0, none⟩) 512 ca, .slice (some ⟨gb, 0, none⟩) 513 cb] 28) = W2 := ⟨_, rfl⟩
      have b3 : Below w2.heap.size w2 W2 := by rw [← hW2]; exact (Below.refl _ w2).alloc (Nat.le_refl _) _
      have hh2 : W2.heap[w2.heap.size]? = some (.cells #[.slice (some ⟨ga, 0, none⟩) 512 ca, .slice (some ⟨gb, 0, none⟩) 513 cb] 28 (0, 0)) := by rw [← hW2]; exact heap_alloc_new _ _
      have CR3 : Kept (W2.cell? ⟨R, 2, none⟩ = some (.slice (some ⟨gt, 0, none⟩) n c)) := (b3.cell (p := ⟨R, 2, none⟩) (World.block_lt_of_cell? _ _ CR2.out)).trans CR2.out
      have bw2 : Below w.heap.size w W2 := Below.up (Below.up ((Below.refl w.heap.size w).drew.trans B1.out) B2.out) b3
      have hL2 := HL.out.below bw2
      have hgt2 : gt < w2.heap.size := by
        have h1 := HL.out.lt gt (by rw [bl_some]; simp)
        have h2 := ((Below.refl w.heap.size w).drew.trans B1.out).size
        have h3 := B2.out.size
        omega
      have hown2 : W2.ownsRow 0 28 1 (.slice (some ⟨gt, 0, none⟩) n c) n (T.map rwV) := by have := hL2.2.1.1; rw [HN'.out] at this; exact this
      have MR := keep (rep_any W2 gt n c w2.heap.size i (T.map rwV) _ _ hown2 hh2 (by omega) HN.out HIL.out rwVs_one rfl rfl)
      have B3 := keep b3
      clear o2 s2 b2 MC2' b3 hh2 bw2 hL2 hgt2 hown2
      refine hK.out _ _ trivial (fun hHeld => ?_)
      try simp only [Act.put, List.setIfInBounds_toArray, List.set_cons_zero, List.set_cons_succ]
      clear hK
      refine wpAnyH_ready (rs := [14]) (by kernel_rfl) (by simp) ?_
      refine AllReadyH.cons (o := ⟨some 26, _, _, _, _, _⟩) rfl (fun K hK => ?_) AllReadyH.nil
      go_simp
      try rw [hW2]
      refine hK.out _ _ trivial (fun hHeld => ?_)
      try simp only [Act.put, List.setIfInBounds_toArray, List.set_cons_zero, List.set_cons_succ]
      clear hK
      refine wpAnyH_ready (rs := [15]) (by kernel_rfl) (by simp) ?_
      refine AllReadyH.cons (o := ⟨some 27, _, _, _, _, _⟩) rfl (fun K hK => ?_) AllReadyH.nil
      go_simp
      refine MR.out.mono ?_
      rintro _ w3 ⟨g', c', rfl, o3, s3, g3⟩
      have o2W : W2.ownsRow 0 73 2 (.slice (some ⟨gb, 0, none⟩) 513 cb) 513 _ := own_kept O2.out (fun k hk => B3.out.block k (own_lt O2.out hk))
      obtain ⟨z1, z2, z3⟩ := HP.out ga ca gb cb w1 W2 w3 g' c' B1.out O1.out S1.out (Below.up B2.out B3.out) o2W S2.out o3 s3 g3
      have Z1 := keep z1
      clear o3 s3 g3 o2W z1 MR HP
      refine hK.out _ _ trivial (fun hHeld => ?_)
      try simp only [Act.put, List.setIfInBounds_toArray, List.set_cons_zero, List.set_cons_succ]
      clear hK
      refine wpAnyH_take (i := 16) (oi := ⟨some 28, _, _, _, _, _⟩) (v := ?v267) rfl (by kernel_rfl) (by kernel_rfl) (by kernel_rfl) (fun _ _ _ h => h) (Or.inl ⟨by rfl, ?hy267⟩) (by assumption) ?rest267
      case hy267 => (intro w hSw; go_simp; try with_reducible rfl)
      try simp only [Act.put, List.setIfInBounds_toArray, List.set_cons_zero, List.set_cons_succ]
      refine wpAnyH_take (i := 17) (oi := ⟨some 29, _, _, _, _, _⟩) (v := ?v268) rfl (by kernel_rfl) (by kernel_rfl) (by kernel_rfl) (fun _ _ _ h => h) (Or.inl ⟨by rfl, ?hy268⟩) (by assumption) ?rest268
      case hy268 => (intro w hSw; go_simp; try with_reducible rfl)
      try simp only [Act.put, List.setIfInBounds_toArray, List.set_cons_zero, List.set_cons_succ]
      refine wpAnyH_ready (rs := [18]) (by kernel_rfl) (by simp) ?_
      refine AllReadyH.cons (o := ⟨none, _, _, _, _, _⟩) rfl (fun K hK => ?_) AllReadyH.nil
      go_simp
      refine hK.out _ _ trivial (fun hHeld => ?_)
      try simp only [Act.put, List.setIfInBounds_toArray, List.set_cons_zero, List.set_cons_succ]
      clear hK
      refine wpAnyH_done (by kernel_rfl) ?_ _
      clear hHeld
      go_wp2
      go_end0
      exact ⟨rfl, Z1.out⟩
    · go_simp
      refine MC2'.out.mono ?_
      rintro _ w2 ⟨gb, cb, rfl, o2, s2, b2⟩
      have O2 := keep o2
      have S2 := keep s2
      have B2 := keep b2
      have CR2 : Kept (w2.cell? ⟨R, 2, none⟩ = some (.slice (some ⟨gt, 0, none⟩) n c)) := (b2.cell (p := ⟨R, 2, none⟩) (World.block_lt_of_cell? _ _ CR1.out)).trans CR1.out
      obtain ⟨W2, hW2⟩ : ∃ W2, w2.alloc (.cells #[.slice (some ⟨ga, 0, none⟩) 512 ca, .slice (some ⟨gb, 0, none⟩) 513 cb] 28) = W2 := ⟨_, rfl⟩
      have b3 : Below w2.heap.size w2 W2 := by rw [← hW2]; exact (Below.refl _ w2).alloc (Nat.le_refl _) _
      have hh2 : W2.heap[w2.heap.size]? = some (.cells #[.slice (some ⟨ga, 0, none⟩) 512 ca, .slice (some ⟨gb, 0, none⟩) 513 cb] 28 (0, 0)) := by rw [← hW2]; exact heap_alloc_new _ _
      have CR3 : Kept (W2.cell? ⟨R, 2, none⟩ = some (.slice (some ⟨gt, 0, none⟩) n c)) := (b3.cell (p := ⟨R, 2, none⟩) (World.block_lt_of_cell? _ _ CR2.out)).trans CR2.out
      have bw2 : Below w.heap.size w W2 := Below.up (Below.up ((Below.refl w.heap.size w).drew.trans B1.out) B2.out) b3
      have hL2 := HL.out.below bw2
      have hgt2 : gt < w2.heap.size := by
        have h1 := HL.out.lt gt (by rw [bl_some]; simp)
        have h2 := ((Below.refl w.heap.size w).drew.trans B1.out).size
        have h3 := B2.out.size
        omega
      have hown2 : W2.ownsRow 0 28 1 (.slice (some ⟨gt, 0, none⟩) n c) n (T.map rwV) := by have := hL2.2.1.1; rw [HN'.out] at this; exact this
      have MR := keep (rep_any W2 gt n c w2.heap.size i (T.map rwV) _ _ hown2 hh2 (by omega) HN.out HIL.out rwVs_one rfl rfl)
      have B3 := keep b3
      clear o2 s2 b2 MC2' b3 hh2 bw2 hL2 hgt2 hown2
      refine hK.out _ _ trivial (fun hHeld => ?_)
      try simp only [Act.put, List.setIfInBounds_toArray, List.set_cons_zero, List.set_cons_succ]
      clear hK
      refine wpAnyH_ready (rs := [4, 14]) (by kernel_rfl) (by simp) ?_
      refine AllReadyH.cons (o := ⟨some 16, _, _, _, _, _⟩) rfl (fun K hK => ?_) (AllReadyH.cons (o := ⟨some 26, _, _, _, _, _⟩) rfl (fun K hK => ?_) AllReadyH.nil)
      · have cL := CR2.out
        go_simp
        refine hK.out _ _ trivial (fun hHeld => ?_)
        try simp only [Act.put, List.setIfInBounds_toArray, List.set_cons_zero, List.set_cons_succ]
        clear hK cL
        refine wpAnyH_ready (rs := [14]) (by kernel_rfl) (by simp) ?_
        refine AllReadyH.cons (o := ⟨some 26, _, _, _, _, _⟩) rfl (fun K hK => ?_) AllReadyH.nil
        go_simp
        try rw [hW2]
        refine hK.out _ _ trivial (fun hHeld => ?_)
        try simp only [Act.put, List.setIfInBounds_toArray, List.set_cons_zero, List.set_cons_succ]
        clear hK
        refine wpAnyH_ready (rs := [15]) (by kernel_rfl) (by simp) ?_
        refine AllReadyH.cons (o := ⟨some 27, _, _, _, _, _⟩) rfl (fun K hK => ?_) AllReadyH.nil
        go_simp
        refine MR.out.mono ?_
        rintro _ w3 ⟨g', c', rfl, o3, s3, g3⟩
        have o2W : W2.ownsRow 0 73 2 (.slice (some ⟨gb, 0, none⟩) 513 cb) 513 _ := own_kept O2.out (fun k hk => B3.out.block k (own_lt O2.out hk))
        obtain ⟨z1, z2, z3⟩ := HP.out ga ca gb cb w1 W2 w3 g' c' B1.out O1.out S1.out (Below.up B2.out B3.out) o2W S2.out o3 s3 g3
        have Z1 := keep z1
        clear o3 s3 g3 o2W z1 MR HP
        refine hK.out _ _ trivial (fun hHeld => ?_)
        try simp only [Act.put, List.setIfInBounds_toArray, List.set_cons_zero, List.set_cons_succ]
        clear hK
        refine wpAnyH_take (i := 16) (oi := ⟨some 28, _, _, _, _, _⟩) (v := ?v269) rfl (by kernel_rfl) (by kernel_rfl) (by kernel_rfl) (fun _ _ _ h => h) (Or.inl ⟨by rfl, ?hy269⟩) (by assumption) ?rest269
        case hy269 => (intro w hSw; go_simp; try with_reducible rfl)
        try simp only [Act.put, List.setIfInBounds_toArray, List.set_cons_zero, List.set_cons_succ]
        refine wpAnyH_take (i := 17) (oi := ⟨some 29, _, _, _, _, _⟩) (v := ?v270) rfl (by kernel_rfl) (by kernel_rfl) (by kernel_rfl) (fun _ _ _ h => h) (Or.inl ⟨by rfl, ?hy270⟩) (by assumption) ?rest270
        case hy270 => (intro w hSw; go_simp; try with_reducible rfl)
        try simp only [Act.put, List.setIfInBounds_toArray, List.set_cons_zero, List.set_cons_succ]
        refine wpAnyH_ready (rs := [18]) (by kernel_rfl) (by simp) ?_
        refine AllReadyH.cons (o := ⟨none, _, _, _, _, _⟩) rfl (fun K hK => ?_) AllReadyH.nil
        go_simp
        refine hK.out _ _ trivial (fun hHeld => ?_)
        try simp only [Act.put, List.setIfInBounds_toArray, List.set_cons_zero, List.set_cons_succ]
        clear hK
        refine wpAnyH_done (by kernel_rfl) ?_ _
        clear hHeld
        go_wp2
        go_end0
        exact ⟨rfl, Z1.out⟩
      · go_simp
        try rw [hW2]
        refine hK.out _ _ trivial (fun hHeld => ?_)
        try simp only [Act.put, List.setIfInBounds_toArray, List.set_cons_zero, List.set_cons_succ]
        clear hK
        have cL := CR3.out
        refine wpAnyH_ready (rs := [4]) (by kernel_rfl) (by simp) ?_
        refine AllReadyH.cons (o := ⟨some 16, _, _, _, _, _⟩) rfl (fun K hK => ?_) AllReadyH.nil
        go_simp
        refine hK.out _ _ trivial (fun hHeld => ?_)
        try simp only [Act.put, List.setIfInBounds_toArray, List.set_cons_zero, List.set_cons_succ]
        clear hK cL
        refine wpAnyH_ready (rs := [15]) (by kernel_rfl) (by simp) ?_
        refine AllReadyH.cons (o := ⟨some 27, _, _, _, _, _⟩) rfl (fun K hK => ?_) AllReadyH.nil
        go_simp
        refine MR.out.mono ?_
        rintro _ w3 ⟨g', c', rfl, o3, s3, g3⟩
        have o2W : W2.ownsRow 0 73 2 (.slice (some ⟨gb, 0, none⟩) 513 cb) 513 _ := own_kept O2.out (fun k hk => B3.out.block k (own_lt O2.out hk))
        obtain ⟨z1, z2, z3⟩ := HP.out ga ca gb cb w1 W2 w3 g' c' B1.out O1.out S1.out (Below.up B2.out B3.out) o2W S2.out o3 s3 g3
        have Z1 := keep z1
        clear o3 s3 g3 o2W z1 MR HP
        refine hK.out _ _ trivial (fun hHeld => ?_)
        try simp only [Act.put, List.setIfInBounds_toArray, List.set_cons_zero, List.set_cons_succ]
        clear hK
        refine wpAnyH_take (i := 16) (oi := ⟨some 28, _, _, _, _, _⟩) (v := ?v271) rfl (by kernel_rfl) (by kernel_rfl) (by kernel_rfl) (fun _ _ _ h => h) (Or.inl ⟨by rfl, ?hy271⟩) (by assumption) ?rest271
        case hy271 => (intro w hSw; go_simp; try with_reducible rfl)
        try simp only [Act.put, List.setIfInBounds_toArray, List.set_cons_zero, List.set_cons_succ]
        refine wpAnyH_take (i := 17) (oi := ⟨some 29, _, _, _, _, _⟩) (v := ?v272) rfl (by kernel_rfl) (by kernel_rfl) (by kernel_rfl) (fun _ _ _ h => h) (Or.inl ⟨by rfl, ?hy272⟩) (by assumption) ?rest272
        case hy272 => (intro w hSw; go_simp; try with_reducible rfl)
        try simp only [Act.put, List.setIfInBounds_toArray, List.set_cons_zero, List.set_cons_succ]
        refine wpAnyH_ready (rs := [18]) (by kernel_rfl) (by simp) ?_
        refine AllReadyH.cons (o := ⟨none, _, _, _, _, _⟩) rfl (fun K hK => ?_) AllReadyH.nil
        go_simp
        refine hK.out _ _ trivial (fun hHeld => ?_)
        try simp only [Act.put, List.setIfInBounds_toArray, List.set_cons_zero, List.set_cons_succ]
        clear hK
        refine wpAnyH_done (by kernel_rfl) ?_ _
        clear hHeld
        go_wp2
        go_end0
        exact ⟨rfl, Z1.out⟩
end Go.Proofs.YtmgeaanbgjbkcaaGreat.DF

namespace Go.Proofs.YtmgeaanbgjbkcaaGreat.DF
open Go.RowKit Go.Shelf
set_option linter.unusedVariables false
set_option linter.unusedSimpArgs false
def Pl (L : List Ent) (e : Ent) (L' : List Ent) : Prop := ∃ l1 l2, L = l1 ++ l2 ∧ L' = l1 ++ e :: l2 ∧ (∀ a ∈ l1, ahd a e = true) ∧ ∀ a ∈ l2, ahd a e = false
theorem put_end {T : List Rw} {e : Ent} {i : Nat} {x : Rw} (hx : T[i]? = some x) (hi : i + 1 = T.length) (hs : ∀ a ∈ flat T, ahd a e = true) :
    Pl (flat T) e (flat (T.take i) ++ (x.2.2.take x.2.2.length ++ e :: x.2.2.drop x.2.2.length) ++ flat (T.drop (i + 1))) := by
  refine ⟨flat T, [], (List.append_nil _).symm, ?_, hs, fun a h => absurd h (by simp)⟩
  rw [flat_at hx, List.drop_of_length_le (by omega : T.length ≤ i + 1), List.take_length, List.drop_length]
  simp [flat_nil]
theorem put_mid {T : List Rw} {e : Ent} {i p : Nat} {x : Rw} (hx : T[i]? = some x) (s1 : ∀ a ∈ flat (T.take i), ahd a e = true) (s2 : ∀ a ∈ x.2.2.take p, ahd a e = true) (s3 : ∀ a ∈ x.2.2.drop p, ahd a e = false) (s4 : ∀ a ∈ flat (T.drop (i + 1)), ahd a e = false) :
    Pl (flat T) e (flat (T.take i) ++ (x.2.2.take p ++ e :: x.2.2.drop p) ++ flat (T.drop (i + 1))) := by
  refine ⟨flat (T.take i) ++ x.2.2.take p, x.2.2.drop p ++ flat (T.drop (i + 1)), ?_, ?_, fun a ha => ?_, fun a ha => ?_⟩
  · rw [flat_at hx]
    conv => lhs; rw [← List.take_append_drop p x.2.2]
    simp only [List.append_assoc]
  · simp only [List.append_assoc, List.cons_append]
  · rcases List.mem_append.1 ha with h | h
    · exact s1 a h
    · exact s2 a h
  · rcases List.mem_append.1 ha with h | h
    · exact s3 a h
    · exact s4 a h
def Putd (R : Nat) (u0 u1 u3 rv : Value) (T : List Rw) (e : Ent) (w w' : World) : Prop := ∃ L', Pl (flat T) e L' ∧ Chg R u0 u1 u3 rv T L' w w'
set_option maxRecDepth 100000 in
theorem putIn_nil (w : World) (R : Nat) (u0 u1 u3 rv : Value) (e : Ent) (hL : Lay w R u0 u1 u3 rv []) :
    Calls Tryz.prog 155 #[.pointer (some ⟨R, 0, none⟩), agE e] w fun en w' => en = .returned (.tuple #[]) ∧ Putd R u0 u1 u3 rv [] e w w' := by
  have sf : ∀ (x : Nat) (w : World) (a : Addr), (store a (.float .f64 x)).run Tryz.prog w = stored Tryz.prog w a (.float .f64 x) .plain := fun x w a => run_store _ w a _ _ rfl
  obtain ⟨i0, hi0, hz0, hz1, hz2⟩ := info_parts info_rw
  have uT := Tryz.underlying199
  obtain ⟨e1, e2⟩ := e
  obtain ⟨W0, hW0⟩ : ∃ W0, w.alloc (.cells #[.string e1, .float .f64 e2] 73) = W0 := ⟨_, rfl⟩
  obtain ⟨W1, hW1⟩ : ∃ W1, W0.drew.alloc (.cells #[.string e1, .float .f64 e2] 73) = W1 := ⟨_, rfl⟩
  obtain ⟨W2, hW2⟩ : ∃ W2, W1.alloc (.cells #[.slice (some ⟨W0.heap.size, 0, none⟩) 1 1] 28) = W2 := ⟨_, rfl⟩
  have hb0 : Below w.heap.size w W0 := by rw [← hW0]; exact (Below.refl _ w).alloc (Nat.le_refl _) _
  have hb1 : Below W0.heap.size W0 W1 := by rw [← hW1]; exact (Below.refl _ W0).drew.alloc (Nat.le_refl _) _
  have hb2 : Below W1.heap.size W1 W2 := by rw [← hW2]; exact (Below.refl _ W1).alloc (Nat.le_refl _) _
  have hb02 : Below w.heap.size w W2 := Below.up (Below.up hb0 hb1) hb2
  have hs0 : W0.heap.size = w.heap.size + 1 := by rw [← hW0]; simp
  have hs1 : W1.heap.size = W0.heap.size + 1 := by rw [← hW1]; show (W0.alloc _).heap.size = _; simp
  have hh0 : W0.heap[w.heap.size]? = some (.cells #[.string e1, .float .f64 e2] 73 (0, 0)) := by rw [← hW0]; exact heap_alloc_new _ _
  have hh1 : W1.heap[W0.heap.size]? = some (.cells #[.string e1, .float .f64 e2] 73 (0, 0)) := by rw [← hW1]; exact heap_alloc_new W0.drew _
  have hh2 : W2.heap[W1.heap.size]? = some (.cells #[.slice (some ⟨W0.heap.size, 0, none⟩) 1 1] 28 (0, 0)) := by rw [← hW2]; exact heap_alloc_new _ _
  have hL2 := hL.below hb02
  have hown : W2.ownsRow 0 28 1 rv 0 [] := hL2.2.1.1
  obtain ⟨g', c', W3, r1, r2, r3, r4, r5⟩ := run_append_lies (P := Tryz.prog) W2 199 199 0 28 i0 _ 1 24 uT hi0 hz0 hz1 hz2 (by simp [Value.cells]) (by decide) rv 0 [] hown ⟨W1.heap.size, 0, none⟩ 1 1 [.slice (some ⟨W0.heap.size, 0, none⟩) 1 1] rfl (fun j u hj => by
    cases j with
    | zero => cases hj; rw [add_at, cell_of_row _ _ _ _ _ _ hh2]; rfl
    | succ j => simp at hj) (fun u hu => by simp at hu; subst hu; rfl) (by decide) (by unfold maxLen; omega) (by omega) (Nat.zero_le _) W2.heap.size rfl
  rw [Nat.zero_add, List.nil_append] at r2
  rw [Nat.zero_add] at r1
  obtain ⟨o, c, hrv⟩ := hL.2.1.len
  have hrow2 : W2.heap[W0.heap.size]? = some (.cells #[.string e1, .float .f64 e2] 73 (0, 0)) := by rw [hb2.block _ (by omega)]; exact hh1
  have hbl : ∀ k, rv.ownBlock = some k → k < w.heap.size := fun k hk => hL.lt k (by unfold bl; simp [hk])
  have hrow3 : W3.heap[W0.heap.size]? = some (.cells #[.string e1, .float .f64 e2] 73 (0, 0)) := by rw [r3.block _ (by have := hb2.size; omega) (fun e => by have := hbl _ e.symm; omega)]; exact hrow2
  have hrow : Row W3 (W0.heap.size, 1, [(e1, e2)]) := own_of hrow3 (Nat.le_refl 1) (show 1 ≤ maxLen by decide) rfl rfl rfl
  have hRl : R < w.heap.size := hL.lt R (by simp)
  have hRn : ∀ k, rv.ownBlock = some k → k ≠ R := fun k hk e => hL.2.2 (by unfold bl; simp [← e, hk])
  have hg' : rv.ownBlock = some g' ∨ w.heap.size ≤ g' := r4.imp id (fun e => by rw [e]; exact hb02.size)
  have hg0 : g' ≠ W0.heap.size := fun e => by
    rcases r4 with h | h
    · have := hbl _ h; omega
    · have := hb2.size; omega
  have hR3 : W3.heap[R]? = w.heap[R]? := by rw [r3.block R (by have := hb02.size; omega) (fun e => hRn R e.symm rfl)]; exact hb02.block R hRl
  have hrws : Rws W3 (.slice (some ⟨g', 0, none⟩) 1 c') [(W0.heap.size, 1, [(e1, e2)])] := by
    refine ⟨r2, fun x hx => ?_, ?_⟩
    · simp at hx; subst hx; exact hrow
    · rw [bl_some]; simp; exact hg0
  have hput := hL.put hR3 hrws (by
    rw [bl_some]; simp
    refine ⟨fun e => ?_, by omega⟩
    rcases hg' with h | h
    · exact hRn g' h e.symm
    · omega) ⟨r3.os.trans hb02.os, r3.tape.trans hb02.tape, r3.output.trans hb02.output⟩ (Nat.le_trans hb02.size r3.size) (fun k hk hkm => by
    simp only [List.mem_cons, not_or] at hkm
    have hkr : rv.ownBlock ≠ some k := fun e => hkm.2 (by unfold bl; simp [e])
    refine ⟨by rw [r3.block k (by have := hb02.size; omega) (fun e => hkr e.symm)]; exact hb02.block k hk, ?_⟩
    rw [bl_some]; simp
    refine ⟨fun e => ?_, by omega⟩
    rcases hg' with h | h
    · exact hkr (by rw [e]; exact h)
    · omega)
  have HP : Kept (Putd R u0 u1 u3 rv [] (e1, e2) w (W3.setCell ⟨R, 2, none⟩ (.slice (some ⟨g', 0, none⟩) 1 c'))) := by
    refine ⟨[(e1, e2)], ⟨[], [], rfl, rfl, fun a h => absurd h (by simp), fun a h => absurd h (by simp)⟩, _, _, hput.1, rfl, fun u hu => ?_, hput.2⟩
    simp at hu; subst hu; exact ⟨by simp, by simp⟩
  have t3 := four (hR3.trans hL.1)
  have T2 := keep t3.2.2.1
  have TF := keep (t3.2.2.2.2 2)
  have R1 := keep r1
  subst hrv
  have lenz : ([] : List Rw).length = 0 := rfl
  rw [lenz] at *
  have d0 := (four (hL.below hb0).1).2.2.1
  have cell0 : ∀ W, Below W0.heap.size W0 W → W.cell? ⟨R, 2, none⟩ = some (.slice o 0 c) ∧ W.cell? ⟨w.heap.size, 0, none⟩ = some (.string e1) ∧ W.cell? ⟨w.heap.size, 1, none⟩ = some (.float .f64 e2) := fun W hW => by
    have q : W.heap[w.heap.size]? = some (.cells #[.string e1, .float .f64 e2] 73 (0, 0)) := by rw [hW.block _ (by omega)]; exact hh0
    exact ⟨(hW.cell (p := ⟨R, 2, none⟩) (by rw [hs0]; show R < _; omega)).trans d0, by simp [World.cell?, q], by simp [World.cell?, q]⟩
  have CA := keep (cell0 W0.drew (Below.refl _ W0).drew)
  have CB := keep (cell0 W1 hb1)
  have CC := keep (cell0 W2 (Below.up hb1 hb2))
  have CD : Kept (W3.cell? ⟨w.heap.size, 0, none⟩ = some (.string e1) ∧ W3.cell? ⟨w.heap.size, 1, none⟩ = some (.float .f64 e2)) := by
    have q : W3.heap[w.heap.size]? = W2.heap[w.heap.size]? := r3.block _ (by have := hb2.size; omega) (fun e => by have := hbl _ e.symm; omega)
    exact ⟨(World.cell?_of_block (w := W2) (a := ⟨w.heap.size, 0, none⟩) q).trans CC.out.2.1, (World.cell?_of_block (w := W2) (a := ⟨w.heap.size, 1, none⟩) q).trans CC.out.2.2⟩
  have CE : Kept ((W3.setCell ⟨R, 2, none⟩ (.slice (some ⟨g', 0, none⟩) 1 c')).cell? ⟨w.heap.size, 0, none⟩ = some (.string e1) ∧ (W3.setCell ⟨R, 2, none⟩ (.slice (some ⟨g', 0, none⟩) 1 c')).cell? ⟨w.heap.size, 1, none⟩ = some (.float .f64 e2)) := by
    have q : (W3.setCell ⟨R, 2, none⟩ (.slice (some ⟨g', 0, none⟩) 1 c')).heap[w.heap.size]? = W3.heap[w.heap.size]? := Below.heap_setCell _ _ _ _ (by show w.heap.size ≠ R; omega)
    exact ⟨(World.cell?_of_block (w := W3) (a := ⟨w.heap.size, 0, none⟩) q).trans CD.out.1, (World.cell?_of_block (w := W3) (a := ⟨w.heap.size, 1, none⟩) q).trans CD.out.2⟩
  have HS1 := keep hs1
  unfold agE
  dsimp only
  clear hL hb0 hb1 hb2 hb02 hs0 hh0 hh1 hh2 hL2 hown r1 r2 r3 r4 r5 hrow2 hbl hrow3 hrow hRl hRn hg' hg0 hR3 hrws hput t3 cell0 hs1
  go_enter Tryz.func155, Tryz.ntmps155
  go_wp2_with fail
  try rw [hW0]
  refine wp_region_held_drew (S := fun W => W.cell? ⟨w.heap.size, 0, none⟩ = some (.string e1) ∧ W.cell? ⟨w.heap.size, 1, none⟩ = some (.float .f64 e2)) (by kernel_rfl) CA.out.2 (fun hHeld => ?_)
  refine wpAnyH_take (i := 0) (oi := ⟨some 12, _, _, _, _, _⟩) (v := ?v273) rfl (by kernel_rfl) (by kernel_rfl) (by kernel_rfl) (fun _ _ _ h => h) (Or.inl ⟨by rfl, ?hy273⟩) (by assumption) ?rest273
  case hy273 => (intro w hSw; obtain ⟨p0,p1⟩ := hSw; go_simp; try with_reducible rfl)
  try simp only [Act.put, List.setIfInBounds_toArray, List.set_cons_zero, List.set_cons_succ]
  refine wpAnyH_take (i := 1) (oi := ⟨some 13, _, _, _, _, _⟩) (v := ?v274) rfl (by kernel_rfl) (by kernel_rfl) (by kernel_rfl) (fun _ _ _ h => h) (Or.inl ⟨by rfl, ?hy274⟩) (by assumption) ?rest274
  case hy274 => (intro w hSw; obtain ⟨p0,p1⟩ := hSw; go_simp; try with_reducible rfl)
  try simp only [Act.put, List.setIfInBounds_toArray, List.set_cons_zero, List.set_cons_succ]
  refine wpAnyH_take (i := 2) (oi := ⟨some 14, _, _, _, _, _⟩) (v := ?v275) rfl (by kernel_rfl) (by kernel_rfl) (by kernel_rfl) (fun _ _ _ h => h) (Or.inl ⟨by rfl, ?hy275⟩) (by assumption) ?rest275
  case hy275 => (intro w hSw; obtain ⟨p0,p1⟩ := hSw; go_simp; try with_reducible rfl)
  try simp only [Act.put, List.setIfInBounds_toArray, List.set_cons_zero, List.set_cons_succ]
  refine wpAnyH_take (i := 3) (oi := ⟨some 15, _, _, _, _, _⟩) (v := ?v276) rfl (by kernel_rfl) (by kernel_rfl) (by kernel_rfl) (fun _ _ _ h => h) (Or.inl ⟨by rfl, ?hy276⟩) (by assumption) ?rest276
  case hy276 => (intro w hSw; obtain ⟨p0,p1⟩ := hSw; go_simp; try with_reducible rfl)
  try simp only [Act.put, List.setIfInBounds_toArray, List.set_cons_zero, List.set_cons_succ]
  refine wpAnyH_take (i := 5) (oi := ⟨some 17, _, _, _, _, _⟩) (v := (.agg #[.string e1, .float .f64 e2])) rfl (by kernel_rfl) (by kernel_rfl) (by kernel_rfl) (fun _ _ _ h => h) (Or.inl ⟨by rfl, ?hy277⟩) (by assumption) ?rest277
  case hy277 => (intro w hSw; obtain ⟨p0,p1⟩ := hSw; first | (go_simp; done) | (go_simp; simp [*]; done) | (simp [*]; go_simp; done))
  try simp only [Act.put, List.setIfInBounds_toArray, List.set_cons_zero, List.set_cons_succ]
  refine wpAnyH_ready (rs := [4, 6]) (by kernel_rfl) (by simp) ?_
  refine AllReadyH.cons (o := ⟨some 16, _, _, _, _, _⟩) rfl (fun K hK => ?_) (AllReadyH.cons (o := ⟨some 18, _, _, _, _, _⟩) rfl (fun K hK => ?_) AllReadyH.nil)
  · have cL := CA.out.1
    go_simp
    refine hK.out _ _ CA.out.2 (fun hHeld => ?_)
    try simp only [Act.put, List.setIfInBounds_toArray, List.set_cons_zero, List.set_cons_succ]
    clear hK cL
    refine wpAnyH_ready (rs := [6]) (by kernel_rfl) (by simp) ?_
    refine AllReadyH.cons (o := ⟨some 18, _, _, _, _, _⟩) rfl (fun K hK => ?_) AllReadyH.nil
    go_simp
    try rw [hW1]
    refine hK.out _ _ CB.out.2 (fun hHeld => ?_)
    try simp only [Act.put, List.setIfInBounds_toArray, List.set_cons_zero, List.set_cons_succ]
    clear hK
    refine wpAnyH_ready (rs := [7]) (by kernel_rfl) (by simp) ?_
    refine AllReadyH.cons (o := ⟨some 19, _, _, _, _, _⟩) rfl (fun K hK => ?_) AllReadyH.nil
    go_simp
    try rw [hW2]
    refine hK.out _ _ CC.out.2 (fun hHeld => ?_)
    try simp only [Act.put, List.setIfInBounds_toArray, List.set_cons_zero, List.set_cons_succ]
    clear hK
    refine wpAnyH_ready (rs := [8]) (by kernel_rfl) (by simp) ?_
    refine AllReadyH.cons (o := ⟨some 20, _, _, _, _, _⟩) rfl (fun K hK => ?_) AllReadyH.nil
    rw [if_pos (by rfl)]
    refine wp_app_run (.tmp 16) (.tmp 19) 199 199 rfl _ _ _ rfl rfl R1.out ?_
    refine hK.out _ _ CD.out (fun hHeld => ?_)
    try simp only [Act.put, List.setIfInBounds_toArray, List.set_cons_zero, List.set_cons_succ]
    clear hK
    refine wpAnyH_take (i := 9) (oi := ⟨some 21, _, _, _, _, _⟩) (v := ?v278) rfl (by kernel_rfl) (by kernel_rfl) (by kernel_rfl) (fun _ _ _ h => h) (Or.inl ⟨by rfl, ?hy278⟩) (by assumption) ?rest278
    case hy278 => (intro w hSw; go_simp; try with_reducible rfl)
    try simp only [Act.put, List.setIfInBounds_toArray, List.set_cons_zero, List.set_cons_succ]
    refine wpAnyH_take (i := 10) (oi := ⟨some 22, _, _, _, _, _⟩) (v := ?v279) rfl (by kernel_rfl) (by kernel_rfl) (by kernel_rfl) (fun _ _ _ h => h) (Or.inl ⟨by rfl, ?hy279⟩) (by assumption) ?rest279
    case hy279 => (intro w hSw; go_simp; try with_reducible rfl)
    try simp only [Act.put, List.setIfInBounds_toArray, List.set_cons_zero, List.set_cons_succ]
    have t2 := T2.out
    have tf := TF.out
    refine wpAnyH_ready (rs := [11]) (by kernel_rfl) (by simp) ?_
    refine AllReadyH.cons (o := ⟨none, _, _, _, _, _⟩) rfl (fun K hK => ?_) AllReadyH.nil
    go_simp
    refine hK.out _ _ CE.out (fun hHeld => ?_)
    try simp only [Act.put, List.setIfInBounds_toArray, List.set_cons_zero, List.set_cons_succ]
    clear hK t2 tf
    refine wpAnyH_done (by kernel_rfl) ?_ _
    clear hHeld
    go_wp2
    refine bodyPost_ret (results_none rfl _ _ _) rfl ?_
    exact ⟨rfl, HP.out⟩
  · go_simp
    try rw [hW1]
    refine hK.out _ _ CB.out.2 (fun hHeld => ?_)
    try simp only [Act.put, List.setIfInBounds_toArray, List.set_cons_zero, List.set_cons_succ]
    clear hK
    refine wpAnyH_ready (rs := [4, 7]) (by kernel_rfl) (by simp) ?_
    refine AllReadyH.cons (o := ⟨some 16, _, _, _, _, _⟩) rfl (fun K hK => ?_) (AllReadyH.cons (o := ⟨some 19, _, _, _, _, _⟩) rfl (fun K hK => ?_) AllReadyH.nil)
    · have cL := CB.out.1
      go_simp
      refine hK.out _ _ CB.out.2 (fun hHeld => ?_)
      try simp only [Act.put, List.setIfInBounds_toArray, List.set_cons_zero, List.set_cons_succ]
      clear hK cL
      refine wpAnyH_ready (rs := [7]) (by kernel_rfl) (by simp) ?_
      refine AllReadyH.cons (o := ⟨some 19, _, _, _, _, _⟩) rfl (fun K hK => ?_) AllReadyH.nil
      go_simp
      try rw [hW2]
      refine hK.out _ _ CC.out.2 (fun hHeld => ?_)
      try simp only [Act.put, List.setIfInBounds_toArray, List.set_cons_zero, List.set_cons_succ]
      clear hK
      refine wpAnyH_ready (rs := [8]) (by kernel_rfl) (by simp) ?_
      refine AllReadyH.cons (o := ⟨some 20, _, _, _, _, _⟩) rfl (fun K hK => ?_) AllReadyH.nil
      rw [if_pos (by rfl)]
      refine wp_app_run (.tmp 16) (.tmp 19) 199 199 rfl _ _ _ rfl rfl R1.out ?_
      refine hK.out _ _ CD.out (fun hHeld => ?_)
      try simp only [Act.put, List.setIfInBounds_toArray, List.set_cons_zero, List.set_cons_succ]
      clear hK
      refine wpAnyH_take (i := 9) (oi := ⟨some 21, _, _, _, _, _⟩) (v := ?v280) rfl (by kernel_rfl) (by kernel_rfl) (by kernel_rfl) (fun _ _ _ h => h) (Or.inl ⟨by rfl, ?hy280⟩) (by assumption) ?rest280
      case hy280 => (intro w hSw; go_simp; try with_reducible rfl)
      try simp only [Act.put, List.setIfInBounds_toArray, List.set_cons_zero, List.set_cons_succ]
      refine wpAnyH_take (i := 10) (oi := ⟨some 22, _, _, _, _, _⟩) (v := ?v281) rfl (by kernel_rfl) (by kernel_rfl) (by kernel_rfl) (fun _ _ _ h => h) (Or.inl ⟨by rfl, ?hy281⟩) (by assumption) ?rest281
      case hy281 => (intro w hSw; go_simp; try with_reducible rfl)
      try simp only [Act.put, List.setIfInBounds_toArray, List.set_cons_zero, List.set_cons_succ]
      have t2 := T2.out
      have tf := TF.out
      refine wpAnyH_ready (rs := [11]) (by kernel_rfl) (by simp) ?_
      refine AllReadyH.cons (o := ⟨none, _, _, _, _, _⟩) rfl (fun K hK => ?_) AllReadyH.nil
      go_simp
      refine hK.out _ _ CE.out (fun hHeld => ?_)
      try simp only [Act.put, List.setIfInBounds_toArray, List.set_cons_zero, List.set_cons_succ]
      clear hK t2 tf
      refine wpAnyH_done (by kernel_rfl) ?_ _
      clear hHeld
      go_wp2
      refine bodyPost_ret (results_none rfl _ _ _) rfl ?_
      exact ⟨rfl, HP.out⟩
    · go_simp
      try rw [hW2]
      refine hK.out _ _ CC.out.2 (fun hHeld => ?_)
      try simp only [Act.put, List.setIfInBounds_toArray, List.set_cons_zero, List.set_cons_succ]
      clear hK
      have cL := CC.out.1
      refine wpAnyH_ready (rs := [4]) (by kernel_rfl) (by simp) ?_
      refine AllReadyH.cons (o := ⟨some 16, _, _, _, _, _⟩) rfl (fun K hK => ?_) AllReadyH.nil
      go_simp
      refine hK.out _ _ CC.out.2 (fun hHeld => ?_)
      try simp only [Act.put, List.setIfInBounds_toArray, List.set_cons_zero, List.set_cons_succ]
      clear hK cL
      refine wpAnyH_ready (rs := [8]) (by kernel_rfl) (by simp) ?_
      refine AllReadyH.cons (o := ⟨some 20, _, _, _, _, _⟩) rfl (fun K hK => ?_) AllReadyH.nil
      rw [if_pos (by rfl)]
      refine wp_app_run (.tmp 16) (.tmp 19) 199 199 rfl _ _ _ rfl rfl R1.out ?_
      refine hK.out _ _ CD.out (fun hHeld => ?_)
      try simp only [Act.put, List.setIfInBounds_toArray, List.set_cons_zero, List.set_cons_succ]
      clear hK
      refine wpAnyH_take (i := 9) (oi := ⟨some 21, _, _, _, _, _⟩) (v := ?v282) rfl (by kernel_rfl) (by kernel_rfl) (by kernel_rfl) (fun _ _ _ h => h) (Or.inl ⟨by rfl, ?hy282⟩) (by assumption) ?rest282
      case hy282 => (intro w hSw; go_simp; try with_reducible rfl)
      try simp only [Act.put, List.setIfInBounds_toArray, List.set_cons_zero, List.set_cons_succ]
      refine wpAnyH_take (i := 10) (oi := ⟨some 22, _, _, _, _, _⟩) (v := ?v283) rfl (by kernel_rfl) (by kernel_rfl) (by kernel_rfl) (fun _ _ _ h => h) (Or.inl ⟨by rfl, ?hy283⟩) (by assumption) ?rest283
      case hy283 => (intro w hSw; go_simp; try with_reducible rfl)
      try simp only [Act.put, List.setIfInBounds_toArray, List.set_cons_zero, List.set_cons_succ]
      have t2 := T2.out
      have tf := TF.out
      refine wpAnyH_ready (rs := [11]) (by kernel_rfl) (by simp) ?_
      refine AllReadyH.cons (o := ⟨none, _, _, _, _, _⟩) rfl (fun K hK => ?_) AllReadyH.nil
      go_simp
      refine hK.out _ _ CE.out (fun hHeld => ?_)
      try simp only [Act.put, List.setIfInBounds_toArray, List.set_cons_zero, List.set_cons_succ]
      clear hK t2 tf
      refine wpAnyH_done (by kernel_rfl) ?_ _
      clear hHeld
      go_wp2
      refine bodyPost_ret (results_none rfl _ _ _) rfl ?_
      exact ⟨rfl, HP.out⟩
set_option maxRecDepth 100000 in
theorem putIn_some (w : World) (R : Nat) (u0 u1 u3 rv : Value) (T : List Rw) (e : Ent) (hL : Lay w R u0 u1 u3 rv T) (hG : Gd T) (hRis : Ris (flat T)) (hnum : Num e) (hb : (flat T).length ≤ 1500000) (hne0 : 0 < T.length) :
    Calls Tryz.prog 155 #[.pointer (some ⟨R, 0, none⟩), agE e] w fun en w' => en = .returned (.tuple #[]) ∧ Putd R u0 u1 u3 rv T e w w' := by
  have sf : ∀ (x : Nat) (w : World) (a : Addr), (store a (.float .f64 x)).run Tryz.prog w = stored Tryz.prog w a (.float .f64 x) .plain := fun x w a => run_store _ w a _ _ rfl
  have hne : ∀ x ∈ T, x.2.2 ≠ [] := fun x hx => (hG x hx).1
  have hTl : T.length ≤ 1500000 := Nat.le_trans (gd_len hne) hb
  obtain ⟨gt, c, hrv, hc1, hc2⟩ := hL.2.1.form hne0
  subst hrv
  obtain ⟨n, hn'⟩ : ∃ n, T.length = n := ⟨_, rfl⟩
  obtain ⟨W0, hW0⟩ : ∃ W0, w.alloc (.cells #[.string e.1, .float .f64 e.2] 73) = W0 := ⟨_, rfl⟩
  have hb0 : Below w.heap.size w W0 := by rw [← hW0]; exact (Below.refl _ w).alloc (Nat.le_refl _) _
  have hs0 : W0.heap.size = w.heap.size + 1 := by rw [← hW0]; simp
  have hh0 : W0.heap[w.heap.size]? = some (.cells #[.string e.1, .float .f64 e.2] 73 (0, 0)) := by rw [← hW0]; exact heap_alloc_new _ _
  have ce0 : W0.cell? ⟨w.heap.size, 0, none⟩ = some (.string e.1) := by simp [World.cell?, hh0]
  have ce1 : W0.cell? ⟨w.heap.size, 1, none⟩ = some (.float .f64 e.2) := by simp [World.cell?, hh0]
  have d2 := (four (hL.below hb0).1).2.2.1
  rw [hn'] at d2
  have mN := notAhead_any e W0
  have MS := keep (fun w1 (hb1 : Below W0.heap.size W0 w1) (hr : Rch 245 #[.pointer (some ⟨W0.heap.size, 0, none⟩)] (fun a => ahd a e) w1) => rseek_any w1 R u0 u1 u3 _ T _ _ _ (hL.below (Below.up hb0 hb1)) hne (fun x hx => by have := (hG x hx).2; omega) (by omega) hr (mo_ahd hRis hnum))
  obtain ⟨e1, e2⟩ := e
  dsimp only at *
  -- behind the seeking: a row, a place in it
  have TAIL : ∀ (w2 : World) (i p : Nat) (x : Rw), Below w.heap.size w w2 → w2.heap[w.heap.size]? = some (.cells #[.string e1, .float .f64 e2] 73 (0, 0)) → T[i]? = some x → p ≤ x.2.2.length → Pl (flat T) (e1, e2) (flat (T.take i) ++ (x.2.2.take p ++ (e1, e2) :: x.2.2.drop p) ++ flat (T.drop (i + 1))) →
      (w2.cell? ⟨R, 2, none⟩ = some (.slice (some ⟨gt, 0, none⟩) n c) ∧ w2.cell? ⟨gt, i, none⟩ = some (.slice (some ⟨x.1, 0, none⟩) x.2.2.length x.2.1) ∧ i < n ∧ x.2.2.length ≤ 1024) ∧
      Kept (Calls Tryz.prog 217 #[.slice (some ⟨x.1, 0, none⟩) x.2.2.length x.2.1, .int .i64 p, .slice (some ⟨w2.heap.size, 0, none⟩) 1 1] (w2.drew.alloc (.cells #[.string e1, .float .f64 e2] 73)) fun en w4 => ∃ g' c', en = .returned (.slice (some ⟨g', 0, none⟩) (x.2.2.length + 1) c') ∧
        (w4.cell? ⟨R, 2, none⟩ = some (.slice (some ⟨gt, 0, none⟩) n c) ∧ w4.cell? ⟨w.heap.size, 0, none⟩ = some (.string e1) ∧ w4.cell? ⟨w.heap.size, 1, none⟩ = some (.float .f64 e2)) ∧ w4.cell? ⟨gt, i, none⟩ = some (.slice (some ⟨x.1, 0, none⟩) x.2.2.length x.2.1) ∧ w4.frozen? ⟨gt, i, none⟩ = false ∧
        Kept (∀ W5, W5 = w4.setCell ⟨gt, i, none⟩ (.slice (some ⟨g', 0, none⟩) (x.2.2.length + 1) c') → (W5.cell? ⟨R, 2, none⟩ = some (.slice (some ⟨gt, 0, none⟩) n c) ∧ W5.cell? ⟨w.heap.size, 0, none⟩ = some (.string e1) ∧ W5.cell? ⟨w.heap.size, 1, none⟩ = some (.float .f64 e2)) ∧ W5.cell? ⟨gt, i, none⟩ = some (.slice (some ⟨g', 0, none⟩) (x.2.2.length + 1) c') ∧
          (x.2.2.length + 1 ≤ 1024 → Putd R u0 u1 u3 (.slice (some ⟨gt, 0, none⟩) T.length c) T (e1, e2) w W5) ∧
          (1024 < x.2.2.length + 1 → Calls Tryz.prog 218 #[.pointer (some ⟨R, 0, none⟩), .int .i64 i] W5 fun en w' => en = .returned (.tuple #[]) ∧ Putd R u0 u1 u3 (.slice (some ⟨gt, 0, none⟩) T.length c) T (e1, e2) w w'))) := by
    intro w2 i p x hb2 hhe hx hp hPl
    have hil : i < T.length := (List.getElem?_eq_some_iff.1 hx).1
    have hL2 := hL.below hb2
    rw [hn'] at hL2 hil
    have hcx := hL2.2.1.at hx
    have hRx := hL2.2.1.2.1 x (List.mem_of_getElem? hx)
    have hxG := hG x (List.mem_of_getElem? hx)
    obtain ⟨gx, cx, mx⟩ := x
    unfold rwV at hcx
    dsimp only at hcx hxG hp hPl ⊢
    refine ⟨⟨(four hL2.1).2.2.1, hcx, hil, hxG.2⟩, ?_⟩
    obtain ⟨W3, hW3⟩ : ∃ W3, w2.drew.alloc (.cells #[.string e1, .float .f64 e2] 73) = W3 := ⟨_, rfl⟩
    rw [hW3]
    have hb3 : Below w2.heap.size w2 W3 := by rw [← hW3]; exact (Below.refl _ w2).drew.alloc (Nat.le_refl _) _
    have hh3 : W3.heap[w2.heap.size]? = some (.cells #[.string e1, .float .f64 e2] 73 (0, 0)) := by rw [← hW3]; exact heap_alloc_new w2.drew _
    have hL3 := hL2.below hb3
    have hRx3 : W3.ownsRow 0 73 2 (.slice (some ⟨gx, 0, none⟩) mx.length cx) mx.length (enR mx) := hRx.kept (hb3.block _ hRx.lt)
    have hgx2 : gx < w2.heap.size := hRx.lt
    refine (insM_any W3 gx mx.length cx w2.heap.size p (enR mx) e1 e2 hRx3 hh3 (by omega) (by have := hxG.2; omega) hp enR_one).mono ?_
    rintro _ w4 ⟨g', c', rfl, o4, s4, gr4⟩
    rw [← enR_put mx p (e1, e2)] at o4
    obtain ⟨my, hmy⟩ : ∃ my, mx.take p ++ (e1, e2) :: mx.drop p = my := ⟨_, rfl⟩
    rw [hmy] at o4 hPl
    have hmyl : my.length = mx.length + 1 := by rw [← hmy]; simp [List.length_take, List.length_drop]; omega
    have hgxt : gt ≠ gx := fun e => (hL2.2.1.apart hx) e.symm
    have hRgx : R ≠ gx := fun e => hL2.2.2 (by rw [bl_some, e]; exact List.mem_cons.2 (.inr (List.mem_map.2 ⟨_, List.mem_of_getElem? hx, rfl⟩)))
    have hsz3 := hb3.size
    have hgt2 : gt < w2.heap.size := hL2.lt gt (by rw [bl_some]; simp)
    have hR2 : R < w2.heap.size := hL2.lt R (by simp)
    have hkR : w4.heap[R]? = W3.heap[R]? := gr4.block R (by omega) (fun e => hRgx (Option.some.inj e))
    have hkT : w4.heap[gt]? = W3.heap[gt]? := gr4.block gt (by omega) (fun e => hgxt (Option.some.inj e))
    have hbx : w.heap.size < w2.heap.size := (Array.getElem?_eq_some_iff.1 hhe).1
    have hwx : w.heap.size ≠ gx := fun e => by
      have h1 := hL.2.1.2.1 (gx, cx, mx) (List.mem_of_getElem? hx)
      have h2 : gx < w.heap.size := h1.lt
      omega
    have hke : w4.heap[w.heap.size]? = some (.cells #[.string e1, .float .f64 e2] 73 (0, 0)) := by rw [gr4.block _ (by omega) (fun e => hwx (Option.some.inj e)), hb3.block _ hbx]; exact hhe
    have hR4 := four (hkR.trans hL3.1)
    refine ⟨g', c', rfl, ⟨hR4.2.2.1, by simp [World.cell?, hke], by simp [World.cell?, hke]⟩, (World.cell?_of_block (w := W3) (a := ⟨gt, i, none⟩) hkT).trans (hL3.2.1.at hx), by rw [World.frozen?_of_block (w := W3) (a := ⟨gt, i, none⟩) hkT]; exact hL3.2.1.free i, ?_⟩
    intro W5 hW5
    have hrow : Row w4 (g', c', my) := by unfold Row rwV; dsimp only; rw [hmyl]; exact o4
    have hsg : g' = gx ∨ w2.heap.size ≤ g' := s4.imp id (fun h => by omega)
    have hgr : w2.grownBy w4 (some gx) := ⟨gr4.os.trans hb3.os, gr4.tape.trans hb3.tape, gr4.output.trans hb3.output, Nat.le_trans hb3.size gr4.size, fun k hk hne => (gr4.block k (by omega) hne).trans (hb3.block k hk)⟩
    obtain ⟨q1, q2⟩ := hL2.row hx hrow hsg hgr
    rw [show rwV (g', c', my) = .slice (some ⟨g', 0, none⟩) (mx.length + 1) c' by unfold rwV; dsimp only; rw [hmyl], ← hW5] at q1 q2
    have hset : (T.set i (g', c', my))[i]? = some (g', c', my) := by rw [List.getElem?_set, if_pos rfl, if_pos (by omega)]
    have hfl : flat (T.set i (g', c', my)) = flat (T.take i) ++ my ++ flat (T.drop (i + 1)) := flat_set hx
    have hwg : w.heap.size ≠ gt := fun e => by have := hL.lt gt (by rw [hn', bl_some]; simp); omega
    have hke5 : W5.heap[w.heap.size]? = some (.cells #[.string e1, .float .f64 e2] 73 (0, 0)) := by rw [hW5, Below.heap_setCell _ _ _ _ hwg]; exact hke
    have hat5 := q1.2.1.at hset
    rw [show rwV (g', c', my) = .slice (some ⟨g', 0, none⟩) (mx.length + 1) c' by unfold rwV; dsimp only; rw [hmyl]] at hat5
    have hF5 := (Fm.below hb2).trans q2
    have hor : ∀ u ∈ T.set i (g', c', my), u = (g', c', my) ∨ u ∈ T := fun u hu => (List.mem_or_eq_of_mem_set hu).symm
    refine ⟨⟨(four q1.1).2.2.1, by simp [World.cell?, hke5], by simp [World.cell?, hke5]⟩, hat5, fun hle => ?_, fun hgt => ?_⟩
    · rw [hn']
      refine ⟨_, hPl, _, _, q1, hfl, fun u hu => ?_, hF5⟩
      rcases hor u hu with rfl | hu
      · exact ⟨fun e => (by have e : my = [] := e; rw [e] at hmyl; simp at hmyl), by show my.length ≤ 1024; omega⟩
      · exact hG u hu
    · refine (part_any W5 R u0 u1 u3 _ (T.set i (g', c', my)) i (g', c', my) q1 hset (fun u hu hne => ?_) (by show my.length = 1025; have := hxG.2; omega) (by rw [List.length_set]; omega)).mono ?_
      · rcases hor u hu with h | hu
        · exact absurd h hne
        · exact hG u hu
      · rintro _ w6 ⟨rfl, rv6, T6, t1, t2, t3, t4⟩
        rw [hn']
        exact ⟨rfl, _, hPl, rv6, T6, t1, by rw [t2, hfl], t3, hF5.trans t4⟩
  have PM : Kept (∀ i p, Sk T (fun a => ahd a (e1, e2)) i p → (i = n ∧ p = 0 ∧ ∃ x, T[n - 1]? = some x ∧ Pl (flat T) (e1, e2) (flat (T.take (n - 1)) ++ (x.2.2.take x.2.2.length ++ (e1, e2) :: x.2.2.drop x.2.2.length) ++ flat (T.drop (n - 1 + 1)))) ∨
      (i < n ∧ ∃ x, T[i]? = some x ∧ p ≤ x.2.2.length ∧ Pl (flat T) (e1, e2) (flat (T.take i) ++ (x.2.2.take p ++ (e1, e2) :: x.2.2.drop p) ++ flat (T.drop (i + 1))))) := by
    intro i p hs
    rcases hs with ⟨h1, h2, h3⟩ | ⟨x, hx, hp, s1, s2, s3, s4⟩
    · left
      have hx : T[n - 1]? = some T[n - 1] := List.getElem?_eq_getElem (by omega)
      exact ⟨by omega, h2, _, hx, put_end hx (by omega) h3⟩
    · right
      have := (List.getElem?_eq_some_iff.1 hx).1
      exact ⟨by omega, x, hx, by omega, put_mid hx s1 s2 s3 s4⟩
  have TL := keep TAIL
  have HB0 := keep hb0
  have HH0 := keep hh0
  have HS0 := keep hs0
  have HNN := keep (show 0 < n by omega)
  have HTL := keep (show n ≤ 1500000 by omega)
  have hn0 : ((n : Int) == 0) = false := beq_eq_false_iff_ne.2 (by omega)
  have hn0' : ¬ n = 0 := by omega
  clear hL hG hRis hb hne hTl hb0 hh0 hnum hs0 hne0 hc1 hc2 TAIL hn'
  unfold agE at *
  dsimp only at *
  go_enter Tryz.func155, Tryz.ntmps155
  go_wp2_with fail
  try rw [hW0]
  refine mN.mono ?_
  rintro _ w1 ⟨rfl, hb1, hr1⟩
  have HB1 := keep hb1
  have mS := MS.out w1 hb1 hr1
  clear hb1 hr1 MS mN
  go_wp2_with fail
  refine mS.mono ?_
  rintro _ w2 ⟨⟨i, p, rfl, hsk⟩, hb2⟩
  have hb02 : Below W0.heap.size W0 w2 := Below.up HB1.out hb2
  have hbw2 : Below w.heap.size w w2 := Below.up HB0.out hb02
  have hhe : w2.heap[w.heap.size]? = some (.cells #[.string e1, .float .f64 e2] 73 (0, 0)) := by rw [hb02.block _ (by have := HS0.out; omega)]; exact HH0.out
  have b0 : w2.cell? ⟨w.heap.size, 0, none⟩ = some (.string e1) := by simp [World.cell?, hhe]
  have b1 : w2.cell? ⟨w.heap.size, 1, none⟩ = some (.float .f64 e2) := by simp [World.cell?, hhe]
  rcases PM.out i p hsk with ⟨hi', rfl, x, hx, hPl⟩ | ⟨hin, x, hx, hp, hPl⟩
  · obtain rfl := hi'.symm
    obtain ⟨m, hm⟩ : ∃ m, n - 1 = m := ⟨_, rfl⟩
    rw [hm] at hx hPl
    have hw1 : IntKind.i64.wrap ((n : Int) - 1) = (m : Int) := by have := HNN.out; have := HTL.out; rw [IntKind.wrap_i64]; omega
    have he1 : ((n : Int) == (n : Int)) = true := beq_self_eq_true _
    obtain ⟨⟨a1, a2, a3, a4⟩, mI⟩ := TL.out w2 m x.2.2.length x hbw2 hhe hx (Nat.le_refl _) hPl
    have MI := keep mI.out
    obtain ⟨gx, cx, mx⟩ := x
    dsimp only at a2 a4 MI
    obtain ⟨lx, hlx⟩ : ∃ lx, mx.length = lx := ⟨_, rfl⟩
    rw [hlx] at a2 a4 MI
    have hnm := HNN.out
    have i0 : (0 : Int) ≤ (m : Int) := by omega
    have i1 : (m : Int) < (n : Int) := by omega
    have A4 := keep a4
    have S2 : Kept (w2.drew.cell? ⟨R, 2, none⟩ = some (.slice (some ⟨gt, 0, none⟩) n c) ∧ w2.drew.cell? ⟨w.heap.size, 0, none⟩ = some (.string e1) ∧ w2.drew.cell? ⟨w.heap.size, 1, none⟩ = some (.float .f64 e2)) := ⟨a1, b0, b1⟩
    obtain ⟨W3, hW3⟩ : ∃ W3, w2.drew.alloc (.cells #[.string e1, .float .f64 e2] 73) = W3 := ⟨_, rfl⟩
    have hb3 : Below w2.heap.size w2 W3 := by rw [← hW3]; exact (Below.refl _ w2).drew.alloc (Nat.le_refl _) _
    have S3 : Kept (W3.cell? ⟨R, 2, none⟩ = some (.slice (some ⟨gt, 0, none⟩) n c) ∧ W3.cell? ⟨w.heap.size, 0, none⟩ = some (.string e1) ∧ W3.cell? ⟨w.heap.size, 1, none⟩ = some (.float .f64 e2)) := ⟨(hb3.cell (p := ⟨R, 2, none⟩) (World.block_lt_of_cell? _ _ a1)).trans a1, (hb3.cell (p := ⟨w.heap.size, 0, none⟩) (World.block_lt_of_cell? _ _ b0)).trans b0, (hb3.cell (p := ⟨w.heap.size, 1, none⟩) (World.block_lt_of_cell? _ _ b1)).trans b1⟩
    have X2 : Kept (w2.drew.cell? ⟨gt, m, none⟩ = some (.slice (some ⟨gx, 0, none⟩) lx cx)) := a2
    have X3 : Kept (W3.cell? ⟨gt, m, none⟩ = some (.slice (some ⟨gx, 0, none⟩) lx cx)) := (hb3.cell (p := ⟨gt, m, none⟩) (World.block_lt_of_cell? _ _ a2)).trans a2
    rw [hW3] at MI
    clear hx hPl hbw2 hhe mI hb3 a4 hb02 hb2 TL PM hsk hm hnm a3
    go_wp2_with fail
    refine wp_region_held_drew (S := fun W => W.cell? ⟨R, 2, none⟩ = some (.slice (some ⟨gt, 0, none⟩) n c) ∧ W.cell? ⟨w.heap.size, 0, none⟩ = some (.string e1) ∧ W.cell? ⟨w.heap.size, 1, none⟩ = some (.float .f64 e2)) (by kernel_rfl) S2.out (fun hHeld => ?_)
    refine wpAnyH_take (i := 0) (oi := ⟨some 47, _, _, _, _, _⟩) (v := ?v284) rfl (by kernel_rfl) (by kernel_rfl) (by kernel_rfl) (fun _ _ _ h => h) (Or.inl ⟨by rfl, ?hy284⟩) (by assumption) ?rest284
    case hy284 => (intro w hSw; obtain ⟨p0,p1,p2⟩ := hSw; go_simp; try with_reducible rfl)
    try simp only [Act.put, List.setIfInBounds_toArray, List.set_cons_zero, List.set_cons_succ]
    refine wpAnyH_take (i := 1) (oi := ⟨some 48, _, _, _, _, _⟩) (v := ?v285) rfl (by kernel_rfl) (by kernel_rfl) (by kernel_rfl) (fun _ _ _ h => h) (Or.inl ⟨by rfl, ?hy285⟩) (by assumption) ?rest285
    case hy285 => (intro w hSw; obtain ⟨p0,p1,p2⟩ := hSw; go_simp; try with_reducible rfl)
    try simp only [Act.put, List.setIfInBounds_toArray, List.set_cons_zero, List.set_cons_succ]
    refine wpAnyH_take (i := 2) (oi := ⟨some 49, _, _, _, _, _⟩) (v := ?v286) rfl (by kernel_rfl) (by kernel_rfl) (by kernel_rfl) (fun _ _ _ h => h) (Or.inl ⟨by rfl, ?hy286⟩) (by assumption) ?rest286
    case hy286 => (intro w hSw; obtain ⟨p0,p1,p2⟩ := hSw; go_simp; try with_reducible rfl)
    try simp only [Act.put, List.setIfInBounds_toArray, List.set_cons_zero, List.set_cons_succ]
    refine wpAnyH_take (i := 3) (oi := ⟨some 50, _, _, _, _, _⟩) (v := ?v287) rfl (by kernel_rfl) (by kernel_rfl) (by kernel_rfl) (fun _ _ _ h => h) (Or.inl ⟨by rfl, ?hy287⟩) (by assumption) ?rest287
    case hy287 => (intro w hSw; obtain ⟨p0,p1,p2⟩ := hSw; go_simp; try with_reducible rfl)
    try simp only [Act.put, List.setIfInBounds_toArray, List.set_cons_zero, List.set_cons_succ]
    refine wpAnyH_take (i := 4) (oi := ⟨some 51, _, _, _, _, _⟩) (v := ?v288) rfl (by kernel_rfl) (by kernel_rfl) (by kernel_rfl) (fun _ _ _ h => h) (Or.inl ⟨by rfl, ?hy288⟩) (by assumption) ?rest288
    case hy288 => (intro w hSw; obtain ⟨p0,p1,p2⟩ := hSw; go_simp; try with_reducible rfl)
    try simp only [Act.put, List.setIfInBounds_toArray, List.set_cons_zero, List.set_cons_succ]
    refine wpAnyH_take (i := 5) (oi := ⟨some 52, _, _, _, _, _⟩) (v := ?v289) rfl (by kernel_rfl) (by kernel_rfl) (by kernel_rfl) (fun _ _ _ h => h) (Or.inl ⟨by rfl, ?hy289⟩) (by assumption) ?rest289
    case hy289 => (intro w hSw; obtain ⟨p0,p1,p2⟩ := hSw; go_simp; try with_reducible rfl)
    try simp only [Act.put, List.setIfInBounds_toArray, List.set_cons_zero, List.set_cons_succ]
    refine wpAnyH_take (i := 6) (oi := ⟨some 53, _, _, _, _, _⟩) (v := ?v290) rfl (by kernel_rfl) (by kernel_rfl) (by kernel_rfl) (fun _ _ _ h => h) (Or.inl ⟨by rfl, ?hy290⟩) (by assumption) ?rest290
    case hy290 => (intro w hSw; obtain ⟨p0,p1,p2⟩ := hSw; go_simp; try with_reducible rfl)
    try simp only [Act.put, List.setIfInBounds_toArray, List.set_cons_zero, List.set_cons_succ]
    refine wpAnyH_take (i := 7) (oi := ⟨some 54, _, _, _, _, _⟩) (v := ?v291) rfl (by kernel_rfl) (by kernel_rfl) (by kernel_rfl) (fun _ _ _ h => h) (Or.inl ⟨by rfl, ?hy291⟩) (by assumption) ?rest291
    case hy291 => (intro w hSw; obtain ⟨p0,p1,p2⟩ := hSw; go_simp; try with_reducible rfl)
    try simp only [Act.put, List.setIfInBounds_toArray, List.set_cons_zero, List.set_cons_succ]
    refine wpAnyH_take (i := 8) (oi := ⟨some 55, _, _, _, _, _⟩) (v := ?v292) rfl (by kernel_rfl) (by kernel_rfl) (by kernel_rfl) (fun _ _ _ h => h) (Or.inl ⟨by rfl, ?hy292⟩) (by assumption) ?rest292
    case hy292 => (intro w hSw; obtain ⟨p0,p1,p2⟩ := hSw; go_simp; try with_reducible rfl)
    try simp only [Act.put, List.setIfInBounds_toArray, List.set_cons_zero, List.set_cons_succ]
    refine wpAnyH_take (i := 9) (oi := ⟨some 56, _, _, _, _, _⟩) (v := ?v293) rfl (by kernel_rfl) (by kernel_rfl) (by kernel_rfl) (fun _ _ _ h => h) (Or.inl ⟨by rfl, ?hy293⟩) (by assumption) ?rest293
    case hy293 => (intro w hSw; obtain ⟨p0,p1,p2⟩ := hSw; go_simp; try with_reducible rfl)
    try simp only [Act.put, List.setIfInBounds_toArray, List.set_cons_zero, List.set_cons_succ]
    refine wpAnyH_take (i := 10) (oi := ⟨some 57, _, _, _, _, _⟩) (v := (.pointer (some ⟨gt, m, none⟩))) rfl (by kernel_rfl) (by kernel_rfl) (by kernel_rfl) (fun _ _ _ h => h) (Or.inl ⟨by rfl, ?hy294⟩) (by assumption) ?rest294
    case hy294 => (intro w hSw; obtain ⟨p0,p1,p2⟩ := hSw; first | (go_simp; done) | (go_simp; simp [*]; done) | (simp [*]; go_simp; done))
    try simp only [Act.put, List.setIfInBounds_toArray, List.set_cons_zero, List.set_cons_succ]
    refine wpAnyH_take (i := 12) (oi := ⟨some 59, _, _, _, _, _⟩) (v := ?v295) rfl (by kernel_rfl) (by kernel_rfl) (by kernel_rfl) (fun _ _ _ h => h) (Or.inl ⟨by rfl, ?hy295⟩) (by assumption) ?rest295
    case hy295 => (intro w hSw; obtain ⟨p0,p1,p2⟩ := hSw; go_simp; try with_reducible rfl)
    try simp only [Act.put, List.setIfInBounds_toArray, List.set_cons_zero, List.set_cons_succ]
    refine wpAnyH_take (i := 13) (oi := ⟨some 60, _, _, _, _, _⟩) (v := (.agg #[.string e1, .float .f64 e2])) rfl (by kernel_rfl) (by kernel_rfl) (by kernel_rfl) (fun _ _ _ h => h) (Or.inl ⟨by rfl, ?hy296⟩) (by assumption) ?rest296
    case hy296 => (intro w hSw; obtain ⟨p0,p1,p2⟩ := hSw; first | (go_simp; done) | (go_simp; simp [*]; done) | (simp [*]; go_simp; done))
    try simp only [Act.put, List.setIfInBounds_toArray, List.set_cons_zero, List.set_cons_succ]
    refine wpAnyH_ready (rs := [11, 14]) (by kernel_rfl) (by simp) ?_
    refine AllReadyH.cons (o := ⟨some 58, _, _, _, _, _⟩) rfl (fun K hK => ?_) (AllReadyH.cons (o := ⟨some 61, _, _, _, _, _⟩) rfl (fun K hK => ?_) AllReadyH.nil)
    · have cL := X2.out
      go_simp
      refine hK.out _ _ S2.out (fun hHeld => ?_)
      try simp only [Act.put, List.setIfInBounds_toArray, List.set_cons_zero, List.set_cons_succ]
      clear hK cL
      refine wpAnyH_ready (rs := [14]) (by kernel_rfl) (by simp) ?_
      refine AllReadyH.cons (o := ⟨some 61, _, _, _, _, _⟩) rfl (fun K hK => ?_) AllReadyH.nil
      go_simp
      try rw [hW3]
      refine hK.out _ _ S3.out (fun hHeld => ?_)
      try simp only [Act.put, List.setIfInBounds_toArray, List.set_cons_zero, List.set_cons_succ]
      clear hK
      refine wpAnyH_ready (rs := [15]) (by kernel_rfl) (by simp) ?_
      refine AllReadyH.cons (o := ⟨some 62, _, _, _, _, _⟩) rfl (fun K hK => ?_) AllReadyH.nil
      go_simp
      refine MI.out.mono ?_
      rintro _ w4 ⟨g', c', rfl, s4, cT, cF, hlast⟩
      obtain ⟨W5, hW5⟩ : ∃ W5, w4.setCell ⟨gt, m, none⟩ (.slice (some ⟨g', 0, none⟩) (lx + 1) c') = W5 := ⟨_, rfl⟩
      obtain ⟨s5, cT5, last1, last2⟩ := hlast.out W5 hW5.symm
      have T5 := keep cT5
      have L1 := keep last1
      have L2 := keep last2
      have S5 := keep s5
      clear hlast last1 last2 MI
      refine hK.out _ _ s4 (fun hHeld => ?_)
      try simp only [Act.put, List.setIfInBounds_toArray, List.set_cons_zero, List.set_cons_succ]
      clear hK s5 cT5 s4
      refine wpAnyH_take (i := 16) (oi := ⟨some 63, _, _, _, _, _⟩) (v := (.pointer (some ⟨gt, m, none⟩))) rfl (by kernel_rfl) (by kernel_rfl) (by kernel_rfl) (fun _ _ _ h => h) (Or.inl ⟨by rfl, ?hy297⟩) (by assumption) ?rest297
      case hy297 => (intro w hSw; first | (go_simp; done) | (go_simp; simp [*]; done) | (simp [*]; go_simp; done))
      try simp only [Act.put, List.setIfInBounds_toArray, List.set_cons_zero, List.set_cons_succ]
      refine wpAnyH_ready (rs := [17]) (by kernel_rfl) (by simp) ?_
      refine AllReadyH.cons (o := ⟨none, _, _, _, _, _⟩) rfl (fun K hK => ?_) AllReadyH.nil
      go_simp
      try rw [hW5]
      refine hK.out _ _ S5.out (fun hHeld => ?_)
      try simp only [Act.put, List.setIfInBounds_toArray, List.set_cons_zero, List.set_cons_succ]
      clear hK cT cF
      refine wpAnyH_done (by kernel_rfl) ?_ _
      clear hHeld
      have r5 := S5.out.1
      have t5 := T5.out
      by_cases hbig : 1024 < lx + 1
      · have hg1 : decide ((1024 : Int) < ((lx + 1 : Nat) : Int)) = true := decide_eq_true (by omega)
        have hg2 : (1024 : Int) < (lx : Int) + 1 := by omega
        have mP := L2.out hbig
        clear L1 L2
        go_wp2_with fail
        refine mP.mono ?_
        rintro _ w6 ⟨rfl, hz⟩
        have Z := keep hz
        clear hz mP
        go_wp2
        go_end0
        exact ⟨rfl, Z.out⟩
      · have hg1 : decide ((1024 : Int) < ((lx + 1 : Nat) : Int)) = false := decide_eq_false (by omega)
        have hg2 : ¬ (1024 : Int) < (lx : Int) + 1 := by omega
        have Z := keep (L1.out (by omega))
        clear L1 L2
        go_wp2
        go_end0
        exact ⟨rfl, Z.out⟩
    · go_simp
      try rw [hW3]
      refine hK.out _ _ S3.out (fun hHeld => ?_)
      try simp only [Act.put, List.setIfInBounds_toArray, List.set_cons_zero, List.set_cons_succ]
      clear hK
      have cL := X3.out
      refine wpAnyH_ready (rs := [11]) (by kernel_rfl) (by simp) ?_
      refine AllReadyH.cons (o := ⟨some 58, _, _, _, _, _⟩) rfl (fun K hK => ?_) AllReadyH.nil
      go_simp
      refine hK.out _ _ S3.out (fun hHeld => ?_)
      try simp only [Act.put, List.setIfInBounds_toArray, List.set_cons_zero, List.set_cons_succ]
      clear hK cL
      refine wpAnyH_ready (rs := [15]) (by kernel_rfl) (by simp) ?_
      refine AllReadyH.cons (o := ⟨some 62, _, _, _, _, _⟩) rfl (fun K hK => ?_) AllReadyH.nil
      go_simp
      refine MI.out.mono ?_
      rintro _ w4 ⟨g', c', rfl, s4, cT, cF, hlast⟩
      obtain ⟨W5, hW5⟩ : ∃ W5, w4.setCell ⟨gt, m, none⟩ (.slice (some ⟨g', 0, none⟩) (lx + 1) c') = W5 := ⟨_, rfl⟩
      obtain ⟨s5, cT5, last1, last2⟩ := hlast.out W5 hW5.symm
      have T5 := keep cT5
      have L1 := keep last1
      have L2 := keep last2
      have S5 := keep s5
      clear hlast last1 last2 MI
      refine hK.out _ _ s4 (fun hHeld => ?_)
      try simp only [Act.put, List.setIfInBounds_toArray, List.set_cons_zero, List.set_cons_succ]
      clear hK s5 cT5 s4
      refine wpAnyH_take (i := 16) (oi := ⟨some 63, _, _, _, _, _⟩) (v := (.pointer (some ⟨gt, m, none⟩))) rfl (by kernel_rfl) (by kernel_rfl) (by kernel_rfl) (fun _ _ _ h => h) (Or.inl ⟨by rfl, ?hy298⟩) (by assumption) ?rest298
      case hy298 => (intro w hSw; first | (go_simp; done) | (go_simp; simp [*]; done) | (simp [*]; go_simp; done))
      try simp only [Act.put, List.setIfInBounds_toArray, List.set_cons_zero, List.set_cons_succ]
      refine wpAnyH_ready (rs := [17]) (by kernel_rfl) (by simp) ?_
      refine AllReadyH.cons (o := ⟨none, _, _, _, _, _⟩) rfl (fun K hK => ?_) AllReadyH.nil
      go_simp
      try rw [hW5]
      refine hK.out _ _ S5.out (fun hHeld => ?_)
      try simp only [Act.put, List.setIfInBounds_toArray, List.set_cons_zero, List.set_cons_succ]
      clear hK cT cF
      refine wpAnyH_done (by kernel_rfl) ?_ _
      clear hHeld
      have r5 := S5.out.1
      have t5 := T5.out
      by_cases hbig : 1024 < lx + 1
      · have hg1 : decide ((1024 : Int) < ((lx + 1 : Nat) : Int)) = true := decide_eq_true (by omega)
        have hg2 : (1024 : Int) < (lx : Int) + 1 := by omega
        have mP := L2.out hbig
        clear L1 L2
        go_wp2_with fail
        refine mP.mono ?_
        rintro _ w6 ⟨rfl, hz⟩
        have Z := keep hz
        clear hz mP
        go_wp2
        go_end0
        exact ⟨rfl, Z.out⟩
      · have hg1 : decide ((1024 : Int) < ((lx + 1 : Nat) : Int)) = false := decide_eq_false (by omega)
        have hg2 : ¬ (1024 : Int) < (lx : Int) + 1 := by omega
        have Z := keep (L1.out (by omega))
        clear L1 L2
        go_wp2
        go_end0
        exact ⟨rfl, Z.out⟩
  · have he1 : ((i : Int) == (n : Int)) = false := beq_eq_false_iff_ne.2 (by omega)
    have he2 : ¬ (i : Int) = (n : Int) := by omega
    obtain ⟨⟨a1, a2, a3, a4⟩, mI⟩ := TL.out w2 i p x hbw2 hhe hx hp hPl
    have MI := keep mI.out
    obtain ⟨gx, cx, mx⟩ := x
    dsimp only at a2 a4 MI
    obtain ⟨lx, hlx⟩ : ∃ lx, mx.length = lx := ⟨_, rfl⟩
    rw [hlx] at a2 a4 MI

    have i0 : (0 : Int) ≤ (i : Int) := by omega
    have i1 : (i : Int) < (n : Int) := by omega
    have A4 := keep a4
    have S2 : Kept (w2.drew.cell? ⟨R, 2, none⟩ = some (.slice (some ⟨gt, 0, none⟩) n c) ∧ w2.drew.cell? ⟨w.heap.size, 0, none⟩ = some (.string e1) ∧ w2.drew.cell? ⟨w.heap.size, 1, none⟩ = some (.float .f64 e2)) := ⟨a1, b0, b1⟩
    obtain ⟨W3, hW3⟩ : ∃ W3, w2.drew.alloc (.cells #[.string e1, .float .f64 e2] 73) = W3 := ⟨_, rfl⟩
    have hb3 : Below w2.heap.size w2 W3 := by rw [← hW3]; exact (Below.refl _ w2).drew.alloc (Nat.le_refl _) _
    have S3 : Kept (W3.cell? ⟨R, 2, none⟩ = some (.slice (some ⟨gt, 0, none⟩) n c) ∧ W3.cell? ⟨w.heap.size, 0, none⟩ = some (.string e1) ∧ W3.cell? ⟨w.heap.size, 1, none⟩ = some (.float .f64 e2)) := ⟨(hb3.cell (p := ⟨R, 2, none⟩) (World.block_lt_of_cell? _ _ a1)).trans a1, (hb3.cell (p := ⟨w.heap.size, 0, none⟩) (World.block_lt_of_cell? _ _ b0)).trans b0, (hb3.cell (p := ⟨w.heap.size, 1, none⟩) (World.block_lt_of_cell? _ _ b1)).trans b1⟩
    have X2 : Kept (w2.drew.cell? ⟨gt, i, none⟩ = some (.slice (some ⟨gx, 0, none⟩) lx cx)) := a2
    have X3 : Kept (W3.cell? ⟨gt, i, none⟩ = some (.slice (some ⟨gx, 0, none⟩) lx cx)) := (hb3.cell (p := ⟨gt, i, none⟩) (World.block_lt_of_cell? _ _ a2)).trans a2
    rw [hW3] at MI
    clear hx hPl hbw2 hhe mI hb3 a4 hb02 hb2 TL PM hsk hp hin a3
    go_wp2_with fail
    refine wp_region_held_drew (S := fun W => W.cell? ⟨R, 2, none⟩ = some (.slice (some ⟨gt, 0, none⟩) n c) ∧ W.cell? ⟨w.heap.size, 0, none⟩ = some (.string e1) ∧ W.cell? ⟨w.heap.size, 1, none⟩ = some (.float .f64 e2)) (by kernel_rfl) S2.out (fun hHeld => ?_)
    refine wpAnyH_take (i := 0) (oi := ⟨some 47, _, _, _, _, _⟩) (v := ?v299) rfl (by kernel_rfl) (by kernel_rfl) (by kernel_rfl) (fun _ _ _ h => h) (Or.inl ⟨by rfl, ?hy299⟩) (by assumption) ?rest299
    case hy299 => (intro w hSw; obtain ⟨p0,p1,p2⟩ := hSw; go_simp; try with_reducible rfl)
    try simp only [Act.put, List.setIfInBounds_toArray, List.set_cons_zero, List.set_cons_succ]
    refine wpAnyH_take (i := 1) (oi := ⟨some 48, _, _, _, _, _⟩) (v := ?v300) rfl (by kernel_rfl) (by kernel_rfl) (by kernel_rfl) (fun _ _ _ h => h) (Or.inl ⟨by rfl, ?hy300⟩) (by assumption) ?rest300
    case hy300 => (intro w hSw; obtain ⟨p0,p1,p2⟩ := hSw; go_simp; try with_reducible rfl)
    try simp only [Act.put, List.setIfInBounds_toArray, List.set_cons_zero, List.set_cons_succ]
    refine wpAnyH_take (i := 2) (oi := ⟨some 49, _, _, _, _, _⟩) (v := ?v301) rfl (by kernel_rfl) (by kernel_rfl) (by kernel_rfl) (fun _ _ _ h => h) (Or.inl ⟨by rfl, ?hy301⟩) (by assumption) ?rest301
    case hy301 => (intro w hSw; obtain ⟨p0,p1,p2⟩ := hSw; go_simp; try with_reducible rfl)
    try simp only [Act.put, List.setIfInBounds_toArray, List.set_cons_zero, List.set_cons_succ]
    refine wpAnyH_take (i := 3) (oi := ⟨some 50, _, _, _, _, _⟩) (v := ?v302) rfl (by kernel_rfl) (by kernel_rfl) (by kernel_rfl) (fun _ _ _ h => h) (Or.inl ⟨by rfl, ?hy302⟩) (by assumption) ?rest302
    case hy302 => (intro w hSw; obtain ⟨p0,p1,p2⟩ := hSw; go_simp; try with_reducible rfl)
    try simp only [Act.put, List.setIfInBounds_toArray, List.set_cons_zero, List.set_cons_succ]
    refine wpAnyH_take (i := 4) (oi := ⟨some 51, _, _, _, _, _⟩) (v := ?v303) rfl (by kernel_rfl) (by kernel_rfl) (by kernel_rfl) (fun _ _ _ h => h) (Or.inl ⟨by rfl, ?hy303⟩) (by assumption) ?rest303
    case hy303 => (intro w hSw; obtain ⟨p0,p1,p2⟩ := hSw; go_simp; try with_reducible rfl)
    try simp only [Act.put, List.setIfInBounds_toArray, List.set_cons_zero, List.set_cons_succ]
    refine wpAnyH_take (i := 5) (oi := ⟨some 52, _, _, _, _, _⟩) (v := ?v304) rfl (by kernel_rfl) (by kernel_rfl) (by kernel_rfl) (fun _ _ _ h => h) (Or.inl ⟨by rfl, ?hy304⟩) (by assumption) ?rest304
    case hy304 => (intro w hSw; obtain ⟨p0,p1,p2⟩ := hSw; go_simp; try with_reducible rfl)
    try simp only [Act.put, List.setIfInBounds_toArray, List.set_cons_zero, List.set_cons_succ]
    refine wpAnyH_take (i := 6) (oi := ⟨some 53, _, _, _, _, _⟩) (v := ?v305) rfl (by kernel_rfl) (by kernel_rfl) (by kernel_rfl) (fun _ _ _ h => h) (Or.inl ⟨by rfl, ?hy305⟩) (by assumption) ?rest305
    case hy305 => (intro w hSw; obtain ⟨p0,p1,p2⟩ := hSw; go_simp; try with_reducible rfl)
    try simp only [Act.put, List.setIfInBounds_toArray, List.set_cons_zero, List.set_cons_succ]
    refine wpAnyH_take (i := 7) (oi := ⟨some 54, _, _, _, _, _⟩) (v := ?v306) rfl (by kernel_rfl) (by kernel_rfl) (by kernel_rfl) (fun _ _ _ h => h) (Or.inl ⟨by rfl, ?hy306⟩) (by assumption) ?rest306
    case hy306 => (intro w hSw; obtain ⟨p0,p1,p2⟩ := hSw; go_simp; try with_reducible rfl)
    try simp only [Act.put, List.setIfInBounds_toArray, List.set_cons_zero, List.set_cons_succ]
    refine wpAnyH_take (i := 8) (oi := ⟨some 55, _, _, _, _, _⟩) (v := ?v307) rfl (by kernel_rfl) (by kernel_rfl) (by kernel_rfl) (fun _ _ _ h => h) (Or.inl ⟨by rfl, ?hy307⟩) (by assumption) ?rest307
    case hy307 => (intro w hSw; obtain ⟨p0,p1,p2⟩ := hSw; go_simp; try with_reducible rfl)
    try simp only [Act.put, List.setIfInBounds_toArray, List.set_cons_zero, List.set_cons_succ]
    refine wpAnyH_take (i := 9) (oi := ⟨some 56, _, _, _, _, _⟩) (v := ?v308) rfl (by kernel_rfl) (by kernel_rfl) (by kernel_rfl) (fun _ _ _ h => h) (Or.inl ⟨by rfl, ?hy308⟩) (by assumption) ?rest308
    case hy308 => (intro w hSw; obtain ⟨p0,p1,p2⟩ := hSw; go_simp; try with_reducible rfl)
    try simp only [Act.put, List.setIfInBounds_toArray, List.set_cons_zero, List.set_cons_succ]
    refine wpAnyH_take (i := 10) (oi := ⟨some 57, _, _, _, _, _⟩) (v := (.pointer (some ⟨gt, i, none⟩))) rfl (by kernel_rfl) (by kernel_rfl) (by kernel_rfl) (fun _ _ _ h => h) (Or.inl ⟨by rfl, ?hy309⟩) (by assumption) ?rest309
    case hy309 => (intro w hSw; obtain ⟨p0,p1,p2⟩ := hSw; first | (go_simp; done) | (go_simp; simp [*]; done) | (simp [*]; go_simp; done))
    try simp only [Act.put, List.setIfInBounds_toArray, List.set_cons_zero, List.set_cons_succ]
    refine wpAnyH_take (i := 12) (oi := ⟨some 59, _, _, _, _, _⟩) (v := ?v310) rfl (by kernel_rfl) (by kernel_rfl) (by kernel_rfl) (fun _ _ _ h => h) (Or.inl ⟨by rfl, ?hy310⟩) (by assumption) ?rest310
    case hy310 => (intro w hSw; obtain ⟨p0,p1,p2⟩ := hSw; go_simp; try with_reducible rfl)
    try simp only [Act.put, List.setIfInBounds_toArray, List.set_cons_zero, List.set_cons_succ]
    refine wpAnyH_take (i := 13) (oi := ⟨some 60, _, _, _, _, _⟩) (v := (.agg #[.string e1, .float .f64 e2])) rfl (by kernel_rfl) (by kernel_rfl) (by kernel_rfl) (fun _ _ _ h => h) (Or.inl ⟨by rfl, ?hy311⟩) (by assumption) ?rest311
    case hy311 => (intro w hSw; obtain ⟨p0,p1,p2⟩ := hSw; first | (go_simp; done) | (go_simp; simp [*]; done) | (simp [*]; go_simp; done))
    try simp only [Act.put, List.setIfInBounds_toArray, List.set_cons_zero, List.set_cons_succ]
    refine wpAnyH_ready (rs := [11, 14]) (by kernel_rfl) (by simp) ?_
    refine AllReadyH.cons (o := ⟨some 58, _, _, _, _, _⟩) rfl (fun K hK => ?_) (AllReadyH.cons (o := ⟨some 61, _, _, _, _, _⟩) rfl (fun K hK => ?_) AllReadyH.nil)
    · have cL := X2.out
      go_simp
      refine hK.out _ _ S2.out (fun hHeld => ?_)
      try simp only [Act.put, List.setIfInBounds_toArray, List.set_cons_zero, List.set_cons_succ]
      clear hK cL
      refine wpAnyH_ready (rs := [14]) (by kernel_rfl) (by simp) ?_
      refine AllReadyH.cons (o := ⟨some 61, _, _, _, _, _⟩) rfl (fun K hK => ?_) AllReadyH.nil
      go_simp
      try rw [hW3]
      refine hK.out _ _ S3.out (fun hHeld => ?_)
      try simp only [Act.put, List.setIfInBounds_toArray, List.set_cons_zero, List.set_cons_succ]
      clear hK
      refine wpAnyH_ready (rs := [15]) (by kernel_rfl) (by simp) ?_
      refine AllReadyH.cons (o := ⟨some 62, _, _, _, _, _⟩) rfl (fun K hK => ?_) AllReadyH.nil
      go_simp
      refine MI.out.mono ?_
      rintro _ w4 ⟨g', c', rfl, s4, cT, cF, hlast⟩
      obtain ⟨W5, hW5⟩ : ∃ W5, w4.setCell ⟨gt, i, none⟩ (.slice (some ⟨g', 0, none⟩) (lx + 1) c') = W5 := ⟨_, rfl⟩
      obtain ⟨s5, cT5, last1, last2⟩ := hlast.out W5 hW5.symm
      have T5 := keep cT5
      have L1 := keep last1
      have L2 := keep last2
      have S5 := keep s5
      clear hlast last1 last2 MI
      refine hK.out _ _ s4 (fun hHeld => ?_)
      try simp only [Act.put, List.setIfInBounds_toArray, List.set_cons_zero, List.set_cons_succ]
      clear hK s5 cT5 s4
      refine wpAnyH_take (i := 16) (oi := ⟨some 63, _, _, _, _, _⟩) (v := (.pointer (some ⟨gt, i, none⟩))) rfl (by kernel_rfl) (by kernel_rfl) (by kernel_rfl) (fun _ _ _ h => h) (Or.inl ⟨by rfl, ?hy312⟩) (by assumption) ?rest312
      case hy312 => (intro w hSw; first | (go_simp; done) | (go_simp; simp [*]; done) | (simp [*]; go_simp; done))
      try simp only [Act.put, List.setIfInBounds_toArray, List.set_cons_zero, List.set_cons_succ]
      refine wpAnyH_ready (rs := [17]) (by kernel_rfl) (by simp) ?_
      refine AllReadyH.cons (o := ⟨none, _, _, _, _, _⟩) rfl (fun K hK => ?_) AllReadyH.nil
      go_simp
      try rw [hW5]
      refine hK.out _ _ S5.out (fun hHeld => ?_)
      try simp only [Act.put, List.setIfInBounds_toArray, List.set_cons_zero, List.set_cons_succ]
      clear hK cT cF
      refine wpAnyH_done (by kernel_rfl) ?_ _
      clear hHeld
      have r5 := S5.out.1
      have t5 := T5.out
      by_cases hbig : 1024 < lx + 1
      · have hg1 : decide ((1024 : Int) < ((lx + 1 : Nat) : Int)) = true := decide_eq_true (by omega)
        have hg2 : (1024 : Int) < (lx : Int) + 1 := by omega
        have mP := L2.out hbig
        clear L1 L2
        go_wp2_with fail
        refine mP.mono ?_
        rintro _ w6 ⟨rfl, hz⟩
        have Z := keep hz
        clear hz mP
        go_wp2
        go_end0
        exact ⟨rfl, Z.out⟩
      · have hg1 : decide ((1024 : Int) < ((lx + 1 : Nat) : Int)) = false := decide_eq_false (by omega)
        have hg2 : ¬ (1024 : Int) < (lx : Int) + 1 := by omega
        have Z := keep (L1.out (by omega))
        clear L1 L2
        go_wp2
        go_end0
        exact ⟨rfl, Z.out⟩
    · go_simp
      try rw [hW3]
      refine hK.out _ _ S3.out (fun hHeld => ?_)
      try simp only [Act.put, List.setIfInBounds_toArray, List.set_cons_zero, List.set_cons_succ]
      clear hK
      have cL := X3.out
      refine wpAnyH_ready (rs := [11]) (by kernel_rfl) (by simp) ?_
      refine AllReadyH.cons (o := ⟨some 58, _, _, _, _, _⟩) rfl (fun K hK => ?_) AllReadyH.nil
      go_simp
      refine hK.out _ _ S3.out (fun hHeld => ?_)
      try simp only [Act.put, List.setIfInBounds_toArray, List.set_cons_zero, List.set_cons_succ]
      clear hK cL
      refine wpAnyH_ready (rs := [15]) (by kernel_rfl) (by simp) ?_
      refine AllReadyH.cons (o := ⟨some 62, _, _, _, _, _⟩) rfl (fun K hK => ?_) AllReadyH.nil
      go_simp
      refine MI.out.mono ?_
      rintro _ w4 ⟨g', c', rfl, s4, cT, cF, hlast⟩
      obtain ⟨W5, hW5⟩ : ∃ W5, w4.setCell ⟨gt, i, none⟩ (.slice (some ⟨g', 0, none⟩) (lx + 1) c') = W5 := ⟨_, rfl⟩
      obtain ⟨s5, cT5, last1, last2⟩ := hlast.out W5 hW5.symm
      have T5 := keep cT5
      have L1 := keep last1
      have L2 := keep last2
      have S5 := keep s5
      clear hlast last1 last2 MI
      refine hK.out _ _ s4 (fun hHeld => ?_)
      try simp only [Act.put, List.setIfInBounds_toArray, List.set_cons_zero, List.set_cons_succ]
      clear hK s5 cT5 s4
      refine wpAnyH_take (i := 16) (oi := ⟨some 63, _, _, _, _, _⟩) (v := (.pointer (some ⟨gt, i, none⟩))) rfl (by kernel_rfl) (by kernel_rfl) (by kernel_rfl) (fun _ _ _ h => h) (Or.inl ⟨by rfl, ?hy313⟩) (by assumption) ?rest313
      case hy313 => (intro w hSw; first | (go_simp; done) | (go_simp; simp [*]; done) | (simp [*]; go_simp; done))
      try simp only [Act.put, List.setIfInBounds_toArray, List.set_cons_zero, List.set_cons_succ]
      refine wpAnyH_ready (rs := [17]) (by kernel_rfl) (by simp) ?_
      refine AllReadyH.cons (o := ⟨none, _, _, _, _, _⟩) rfl (fun K hK => ?_) AllReadyH.nil
      go_simp
      try rw [hW5]
      refine hK.out _ _ S5.out (fun hHeld => ?_)
      try simp only [Act.put, List.setIfInBounds_toArray, List.set_cons_zero, List.set_cons_succ]
      clear hK cT cF
      refine wpAnyH_done (by kernel_rfl) ?_ _
      clear hHeld
      have r5 := S5.out.1
      have t5 := T5.out
      by_cases hbig : 1024 < lx + 1
      · have hg1 : decide ((1024 : Int) < ((lx + 1 : Nat) : Int)) = true := decide_eq_true (by omega)
        have hg2 : (1024 : Int) < (lx : Int) + 1 := by omega
        have mP := L2.out hbig
        clear L1 L2
        go_wp2_with fail
        refine mP.mono ?_
        rintro _ w6 ⟨rfl, hz⟩
        have Z := keep hz
        clear hz mP
        go_wp2
        go_end0
        exact ⟨rfl, Z.out⟩
      · have hg1 : decide ((1024 : Int) < ((lx + 1 : Nat) : Int)) = false := decide_eq_false (by omega)
        have hg2 : ¬ (1024 : Int) < (lx : Int) + 1 := by omega
        have Z := keep (L1.out (by omega))
        clear L1 L2
        go_wp2
        go_end0
        exact ⟨rfl, Z.out⟩
end Go.Proofs.YtmgeaanbgjbkcaaGreat.DF
