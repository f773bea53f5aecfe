/-
  The walk of DictRanged: what is changed while a dict is ranged over is not seen.
-/
import Derived.Test.YtcdcdodhpnmhpaaDictRange0
import Derived.Laws.OwnMore
namespace Go.Proofs.Ytcdcdodhpnmhpaa
open Go.RowKit Go.Shelf
attribute [local go_sem] Oper.semAt_some
/-- a list's entries are laid into a slice that has room for them -/
theorem app_list (w : World) (B G : Nat) (ao : Option Addr) (n cap : Nat) (l : List Ent) (hln : l.length = n) (hY : Lie w (.slice ao n cap) l) (hown : w.ownsRow B 51 2 (.slice (some ⟨G, 0, none⟩) 0 n) 0 []) :
    ∃ w', (Builtin.append_ #[40, 40] 40 #[.slice (some ⟨G, 0, none⟩) 0 n, .slice ao n cap]).run Try.prog w = .ok (.slice (some ⟨G, 0, none⟩) n n) w' ∧ w'.ownsRow B 51 2 (.slice (some ⟨G, 0, none⟩) n n) n (enL l) ∧ w.grownBy w' (some G) := by
  obtain ⟨i0, hi0, hze, hzs, hzb⟩ := info_parts info_entry5
  have add : ∀ g i, (⟨g, 0, none⟩ : Addr).add i = ⟨g, i, none⟩ := by intro g i; unfold Addr.add; split <;> simp_all
  have h1 : ∀ u ∈ enL l, u.oneCell' = true := fun u hu => by
    unfold enL at hu
    obtain ⟨e, _, he⟩ := List.mem_flatMap.1 hu
    simp only [enE, List.mem_cons, List.not_mem_nil, or_false] at he
    rcases he with rfl | rfl <;> rfl
  unfold Lie at hY
  rcases hY.2 with ⟨e, h0⟩ | ⟨g, cap', cur, e, _⟩
  · injection e with e1 e2 e3
    subst e1 e2 e3
    have hl0 : l = [] := List.length_eq_zero_iff.1 h0
    subst hl0
    exact ⟨w, run_append_owned_none (P := Try.prog) (w := w) B _ _ 51 i0 2 Try.underlying40 hi0 _ 0 [] hown, hown, ⟨rfl, rfl, rfl, Nat.le_refl _, fun _ _ _ => rfl⟩⟩
  · injection e with e1 e2 e3
    subst e1 e3
    obtain ⟨w', hr, ho, hg⟩ := run_append_fits (P := Try.prog) w B 40 40 51 i0 2 Try.underlying40 hi0 hzs G 0 n [] hown ⟨g, 0, none⟩ n cap (enL l) (by rw [enL_len, hln]) (fun j u hu => hY.cells (g := g) rfl j u hu) h1 (by omega)
    rw [Nat.zero_add] at hr ho
    exact ⟨w', hr, ho, hg⟩
theorem each_some (Bd : Nat) (w : World) : (binOp .eql 48 (.func (.func 52) #[] #[.pointer (some ⟨Bd, 0, none⟩)]) .nilFunc).run Try.prog w = .ok (.bool false) w := by
  have e : (Op.equal 48 (.func (.func 52) #[] #[.pointer (some ⟨Bd, 0, none⟩)]) .nilFunc).run Try.prog w = .ok false w := by
    unfold Op.equal
    have e1 : Op.maxDepth = 9999 + 1 := rfl
    rw [e1]
    unfold Op.equalIn
    simp [run_underlying Try.underlying48]
  simp [binOp, go_sem, e]
set_option maxRecDepth 100000 in
set_option maxHeartbeats 2000000 in
theorem ranged_walk {h : ByteArray → Nat} (W : World) (seed : Nat) (hH : HashIs seed h) (so : Option Addr) (cs : Nat) (S : List Stp) (hS : Steps W so S) (hn : S.length ≤ 1048576) (so2 : Option Addr) (cs2 : Nat) (S2 : List Stp) (hS2 : Steps W so2 S2) (hn2 : S2.length ≤ 1048576) :
    Calls Try.prog 6 #[.int .u64 seed, .slice so S.length cs, .slice so2 S2.length cs2] W fun e w' => e = .returned (.bool true) ∧ Below W.heap.size W w' := by
  obtain ⟨L, hL⟩ : ∃ L, S.length = L := ⟨_, rfl⟩
  obtain ⟨L2, hL2⟩ : ∃ L, S2.length = L := ⟨_, rfl⟩
  rw [hL] at hn ⊢
  rw [hL2] at hn2 ⊢
  have HL := keep hL
  have HS := keep hS
  have HL2 := keep hL2
  have HS2 := keep hS2
  clear hL hS hL2 hS2
  refine callsIn_wide (n := 9) |>.1 (callsIn_of_wp_marks Try.func6 rfl trivial (wpIn_wide.2 ?_) rfl)
  simp only [Try.ntmps6, List.size_toArray, List.length_cons, List.length_nil, Nat.reduceAdd, Nat.reduceSub, Array.replicate_succ, Array.replicate_zero, List.push_toArray, List.append_toArray, List.nil_append, List.cons_append]
  go_wp2_with fail
  refine (wakes_any _).mono ?_
  rintro _ w2 ⟨rfl, hb2⟩
  have hbW : Below W.heap.size W ((W.alloc (.cells #[.slice so2 L2 cs2] 23)).alloc (.cells #[.bool false] 4)) := ((Below.refl _ W).alloc (Nat.le_refl _) _).alloc (by simp) _
  have hW5 : ((W.alloc (.cells #[.slice so2 L2 cs2] 23)).alloc (.cells #[.bool false] 4)).heap[W.heap.size]? = some (.cells #[.slice so2 L2 cs2] 23 (0, 0)) := by rw [Below.heap_alloc _ _ _ (by simp)]; exact heap_alloc_new _ _
  have hW6 : ((W.alloc (.cells #[.slice so2 L2 cs2] 23)).alloc (.cells #[.bool false] 4)).heap[W.heap.size + 1]? = some (.cells #[.bool false] 4 (0, 0)) := by
    have := heap_alloc_new (W.alloc (.cells #[.slice so2 L2 cs2] 23)) (.cells #[.bool false] 4)
    rwa [World.size_alloc] at this
  have hz2 : W.heap.size + 2 ≤ w2.heap.size := by have := hb2.size; simpa using this
  have hbW2 : Below W.heap.size W w2 := hbW.trans (hb2.mono hbW.size)
  have h25 := (hb2.block W.heap.size (by simp; omega)).trans hW5
  have h26 := (hb2.block (W.heap.size + 1) (by simp)).trans hW6
  clear hbW hW5 hW6 hb2
  go_wp2_with fail
  refine (new_any h w2 seed 0).mono ?_
  rintro _ w3 ⟨rfl, hb3, hz3, hd3⟩
  have hBo := both_new hbW2 hb3 hd3
  obtain ⟨b, hb⟩ : ∃ x, x = w2.heap.size := ⟨_, rfl⟩
  obtain ⟨w4, hw4⟩ : ∃ w4, (w3.alloc (.cells #[.pointer (some ⟨b, 0, none⟩)] 24)).alloc (.cells #[.slice none 0 0] 40) = w4 := ⟨_, rfl⟩
  have hb4 : Below w3.heap.size w3 w4 := by rw [← hw4]; exact ((Below.refl _ w3).alloc (Nat.le_refl _) _).alloc (by simp) _
  have h47 : w4.heap[w3.heap.size]? = some (.cells #[.pointer (some ⟨b, 0, none⟩)] 24 (0, 0)) := by rw [← hw4, Below.heap_alloc _ _ _ (by simp)]; exact heap_alloc_new _ _
  have h48 : w4.heap[w3.heap.size + 1]? = some (.cells #[.slice none 0 0] 40 (0, 0)) := by
    rw [← hw4]
    have := heap_alloc_new (w3.alloc (.cells #[.pointer (some ⟨b, 0, none⟩)] 24)) (.cells #[.slice none 0 0] 40)
    rwa [World.size_alloc] at this
  have hrz : ∀ k, k ≠ w2.heap.size → role (fun k => if k = w2.heap.size then (5, 0) else (0, 0)) (.slice none 0 0) (7, 0) k = (0, 0) := fun k hk => by
    refine role_zero.2 ⟨by simp [Value.ownBlock], ?_⟩
    show (if _ then _ else _) = _
    rw [if_neg hk]
  obtain ⟨bx, hbx⟩ : ∃ bx : List (Nat × Obj), bx = [(W.heap.size, .cells #[.slice so2 L2 cs2] 23 (0, 0)), (W.heap.size + 1, .cells #[.bool false] 4 (0, 0)), (w3.heap.size, .cells #[.pointer (some ⟨b, 0, none⟩)] 24 (0, 0))] := ⟨_, rfl⟩
  have hR0 : RgL h 0 W b seed (w3.heap.size + 1) bx (fun k => if k = w2.heap.size then (5, 0) else (0, 0)) Dc.none0 (.slice none 0 0) [] w4 := by
    rw [hb]
    refine ⟨hBo.below hb4, ⟨h48, hrz _ (by omega), by omega⟩, fun x hx => ?_, fun x hx => ?_⟩
    · rw [hbx] at hx
      simp only [List.mem_cons, List.not_mem_nil, or_false] at hx
      rcases hx with rfl | rfl | rfl
      · exact ⟨(hb4.block _ (by show W.heap.size < _; omega)).trans ((hb3.block _ (by show W.heap.size < _; omega)).trans h25), hrz _ (by show W.heap.size ≠ _; omega)⟩
      · exact ⟨(hb4.block _ (by show W.heap.size + 1 < _; omega)).trans ((hb3.block _ (by show W.heap.size + 1 < _; omega)).trans h26), hrz _ (by show W.heap.size + 1 ≠ _; omega)⟩
      · exact ⟨h47, hrz _ (by show w3.heap.size ≠ _; omega)⟩
    · rw [hbx] at hx
      simp only [List.mem_cons, List.not_mem_nil, or_false] at hx
      rcases hx with rfl | rfl | rfl
      · show W.heap.size ≠ _; omega
      · show W.heap.size + 1 ≠ _; omega
      · show w3.heap.size ≠ _; omega
  have HR0 := keep hR0
  have HBX := keep hbx
  generalize (fun k => if k = w2.heap.size then (5, 0) else (0, 0) : Roles) = r0 at HR0
  obtain ⟨Db, hDb⟩ : ∃ x, w3.heap.size = x := ⟨_, rfl⟩
  rw [hDb] at HR0 HBX
  rw [← hb] at *
  clear h25 h26 hb3 hz3 hd3 hBo hb4 h47 h48 hrz hR0 hbx hbW2
  go_wp2
  have BX : Kept (∀ (N : Nat) (r : Roles) (s : Dc.St ByteArray Int) (lv : Value) (l : List Ent) (bx' : List (Nat × Obj)) (w : World), RgL h N W b seed (Db + 1) (bx ++ bx') r s lv l w → w.cell? ⟨Db, 0, none⟩ = some (.pointer (some ⟨b, 0, none⟩)) ∧ w.cell? ⟨Db + 1, 0, none⟩ = some lv ∧ w.cell? ⟨W.heap.size, 0, none⟩ = some (.slice so2 L2 cs2) ∧ w.heap[W.heap.size + 1]? = some (.cells #[.bool false] 4 (0, 0))) := fun N r s lv l bx' w hR => by
    have q1 := (hR.2.2.1 (Db, .cells #[.pointer (some ⟨b, 0, none⟩)] 24 (0, 0)) (List.mem_append_left _ (by rw [HBX.out]; simp))).1
    have q2 := (hR.2.2.1 (W.heap.size, .cells #[.slice so2 L2 cs2] 23 (0, 0)) (List.mem_append_left _ (by rw [HBX.out]; simp))).1
    have q3 := (hR.2.2.1 (W.heap.size + 1, .cells #[.bool false] 4 (0, 0)) (List.mem_append_left _ (by rw [HBX.out]; simp))).1
    exact ⟨by rw [cell_of_row _ _ _ _ _ _ q1]; rfl, by rw [cell_of_row _ _ _ _ _ _ hR.2.1.1]; rfl, by rw [cell_of_row _ _ _ _ _ _ q2]; rfl, q3⟩
  clear hDb hw4 hb
  go_loopw [32] (fun i wr => ∃ k : Nat, k ≤ L ∧ i = .int .i64 k ∧ ∃ r s lv l, Kept (RgL h k W b seed (Db + 1) bx r s lv l wr)) (fun i _ => L - (intOf i).toNat)
  case atStart => exact ⟨0, Nat.zero_le _, rfl, r0, _, _, _, HR0⟩
  case round =>
    obtain ⟨k, hk, rfl, r, s, lv, l, PR⟩ := hrel
    by_cases hlt : k < L
    · have hltz : (k : Int) < (L : Int) := by omega
      obtain ⟨a, rfl, hab, hkyo, _, hst0⟩ := HS.out k (by rw [HL.out]; exact hlt)
      have hst := hst0.bel PR.out.1.2.2.2.2.1 (by rw [add_block]; exact hab)
      clear hst0
      generalize S[k]'(by rw [HL.out]; exact hlt) = o at hst hkyo
      have hbx := (Below.refl wr.heap.size wr).alloc (Nat.le_refl _) (.cells o.cells 33)
      have PB := keep (PR.out.below hbx)
      obtain ⟨t0, t1, t2, t3, t4, t5⟩ := hst
      have mD := does_any hH (wr.alloc (.cells o.cells 33)) r b s lv l o PB.out.1.1 (by omega) hkyo PB.out.1.2.1 PB.out.1.2.2.1 PB.out.1.2.2.2.1
      have HDN := keep (fun e w' hh => PB.out.done (o := o) (e := e) (w' := w') hh)
      obtain ⟨d0, d1, _, _⟩ := BX.out _ _ _ _ _ [] _ (by rw [List.append_nil]; exact PB.out)
      obtain ⟨ao, cap, rfl, _⟩ := PB.out.1.2.2.1.form
      clear hbx PR
      obtain ⟨who, op, nn, v, ky, R⟩ := o
      unfold Stp.cells at mD PB HDN d0 d1
      dsimp only at t0 t1 t2 t3 t4 t5 mD PB HDN
      have hbxc : ∀ (i : Nat) (hi : i < 6), (wr.alloc (.cells #[.int .i64 who, .int .i64 op, .int .i64 nn, .int .i64 v, .string ky, .int .u64 R] 33)).cell? ⟨wr.heap.size, i, none⟩ = some (#[Value.int .i64 who, .int .i64 op, .int .i64 nn, .int .i64 v, .string ky, .int .u64 R][i]'hi) := fun i hi => by
        rw [cell_of_row _ _ _ _ _ _ (heap_alloc_new _ _)]; exact Array.getElem?_eq_getElem hi
      have b0 := hbxc 0 (by omega)
      have b1 := hbxc 1 (by omega)
      have b2 := hbxc 2 (by omega)
      have b3 := hbxc 3 (by omega)
      have b4 := hbxc 4 (by omega)
      have b5 := hbxc 5 (by omega)
      clear hbxc
      obtain ⟨W1, hW1⟩ : ∃ W1, wr.alloc (.cells #[.int .i64 who, .int .i64 op, .int .i64 nn, .int .i64 v, .string ky, .int .u64 R] 33) = W1 := ⟨_, rfl⟩
      obtain ⟨X, hX⟩ : ∃ x, wr.heap.size = x := ⟨_, rfl⟩
      rw [hW1] at mD PB HDN b0 b1 b2 b3 b4 b5 d0 d1
      rw [hX] at b0 b1 b2 b3 b4 b5
      obtain ⟨wo, hwo⟩ : ∃ x, x = wr := ⟨_, rfl⟩
      subst hwo
      go_wp2_with fail
      refine mD.mono ?_
      rintro e w5 hDone
      obtain ⟨lv', l', r', he, ⟨hLb, ao', cap', hlv'⟩, _, _, _, hR5⟩ := HDN.out e w5 hDone
      subst he
      subst hlv'
      have cLb : w5.cell? ⟨Db + 1, 0, none⟩ = some (.slice ao l.length cap) := by rw [cell_of_row _ _ _ _ _ _ hLb]; rfl
      have fLb : w5.frozen? ⟨Db + 1, 0, none⟩ = false := by simp [World.frozen?, hLb]
      have HR5 := keep hR5
      clear mD HDN hDone hR5 PB b0 b1 b2 b3 b4 b5 d0 d1 hLb
      go_wp2
      go_roundw
      case measure => simp [intOf]; omega
      case rel => exact ⟨k + 1, by omega, by go_num, _, _, _, _, HR5⟩
    · have hltz : ¬ (k : Int) < (L : Int) := by omega
      obtain ⟨d0, d1, _, _⟩ := BX.out _ _ _ _ _ [] _ (by rw [List.append_nil]; exact PR.out)
      obtain ⟨ao, cap, rfl, _, _, _⟩ := PR.out.1.2.2.1.form
      obtain ⟨n, hnl⟩ : ∃ n, l.length = n := ⟨_, rfl⟩
      have hnk : n ≤ k := by rw [← hnl, PR.out.1.2.1.2.2]; exact PR.out.1.1.2.2.2.1
      rw [hnl] at d1 PR
      obtain ⟨w5, mk, ho5, hg5, hlt5⟩ := make_ents wr n (by omega)
      have hb5 : Below wr.heap.size wr w5 := (Below.refl _ wr).grown hg5 (Nat.le_refl _) (fun k h => by cases h)
      obtain ⟨Wa, hWa⟩ : ∃ x, w5.heap.size = x := ⟨_, rfl⟩
      obtain ⟨w6, hw6⟩ : ∃ w6, w5.alloc (.cells #[.slice (some ⟨wr.heap.size, 0, none⟩) 0 n] 40) = w6 := ⟨_, rfl⟩
      have hz6 : w6.heap.size = Wa + 1 := by rw [← hw6, World.size_alloc, hWa]
      have hb6 : Below wr.heap.size wr w6 := by rw [← hw6]; exact hb5.alloc hb5.size _
      have h6a : w6.heap[Wa]? = some (.cells #[.slice (some ⟨wr.heap.size, 0, none⟩) 0 n] 40 (0, 0)) := by rw [← hw6, ← hWa]; exact heap_alloc_new _ _
      have ho6 : w6.ownsRow wr.heap.size 51 2 (.slice (some ⟨wr.heap.size, 0, none⟩) 0 n) 0 [] := by rw [← hw6]; exact ho5.alloc _
      obtain ⟨w7, hr7, ho7, hg7⟩ := app_list w6 wr.heap.size wr.heap.size ao n cap l hnl (PR.out.1.2.2.1.kept (fun k hk => hb6.block k (own_lt PR.out.1.2.2.1 hk))) ho6
      have hz7 : Wa + 1 ≤ w7.heap.size := by have := hg7.size; omega
      have h7a : w7.heap[Wa]? = some (.cells #[.slice (some ⟨wr.heap.size, 0, none⟩) 0 n] 40 (0, 0)) := (hg7.block Wa (by omega) (fun e => by have := Option.some.inj e; omega)).trans h6a
      have hb7 : Below wr.heap.size wr w7 := hb6.grown hg7 hb6.size (fun k e => by cases e; exact Nat.le_refl _)
      have c6a : w6.cell? ⟨Wa, 0, none⟩ = some (.slice (some ⟨wr.heap.size, 0, none⟩) 0 n) := by rw [cell_of_row _ _ _ _ _ _ h6a]; rfl
      have hLbl : Db + 1 < wr.heap.size := (Array.getElem?_eq_some_iff.1 PR.out.2.1.1).1
      have c6l : w6.cell? ⟨Db + 1, 0, none⟩ = some (.slice ao n cap) := (hb6.cell (p := ⟨Db + 1, 0, none⟩) hLbl).trans d1
      have c7a : w7.cell? ⟨Wa, 0, none⟩ = some (.slice (some ⟨wr.heap.size, 0, none⟩) 0 n) := by rw [cell_of_row _ _ _ _ _ _ h7a]; rfl
      have f7a : w7.frozen? ⟨Wa, 0, none⟩ = false := by simp [World.frozen?, h7a]
      obtain ⟨w8, hw8⟩ : ∃ w8, w7.setCell ⟨Wa, 0, none⟩ (.slice (some ⟨wr.heap.size, 0, none⟩) n n) = w8 := ⟨_, rfl⟩
      have hz8 : w8.heap.size = w7.heap.size := by rw [← hw8]; simp [World.setCell]
      have h8a : w8.heap[Wa]? = some (.cells #[.slice (some ⟨wr.heap.size, 0, none⟩) n n] 40 (0, 0)) := by rw [← hw8]; exact cells_setCell h7a
      have hb8 : Below wr.heap.size wr w8 := by rw [← hw8]; exact hb7.setCell (p := ⟨Wa, 0, none⟩) (by show wr.heap.size ≤ Wa; omega) _
      have c8d : w8.cell? ⟨Db, 0, none⟩ = some (.pointer (some ⟨b, 0, none⟩)) := (hb8.cell (p := ⟨Db, 0, none⟩) (by show Db < wr.heap.size; omega)).trans d0
      obtain ⟨cur, hcur, htk⟩ : ∃ cur, w8.heap[wr.heap.size]? = some (.cells cur 51 (0, 0)) ∧ cur.toList.take (n * 2) = enL l := by
        rcases ho7.2 with ⟨e, _⟩ | ⟨g', cap', cur, e, _, hh, _, _, _, q⟩
        · cases e
        · cases e
          exact ⟨cur, by rw [← hw8, Below.heap_setCell _ _ _ _ (by show wr.heap.size ≠ Wa; omega)]; exact hh, q⟩
      have MA := keep hr7
      have H8A := keep h8a
      have HB8 := keep hb8
      have HCUR := keep hcur
      have HTK := keep htk
      have HNL := keep hnl
      clear hr7 ho7 hg7 ho5 hg5 hb5 hb6 ho6 h6a h7a hb7 h8a hb8 hcur htk hnl
      go_wp2_with (first | (at_builtin; refine wpL_app_run rfl _ _ _ rfl _ _ _ rfl rfl MA.out ?_))
      refine (each_any _ _ (.inr ⟨b, rfl⟩)).mono ?_
      rintro _ w9 ⟨rfl, hw9⟩
      obtain ⟨Bd, hBd⟩ : ∃ x, w8.heap.size = x := ⟨_, rfl⟩
      obtain ⟨w10, hw10⟩ : ∃ w10, w9.alloc (.cells #[.slice none 0 0] 40) = w10 := ⟨_, rfl⟩
      have hz9 : w9.heap.size = Bd + 1 := by rw [hw9, World.size_alloc, hBd]
      have hz10 : w10.heap.size = Bd + 2 := by rw [← hw10, World.size_alloc, hz9]
      have hb10 : Below w8.heap.size w8 w10 := by rw [← hw10, hw9]; exact ((Below.refl _ w8).alloc (Nat.le_refl _) _).alloc (by simp) _
      have h10d : w10.heap[Bd]? = some (.cells #[.pointer (some ⟨b, 0, none⟩)] 24 (0, 0)) := by rw [← hw10, Below.heap_alloc _ _ _ (by omega), hw9, ← hBd]; exact heap_alloc_new _ _
      have h10s : w10.heap[Bd + 1]? = some (.cells #[.slice none 0 0] 40 (0, 0)) := by rw [← hw10, ← hz9]; exact heap_alloc_new _ _
      obtain ⟨by1, hby1⟩ : ∃ by1 : List (Nat × Obj), by1 = [(Wa, .cells #[.slice (some ⟨wr.heap.size, 0, none⟩) n n] 40 (0, 0)), (wr.heap.size, .cells cur 51 (0, 0)), (Bd, .cells #[.pointer (some ⟨b, 0, none⟩)] 24 (0, 0))] := ⟨_, rfl⟩
      have hbwr : Below wr.heap.size wr w10 := HB8.out.trans (hb10.mono HB8.out.size)
      have hz8r : wr.heap.size ≤ Bd := by rw [← hBd]; exact HB8.out.size
      have hWaB : Wa < Bd := by omega
      have hrz : ∀ x, wr.heap.size ≤ x → role r (.slice ao n cap) (7, 0) x = (0, 0) := fun x hx => Classical.byContradiction fun e => by have := role_lt PR.out.1 e; omega
      have hRL : RgL h k W b seed (Db + 1) (bx ++ by1) r s (.slice ao n cap) l w10 := by
        obtain ⟨a1, a2, a3, a4⟩ := PR.out.below hbwr
        refine ⟨a1, a2, fun x hx => ?_, fun x hx => ?_⟩
        · rcases List.mem_append.1 hx with hx | hx
          · exact a3 x hx
          · rw [hby1] at hx
            simp only [List.mem_cons, List.not_mem_nil, or_false] at hx
            rcases hx with rfl | rfl | rfl
            · exact ⟨(hb10.block Wa (by omega)).trans H8A.out, hrz _ (by show wr.heap.size ≤ Wa; omega)⟩
            · exact ⟨(hb10.block wr.heap.size (by omega)).trans HCUR.out, hrz _ (Nat.le_refl _)⟩
            · exact ⟨h10d, hrz _ (by show wr.heap.size ≤ Bd; omega)⟩
        · rcases List.mem_append.1 hx with hx | hx
          · exact a4 x hx
          · rw [hby1] at hx
            simp only [List.mem_cons, List.not_mem_nil, or_false] at hx
            rcases hx with rfl | rfl | rfl
            · show Wa ≠ _; omega
            · show wr.heap.size ≠ _; omega
            · show Bd ≠ _; omega
      have hbxlt : ∀ x ∈ bx, x.1 < wr.heap.size := fun x hx => (Array.getElem?_eq_some_iff.1 (PR.out.2.2.1 x hx).1).1
      have hWs : W.heap.size ≤ wr.heap.size := PR.out.1.2.2.2.2.1.size
      obtain ⟨es, hes⟩ : ∃ es, Dc.all s = es := ⟨_, rfl⟩
      have hesl : es.length = n := by rw [← hes, ← HNL.out]; exact PR.out.1.2.1.2.2.symm
      have H1X := keep (once_each PR.out.1.1.2 PR.out.1.2.1)
      rw [hes] at H1X
      have hRI : RgI h k W b seed (Db + 1) (Bd + 1) (bx ++ by1) es (fun _ => False) 0 w10 := by
        refine ⟨r, s, _, l, .slice none 0 0, ⟨hRL, ⟨h10s, hrz _ (by omega), by omega⟩, ⟨rfl, .inl ⟨rfl, rfl⟩⟩, (fun k hk => by cases hk), by omega, fun x hx => ?_⟩, fun _ h => h.elim⟩
        rcases List.mem_append.1 hx with hx | hx
        · have := hbxlt x hx; omega
        · rw [hby1] at hx
          simp only [List.mem_cons, List.not_mem_nil, or_false] at hx
          rcases hx with rfl | rfl | rfl
          · show Wa ≠ _; omega
          · show wr.heap.size ≠ _; omega
          · show Bd ≠ _; omega
      have hp : s.pos ≤ s.old.length := by
        by_cases hy : s.young = []
        · rw [PR.out.1.1.2.1.rest hy]; omega
        · have := PR.out.1.1.2.1.move hy; omega
      have hm0 : s.old.length ≤ 5400000000000 := by have := PR.out.1.1.2.2.2.2.1; omega
      have hm1 : s.young.length ≤ 5400000000000 := by have := PR.out.1.1.2.2.2.2.2; omega
      have HIT : Kept (∀ W1, Below w10.heap.size w10 W1 → Iter Try.prog 52 #[.pointer (some ⟨Bd, 0, none⟩)] eachV (fun _ _ => True) es W1) := fun W1 hb => by
        have := each_iter Bd b seed _ r s W1 (hRL.1.1.1.below hb) ((hb.cell (p := ⟨Bd, 0, none⟩) (by show Bd < w10.heap.size; omega)).trans (by rw [cell_of_row _ _ _ _ _ _ h10d]; rfl)) hp hm0 hm1 (by rw [hes, hesl]; omega)
        rwa [hes] at this
      have HRI := keep hRI
      have HBY := keep hby1
      have HESL := keep hesl
      rw [hBd]
      clear hRI hRL hbwr h10d h10s hb10 hw9 hw6 hw8 hz6 hz7 hz8 c6a c6l c7a f7a c8d hWa hBd hesl hes hby1 H8A HB8 HCUR MA mk d0 d1 hlt5 PR hp hm0 hm1 hrz hbxlt
      have hnf := each_some Bd
      go_wp2
      clear hz9
      obtain ⟨i0, hi0, hze, hzs, hzb⟩ := info_parts info_entry5
      refine (wpIn_wide (n := 9)).1 (range_own (α := Ent) (gf := 52) (lb := #[.pointer (some ⟨Bd, 0, none⟩)]) rfl (enters_of Try.func52 (by kernel_rfl) rfl) (encs := eachV) (L := es) (fun _ => rfl) HIT.out
        (RgI h k W b seed (Db + 1) (Bd + 1) (bx ++ by1) es) (fun _ _ _ _ => False) RgI.abd (fun _ _ _ _ _ _ h _ _ => h) HRI.out (fun _ _ _ _ => trivial) ?round ?done ?stop)
      case stop => exact fun _ _ _ _ _ _ h => h.elim
      case round =>
        intro M' l' m x W1 hI hx hl hrec hM'
        obtain ⟨e1, e2⟩ := x
        have hI' := RgI.abd _ _ _ _ _ hI (Sep.put W1 (.loop default) hl) (Ext.refl _ _ _)
        have HI := keep hI
        have HX := keep hx
        have HM' := keep hM'
        clear hI hx hM' hI' HRI hrec
        unfold eachV
        gi_wp2
        refine ⟨Mk.refl _ _, fun rl => ?_⟩
        obtain ⟨W2, hW2⟩ : ∃ W2, W1.putObj l' (.loop rl) = W2 := ⟨_, rfl⟩
        rw [hW2]
        have hz2' : W2.heap.size = W1.heap.size := by rw [← hW2]; simp
        have hI2 : RgI h k W b seed (Db + 1) (Bd + 1) (bx ++ by1) es M' m W2 := RgI.abd _ _ _ _ _ HI.out (by rw [← hW2]; exact Sep.put _ _ hl) (Ext.refl _ _ _)
        clear hW2
        obtain ⟨r2, s2, lv2, l2, v2, hR2, hMO⟩ := hI2
        have hml : m < n := by rw [← HESL.out]; exact (List.getElem?_eq_some_iff.1 HX.out).1
        obtain ⟨q1, q2, q3, q4⟩ := BX.out _ _ _ _ _ _ _ hR2.1
        obtain ⟨ao2, cap2, rfl, _⟩ := hR2.1.1.2.2.1.form
        obtain ⟨bo, bc, rfl⟩ : ∃ bo bc, v2 = .slice bo m bc := by
          rcases hR2.2.2.1.2 with ⟨rfl, h0⟩ | ⟨g, cap, cur, rfl, _⟩
          · exact ⟨none, 0, by rw [h0]⟩
          · exact ⟨_, _, rfl⟩
        have cS : W2.cell? ⟨Bd + 1, 0, none⟩ = some (.slice bo m bc) := by rw [cell_of_row _ _ _ _ _ _ hR2.2.1.1]; rfl
        by_cases hm2 : m < L2
        · have hmz : (m : Int) < (L2 : Int) := by omega
          have hdz : decide ((m : Int) < (L2 : Int)) = true := decide_eq_true hmz
          have hm0 : (0 : Int) ≤ (m : Int) := by omega
          obtain ⟨a, rfl, hab, hkyo, _, hst0⟩ := HS2.out m (by rw [HL2.out]; exact hm2)
          have hst := hst0.bel hR2.1.1.2.2.2.2.1 (by rw [add_block]; exact hab)
          have HST0 := keep hst0
          clear hst0
          generalize S2[m]'(by rw [HL2.out]; exact hm2) = o at hst hkyo HST0
          have mD := does_any hH W2.drew r2 b s2 (.slice ao2 l2.length cap2) l2 o (hR2.1.1.1.below (Below.refl _ W2).drew) (by omega) hkyo hR2.1.1.2.1 hR2.1.1.2.2.1 hR2.1.1.2.2.2.1
          have MD := keep mD
          have hHeld : heldR Db (Db + 1) W.heap.size (Bd + 1) b (.slice ao2 l2.length cap2) (.slice (some a) L2 cs2) (.slice bo m bc) (a.add (m * 6)) o W2.drew := ⟨q1, q2, q3, cS, hst⟩
          clear mD
          gi_wp2
          refine region_round2 (S := heldR Db (Db + 1) W.heap.size (Bd + 1) b (.slice ao2 l2.length cap2) (.slice (some a) L2 cs2) (.slice bo m bc) (a.add (m * 6)) o) (by kernel_rfl) (by kernel_rfl) hHeld (fun hHeld => ?_)
          refine wpAnyH_take (i := 0) (oi := { dst := some 66, op := _, type := _, pos := _, after := _, guard := _ }) (v := ?v1) rfl (by kernel_rfl) (by kernel_rfl) (by kernel_rfl) (fun _ _ _ h => h) (Or.inl ⟨by rfl, ?hy1⟩) (by assumption) ?rest1
          case hy1 => (intro w hSw; obtain ⟨p0, p1, p2, p3, t0, t1, t2, t3, t4, t5⟩ := hSw; go_simp; try with_reducible rfl)
          try simp only [Act.put, List.setIfInBounds_toArray, List.set_cons_zero, List.set_cons_succ]
          refine wpAnyH_take (i := 1) (oi := { dst := some 67, op := _, type := _, pos := _, after := _, guard := _ }) (v := ?v2) rfl (by kernel_rfl) (by kernel_rfl) (by kernel_rfl) (fun _ _ _ h => h) (Or.inl ⟨by rfl, ?hy2⟩) (by assumption) ?rest2
          case hy2 => (intro w hSw; obtain ⟨p0, p1, p2, p3, t0, t1, t2, t3, t4, t5⟩ := hSw; go_simp; try with_reducible rfl)
          try simp only [Act.put, List.setIfInBounds_toArray, List.set_cons_zero, List.set_cons_succ]
          refine wpAnyH_take (i := 2) (oi := { dst := some 68, op := _, type := _, pos := _, after := _, guard := _ }) (v := ?v3) rfl (by kernel_rfl) (by kernel_rfl) (by kernel_rfl) (fun _ _ _ h => h) (Or.inl ⟨by rfl, ?hy3⟩) (by assumption) ?rest3
          case hy3 => (intro w hSw; obtain ⟨p0, p1, p2, p3, t0, t1, t2, t3, t4, t5⟩ := hSw; go_simp; try with_reducible rfl)
          try simp only [Act.put, List.setIfInBounds_toArray, List.set_cons_zero, List.set_cons_succ]
          refine wpAnyH_take (i := 3) (oi := { dst := some 69, op := _, type := _, pos := _, after := _, guard := _ }) (v := ?v4) rfl (by kernel_rfl) (by kernel_rfl) (by kernel_rfl) (fun _ _ _ h => h) (Or.inl ⟨by rfl, ?hy4⟩) (by assumption) ?rest4
          case hy4 => (intro w hSw; obtain ⟨p0, p1, p2, p3, t0, t1, t2, t3, t4, t5⟩ := hSw; go_simp; try with_reducible rfl)
          try simp only [Act.put, List.setIfInBounds_toArray, List.set_cons_zero, List.set_cons_succ]
          refine wpAnyH_take (i := 4) (oi := { dst := some 70, op := _, type := _, pos := _, after := _, guard := _ }) (v := ?v5) rfl (by kernel_rfl) (by kernel_rfl) (by kernel_rfl) (fun _ _ _ h => h) (Or.inl ⟨by rfl, ?hy5⟩) (by assumption) ?rest5
          case hy5 => (intro w hSw; obtain ⟨p0, p1, p2, p3, t0, t1, t2, t3, t4, t5⟩ := hSw; go_simp; try with_reducible rfl)
          try simp only [Act.put, List.setIfInBounds_toArray, List.set_cons_zero, List.set_cons_succ]
          refine wpAnyH_take (i := 5) (oi := { dst := some 71, op := _, type := _, pos := _, after := _, guard := _ }) (v := ?v6) rfl (by kernel_rfl) (by kernel_rfl) (by kernel_rfl) (fun _ _ _ h => h) (Or.inl ⟨by rfl, ?hy6⟩) (by assumption) ?rest6
          case hy6 => (intro w hSw; obtain ⟨p0, p1, p2, p3, t0, t1, t2, t3, t4, t5⟩ := hSw; go_simp; try with_reducible rfl)
          try simp only [Act.put, List.setIfInBounds_toArray, List.set_cons_zero, List.set_cons_succ]
          refine wpAnyH_take (i := 6) (oi := { dst := some 72, op := _, type := _, pos := _, after := _, guard := _ }) (v := ?v7) rfl (by kernel_rfl) (by kernel_rfl) (by kernel_rfl) (fun _ _ _ h => h) (Or.inl ⟨by rfl, ?hy7⟩) (by assumption) ?rest7
          case hy7 => (intro w hSw; obtain ⟨p0, p1, p2, p3, t0, t1, t2, t3, t4, t5⟩ := hSw; go_simp; try with_reducible rfl)
          try simp only [Act.put, List.setIfInBounds_toArray, List.set_cons_zero, List.set_cons_succ]
          refine wpAnyH_ready (rs := [7]) (by kernel_rfl) (by simp) ?_
          refine AllReadyH.cons (o := { dst := some 73, op := _, type := _, pos := _, after := _, guard := _ }) rfl (fun K hK => ?_) AllReadyH.nil
          go_simp
          refine MD.out.mono ?_
          rintro e W3 hDone
          obtain ⟨lv3, l3, r3, he, ⟨hLb, ao3, cap3, hlv3⟩, hz3, hs3, hbW3, hR3⟩ := (hR2.1.below (Below.refl _ W2).drew).done hDone
          subst he
          subst hlv3
          have same : ∀ x, x < W2.heap.size → role r2 (.slice ao2 l2.length cap2) (7, 0) x = (0, 0) → W3.heap[x]? = W2.heap[x]? := fun x h1 h2 => (hz3 x h1 h2).1
          have hbxm : ∀ x ∈ bx ++ by1, W3.heap[x.1]? = some x.2 := fun x hx => (same _ (Array.getElem?_eq_some_iff.1 (hR2.1.2.2.1 x hx).1).1 (hR2.1.2.2.1 x hx).2).trans (hR2.1.2.2.1 x hx).1
          have hSb3 : W3.heap[Bd + 1]? = some (.cells #[.slice bo m bc] 40 (0, 0)) := (same _ (Array.getElem?_eq_some_iff.1 hR2.2.1.1).1 hR2.2.1.2.1).trans hR2.2.1.1
          have c3L : W3.cell? ⟨Db + 1, 0, none⟩ = some (.slice ao2 l2.length cap2) := by rw [cell_of_row _ _ _ _ _ _ hLb]; rfl
          have f3L : W3.frozen? ⟨Db + 1, 0, none⟩ = false := by simp [World.frozen?, hLb]
          have hHeld3 : heldR Db (Db + 1) W.heap.size (Bd + 1) b (.slice ao2 l2.length cap2) (.slice (some a) L2 cs2) (.slice bo m bc) (a.add (m * 6)) o W3 := by
            refine ⟨?_, c3L, ?_, by rw [cell_of_row _ _ _ _ _ _ hSb3]; rfl, HST0.out.bel hbW3 (by rw [add_block]; exact hab)⟩
            · rw [cell_of_row _ _ _ _ _ _ (hbxm (Db, .cells #[.pointer (some ⟨b, 0, none⟩)] 24 (0, 0)) (List.mem_append_left _ (by rw [HBX.out]; simp)))]; rfl
            · rw [cell_of_row _ _ _ _ _ _ (hbxm (W.heap.size, .cells #[.slice (some a) L2 cs2] 23 (0, 0)) (List.mem_append_left _ (by rw [HBX.out]; simp)))]; rfl
          refine hK.out _ _ hHeld3 (fun hHeld4 => ?_)
          try simp only [Act.put, List.setIfInBounds_toArray, List.set_cons_zero, List.set_cons_succ]
          refine wpAnyH_take (i := 8) (oi := { dst := some 65, op := _, type := _, pos := _, after := _, guard := _ }) (v := ?v8) rfl (by kernel_rfl) (by kernel_rfl) (by kernel_rfl) (fun _ _ _ h => h) (Or.inl ⟨by rfl, ?hy8⟩) (by assumption) ?rest8
          case hy8 => (intro w hSw; go_simp; try with_reducible rfl)
          try simp only [Act.put, List.setIfInBounds_toArray, List.set_cons_zero, List.set_cons_succ]
          refine wpAnyH_take (i := 9) (oi := { dst := some 74, op := _, type := _, pos := _, after := _, guard := _ }) (v := ?v9) rfl (by kernel_rfl) (by kernel_rfl) (by kernel_rfl) (fun _ _ _ h => h) (Or.inl ⟨by rfl, ?hy9⟩) (by assumption) ?rest9
          case hy9 => (intro w hSw; go_simp; try with_reducible rfl)
          try simp only [Act.put, List.setIfInBounds_toArray, List.set_cons_zero, List.set_cons_succ]
          refine wpAnyH_take (i := 10) (oi := { dst := some 75, op := _, type := _, pos := _, after := _, guard := _ }) (v := ?v10) rfl (by kernel_rfl) (by kernel_rfl) (by kernel_rfl) (fun _ _ _ h => h) (Or.inl ⟨by rfl, ?hy10⟩) (by assumption) ?rest10
          case hy10 => (intro w hSw; go_simp; try with_reducible rfl)
          try simp only [Act.put, List.setIfInBounds_toArray, List.set_cons_zero, List.set_cons_succ]
          refine wpAnyH_take (i := 11) (oi := { dst := some 18, op := _, type := _, pos := _, after := _, guard := _ }) (v := ?v11) rfl (by kernel_rfl) (by kernel_rfl) (by kernel_rfl) (fun _ _ _ h => h) (Or.inl ⟨by rfl, ?hy11⟩) (by assumption) ?rest11
          case hy11 => (intro w hSw; go_simp; try with_reducible rfl)
          try simp only [Act.put, List.setIfInBounds_toArray, List.set_cons_zero, List.set_cons_succ]
          refine wpAnyH_take (i := 12) (oi := { dst := some 19, op := _, type := _, pos := _, after := _, guard := _ }) (v := ?v12) rfl (by kernel_rfl) (by kernel_rfl) (by kernel_rfl) (fun _ _ _ h => h) (Or.inl ⟨by rfl, ?hy12⟩) (by assumption) ?rest12
          case hy12 => (intro w hSw; go_simp; try with_reducible rfl)
          try simp only [Act.put, List.setIfInBounds_toArray, List.set_cons_zero, List.set_cons_succ]
          refine wpAnyH_done (by kernel_rfl) ?_ _
          obtain ⟨hR4, hMk4, hMO4⟩ := hR2.step hz3 hs3 hR3 hMO (fun k hk => by have := (HM'.out k hk).2; omega)
          have hMl4 : ∀ k, M' k → k < (W3.setCell ⟨Db + 1, 0, none⟩ (.slice ao3 l3.length cap3)).heap.size := fun k hk => by
            have := (HM'.out k hk).2
            have h1 : (W3.setCell ⟨Db + 1, 0, none⟩ (.slice ao3 l3.length cap3)).heap.size = W3.heap.size := by simp [World.setCell]
            have h2 : W2.drew.heap.size = W2.heap.size := rfl
            omega
          obtain ⟨g, cap5, W5, hrun, c5, f5, hMk5, hR5, hMO5⟩ := hR4.push HX.out (by omega) hMO4 hMl4
          obtain ⟨W4, hW4⟩ : ∃ W4, W3.setCell ⟨Db + 1, 0, none⟩ (.slice ao3 l3.length cap3) = W4 := ⟨_, rfl⟩
          rw [hW4] at hrun hMk4 hMk5 hR4
          have cS4 : W4.cell? ⟨Bd + 1, 0, none⟩ = some (.slice bo m bc) := by rw [cell_of_row _ _ _ _ _ _ hR4.2.1.1]; rfl
          have c6w : (W5.setCell ⟨Bd + 1, 0, none⟩ (.slice (some ⟨g, 0, none⟩) (m + 1) cap5)).cell? ⟨Wa, 0, none⟩ = some (.slice (some ⟨wr.heap.size, 0, none⟩) n n) := by
            rw [cell_of_row _ _ _ _ _ _ (hR5.1.2.2.1 (Wa, .cells #[.slice (some ⟨wr.heap.size, 0, none⟩) n n] 40 (0, 0)) (List.mem_append_right _ (by rw [HBY.out]; simp))).1]; rfl
          have fin : Kept (rdPost (RgI h k W b seed (Db + 1) (Bd + 1) (bx ++ by1) es) (fun _ _ _ _ => False) M' (m + 1) W2 .normal { tmps := #[], defers := [] } (W5.setCell ⟨Bd + 1, 0, none⟩ (.slice (some ⟨g, 0, none⟩) (m + 1) cap5))) :=
            ⟨hMk4.trans hMk5, _, _, _, _, _, hR5, hMO5⟩
          have MA := keep hrun
          have hgt : decide ((n : Int) < (m : Int) + 1) = false := decide_eq_false (by omega)
          clear hR4 hMk4 hMk5 hMO4 hMO5 hMl4 hR5 hrun hHeld3 hHeld4 same hbxm hSb3 hR3 hz3 hR2 hMO hst HST0 MD hz2' hDone hLb hHeld
          unfold noOut
          gi_wp2_with (first | (show wpListIn _ _ _ _ _ ({ dst := some 84, op := Op.call { callee := Callee.builtin Builtin.append, args := _, argTypes := _ }, type := _, pos := _, after := _, guard := _ } :: _) _ _; refine wpListIn_app_run rfl (.tmp 79) (.tmp 83) 40 rfl _ _ _ rfl rfl MA.out ?_))
          exact fin.out
        · have hmz : ¬ (m : Int) < (L2 : Int) := by omega
          have hdz : decide ((m : Int) < (L2 : Int)) = false := decide_eq_false hmz
          obtain ⟨g, cap5, W5, hrun, c5, f5, hMk5, hR5, hMO5⟩ := hR2.push HX.out (by omega) hMO (fun k hk => by have := (HM'.out k hk).2; omega)
          have c6w : (W5.setCell ⟨Bd + 1, 0, none⟩ (.slice (some ⟨g, 0, none⟩) (m + 1) cap5)).cell? ⟨Wa, 0, none⟩ = some (.slice (some ⟨wr.heap.size, 0, none⟩) n n) := by
            rw [cell_of_row _ _ _ _ _ _ (hR5.1.2.2.1 (Wa, .cells #[.slice (some ⟨wr.heap.size, 0, none⟩) n n] 40 (0, 0)) (List.mem_append_right _ (by rw [HBY.out]; simp))).1]; rfl
          have fin : Kept (rdPost (RgI h k W b seed (Db + 1) (Bd + 1) (bx ++ by1) es) (fun _ _ _ _ => False) M' (m + 1) W2 .normal { tmps := #[], defers := [] } (W5.setCell ⟨Bd + 1, 0, none⟩ (.slice (some ⟨g, 0, none⟩) (m + 1) cap5))) :=
            ⟨hMk5, _, _, _, _, _, hR5.more (by omega), hMO5⟩
          have MA := keep hrun
          have hgt : decide ((n : Int) < (m : Int) + 1) = false := decide_eq_false (by omega)
          clear hMk5 hMO5 hR5 hrun hR2 hMO hz2'
          gi_wp2_with (first | (show wpListIn _ _ _ _ _ ({ dst := some 84, op := Op.call { callee := Callee.builtin Builtin.append, args := _, argTypes := _ }, type := _, pos := _, after := _, guard := _ } :: _) _ _; refine wpListIn_app_run rfl (.tmp 79) (.tmp 83) 40 rfl _ _ _ rfl rfl MA.out ?_))
          exact fin.out
      case done =>
        intro M' D W5 hI hD hDk hM'
        obtain ⟨Gw, hGw⟩ : ∃ x, wr.heap.size = x := ⟨_, rfl⟩
        obtain ⟨r2, s2, lv2, l2, v2, hR2, hMO⟩ := hI
        rw [hGw] at HBY
        rw [HESL.out] at hR2
        obtain ⟨bo, bc, rfl, hbo⟩ : ∃ bo bc, v2 = .slice bo n bc ∧ (n = 0 ∨ ∃ g, bo = some ⟨g, 0, none⟩) := by
          rcases hR2.2.2.1.2 with ⟨rfl, h0⟩ | ⟨g, cap, cur, rfl, _⟩
          · exact ⟨none, 0, by rw [h0], .inl h0⟩
          · exact ⟨_, _, rfl, .inr ⟨g, rfl⟩⟩
        have hR2' := hR2
        obtain ⟨ao2, cap2, rfl, _⟩ := hR2.1.1.2.2.1.form
        obtain ⟨n2, hn2⟩ : ∃ n2, l2.length = n2 := ⟨_, rfl⟩
        rw [hn2] at hR2 hR2' hMO
        have hown := hR2.2.2.1
        rw [List.take_of_length_le (by rw [HESL.out]; exact Nat.le_refl _)] at hown
        have hDW : W.heap.size ≤ D := (hMO D hD).2
        have hsD : D < W5.heap.size := (Array.getElem?_eq_some_iff.1 hDk).1
        have hbxm : ∀ x ∈ bx ++ by1, W5.heap[x.1]? = some x.2 := fun x hx => (hR2.1.2.2.1 x hx).1
        have hWa5 := hbxm (Wa, .cells #[.slice (some ⟨Gw, 0, none⟩) n n] 40 (0, 0)) (List.mem_append_right _ (by rw [HBY.out]; simp))
        have hGw5 := hbxm (Gw, .cells cur 51 (0, 0)) (List.mem_append_right _ (by rw [HBY.out]; simp))
        have hSb5 := hR2.2.1.1
        dsimp only at hWa5 hGw5
        have LIN : Kept (∀ w', Below W5.heap.size W5 w' → w'.cell? ⟨Wa, 0, none⟩ = some (.slice (some ⟨Gw, 0, none⟩) n n) ∧ w'.cell? ⟨Bd + 1, 0, none⟩ = some (.slice bo n bc) ∧
            (∀ k e, l[k]? = some e → w'.cell? ⟨Gw, k * 2, none⟩ = some (.string e.1) ∧ w'.cell? ⟨Gw, k * 2 + 1, none⟩ = some (.int .i64 e.2)) ∧ (∀ k e, es[k]? = some e → ∃ g, bo = some ⟨g, 0, none⟩ ∧ w'.cell? ⟨g, k * 2, none⟩ = some (.string e.1) ∧ w'.cell? ⟨g, k * 2 + 1, none⟩ = some (.int .i64 e.2))) := fun w' hb => by
          refine ⟨?_, ?_, fun k e he => ?_, fun k e he => ?_⟩
          · rw [cell_of_row _ _ _ _ _ _ ((hb.block _ (Array.getElem?_eq_some_iff.1 hWa5).1).trans hWa5)]; rfl
          · rw [cell_of_row _ _ _ _ _ _ ((hb.block _ (Array.getElem?_eq_some_iff.1 hSb5).1).trans hSb5)]; rfl
          · obtain ⟨c0, c1⟩ := enL_at he
            have hc := (hb.block _ (Array.getElem?_eq_some_iff.1 hGw5).1).trans hGw5
            rw [← HTK.out, List.getElem?_take] at c0 c1
            have hkl := (List.getElem?_eq_some_iff.1 he).1
            rw [HNL.out] at hkl
            rw [if_pos (by omega), Array.getElem?_toList] at c0 c1
            exact ⟨by rw [cell_of_row _ _ _ _ _ _ hc]; exact c0, by rw [cell_of_row _ _ _ _ _ _ hc]; exact c1⟩
          · have hkl := (List.getElem?_eq_some_iff.1 he).1
            rw [HESL.out] at hkl
            rcases hbo with h0 | ⟨g, rfl⟩
            · omega
            · have hw := own_kept hown (fun k hk => hb.block k (own_lt hown hk))
              obtain ⟨c0, c1⟩ := enL_at he
              have add : ∀ i, (⟨g, 0, none⟩ : Addr).add i = ⟨g, i, none⟩ := by intro i; unfold Addr.add; split <;> simp_all
              replace c0 := hw.cells (g := g) rfl _ _ c0
              replace c1 := hw.cells (g := g) rfl _ _ c1
              rw [add] at c0 c1
              exact ⟨g, rfl, c0, c1⟩
        have c5w := (LIN.out W5 (Below.refl _ _)).1
        clear hGw
        have HR2 := keep hR2
        have HDK := keep hDk
        have HMO := keep hMO
        have HN2 := keep hn2
        clear hR2 hR2' hown hbxm hWa5 hGw5 hSb5 hDk hMO hn2 hM' HRI HIT
        go_wp2
        go_loopw [92] (fun i wr => ∃ k : Nat, k ≤ n ∧ i = .int .i64 k ∧ Kept (Below W5.heap.size W5 wr)) (fun i _ => n - (intOf i).toNat)
        case atStart => exact ⟨0, Nat.zero_le _, rfl, Below.refl _ _⟩
        case round =>
          obtain ⟨k2, hk2, rfl, KB⟩ := hrel
          obtain ⟨q1, q2, q6, q7⟩ := LIN.out wr KB.out
          by_cases hlt2 : k2 < n
          · have hltz2 : (k2 : Int) < (n : Int) := by omega
            have hz0 : (0 : Int) ≤ (k2 : Int) := by omega
            obtain ⟨e, he⟩ : ∃ e, l[k2]? = some e := ⟨_, List.getElem?_eq_getElem (by rw [HNL.out]; exact hlt2)⟩
            obtain ⟨d0, d1⟩ := q6 k2 e he
            have hone := H1X.out e (List.mem_of_getElem? he)
            obtain ⟨e1, e2⟩ := e
            dsimp only at d0 d1
            have hbx := KB.out.alloc KB.out.size (.cells #[.string e1, .int .i64 e2] 51)
            have hnx : (wr.alloc (.cells #[.string e1, .int .i64 e2] 51)).heap[wr.heap.size]? = some (.cells #[.string e1, .int .i64 e2] 51 (0, 0)) := heap_alloc_new _ _
            have c1S := (LIN.out _ hbx).2.1
            obtain ⟨W6, hW6⟩ : ∃ W6, wr.alloc (.cells #[.string e1, .int .i64 e2] 51) = W6 := ⟨_, rfl⟩
            have hX6 : wr.heap.size < W6.heap.size := by rw [← hW6]; simp
            rw [hW6] at hbx hnx c1S
            have HBX6 := keep hbx
            have HNX := keep hnx
            have HONE := keep hone
            obtain ⟨X, hX⟩ : ∃ x, wr.heap.size = x := ⟨_, rfl⟩
            rw [hX] at HNX hX6
            clear q1 q2 q6 q7 hbx hnx he hone
            obtain ⟨wo, hwo⟩ : ∃ x, x = wr := ⟨_, rfl⟩
            subst hwo
            go_wp2
            clear hW6 hX c1S
            go_loopw [22, 98] (fun nv i wr => ∃ j : Nat, j ≤ n ∧ i = .int .i64 j ∧ nv = .int .i64 (cntE (e1, e2) (es.take j) : Nat) ∧ Kept (Below W6.heap.size W6 wr)) (fun _ i _ => n - (intOf i).toNat)
            case atStart => exact ⟨0, Nat.zero_le _, rfl, rfl, Below.refl _ _⟩
            case round =>
              obtain ⟨j, hj, rfl, rfl, KB2⟩ := hrel
              by_cases hjl : j < n
              · have hjz : (j : Int) < (n : Int) := by omega
                have hj0 : (0 : Int) ≤ (j : Int) := by omega
                obtain ⟨z, hz⟩ : ∃ z, es[j]? = some z := ⟨_, List.getElem?_eq_getElem (by rw [HESL.out]; exact hjl)⟩
                have hbw := HBX6.out.trans (KB2.out.mono HBX6.out.size)
                obtain ⟨g, rfl, z0, z1⟩ := (LIN.out wr hbw).2.2.2 j z hz
                have hct := cntE_take (e := (e1, e2)) hz
                have hcl := cntE_le (e1, e2) (es.take j)
                have hbx2 := KB2.out.alloc KB2.out.size (.cells #[.string z.1, .int .i64 z.2] 51)
                have hcx : ∀ i v, #[Value.string e1, .int .i64 e2][i]? = some v → (wr.alloc (.cells #[.string z.1, .int .i64 z.2] 51)).cell? ⟨X, i, none⟩ = some v := fun i v hv => by
                  rw [cell_of_row _ _ _ _ _ _ ((hbx2.block X hX6).trans HNX.out)]; exact hv
                have x0 := hcx 0 _ rfl
                have x1 := hcx 1 _ rfl
                have HBX2 := keep hbx2
                rw [List.length_take] at hcl
                have hcl' : cntE (e1, e2) (es.take j) ≤ 2600000000000 := by omega
                have HCT := keep hct
                obtain ⟨C, hC⟩ : ∃ C, cntE (e1, e2) (es.take j) = C := ⟨_, rfl⟩
                rw [hC] at hcl' HCT ⊢
                clear hz hbw hct hcl hbx2 hcx hC
                obtain ⟨zk, zv⟩ := z
                dsimp only at z0 z1 x0 x1 HBX2 HCT
                by_cases hze : (zk, zv) = (e1, e2)
                · injection hze with h1 h2
                  subst h1 h2
                  rw [if_pos rfl] at HCT
                  go_wp2
                  go_roundw
                  case measure => simp [intOf]; omega
                  case rel => exact ⟨j + 1, by omega, by go_num, by rw [HCT.out]; go_num, HBX2⟩
                · rw [if_neg hze] at HCT
                  by_cases hzk : zk = e1
                  · subst hzk
                    have hzv : zv ≠ e2 := fun e => hze (by rw [e])
                    have hzb : (zv == e2) = false := beq_eq_false_iff_ne.2 hzv
                    clear hze
                    go_wp2
                    go_roundw
                    case measure => simp [intOf]; omega
                    case rel => exact ⟨j + 1, by omega, by go_num, by rw [HCT.out]; rfl, HBX2⟩
                  · have hzb : (zk.toList == e1.toList) = false := beq_eq_false_iff_ne.2 (fun e => hzk (bytes_eq e))
                    clear hze
                    go_wp2
                    go_roundw
                    case measure => simp [intOf]; omega
                    case rel => exact ⟨j + 1, by omega, by go_num, by rw [HCT.out]; rfl, HBX2⟩
              · have hjz : ¬ (j : Int) < (n : Int) := by omega
                obtain rfl : j = n := by omega
                have hcc : cntE (e1, e2) (es.take j) = 1 := by rw [List.take_of_length_le (by rw [HESL.out]; exact Nat.le_refl _)]; exact HONE.out
                rw [hcc]
                clear hcc
                go_wp2
                go_roundw
                case measure => simp [intOf]; omega
                case rel => exact ⟨k2 + 1, by omega, by go_num, HBX6.out.trans (KB2.out.mono HBX6.out.size)⟩
          · have hltz2 : ¬ (k2 : Int) < (n : Int) := by omega
            clear q1 q2 q6 q7
            have hRw := HR2.out.below KB.out
            have hDw := (KB.out.block D hsD).trans HDK.out
            obtain ⟨W6, hW6⟩ : ∃ W6, wr.alloc (.cells #[.int .i64 0] 3) = W6 := ⟨_, rfl⟩
            have hb6 : Below wr.heap.size wr W6 := by rw [← hW6]; exact (Below.refl _ _).alloc (Nat.le_refl _) _
            have h6n : W6.heap[wr.heap.size]? = some (.cells #[.int .i64 0] 3 (0, 0)) := by rw [← hW6]; exact heap_alloc_new _ _
            have hz6 : W6.heap.size = wr.heap.size + 1 := by rw [← hW6]; simp
            obtain ⟨Nb, hNb⟩ : ∃ x, wr.heap.size = x := ⟨_, rfl⟩
            have hNB : ¬ OwS (Db + 1) (Bd + 1) (bx ++ by1) r2 (.slice ao2 n2 cap2) (.slice bo n bc) wr.heap.size := fun e => by have := hRw.lt e; omega
            have hDl : D < wr.heap.size := (Array.getElem?_eq_some_iff.1 hDw).1
            have hRN : RgN h (k + n) W b seed (Db + 1) (Bd + 1) wr.heap.size D (bx ++ by1) es r2 s2 (.slice ao2 n2 cap2) l2 (.slice bo n bc) n (fun _ => False) 0 W6 :=
              ⟨hRw.below hb6, ⟨h6n, id, hNB, by have := hRw.1.1.2.2.2.2.1.size; omega⟩, ⟨(hb6.block D hDl).trans hDw, id⟩, fun _ h => h.elim⟩
            rw [hNb] at hRN
            have HRN := keep hRN
            have hp : s2.pos ≤ s2.old.length := by
              by_cases hy : s2.young = []
              · rw [hRw.1.1.1.2.1.rest hy]; omega
              · have := hRw.1.1.1.2.1.move hy; omega
            have hm0 : s2.old.length ≤ 5400000000000 := by have := hRw.1.1.1.2.2.2.2.1; omega
            have hm1 : s2.young.length ≤ 5400000000000 := by have := hRw.1.1.1.2.2.2.2.2; omega
            obtain ⟨es2, hes2⟩ : ∃ es2, Dc.all s2 = es2 := ⟨_, rfl⟩
            have hel2 : es2.length = n2 := by rw [← hes2, ← HN2.out]; exact hRw.1.1.2.1.2.2.symm
            have hn2k : n2 ≤ 2097152 := by have := hRw.1.1.1.2.2.2.1; rw [hes2, hel2] at this; omega
            have hBdc : W6.cell? ⟨Bd, 0, none⟩ = some (.pointer (some ⟨b, 0, none⟩)) := by
              rw [cell_of_row _ _ _ _ _ _ (HRN.out.1.1.2.2.1 (Bd, .cells #[.pointer (some ⟨b, 0, none⟩)] 24 (0, 0)) (List.mem_append_right _ (by rw [HBY.out]; simp))).1]; rfl
            have HIT2 : Kept (∀ W1, Below W6.heap.size W6 W1 → Iter Try.prog 52 #[.pointer (some ⟨Bd, 0, none⟩)] eachV (fun _ _ => True) es2 W1) := fun W1 hb => by
              have := each_iter Bd b seed _ r2 s2 W1 (HRN.out.1.1.1.1.1.below hb) ((hb.cell (p := ⟨Bd, 0, none⟩) (lt_cell hBdc)).trans hBdc) hp hm0 hm1 (by rw [hes2, hel2]; omega)
              rwa [hes2] at this
            have HEL2 := keep hel2
            clear hRw hDw hRN hp hm0 hm1 hes2 hel2 hBdc hNB hb6 h6n LIN HR2 HDK
            have HW6 := keep hW6
            have HNb := keep hNb
            clear hW6 hNb hz6
            obtain ⟨wo, hwo⟩ : ∃ x, x = wr := ⟨_, rfl⟩
            subst hwo
            go_wp2
            rw [HW6.out, HNb.out]
            refine (wpIn_wide (n := 9)).1 (range_own (α := Ent) (gf := 52) (lb := #[.pointer (some ⟨Bd, 0, none⟩)]) rfl (enters_of Try.func52 (by kernel_rfl) rfl) (encs := eachV) (L := es2) (fun _ => rfl) HIT2.out
              (RgN h (k + n) W b seed (Db + 1) (Bd + 1) Nb D (bx ++ by1) es r2 s2 (.slice ao2 n2 cap2) l2 (.slice bo n bc) n) (fun _ _ _ _ => False) RgN.abd (fun _ _ _ _ _ _ h _ _ => h) HRN.out (fun _ _ _ _ => trivial) ?round2 ?done2 ?stop2)
            case stop2 => exact fun _ _ _ _ _ _ h => h.elim
            case round2 =>
              intro M2 l' m x W7 hI hx hl hrec hM2
              obtain ⟨e1, e2⟩ := x
              have HI := keep hI
              have hml : m < n2 := by rw [← HEL2.out]; exact (List.getElem?_eq_some_iff.1 hx).1
              have HM2 := keep hM2
              clear hI hx hrec hM2 HRN HIT2
              unfold eachV
              gi_wp2
              refine ⟨Mk.refl _ _, fun rl => ?_⟩
              obtain ⟨W8, hW8⟩ : ∃ W8, W7.putObj l' (.loop rl) = W8 := ⟨_, rfl⟩
              rw [hW8]
              have hz8' : W8.heap.size = W7.heap.size := by rw [← hW8]; simp
              have hI2 : RgN h (k + n) W b seed (Db + 1) (Bd + 1) Nb D (bx ++ by1) es r2 s2 (.slice ao2 n2 cap2) l2 (.slice bo n bc) n M2 m W8 := RgN.abd _ _ _ _ _ HI.out (by rw [← hW8]; exact Sep.put _ _ hl) (Ext.refl _ _ _)
              clear hW8
              obtain ⟨hRm, ⟨g1, g2, g3, g4⟩, ⟨g5, g6⟩, g7⟩ := hI2
              have cN : W8.cell? ⟨Nb, 0, none⟩ = some (.int .i64 m) := by rw [cell_of_row _ _ _ _ _ _ g1]; rfl
              have fN : W8.frozen? ⟨Nb, 0, none⟩ = false := by simp [World.frozen?, g1]
              have so : ∀ x, x ≠ Nb → (W8.setCell ⟨Nb, 0, none⟩ (.int .i64 ((m : Int) + 1))).heap[x]? = W8.heap[x]? := fun x hx => Below.heap_setCell _ _ _ _ hx
              have hss : (W8.setCell ⟨Nb, 0, none⟩ (.int .i64 ((m : Int) + 1))).heap.size = W8.heap.size := by simp [World.setCell]
              have hND : D ≠ Nb := fun e => by rw [e, g1] at g5; cases g5
              have fin : Kept (rdPost (RgN h (k + n) W b seed (Db + 1) (Bd + 1) Nb D (bx ++ by1) es r2 s2 (.slice ao2 n2 cap2) l2 (.slice bo n bc) n) (fun _ _ _ _ => False) M2 (m + 1) W8 .normal { tmps := #[], defers := [] } (W8.setCell ⟨Nb, 0, none⟩ (.int .i64 ((m : Int) + 1)))) :=
                ⟨⟨by rw [hss]; exact Nat.le_refl _, fun x hx => so x (fun e => g2 (e ▸ hx))⟩, hRm.kept (by rw [hss]; exact Nat.le_refl _) (fun x hx => so x (fun e => g3 (e ▸ hx))) (hRm.1.1.2.2.2.2.1.setCell (p := ⟨Nb, 0, none⟩) g4 _), ⟨cells_setCell g1, g2, g3, g4⟩, ⟨(so D hND).trans g5, g6⟩, g7⟩
              have c8l : (W8.setCell ⟨Nb, 0, none⟩ (.int .i64 ((m : Int) + 1))).cell? ⟨Db + 1, 0, none⟩ = some (.slice ao2 n2 cap2) := (BX.out _ _ _ _ _ _ _ fin.out.2.1.1).2.1
              have hm2 : m ≤ 2097152 := by omega
              have hgt : decide ((n2 : Int) < (m : Int) + 1) = false := decide_eq_false (by omega)
              clear hRm g1 g5 so hss g7 HI
              gi_wp2
              exact fin.out
            case done2 =>
              intro M2 D2 W7 hI hD2 hDk2 hM2
              obtain ⟨hRm, ⟨g1, g2, g3, g4⟩, ⟨g5, g6⟩, g7⟩ := hI
              rw [HEL2.out] at g1
              have cN : W7.cell? ⟨Nb, 0, none⟩ = some (.int .i64 n2) := by rw [cell_of_row _ _ _ _ _ _ g1]; rfl
              obtain ⟨q1, q2, q3, q4⟩ := BX.out _ _ _ _ _ _ _ hRm.1
              have cS : W7.cell? ⟨Bd + 1, 0, none⟩ = some (.slice bo n bc) := by rw [cell_of_row _ _ _ _ _ _ hRm.2.1.1]; rfl
              have cW : W7.cell? ⟨Wa, 0, none⟩ = some (.slice (some ⟨Gw, 0, none⟩) n n) := by
                rw [cell_of_row _ _ _ _ _ _ (hRm.1.2.2.1 (Wa, .cells #[.slice (some ⟨Gw, 0, none⟩) n n] 40 (0, 0)) (List.mem_append_right _ (by rw [HBY.out]; simp))).1]; rfl
              have mO := once_any W7 r2 b s2 (.slice ao2 n2 cap2) l2 hRm.1.1.1 (by omega) hRm.1.1.2.1 hRm.1.1.2.2.1
              have hRc : ¬ OwS (Db + 1) (Bd + 1) (bx ++ by1) r2 (.slice ao2 n2 cap2) (.slice bo n bc) D2 := (g7 D2 hD2).1
              have hD2W := (g7 D2 hD2).2
              have HRM := keep hRm
              have G5 := keep g5
              have G6 := keep g6
              have HDK2 := keep hDk2
              clear hRm g1 g5 g6 g7 hDk2 hM2 HRN HIT2
              go_wp2_with fail
              refine mO.mono ?_
              rintro _ W9 ⟨rfl, hb9⟩
              have hRm9 := HRM.out.below hb9
              have q49 := (BX.out _ _ _ _ _ _ _ hRm9.1).2.2.2
              have cR : W9.cell? ⟨W.heap.size + 1, 0, none⟩ = some (.bool false) := by rw [cell_of_row _ _ _ _ _ _ q49]; rfl
              have fR : W9.frozen? ⟨W.heap.size + 1, 0, none⟩ = false := by simp [World.frozen?, q49]
              have hD9 := (hb9.block D (Array.getElem?_eq_some_iff.1 G5.out).1).trans G5.out
              have hD29 := (hb9.block D2 (Array.getElem?_eq_some_iff.1 HDK2.out).1).trans HDK2.out
              have hDR : D ≠ W.heap.size + 1 := fun e => by rw [e, q49] at hD9; cases hD9
              have hD2R : D2 ≠ W.heap.size + 1 := fun e => by rw [e, q49] at hD29; cases hD29
              have hDD : D2 ≠ D := fun e => G6.out (e ▸ hD2)
              have HB9 := keep hRm9.1.1.2.2.2.2.1
              have Q49 := keep q49
              have HD9 := keep hD9
              have HD29 := keep hD29
              clear mO hb9 hRm9 q49 hD9 hD29 HRM G5 HDK2 cN cS cW q1 q2 q3 q4
              go_wp2
              refine leave_marks [D2, D] _ (by simp [hDD]) (fun D' hD' => ?_) (fun W' hs => ?_)
              · simp only [List.mem_cons, List.not_mem_nil, or_false] at hD'
                rcases hD' with rfl | rfl
                · rw [Below.heap_setCell _ _ _ _ hD2R]; exact HD29.out
                · rw [Below.heap_setCell _ _ _ _ hDR]; exact HD9.out
              · have hcR : W'.cell? ⟨W.heap.size + 1, 0, none⟩ = some (.bool true) := by
                  have h1 := cells_setCell (u := .bool true) Q49.out (i := 0)
                  rw [cell_of_row _ _ _ _ _ _ ((hs.2.2 _ (Array.getElem?_eq_some_iff.1 h1).1 (by simp; exact ⟨Ne.symm hD2R, Ne.symm hDR⟩)).trans h1)]; rfl
                have hbS := HB9.out.setCell (p := ⟨W.heap.size + 1, 0, none⟩) (by show W.heap.size ≤ W.heap.size + 1; omega) (.bool true)
                refine ⟨.bool true, results_cell1 rfl _ _ ⟨W.heap.size + 1, 0, none⟩ _ rfl ?_, rfl, hbS.trans (hs.below hbS.size (fun k hk => ?_))⟩
                · go_simp
                · simp only [List.mem_cons, List.not_mem_nil, or_false] at hk
                  rcases hk with rfl | rfl
                  · exact hD2W
                  · exact hDW
end Go.Proofs.Ytcdcdodhpnmhpaa
