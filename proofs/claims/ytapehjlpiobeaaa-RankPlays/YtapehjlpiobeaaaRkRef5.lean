/-
  Contracts over this program: Range of the document's own ranks: each laid at the place that is told by how many stand ahead, then a stretch of them.
-/
import Derived.Test.YtapehjlpiobeaaaRkRef4
import Derived.Test.YtapehjlpiobeaaaRkAsk2
namespace Go.Proofs.Ytapehjlpiobeaaa
open Go.RowKit Go.Shelf
set_option linter.unusedVariables false
set_option linter.unusedSimpArgs false
set_option maxRecDepth 100000
def z0 : Ent := (⟨#[]⟩, 0)
def hasK (T : List Ent) (x : Ent) : Bool := T.any (fun y => y.1.toList == x.1.toList)
/-- what is laid when T was gone through -/
def outL (l T : List Ent) : List Ent := l.map (fun x => if hasK T x = true then x else z0)
theorem outL_len (l T : List Ent) : (outL l T).length = l.length := by simp [outL]
theorem hasK_mem {T : List Ent} {x : Ent} (h : x ∈ T) : hasK T x = true := by
  unfold hasK
  exact List.any_eq_true.2 ⟨x, h, by simp⟩
theorem out_all {l T : List Ent} (h : ∀ x ∈ l, x ∈ T) : outL l T = l := by
  unfold outL
  conv => rhs; rw [← List.map_id l]
  exact List.map_congr_left (fun x hx => by rw [if_pos (hasK_mem (h x hx))]; rfl)
theorem out_step {l T : List Ent} {k : Nat} {c : Ent} (hk : (Dc.keys l).Nodup) (hc : l[k]? = some c) : outL l (T ++ [c]) = (outL l T).set k c := by
  refine List.ext_getElem? (fun t => ?_)
  have hkl := (List.getElem?_eq_some_iff.1 hc).1
  unfold outL
  rw [List.getElem?_set, List.length_map]
  by_cases htk : k = t
  · subst htk
    rw [if_pos rfl, if_pos hkl, List.getElem?_map, hc]
    show some (if hasK (T ++ [c]) c = true then c else z0) = some c
    rw [if_pos (hasK_mem (by simp))]
  · rw [if_neg htk, List.getElem?_map, List.getElem?_map]
    cases hx : l[t]? with
    | none => rfl
    | some x =>
      have hne : c.1 ≠ x.1 := fun e => htk (uniq_at hk hc hx e)
      have hne' : (c.1.toList == x.1.toList) = false := beq_eq_false_iff_ne.2 (fun e => hne (tl_inj e))
      have ha : hasK (T ++ [c]) x = hasK T x := by unfold hasK; rw [List.any_append]; simp only [List.any_cons, List.any_nil, hne', Bool.or_false]
      show some _ = some _
      dsimp only
      rw [ha]
theorem made_row (n : Nat) : (madeCells (Value.agg #[.string .empty, .float .f64 0]).cells (n * 2)).toList = enR (List.replicate n z0) := by
  induction n with
  | zero => simp [madeCells, enR]
  | succ n ih =>
    have e : madeCells (Value.agg #[.string .empty, .float .f64 0]).cells ((n + 1) * 2) = madeCells (Value.agg #[.string .empty, .float .f64 0]).cells (n * 2) ++ #[.string .empty, .float .f64 0] := by
      unfold madeCells
      rw [show (n + 1) * 2 = n * 2 + 1 + 1 by omega, Array.range_succ, Array.range_succ]
      simp only [Array.map_append, List.map_toArray, List.map_cons, List.map_nil]
      have h0 : (n * 2) % (Value.agg #[.string .empty, .float .f64 0]).cells.size = 0 := by show n * 2 % 2 = 0; omega
      have h1 : (n * 2 + 1) % (Value.agg #[.string .empty, .float .f64 0]).cells.size = 1 := by show (n * 2 + 1) % 2 = 1; omega
      rw [h0, h1, Array.append_assoc]
      rfl
    rw [e, Array.toList_append, ih, List.replicate_succ', enR_app]
    rfl
theorem out_nil : ∀ (l : List Ent), outL l [] = List.replicate l.length z0
  | [] => rfl
  | a :: l => by
    have := out_nil l
    unfold outL at this ⊢
    rw [List.map_cons, this, List.length_cons, List.replicate_succ]
    rfl
/-- the place is told by how many stand ahead -/
theorem rnk_place {L M : List Ent} (hp : L.Perm M) (hR : Ris L) {k : Nat} {c : Ent} (hc : L[k]? = some c) : rnk M c = k := by
  have h1 := rnk_at hR (split_at hc)
  have hk := (List.getElem?_eq_some_iff.1 hc).1
  rw [List.length_take, Nat.min_eq_left (by omega)] at h1
  unfold rnk at h1 ⊢
  rw [← hp.countP_eq]; exact h1
theorem rn_put {w : World} {g n cp k : Nat} {l : List Ent} {c : Ent} (h : Rn w (.slice (some ⟨g, 0, none⟩) n cp) l) (hn : l.length = n) (hk : k < n) :
    Rn ((w.setCell ⟨g, k * 2, none⟩ (.string c.1)).setCell ⟨g, k * 2 + 1, none⟩ (.float .f64 c.2)) (.slice (some ⟨g, 0, none⟩) n cp) (l.set k c) ∧ (∃ u, w.cell? ⟨g, k * 2, none⟩ = some u ∧ ∃ u', w.cell? ⟨g, k * 2 + 1, none⟩ = some u') ∧ ∀ i, w.frozen? ⟨g, i, none⟩ = false := by
  have h' := h
  obtain ⟨x, hx⟩ : ∃ x, l[k]? = some x := ⟨_, List.getElem?_eq_getElem (by omega)⟩
  unfold Rn at h ⊢
  rw [hn] at h
  rw [List.length_set, hn]
  obtain ⟨cur, hcur, hcc, hcm, hsz, htk, hxl⟩ := own_cur h
  refine ⟨own_of (cellsSet (cellsSet hcur)) hcc hcm (by simp [hsz]) ?_ ?_, ?_, fun i => by simp [World.frozen?, hcur]⟩
  · rw [← set_two (x := x.2) (key := x.1) hx, ← htk]
    simp [Array.toList_setIfInBounds, List.take_set]
  · rw [enR_len, List.length_set, hn]
  · obtain ⟨e0, e1⟩ := h'.at hx
    exact ⟨_, e0, _, e1⟩
theorem seg_step {L : List Ent} {i : Nat} {e : Ent} (h : L[i]? = some e) (a b : Nat) : seg (L.take (i + 1)) a b = seg (L.take i) a b ++ (if a ≤ i ∧ i < b then [e] else []) := by
  have hi := (List.getElem?_eq_some_iff.1 h).1
  unfold seg
  rw [List.take_take, List.take_take]
  by_cases hb : i < b
  · rw [Nat.min_eq_right (by omega : i + 1 ≤ b), Nat.min_eq_right (by omega : i ≤ b), List.take_add_one, h]
    have hl : (L.take i).length = i := by rw [List.length_take]; omega
    by_cases ha : a ≤ i
    · rw [if_pos ⟨ha, hb⟩, List.drop_append_of_le_length (by rw [hl]; exact ha)]
      rfl
    · rw [if_neg (fun hh => ha hh.1), List.append_nil, List.drop_eq_nil_of_le (by rw [List.length_append, hl]; simp; omega), List.drop_eq_nil_of_le (by rw [hl]; omega)]
  · rw [if_neg (fun hh => hb hh.2), List.append_nil, Nat.min_eq_left (by omega : b ≤ i + 1), Nat.min_eq_left (by omega : b ≤ i)]
def Rgd (w : World) (N : List Ent) (e : Ending) (w' : World) : Prop := ∃ u, e = .returned u ∧ Mine w w' u N
set_option maxHeartbeats 16000000 in
theorem rrange_any (w : World) (b : Nat) (v : Value) (M L : List Ent) (A B : Int) (h : Rp w b v M) (hp : L.Perm M) (hR : Ris L) (hk : (Dc.keys L).Nodup) (hn : M.length ≤ 1048576) :
    Calls Try.prog 36 #[.pointer (some ⟨b, 0, none⟩), .int .i64 A, .int .i64 B] w fun e w' => Rgd w (seg L A.toNat B.toNat) e w' := by
  have sf : ∀ (x : Nat) (w : World) (a : Addr), (store a (.float .f64 x)).run Try.prog w = stored Try.prog w a (.float .f64 x) .plain := fun x w a => run_store _ w a _ _ rfl
  obtain ⟨k0, _⟩ := h.cells
  have HP : Kept (∀ w2, Below w.heap.size w w2 → Rp w2 b v M) := fun w2 hb => h.bel hb
  obtain ⟨ao, cp, rfl, hao⟩ := h.2.1.form
  obtain ⟨n, hln⟩ : ∃ n, M.length = n := ⟨_, rfl⟩
  have hl : L.length = n := by rw [hp.length_eq, hln]
  rw [hln] at HP hao hn k0
  obtain ⟨i0, hi0, hz0, hz1, hz2⟩ := info_parts info_rk
  have uT := Try.underlying41
  obtain ⟨W1, hmk, hown, hgr⟩ := run_make_full (P := Try.prog) w w.heap.size 41 46 i0 _ 2 uT hi0 hz0 hz1 .i64 .i64 n (by rw [hz2]; omega) (by unfold maxLen; omega) (Nat.le_refl _)
  have hb1 : Below w.heap.size w W1 := (Below.refl _ w).grown hgr (Nat.le_refl _) (fun k hk => by cases hk)
  obtain ⟨H, hH⟩ : ∃ H, w.heap.size = H := ⟨_, rfl⟩
  rw [made_row, hH] at hown
  rw [hH] at hmk
  have hMn : (Dc.keys M).Nodup := (hp.map _).nodup_iff.1 hk
  have R0 : Kept (Rn W1 (.slice (some ⟨H, 0, none⟩) n n) (outL L (M.take 0))) := by
    rw [List.take_zero, out_nil, hl]
    refine ⟨by rw [enR_len], ?_⟩
    rw [List.length_replicate]
    rcases hown.2 with ⟨h', _⟩ | ⟨g', cap', cur, e, _, rest⟩
    · cases h'
    · exact .inr ⟨g', cap', cur, e, Nat.zero_le _, rest⟩
  have B0 := keep hb1
  have HLN := keep hln
  have HL := keep hl
  have HAO := keep hao
  have HPM := keep hp
  have HRis := keep hR
  have HKN := keep hk
  have HMN := keep hMn
  have HN := keep hn
  have HHs := keep hH
  obtain ⟨k1, _⟩ := (HP.out W1 hb1).cells
  have HQ : Kept (∀ u w', Mine w w' u (seg L A.toNat B.toNat) → Rgd w (seg L A.toNat B.toNat) (.returned u) w') := fun u w' hm => ⟨u, rfl, hm⟩
  generalize hQd : Rgd w (seg L A.toNat B.toNat) = Q at *
  clear h hln hao hn hp hR hk hl hown hgr hb1 hMn hQd hi0 hz0 hz1 hz2 uT i0 hH
  go_enter Try.func36, Try.ntmps36
  go_wp2
  go_loopg [28] n (fun kx s wr => ∃ i : Nat, s = .int .i64 i ∧ i ≤ n ∧ n - i ≤ kx ∧ Kept (Below w.heap.size w wr) ∧ Kept (Rn wr (.slice (some ⟨H, 0, none⟩) n n) (outL L (M.take i))))
  case atStart => exact ⟨0, rfl, Nat.zero_le _, by omega, B0, R0⟩
  case round =>
    obtain ⟨wo, hwo⟩ : ∃ x, x = wr := ⟨_, rfl⟩
    subst hwo
    obtain ⟨i, rfl, hin, hgi, BW, KR⟩ := hrel
    by_cases hlt : i < n
    · obtain ⟨c, hc⟩ : ∃ c, M[i]? = some c := ⟨_, List.getElem?_eq_getElem (by have := HLN.out; omega)⟩
      obtain ⟨g, hg'⟩ := HAO.out (by omega)
      subst hg'
      obtain ⟨oI, hoI⟩ : ∃ o, o = i * 2 := ⟨_, rfl⟩
      obtain ⟨e0, e1⟩ := (HP.out wo BW.out).2.1.at hc
      rw [← hoI] at e0 e1
      have hoI' : i * 2 = oI := hoI.symm
      have i0 : (0 : Int) ≤ (i : Int) := by omega
      have i1 : (i : Int) < (n : Int) := by omega
      have hwi : IntKind.i64.wrap ((i : Int) + 1) = (i : Int) + 1 := by have := HN.out; rw [IntKind.wrap_i64]; omega
      have hlk := look_at HMN.out (show M[i]? = some (c.1, c.2) from hc)
      obtain ⟨k, hkc⟩ : ∃ k, L[k]? = some c := List.mem_iff_getElem?.1 (HPM.out.mem_iff.2 (List.mem_iff_getElem?.2 ⟨i, hc⟩))
      have hrk := rnk_place HPM.out HRis.out hkc
      have hkl : k < n := by have := (List.getElem?_eq_some_iff.1 hkc).1; have := HL.out; omega
      have hst : outL L (M.take (i + 1)) = (outL L (M.take i)).set k c := by
        rw [List.take_add_one, hc]
        exact out_step HKN.out hkc
      obtain ⟨x1, x2⟩ := c
      dsimp only at e0 e1 hlk
      obtain ⟨D1, hD1⟩ : ∃ D, wo.heap.size = D := ⟨_, rfl⟩
      obtain ⟨W6, hW6⟩ : ∃ W6, wo.alloc (.cells #[.string x1, .float .f64 x2] 46) = W6 := ⟨_, rfl⟩
      have hb6 : Below wo.heap.size wo W6 := by rw [← hW6]; exact (Below.refl _ wo).alloc (Nat.le_refl _) _
      have g6 : W6.heap[D1]? = some (.cells #[.string x1, .float .f64 x2] 46 (0, 0)) := by rw [← hW6, ← hD1]; exact heap_alloc_new _ _
      obtain ⟨d0, d1, _⟩ := two_c0 g6
      have B6 := keep (Below.up BW.out hb6)
      have mR := rrank_any W6 b _ M x1 (HP.out W6 B6.out) (by have := HLN.out; have := HN.out; omega) HMN.out
      unfold rkA at mR
      rw [hlk] at mR
      dsimp only at mR
      rw [hrk] at mR
      have MR := keep mR
      have HW : Kept (∀ w7, Below W6.heap.size W6 w7 → w7.cell? ⟨D1, 0, none⟩ = some (.string x1) ∧ w7.cell? ⟨D1, 1, none⟩ = some (.float .f64 x2) ∧ (∃ u0 u1, w7.cell? ⟨H, k * 2, none⟩ = some u0 ∧ w7.cell? ⟨H, k * 2 + 1, none⟩ = some u1) ∧ (∀ i, w7.frozen? ⟨H, i, none⟩ = false) ∧ Rn ((w7.setCell ⟨H, k * 2, none⟩ (.string x1)).setCell ⟨H, k * 2 + 1, none⟩ (.float .f64 x2)) (.slice (some ⟨H, 0, none⟩) n n) (outL L (M.take (i + 1))) ∧ Below w.heap.size w ((w7.setCell ⟨H, k * 2, none⟩ (.string x1)).setCell ⟨H, k * 2 + 1, none⟩ (.float .f64 x2))) := fun w7 hb7 => by
        obtain ⟨y0, y1, _⟩ := two_c0 ((hb7.block D1 (Array.getElem?_eq_some_iff.1 g6).1).trans g6)
        obtain ⟨r1, ⟨u0, hu0, u1, hu1⟩, r3⟩ := rn_put (c := (x1, x2)) ((KR.out.bel hb6).bel hb7) (by rw [outL_len]; exact HL.out) hkl
        refine ⟨y0, y1, ⟨u0, u1, hu0, hu1⟩, r3, by rw [hst]; exact r1, ?_⟩
        exact ((Below.up B6.out hb7).setCell (by have := HHs.out; show w.heap.size ≤ H; omega) _).setCell (by have := HHs.out; show w.heap.size ≤ H; omega) _
      clear hc hoI hb6 g6 d1 mR hlk hkc hrk hst KR
      go_wp2_with fail
      refine MR.out.mono ?_
      rintro _ w7 ⟨rfl, hb7⟩
      obtain ⟨y0, y1, ⟨u0, u1, hu0, hu1⟩, r3, r1, rB⟩ := HW.out w7 hb7
      obtain ⟨oK, hoK⟩ : ∃ o, o = k * 2 := ⟨_, rfl⟩
      rw [← hoK] at r1 rB hu0 hu1
      have hoK' : k * 2 = oK := hoK.symm
      have k0i : (0 : Int) ≤ (k : Int) := by omega
      have k1i : (k : Int) < (n : Int) := by omega
      obtain ⟨W9, hW9⟩ : ∃ x, (w7.setCell ⟨H, oK, none⟩ (.string x1)).setCell ⟨H, oK + 1, none⟩ (.float .f64 x2) = x := ⟨_, rfl⟩
      rw [hW9] at r1 rB
      have R9 := keep r1
      have B9 := keep rB
      have hu1' : (w7.setCell ⟨H, oK, none⟩ (.string x1)).cell? ⟨H, oK + 1, none⟩ = some u1 := by rw [World.cell?_setCell_other _ _ _ _ (by simp)]; exact hu1
      have r3' : ∀ i, (w7.setCell ⟨H, oK, none⟩ (.string x1)).frozen? ⟨H, i, none⟩ = false := fun i => by rw [World.frozen?_setCell]; exact r3 i
      clear r1 rB hoK hkl MR HW hb7 d0
      go_wp2
      go_roundg (n - (i + 1))
      case measure => omega
      case rel => exact ⟨i + 1, by simp, by omega, Nat.le_refl _, B9.out, R9.out⟩
    · obtain rfl : i = n := by omega
      have hr := KR.out
      rw [show M.take i = M from List.take_of_length_le (by have := HLN.out; omega), out_all (fun x hx => HPM.out.mem_iff.1 hx)] at hr
      have KL := keep hr
      clear hr KR
      go_wp2_with fail
      go_loopg [12, 46] i (fun kx s12 s wz => ∃ j : Nat, s = .int .i64 j ∧ j ≤ i ∧ i - j ≤ kx ∧ ∃ bo bn bc, s12 = .slice bo bn bc ∧ Kept (Mine wo wz (.slice bo bn bc) (seg (L.take j) A.toNat B.toNat)))
      case atStart => exact ⟨0, rfl, by omega, by omega, none, 0, 0, rfl, by simp only [List.take_zero, seg, List.take_nil, List.drop_nil]; exact mine0 wo⟩
      case round =>
        obtain ⟨j, rfl, hji, hgj, bo, bn, bc, rfl, KM⟩ := hrel
        by_cases hjl : j < i
        · obtain ⟨c, hc⟩ : ∃ c, L[j]? = some c := ⟨_, List.getElem?_eq_getElem (by have := HL.out; omega)⟩
          obtain ⟨oJ, hoJ⟩ : ∃ o, o = j * 2 := ⟨_, rfl⟩
          obtain ⟨e0, e1⟩ := (KL.out.bel KM.out.2.2).at hc
          rw [← hoJ] at e0 e1
          have hoJ' : j * 2 = oJ := hoJ.symm
          have j0 : (0 : Int) ≤ (j : Int) := by omega
          have j1 : (j : Int) < (i : Int) := by omega
          have hwj : IntKind.i64.wrap ((j : Int) + 1) = (j : Int) + 1 := by have := HN.out; rw [IntKind.wrap_i64]; omega
          have hsg := seg_step hc A.toNat B.toNat
          obtain ⟨x1, x2⟩ := c
          dsimp only at e0 e1
          obtain ⟨D1, hD1⟩ : ∃ D, wr.heap.size = D := ⟨_, rfl⟩
          obtain ⟨W6, hW6⟩ : ∃ W6, wr.alloc (.cells #[.string x1, .float .f64 x2] 46) = W6 := ⟨_, rfl⟩
          have hb6 : Below wr.heap.size wr W6 := by rw [← hW6]; exact (Below.refl _ wr).alloc (Nat.le_refl _) _
          have g6 : W6.heap[D1]? = some (.cells #[.string x1, .float .f64 x2] 46 (0, 0)) := by rw [← hW6, ← hD1]; exact heap_alloc_new _ _
          obtain ⟨d0, d1, _⟩ := two_c0 g6
          have M6 : Kept (Mine wo W6 (.slice bo bn bc) (seg (L.take j) A.toNat B.toNat)) := ⟨KM.out.1.bel hb6, KM.out.2.1, Below.up KM.out.2.2 hb6⟩
          by_cases hA : A ≤ (j : Int)
          · by_cases hB : (j : Int) < B
            · rw [if_pos ⟨by omega, by omega⟩] at hsg
              obtain ⟨D2, hD2⟩ : ∃ D, W6.heap.size = D := ⟨_, rfl⟩
              obtain ⟨W7, hW7⟩ : ∃ W7, W6.alloc (.cells #[.string x1, .float .f64 x2] 46) = W7 := ⟨_, rfl⟩
              have hb7 : Below W6.heap.size W6 W7 := by rw [← hW7]; exact (Below.refl _ W6).alloc (Nat.le_refl _) _
              have g7 : W7.heap[D2]? = some (.cells #[.string x1, .float .f64 x2] 46 (0, 0)) := by rw [← hW7, ← hD2]; exact heap_alloc_new _ _
              have M7 : Mine wo W7 (.slice bo bn bc) (seg (L.take j) A.toNat B.toNat) := ⟨M6.out.1.bel hb7, M6.out.2.1, Below.up M6.out.2.2 hb7⟩
              have hsl : (seg (L.take j) A.toNat B.toNat).length ≤ j := by rw [seg_len, List.length_take]; omega
              obtain ⟨v8, W8, a1, m1, _⟩ := mine_cat (ad := ⟨D2, 0, none⟩) (m := 1) (c := 1) (l2 := [(x1, x2)]) M7 rfl (fun t u ht => mc_cell g7 t u ht) (by have := HN.out; simp only [List.length_cons, List.length_nil]; omega)
              obtain ⟨co, cn, cc, rfl⟩ := mine_slice m1
              have M8 : Kept (Mine wo W8 (.slice co cn cc) (seg (L.take (j + 1)) A.toNat B.toNat)) := by rw [hsg]; exact m1
              have A1 := keep a1
              clear hc hoJ hb6 g6 hb7 g7 M7 hsl a1 m1 hsg KM M6
              go_wp2_with (at_builtin; refine wpList_app_run rfl _ _ _ _ rfl _ _ _ rfl rfl A1.out ?_)
              go_roundg (i - (j + 1))
              case measure => omega
              case rel => exact ⟨j + 1, by simp, by omega, Nat.le_refl _, co, cn, cc, rfl, M8.out⟩
            · rw [if_neg (fun hh => hB (by omega)), List.append_nil] at hsg
              have M8 : Kept (Mine wo W6 (.slice bo bn bc) (seg (L.take (j + 1)) A.toNat B.toNat)) := by rw [hsg]; exact M6.out
              clear hc hoJ hb6 g6 hsg KM M6
              go_wp2
              go_roundg (i - (j + 1))
              case measure => omega
              case rel => exact ⟨j + 1, by simp, by omega, Nat.le_refl _, bo, bn, bc, rfl, M8.out⟩
          · rw [if_neg (fun hh => hA (by omega)), List.append_nil] at hsg
            have M8 : Kept (Mine wo W6 (.slice bo bn bc) (seg (L.take (j + 1)) A.toNat B.toNat)) := by rw [hsg]; exact M6.out
            clear hc hoJ hb6 g6 hsg KM M6
            go_wp2
            go_roundg (i - (j + 1))
            case measure => omega
            case rel => exact ⟨j + 1, by simp, by omega, Nat.le_refl _, bo, bn, bc, rfl, M8.out⟩
        · obtain rfl : j = i := by omega
          have HF : Kept (Q (.returned (.slice bo bn bc)) wr) := HQ.out _ _ (by
            have hm := KM.out
            rw [show L.take j = L from List.take_of_length_le (by have := HL.out; omega)] at hm
            exact ⟨hm.1, fun k hk => Nat.le_trans BW.out.size (hm.2.1 k hk), Below.up BW.out hm.2.2⟩)
          go_wp2
          first | exact HF.out | (go_ret; exact HF.out)
/-- Range of the program's ranks, at any two ints -/
theorem krange_any {w : World} {O : Nat → Prop} {R seed : Nat} {L : List Ent} (hK : RK w O R seed L) (A B : Int) :
    Calls Try.prog 14 #[.pointer (some ⟨R, 0, none⟩), .int .i64 A, .int .i64 B] w fun e w' => Rgd w (seg L A.toNat B.toNat) e w' := by
  have fin : ∀ (e : Ending) (w' : World) (N : List Ent), N = seg L A.toNat B.toNat → ((∃ v, e = .returned v ∧ Mr w.heap.size w' v N) ∧ Below w.heap.size w w') → Rgd w (seg L A.toNat B.toNat) e w' := by
    rintro e w' N rfl ⟨⟨u, rfl, hm⟩, hb⟩
    exact ⟨u, rfl, hm.zero, fun k hk => (hm.lt k hk).1, hb⟩
  by_cases ho : min B (L.length : Int) ≤ max A 0
  · refine (krange_out hK A B ho).mono ?_
    rintro e w' ⟨rfl, rfl⟩
    have hN : seg L A.toNat B.toNat = [] := by
      refine List.length_eq_zero_iff.1 ?_
      rw [seg_len]; omega
    exact ⟨_, rfl, by rw [hN]; exact mine0 _⟩
  · by_cases hA : 0 ≤ A
    · obtain ⟨a, rfl⟩ : ∃ a : Nat, A = a := ⟨A.toNat, by omega⟩
      by_cases hB : B ≤ (L.length : Int)
      · obtain ⟨b, rfl⟩ : ∃ b : Nat, B = b := ⟨B.toNat, by omega⟩
        exact (krange_at hK a b (by omega) (by omega)).mono fun e w' h => fin e w' _ rfl h
      · refine (krange_hi hK a B (by omega) (by omega)).mono fun e w' h => fin e w' _ ?_ h
        unfold seg
        rw [List.take_of_length_le (Nat.le_refl _), List.take_of_length_le (by omega)]
        rfl
    · have h0 : A.toNat = 0 := by omega
      by_cases hB : B ≤ (L.length : Int)
      · obtain ⟨b, rfl⟩ : ∃ b : Nat, B = b := ⟨B.toNat, by omega⟩
        exact (krange_lo hK A (by omega) 0 rfl b (by omega) (by omega)).mono fun e w' h => fin e w' _ (by rw [h0]; rfl) h
      · refine (krange_both hK A (by omega) 0 rfl B (by omega) (by omega)).mono fun e w' h => fin e w' _ ?_ h
        rw [h0]
        unfold seg
        rw [List.take_of_length_le (Nat.le_refl _), List.take_of_length_le (by omega)]
end Go.Proofs.Ytapehjlpiobeaaa
