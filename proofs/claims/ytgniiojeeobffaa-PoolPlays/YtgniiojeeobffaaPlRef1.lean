/-
  Contracts over this program: Candidates of the document's own pool: all in their order, each laid at the place that is told by how many come sooner.
-/
import Derived.Test.YtgniiojeeobffaaPlRef0
import Derived.Test.YtgniiojeeobffaaPlSoon0
namespace Go.Proofs.Ytgniiojeeobffaa
open Go.RowKit Go.Shelf
set_option linter.unusedVariables false
set_option linter.unusedSimpArgs false
set_option maxRecDepth 100000
def z0 : Ent := (⟨#[]⟩, 0)
/-- what is laid when T was gone through -/
def outL (l T : List Ent) : List Ent := l.map (fun x => if T.any (fun y => eqE y x) then x else z0)
theorem outL_len (l T : List Ent) : (outL l T).length = l.length := by simp [outL]
theorem any_eq {T : List Ent} {x : Ent} : T.any (fun y => eqE y x) = true ↔ x ∈ T := by
  rw [List.any_eq_true]
  exact ⟨fun ⟨y, h, e⟩ => by rw [← eqE_iff.1 e]; exact h, fun h => ⟨x, h, eqE_self x⟩⟩
theorem out_all {l T : List Ent} (h : ∀ x ∈ l, x ∈ T) : outL l T = l := by
  unfold outL
  conv => rhs; rw [← List.map_id l]
  exact List.map_congr_left (fun x hx => by rw [if_pos (any_eq.2 (h x hx))]; rfl)
theorem out_step {l T : List Ent} {k : Nat} {c : Ent} (hk : l.Pairwise (fun a b => a.1 ≠ b.1)) (hc : l[k]? = some c) : outL l (T ++ [c]) = (outL l T).set k c := by
  refine List.ext_getElem? (fun t => ?_)
  have hkl := (List.getElem?_eq_some_iff.1 hc).1
  unfold outL
  rw [List.getElem?_set, List.length_map]
  by_cases htk : k = t
  · subst htk
    rw [if_pos rfl, if_pos hkl, List.getElem?_map, hc]
    simp [eqE_self]
  · rw [if_neg htk, List.getElem?_map, List.getElem?_map]
    cases hx : l[t]? with
    | none => rfl
    | some x =>
      have hne : c ≠ x := fun e => htk (good_place hk hc hx (by rw [e]))
      have ha : (T ++ [c]).any (fun y => eqE y x) = T.any (fun y => eqE y x) := by rw [List.any_append]; simp only [List.any_cons, List.any_nil, eqE_not hne, Bool.or_false]
      show some _ = some _
      dsimp only
      rw [ha]
theorem made_row (n : Nat) : (madeCells (Value.agg #[.string .empty, .int .u64 0]).cells (n * 2)).toList = enR (List.replicate n z0) := by
  induction n with
  | zero => simp [madeCells, enR]
  | succ n ih =>
    have e : madeCells (Value.agg #[.string .empty, .int .u64 0]).cells ((n + 1) * 2) = madeCells (Value.agg #[.string .empty, .int .u64 0]).cells (n * 2) ++ #[.string .empty, .int .u64 0] := by
      unfold madeCells
      rw [show (n + 1) * 2 = n * 2 + 1 + 1 by omega, Array.range_succ, Array.range_succ]
      simp only [Array.map_append, List.map_toArray, List.map_cons, List.map_nil]
      have h0 : (n * 2) % (Value.agg #[.string .empty, .int .u64 0]).cells.size = 0 := by show n * 2 % 2 = 0; omega
      have h1 : (n * 2 + 1) % (Value.agg #[.string .empty, .int .u64 0]).cells.size = 1 := by show (n * 2 + 1) % 2 = 1; omega
      rw [h0, h1, Array.append_assoc]
      rfl
    rw [e, Array.toList_append, ih, List.replicate_succ', enR_app]
    rfl
theorem out_nil : ∀ (l : List Ent), outL l [] = List.replicate l.length z0
  | [] => rfl
  | a :: l => by
    have := out_nil l
    unfold outL at this ⊢
    rw [List.map_cons, this, List.length_cons, List.replicate_succ]
    rfl
/-- the place is told by how many come sooner -/
theorem cnt_place {all l : List Ent} (hp : all.Perm l) (hg : Good l) {k : Nat} {c : Ent} (hc : l[k]? = some c) : cnt c all all.length = k := by
  have hs : Soon all.length all l [] := ⟨by simpa using hp, hg, by rw [Nat.min_self, hp.length_eq], fun d hd => by cases hd⟩
  exact (hs.count hc).1
set_option maxHeartbeats 8000000 in
theorem rcands_any (w : World) (b m : Nat) (v : Value) (all l : List Ent) (h : Rp w b v m all) (hp : all.Perm l) (hg : Good l) (hn : l.length ≤ 100000) :
    Calls Try.prog 25 #[.pointer (some ⟨b, 0, none⟩)] w fun e w' => Cpy w l e w' := by
  obtain ⟨k0, k1, _⟩ := h.cells
  obtain ⟨ao, n, cp, rfl, hln, hao⟩ := h.2.1.shape
  have hl : l.length = n := by rw [← hp.length_eq, hln]
  obtain ⟨i0, hi0, hz0, hz1, hz2⟩ := info_parts info_rk
  have uT := Try.underlying43
  obtain ⟨W1, hmk, hown, hgr⟩ := run_make_full (P := Try.prog) w w.heap.size 43 32 i0 _ 2 uT hi0 hz0 hz1 .i64 .i64 n (by rw [hz2]; omega) (by unfold maxLen; omega) (Nat.le_refl _)
  have hb1 : Below w.heap.size w W1 := (Below.refl _ w).grown hgr (Nat.le_refl _) (fun k hk => by cases hk)
  obtain ⟨H, hH⟩ : ∃ H, w.heap.size = H := ⟨_, rfl⟩
  rw [made_row, hH] at hown
  rw [hH] at hmk
  have R0 : Kept (Row W1 (.slice (some ⟨H, 0, none⟩) n n) (outL l (all.take 0))) := by
    rw [List.take_zero, out_nil, hl]
    refine ⟨by rw [enR_len], ?_⟩
    rw [List.length_replicate]
    rcases hown.2 with ⟨h', _⟩ | ⟨g', cap', cur, e, _, rest⟩
    · cases h'
    · exact .inr ⟨g', cap', cur, e, Nat.zero_le _, rest⟩
  have B0 := keep hb1
  have HP := keep h
  have HR := keep h.2.1
  have HLN := keep hln
  have HL := keep hl
  have HAO := keep hao
  have HPM := keep hp
  have HG := keep hg
  have HN : Kept (n ≤ 100000) := by rw [← hl]; exact hn
  have HK1 : Kept (∀ wz, Below w.heap.size w wz → wz.cell? ⟨b, 1, none⟩ = some (.slice ao n cp)) := fun wz hb => (h.bel hb).cells.2.1
  have HQ : Kept (∀ w', Row w' (.slice (some ⟨H, 0, none⟩) n n) l → Below w.heap.size w w' → Cpy w l (.returned (.slice (some ⟨H, 0, none⟩) n n)) w') := fun w' hr hb => ⟨_, rfl, hr, fun k hk => (by cases hk; exact Nat.le_of_eq hH), hb⟩
  have k1' := HK1.out W1 hb1
  generalize Cpy w l = Q at *
  clear h hln hao hn hp hg hl hown hgr hb1 k0
  go_enter Try.func25, Try.ntmps25
  go_wp2
  go_loopg [22] n (fun kx s wr => ∃ i : Nat, s = .int .i64 i ∧ i ≤ n ∧ n - i ≤ kx ∧ Kept (Below w.heap.size w wr) ∧ Kept (Row wr (.slice (some ⟨H, 0, none⟩) n n) (outL l (all.take i))))
  case atStart => exact ⟨0, rfl, Nat.zero_le _, by omega, B0, R0⟩
  case round =>
    obtain ⟨wo, hwo⟩ : ∃ x, x = wr := ⟨_, rfl⟩
    subst hwo
    obtain ⟨i, rfl, hin, hgi, BW, KR⟩ := hrel
    by_cases hlt : i < n
    · obtain ⟨c, hc⟩ : ∃ c, all[i]? = some c := ⟨_, List.getElem?_eq_getElem (by have := HLN.out; omega)⟩
      obtain ⟨g, hg'⟩ := HAO.out (by omega)
      subst hg'
      obtain ⟨oI, hoI⟩ : ∃ o, o = i * 2 := ⟨_, rfl⟩
      obtain ⟨e0, e1⟩ := (HR.out.bel BW.out).two HLN.out hc
      rw [← hoI] at e0 e1
      have hoI' : i * 2 = oI := hoI.symm
      have i0 : (0 : Int) ≤ (i : Int) := by omega
      have i1 : (i : Int) < (n : Int) := by omega
      have hwi : IntKind.i64.wrap ((i : Int) + 1) = (i : Int) + 1 := by have := HN.out; rw [IntKind.wrap_i64]; omega
      obtain ⟨x1, x2⟩ := c
      dsimp only at e0 e1
      obtain ⟨D1, hD1⟩ : ∃ D, wo.heap.size = D := ⟨_, rfl⟩
      obtain ⟨W6, hW6⟩ : ∃ W6, wo.alloc (.cells #[.string x1, .int .u64 x2] 32) = W6 := ⟨_, rfl⟩
      have hb6 : Below wo.heap.size wo W6 := by rw [← hW6]; exact (Below.refl _ wo).alloc (Nat.le_refl _) _
      have gD1 : W6.heap[D1]? = some (.cells #[.string x1, .int .u64 x2] 32 (0, 0)) := by rw [← hW6, ← hD1]; exact heap_alloc_new _ _
      have B6 := keep (Below.up BW.out hb6)
      have G1 : Kept (W6.heap[D1]? = some (.cells #[.string x1, .int .u64 x2] 32 (0, 0)) ∧ D1 < W6.heap.size) := ⟨gD1, (Array.getElem?_eq_some_iff.1 gD1).1⟩
      have R6 := keep (KR.out.bel hb6)
      have HC := keep hc
      have q1 := HK1.out W6 B6.out
      clear hc hoI hb6 gD1 KR
      go_wp2_with fail
      go_loopg [6, 31] n (fun kx c s wz => ∃ j : Nat, s = .int .i64 j ∧ j ≤ n ∧ n - j ≤ kx ∧ c = .int .i64 ((cnt (x1, x2) all j : Nat) : Int) ∧ Kept (Below W6.heap.size W6 wz))
      case atStart => exact ⟨0, rfl, Nat.zero_le _, by omega, rfl, Below.refl _ _⟩
      case round =>
        obtain ⟨j, rfl, hjn, hgj, rfl, BJ⟩ := hrel
        by_cases hjl : j < n
        · obtain ⟨d, hd⟩ : ∃ d, all[j]? = some d := ⟨_, List.getElem?_eq_getElem (by have := HLN.out; omega)⟩
          obtain ⟨oJ, hoJ⟩ : ∃ o, o = j * 2 := ⟨_, rfl⟩
          obtain ⟨f0, f1⟩ := (HR.out.bel (Below.up B6.out BJ.out)).two HLN.out hd
          rw [← hoJ] at f0 f1
          have hoJ' : j * 2 = oJ := hoJ.symm
          have j0 : (0 : Int) ≤ (j : Int) := by omega
          have j1 : (j : Int) < (n : Int) := by omega
          have hwj : IntKind.i64.wrap ((j : Int) + 1) = (j : Int) + 1 := by have := HN.out; rw [IntKind.wrap_i64]; omega
          obtain ⟨D2, hD2⟩ : ∃ D, wr.heap.size = D := ⟨_, rfl⟩
          obtain ⟨W7, hW7⟩ : ∃ W7, wr.alloc (.cells #[.string d.1, .int .u64 d.2] 32) = W7 := ⟨_, rfl⟩
          have hb7 : Below wr.heap.size wr W7 := by rw [← hW7]; exact (Below.refl _ wr).alloc (Nat.le_refl _) _
          have gD2 : W7.heap[D2]? = some (.cells #[.string d.1, .int .u64 d.2] 32 (0, 0)) := by rw [← hW7, ← hD2]; exact heap_alloc_new _ _
          have B7 := keep (Below.up BJ.out hb7)
          obtain ⟨y0, y1, _⟩ := cells_two gD2
          obtain ⟨h0, h1, _⟩ := cells_two ((B7.out.block D1 G1.out.2).trans G1.out.1)
          have mS := rsooner_any d (x1, x2) W7
          have cs := cnt_succ (x := (x1, x2)) hd
          have hcl := cnt_le (x1, x2) all j
          obtain ⟨cj, hcj⟩ : ∃ c, cnt (x1, x2) all j = c := ⟨_, rfl⟩
          rw [hcj] at cs hcl ⊢
          have hwc : IntKind.i64.wrap ((cj : Int) + 1) = (cj : Int) + 1 := by have := HN.out; rw [IntKind.wrap_i64]; omega
          obtain ⟨d1, d2⟩ := d
          unfold agE at mS
          dsimp only at *
          have MS := keep mS
          have CS := keep cs
          clear hd hoJ hb7 gD2 mS cs hcl hcj
          cases hsn : snr (d1, d2) (x1, x2) <;> rw [hsn] at MS CS
          · clear hsn
            go_wp2_with fail
            refine MS.out.mono ?_
            rintro _ w8 ⟨rfl, hb8⟩
            have B8 := keep (Below.up B7.out hb8)
            clear hb8 MS
            go_wp2
            go_roundg (n - (j + 1))
            case measure => omega
            case rel => exact ⟨j + 1, by simp, by omega, Nat.le_refl _, by rw [CS.out]; simp, B8.out⟩
          · clear hsn
            go_wp2_with fail
            refine MS.out.mono ?_
            rintro _ w8 ⟨rfl, hb8⟩
            have B8 := keep (Below.up B7.out hb8)
            clear hb8 MS
            go_wp2
            go_roundg (n - (j + 1))
            case measure => omega
            case rel => exact ⟨j + 1, by simp, by omega, Nat.le_refl _, by rw [CS.out]; simp, B8.out⟩
        · obtain rfl : j = n := by omega
          obtain ⟨k, hkc⟩ : ∃ k, l[k]? = some (x1, x2) := List.mem_iff_getElem?.1 (HPM.out.mem_iff.1 (List.mem_iff_getElem?.2 ⟨i, HC.out⟩))
          have hkl : k < j := by have := (List.getElem?_eq_some_iff.1 hkc).1; have := HL.out; omega
          have hcnt : cnt (x1, x2) all j = k := by have := cnt_place HPM.out HG.out hkc; rw [HLN.out] at this; exact this
          rw [hcnt]
          have hR := R6.out.bel BJ.out
          obtain ⟨r1, r2, r3⟩ := row_set (c := (x1, x2)) hR (by rw [outL_len]; exact HL.out) hkl
          obtain ⟨u0, hu0, u1, hu1⟩ := r2 k hkl
          obtain ⟨h0, h1, _⟩ := cells_two ((BJ.out.block D1 G1.out.2).trans G1.out.1)
          obtain ⟨oK, hoK⟩ : ∃ o, o = k * 2 := ⟨_, rfl⟩
          rw [← hoK] at r1 hu0 hu1
          have hoK' : k * 2 = oK := hoK.symm
          have k0 : (0 : Int) ≤ (k : Int) := by omega
          have k1i : (k : Int) < (j : Int) := by omega
          obtain ⟨W9, hW9⟩ : ∃ x, (wr.setCell ⟨H, oK, none⟩ (.string x1)).setCell ⟨H, oK + 1, none⟩ (.int .u64 x2) = x := ⟨_, rfl⟩
          dsimp only at r1
          rw [hW9] at r1
          have hst : outL l (all.take (i + 1)) = (outL l (all.take i)).set k (x1, x2) := by
            rw [List.take_add_one, HC.out]
            exact out_step HG.out.2 hkc
          have hB9 : Below w.heap.size w W9 := by
            rw [← hW9]
            exact ((Below.up B6.out BJ.out).setCell (by show w.heap.size ≤ H; omega) _).setCell (by show w.heap.size ≤ H; omega) _
          have R9 : Kept (Row W9 (.slice (some ⟨H, 0, none⟩) j j) (outL l (all.take (i + 1)))) := by rw [hst]; exact r1
          have B9 := keep hB9
          have hu1' : (wr.setCell ⟨H, oK, none⟩ (.string x1)).cell? ⟨H, oK + 1, none⟩ = some u1 := by rw [World.cell?_setCell_other _ _ _ _ (by simp)]; exact hu1
          have r3' : ∀ i, (wr.setCell ⟨H, oK, none⟩ (.string x1)).frozen? ⟨H, i, none⟩ = false := fun i => by rw [World.frozen?_setCell]; exact r3 i
          clear hR r1 r2 hst hB9 hcnt hkc hkl hoK
          go_wp2
          go_roundg (j - (i + 1))
          case measure => omega
          case rel => exact ⟨i + 1, by simp, by omega, Nat.le_refl _, B9.out, R9.out⟩
    · obtain rfl : i = n := by omega
      have HF := keep (HQ.out wo (by
        have hr := KR.out
        rw [show all.take i = all from List.take_of_length_le (by have := HLN.out; omega), out_all (fun x hx => HPM.out.mem_iff.2 hx)] at hr
        exact hr) BW.out)
      go_wp2
      first | exact HF.out | (go_ret; exact HF.out)
end Go.Proofs.Ytgniiojeeobffaa
