/-
  Contracts over this program: the statements' own spoilt.
-/
import Derived.Test.YtoalnfkjpdgbiaaDoorRwApp
/-
  Contracts over this program: the statements' own spoil of bytes.
-/
namespace Go.Proofs.YtoalnfkjpdgbiaaDoor
open Go.RowKit
set_option linter.unusedVariables false
set_option maxRecDepth 100000 in
set_option maxHeartbeats 4000000 in
theorem bspoil_any (B : Nat) (v : Value) (l : List UInt8) (w : World) (h : Kb w v l) (hv : ∀ k, v.ownBlock = some k → B ≤ k) (hB : B ≤ w.heap.size) (hl : l.length ≤ 1000000000) :
    Calls Tryd.prog 15 #[v] w fun e w' => e = .returned (.tuple #[]) ∧ Below B w w' ∧ ∀ b, b < w.heap.size → v.ownBlock ≠ some b → w'.heap[b]? = w.heap[b]? := by
  obtain ⟨PP, hPP⟩ : ∃ PP : Ending → World → Prop, PP = fun e w' => e = .returned (.tuple #[]) ∧ Below B w w' ∧ ∀ b, b < w.heap.size → v.ownBlock ≠ some b → w'.heap[b]? = w.heap[b]? := ⟨_, rfl⟩
  rw [← hPP]
  have HP := keep hPP
  clear hPP
  obtain ⟨ao, c, rfl⟩ := h.form
  obtain ⟨N, hN⟩ : ∃ N, l.length = N := ⟨_, rfl⟩
  rw [hN] at h HP hl hv ⊢
  have HK := keep h
  have HV := keep hv
  have HB := keep hB
  have HN := keep hN
  have HL := keep hl
  clear h hB hN hl hv
  go_enter Tryd.func15, Tryd.ntmps15
  go_wp2_with fail
  go_loopw [8] (fun v8 wr => ∃ (k : Nat) (M : List UInt8), k ≤ N ∧ v8 = .int .i64 (k : Nat) ∧ Kept (M.length = N) ∧ Kept (Kb wr (.slice ao N c) M) ∧ Kept (Below B w wr) ∧ Kept (∀ b, b < w.heap.size → (Value.slice ao N c).ownBlock ≠ some b → wr.heap[b]? = w.heap[b]?)) (fun v8 _ => N - (intOf v8).toNat)
  case atStart => exact ⟨0, l, Nat.zero_le _, rfl, HN, HK, Below.refl _ _, fun b _ _ => rfl⟩
  case round =>
    obtain ⟨k, M, hk, rfl, KM, KS, KB, KF⟩ := hrel
    by_cases hlt : k < N
    · have hz : (k : Int) < (N : Int) := by omega
      have hz0 : (0 : Int) ≤ (k : Int) := by omega
      have hwk : IntKind.i64.wrap ((k : Int) + 1) = ((k + 1 : Nat) : Int) := by have := HL.out; rw [IntKind.wrap_i64]; omega
      obtain ⟨g, rfl⟩ : ∃ g, ao = some ⟨g, 0, none⟩ := by
        rcases KS.out.2 with ⟨_, hn⟩ | ⟨g, cap, cur, e, _⟩
        · have := KM.out; omega
        · cases e; exact ⟨g, rfl⟩
      obtain ⟨q1, ⟨u, q2⟩, q3⟩ := KS.out.set k 90 (by rw [KM.out]; exact hlt)
      have hBg : B ≤ g := HV.out g rfl
      have Q1 := keep q1
      have HBG := keep hBg
      have HLT := keep hlt
      clear q1 hBg hlt
      go_wp2_with fail
      go_roundw
      case measure => have := HLT.out; simp [intOf]; omega
      case rel => exact ⟨k + 1, M.set k 90, HLT.out, by rfl, by rw [List.length_set]; exact KM, Q1, KB.out.setCell HBG.out _, fun b h1 h2 => (heap_setCell_other wr ⟨g, k, none⟩ b _ (fun e => h2 (congrArg some e.symm))).trans (KF.out b h1 h2)⟩
    · obtain rfl : k = N := by omega
      have hz : ¬ (k : Int) < (k : Int) := by omega
      go_wp2_with fail
      go_loopw [3, 16] (fun v3 v16 wx => ∃ (j : Nat) (M2 : List UInt8), j ≤ 20 ∧ v16 = .int .i64 (j : Nat) ∧ Kept (M2.length = k + j) ∧ Kept (Kb wx v3 M2) ∧ Kept (Kb wx (.slice ao k c) M) ∧ Kept (Below B w wx) ∧ Kept (∀ q, v3.ownBlock = some q → B ≤ q) ∧ Kept (∀ b, b < w.heap.size → (Value.slice ao k c).ownBlock ≠ some b → wx.heap[b]? = w.heap[b]? ∧ Far v3 wx b)) (fun _ v16 _ => 20 - (intOf v16).toNat)
      case atStart => exact ⟨0, M, Nat.zero_le _, rfl, KM, KS, KS, KB, HV, fun b h1 h2 => ⟨KF.out b h1 h2, Nat.lt_of_lt_of_le h1 KB.out.size, h2⟩⟩
      case round =>
        obtain ⟨j, M2, hj, rfl, KM2, KS2, KSo, KB2, KV2, KF2⟩ := hrel
        by_cases hlt2 : j < 20
        · have hz2 : (j : Int) < 20 := by omega
          have hwj : IntKind.i64.wrap ((j : Int) + 1) = ((j + 1 : Nat) : Int) := by rw [IntKind.wrap_i64]; omega
          have hb0 : B ≤ wr.heap.size := Nat.le_trans HB.out KB2.out.size
          obtain ⟨v', w', hrun, hks, hgr, hst⟩ := app_byte3 91 KS2.out (by rw [KM2.out]; have := HL.out; omega) 29
          have hbw : Below B w w' := KB2.out.trans (hgr.below hb0 KV2.out)
          have hvv : Kept (∀ q, v'.ownBlock = some q → B ≤ q) := fun q hq => by
            rcases hgr.2 q hq with h | h
            · exact KV2.out q h
            · omega
          have hfr : Kept (∀ b, b < w.heap.size → (Value.slice ao k c).ownBlock ≠ some b → w'.heap[b]? = w.heap[b]? ∧ Far v' w' b) := fun b h1 h2 => ⟨(hgr.same (KF2.out b h1 h2).2).trans (KF2.out b h1 h2).1, hgr.far (KF2.out b h1 h2).2⟩
          have KSn := keep (hst _ _ KSo.out (by rw [KM.out, KM2.out]; omega))
          obtain ⟨ao3, c3, hv3⟩ := KS2.out.form
          rw [KM2.out] at hv3
          obtain ⟨n3, hn3⟩ : ∃ n3, k + j = n3 := ⟨_, rfl⟩
          rw [hn3] at hv3
          subst hv3
          have HKS := keep hks
          have HBW := keep hbw
          have HRUN := keep hrun
          have HLT := keep hlt2
          clear hks hbw hrun hgr hb0 hlt2 hst hn3
          go_wp2_with (first | (at_builtin; refine wpList_app_run rfl _ _ _ _ rfl _ _ _ rfl rfl HRUN.out ?_; clear HRUN))
          go_roundw
          case measure => simp [intOf]; omega
          case rel => exact ⟨j + 1, M2 ++ [91], HLT.out, by rfl, by show _ = _; rw [List.length_append, KM2.out]; rfl, HKS, KSn, HBW, hvv, hfr⟩
        · have hz2 : ¬ (j : Int) < 20 := by omega
          obtain ⟨wm, hmk, km, bm⟩ := bytes_made wr 70 (by decide)
          have HMK := keep (fun _ : Unit => hmk)
          have hmk2 : (Instr.makeSlice 29 (.int .i64 70) (.int .i64 70)).run Tryd.prog wr = .ok (.slice (some ⟨wr.heap.size, 0, none⟩) 70 70) wm := hmk
          have KMm := keep km
          have BM := keep bm
          clear hmk km bm HMK
          go_wp2_with fail
          generalize wr = wq at *
          go_loopw [25] (fun v25 wz => ∃ (i : Nat) (Z : List UInt8), i ≤ 70 ∧ v25 = .int .i64 (i : Nat) ∧ Kept (Z.length = 70) ∧ Kept (Kb wz (.slice (some ⟨wq.heap.size, 0, none⟩) 70 70) Z) ∧ Kept (Below wq.heap.size wq wz)) (fun v25 _ => 70 - (intOf v25).toNat)
          case atStart => exact ⟨0, _, Nat.zero_le _, rfl, by show _ = _; rw [List.length_replicate], KMm, BM⟩
          case round =>
            obtain ⟨i, Z, hi, rfl, KZ, KSZ, KBZ⟩ := hrel
            by_cases hlt3 : i < 70
            · have hz3 : (i : Int) < 70 := by omega
              have hz30 : (0 : Int) ≤ (i : Int) := by omega
              have hwi : IntKind.i64.wrap ((i : Int) + 1) = ((i + 1 : Nat) : Int) := by rw [IntKind.wrap_i64]; omega
              obtain ⟨q1, ⟨u, q2⟩, q3⟩ := KSZ.out.set i 92 (by rw [KZ.out]; exact hlt3)
              have Q1 := keep q1
              have HLT3 := keep hlt3
              clear q1 hlt3 hmk2
              go_wp2_with fail
              go_roundw
              case measure => have := HLT3.out; simp [intOf]; omega
              case rel => exact ⟨i + 1, Z.set i 92, HLT3.out, by rfl, by rw [List.length_set]; exact KZ, Q1, KBZ.out.setCell (Nat.le_refl _) _⟩
            · have hz3 : ¬ (i : Int) < 70 := by omega
              have hb1 : B ≤ wq.heap.size := Nat.le_trans HB.out KB2.out.size
              obtain ⟨v', w', hrun, hks, hgr⟩ := app_bs (KSo.out.later KBZ.out) KSZ.out.bs (by rw [KM.out, KZ.out]; have := HL.out; omega) 29
              have hbz : Below B w wr := KB2.out.trans (KBZ.out.mono hb1)
              have hgb : Below B wr w' := hgr.below (Nat.le_trans hb1 KBZ.out.size) HV.out
              have hfr2 : ∀ b, b < w.heap.size → (Value.slice ao k c).ownBlock ≠ some b → w'.heap[b]? = w.heap[b]? ∧ Far v' w' b := fun b h1 h2 => by
                have h3 : b < wq.heap.size := Nat.lt_of_lt_of_le h1 KB2.out.size
                have h4 : Far (.slice ao k c) wr b := ⟨Nat.lt_of_lt_of_le h3 KBZ.out.size, h2⟩
                exact ⟨(hgr.same h4).trans ((KBZ.out.block b h3).trans (KF2.out b h1 h2).1), hgr.far h4⟩
              have hlen : (M ++ Z).length = k + 70 := by rw [List.length_append, KM.out, KZ.out]
              have hform := hks.form
              rw [hlen] at hform
              obtain ⟨ao4, c4, rfl⟩ := hform
              obtain ⟨g4, rfl⟩ : ∃ g4, ao4 = some ⟨g4, 0, none⟩ := by
                rcases hks.2 with ⟨_, hn⟩ | ⟨g, cap, cur, e, _⟩
                · rw [hlen] at hn; omega
                · rw [hlen] at e; cases e; exact ⟨g, rfl⟩
              obtain ⟨q1, ⟨u, q2⟩, q3⟩ := hks.set 0 93 (by rw [hlen]; omega)
              have hBg : B ≤ g4 := by
                rcases hgr.2 g4 rfl with h | h
                · exact HV.out _ h
                · exact Nat.le_trans (Nat.le_trans hb1 KBZ.out.size) h
              have FIN : Kept (Below B w (w'.setCell ⟨g4, 0, none⟩ (.int .u8 93)) ∧ ∀ b, b < w.heap.size → (Value.slice ao k c).ownBlock ≠ some b → (w'.setCell ⟨g4, 0, none⟩ (.int .u8 93)).heap[b]? = w.heap[b]?) :=
                ⟨(hbz.trans hgb).setCell hBg _, fun b h1 h2 => (heap_setCell_other w' ⟨g4, 0, none⟩ b _ (fun e => (hfr2 b h1 h2).2.2 (congrArg some e.symm))).trans (hfr2 b h1 h2).1⟩
              have hpos : (0 : Int) < ((k + 70 : Nat) : Int) := by omega
              obtain ⟨k7, hk7⟩ : ∃ k7, k + 70 = k7 := ⟨_, rfl⟩
              rw [hk7] at hrun hpos
              have hpos2 : 0 < k7 := by omega
              have HRUN := keep hrun
              clear hrun hks hgr hbz hgb hfr2 hlen q1 hBg hk7 hmk2
              go_wp2_with (first | (at_builtin; refine wpList_app_run rfl _ _ _ _ rfl _ _ _ rfl rfl HRUN.out ?_; clear HRUN))
              refine bodyPost_end (results_none rfl _ _ _) rfl ?_
              rw [HP.out]
              exact ⟨rfl, FIN.out.1, FIN.out.2⟩
end Go.Proofs.YtoalnfkjpdgbiaaDoor

/-
  Replies in the memory that are spoilt: what may have turned, and that what is left can still be walked. Laws of no program.
-/
namespace Go.Proofs.YtoalnfkjpdgbiaaDoor
open Go.RowKit
set_option linter.unusedVariables false
/-- the cells of the j-th of a block's replies -/
def grp (cur : Array Value) (j : Nat) : List Value := (cur.toList.drop (j * 4)).take 4
theorem grp_get (cur : Array Value) (j i : Nat) : (grp cur j)[i]? = if i < 4 then cur[j * 4 + i]? else none := by
  unfold grp
  rw [List.getElem?_take]
  split
  · rw [List.getElem?_drop, Array.getElem?_toList]
  · rfl
/-- a reply with no list -/
def NilR (cs : List Value) : Prop := ∃ k s i, cs = [.int .i64 k, .string s, .int .i64 i, .slice none 0 0]
/-- of the blocks that there were P's alone have turned, in them replies alone, each into one with no list -/
def Spt (P : Nat → Prop) (W W' : World) : Prop :=
  Below 0 W W' ∧ (∀ b, b < W.heap.size → ¬ P b → W'.heap[b]? = W.heap[b]?) ∧
  ∀ b cur, b < W.heap.size → P b → W.heap[b]? = some (.cells cur 25 (0, 0)) → ∃ cur', W'.heap[b]? = some (.cells cur' 25 (0, 0)) ∧ cur'.size = cur.size ∧ ∀ j, grp cur' j = grp cur j ∨ NilR (grp cur' j)
theorem Spt.refl (P : Nat → Prop) (W : World) : Spt P W W := ⟨Below.refl _ _, fun _ _ _ => rfl, fun b cur _ _ h => ⟨cur, h, rfl, fun _ => .inl rfl⟩⟩
theorem Spt.trans {P : Nat → Prop} {W W1 W2 : World} (h : Spt P W W1) (g : Spt P W1 W2) : Spt P W W2 := by
  refine ⟨h.1.trans g.1, fun b hb hp => (g.2.1 b (Nat.lt_of_lt_of_le hb h.1.size) hp).trans (h.2.1 b hb hp), fun b cur hb hp hc => ?_⟩
  obtain ⟨c1, h1, h2, h3⟩ := h.2.2 b cur hb hp hc
  obtain ⟨c2, g1, g2, g3⟩ := g.2.2 b c1 (Nat.lt_of_lt_of_le hb h.1.size) hp h1
  refine ⟨c2, g1, g2.trans h2, fun j => ?_⟩
  rcases g3 j with e | e
  · rcases h3 j with e' | e'
    · exact .inl (e.trans e')
    · exact .inr (e ▸ e')
  · exact .inr e
theorem below_low {B : Nat} {W W' : World} (h : Below B W W') : Below 0 W W' := ⟨h.os, h.tape, h.output, h.size, fun k hk => absurd hk (Nat.not_lt_zero k)⟩
theorem Spt.same {P : Nat → Prop} {W W1 W2 : World} (h : Spt P W W1) (hb : Below W.heap.size W1 W2) : Spt P W W2 :=
  ⟨h.1.trans (below_low hb), fun b h1 h2 => (hb.block b h1).trans (h.2.1 b h1 h2), fun b cur h1 h2 h3 => by
    obtain ⟨c1, q1, q2⟩ := h.2.2 b cur h1 h2 h3
    exact ⟨c1, (hb.block b h1).trans q1, q2⟩⟩
theorem Spt.below {P : Nat → Prop} {W W' : World} {B : Nat} (h : Spt P W W') (hP : ∀ b, P b → B ≤ b) (hB : B ≤ W.heap.size) : Below B W W' :=
  ⟨h.1.os, h.1.tape, h.1.output, h.1.size, fun b hb => h.2.1 b (Nat.lt_of_lt_of_le hb hB) (fun hp => absurd (hP b hp) (by omega))⟩
/-- a list that may be walked and spoilt -/
def Rdy (P : Nat → Prop) (W : World) : Nat → Value → Prop
  | 0, v => ∃ ao, v = .slice ao 0 0
  | n + 1, v => (∃ ao, v = .slice ao 0 0) ∨ ∃ g len cap cur, v = .slice (some ⟨g, 0, none⟩) len cap ∧ 0 < len ∧ len ≤ 16777216 ∧ P g ∧ W.heap[g]? = some (.cells cur 25 (0, 0)) ∧ len ≤ cap ∧ cap ≤ maxLen ∧ cur.size = cap * 4 ∧
      ∀ j, j < len → ∃ k s i v', grp cur j = [.int .i64 k, .string s, .int .i64 i, v'] ∧ Rdy P W n v'
theorem Rdy.nil (P : Nat → Prop) (W : World) : ∀ (n : Nat) (ao : Option Addr), Rdy P W n (.slice ao 0 0)
  | 0, ao => ⟨ao, rfl⟩
  | n + 1, ao => .inl ⟨ao, rfl⟩
theorem Rdy.spt {P : Nat → Prop} {W W' : World} (h : Spt P W W') : ∀ (n : Nat) (v : Value), Rdy P W n v → Rdy P W' n v
  | 0, v, hr => hr
  | n + 1, v, hr => by
    rcases hr with hr | ⟨g, len, cap, cur, e, h0, h1, hP, hg, h2, h3, h4, h5⟩
    · exact .inl hr
    · obtain ⟨cur', q1, q2, q3⟩ := h.2.2 g cur (Array.getElem?_eq_some_iff.1 hg).1 hP hg
      refine .inr ⟨g, len, cap, cur', e, h0, h1, hP, q1, h2, h3, q2.trans h4, fun j hj => ?_⟩
      obtain ⟨k, s, i, v', e1, e2⟩ := h5 j hj
      rcases q3 j with e3 | ⟨k', s', i', e3⟩
      · exact ⟨k, s, i, v', e3.trans e1, Rdy.spt h n v' e2⟩
      · exact ⟨k', s', i', _, e3, Rdy.nil P W' n none⟩
theorem Rdy.of_lst {P : Nat → Prop} {W : World} : ∀ (n : Nat) (v : Value) (l : List (Rp.T n)), Lst P W (Tel P W n) v l → (l.map (Rp.wt n)).sum ≤ 2000000 → Rdy P W n v
  | 0, v, l, h, _ => by
    rcases h with ⟨_, ao, e⟩ | ⟨g, cap, cur, e, hne, _⟩
    · exact ⟨ao, e⟩
    · cases l with
      | nil => exact absurd rfl hne
      | cons x l => exact nomatch x
  | n + 1, v, l, h, hw => by
    have hlen := Rp.sum_len (Rp.wt (n + 1)) (Rp.wt_pos (n + 1)) l
    rcases h with ⟨_, ao, e⟩ | ⟨g, cap, cur, e, hne, hP, hg, h5, h6, h7, h8⟩
    · exact .inl ⟨ao, e⟩
    · refine .inr ⟨g, l.length, cap, cur, e, List.length_pos_iff.2 hne, by omega, hP, hg, h5, h6, h7, fun j hj => ?_⟩
      have ht := h8 j l[j] (List.getElem?_eq_getElem hj)
      have hm := Rp.sum_mem (Rp.wt (n + 1)) l l[j] (List.getElem_mem _)
      obtain ⟨v', q1, q2, _⟩ := ht
      have hw' : Rp.wt (n + 1) l[j] = 4 + (Rp.tx l[j]).size + ((Rp.ls l[j]).map (Rp.wt n)).sum := rfl
      exact ⟨_, _, _, v', q1, Rdy.of_lst n v' _ q2 (by omega)⟩
/-- the j-th reply of a block written anew, as one with no list -/
theorem Spt.group {P : Nat → Prop} {W wr : World} (h : Spt P W wr) {g : Nat} {cur : Array Value} (hg : wr.heap[g]? = some (.cells cur 25 (0, 0))) {j : Nat} (hj : j * 4 + 3 < cur.size) (hq : W.heap.size ≤ g ∨ P g) (k i : Int) (s : ByteArray) :
    Spt P W ((((wr.setCell ⟨g, j * 4, none⟩ (.int .i64 k)).setCell ⟨g, j * 4 + 1, none⟩ (.string s)).setCell ⟨g, j * 4 + 2, none⟩ (.int .i64 i)).setCell ⟨g, j * 4 + 3, none⟩ (.slice none 0 0)) ∧
    ∃ cur', ((((wr.setCell ⟨g, j * 4, none⟩ (.int .i64 k)).setCell ⟨g, j * 4 + 1, none⟩ (.string s)).setCell ⟨g, j * 4 + 2, none⟩ (.int .i64 i)).setCell ⟨g, j * 4 + 3, none⟩ (.slice none 0 0)).heap[g]? = some (.cells cur' 25 (0, 0)) ∧ cur'.size = cur.size ∧ NilR (grp cur' j) ∧ ∀ m, m ≠ j → grp cur' m = grp cur m := by
  obtain ⟨cur', hcur'⟩ : ∃ cur', cur' = (((cur.setIfInBounds (j * 4) (.int .i64 k)).setIfInBounds (j * 4 + 1) (.string s)).setIfInBounds (j * 4 + 2) (.int .i64 i)).setIfInBounds (j * 4 + 3) (.slice none 0 0) := ⟨_, rfl⟩
  have hh : ((((wr.setCell ⟨g, j * 4, none⟩ (.int .i64 k)).setCell ⟨g, j * 4 + 1, none⟩ (.string s)).setCell ⟨g, j * 4 + 2, none⟩ (.int .i64 i)).setCell ⟨g, j * 4 + 3, none⟩ (.slice none 0 0)).heap[g]? = some (.cells cur' 25 (0, 0)) := by
    rw [hcur']
    exact heap_setCell_same _ _ _ _ _ _ (heap_setCell_same _ _ _ _ _ _ (heap_setCell_same _ _ _ _ _ _ (heap_setCell_same _ _ _ _ _ _ hg)))
  have ho : ∀ b, b ≠ g → ((((wr.setCell ⟨g, j * 4, none⟩ (.int .i64 k)).setCell ⟨g, j * 4 + 1, none⟩ (.string s)).setCell ⟨g, j * 4 + 2, none⟩ (.int .i64 i)).setCell ⟨g, j * 4 + 3, none⟩ (.slice none 0 0)).heap[b]? = wr.heap[b]? := fun b hb => by
    rw [heap_setCell_other _ _ _ _ hb, heap_setCell_other _ _ _ _ hb, heap_setCell_other _ _ _ _ hb, heap_setCell_other _ _ _ _ hb]
  have hB : Below 0 wr ((((wr.setCell ⟨g, j * 4, none⟩ (.int .i64 k)).setCell ⟨g, j * 4 + 1, none⟩ (.string s)).setCell ⟨g, j * 4 + 2, none⟩ (.int .i64 i)).setCell ⟨g, j * 4 + 3, none⟩ (.slice none 0 0)) :=
    ((((Below.refl 0 wr).setCell (Nat.zero_le _) _).setCell (Nat.zero_le _) _).setCell (Nat.zero_le _) _).setCell (Nat.zero_le _) _
  generalize ((((wr.setCell ⟨g, j * 4, none⟩ (.int .i64 k)).setCell ⟨g, j * 4 + 1, none⟩ (.string s)).setCell ⟨g, j * 4 + 2, none⟩ (.int .i64 i)).setCell ⟨g, j * 4 + 3, none⟩ (.slice none 0 0)) = W5 at *
  have hsz : cur'.size = cur.size := by rw [hcur']; simp
  have hget : ∀ x, cur'[x]? = if x = j * 4 + 3 then some (.slice none 0 0) else if x = j * 4 + 2 then some (.int .i64 i) else if x = j * 4 + 1 then some (.string s) else if x = j * 4 then some (.int .i64 k) else cur[x]? := fun x => by
    rw [hcur']
    simp only [Array.getElem?_setIfInBounds, Array.size_setIfInBounds]
    by_cases h3 : x = j * 4 + 3
    · subst h3; simp [hj]
    · rw [if_neg (fun e => h3 e.symm), if_neg h3]
      by_cases h2 : x = j * 4 + 2
      · subst h2; rw [if_pos rfl, if_pos (by omega), if_pos rfl]
      · rw [if_neg (fun e => h2 e.symm), if_neg h2]
        by_cases h1 : x = j * 4 + 1
        · subst h1; rw [if_pos rfl, if_pos (by omega), if_pos rfl]
        · rw [if_neg (fun e => h1 e.symm), if_neg h1]
          by_cases h0 : x = j * 4
          · subst h0; rw [if_pos rfl, if_pos (by omega), if_pos rfl]
          · rw [if_neg (fun e => h0 e.symm), if_neg h0]
  have hn : NilR (grp cur' j) := by
    refine ⟨k, s, i, ?_⟩
    apply List.ext_getElem?
    intro x
    rw [grp_get, hget]
    match x with
    | 0 => rw [if_pos (by omega), if_neg (by omega), if_neg (by omega), if_neg (by omega), if_pos (by omega)]; rfl
    | 1 => rw [if_pos (by omega), if_neg (by omega), if_neg (by omega), if_pos (by omega)]; rfl
    | 2 => rw [if_pos (by omega), if_neg (by omega), if_pos (by omega)]; rfl
    | 3 => rw [if_pos (by omega), if_pos (by omega)]; rfl
    | x + 4 => rw [if_neg (by omega)]; simp
  have hm : ∀ m, m ≠ j → grp cur' m = grp cur m := fun m hm => by
    apply List.ext_getElem?
    intro x
    rw [grp_get, grp_get, hget]
    by_cases hx : x < 4
    · rw [if_pos hx, if_pos hx, if_neg (by omega), if_neg (by omega), if_neg (by omega), if_neg (by omega)]
    · rw [if_neg hx, if_neg hx]
  refine ⟨⟨h.1.trans hB, fun b h1 h2 => (ho b (fun e => ?_)).trans (h.2.1 b h1 h2), fun b c0 h1 h2 h3 => ?_⟩, cur', hh, hsz, hn, hm⟩
  · subst e
    rcases hq with hq | hq
    · omega
    · exact h2 hq
  · obtain ⟨c1, q1, q2, q3⟩ := h.2.2 b c0 h1 h2 h3
    by_cases e : b = g
    · subst e
      rw [hg] at q1
      cases q1
      refine ⟨cur', hh, hsz.trans q2, fun m => ?_⟩
      by_cases em : m = j
      · subst em; exact .inr hn
      · rw [hm m em]; exact q3 m
    · exact ⟨c1, (ho b e).trans q1, q2, q3⟩
/-- one appended where the row lies -/
theorem Spt.inpl {P : Nat → Prop} {W wr w' : World} (h : Spt P W wr) {v v' : Value} {n : Nat} {news : List Value} {g : Nat} {n' c : Nat} (hv : v = .slice (some ⟨g, 0, none⟩) n' c) (hi : InPl wr w' 25 4 v v' n 1 news) (hn : NilR news) (hq : W.heap.size ≤ g ∨ P g) (hb : Below 0 wr w') (h0 : 0 < n) :
    Spt P W w' ∧ ∀ cur, wr.heap[g]? = some (.cells cur 25 (0, 0)) → ∃ cur', w'.heap[g]? = some (.cells cur' 25 (0, 0)) ∧ grp cur' 0 = grp cur 0 := by
  obtain ⟨g1, cap, cur, e1, e2, hg, hs, hr, hg', hoth⟩ := hi
  rw [hv] at e1
  cases e1
  have hnl : news.length = 4 := by obtain ⟨k, s, i, rfl⟩ := hn; rfl
  have hcl : cur.toList.length = c * 4 := by rw [Array.length_toList]; exact hs
  obtain ⟨cur', hcur'⟩ : ∃ cur' : Array Value, cur' = (cur.toList.take (n * 4) ++ news ++ cur.toList.drop (n * 4 + news.length)).toArray := ⟨_, rfl⟩
  rw [← hcur'] at hg'
  have hsz : cur'.size = cur.size := by
    rw [hcur', hs]
    simp only [List.size_toArray, List.length_append, List.length_take, List.length_drop, hcl, hnl]
    omega
  have hgr : ∀ m, grp cur' m = if m = n then news else grp cur m := fun m => by
    unfold grp
    rw [hcur']
    show ((cur.toList.take (n * 4) ++ news ++ cur.toList.drop (n * 4 + news.length)).drop (m * 4)).take 4 = _
    apply List.ext_getElem?
    intro x
    rw [List.getElem?_take]
    by_cases hx : x < 4
    · rw [if_pos hx, List.getElem?_drop]
      by_cases hm : m = n
      · subst hm
        rw [if_pos rfl, List.append_assoc, List.getElem?_append_right (by rw [List.length_take, hcl]; omega), List.length_take, hcl, Nat.min_eq_left (by omega), List.getElem?_append_left (by omega), Nat.add_sub_cancel_left]
      · rw [if_neg hm, List.getElem?_take, if_pos hx, List.getElem?_drop]
        by_cases hlt : m < n
        · rw [List.append_assoc, List.getElem?_append_left (by rw [List.length_take, hcl]; omega), List.getElem?_take, if_pos (by omega)]
        · rw [List.getElem?_append_right (by rw [List.length_append, List.length_take, hcl, hnl]; omega), List.length_append, List.length_take, hcl, hnl, List.getElem?_drop, Nat.min_eq_left (by omega)]
          congr 1
          omega
    · rw [if_neg hx]
      by_cases hm : m = n
      · rw [if_pos hm, List.getElem?_eq_none (by omega)]
      · rw [if_neg hm, List.getElem?_take, if_neg hx]
  refine ⟨⟨h.1.trans hb, fun b h1 h2 => (hoth b (fun e => ?_)).trans (h.2.1 b h1 h2), fun b c0 h1 h2 h3 => ?_⟩, fun cur0 hc0 => ?_⟩
  · subst e
    rcases hq with hq | hq
    · omega
    · exact h2 hq
  · obtain ⟨c1, q1, q2, q3⟩ := h.2.2 b c0 h1 h2 h3
    by_cases e : b = g
    · subst e
      rw [hg] at q1
      cases q1
      refine ⟨cur', hg', hsz.trans q2, fun m => ?_⟩
      rw [hgr]
      by_cases em : m = n
      · rw [if_pos em]; exact .inr hn
      · rw [if_neg em]; exact q3 m
    · exact ⟨c1, (hoth b e).trans q1, q2, q3⟩
  · rw [hg] at hc0
    cases hc0
    exact ⟨cur', hg', by rw [hgr, if_neg (by omega)]⟩
end Go.Proofs.YtoalnfkjpdgbiaaDoor

namespace Go.Proofs.YtoalnfkjpdgbiaaDoor
open Go.RowKit
set_option linter.unusedVariables false
def nrC (k : Int) (s : ByteArray) : List Value := [.int .i64 k, .string s, .int .i64 0, .slice none 0 0]
theorem nr_src (w : World) (k : Int) (s : ByteArray) : Src Tryd.prog 4 23 (.slice (some ⟨w.heap.size, 0, none⟩) 1 1) 1 (nrC k s) (w.alloc (.cells #[.int .i64 k, .string s, .int .i64 0, .slice none 0 0] 25)) :=
  Src.ofSlice _ Tryd.underlying23 ⟨w.heap.size, 0, none⟩ 1 1 _ (by rfl) (fun j u hu => by
    rw [add_at, cell_of_row _ _ _ _ _ _ (heap_alloc_new _ _), Nat.zero_add]
    unfold nrC at hu
    simpa using hu) (fun u hu => by
      unfold nrC at hu
      simp only [List.mem_cons, List.not_mem_nil, or_false] at hu
      rcases hu with rfl | rfl | rfl | rfl <;> rfl)
/-- the first behind an empty list -/
theorem app_first (ao : Option Addr) (w : World) (k : Int) (s : ByteArray) (ty : TypeId) :
    ∃ g c w', (Builtin.append_ #[23, 23] ty #[.slice ao 0 0, .slice (some ⟨w.heap.size, 0, none⟩) 1 1]).run Tryd.prog (w.alloc (.cells #[.int .i64 k, .string s, .int .i64 0, .slice none 0 0] 25)) = .ok (.slice (some ⟨g, 0, none⟩) 1 c) w' ∧ w.heap.size ≤ g ∧ w'.ownsRow 0 25 4 (.slice (some ⟨g, 0, none⟩) 1 c) 1 (nrC k s) ∧ Below w.heap.size w w' := by
  obtain ⟨i0, hi0, hz0, hz1, hz2⟩ := parts_of info_rp
  have hb3 : Below w.heap.size w (w.alloc (.cells #[.int .i64 k, .string s, .int .i64 0, .slice none 0 0] 25)) := (Below.refl _ w).alloc (Nat.le_refl _) _
  obtain ⟨W, hW⟩ : ∃ W, W = w.alloc (.cells #[.int .i64 k, .string s, .int .i64 0, .slice none 0 0] 25) := ⟨_, rfl⟩
  have src := nr_src w k s
  rw [← hW] at src hb3 ⊢
  have hold : (Builtin.firstCells i0.size 0 (.slice ao 0 0)).run Tryd.prog W.drew = .ok (([] : List Value)).toArray W.drew := by
    cases ao with
    | none => exact run_firstCells_none W.drew _ _ _ _
    | some a => exact run_firstCells_some W.drew _ 0 a 0 0 [] (by simp) (fun j u hu => by simp at hu)
  rw [← hz1] at src
  have hrun := run_append_grow_src W 23 23 ty 25 i0 _ Tryd.underlying23 hi0 hz0 ao 0 0 [] hold _ 1 _ src (by decide) (by decide) (by
    rw [hz2]
    have := nextslicecap_le (need := 0 + 1) (old := 0) (by omega)
    omega)
  have hge := grownCap_ge W (0 + 1) 0 25
  have hle := grownCap_le_maxLen W (0 + 1) 0 25 (by unfold maxLen; omega)
  refine ⟨W.heap.size, _, _, hrun, hb3.size, ⟨rfl, .inr ⟨W.heap.size, _, _, rfl, Nat.zero_le _, heap_alloc_new W.drew _, hge, hle, ?_, ?_⟩⟩, hb3.trans ⟨rfl, rfl, rfl, by simp, fun b hb => Below.heap_alloc W.drew _ b (Nat.lt_of_lt_of_le hb hb3.size)⟩⟩
  · rw [Array.size_append, List.size_toArray, size_zeroCells]
    show 4 + _ * 4 = _ * 4
    omega
  · rw [Array.toList_append]
    exact List.take_left' rfl
theorem app_nr {w : World} {v : Value} {n : Nat} {xs : List Value} (h : w.ownsRow 0 25 4 v n xs) (hn : n ≤ 1000000000) (k : Int) (s : ByteArray) (ty : TypeId) :
    ∃ v' w', (Builtin.append_ #[23, 23] ty #[v, .slice (some ⟨w.heap.size, 0, none⟩) 1 1]).run Tryd.prog (w.alloc (.cells #[.int .i64 k, .string s, .int .i64 0, .slice none 0 0] 25)) = .ok v' w' ∧ w'.ownsRow 0 25 4 v' (n + 1) (xs ++ nrC k s) ∧ Below 0 (w.alloc (.cells #[.int .i64 k, .string s, .int .i64 0, .slice none 0 0] 25)) w' ∧
      (v'.ownBlock = v.ownBlock ∨ v'.ownBlock = some (w.heap.size + 1)) ∧ ((∀ b, b < w.heap.size + 1 → w'.heap[b]? = (w.alloc (.cells #[.int .i64 k, .string s, .int .i64 0, .slice none 0 0] 25)).heap[b]?) ∨ InPl (w.alloc (.cells #[.int .i64 k, .string s, .int .i64 0, .slice none 0 0] 25)) w' 25 4 v v' n 1 (nrC k s)) := by
  obtain ⟨i0, hi0, hz0, hz1, hz2⟩ := parts_of info_rp
  have hb3 : Below w.heap.size w (w.alloc (.cells #[.int .i64 k, .string s, .int .i64 0, .slice none 0 0] 25)) := (Below.refl _ w).alloc (Nat.le_refl _) _
  have hsz : (w.alloc (.cells #[.int .i64 k, .string s, .int .i64 0, .slice none 0 0] 25)).heap.size = w.heap.size + 1 := by show (w.heap.push _).size = _; simp
  obtain ⟨v', w', r1, r2, r3, r4, r5⟩ := app_gen3 (w.alloc (.cells #[.int .i64 k, .string s, .int .i64 0, .slice none 0 0] 25)) 0 23 23 ty 25 i0 _ 4 56 Tryd.underlying23 hi0 hz0 hz1 hz2 rfl (by decide) v n _ (own_kept h (fun b hb => hb3.block b (own_lt h hb))) _ 1 _ (nr_src w k s) (by unfold maxLen; omega) (by omega) (Nat.zero_le _)
  rw [hsz] at r4 r5
  exact ⟨v', w', r1, r2, ⟨r3.os, r3.tape, r3.output, r3.size, fun b hb => absurd hb (Nat.not_lt_zero b)⟩, r4, r5⟩
/-- what spoilt leaves -/
def SpTold (P : Nat → Prop) (W : World) (e : Ending) (W' : World) : Prop := e = .returned (.tuple #[]) ∧ Spt P W W'
/-- the row that grows: none yet, or one that is its own, whose first reply has no list -/
def Ap (P : Nat → Prop) (W wr : World) (m : Nat) (v : Value) : Prop :=
  (m = 0 ∧ ∃ ao, v = .slice ao 0 0) ∨ ∃ g n c xs, v = .slice (some ⟨g, 0, none⟩) n c ∧ 0 < n ∧ n ≤ 16777216 + m ∧ wr.ownsRow 0 25 4 v n xs ∧ (W.heap.size ≤ g ∨ P g) ∧ ∃ cur, wr.heap[g]? = some (.cells cur 25 (0, 0)) ∧ 3 < cur.size ∧ NilR (grp cur 0)
theorem row_first {w : World} {g n c : Nat} {xs : List Value} (h : w.ownsRow 0 25 4 (.slice (some ⟨g, 0, none⟩) n c) n xs) (h0 : 0 < n) : ∃ cur, w.heap[g]? = some (.cells cur 25 (0, 0)) ∧ 3 < cur.size ∧ grp cur 0 = xs.take 4 := by
  rcases h.2 with ⟨e, _⟩ | ⟨g', cap, cur, e, _, hg, q1, q2, q3, q4⟩
  · cases e
  · cases e
    refine ⟨cur, hg, by omega, ?_⟩
    unfold grp
    rw [Nat.zero_mul, List.drop_zero, ← q4, List.take_take, Nat.min_eq_left (by omega)]
/-- one more behind it -/
theorem Ap.more {P : Nat → Prop} {W wr : World} {m : Nat} {v : Value} (h : Ap P W wr m v) (hS : Spt P W wr) (hP : ∀ b, P b → b < W.heap.size) (hm : m ≤ 20) (k : Int) (s : ByteArray) (ty : TypeId) :
    ∃ v' w', (Builtin.append_ #[23, 23] ty #[v, .slice (some ⟨wr.heap.size, 0, none⟩) 1 1]).run Tryd.prog (wr.alloc (.cells #[.int .i64 k, .string s, .int .i64 0, .slice none 0 0] 25)) = .ok v' w' ∧ Ap P W w' (m + 1) v' ∧ Spt P W w' := by
  have nrn : NilR (nrC k s) := ⟨k, s, 0, rfl⟩
  have hsw := hS.1.size
  rcases h with ⟨rfl, ao, rfl⟩ | ⟨g, n, c, xs, rfl, h0, h1, ho, hq, cur, hg, hcs, hn⟩
  · obtain ⟨g, c, w', r, hg, ho, hb⟩ := app_first ao wr k s ty
    obtain ⟨cur, q1, q2, q3⟩ := row_first ho (Nat.lt_succ_self 0)
    exact ⟨_, w', r, .inr ⟨g, 1, c, _, rfl, Nat.lt_succ_self 0, by omega, ho, .inl (by omega), cur, q1, q2, by rw [q3]; exact nrn⟩, hS.same (hb.mono hsw)⟩
  · obtain ⟨v', w', r1, r2, r3, r4, r5⟩ := app_nr ho (by omega) k s ty
    have hb3 : Below wr.heap.size wr (wr.alloc (.cells #[.int .i64 k, .string s, .int .i64 0, .slice none 0 0] 25)) := (Below.refl _ wr).alloc (Nat.le_refl _) _
    have hS1 := hS.same (hb3.mono hsw)
    have hglt : g < wr.heap.size := (Array.getElem?_eq_some_iff.1 hg).1
    obtain ⟨ao', c', hv'⟩ := (show ∃ ao' c', v' = .slice ao' (n + 1) c' by
      rcases r2.2 with ⟨_, e⟩ | ⟨g', cap, cur', e, _⟩
      · omega
      · exact ⟨_, _, e⟩)
    obtain ⟨g', rfl⟩ : ∃ g', ao' = some ⟨g', 0, none⟩ := by
      rcases r2.2 with ⟨_, e⟩ | ⟨g', cap, cur', e, _⟩
      · omega
      · rw [hv'] at e; cases e; exact ⟨g', rfl⟩
    subst hv'
    have hg0 : (wr.alloc (.cells #[.int .i64 k, .string s, .int .i64 0, .slice none 0 0] 25)).heap[g]? = some (.cells cur 25 (0, 0)) := (hb3.block g hglt).trans hg
    rcases r5 with r5 | r5
    · have hS2 : Spt P W w' := hS1.same ⟨r3.os, r3.tape, r3.output, r3.size, fun b hb => r5 b (by omega)⟩
      have hf : ∃ cur', w'.heap[g']? = some (.cells cur' 25 (0, 0)) ∧ 3 < cur'.size ∧ NilR (grp cur' 0) := by
        obtain ⟨cur', q1, q2, q3⟩ := row_first r2 (Nat.succ_pos n)
        refine ⟨cur', q1, q2, ?_⟩
        obtain ⟨c1, p1, p2, p3⟩ := row_first ho h0
        rw [hg] at p1
        cases p1
        rw [q3, List.take_append_of_le_length (by rw [ho.1]; omega), ← p3]
        exact hn
      refine ⟨_, w', r1, .inr ⟨g', n + 1, c', _, rfl, Nat.succ_pos n, by omega, r2, ?_, hf⟩, hS2⟩
      rcases r4 with e | e
      · cases e; exact hq
      · have e' : some g' = some (wr.heap.size + 1) := e
        have e2 := Option.some.inj e'
        exact .inl (by omega)
    · have hgg : g' = g := by
        obtain ⟨g1, cap, cc, e1, e2, _⟩ := r5
        cases e1; cases e2; rfl
      subst hgg
      obtain ⟨hS2, hf⟩ := Spt.inpl hS1 rfl r5 nrn hq r3 h0
      obtain ⟨cur', q1, q2⟩ := hf cur hg0
      obtain ⟨cur2, p1, p2, p3⟩ := row_first r2 (Nat.succ_pos n)
      rw [q1] at p1
      cases p1
      exact ⟨_, w', r1, .inr ⟨g', n + 1, c', _, rfl, Nat.succ_pos n, by omega, r2, hq, cur', q1, p2, by rw [q2]; exact hn⟩, hS2⟩
set_option maxRecDepth 100000 in
set_option maxHeartbeats 8000000 in
theorem spoilt_step (P : Nat → Prop) (n : Nat) (W : World) (k : Int) (s : ByteArray) (i : Int) (lv : Value) (hP : ∀ b, P b → b < W.heap.size) (hR : Rdy P W (n + 1) lv)
    (IH : (∀ ao, lv ≠ .slice ao 0 0) → ∀ (W' : World) (k : Int) (s : ByteArray) (i : Int) (v : Value), W.heap.size ≤ W'.heap.size → Rdy P W' n v → Calls Tryd.prog 16 #[.agg #[.int .i64 k, .string s, .int .i64 i, v]] W' (SpTold P W')) :
    Calls Tryd.prog 16 #[.agg #[.int .i64 k, .string s, .int .i64 i, lv]] W (SpTold P W) := by
  obtain ⟨PP, hPP⟩ : ∃ PP : Ending → World → Prop, PP = SpTold P W := ⟨_, rfl⟩
  rw [← hPP]
  have HP := keep hPP
  clear hPP
  obtain ⟨ao, len, cap, hlv⟩ : ∃ ao len cap, lv = .slice ao len cap := by
    rcases hR with ⟨ao, e⟩ | ⟨g, len, cap, cur, e, _⟩
    · exact ⟨_, _, _, e⟩
    · exact ⟨_, _, _, e⟩
  subst hlv
  have hlen : len ≤ 16777216 := by
    rcases hR with ⟨ao, e⟩ | ⟨g, len', cap', cur, e, h0, h1, _⟩
    · cases e; omega
    · cases e; exact h1
  have RR := keep (fun W' (h : Spt P W W') => Rdy.spt h (n + 1) _ hR)
  have hAp0 : len = 0 → Ap P W W 0 (.slice ao len cap) := fun e0 => by
    rcases hR with ⟨ao', e⟩ | ⟨g, len', cap', cur, e, h0, h1, _⟩
    · cases e; exact .inl ⟨rfl, _, rfl⟩
    · cases e; omega
  have AP0 := keep hAp0
  have HPB := keep hP
  have HLEN := keep hlen
  have IHK := keep IH
  obtain ⟨W1, hW1⟩ : ∃ x, x = W.alloc (.cells #[.int .i64 k, .string s, .int .i64 i, .slice ao len cap] 25) := ⟨_, rfl⟩
  have x1 : Box W1 W.heap.size (.int .i64 k) (.string s) (.int .i64 i) (.slice ao len cap) := hW1 ▸ Box.new W _ _ _ _
  have b1 : Below W.heap.size W W1 := hW1 ▸ (Below.refl _ _).alloc (Nat.le_refl _) _
  have X1 := keep x1
  have S1 := keep ((Spt.refl P W).same b1)
  have hW1' := hW1.symm
  obtain ⟨d0, d1, d2, d3⟩ := x1.cells
  clear hW1 x1 b1 hR hAp0 hP hlen IH
  go_enter Tryd.func16, Tryd.ntmps16
  go_wp2_with fail
  go_loopw [7] (fun v7 wr => ∃ j : Nat, j ≤ len ∧ v7 = .int .i64 (j : Nat) ∧ Kept (Spt P W wr) ∧ Kept (Box wr W.heap.size (.int .i64 k) (.string s) (.int .i64 i) (.slice ao len cap)) ∧ Kept (0 < j → ∃ g cur, ao = some ⟨g, 0, none⟩ ∧ wr.heap[g]? = some (.cells cur 25 (0, 0)) ∧ NilR (grp cur 0))) (fun v7 _ => len - (intOf v7).toNat)
  case atStart => exact ⟨0, Nat.zero_le _, rfl, S1, X1, fun h => absurd h (Nat.lt_irrefl 0)⟩
  case round =>
    obtain ⟨j, hj, rfl, SP, XB, NF⟩ := hrel
    clear d0 d1 d2 d3 hW1'
    have XC := XB.out.cells
    obtain ⟨d0, d1, d2, d3⟩ := XC
    by_cases hlt : j < len
    · have hz : (j : Int) < (len : Int) := by omega
      have hz0 : (0 : Int) ≤ (j : Int) := by omega
      have hwj : IntKind.i64.wrap ((j : Int) + 1) = ((j + 1 : Nat) : Int) := by have := HLEN.out; rw [IntKind.wrap_i64]; omega
      obtain ⟨g, len', cap', cur, e, _, _, hPg, hg, h2, _, h4, h5⟩ := (RR.out wr SP.out).resolve_left (fun ⟨ao', e⟩ => by cases e; omega)
      cases e
      obtain ⟨k2, s2, i2, v2, hgr, hr2⟩ := h5 j hlt
      have cel : ∀ o, o < 4 → wr.cell? ⟨g, j * 4 + o, none⟩ = [Value.int .i64 k2, .string s2, .int .i64 i2, v2][o]? := fun o ho => by
        rw [cell_of_row _ _ _ _ _ _ hg, ← hgr, grp_get, if_pos ho]
      have m0 : wr.cell? ⟨g, j * 4, none⟩ = some (.int .i64 k2) := cel 0 (by omega)
      have m1 : wr.cell? ⟨g, j * 4 + 1, none⟩ = some (.string s2) := cel 1 (by omega)
      have m2 : wr.cell? ⟨g, j * 4 + 2, none⟩ = some (.int .i64 i2) := cel 2 (by omega)
      have m3 : wr.cell? ⟨g, j * 4 + 3, none⟩ = some v2 := cel 3 (by omega)
      have CALL := keep (IHK.out (fun ao' e' => by cases e'; omega) wr k2 s2 i2 v2 SP.out.1.size hr2)
      have HG := keep (And.intro hPg hg)
      have HSZ := keep (show j * 4 + 3 < cur.size by rw [h4]; omega)
      have HLT := keep hlt
      clear hgr hr2 cel hPg hg h2 h4 h5 hlt
      go_wp2_with fail
      refine CALL.out.mono ?_
      rintro _ w2 ⟨rfl, sp2⟩
      have SP2 := keep (SP.out.trans sp2)
      have xb2 : Box w2 W.heap.size (.int .i64 k) (.string s) (.int .i64 i) (.slice (some ⟨g, 0, none⟩) len cap) := (sp2.2.1 _ XB.out.lt (fun hp => absurd (HPB.out _ hp) (Nat.lt_irrefl _))).trans XB.out
      have XB2 := keep xb2
      obtain ⟨d0, d1, d2, d3⟩ := xb2.cells
      obtain ⟨cur2, hg2, hsz2, hgr2⟩ := sp2.2.2 g cur (Array.getElem?_eq_some_iff.1 HG.out.2).1 HG.out.1 HG.out.2
      have hsz3 : j * 4 + 3 < cur2.size := by rw [hsz2]; exact HSZ.out
      have ce2 : ∀ o, o < 4 → ∃ u, w2.cell? ⟨g, j * 4 + o, none⟩ = some u := fun o ho => ⟨cur2[j * 4 + o]'(by omega), by rw [cell_of_row _ _ _ _ _ _ hg2, Array.getElem?_eq_getElem (show j * 4 + o < cur2.size by omega)]⟩
      obtain ⟨u0, n0⟩ := ce2 0 (by omega)
      obtain ⟨u1, n1⟩ := ce2 1 (by omega)
      obtain ⟨u2, n2⟩ := ce2 2 (by omega)
      obtain ⟨u3, n3⟩ := ce2 3 (by omega)
      rw [Nat.add_zero] at n0
      have f0 : w2.frozen? ⟨g, j * 4, none⟩ = false := frozen_of_row _ _ _ _ _ hg2
      have f1 : w2.frozen? ⟨g, j * 4 + 1, none⟩ = false := frozen_of_row _ _ _ _ _ hg2
      have f2 : w2.frozen? ⟨g, j * 4 + 2, none⟩ = false := frozen_of_row _ _ _ _ _ hg2
      have f3 : w2.frozen? ⟨g, j * 4 + 3, none⟩ = false := frozen_of_row _ _ _ _ _ hg2
      obtain ⟨sp3, cur3, hg3, _, hn3, ho3⟩ := SP2.out.group hg2 hsz3 (.inr HG.out.1) 99 0 ⟨#[115, 112, 111, 105, 108, 116]⟩
      have hgW : g < W.heap.size := HPB.out g HG.out.1
      obtain ⟨W5, hW5⟩ : ∃ x, ((((w2.setCell ⟨g, j * 4, none⟩ (.int .i64 99)).setCell ⟨g, j * 4 + 1, none⟩ (.string ⟨#[115, 112, 111, 105, 108, 116]⟩)).setCell ⟨g, j * 4 + 2, none⟩ (.int .i64 0)).setCell ⟨g, j * 4 + 3, none⟩ (.slice none 0 0)) = x := ⟨_, rfl⟩
      have xb5 : Box W5 W.heap.size (.int .i64 k) (.string s) (.int .i64 i) (.slice (some ⟨g, 0, none⟩) len cap) := by
        rw [← hW5]
        unfold Box
        rw [heap_setCell_other _ _ _ _ (by show W.heap.size ≠ g; omega), heap_setCell_other _ _ _ _ (by show W.heap.size ≠ g; omega), heap_setCell_other _ _ _ _ (by show W.heap.size ≠ g; omega), heap_setCell_other _ _ _ _ (by show W.heap.size ≠ g; omega)]
        exact XB2.out
      rw [hW5] at sp3 hg3
      have SP3 := keep sp3
      have XB5 := keep xb5
      have NF5 : Kept (0 < j + 1 → ∃ g' cur, (some ⟨g, 0, none⟩ : Option Addr) = some ⟨g', 0, none⟩ ∧ W5.heap[g']? = some (.cells cur 25 (0, 0)) ∧ NilR (grp cur 0)) := fun _ => by
        refine ⟨g, cur3, rfl, hg3, ?_⟩
        by_cases hj0 : j = 0
        · subst hj0; exact hn3
        · rw [ho3 0 (fun e => hj0 e.symm)]
          obtain ⟨g', c', e1, e2, e3⟩ := NF.out (by omega)
          cases e1
          rw [HG.out.2] at e2
          cases e2
          rcases hgr2 0 with e | e
          · rw [e]; exact e3
          · exact e
      clear sp2 xb2 hg2 hsz2 hgr2 hsz3 ce2 sp3 hg3 hn3 ho3 hgW xb5 m0 m1 m2 m3
      go_wp2_with fail
      go_roundw
      case measure => have := HLT.out; simp [intOf]; omega
      case rel => exact ⟨j + 1, HLT.out, by rfl, SP3, XB5, NF5⟩
    · obtain rfl : j = len := by omega
      have hz : ¬ (j : Int) < (j : Int) := by omega
      have AP : Kept (Ap P W wr 0 (.slice ao j cap)) := keep (by
        by_cases h0 : j = 0
        · rcases AP0.out h0 with ⟨_, h⟩ | ⟨g, n', c, xs, e, hn', _⟩
          · exact .inl ⟨rfl, h⟩
          · cases e; omega
        · obtain ⟨g, len', cap', cur, e, hl0, hl1, hPg, hg, h2, h3, h4, h5⟩ := (RR.out wr SP.out).resolve_left (fun ⟨ao', e⟩ => by cases e; omega)
          cases e
          obtain ⟨g', c', e1, e2, e3⟩ := NF.out (by omega)
          cases e1
          rw [hg] at e2
          cases e2
          refine .inr ⟨g, j, cap, cur.toList.take (j * 4), rfl, hl0, by omega, ⟨by rw [List.length_take, Array.length_toList, h4]; omega, .inr ⟨g, cap, cur, rfl, Nat.zero_le _, hg, h2, h3, h4, rfl⟩⟩, .inr hPg, cur, hg, by rw [h4]; omega, e3⟩)
      go_wp2_with fail
      go_loopw [3, 24] (fun v3 v24 wx => ∃ m : Nat, m ≤ 20 ∧ v24 = .int .i64 (m : Nat) ∧ Kept (Spt P W wx) ∧ Kept (Ap P W wx m v3)) (fun _ v24 _ => 20 - (intOf v24).toNat)
      case atStart => exact ⟨0, Nat.zero_le _, rfl, SP, AP⟩
      case round =>
        obtain ⟨m, hm, rfl, SX, AX⟩ := hrel
        clear d0 d1 d2 d3
        by_cases hlt2 : m < 20
        · have hz2 : (m : Int) < 20 := by omega
          have hwm : IntKind.i64.wrap ((m : Int) + 1) = ((m + 1 : Nat) : Int) := by rw [IntKind.wrap_i64]; omega
          obtain ⟨v', w', hrun, hap, hsp⟩ := AX.out.more SX.out HPB.out (by omega) 98 ⟨#[]⟩ 23
          obtain ⟨ao3, n3, c3, hv3⟩ : ∃ ao n c, u3 = .slice ao n c := by
            rcases AX.out with ⟨_, ao, e⟩ | ⟨g, n', c, xs, e, _⟩
            · exact ⟨_, _, _, e⟩
            · exact ⟨_, _, _, e⟩
          subst hv3
          have HAP := keep hap
          have HSP := keep hsp
          have HRUN := keep hrun
          have HLT2 := keep hlt2
          clear hap hsp hrun hlt2
          go_wp2_with (first | (at_builtin; refine wpList_app_run rfl _ _ _ _ rfl _ _ _ rfl rfl HRUN.out ?_; clear HRUN))
          go_roundw
          case measure => have := HLT2.out; simp [intOf]; omega
          case rel => exact ⟨m + 1, HLT2.out, by rfl, HSP, HAP⟩
        · obtain rfl : m = 20 := by omega
          have hz2 : ¬ ((20 : Nat) : Int) < 20 := by omega
          obtain ⟨g, n', c, xs, e, hn0, hn1, ho, hq, cur, hg, hc3, hnr⟩ := AX.out.resolve_left (fun h => by cases h.1)
          subst e
          have hpos : (0 : Int) < (n' : Int) := by omega
          obtain ⟨kq, sq, iq, hnq⟩ := hnr
          have c0 : wr.cell? ⟨g, 0, none⟩ = some (.int .i64 kq) := by
            have h := grp_get cur 0 0
            rw [hnq, if_pos (by omega)] at h
            rw [cell_of_row _ _ _ _ _ _ hg]
            exact h.symm
          have f0 : wr.frozen? ⟨g, 0, none⟩ = false := frozen_of_row _ _ _ _ _ hg
          have FIN : Kept (Spt P W (wr.setCell ⟨g, 0, none⟩ (.int .i64 97))) := keep (by
            refine ⟨SX.out.1.trans ((Below.refl 0 _).setCell (Nat.zero_le _) _), fun b h1 h2 => (heap_setCell_other _ _ _ _ (fun e => ?_)).trans (SX.out.2.1 b h1 h2), fun b c0 h1 h2 h3 => ?_⟩
            · have e' : b = g := e
              subst e'
              rcases hq with hq | hq
              · omega
              · exact h2 hq
            · obtain ⟨c1, q1, q2, q3⟩ := SX.out.2.2 b c0 h1 h2 h3
              by_cases e : b = g
              · subst e
                rw [hg] at q1
                cases q1
                refine ⟨cur.setIfInBounds 0 (.int .i64 97), heap_setCell_same _ _ _ _ _ _ hg, by rw [Array.size_setIfInBounds]; exact q2, fun m => ?_⟩
                by_cases em : m = 0
                · subst em
                  right
                  refine ⟨97, sq, iq, ?_⟩
                  apply List.ext_getElem?
                  intro x
                  have h := grp_get cur 0 x
                  rw [hnq] at h
                  rw [grp_get, Array.getElem?_setIfInBounds]
                  match x with
                  | 0 => rw [if_pos (by omega), if_pos (by omega), if_pos (by omega)]; rfl
                  | x + 1 =>
                    rw [if_neg (show ¬ 0 = 0 * 4 + (x + 1) by omega)]
                    exact h.symm
                · have : grp (cur.setIfInBounds 0 (.int .i64 97)) m = grp cur m := by
                    apply List.ext_getElem?
                    intro x
                    rw [grp_get, grp_get, Array.getElem?_setIfInBounds, if_neg (show ¬ 0 = m * 4 + x by omega)]
                  rw [this]
                  exact q3 m
              · exact ⟨c1, (heap_setCell_other _ _ _ _ e).trans q1, q2, q3⟩)
          clear ho hg hnq
          go_wp2_with fail
          refine bodyPost_end (results_none rfl _ _ _) rfl ?_
          rw [HP.out]
          exact ⟨rfl, FIN.out⟩
theorem spoilt_any (P : Nat → Prop) : ∀ (n : Nat) (W : World) (k : Int) (s : ByteArray) (i : Int) (v : Value), (∀ b, P b → b < W.heap.size) → Rdy P W n v →
    Calls Tryd.prog 16 #[.agg #[.int .i64 k, .string s, .int .i64 i, v]] W (SpTold P W)
  | 0, W, k, s, i, v, hP, hR => spoilt_step P 0 W k s i v hP (.inl hR) (fun hne => by
      obtain ⟨ao, e⟩ := hR
      exact absurd e (hne ao))
  | n + 1, W, k, s, i, v, hP, hR => spoilt_step P n W k s i v hP hR (fun _ W' k' s' i' v' h1 h2 => spoilt_any P n W' k' s' i' v' (fun b hb => Nat.lt_of_lt_of_le (hP b hb) h1) h2)
end Go.Proofs.YtoalnfkjpdgbiaaDoor
