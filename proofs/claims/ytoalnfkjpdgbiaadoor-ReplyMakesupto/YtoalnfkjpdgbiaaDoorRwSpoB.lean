/-
  Contracts over this program: the statements' own spoil of bytes.
-/
import Derived.Test.YtoalnfkjpdgbiaaDoorRpSame
import Derived.Test.YtoalnfkjpdgbiaaDoorRpBackW
import Derived.Laws.MakeOwn
import Derived.WalkSmall
/-
  An append to a row of one's own, and what becomes of the block; a law of no program. Rows of bytes that are spoilt.
-/
namespace Go.Proofs.YtoalnfkjpdgbiaaDoor
open Go.RowKit
set_option linter.unusedVariables false
/-- it was laid where the row lies -/
def InPl (w w' : World) (e size : Nat) (v v' : Value) (n m : Nat) (news : List Value) : Prop :=
  ∃ g cap cur, v = .slice (some ⟨g, 0, none⟩) n cap ∧ v' = .slice (some ⟨g, 0, none⟩) (n + m) cap ∧ w.heap[g]? = some (.cells cur e (0, 0)) ∧ cur.size = cap * size ∧ n + m ≤ cap ∧
    w'.heap[g]? = some (.cells (cur.toList.take (n * size) ++ news ++ cur.toList.drop (n * size + news.length)).toArray e (0, 0)) ∧ ∀ b, b ≠ g → w'.heap[b]? = w.heap[b]?
/-- append to a row of one's own, of whatever is appended -/
theorem app_gen3 {P : Program} (w : World) (B t tx ty e : Nat) (i : TypeInfo) (z : Value) (size bytes : Nat) (ht : P.underlying t = some (.slice e)) (hi : P.info? e = some i) (hz : i.zero = some z)
    (hsize : i.size = size) (hby : i.bytes = bytes) (hzs : z.cells.size = size) (hsz : 0 < size) (v : Value) (n : Nat) (xs : List Value) (hown : w.ownsRow B e size v n xs)
    (x : Value) (m : Nat) (news : List Value) (hs : Src P size tx x m news w) (h63 : n + m ≤ maxLen) (hbytes : (n + m) * bytes ≤ 140737488355328) (hbase : B ≤ w.heap.size) :
    ∃ v' w', (Builtin.append_ #[t, tx] ty #[v, x]).run P w = .ok v' w' ∧ w'.ownsRow B e size v' (n + m) (xs ++ news) ∧ w.grownBy w' v.ownBlock ∧ (v'.ownBlock = v.ownBlock ∨ v'.ownBlock = some w.heap.size) ∧ ((∀ b, b < w.heap.size → w'.heap[b]? = w.heap[b]?) ∨ InPl w w' e size v v' n m news) := by
  subst hsize
  subst hby
  have hl : (xs ++ news).length = (n + m) * i.size := by rw [List.length_append, hown.1, hs.newsLen, Nat.add_mul]
  have h63' : ((n + m : Nat) : Int) ≤ 9223372036854775807 := by unfold maxLen at h63; omega
  have grown : ∀ (old : Nat), old < n + m → ∀ (row : Option Nat),
      (w.drew.alloc (.cells ((xs ++ news).toArray ++ Builtin.zeroCells z.cells (grownCap w (n + m) old e - (n + m))) e)).ownsRow B e i.size
        (.slice (some ⟨w.heap.size, 0, none⟩) (n + m) (grownCap w (n + m) old e)) (n + m) (xs ++ news) ∧
      w.grownBy (w.drew.alloc (.cells ((xs ++ news).toArray ++ Builtin.zeroCells z.cells (grownCap w (n + m) old e - (n + m))) e)) row := by
    intro old ho row
    have hge := grownCap_ge w (n + m) old e
    refine ⟨⟨hl, .inr ⟨w.heap.size, _, _, rfl, hbase, heap_alloc_new w.drew _, hge, grownCap_le_maxLen w (n + m) old e h63, ?_, ?_⟩⟩, ⟨rfl, rfl, rfl, by simp, fun k hk _ => Below.heap_alloc w.drew _ k hk⟩⟩
    · rw [Array.size_append, List.size_toArray, size_zeroCells, hzs, hl, ← Nat.add_mul]
      congr 1
      omega
    · rw [Array.toList_append, ← hl]
      exact List.take_left
  have fit : ∀ old, old < n + m → Builtin.nextslicecap (n + m) old * i.bytes ≤ 281474976710656 := fun old ho => by
    have h1 := nextslicecap_le (need := n + m) (old := old) (by omega)
    have h2 : Builtin.nextslicecap (n + m) old * i.bytes ≤ 2 * (n + m) * i.bytes := Nat.mul_le_mul_right _ (by omega)
    have h3 : 2 * (n + m) * i.bytes = 2 * ((n + m) * i.bytes) := Nat.mul_assoc _ _ _
    omega
  rcases hown.2 with ⟨rfl, rfl⟩ | ⟨g, cap, cur, rfl, hb, hg, q1, q2, q3, q4⟩
  · obtain rfl : xs = [] := List.length_eq_zero_iff.1 (by rw [hown.1]; omega)
    cases m with
    | zero =>
      have hn0 : news = [] := List.length_eq_zero_iff.1 (by rw [hs.newsLen]; omega)
      subst hn0
      have hlen := hs.len
      have hcel := hs.cells
      refine ⟨.slice none 0 0, w, ?_, World.ownsRow_nil _ _ _ _, ⟨rfl, rfl, rfl, Nat.le_refl _, fun _ _ _ => rfl⟩, .inl rfl, .inl (fun _ _ => rfl)⟩
      rcases hs.kind with ⟨e', hk⟩ | hk <;> simp [Builtin.append_, run_underlying ht, run_underlying hk, sizeOf, typeInfo, hi, hlen, hcel]
    | succ m =>
      obtain ⟨g1, g2⟩ := grown 0 (by omega) (Value.ownBlock (.slice none 0 0))
      refine ⟨_, _, run_append_grow_src w t tx ty e i z ht hi hz none 0 0 [] (run_firstCells_none w.drew i.size 0 0 0) x (m + 1) news hs (by omega) h63' (fit 0 (by omega)), g1, g2, .inr rfl, .inl (fun b hb => Below.heap_alloc w.drew _ b hb)⟩
  · by_cases hr : n + m ≤ cap
    · have hlen := hs.len
      have hcel := hs.cells
      have hst := run_storeCells_at P g (n * i.size) e news 0 cur w hg (by rw [hs.newsLen, q3, Nat.add_zero, ← Nat.add_mul]; exact Nat.mul_le_mul_right _ hr) hs.one
      simp only [Nat.add_zero] at hst
      have hst' : (storeCells ((⟨g, 0, none⟩ : Addr).add (n * i.size)) news).run P w = .ok () (w.setRow g (cur.toList.take (n * i.size) ++ news ++ cur.toList.drop (n * i.size + news.length)).toArray) := by
        rw [add_at, Nat.zero_add]; exact hst
      have hgrow : w.grownBy (w.setRow g (cur.toList.take (n * i.size) ++ news ++ cur.toList.drop (n * i.size + news.length)).toArray) (some g) :=
        ⟨rfl, rfl, rfl, by simp, fun k _ hk => setRow_other w g k _ (fun e => hk (congrArg some e))⟩
      refine ⟨.slice (some ⟨g, 0, none⟩) (n + m) cap, _, ?_, ?_, hgrow, .inl rfl, .inr ⟨g, cap, cur, rfl, rfl, hg, q3, hr, setRow_heap w g cur _ e (0, 0) hg, fun b hb => setRow_other w g b _ hb⟩⟩
      · rcases hs.kind with ⟨e', hk⟩ | hk <;> simp [Builtin.append_, run_underlying ht, run_underlying hk, sizeOf, typeInfo, hi, hlen, hr, hcel, hst']
      · refine ⟨hl, .inr ⟨g, cap, _, rfl, hb, setRow_heap w g cur _ e (0, 0) hg, hr, q2, ?_, ?_⟩⟩
        · have hcl : cur.toList.length = cap * i.size := by rw [Array.length_toList]; exact q3
          have h2 : n * i.size + news.length ≤ cap * i.size := by rw [hs.newsLen, ← Nat.add_mul]; exact Nat.mul_le_mul_right _ hr
          simp only [List.size_toArray, List.length_append, List.length_take, List.length_drop, hcl]
          omega
        · show List.take _ (cur.toList.take (n * i.size) ++ news ++ _) = _
          rw [q4, ← hl]
          exact List.take_left
    · have hold := run_firstCells_some (P := P) w.drew i.size n ⟨g, 0, none⟩ n cap xs hown.1 (fun j u hu => hown.cells rfl j u hu)
      obtain ⟨g1, g2⟩ := grown cap (by omega) (some g)
      exact ⟨_, _, run_append_grow_src w t tx ty e i z ht hi hz (some ⟨g, 0, none⟩) n cap xs hold x m news hs (by omega) h63' (fit cap (by omega)), g1, g2, .inr rfl, .inl (fun b hb => Below.heap_alloc w.drew _ b hb)⟩

/-- a row that is no longer than the one appended to is still told -/
theorem own_stays {w w' : World} {e size : Nat} {v v' : Value} {n m : Nat} {news : List Value} (h : (∀ b, b < w.heap.size → w'.heap[b]? = w.heap[b]?) ∨ InPl w w' e size v v' n m news) (hm : news.length = m * size) {B : Nat} {u : Value} {n' : Nat} {xs : List Value} (ho : w.ownsRow B e size u n' xs) (hn : n' ≤ n) : w'.ownsRow B e size u n' xs := by
  rcases h with h | ⟨g, cap, cur, rfl, rfl, hg, hs, hr, hg', hoth⟩
  · exact own_kept ho (fun k hk => h k (own_lt ho hk))
  · refine ⟨ho.1, ?_⟩
    rcases ho.2 with hq | ⟨g2, cap2, cur2, rfl, hb, hg2, q1, q2, q3, q4⟩
    · exact .inl hq
    · by_cases e2 : g2 = g
      · subst e2
        rw [hg] at hg2
        obtain ⟨rfl, _⟩ : cur = cur2 ∧ True := by cases hg2; exact ⟨rfl, trivial⟩
        have hle : n' * size ≤ n * size := Nat.mul_le_mul_right _ hn
        have hn2 : (n + m) * size ≤ cap * size := Nat.mul_le_mul_right _ hr
        rw [Nat.add_mul] at hn2
        have hcl : cur.toList.length = cap * size := by rw [Array.length_toList]; exact hs
        refine .inr ⟨g2, cap2, _, rfl, hb, hg', q1, q2, ?_, ?_⟩
        · rw [← q3]
          simp only [List.size_toArray, List.length_append, List.length_take, List.length_drop, hcl]
          omega
        · show List.take _ (cur.toList.take (n * size) ++ news ++ _) = _
          rw [List.append_assoc, List.take_append_of_le_length (by rw [List.length_take, hcl]; omega), List.take_take, Nat.min_eq_left hle]
          exact q4
      · exact .inr ⟨g2, cap2, cur2, rfl, hb, (hoth g2 e2).trans hg2, q1, q2, q3, q4⟩
theorem app_byte3 {w : World} {v : Value} {l : List UInt8} (z : UInt8) (h1 : Kb w v l) (hl : l.length + 1 ≤ 140737488351232) (ty : TypeId) :
    ∃ v' w', (Builtin.append_ #[29, 29] ty #[v, .slice (some ⟨w.heap.size, 0, none⟩) 1 1]).run Tryd.prog (w.alloc (.cells #[.int .u8 z.toNat] 5)) = .ok v' w' ∧ Kb w' v' (l ++ [z]) ∧ Gr v v' w w' ∧ ∀ u k, Kb w u k → k.length ≤ l.length → Kb w' u k := by
  obtain ⟨i0, hi0, hz0, hz1, hz2⟩ := parts_of info_u8'
  have hb3 : Below w.heap.size w (w.alloc (.cells #[.int .u8 z.toNat] 5)) := (Below.refl _ w).alloc (Nat.le_refl _) _
  have src : Src Tryd.prog 1 29 (.slice (some ⟨w.heap.size, 0, none⟩) 1 1) 1 [.int .u8 (z.toNat : Int)] (w.alloc (.cells #[.int .u8 z.toNat] 5)) :=
    Src.ofSlice _ Tryd.underlying29 ⟨w.heap.size, 0, none⟩ 1 1 _ (by simp) (fun j u hu => by
      rw [add_at, Nat.zero_add, cell_of_row _ _ _ _ _ _ (heap_alloc_new _ _)]
      match j, hu with
      | 0, hu => exact hu
      | j + 1, hu => simp at hu) (fun u hu => by simp at hu; subst hu; rfl)
  obtain ⟨v', w', r1, r2, r3, r4, r5⟩ := app_gen3 (w.alloc (.cells #[.int .u8 z.toNat] 5)) 0 29 29 ty 5 i0 _ 1 1 Tryd.underlying29 hi0 hz0 hz1 hz2 rfl (by decide) v l.length _ (h1.later hb3) _ 1 _ src (by unfold maxLen; omega) (by omega) (Nat.zero_le _)
  refine ⟨v', w', r1, ?_, Gr.ahead hb3 ⟨r3, fun k hk => ?_⟩ h1.lt, fun u k hu hk => own_stays r5 rfl (hu.later hb3) hk⟩
  · unfold Kb
    rw [List.length_append, bcells_app]
    exact r2
  · rcases r4 with e | e
    · exact .inl (e ▸ hk)
    · rw [e] at hk; cases hk; exact .inr (Nat.le_refl _)
theorem Kb.set {w : World} {g n c : Nat} {l : List UInt8} (h : Kb w (.slice (some ⟨g, 0, none⟩) n c) l) (j : Nat) (x : UInt8) (hj : j < l.length) :
    Kb (w.setCell ⟨g, j, none⟩ (.int .u8 (x.toNat : Int))) (.slice (some ⟨g, 0, none⟩) n c) (l.set j x) ∧ (∃ u, w.cell? ⟨g, j, none⟩ = some u) ∧ w.frozen? ⟨g, j, none⟩ = false := by
  obtain ⟨h0, h1⟩ := h
  rcases h1 with ⟨e, _⟩ | ⟨g', cap, cur, e, hb, hg, q1, q2, q3, q4⟩
  · cases e
  · cases e
    have hsz : j < cur.size := by omega
    refine ⟨⟨by simp [bcells], .inr ⟨g, c, cur.setIfInBounds j (.int .u8 (x.toNat : Int)), by rw [List.length_set], hb, heap_setCell_same _ _ _ _ _ _ hg, by rw [List.length_set]; exact q1, q2, by rw [Array.size_setIfInBounds]; exact q3, ?_⟩⟩, ⟨cur[j], ?_⟩, frozen_of_row _ _ _ _ _ hg⟩
    · rw [List.length_set, Array.toList_setIfInBounds, List.take_set, q4]
      unfold bcells
      rw [List.map_set]
    · rw [cell_of_row _ _ _ _ _ _ hg, Array.getElem?_eq_getElem hsz]
theorem bytes_made (w : World) (n : Nat) (hn : n ≤ 4194304) :
    ∃ w', (Instr.makeSlice 29 (.int .i64 (n : Int)) (.int .i64 (n : Int))).run Tryd.prog w = .ok (.slice (some ⟨w.heap.size, 0, none⟩) n n) w' ∧ Kb w' (.slice (some ⟨w.heap.size, 0, none⟩) n n) (List.replicate n 0) ∧ Below w.heap.size w w' := by
  obtain ⟨i0, hi0, hz0, hz1, hz2⟩ := parts_of info_u8'
  obtain ⟨w', h1, h2, h3⟩ := run_make_full (P := Tryd.prog) w w.heap.size 29 5 i0 _ 1 Tryd.underlying29 hi0 hz0 hz1 .i64 .i64 n (by rw [hz2]; omega) (by unfold maxLen; omega) (Nat.le_refl _)
  refine ⟨w', h1, ?_, (Below.refl _ w).grown h3 (Nat.le_refl _) (fun k hk => by cases hk)⟩
  unfold Kb bcells
  rw [List.length_replicate, List.map_replicate]
  have e : (madeCells (Value.int .u8 0).cells (n * 1)).toList = List.replicate n (Value.int .u8 0) := by
    show (madeCells #[.int .u8 0] (n * 1)).toList = _
    rw [toList_madeCells_one, Nat.mul_one]
  show w'.ownsRow 0 _ 1 _ n (List.replicate n (Value.int .u8 0))
  rw [← e]
  exact own_low h2 (Nat.zero_le _)
end Go.Proofs.YtoalnfkjpdgbiaaDoor

namespace Go.Proofs.YtoalnfkjpdgbiaaDoor
open Go.RowKit
set_option linter.unusedVariables false
set_option maxRecDepth 100000 in
set_option maxHeartbeats 4000000 in
theorem bspoil_any (B : Nat) (v : Value) (l : List UInt8) (w : World) (h : Kb w v l) (hv : ∀ k, v.ownBlock = some k → B ≤ k) (hB : B ≤ w.heap.size) (hl : l.length ≤ 1000000000) :
    Calls Tryd.prog 15 #[v] w fun e w' => e = .returned (.tuple #[]) ∧ Below B w w' ∧ ∀ b, b < w.heap.size → v.ownBlock ≠ some b → w'.heap[b]? = w.heap[b]? := by
  obtain ⟨PP, hPP⟩ : ∃ PP : Ending → World → Prop, PP = fun e w' => e = .returned (.tuple #[]) ∧ Below B w w' ∧ ∀ b, b < w.heap.size → v.ownBlock ≠ some b → w'.heap[b]? = w.heap[b]? := ⟨_, rfl⟩
  rw [← hPP]
  have HP := keep hPP
  clear hPP
  obtain ⟨ao, c, rfl⟩ := h.form
  obtain ⟨N, hN⟩ : ∃ N, l.length = N := ⟨_, rfl⟩
  rw [hN] at h HP hl hv ⊢
  have HK := keep h
  have HV := keep hv
  have HB := keep hB
  have HN := keep hN
  have HL := keep hl
  clear h hB hN hl hv
  go_enter Tryd.func15, Tryd.ntmps15
  go_wp2_with fail
  go_loopw [8] (fun v8 wr => ∃ (k : Nat) (M : List UInt8), k ≤ N ∧ v8 = .int .i64 (k : Nat) ∧ Kept (M.length = N) ∧ Kept (Kb wr (.slice ao N c) M) ∧ Kept (Below B w wr) ∧ Kept (∀ b, b < w.heap.size → (Value.slice ao N c).ownBlock ≠ some b → wr.heap[b]? = w.heap[b]?)) (fun v8 _ => N - (intOf v8).toNat)
  case atStart => exact ⟨0, l, Nat.zero_le _, rfl, HN, HK, Below.refl _ _, fun b _ _ => rfl⟩
  case round =>
    obtain ⟨k, M, hk, rfl, KM, KS, KB, KF⟩ := hrel
    by_cases hlt : k < N
    · have hz : (k : Int) < (N : Int) := by omega
      have hz0 : (0 : Int) ≤ (k : Int) := by omega
      have hwk : IntKind.i64.wrap ((k : Int) + 1) = ((k + 1 : Nat) : Int) := by have := HL.out; rw [IntKind.wrap_i64]; omega
      obtain ⟨g, rfl⟩ : ∃ g, ao = some ⟨g, 0, none⟩ := by
        rcases KS.out.2 with ⟨_, hn⟩ | ⟨g, cap, cur, e, _⟩
        · have := KM.out; omega
        · cases e; exact ⟨g, rfl⟩
      obtain ⟨q1, ⟨u, q2⟩, q3⟩ := KS.out.set k 90 (by rw [KM.out]; exact hlt)
      have hBg : B ≤ g := HV.out g rfl
      have Q1 := keep q1
      have HBG := keep hBg
      have HLT := keep hlt
      clear q1 hBg hlt
      go_wp2_with fail
      go_roundw
      case measure => have := HLT.out; simp [intOf]; omega
      case rel => exact ⟨k + 1, M.set k 90, HLT.out, by rfl, by rw [List.length_set]; exact KM, Q1, KB.out.setCell HBG.out _, fun b h1 h2 => (heap_setCell_other wr ⟨g, k, none⟩ b _ (fun e => h2 (congrArg some e.symm))).trans (KF.out b h1 h2)⟩
    · obtain rfl : k = N := by omega
      have hz : ¬ (k : Int) < (k : Int) := by omega
      go_wp2_with fail
      go_loopw [3, 16] (fun v3 v16 wx => ∃ (j : Nat) (M2 : List UInt8), j ≤ 20 ∧ v16 = .int .i64 (j : Nat) ∧ Kept (M2.length = k + j) ∧ Kept (Kb wx v3 M2) ∧ Kept (Kb wx (.slice ao k c) M) ∧ Kept (Below B w wx) ∧ Kept (∀ q, v3.ownBlock = some q → B ≤ q) ∧ Kept (∀ b, b < w.heap.size → (Value.slice ao k c).ownBlock ≠ some b → wx.heap[b]? = w.heap[b]? ∧ Far v3 wx b)) (fun _ v16 _ => 20 - (intOf v16).toNat)
      case atStart => exact ⟨0, M, Nat.zero_le _, rfl, KM, KS, KS, KB, HV, fun b h1 h2 => ⟨KF.out b h1 h2, Nat.lt_of_lt_of_le h1 KB.out.size, h2⟩⟩
      case round =>
        obtain ⟨j, M2, hj, rfl, KM2, KS2, KSo, KB2, KV2, KF2⟩ := hrel
        by_cases hlt2 : j < 20
        · have hz2 : (j : Int) < 20 := by omega
          have hwj : IntKind.i64.wrap ((j : Int) + 1) = ((j + 1 : Nat) : Int) := by rw [IntKind.wrap_i64]; omega
          have hb0 : B ≤ wr.heap.size := Nat.le_trans HB.out KB2.out.size
          obtain ⟨v', w', hrun, hks, hgr, hst⟩ := app_byte3 91 KS2.out (by rw [KM2.out]; have := HL.out; omega) 29
          have hbw : Below B w w' := KB2.out.trans (hgr.below hb0 KV2.out)
          have hvv : Kept (∀ q, v'.ownBlock = some q → B ≤ q) := fun q hq => by
            rcases hgr.2 q hq with h | h
            · exact KV2.out q h
            · omega
          have hfr : Kept (∀ b, b < w.heap.size → (Value.slice ao k c).ownBlock ≠ some b → w'.heap[b]? = w.heap[b]? ∧ Far v' w' b) := fun b h1 h2 => ⟨(hgr.same (KF2.out b h1 h2).2).trans (KF2.out b h1 h2).1, hgr.far (KF2.out b h1 h2).2⟩
          have KSn := keep (hst _ _ KSo.out (by rw [KM.out, KM2.out]; omega))
          obtain ⟨ao3, c3, hv3⟩ := KS2.out.form
          rw [KM2.out] at hv3
          obtain ⟨n3, hn3⟩ : ∃ n3, k + j = n3 := ⟨_, rfl⟩
          rw [hn3] at hv3
          subst hv3
          have HKS := keep hks
          have HBW := keep hbw
          have HRUN := keep hrun
          have HLT := keep hlt2
          clear hks hbw hrun hgr hb0 hlt2 hst hn3
          go_wp2_with (first | (at_builtin; refine wpList_app_run rfl _ _ _ _ rfl _ _ _ rfl rfl HRUN.out ?_; clear HRUN))
          go_roundw
          case measure => simp [intOf]; omega
          case rel => exact ⟨j + 1, M2 ++ [91], HLT.out, by rfl, by show _ = _; rw [List.length_append, KM2.out]; rfl, HKS, KSn, HBW, hvv, hfr⟩
        · have hz2 : ¬ (j : Int) < 20 := by omega
          obtain ⟨wm, hmk, km, bm⟩ := bytes_made wr 70 (by decide)
          have HMK := keep (fun _ : Unit => hmk)
          have hmk2 : (Instr.makeSlice 29 (.int .i64 70) (.int .i64 70)).run Tryd.prog wr = .ok (.slice (some ⟨wr.heap.size, 0, none⟩) 70 70) wm := hmk
          have KMm := keep km
          have BM := keep bm
          clear hmk km bm HMK
          go_wp2_with fail
          generalize wr = wq at *
          go_loopw [25] (fun v25 wz => ∃ (i : Nat) (Z : List UInt8), i ≤ 70 ∧ v25 = .int .i64 (i : Nat) ∧ Kept (Z.length = 70) ∧ Kept (Kb wz (.slice (some ⟨wq.heap.size, 0, none⟩) 70 70) Z) ∧ Kept (Below wq.heap.size wq wz)) (fun v25 _ => 70 - (intOf v25).toNat)
          case atStart => exact ⟨0, _, Nat.zero_le _, rfl, by show _ = _; rw [List.length_replicate], KMm, BM⟩
          case round =>
            obtain ⟨i, Z, hi, rfl, KZ, KSZ, KBZ⟩ := hrel
            by_cases hlt3 : i < 70
            · have hz3 : (i : Int) < 70 := by omega
              have hz30 : (0 : Int) ≤ (i : Int) := by omega
              have hwi : IntKind.i64.wrap ((i : Int) + 1) = ((i + 1 : Nat) : Int) := by rw [IntKind.wrap_i64]; omega
              obtain ⟨q1, ⟨u, q2⟩, q3⟩ := KSZ.out.set i 92 (by rw [KZ.out]; exact hlt3)
              have Q1 := keep q1
              have HLT3 := keep hlt3
              clear q1 hlt3 hmk2
              go_wp2_with fail
              go_roundw
              case measure => have := HLT3.out; simp [intOf]; omega
              case rel => exact ⟨i + 1, Z.set i 92, HLT3.out, by rfl, by rw [List.length_set]; exact KZ, Q1, KBZ.out.setCell (Nat.le_refl _) _⟩
            · have hz3 : ¬ (i : Int) < 70 := by omega
              have hb1 : B ≤ wq.heap.size := Nat.le_trans HB.out KB2.out.size
              obtain ⟨v', w', hrun, hks, hgr⟩ := app_bs (KSo.out.later KBZ.out) KSZ.out.bs (by rw [KM.out, KZ.out]; have := HL.out; omega) 29
              have hbz : Below B w wr := KB2.out.trans (KBZ.out.mono hb1)
              have hgb : Below B wr w' := hgr.below (Nat.le_trans hb1 KBZ.out.size) HV.out
              have hfr2 : ∀ b, b < w.heap.size → (Value.slice ao k c).ownBlock ≠ some b → w'.heap[b]? = w.heap[b]? ∧ Far v' w' b := fun b h1 h2 => by
                have h3 : b < wq.heap.size := Nat.lt_of_lt_of_le h1 KB2.out.size
                have h4 : Far (.slice ao k c) wr b := ⟨Nat.lt_of_lt_of_le h3 KBZ.out.size, h2⟩
                exact ⟨(hgr.same h4).trans ((KBZ.out.block b h3).trans (KF2.out b h1 h2).1), hgr.far h4⟩
              have hlen : (M ++ Z).length = k + 70 := by rw [List.length_append, KM.out, KZ.out]
              have hform := hks.form
              rw [hlen] at hform
              obtain ⟨ao4, c4, rfl⟩ := hform
              obtain ⟨g4, rfl⟩ : ∃ g4, ao4 = some ⟨g4, 0, none⟩ := by
                rcases hks.2 with ⟨_, hn⟩ | ⟨g, cap, cur, e, _⟩
                · rw [hlen] at hn; omega
                · rw [hlen] at e; cases e; exact ⟨g, rfl⟩
              obtain ⟨q1, ⟨u, q2⟩, q3⟩ := hks.set 0 93 (by rw [hlen]; omega)
              have hBg : B ≤ g4 := by
                rcases hgr.2 g4 rfl with h | h
                · exact HV.out _ h
                · exact Nat.le_trans (Nat.le_trans hb1 KBZ.out.size) h
              have FIN : Kept (Below B w (w'.setCell ⟨g4, 0, none⟩ (.int .u8 93)) ∧ ∀ b, b < w.heap.size → (Value.slice ao k c).ownBlock ≠ some b → (w'.setCell ⟨g4, 0, none⟩ (.int .u8 93)).heap[b]? = w.heap[b]?) :=
                ⟨(hbz.trans hgb).setCell hBg _, fun b h1 h2 => (heap_setCell_other w' ⟨g4, 0, none⟩ b _ (fun e => (hfr2 b h1 h2).2.2 (congrArg some e.symm))).trans (hfr2 b h1 h2).1⟩
              have hpos : (0 : Int) < ((k + 70 : Nat) : Int) := by omega
              obtain ⟨k7, hk7⟩ : ∃ k7, k + 70 = k7 := ⟨_, rfl⟩
              rw [hk7] at hrun hpos
              have hpos2 : 0 < k7 := by omega
              have HRUN := keep hrun
              clear hrun hks hgr hbz hgb hfr2 hlen q1 hBg hk7 hmk2
              go_wp2_with (first | (at_builtin; refine wpList_app_run rfl _ _ _ _ rfl _ _ _ rfl rfl HRUN.out ?_; clear HRUN))
              refine bodyPost_end (results_none rfl _ _ _) rfl ?_
              rw [HP.out]
              exact ⟨rfl, FIN.out.1, FIN.out.2⟩
end Go.Proofs.YtoalnfkjpdgbiaaDoor
