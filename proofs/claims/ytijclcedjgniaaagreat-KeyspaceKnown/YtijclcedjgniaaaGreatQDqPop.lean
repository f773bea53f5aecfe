/-
  Contracts over this program: Remove, Pop.
-/
import Derived.Test.YtijclcedjgniaaaGreatQDqAt
/-
  Contracts over this program: cut, texts taken out of a chunk; what it leans on.
-/
namespace Go.Proofs.YtijclcedjgniaaaGreat.DQ
open Go.RowKit Go.Shelf
set_option linter.unusedVariables false
/-- only block b has turned -/
def Ob (b : Nat) (w w' : World) : Prop := (w'.os = w.os ∧ w'.tape = w.tape ∧ w'.output = w.output) ∧ w'.heap.size = w.heap.size ∧ ∀ k, k ≠ b → w'.heap[k]? = w.heap[k]?
theorem Ob.refl (b : Nat) (w : World) : Ob b w w := ⟨⟨rfl, rfl, rfl⟩, rfl, fun _ _ => rfl⟩
theorem Ob.trans {b : Nat} {w w1 w2 : World} (h : Ob b w w1) (g : Ob b w1 w2) : Ob b w w2 := ⟨⟨g.1.1.trans h.1.1, g.1.2.1.trans h.1.2.1, g.1.2.2.trans h.1.2.2⟩, g.2.1.trans h.2.1, fun k hk => (g.2.2 k hk).trans (h.2.2 k hk)⟩
theorem Ob.set (b i : Nat) (w : World) (u : Value) : Ob b w (w.setCell ⟨b, i, none⟩ u) := ⟨⟨rfl, rfl, rfl⟩, set_size _ _ _, fun k hk => Below.heap_setCell _ _ _ _ hk⟩
theorem Ob.drew {b : Nat} {w w' : World} (h : Ob b w w') : Ob b w w'.drew := h
theorem Ob.drewN {b : Nat} {w w' : World} (h : Ob b w w') (q : Nat) : Ob b w (w'.drewN q) := h
/-- texts from .. to-1 are taken out -/
theorem cut_list {X ts : List ByteArray} {f t : Nat} (hX : X.length = 32) (ht : X.take ts.length = ts) (hft : f ≤ t) (htl : t ≤ ts.length) (hl : ts.length ≤ 32) (Z : List ByteArray) (hz : Z.length = ts.length - (f + (ts.length - t))) : (layS (layS X f (ts.drop t)) (f + (ts.length - t)) Z).take (f + (ts.length - t)) = ts.take f ++ ts.drop t := by
  have h1 : f + (ts.drop t).length ≤ X.length := by rw [List.length_drop]; omega
  apply List.ext_getElem?
  intro i
  rw [List.getElem?_take]
  by_cases h : i < f + (ts.length - t)
  · rw [if_pos h, layS_at _ _ _ _ (by rw [layS_len, hz]; omega), if_neg (by omega), layS_at _ _ _ _ h1, List.length_drop]
    by_cases g : f ≤ i
    · rw [if_pos (by omega), List.getElem?_append_right (by rw [List.length_take]; omega), List.length_take, Nat.min_eq_left (by omega)]
    · rw [if_neg (by omega), List.getElem?_append_left (by rw [List.length_take]; omega), List.getElem?_take, if_pos (by omega), ← ht, List.getElem?_take, if_pos (by omega)]
  · rw [if_neg h, List.getElem?_eq_none (by rw [List.length_append, List.length_take, List.length_drop]; omega)]
theorem zero_str : ∀ w : World, (Go.zeroValue 9).run Tryz.prog w = .ok (.string .empty) w := fun w => by kernel_rfl
theorem zeroS (n : Nat) : (Builtin.zeroCells (Value.string .empty).cells n).toList = (List.replicate n ByteArray.empty).map Value.string := by
  unfold Builtin.zeroCells
  apply List.ext_getElem
  · simp [Value.cells]
  · intro i h1 h2
    simp [Value.cells, Nat.mod_one]
/-- clear of a stretch of a chunk -/
theorem clear_any (w : World) (c : Nat) (pv nv : Value) (n : Nat) (X : List ByteArray) (hc : Cx w c pv nv n X) (l k cap : Nat) (hl : l + k ≤ 32) (ty : TypeId) :
    (Builtin.clear_ #[31] ty #[.slice (some (sla c l)) k cap]).run Tryz.prog w = .ok (.tuple #[]) (w.setCells c (3 + l) ((List.replicate k ByteArray.empty).map Value.string)) := by
  cases k with
  | zero => simp [Builtin.clear_, run_underlying Tryz.underlying31, World.setCells]
  | succ k =>
    have hs : sla c l = ⟨c, 3 + l, none⟩ := by unfold sla; rw [if_neg (by omega)]
    obtain ⟨_, _, _, ct, cf⟩ := hc.cells
    have hst := run_storeCells_cells (P := Tryz.prog) c (3 + l) ((List.replicate (k + 1) ByteArray.empty).map Value.string) 0 w (fun j hj => by
      rw [List.length_map, List.length_replicate] at hj
      rw [Nat.add_zero, show 3 + l + j = 3 + (l + j) by omega, ct (l + j) _ (List.getElem?_eq_getElem (by rw [hc.1]; omega))]; rfl) (fun j hj => cf _) (fun v hv => by obtain ⟨x, _, rfl⟩ := List.mem_map.1 hv; rfl)
    rw [hs]
    have hst' : (storeCells ⟨c, 3 + l, none⟩ (Builtin.zeroCells (Value.string .empty).cells (k + 1)).toList).run Tryz.prog w = .ok () (w.setCells c (3 + l) ((List.replicate (k + 1) ByteArray.empty).map Value.string)) := by rw [zeroS]; exact hst
    simp [Builtin.clear_, run_underlying Tryz.underlying31]
    rw [show (Value.string { data := #[] }) = Value.string ByteArray.empty from rfl, hst']
    simp [Result.andThen]
end Go.Proofs.YtijclcedjgniaaaGreat.DQ

/-
  Contracts over this program: cut's own walk.
-/
namespace Go.Proofs.YtijclcedjgniaaaGreat.DQ
open Go.RowKit Go.Shelf
set_option linter.unusedVariables false
/-- the deque and the chunk behind a cut, ahead of what is done where no text is left -/
def CutF (w : World) (b c : Nat) (pv nv f l : Value) (m k n : Nat) (X : List ByteArray) (w' : World) : Prop :=
  Cx w' c pv nv n X ∧ Ds w' b f l m k ∧ (w'.os = w.os ∧ w'.tape = w.tape ∧ w'.output = w.output) ∧ w'.heap.size = w.heap.size ∧ ∀ x, x ≠ b → x ≠ c → w'.heap[x]? = w.heap[x]?
theorem CutF.drewN {w : World} {b c : Nat} {pv nv f l : Value} {m k n : Nat} {X : List ByteArray} {w' : World} (h : CutF w b c pv nv f l m k n X w') (q : Nat) : CutF w b c pv nv f l m k n X (w'.drewN q) := h
theorem costL_take {l : List ByteArray} {j : Nat} {s : ByteArray} (h : l[j]? = some s) : costL (l.take (j + 1)) = costL (l.take j) + (16 + s.size) := by
  rw [List.take_add_one, h, costL_app]
  rfl
theorem costL_part (l : List ByteArray) (j : Nat) : costL (l.take j) ≤ costL l := by
  have := costL_app (l.take j) (l.drop j)
  rw [List.take_append_drop] at this
  omega
set_option maxRecDepth 100000 in
set_option maxHeartbeats 8000000 in
theorem cut_walk (w : World) (b c : Nat) (pv nv f l : Value) (n m k : Nat) (X : List ByteArray) (fr to : Nat) (ts : List ByteArray) (hc : Cx w c pv nv n X) (hd : Ds w b f l m k) (hbc : b ≠ c) (h1 : fr < to) (h2 : to ≤ n) (hn : n ≤ 32) (hm : m ≤ 1048576) (hnm : n ≤ m) (hk : k ≤ 2000000000000) (hts : ts.length = n) (ht : X.take n = ts) (hz : ∀ t ∈ ts, t.size ≤ 1048576) (hkl : costL (ts.drop fr) ≤ k)
    (left m' k' T : Nat) (hl : left = fr + (n - to)) (hm' : m' = m - (to - fr)) (hT : T = to - fr) (hk' : k' = k - costL ((ts.drop fr).take T)) (R : World → Prop)
    (hR : left = 0 → ∀ w5, CutF w b c pv nv f l m' k' left (layS (layS X fr (ts.drop to)) left (List.replicate (n - left) ByteArray.empty)) w5 → Calls Tryz.prog 142 #[ptr b, pv, nv] w5 fun e w' => e = .returned (.tuple #[]) ∧ R w') :
    Calls Tryz.prog 91 #[ptr b, ptr c, .int .i64 fr, .int .i64 to] w fun e w' => e = .returned (.tuple #[]) ∧ (left ≠ 0 → CutF w b c pv nv f l m' k' left (layS (layS X fr (ts.drop to)) left (List.replicate (n - left) ByteArray.empty)) w') ∧ (left = 0 → R w') := by
  have sB := fun w => sl_part w c fr to (Nat.le_of_lt h1) (by omega)
  rw [show sla c fr = ⟨c, 3 + fr, none⟩ by unfold sla; rw [if_neg (by omega)], ← hT] at sB
  have MC := keep fun (s : ByteArray) (hs : s.size ≤ 1048576) w => costof_any w s (by unfold maxLen; omega)
  have HC := keep hc
  have HD := keep hd
  have HZ := keep hz
  have HTS := keep hts
  have HTT := keep ht
  have HKL := keep hkl
  have HT := keep hT
  have HK' := keep hk'
  have HL := keep hl
  have HM' := keep hm'
  have HR := keep hR
  have hTb : (T : Int) ≤ 32 := by omega
  have frb : (fr : Int) ≤ 32 := by omega
  have z3 : ∃ z, z = 32 - fr := ⟨_, rfl⟩
  obtain ⟨z3, hz3⟩ := z3
  rw [← hz3] at sB
  clear hc hd hz hts ht hkl hk' hl hm' hR hz3 hT
  go_enter Tryz.func91, Tryz.ntmps91
  go_wp2
  go_loopw [18] (fun i wr => ∃ j : Nat, j ≤ T ∧ i = .int .i64 j ∧ Kept (Ob b w wr) ∧ Kept (Ds wr b f l m (k - costL ((ts.drop fr).take j)))) (fun i _ => T - (intOf i).toNat)
  case atStart => exact ⟨0, Nat.zero_le _, rfl, Ob.refl _ _, HD⟩
  case round =>
    obtain ⟨j, hj, rfl, KO, KD⟩ := hrel
    by_cases hlt : j < T
    · have hzj : (j : Int) < (T : Int) := by omega
      have hzj0 : (0 : Int) ≤ (j : Int) := by omega
      have hjl : fr + j < ts.length := by have := HT.out; rw [HTS.out]; omega
      obtain ⟨s, hs⟩ : ∃ s, ts[fr + j]? = some s := ⟨_, List.getElem?_eq_getElem hjl⟩
      have hgs : (ts.drop fr)[j]? = some s := by rw [List.getElem?_drop]; exact hs
      have hXs : X[fr + j]? = some s := by
        have h := hs
        rw [← HTT.out, List.getElem?_take, if_pos (by have := HTS.out; omega)] at h
        exact h
      have hsz := HZ.out s (List.mem_of_getElem? hs)
      have hct := costL_take hgs
      have hcp := costL_part (ts.drop fr) (j + 1)
      have hkl := HKL.out
      have cx : wr.cell? ⟨c, 3 + fr + j, none⟩ = some (.string s) := by
        have := HC.out.cells.2.2.2.1 (fr + j) s hXs
        rw [← Nat.add_assoc] at this
        rw [← this]
        exact World.cell?_of_block (KO.out.2.2 c hbc.symm)
      obtain ⟨kj, hkj⟩ : ∃ x, x = k - costL ((ts.drop fr).take j) := ⟨_, rfl⟩
      obtain ⟨kj1, hkj1⟩ : ∃ x, x = k - costL ((ts.drop fr).take (j + 1)) := ⟨_, rfl⟩
      rw [← hkj] at KD
      have hkk : (kj : Int) - ((16 + s.size : Nat) : Int) = (kj1 : Int) := by omega
      have kd := KD.out.four.2.2.2.1
      have kf := KD.out.four.2.2.2.2 3
      have M1 := MC.out s hsz
      obtain ⟨sz, hsz'⟩ : ∃ z, z = 16 + s.size := ⟨_, rfl⟩
      rw [← hsz'] at M1 hkk
      have M1 := keep M1
      have q5 : IntKind.i64.wrap (kj1 : Int) = (kj1 : Int) := by rw [IntKind.wrap_i64]; omega
      have KD1 : Kept (Ds (wr.setCell ⟨b, 3, none⟩ (.int .i64 (kj1 : Nat))) b f l m (k - costL ((ts.drop fr).take (j + 1)))) := by show Ds _ _ _ _ _ _; rw [← hkj1]; exact KD.out.set3 kj1
      have KO1 := keep (KO.out.trans (Ob.set b 3 wr (.int .i64 (kj1 : Nat))))
      clear hgs hXs hct hcp hkl hkj hkj1 hsz' KD hjl hs
      go_wp2_with fail
      go_region_with (first | (go_at_call 143; refine (M1.out _).mono ?_; rintro _ _ ⟨rfl, rfl⟩))
      all_goals
        go_wp2
        go_roundw
        case measure => simp [intOf]; omega
        case rel => exact ⟨j + 1, by omega, by go_num, KO1.out.drew, KD1⟩
    · obtain rfl : j = T := by omega
      have hzj : ¬ (j : Int) < (j : Int) := by omega
      rw [← HK'.out] at KD
      have kd := KD.out.four.2.2.1
      have kf := KD.out.four.2.2.2.2 2
      have mz : (m : Int) - ((to : Int) - (fr : Int)) = (m' : Int) := by have := HM'.out; omega
      have KD2 := keep (KD.out.set2 m')
      have KO2 := keep (KO.out.trans (Ob.set b 2 wr (.int .i64 (m' : Nat))))
      obtain ⟨w2, hw2⟩ : ∃ x, x = wr.setCell ⟨b, 2, none⟩ (.int .i64 (m' : Nat)) := ⟨_, rfl⟩
      rw [← hw2] at KD2 KO2
      have hc2 : Cx w2 c pv nv n X := ⟨HC.out.1, (KO2.out.2.2 c hbc.symm).trans HC.out.2⟩
      have hll := HL.out
      have c2c := hc2.cells.2.2.1
      have ct := hc2.cells.2.2.2.1
      have cf := hc2.cells.2.2.2.2
      have hcp : (Builtin.copy_ #[31, 31] 3 #[.slice (some ⟨c, 3 + fr, none⟩) (32 - fr) (32 - fr), .slice (some (sla c to)) (n - to) (32 - to)]).run Tryz.prog w2.drew = .ok (goInt (n - to : Nat)) (w2.drew.setCells c (3 + fr) ((ts.drop to).map Value.string)) := by
        by_cases h32 : n - to = 0
        · have e1 : ts.drop to = [] := List.drop_of_length_le (by rw [HTS.out]; omega)
          rw [h32, e1]
          exact run_copy_none (P := Tryz.prog) w2.drew 31 31 3 9 _ _ _ _ _ _ Tryz.underlying31 info_str (Nat.zero_min _)
        · rw [show sla c to = ⟨c, 3 + to, none⟩ by unfold sla; rw [if_neg (by omega)]]
          have h := run_copy_cells (P := Tryz.prog) w2.drew 31 31 3 9 c (3 + fr) (32 - fr) (32 - fr) ⟨c, 3 + to, none⟩ (n - to) (32 - to) ((ts.drop to).map Value.string) Tryz.underlying31 info_str (by rw [List.length_map, List.length_drop, HTS.out]; exact (Nat.min_eq_left (by omega)).symm) (fun j v hv => by
            have hj : j < n - to := by have := (List.getElem?_eq_some_iff.1 hv).1; rw [List.length_map, List.length_drop, HTS.out] at this; omega
            rw [show (⟨c, 3 + to, none⟩ : Addr).add j = ⟨c, 3 + (to + j), none⟩ by unfold Addr.add; split <;> simp_all <;> omega]
            rw [List.getElem?_map, List.getElem?_drop, ← HTT.out, List.getElem?_take, if_pos (by omega)] at hv
            rw [List.getElem?_eq_getElem (by rw [HC.out.1]; omega)] at hv
            have := ct (to + j) _ (List.getElem?_eq_getElem (by rw [HC.out.1]; omega))
            show w2.cell? _ = _
            rw [this]
            simpa using hv) (fun j hj => by
            rw [List.length_map, List.length_drop, HTS.out] at hj
            have := ct (fr + j) _ (List.getElem?_eq_getElem (by rw [HC.out.1]; omega))
            rw [show 3 + fr + j = 3 + (fr + j) by omega]
            show (w2.cell? _).isSome = true
            rw [this]; rfl) (fun j hj => cf _) (fun v hv => by obtain ⟨x, _, rfl⟩ := List.mem_map.1 hv; rfl)
          rw [List.length_map, List.length_drop, HTS.out] at h
          exact h
      have g3 := Cx.setTs (w := w2.drew) (ts.drop to) fr (show Cx w2.drew c pv nv n X from hc2)
      obtain ⟨w3, hw3⟩ : ∃ x, x = w2.drew.setCells c (3 + fr) ((ts.drop to).map Value.string) := ⟨_, rfl⟩
      rw [← hw3] at hcp g3
      have hcl := clear_any w3.drew c pv nv n _ g3 left (n - left) (32 - left) (by omega) 0
      have g4 := Cx.setTs (w := w3.drew) (List.replicate (n - left) ByteArray.empty) left (show Cx w3.drew c pv nv n _ from g3)
      obtain ⟨w4, hw4⟩ : ∃ x, x = w3.drew.setCells c (3 + left) ((List.replicate (n - left) ByteArray.empty).map Value.string) := ⟨_, rfl⟩
      rw [← hw4] at hcl g4
      have c3 := g3.cells.2.2.1
      have c4 := g4.cells.2.2.1
      have f4 := g4.cells.2.2.2.2 2
      have g5 := g4.setN left
      have s1 := fun w => sl_from w c fr (fr : Int) rfl (by omega)
      have s2 := fun w => sl_part w c to n h2 hn
      have s3 := fun w => sl_part w c left n (by omega) hn
      rw [show sla c fr = ⟨c, 3 + fr, none⟩ by unfold sla; rw [if_neg (by omega)]] at s1
      have lz : (fr : Int) + ((n - to : Nat) : Int) = (left : Int) := by omega
      have lb : (left : Int) ≤ 32 := by omega
      have hF : Kept (CutF w b c pv nv f l m' k' left (layS (layS X fr (ts.drop to)) left (List.replicate (n - left) ByteArray.empty)) (w4.setCell ⟨c, 2, none⟩ (.int .i64 (left : Nat)))) := by
        obtain ⟨a1, a2, a3, a4⟩ := setCells_same ((ts.drop to).map Value.string) (3 + fr) w2.drew c
        obtain ⟨b1, b2, b3, b4⟩ := setCells_same ((List.replicate (n - left) ByteArray.empty).map Value.string) (3 + left) w3.drew c
        rw [← hw3] at a1 a2 a3 a4
        rw [← hw4] at b1 b2 b3 b4
        have ho := KO2.out
        refine ⟨g5, ?_, ⟨b2.trans (a2.trans ho.1.1), b3.trans (a3.trans ho.1.2.1), b4.trans (a4.trans ho.1.2.2)⟩, ?_, fun x hxb hxc => ?_⟩
        · refine Ds.other ?_ hbc
          show w4.heap[b]? = _
          rw [hw4, setCells_other hbc]
          show w3.heap[b]? = _
          rw [hw3, setCells_other hbc]
          exact KD2.out
        · rw [set_size]; exact b1.trans (a1.trans ho.2.1)
        · rw [Below.heap_setCell _ _ _ _ hxc, hw4, setCells_other hxc]
          show w3.heap[x]? = _
          rw [hw3, setCells_other hxc]
          exact ho.2.2 x hxb
      obtain ⟨w5, hw5⟩ : ∃ x, x = w4.setCell ⟨c, 2, none⟩ (.int .i64 (left : Nat)) := ⟨_, rfl⟩
      rw [← hw5] at hF
      obtain ⟨v1, hv1⟩ : ∃ x, x = 32 - fr := ⟨_, rfl⟩
      obtain ⟨v2, hv2⟩ : ∃ x, x = 32 - to := ⟨_, rfl⟩
      obtain ⟨v3, hv3⟩ : ∃ x, x = n - to := ⟨_, rfl⟩
      obtain ⟨v4, hv4⟩ : ∃ x, x = n - left := ⟨_, rfl⟩
      obtain ⟨v5, hv5⟩ : ∃ x, x = 32 - left := ⟨_, rfl⟩
      rw [← hv1] at s1 hcp
      rw [← hv2] at s2 hcp
      rw [← hv3] at s2 hcp lz
      rw [← hv4] at s3 hcl
      rw [← hv5] at s3 hcl
      have HR2 := keep fun h0 => HR.out h0
      have c5 := hF.out.1.cells.1
      have c6 := hF.out.1.cells.2.1
      clear hc2 hll ct cf hw3 hw4 g3 g4 g5 hv1 hv2 hv3 hv4 hv5 KD KO KD2 KO2
      go_wp2_with fail
      rw [← hw2]
      clear hw2 kd kf
      go_region
      clear hcp s1 s2 sB
      go_wp2_with fail
      go_region
      clear hcl s3 c3
      by_cases hl0 : left = 0
      · have e0 : ((left : Int) == 0) = true := beq_iff_eq.2 (by omega)
        have M := keep (HR2.out hl0 w5.drew hF.out)
        have HL0 := keep hl0
        clear hl0
        go_wp2_with fail
        rw [← hw5]
        clear hw5 c4 f4
        go_region_with (first | (go_at_call 142; refine Calls.mono M.out ?_; rintro _ w6 ⟨rfl, hr6⟩; have R6 := keep hr6; clear hr6))
        all_goals
          go_wp2
          go_end0
          exact ⟨rfl, fun h => absurd HL0.out h, fun _ => R6.out⟩
      · have e0 : ((left : Int) == 0) = false := beq_eq_false_iff_ne.2 (by omega)
        go_wp2
        go_end0
        exact ⟨rfl, fun _ => by rw [← hw5]; exact hF.out, fun h => absurd h hl0⟩
end Go.Proofs.YtijclcedjgniaaaGreat.DQ

/-
  Contracts over this program: cut.
-/
namespace Go.Proofs.YtijclcedjgniaaaGreat.DQ
open Go.RowKit Go.Shelf
set_option linter.unusedVariables false
/-- the chunks behind a cut -/
def cutC (A : List Chk) (c : Nat) (us : List ByteArray) (B : List Chk) : List Chk := if us.length = 0 then A ++ B else A ++ (c, us) :: B
theorem cutC_row (A : List Chk) (c : Nat) (us : List ByteArray) (B : List Chk) : row (cutC A c us B) = row A ++ (us ++ row B) := by
  unfold cutC
  split
  · rename_i h
    rw [List.length_eq_zero_iff.1 h, row_app]; rfl
  · rw [row_app, row_cons]
theorem ck_ties {w : World} {c : Nat} {pv nv pv' nv' : Value} {ts us : List ByteArray} (h : Ck w c pv nv ts) (g : Ck w c pv' nv' us) : pv' = pv ∧ nv' = nv := by
  have a := h.cells
  have b := g.cells
  rw [a.1] at b
  rw [a.2.1] at b
  exact ⟨(Option.some.inj b.1).symm, (Option.some.inj b.2.1).symm⟩
theorem ds_same {w : World} {b : Nat} {f l f' l' : Value} {n k n' k' : Nat} (h : Ds w b f l n k) (g : Ds w b f' l' n' k') : f' = f ∧ l' = l := by
  have a := h.four
  have b := g.four
  rw [a.1] at b
  rw [a.2.1] at b
  exact ⟨(Option.some.inj b.1).symm, (Option.some.inj b.2.1).symm⟩
theorem cut_any (w : World) (b c : Nat) (A B : List Chk) (ts : List ByteArray) (fr to : Nat) (hd : Dq0 w b (A ++ (c, ts) :: B)) (h1 : fr < to) (h2 : to ≤ ts.length) :
    Calls Tryz.prog 91 #[ptr b, ptr c, .int .i64 fr, .int .i64 to] w fun e w' => e = .returned (.tuple #[]) ∧ Dq0 w' b (cutC A c (ts.take fr ++ ts.drop to) B) ∧ Fd b (A ++ (c, ts) :: B) w w' (cutC A c (ts.take fr ++ ts.drop to) B) := by
  obtain ⟨d1, d2, d3, d4, d5⟩ := id hd
  obtain ⟨n1, n2, n3, n4, n5⟩ := nd_mem d3
  obtain ⟨cA, cC⟩ := ch_app.1 d2
  obtain ⟨X, hX, ht⟩ := cC.1.cx
  have hX32 := cC.1.le
  have hle : ts.length ≤ 32 := hX32
  have hcl := costL_le d4
  have hz : ∀ t ∈ ts, t.size ≤ 1048576 := fun t ht => d4 t (by rw [row_app, row_cons]; simp [ht])
  have e0 : costL (row (A ++ (c, ts) :: B)) = costL (row A) + (costL ts + costL (row B)) := by rw [row_app, row_cons, costL_app, costL_app]
  have e1 : costL ts = costL (ts.take fr) + costL (ts.drop fr) := by rw [← costL_app, List.take_append_drop]
  have e2 : costL (ts.drop fr) = costL ((ts.drop fr).take (to - fr)) + costL (ts.drop to) := by
    have := costL_app ((ts.drop fr).take (to - fr)) ((ts.drop fr).drop (to - fr))
    rw [List.take_append_drop, List.drop_drop, show fr + (to - fr) = to by omega] at this
    exact this
  have l0 : (row (A ++ (c, ts) :: B)).length = (row A).length + (ts.length + (row B).length) := by rw [row_app, row_cons, List.length_append, List.length_append]
  have hul : (ts.take fr ++ ts.drop to).length = fr + (ts.length - to) := by rw [List.length_append, List.length_take, List.length_drop]; omega
  have huc : costL (ts.take fr ++ ts.drop to) = costL (ts.take fr) + costL (ts.drop to) := costL_app _ _
  have huz : ∀ t ∈ ts.take fr ++ ts.drop to, t.size ≤ 1048576 := fun t h => by
    rcases List.mem_append.1 h with h | h
    · exact hz t (List.mem_of_mem_take h)
    · exact hz t (List.mem_of_mem_drop h)
  have hcut := cut_list (f := fr) hX.1 ht (Nat.le_of_lt h1) h2 hle (List.replicate (ts.length - (fr + (ts.length - to))) ByteArray.empty) (by rw [List.length_replicate])
  obtain ⟨left, hleft⟩ : ∃ x, x = fr + (ts.length - to) := ⟨_, rfl⟩
  rw [← hleft] at hcut hul
  obtain ⟨m, hm⟩ : ∃ x, x = (row (A ++ (c, ts) :: B)).length := ⟨_, rfl⟩
  obtain ⟨k, hk⟩ : ∃ x, x = costL (row (A ++ (c, ts) :: B)) := ⟨_, rfl⟩
  rw [← hm] at d1 l0 d5 hcl
  rw [← hk] at d1 e0 hcl
  obtain ⟨m', hm'⟩ : ∃ x, x = m - (to - fr) := ⟨_, rfl⟩
  obtain ⟨k', hk'⟩ : ∃ x, x = k - costL ((ts.drop fr).take (to - fr)) := ⟨_, rfl⟩
  generalize ts.take fr ++ ts.drop to = us at *
  have hrl : (row (cutC A c us B)).length = m' := by rw [cutC_row, List.length_append, List.length_append]; omega
  have hrc : costL (row (cutC A c us B)) = k' := by rw [cutC_row, costL_app, costL_app]; omega
  have hnd' : (b :: (A ++ B).map (·.1)).Nodup := by
    refine d3.sublist ?_
    rw [List.map_append, List.map_append, List.map_cons]
    exact (List.Sublist.append (List.Sublist.refl _) (List.sublist_cons_self _ _)).cons_cons _
  refine (cut_walk w b c _ _ _ _ ts.length m k X fr to ts hX d1 n1 h1 h2 hle (by omega) (by omega) (by omega) rfl ht hz (by omega) left m' k' (to - fr) hleft hm' rfl hk'
    (fun w' => Dq0 w' b (A ++ B) ∧ Fd b (A ++ (c, ts) :: B) w w' (A ++ B)) (fun h0 w5 hF => ?_)).mono ?_
  · obtain ⟨f1, f2, f3, f4, f5⟩ := hF
    have hA5 : Ch w5 nul A (hdv ((c, ts) :: B) nul) := cA.kept (fun x hx => f5 _ (n4 x hx) (n2 x hx))
    have hB5 : Ch w5 (ptr c) B nul := cC.2.kept (fun x hx => f5 _ (n5 x hx) (n3 x hx))
    refine (tie_ch w5 b A B _ _ m' k' nul _ _ nul f2 hA5 hB5 hnd').mono ?_
    rintro _ w' ⟨rfl, t1, t2, t3, t4, t5, t6⟩
    have hu0 : us.length = 0 := by omega
    have hce : cutC A c us B = A ++ B := by unfold cutC; rw [if_pos hu0]
    rw [hce] at hrl hrc
    refine ⟨rfl, ⟨?_, ch_app.2 ⟨t2, t3⟩, hnd', fun t h => d4 t ?_, by omega⟩, ⟨⟨⟨t4.1.trans f3.1, t4.2.1.trans f3.2.1, t4.2.2.trans f3.2.2⟩, by rw [t5, f4]; exact Nat.le_refl _, fun x hx hn => ?_⟩, fun x hx => ?_⟩⟩
    · rw [hrl, hrc]
      have g1 : hdv (A ++ B) nul = (if A.isEmpty then hdv B nul else hdv (A ++ (c, ts) :: B) nul) := by cases A <;> rfl
      have g2 : ltv (A ++ B) nul = (if B.isEmpty then ltv A nul else ltv (A ++ (c, ts) :: B) nul) := by
        rw [ltv_app, ltv_app]
        cases B <;> rfl
      rw [g1, g2]
      exact t1
    · rw [row_app] at h
      rw [row_app, row_cons]
      rcases List.mem_append.1 h with h | h
      · exact List.mem_append_left _ h
      · exact List.mem_append_right _ (List.mem_append_right _ h)
    · have hnb : x ≠ b := fun e => hn (.inl e)
      have hnc : x ≠ c := fun e => hn (.inr ⟨(c, ts), by simp, e.symm⟩)
      rw [t6 x (fun e => hn ?_), f5 x hnb hnc]
      rcases e with e | ⟨q, hq, e⟩
      · exact .inl e
      · rcases List.mem_append.1 hq with hq | hq
        · exact .inr ⟨q, by simp [hq], e⟩
        · exact .inr ⟨q, by simp [hq], e⟩
    · left
      rcases hx with e | ⟨q, hq, e⟩
      · exact .inl e
      · rcases List.mem_append.1 hq with hq | hq
        · exact .inr ⟨q, by simp [hq], e⟩
        · exact .inr ⟨q, by simp [hq], e⟩
  · rintro _ w' ⟨rfl, q1, q2⟩
    refine ⟨rfl, ?_⟩
    by_cases hl0 : left = 0
    · have hce : cutC A c us B = A ++ B := by unfold cutC; rw [if_pos (by omega)]
      rw [hce]
      exact q2 hl0
    · have hce : cutC A c us B = A ++ (c, us) :: B := by unfold cutC; rw [if_neg (by omega)]
      rw [hce] at hrl hrc ⊢
      obtain ⟨f1, f2, f3, f4, f5⟩ := q1 hl0
      refine dq_change hd (fun pv nv hck => ?_) (fun f l hds => ?_) huz (by omega) ⟨f3, f4⟩ f5
      · obtain ⟨rfl, rfl⟩ := ck_ties cC.1 hck
        exact f1.ck (by omega) hcut
      · obtain ⟨rfl, rfl⟩ := ds_same d1 hds
        rw [hrl, hrc]
        exact f2
end Go.Proofs.YtijclcedjgniaaaGreat.DQ

namespace Go.Proofs.YtijclcedjgniaaaGreat.DQ
open Go.RowKit Go.Shelf
set_option linter.unusedVariables false
theorem Fd.below_left {b : Nat} {cs cs' : List Chk} {w w1 w' : World} (h : Below w.heap.size w w1) (g : Fd b cs w1 w' cs') (hl : ∀ k, OwD b cs k → k < w.heap.size) : Fd b cs w w' cs' := Fd.trans (Fd.of_below h) g
/-- what is left behind a text is taken away -/
def Rem (cs : List Chk) (i : Nat) (cs' : List Chk) : Prop := ∃ A c ts B, At cs i A c ts B ∧ cs' = cutC A c (ts.take (i - (row A).length) ++ ts.drop (i - (row A).length + 1)) B
theorem Rem.rows {cs cs' : List Chk} {i : Nat} (h : Rem cs i cs') : row cs' = (row cs).take i ++ (row cs).drop (i + 1) := by
  obtain ⟨A, c, ts, B, ⟨h1, h2, h3⟩, rfl⟩ := h
  subst h1
  rw [cutC_row, row_app, row_cons]
  dsimp only
  rw [List.take_append, List.drop_append, List.take_append, List.drop_append]
  rw [List.take_of_length_le h2, List.drop_of_length_le (by omega : (row A).length ≤ i + 1)]
  rw [show i + 1 - (row A).length = i - (row A).length + 1 by omega]
  rw [show i - (row A).length - ts.length = 0 by omega, show i - (row A).length + 1 - ts.length = 0 by omega]
  simp
theorem Rem.ne {cs cs' : List Chk} {i : Nat} (h : Rem cs i cs') (hn : ∀ x ∈ cs, 1 ≤ x.2.length) : ∀ x ∈ cs', 1 ≤ x.2.length := by
  obtain ⟨A, c, ts, B, ⟨h1, h2, h3⟩, rfl⟩ := h
  subst h1
  intro x hx
  unfold cutC at hx
  split at hx
  · rcases List.mem_append.1 hx with hx | hx
    · exact hn x (by simp [hx])
    · exact hn x (by simp [hx])
  · rename_i h0
    rcases List.mem_append.1 hx with hx | hx
    · exact hn x (by simp [hx])
    · rcases List.mem_cons.1 hx with rfl | hx
      · exact Nat.one_le_iff_ne_zero.2 h0
      · exact hn x (by simp [hx])
set_option maxRecDepth 100000 in
set_option maxHeartbeats 1000000 in
theorem remove_in (w : World) (b : Nat) (cs : List Chk) (i : Nat) (hd : Dq w b cs) (hi : i < (row cs).length) :
    Calls Tryz.prog 80 #[ptr b, .int .i64 i] w fun e w' => e = .returned (.bool true) ∧ ∃ cs', Rem cs i cs' ∧ Dq w' b cs' ∧ Fd b cs w w' cs' := by
  have MF := keep (find_in w b cs i hd hi)
  have HD := keep hd
  have hN := hd.1.2.2.2.2
  have ib : (i : Int) ≤ 1048576 := by omega
  clear hd hi hN
  go_enter Tryz.func80, Tryz.ntmps80
  go_wp2_with fail
  refine MF.out.mono ?_
  rintro _ w1 ⟨⟨A, c, ts, B, hA, rfl⟩, hb⟩
  obtain ⟨h1, h2, h3⟩ := id hA
  have hd := HD.out.below hb
  subst h1
  obtain ⟨p, hp⟩ : ∃ p, p = i - (row A).length := ⟨_, rfl⟩
  have M := cut_any w1 b c A B ts p (p + 1) hd.1 (by omega) (by omega)
  rw [← hp]
  have pz : (p : Int) + 1 = ((p + 1 : Nat) : Int) := by omega
  rw [← pz] at M
  have pb : (p : Int) ≤ 1048576 := by omega
  have M := keep M
  have HP := keep hp
  have HA := keep hA
  have HB := keep hb
  clear hp hA hb hd h2 h3 pz MF
  go_wp2_with fail
  refine M.out.mono ?_
  rintro _ w2 ⟨rfl, g1, g2⟩
  have G1 := keep g1
  have G2 := keep g2
  clear g1 g2 M
  go_wp2
  go_ret
  have hr : Rem (A ++ (c, ts) :: B) i (cutC A c (ts.take p ++ ts.drop (p + 1)) B) := ⟨A, c, ts, B, HA.out, by rw [HP.out]⟩
  exact ⟨rfl, _, hr, ⟨G1.out, hr.ne HD.out.2⟩, Fd.trans (Fd.of_below HB.out) G2.out⟩
set_option maxRecDepth 100000 in
set_option maxHeartbeats 1000000 in
theorem remove_out (w : World) (bv : Value) (N : Nat) (i : Int) (hN : N ≤ 1048576) (hL : ∀ w1, Below w.heap.size w w1 → Calls Tryz.prog 78 #[bv] w1 fun e w' => e = .returned (.int .i64 (N : Nat)) ∧ w' = w1) (hi : i < 0 ∨ (N : Int) ≤ i) :
    Calls Tryz.prog 80 #[bv, .int .i64 i] w fun e w' => e = .returned (.bool false) ∧ Below w.heap.size w w' := by
  have MF := keep (find_out w bv N i hN hL hi)
  clear hL hi
  go_enter Tryz.func80, Tryz.ntmps80
  go_wp2_with fail
  refine MF.out.mono ?_
  rintro _ w1 ⟨rfl, hb⟩
  have HB := keep hb
  clear hb
  go_wp2
  go_ret
  exact ⟨rfl, HB.out⟩
set_option maxRecDepth 100000 in
set_option maxHeartbeats 1000000 in
/-- Pop of a row that has a text: the first, or the last -/
theorem pop_in (w : World) (b : Nat) (cs : List Chk) (first : Bool) (i : Nat) (hd : Dq w b cs) (s : ByteArray) (hi : i = if first then 0 else (row cs).length - 1) (hs : (row cs)[i]? = some s) :
    Calls Tryz.prog 34 #[ptr b, .bool first] w fun e w' => e = .returned (.tuple #[.string s, .bool true]) ∧ ∃ cs', Rem cs i cs' ∧ Dq w' b cs' ∧ Fd b cs w w' cs' := by
  have hl := (List.getElem?_eq_some_iff.1 hs).1
  have MA := keep (at_in w b cs i hd s hs)
  have MR := keep fun (w1 : World) (hb : Below w.heap.size w w1) => remove_in w1 b cs i (hd.below hb) hl
  have ML := keep (len_any w b _ _ _ _ hd.1.1)
  have hN := hd.1.2.2.2.2
  have HD := keep hd
  clear hd hs
  obtain ⟨N, hNN⟩ : ∃ N, N = (row cs).length := ⟨_, rfl⟩
  rw [← hNN] at hi hl hN ML
  have Nb : (N : Int) ≤ 1048576 := by omega
  have N1 : (1 : Int) ≤ (N : Int) := by omega
  clear hNN hN
  cases first with
  | true =>
    have hi0 : i = 0 := hi
    clear hi hl
    subst hi0
    have MA : Kept (Calls Tryz.prog 79 #[ptr b, .int .i64 0] w fun e w' => e = .returned (.tuple #[.string s, .bool true]) ∧ Below w.heap.size w w') := MA
    have MR : Kept (∀ w1, Below w.heap.size w w1 → Calls Tryz.prog 80 #[ptr b, .int .i64 0] w1 fun e w' => e = .returned (.bool true) ∧ ∃ cs', Rem cs 0 cs' ∧ Dq w' b cs' ∧ Fd b cs w1 w' cs') := MR
    go_enter Tryz.func34, Tryz.ntmps34
    go_wp2_with fail
    refine MA.out.mono ?_
    rintro _ w1 ⟨rfl, hb⟩
    have M := keep (MR.out w1 hb)
    have HB := keep hb
    clear hb
    go_wp2_with fail
    refine M.out.mono ?_
    rintro _ w2 ⟨rfl, cs', r1, r2, r3⟩
    have R := keep (And.intro r1 (And.intro r2 r3))
    clear r1 r2 r3
    go_wp2
    go_ret2
    exact ⟨rfl, cs', R.out.1, R.out.2.1, Fd.trans (Fd.of_below HB.out) R.out.2.2⟩
  | false =>
    have hi0 : i = N - 1 := hi
    have iz : (N : Int) - 1 = (i : Int) := by omega
    clear hi hi0 hl
    go_enter Tryz.func34, Tryz.ntmps34
    go_wp2_with fail
    refine ML.out.mono ?_
    rintro _ w0 ⟨rfl, hw⟩
    obtain rfl := hw.symm
    go_wp2_with fail
    refine MA.out.mono ?_
    rintro _ w1 ⟨rfl, hb⟩
    have M := keep (MR.out w1 hb)
    have HB := keep hb
    clear hb
    go_wp2_with fail
    refine M.out.mono ?_
    rintro _ w2 ⟨rfl, cs', r1, r2, r3⟩
    have R := keep (And.intro r1 (And.intro r2 r3))
    clear r1 r2 r3
    go_wp2
    go_ret2
    exact ⟨rfl, cs', R.out.1, R.out.2.1, Fd.trans (Fd.of_below HB.out) R.out.2.2⟩
set_option maxRecDepth 100000 in
set_option maxHeartbeats 1000000 in
/-- Pop of a row of no texts, and of none at all -/
theorem pop_out (w : World) (bv : Value) (first : Bool) (hL : ∀ w1, Below w.heap.size w w1 → Calls Tryz.prog 78 #[bv] w1 fun e w' => e = .returned (.int .i64 (0 : Nat)) ∧ w' = w1) :
    Calls Tryz.prog 34 #[bv, .bool first] w fun e w' => e = .returned (.tuple #[.string .empty, .bool false]) ∧ Below w.heap.size w w' := by
  have ML := keep (hL w (Below.refl _ _))
  have MA := keep fun (i : Int) (hi : i < 0 ∨ ((0 : Nat) : Int) ≤ i) => at_out w bv 0 i (by decide) hL hi
  have MR := keep fun (w1 : World) (hb : Below w.heap.size w w1) (i : Int) (hi : i < 0 ∨ ((0 : Nat) : Int) ≤ i) => remove_out w1 bv 0 i (by decide) (fun w2 hb2 => hL w2 (hb.trans (hb2.mono hb.size))) hi
  clear hL
  cases first with
  | true =>
    go_enter Tryz.func34, Tryz.ntmps34
    go_wp2_with fail
    refine (MA.out 0 (by omega)).mono ?_
    rintro _ w1 ⟨rfl, hb⟩
    have M := keep (MR.out w1 hb 0 (by omega))
    have HB := keep hb
    clear hb
    go_wp2_with fail
    refine M.out.mono ?_
    rintro _ w2 ⟨rfl, hb2⟩
    have HB2 := keep (HB.out.trans (hb2.mono HB.out.size))
    clear hb2
    go_wp2
    go_ret2
    exact ⟨rfl, HB2.out⟩
  | false =>
    go_enter Tryz.func34, Tryz.ntmps34
    go_wp2_with fail
    refine ML.out.mono ?_
    rintro _ w0 ⟨rfl, hw⟩
    obtain rfl := hw.symm
    go_wp2_with fail
    refine (MA.out (-1) (by omega)).mono ?_
    rintro _ w1 ⟨rfl, hb⟩
    have M := keep (MR.out w1 hb (-1) (by omega))
    have HB := keep hb
    clear hb
    go_wp2_with fail
    refine M.out.mono ?_
    rintro _ w2 ⟨rfl, hb2⟩
    have HB2 := keep (HB.out.trans (hb2.mono HB.out.size))
    clear hb2
    go_wp2
    go_ret2
    exact ⟨rfl, HB2.out⟩
end Go.Proofs.YtijclcedjgniaaaGreat.DQ
