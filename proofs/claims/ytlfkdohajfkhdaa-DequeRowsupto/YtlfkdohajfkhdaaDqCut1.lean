/-
  Contracts over this program: cut's own walk.
-/
import Derived.Test.YtlfkdohajfkhdaaDqCut
namespace Go.Proofs.Ytlfkdohajfkhdaa
open Go.RowKit Go.Shelf
set_option linter.unusedVariables false
/-- the deque and the chunk behind a cut, ahead of what is done where no text is left -/
def CutF (w : World) (b c : Nat) (pv nv f l : Value) (m k n : Nat) (X : List ByteArray) (w' : World) : Prop :=
  Cx w' c pv nv n X ∧ Ds w' b f l m k ∧ (w'.os = w.os ∧ w'.tape = w.tape ∧ w'.output = w.output) ∧ w'.heap.size = w.heap.size ∧ ∀ x, x ≠ b → x ≠ c → w'.heap[x]? = w.heap[x]?
theorem CutF.drewN {w : World} {b c : Nat} {pv nv f l : Value} {m k n : Nat} {X : List ByteArray} {w' : World} (h : CutF w b c pv nv f l m k n X w') (q : Nat) : CutF w b c pv nv f l m k n X (w'.drewN q) := h
theorem costL_take {l : List ByteArray} {j : Nat} {s : ByteArray} (h : l[j]? = some s) : costL (l.take (j + 1)) = costL (l.take j) + (16 + s.size) := by
  rw [List.take_add_one, h, costL_app]
  rfl
theorem costL_part (l : List ByteArray) (j : Nat) : costL (l.take j) ≤ costL l := by
  have := costL_app (l.take j) (l.drop j)
  rw [List.take_append_drop] at this
  omega
set_option maxRecDepth 100000 in
set_option maxHeartbeats 8000000 in
theorem cut_walk (w : World) (b c : Nat) (pv nv f l : Value) (n m k : Nat) (X : List ByteArray) (fr to : Nat) (ts : List ByteArray) (hc : Cx w c pv nv n X) (hd : Ds w b f l m k) (hbc : b ≠ c) (h1 : fr < to) (h2 : to ≤ n) (hn : n ≤ 32) (hm : m ≤ 1048576) (hnm : n ≤ m) (hk : k ≤ 2000000000000) (hts : ts.length = n) (ht : X.take n = ts) (hz : ∀ t ∈ ts, t.size ≤ 1048576) (hkl : costL (ts.drop fr) ≤ k)
    (left m' k' T : Nat) (hl : left = fr + (n - to)) (hm' : m' = m - (to - fr)) (hT : T = to - fr) (hk' : k' = k - costL ((ts.drop fr).take T)) (R : World → Prop)
    (hR : left = 0 → ∀ w5, CutF w b c pv nv f l m' k' left (layS (layS X fr (ts.drop to)) left (List.replicate (n - left) ByteArray.empty)) w5 → Calls Try.prog 57 #[ptr b, pv, nv] w5 fun e w' => e = .returned (.tuple #[]) ∧ R w') :
    Calls Try.prog 54 #[ptr b, ptr c, .int .i64 fr, .int .i64 to] w fun e w' => e = .returned (.tuple #[]) ∧ (left ≠ 0 → CutF w b c pv nv f l m' k' left (layS (layS X fr (ts.drop to)) left (List.replicate (n - left) ByteArray.empty)) w') ∧ (left = 0 → R w') := by
  have sB := fun w => sl_part w c fr to (Nat.le_of_lt h1) (by omega)
  rw [show sla c fr = ⟨c, 3 + fr, none⟩ by unfold sla; rw [if_neg (by omega)], ← hT] at sB
  have MC := keep fun (s : ByteArray) (hs : s.size ≤ 1048576) w => costof_any w s (by unfold maxLen; omega)
  have HC := keep hc
  have HD := keep hd
  have HZ := keep hz
  have HTS := keep hts
  have HTT := keep ht
  have HKL := keep hkl
  have HT := keep hT
  have HK' := keep hk'
  have HL := keep hl
  have HM' := keep hm'
  have HR := keep hR
  have hTb : (T : Int) ≤ 32 := by omega
  have frb : (fr : Int) ≤ 32 := by omega
  have z3 : ∃ z, z = 32 - fr := ⟨_, rfl⟩
  obtain ⟨z3, hz3⟩ := z3
  rw [← hz3] at sB
  clear hc hd hz hts ht hkl hk' hl hm' hR hz3 hT
  go_enter Try.func54, Try.ntmps54
  go_wp2
  go_loopw [18] (fun i wr => ∃ j : Nat, j ≤ T ∧ i = .int .i64 j ∧ Kept (Ob b w wr) ∧ Kept (Ds wr b f l m (k - costL ((ts.drop fr).take j)))) (fun i _ => T - (intOf i).toNat)
  case atStart => exact ⟨0, Nat.zero_le _, rfl, Ob.refl _ _, HD⟩
  case round =>
    obtain ⟨j, hj, rfl, KO, KD⟩ := hrel
    by_cases hlt : j < T
    · have hzj : (j : Int) < (T : Int) := by omega
      have hzj0 : (0 : Int) ≤ (j : Int) := by omega
      have hjl : fr + j < ts.length := by have := HT.out; rw [HTS.out]; omega
      obtain ⟨s, hs⟩ : ∃ s, ts[fr + j]? = some s := ⟨_, List.getElem?_eq_getElem hjl⟩
      have hgs : (ts.drop fr)[j]? = some s := by rw [List.getElem?_drop]; exact hs
      have hXs : X[fr + j]? = some s := by
        have h := hs
        rw [← HTT.out, List.getElem?_take, if_pos (by have := HTS.out; omega)] at h
        exact h
      have hsz := HZ.out s (List.mem_of_getElem? hs)
      have hct := costL_take hgs
      have hcp := costL_part (ts.drop fr) (j + 1)
      have hkl := HKL.out
      have cx : wr.cell? ⟨c, 3 + fr + j, none⟩ = some (.string s) := by
        have := HC.out.cells.2.2.2.1 (fr + j) s hXs
        rw [← Nat.add_assoc] at this
        rw [← this]
        exact World.cell?_of_block (KO.out.2.2 c hbc.symm)
      obtain ⟨kj, hkj⟩ : ∃ x, x = k - costL ((ts.drop fr).take j) := ⟨_, rfl⟩
      obtain ⟨kj1, hkj1⟩ : ∃ x, x = k - costL ((ts.drop fr).take (j + 1)) := ⟨_, rfl⟩
      rw [← hkj] at KD
      have hkk : (kj : Int) - ((16 + s.size : Nat) : Int) = (kj1 : Int) := by omega
      have kd := KD.out.four.2.2.2.1
      have kf := KD.out.four.2.2.2.2 3
      have M1 := MC.out s hsz
      obtain ⟨sz, hsz'⟩ : ∃ z, z = 16 + s.size := ⟨_, rfl⟩
      rw [← hsz'] at M1 hkk
      have M1 := keep M1
      have q5 : IntKind.i64.wrap (kj1 : Int) = (kj1 : Int) := by rw [IntKind.wrap_i64]; omega
      have KD1 : Kept (Ds (wr.setCell ⟨b, 3, none⟩ (.int .i64 (kj1 : Nat))) b f l m (k - costL ((ts.drop fr).take (j + 1)))) := by show Ds _ _ _ _ _ _; rw [← hkj1]; exact KD.out.set3 kj1
      have KO1 := keep (KO.out.trans (Ob.set b 3 wr (.int .i64 (kj1 : Nat))))
      clear hgs hXs hct hcp hkl hkj hkj1 hsz' KD hjl hs
      go_wp2_with fail
      go_region_with (first | (go_at_call 61; refine (M1.out _).mono ?_; rintro _ _ ⟨rfl, rfl⟩))
      all_goals
        go_wp2
        go_roundw
        case measure => simp [intOf]; omega
        case rel => exact ⟨j + 1, by omega, by go_num, KO1.out.drew, KD1⟩
    · obtain rfl : j = T := by omega
      have hzj : ¬ (j : Int) < (j : Int) := by omega
      rw [← HK'.out] at KD
      have kd := KD.out.four.2.2.1
      have kf := KD.out.four.2.2.2.2 2
      have mz : (m : Int) - ((to : Int) - (fr : Int)) = (m' : Int) := by have := HM'.out; omega
      have KD2 := keep (KD.out.set2 m')
      have KO2 := keep (KO.out.trans (Ob.set b 2 wr (.int .i64 (m' : Nat))))
      obtain ⟨w2, hw2⟩ : ∃ x, x = wr.setCell ⟨b, 2, none⟩ (.int .i64 (m' : Nat)) := ⟨_, rfl⟩
      rw [← hw2] at KD2 KO2
      have hc2 : Cx w2 c pv nv n X := ⟨HC.out.1, (KO2.out.2.2 c hbc.symm).trans HC.out.2⟩
      have hll := HL.out
      have c2c := hc2.cells.2.2.1
      have ct := hc2.cells.2.2.2.1
      have cf := hc2.cells.2.2.2.2
      have hcp : (Builtin.copy_ #[32, 32] 3 #[.slice (some ⟨c, 3 + fr, none⟩) (32 - fr) (32 - fr), .slice (some (sla c to)) (n - to) (32 - to)]).run Try.prog w2.drew = .ok (goInt (n - to : Nat)) (w2.drew.setCells c (3 + fr) ((ts.drop to).map Value.string)) := by
        by_cases h32 : n - to = 0
        · have e1 : ts.drop to = [] := List.drop_of_length_le (by rw [HTS.out]; omega)
          rw [h32, e1]
          exact run_copy_none (P := Try.prog) w2.drew 32 32 3 9 _ _ _ _ _ _ Try.underlying32 info_str (Nat.zero_min _)
        · rw [show sla c to = ⟨c, 3 + to, none⟩ by unfold sla; rw [if_neg (by omega)]]
          have h := run_copy_cells (P := Try.prog) w2.drew 32 32 3 9 c (3 + fr) (32 - fr) (32 - fr) ⟨c, 3 + to, none⟩ (n - to) (32 - to) ((ts.drop to).map Value.string) Try.underlying32 info_str (by rw [List.length_map, List.length_drop, HTS.out]; exact (Nat.min_eq_left (by omega)).symm) (fun j v hv => by
            have hj : j < n - to := by have := (List.getElem?_eq_some_iff.1 hv).1; rw [List.length_map, List.length_drop, HTS.out] at this; omega
            rw [show (⟨c, 3 + to, none⟩ : Addr).add j = ⟨c, 3 + (to + j), none⟩ by unfold Addr.add; split <;> simp_all <;> omega]
            rw [List.getElem?_map, List.getElem?_drop, ← HTT.out, List.getElem?_take, if_pos (by omega)] at hv
            rw [List.getElem?_eq_getElem (by rw [HC.out.1]; omega)] at hv
            have := ct (to + j) _ (List.getElem?_eq_getElem (by rw [HC.out.1]; omega))
            show w2.cell? _ = _
            rw [this]
            simpa using hv) (fun j hj => by
            rw [List.length_map, List.length_drop, HTS.out] at hj
            have := ct (fr + j) _ (List.getElem?_eq_getElem (by rw [HC.out.1]; omega))
            rw [show 3 + fr + j = 3 + (fr + j) by omega]
            show (w2.cell? _).isSome = true
            rw [this]; rfl) (fun j hj => cf _) (fun v hv => by obtain ⟨x, _, rfl⟩ := List.mem_map.1 hv; rfl)
          rw [List.length_map, List.length_drop, HTS.out] at h
          exact h
      have g3 := Cx.setTs (w := w2.drew) (ts.drop to) fr (show Cx w2.drew c pv nv n X from hc2)
      obtain ⟨w3, hw3⟩ : ∃ x, x = w2.drew.setCells c (3 + fr) ((ts.drop to).map Value.string) := ⟨_, rfl⟩
      rw [← hw3] at hcp g3
      have hcl := clear_any w3.drew c pv nv n _ g3 left (n - left) (32 - left) (by omega) 0
      have g4 := Cx.setTs (w := w3.drew) (List.replicate (n - left) ByteArray.empty) left (show Cx w3.drew c pv nv n _ from g3)
      obtain ⟨w4, hw4⟩ : ∃ x, x = w3.drew.setCells c (3 + left) ((List.replicate (n - left) ByteArray.empty).map Value.string) := ⟨_, rfl⟩
      rw [← hw4] at hcl g4
      have c3 := g3.cells.2.2.1
      have c4 := g4.cells.2.2.1
      have f4 := g4.cells.2.2.2.2 2
      have g5 := g4.setN left
      have s1 := fun w => sl_from w c fr (fr : Int) rfl (by omega)
      have s2 := fun w => sl_part w c to n h2 hn
      have s3 := fun w => sl_part w c left n (by omega) hn
      rw [show sla c fr = ⟨c, 3 + fr, none⟩ by unfold sla; rw [if_neg (by omega)]] at s1
      have lz : (fr : Int) + ((n - to : Nat) : Int) = (left : Int) := by omega
      have lb : (left : Int) ≤ 32 := by omega
      have hF : Kept (CutF w b c pv nv f l m' k' left (layS (layS X fr (ts.drop to)) left (List.replicate (n - left) ByteArray.empty)) (w4.setCell ⟨c, 2, none⟩ (.int .i64 (left : Nat)))) := by
        obtain ⟨a1, a2, a3, a4⟩ := setCells_same ((ts.drop to).map Value.string) (3 + fr) w2.drew c
        obtain ⟨b1, b2, b3, b4⟩ := setCells_same ((List.replicate (n - left) ByteArray.empty).map Value.string) (3 + left) w3.drew c
        rw [← hw3] at a1 a2 a3 a4
        rw [← hw4] at b1 b2 b3 b4
        have ho := KO2.out
        refine ⟨g5, ?_, ⟨b2.trans (a2.trans ho.1.1), b3.trans (a3.trans ho.1.2.1), b4.trans (a4.trans ho.1.2.2)⟩, ?_, fun x hxb hxc => ?_⟩
        · refine Ds.other ?_ hbc
          show w4.heap[b]? = _
          rw [hw4, setCells_other hbc]
          show w3.heap[b]? = _
          rw [hw3, setCells_other hbc]
          exact KD2.out
        · rw [set_size]; exact b1.trans (a1.trans ho.2.1)
        · rw [Below.heap_setCell _ _ _ _ hxc, hw4, setCells_other hxc]
          show w3.heap[x]? = _
          rw [hw3, setCells_other hxc]
          exact ho.2.2 x hxb
      obtain ⟨w5, hw5⟩ : ∃ x, x = w4.setCell ⟨c, 2, none⟩ (.int .i64 (left : Nat)) := ⟨_, rfl⟩
      rw [← hw5] at hF
      obtain ⟨v1, hv1⟩ : ∃ x, x = 32 - fr := ⟨_, rfl⟩
      obtain ⟨v2, hv2⟩ : ∃ x, x = 32 - to := ⟨_, rfl⟩
      obtain ⟨v3, hv3⟩ : ∃ x, x = n - to := ⟨_, rfl⟩
      obtain ⟨v4, hv4⟩ : ∃ x, x = n - left := ⟨_, rfl⟩
      obtain ⟨v5, hv5⟩ : ∃ x, x = 32 - left := ⟨_, rfl⟩
      rw [← hv1] at s1 hcp
      rw [← hv2] at s2 hcp
      rw [← hv3] at s2 hcp lz
      rw [← hv4] at s3 hcl
      rw [← hv5] at s3 hcl
      have HR2 := keep fun h0 => HR.out h0
      have c5 := hF.out.1.cells.1
      have c6 := hF.out.1.cells.2.1
      clear hc2 hll ct cf hw3 hw4 g3 g4 g5 hv1 hv2 hv3 hv4 hv5 KD KO KD2 KO2
      go_wp2_with fail
      rw [← hw2]
      clear hw2 kd kf
      go_region
      clear hcp s1 s2 sB
      go_wp2_with fail
      go_region
      clear hcl s3 c3
      by_cases hl0 : left = 0
      · have e0 : ((left : Int) == 0) = true := beq_iff_eq.2 (by omega)
        have M := keep (HR2.out hl0 w5.drew hF.out)
        have HL0 := keep hl0
        clear hl0
        go_wp2_with fail
        rw [← hw5]
        clear hw5 c4 f4
        go_region_with (first | (go_at_call 57; refine Calls.mono M.out ?_; rintro _ w6 ⟨rfl, hr6⟩; have R6 := keep hr6; clear hr6))
        all_goals
          go_wp2
          go_end0
          exact ⟨rfl, fun h => absurd HL0.out h, fun _ => R6.out⟩
      · have e0 : ((left : Int) == 0) = false := beq_eq_false_iff_ne.2 (by omega)
        go_wp2
        go_end0
        exact ⟨rfl, fun _ => by rw [← hw5]; exact hF.out, fun h => absurd h hl0⟩
end Go.Proofs.Ytlfkdohajfkhdaa
