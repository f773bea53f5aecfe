/-
  Contracts over this program: all rows of the document's own table.
-/
import Derived.Test.YtaflggjgndkdlaaDoorVbRef2
import Derived.Deep.Cut
import Derived.Deep.CutRange
import Derived.Deep.RegionHeld
import Derived.Deep.RegionHeld3
import Derived.OrdersHeld
import Derived.Great.BuildSlice
namespace Go.Proofs.YtaflggjgndkdlaaDoor
open Go.RowKit
set_option linter.unusedVariables false
set_option maxRecDepth 100000 in
theorem lit_is : (⟨((((([50, 32, 48, 32, 49, 32, 49, 32, 49, 32, 71, 69, 84, 32, 72, 71, 69, 84, 65, 76, 76, 32, 72, 75, 69, 89, 83, 32, 72, 76, 69, 78, 32, 72, 86, 65, 76].append [83, 32, 76, 76, 69, 78, 32, 80, 84, 84, 76, 32, 83, 67, 65, 82, 68, 32, 83, 77, 69, 77, 66, 69, 82, 83, 32, 83, 84, 82, 76, 69, 78, 32, 84, 84, 76, 32]).append ([84, 89, 80, 69, 32, 90, 67, 65, 82, 68, 10, 45, 51, 32, 51, 32, 49, 32, 49, 32, 49, 32, 76, 80, 85, 83, 72, 32, 76, 80, 85, 83, 72, 88, 32, 82, 80].append [85, 83, 72, 32, 82, 80, 85, 83, 72, 88, 32, 83, 65, 68, 68, 32, 83, 69, 84, 10, 51, 32, 51, 32, 49, 32, 49, 32, 49, 32, 65, 80, 80, 69, 78, 68, 32, 68])).append (([69, 67, 82, 66, 89, 32, 69, 88, 80, 73, 82, 69, 32, 69, 88, 80, 73, 82, 69, 65, 84, 32, 71, 69, 84, 83, 69, 84, 32, 73, 78, 67, 82, 66, 89, 32, 73].append [78, 67, 82, 66, 89, 70, 76, 79, 65, 84, 32, 80, 69, 88, 80, 73, 82, 69, 32, 80, 69, 88, 80, 73, 82, 69, 65, 84, 32, 83, 69, 84, 78, 88, 10, 50, 32, 49]).append ([32, 49, 32, 49, 32, 49, 32, 71, 69, 84, 68, 69, 76, 32, 80, 69, 82, 83, 73, 83, 84, 10, 45, 50, 32, 48, 32, 49, 32, 45, 49, 32, 49, 32, 69, 88, 73].append [83, 84, 83, 32, 77, 71, 69, 84, 32, 83, 68, 73, 70, 70, 32, 83, 73, 78, 84, 69, 82, 32, 83, 85, 78, 73, 79, 78, 32, 84, 79, 85, 67, 72, 10, 45, 51, 32]))).append ((([51, 32, 49, 32, 45, 49, 32, 50, 32, 77, 83, 69, 84, 32, 77, 83, 69, 84, 78, 88, 10, 50, 32, 51, 32, 49, 32, 49, 32, 49, 32, 68, 69, 67, 82, 32, 73].append [78, 67, 82, 10, 52, 32, 48, 32, 49, 32, 49, 32, 49, 32, 71, 69, 84, 82, 65, 78, 71, 69, 32, 76, 82, 65, 78, 71, 69, 32, 90, 67, 79, 85, 78, 84, 10, 52]).append ([32, 51, 32, 49, 32, 49, 32, 49, 32, 72, 73, 78, 67, 82, 66, 89, 32, 72, 73, 78, 67, 82, 66, 89, 70, 76, 79, 65, 84, 32, 72, 83, 69, 84, 78, 88, 32].append [76, 83, 69, 84, 32, 83, 69, 84, 66, 73, 84, 32, 83, 69, 84, 82, 65, 78, 71, 69, 32, 90, 73, 78, 67, 82, 66, 89, 10, 51, 32, 48, 32, 49, 32, 49, 32, 49])).append (([32, 71, 69, 84, 66, 73, 84, 32, 72, 69, 88, 73, 83, 84, 83, 32, 72, 71, 69, 84, 32, 72, 83, 84, 82, 76, 69, 78, 32, 76, 73, 78, 68, 69, 88, 32, 83].append [73, 83, 77, 69, 77, 66, 69, 82, 32, 90, 82, 65, 78, 75, 32, 90, 82, 69, 86, 82, 65, 78, 75, 32, 90, 83, 67, 79, 82, 69, 10, 45, 50, 32, 48, 32, 49, 32]).append ([49, 32, 49, 32, 66, 73, 84, 67, 79, 85, 78, 84, 32, 72, 82, 65, 78, 68, 70, 73, 69, 76, 68, 32, 83, 82, 65, 78, 68, 77, 69, 77, 66, 69, 82, 10, 45].append [50, 32, 49, 32, 49, 32, 49, 32, 49, 32, 76, 80, 79, 80, 32, 82, 80, 79, 80, 32, 83, 80, 79, 80, 32, 90, 80, 79, 80, 77, 65, 88, 32, 90, 80, 79, 80, 77])))).append (((([73, 78, 10, 53, 32, 51, 32, 49, 32, 49, 32, 49, 32, 76, 73, 78, 83, 69, 82, 84, 10, 52, 32, 49, 32, 49, 32, 49, 32, 49, 32, 76, 82, 69, 77, 32, 76].append [84, 82, 73, 77, 32, 90, 82, 69, 77, 82, 65, 78, 71, 69, 66, 89, 82, 65, 78, 75, 32, 90, 82, 69, 77, 82, 65, 78, 71, 69, 66, 89, 83, 67, 79, 82, 69, 10]).append ([53, 32, 51, 32, 49, 32, 50, 32, 49, 32, 76, 77, 79, 86, 69, 10, 45, 51, 32, 48, 32, 49, 32, 49, 32, 49, 32, 72, 77, 71, 69, 84, 32, 72, 83, 67, 65].append [78, 32, 76, 80, 79, 83, 32, 83, 77, 73, 83, 77, 69, 77, 66, 69, 82, 32, 83, 83, 67, 65, 78, 32, 90, 77, 83, 67, 79, 82, 69, 10, 45, 52, 32, 51, 32, 49])).append (([32, 49, 32, 49, 32, 72, 83, 69, 84, 32, 90, 65, 68, 68, 10, 45, 51, 32, 49, 32, 49, 32, 49, 32, 49, 32, 72, 68, 69, 76, 32, 83, 82, 69, 77, 32, 90].append [82, 69, 77, 10, 52, 32, 51, 32, 49, 32, 50, 32, 49, 32, 83, 77, 79, 86, 69, 10, 45, 51, 32, 51, 32, 49, 32, 45, 49, 32, 49, 32, 83, 68, 73, 70, 70, 83]).append ([84, 79, 82, 69, 32, 83, 73, 78, 84, 69, 82, 83, 84, 79, 82, 69, 32, 83, 85, 78, 73, 79, 78, 83, 84, 79, 82, 69, 10, 45, 52, 32, 48, 32, 49, 32, 49].append [32, 49, 32, 90, 82, 65, 78, 71, 69, 32, 90, 82, 65, 78, 71, 69, 66, 89, 83, 67, 79, 82, 69, 10, 45, 50, 32, 49, 32, 49, 32, 45, 49, 32, 49, 32, 68, 69]))).append ((([76, 10, 51, 32, 51, 32, 49, 32, 50, 32, 49, 32, 82, 69, 78, 65, 77, 69, 32, 82, 69, 78, 65, 77, 69, 78, 88, 10, 45, 51, 32, 51, 32, 49, 32, 50, 32].append [49, 32, 67, 79, 80, 89, 10, 50, 32, 48, 32, 48, 32, 48, 32, 48, 32, 69, 67, 72, 79, 32, 75, 69, 89, 83, 10, 45, 50, 32, 48, 32, 48, 32, 48, 32, 48, 32]).append ([83, 67, 65, 78, 10, 49, 32, 48, 32, 48, 32, 48, 32, 48, 32, 68, 66, 83, 73, 90, 69, 32, 82, 65, 78, 68, 79, 77, 75, 69, 89, 32, 85, 78, 87, 65, 84].append [67, 72, 10, 49, 32, 49, 32, 48, 32, 48, 32, 48, 32, 70, 76, 85, 83, 72, 65, 76, 76, 10, 45, 49, 32, 56, 32, 48, 32, 48, 32, 48, 32, 80, 73, 78, 71, 10])).append (([49, 32, 49, 50, 32, 48, 32, 48, 32, 48, 32, 81, 85, 73, 84, 10, 49, 32, 52, 32, 48, 32, 48, 32, 48, 32, 68, 73, 83, 67, 65, 82, 68, 32, 69, 88, 69].append [67, 32, 77, 85, 76, 84, 73, 10, 45, 50, 32, 52, 32, 49, 32, 45, 49, 32, 49, 32, 87, 65, 84, 67, 72, 10, 45, 50, 32, 49, 50, 32, 48, 32, 48, 32, 48, 32]).append ([80, 83, 85, 66, 83, 67, 82, 73, 66, 69, 32, 83, 85, 66, 83, 67, 82, 73, 66, 69, 10, 45, 49, 32, 49, 50, 32, 48, 32, 48, 32, 48, 32, 80, 85, 78, 83].append [85, 66, 83, 67, 82, 73, 66, 69, 32, 85, 78, 83, 85, 66, 83, 67, 82, 73, 66, 69, 10, 51, 32, 48, 32, 48, 32, 48, 32, 48, 32, 80, 85, 66, 76, 73, 83, 72]))))).toArray⟩ : ByteArray) = refB := by kernel_rfl
theorem en_le : (List.range 35).all (fun k => decide (en k ≤ 1200)) = true := by decide +kernel
theorem line_facts {k : Nat} (hk : k < 35) : (refL.drop (st k)).take (lineK k).length = lineK k ∧ (10 : UInt8) ∉ lineK k ∧ (if k = 34 then en k = 1200 else refL[en k]? = some 10) ∧ en k ≤ 1200 := by
  have h := List.all_eq_true.1 line_ok k (List.mem_range.2 hk)
  have h2 := List.all_eq_true.1 en_le k (List.mem_range.2 hk)
  simp only [Bool.and_eq_true, beq_iff_eq, Bool.not_eq_true', List.contains_eq_mem, decide_eq_false_iff_not] at h
  refine ⟨h.1.1, h.1.2, ?_, of_decide_eq_true h2⟩
  have h3 := h.2
  by_cases e : k = 34
  · rw [if_pos e] at h3 ⊢; simpa using h3
  · rw [if_neg e] at h3 ⊢; simpa using h3
theorem line_at {k i : Nat} (hk : k < 35) (h1 : st k ≤ i) (h2 : i < en k) : ∃ c : UInt8, refL[i]? = some c ∧ c ≠ 10 := by
  obtain ⟨q1, q2, _, _⟩ := line_facts hk
  have hj : i - st k < (lineK k).length := by unfold en at h2; omega
  have e := List.getElem?_eq_getElem hj
  refine ⟨_, ?_, fun h => q2 (h ▸ List.getElem_mem hj)⟩
  rw [← e]
  conv => rhs; rw [← q1]
  rw [List.getElem?_take_of_lt hj, List.getElem?_drop, show st k + (i - st k) = i by omega]
/-- the words of a line: five numbers, then the names -/
theorem line_words {k : Nat} (hk : k < 35) {ks : List UInt8} {r : Vb.Row} (hK : Vb.kinL[k]? = some (ks, r)) : ∃ q0 q1 q2 q3 q4 : List UInt8, Vb.pieces (lineK k) = q0 :: q1 :: q2 :: q3 :: q4 :: Vb.pieces ks ∧ (numV q0 = r.1 ∧ numV q1 = r.2.1 ∧ numV q2 = r.2.2.1 ∧ numV q3 = r.2.2.2.1 ∧ numV q4 = r.2.2.2.2) ∧ (∀ q, q = q0 ∨ q = q1 ∨ q = q2 ∨ q = q3 ∨ q = q4 → 1 ≤ q.length ∧ q.length ≤ 4) ∧ (lineK k).length ≤ 2000 := by
  have h := List.all_eq_true.1 words_ok k (List.mem_range.2 hk)
  have hg : Vb.kinL.getD k ([], Vb.zeroR) = (ks, r) := by rw [List.getD_eq_getElem?_getD, hK]; rfl
  rw [hg] at h
  simp only [Bool.and_eq_true, beq_iff_eq, List.all_eq_true, decide_eq_true_eq] at h
  obtain ⟨⟨⟨h1, h2⟩, h3⟩, h4⟩ := h
  generalize Vb.pieces (lineK k) = L at h1 h2 h3 ⊢
  match L, h1, h2, h3 with
  | q0 :: q1 :: q2 :: q3 :: q4 :: rest, h1, h2, h3 =>
    simp only [List.take_succ_cons, List.take_zero, List.map_cons, List.map_nil, List.cons.injEq, and_true] at h2
    refine ⟨q0, q1, q2, q3, q4, ?_, h2, fun q hq => h3 q ?_, h4⟩
    · have : rest = Vb.pieces ks := h1
      rw [this]
    · simp only [List.take_succ_cons, List.take_zero, List.mem_cons, List.not_mem_nil, or_false]
      exact hq
  | [], _, h2, _ => exact absurd h2 (by simp)
  | [_], _, h2, _ => exact absurd h2 (by simp)
  | [_, _], _, h2, _ => exact absurd h2 (by simp)
  | [_, _, _], _, h2, _ => exact absurd h2 (by simp)
  | [_, _, _, _], _, h2, _ => exact absurd h2 (by simp)
def named (ks : List UInt8) (r : Vb.Row) (m : Nat) : List (ByteArray × Vb.Row) := ((Vb.pieces ks).take m).map fun u => (Vb.ofL u, r)
theorem rowsK_succ {k : Nat} {ks : List UInt8} {r : Vb.Row} (hK : Vb.kinL[k]? = some (ks, r)) : rowsK (k + 1) = rowsK k ++ named ks r (Vb.pieces ks).length := by
  unfold rowsK named
  rw [List.take_add_one, hK, List.take_length]
  simp
theorem named_succ {ks : List UInt8} {r : Vb.Row} {m : Nat} {u : List UInt8} (h : (Vb.pieces ks)[m]? = some u) : named ks r (m + 1) = named ks r m ++ [(Vb.ofL u, r)] := by
  unfold named
  rw [List.take_add_one, h]
  simp
theorem rows_few : (List.range 36).all (fun k => decide ((rowsK k).length ≤ 2000)) = true := by decide +kernel
theorem kin_few : (List.range 35).all (fun k => decide ((Vb.pieces (Vb.kinL.getD k ([], Vb.zeroR)).1).length ≤ 2000)) = true := by decide +kernel
set_option maxRecDepth 100000 in
set_option maxHeartbeats 4000000 in
theorem rows_any (w : World) : Calls Tryd.prog 21 #[] w fun e w' => (∃ v, e = .returned v ∧ Vs w.heap.size w' v (rowsK 35)) ∧ Below w.heap.size w w' := by
  obtain ⟨PP, hPP⟩ : ∃ PP : Ending → World → Prop, PP = fun e w' => (∃ v, e = .returned v ∧ Vs w.heap.size w' v (rowsK 35)) ∧ Below w.heap.size w w' := ⟨_, rfl⟩
  rw [← hPP]
  have HP := keep hPP
  have MW := keep words_any
  have MN := keep number_any
  obtain ⟨TB, hTB⟩ : ∃ TB, TB = refB := ⟨_, rfl⟩
  have HTB := keep hTB
  clear hPP
  go_enter Tryd.func21, Tryd.ntmps21
  rw [lit_is, ← hTB]
  clear hTB
  go_wp2_with fail
  go_loopw [1, 2, 3, 4, 5] (fun v1 v2 v3 v4 v5 wr => ∃ k i : Nat, ((k < 35 ∧ st k ≤ i ∧ i ≤ en k) ∨ (k = 35 ∧ i = 1201)) ∧ v2 = .int .i64 (st k : Nat) ∧ v3 = .int .i64 (i : Nat) ∧ Kept (Vs w.heap.size wr v1 (rowsK k)) ∧ Kept (Below w.heap.size w wr)) (fun _ _ v3 _ _ _ => 1201 - (intOf v3).toNat)
  case atStart => exact ⟨0, 0, .inl ⟨by decide, Nat.zero_le _, Nat.zero_le _⟩, rfl, rfl, Vs.nil _ _, Below.refl _ _⟩
  case round =>
    obtain ⟨k, i, hki, rfl, rfl, KV, KB⟩ := hrel
    rcases hki with ⟨hk, hsi, hie⟩ | ⟨rfl, rfl⟩
    · obtain ⟨q1, q2, q3, q4⟩ := line_facts hk
      have hi12 : (i : Int) ≤ 1200 := by omega
      have hi0 : (0 : Int) ≤ (i : Int) := by omega
      have hiw : IntKind.i64.wrap ((i : Int) + 1) = ((i + 1 : Nat) : Int) := by rw [IntKind.wrap_i64]; omega
      have hix : ∀ c : UInt8, refL[i]? = some c → ∀ wx, (Instr.index 9 (.string TB) (.int .i64 (i : Int))).run Tryd.prog wx = .ok (.int .u8 (c.toNat : Int)) wx := fun c hc wx => by
        rw [HTB.out]
        have hl : i < refL.length := (List.getElem?_eq_some_iff.1 hc).1
        have hz : i < refB.size := by rw [refB_size]; rw [refL_len] at hl; exact hl
        rw [run_index_string _ _ refB .i64 (i : Int) Tryd.underlying9, dif_pos ⟨by omega, by omega⟩]
        have : refB[i] = c := by rw [← (List.getElem?_eq_some_iff.1 hc).2]; rfl
        simp only [Int.toNat_natCast, this]
      by_cases hlt : i < en k
      · obtain ⟨c, hc, hne⟩ := line_at hk hsi hlt
        have hby := hix c hc
        have hi2 : (i : Int) < 1200 := by omega
        have hcn : ((c.toNat : Int) != 10) = true := by
          have : c.toNat ≠ 10 := fun h => hne (UInt8.toNat_inj.1 (by rw [h]; rfl))
          simp; omega
        have HK := keep hk
        have HS := keep hsi
        have HLT := keep hlt
        clear q1 q2 q3 q4 hix hc hne hk hsi hie hlt
        go_wp2_with fail
        go_roundw
        case measure => simp [intOf]; omega
        case rel => exact ⟨k, i + 1, .inl ⟨HK.out, by have := HS.out; omega, HLT.out⟩, rfl, by rfl, KV, KB⟩
      · obtain rfl : i = en k := by omega
        obtain ⟨⟨ks, r⟩, hK⟩ : ∃ x, Vb.kinL[k]? = some x := ⟨_, List.getElem?_eq_getElem (by rw [Vb.kin_len]; exact hk)⟩
        obtain ⟨w0, w1, w2, w3, w4, hwd, hnum, hsm, hll⟩ := line_words hk hK
        have hsl : ∀ wx, (Instr.slice 9 (.string TB) (some (.int .i64 ((st k : Nat) : Int))) (some (.int .i64 ((en k : Nat) : Int))) none).run Tryd.prog wx = .ok (.string (Vb.ofL (lineK k))) wx := fun wx => by
          rw [HTB.out, run_slice_string wx 9 refB .i64 .i64 _ _ Tryd.underlying9 (by omega) (by unfold en; omega) (by rw [refB_size]; omega)]
          congr 2
          apply ByteArray.ext
          apply Array.toList_inj.1
          rw [ByteArray.data_extract, Array.toList_extract, List.extract_eq_take_drop, Int.toNat_natCast, Int.toNat_natCast, show en k - st k = (lineK k).length by unfold en; omega]
          exact q1
        obtain ⟨LL, hLL⟩ : ∃ LL, LL = Vb.ofL (lineK k) := ⟨_, rfl⟩
        rw [← hLL] at hsl
        have hwl : LL.data.toList = lineK k := by rw [hLL]; rfl
        have hls : LL.size ≤ 2000 := by rw [hLL, Vb.ofL_size]; exact hll
        have hnl : (Vb.pieces ks).length ≤ 2000 := by
          have := List.all_eq_true.1 kin_few k (List.mem_range.2 hk)
          rw [List.getD_eq_getElem?_getD, hK] at this
          exact of_decide_eq_true this
        have hrl : (rowsK k).length ≤ 2000 := of_decide_eq_true (List.all_eq_true.1 rows_few k (List.mem_range.2 (by omega)))
        have hend : ((en k : Nat) : Int) = 1200 ∨ (((en k : Nat) : Int) < 1200 ∧ refL[en k]? = some 10) := by
          by_cases e : k = 34
          · rw [if_pos e] at q3; left; omega
          · rw [if_neg e] at q3
            right
            exact ⟨by have := (List.getElem?_eq_some_iff.1 q3).1; rw [refL_len] at this; omega, q3⟩
        have HLS := keep hls
        have HWL := keep hwl
        have HWD := keep hwd
        have HNUM := keep hnum
        have HSM := keep hsm
        have HKK := keep hK
        have HK := keep hk
        have HNL := keep hnl
        have HRL := keep hrl
        have HEND := keep hend
        have HIX := keep hix
        have HQ4 := keep q4
        obtain ⟨E, hE⟩ : ∃ E, E = en k := ⟨_, rfl⟩
        have HE := keep hE
        rw [← hE] at hsl hi12 hi0 hiw HIX hend ⊢
        clear q1 q2 q3 q4 hix hk hsi hie hlt hK hwd hnum hsm hll hLL hwl hls hnl hrl hE
        go_upto_region 6 with fail
        go_cut [16] from 10 to 16 (fun z wx => z = .bool false ∧ wx = wr)
        case first =>
          rcases hend with h | ⟨h, hc⟩
          · have h' : ¬ (E : Int) < 1200 := by omega
            clear h
            go_wp2_with fail
            go_meet
            case rel => exact ⟨rfl, rfl⟩
          · have hby := HIX.out 10 hc
            have h10 : ((((10 : UInt8).toNat : Nat) : Int) != 10) = false := rfl
            clear hc
            go_wp2_with fail
            go_meet
            case rel => exact ⟨rfl, rfl⟩
        case rest =>
        obtain ⟨rfl, hwc⟩ := hcut
        obtain rfl := hwc.symm
        clear hwc hend
        go_wp2_with fail
        refine (MW.out LL wr HLS.out).mono ?_
        rintro _ x1 ⟨⟨v4, rfl, hks⟩, hb⟩
        rw [HWL.out, HWD.out] at hks
        have hKV1 := KV.out.later hb
        have hlt1 := KV.out.lt
        have hBx1 : Below w.heap.size w x1 := Below.trans KB.out (hb.mono KB.out.size)
        obtain ⟨names, hnames⟩ : ∃ names, names = Vb.pieces ks := ⟨_, rfl⟩
        rw [← hnames] at hks
        have HNAMES := keep hnames
        have hwz : ∀ j q, (w0 :: w1 :: w2 :: w3 :: w4 :: names)[j]? = some q → ((w0 :: w1 :: w2 :: w3 :: w4 :: names).map Vb.ofL).map Value.string = ((w0 :: w1 :: w2 :: w3 :: w4 :: names).map Vb.ofL).map Value.string ∧ (((w0 :: w1 :: w2 :: w3 :: w4 :: names).map Vb.ofL).map Value.string)[j]? = some (Value.string (Vb.ofL q)) := fun j q h => ⟨rfl, by rw [List.getElem?_map, List.getElem?_map, h]; rfl⟩
        obtain ⟨g, cw, rfl, hgw, hcells, hgl⟩ : ∃ g cw, v4 = .slice (some ⟨g, 0, none⟩) (names.length + 5) cw ∧ wr.heap.size ≤ g ∧ (∀ j q, (w0 :: w1 :: w2 :: w3 :: w4 :: names)[j]? = some q → x1.cell? ⟨g, j, none⟩ = some (.string (Vb.ofL q))) ∧ g < x1.heap.size := by
          have h2 := hks.2
          rcases h2 with ⟨_, hn⟩ | ⟨g, cap, cur, e, hbg, hg, _⟩
          · simp at hn
          · have el : ((w0 :: w1 :: w2 :: w3 :: w4 :: names).map Vb.ofL).length = names.length + 5 := by simp
            rw [el] at e
            refine ⟨g, cap, e, hbg, fun j q h => ?_, (Array.getElem?_eq_some_iff.1 hg).1⟩
            rw [e] at hks
            have := hks.cells (g := g) rfl j _ (hwz j q h).2
            rwa [add_at, Nat.zero_add] at this
        have hfar : u1.ownBlock ≠ some g := fun e => by have := hlt1 g e; omega
        have KS0 : Kept (Vs w.heap.size x1 u1 (rowsK k ++ named ks r 0)) := by
          show Vs _ _ _ _
          rw [show named ks r 0 = [] from rfl, List.append_nil]; exact hKV1
        have HB1 := keep hBx1
        have HFAR := keep hfar
        have HGL := keep hgl
        have HC := keep hcells
        clear hb hks hKV1 hlt1 hBx1 hwz hgw hfar hgl hcells hnames
        go_wp2_with fail
        go_loopw [1, 5] (fun v1 v5 wx => ∃ m : Nat, m ≤ names.length ∧ v5 = .int .i64 ((m + 5 : Nat) : Int) ∧ Kept (Vs w.heap.size wx v1 (rowsK k ++ named ks r m)) ∧ Kept (Below w.heap.size w wx) ∧ Kept (wx.heap[g]? = x1.heap[g]? ∧ Far v1 wx g)) (fun _ v5 _ => names.length + 5 - (intOf v5).toNat)
        case atStart => exact ⟨0, Nat.zero_le _, rfl, KS0, HB1, rfl, HGL.out, HFAR.out⟩
        case round =>
          obtain ⟨m, hm, rfl, KS, KBx, KG⟩ := hrel
          by_cases hlt : m < names.length
          · have hz : (((m + 5 : Nat) : Int)) < ((names.length + 5 : Nat) : Int) := by omega
            obtain ⟨u, hu⟩ : ∃ u, names[m]? = some u := ⟨_, List.getElem?_eq_getElem hlt⟩
            have hcu : ∀ j q, (w0 :: w1 :: w2 :: w3 :: w4 :: names)[j]? = some q → wr.drew.cell? ⟨g, j, none⟩ = some (.string (Vb.ofL q)) := fun j q h => (World.cell?_of_block KG.out.1).trans (HC.out j q h)
            have e0 := hcu 0 w0 rfl
            have e1 := hcu 1 w1 rfl
            have e2 := hcu 2 w2 rfl
            have e3 := hcu 3 w3 rfl
            have e4 := hcu 4 w4 rfl
            have e5 := hcu (m + 5) u (by simpa using hu)
            obtain ⟨M5, hM5⟩ : ∃ M5, M5 = m + 5 := ⟨_, rfl⟩
            rw [← hM5] at hz e5
            rw [← hM5]
            have n0 := MN.out (Vb.ofL w0) wr.drew (by rw [Vb.ofL_size]; exact (HSM.out w0 (.inl rfl)).1) (by rw [Vb.ofL_size]; exact (HSM.out w0 (.inl rfl)).2)
            have n1 := MN.out (Vb.ofL w1) wr.drew (by rw [Vb.ofL_size]; exact (HSM.out w1 (.inr (.inl rfl))).1) (by rw [Vb.ofL_size]; exact (HSM.out w1 (.inr (.inl rfl))).2)
            have n2 := MN.out (Vb.ofL w2) wr.drew (by rw [Vb.ofL_size]; exact (HSM.out w2 (.inr (.inr (.inl rfl)))).1) (by rw [Vb.ofL_size]; exact (HSM.out w2 (.inr (.inr (.inl rfl)))).2)
            have n3 := MN.out (Vb.ofL w3) wr.drew (by rw [Vb.ofL_size]; exact (HSM.out w3 (.inr (.inr (.inr (.inl rfl))))).1) (by rw [Vb.ofL_size]; exact (HSM.out w3 (.inr (.inr (.inr (.inl rfl))))).2)
            have n4 := MN.out (Vb.ofL w4) wr.drew (by rw [Vb.ofL_size]; exact (HSM.out w4 (.inr (.inr (.inr (.inr rfl))))).1) (by rw [Vb.ofL_size]; exact (HSM.out w4 (.inr (.inr (.inr (.inr rfl))))).2)
            rw [Vb.ofL_data, HNUM.out.1] at n0
            rw [Vb.ofL_data, HNUM.out.2.1] at n1
            rw [Vb.ofL_data, HNUM.out.2.2.1] at n2
            rw [Vb.ofL_data, HNUM.out.2.2.2.1] at n3
            rw [Vb.ofL_data, HNUM.out.2.2.2.2] at n4
            obtain ⟨ra, rf, rx, ry, rz⟩ := r
            dsimp only at n0 n1 n2 n3 n4
            have hns := named_succ (ks := ks) (r := (ra, rf, rx, ry, rz)) (m := m) (u := u) (by rw [← HNAMES.out]; exact hu)
            have hKS : Vs w.heap.size wr.drew u1 (rowsK k ++ named ks (ra, rf, rx, ry, rz) m) := KS.out
            have hlen : (rowsK k ++ named ks (ra, rf, rx, ry, rz) m).length + 1 ≤ 2000000 := by
              rw [List.length_append]
              have h1 := HRL.out
              have h2 : (named ks (ra, rf, rx, ry, rz) m).length ≤ m := by unfold named; rw [List.length_map, List.length_take]; omega
              have h3 := HNL.out
              rw [← HNAMES.out] at h3
              omega
            obtain ⟨v', w', happ, hvs, hgr⟩ := app_vb (Vb.ofL u) (ra, rf, rx, ry, rz) hKS (show w.heap.size ≤ wr.drew.heap.size from KBx.out.size) hlen 37
            rw [List.append_assoc, ← hns] at hvs
            obtain ⟨U, hU⟩ : ∃ U, U = Vb.ofL u := ⟨_, rfl⟩
            obtain ⟨Q0, hQ0⟩ : ∃ Q, Q = Vb.ofL w0 := ⟨_, rfl⟩
            obtain ⟨Q1, hQ1⟩ : ∃ Q, Q = Vb.ofL w1 := ⟨_, rfl⟩
            obtain ⟨Q2, hQ2⟩ : ∃ Q, Q = Vb.ofL w2 := ⟨_, rfl⟩
            obtain ⟨Q3, hQ3⟩ : ∃ Q, Q = Vb.ofL w3 := ⟨_, rfl⟩
            obtain ⟨Q4, hQ4⟩ : ∃ Q, Q = Vb.ofL w4 := ⟨_, rfl⟩
            rw [← hU] at e5 happ
            rw [← hQ0] at e0 n0
            rw [← hQ1] at e1 n1
            rw [← hQ2] at e2 n2
            rw [← hQ3] at e3 n3
            rw [← hQ4] at e4 n4
            have hbs : (Instr.buildSlice 37 1 #[(0, .agg #[.string U, .int .i64 ra, .int .i64 rf, .int .i64 rx, .int .i64 ry, .int .i64 rz])]).run Tryd.prog wr.drew = .ok (.slice (some ⟨wr.drew.heap.size, 0, none⟩) 1 1) (wr.drew.alloc (.cells #[.string U, .int .i64 ra, .int .i64 rf, .int .i64 rx, .int .i64 ry, .int .i64 rz] 23)) := by
              obtain ⟨i0, hi0, hz0, hz1, hz2⟩ := parts_of info_vb
              exact run_buildSlice wr.drew _ _ 1 _ _ i0 _ Tryd.underlying37 hi0 hz0 (by rw [hz1]; decide) (by rw [hz1]; decide) (by rw [hz1]; simp [Instr.fill, Value.cells, Array.range, List.zipIdx]; rfl)
            have happ' : (Builtin.append_ #[37, 37] 37 #[u1, .slice (some ⟨wr.drew.heap.size, 0, none⟩) 1 1]).run Tryd.prog (wr.drew.alloc (.cells #[.string U, .int .i64 ra, .int .i64 rf, .int .i64 rx, .int .i64 ry, .int .i64 rz] 23)) = .ok v' w' := happ
            have hbel : Below w.heap.size w w' := Below.trans KBx.out (show Below w.heap.size wr w' from (Below.drew (Below.refl w.heap.size wr)).trans (hgr.below (show w.heap.size ≤ wr.drew.heap.size from KBx.out.size) hKS.from))
            have hfg : w'.heap[g]? = x1.heap[g]? ∧ Far v' w' g := ⟨(hgr.same (b := g) KG.out.2).trans KG.out.1, hgr.far (b := g) KG.out.2⟩
            have hba : Below wr.drew.heap.size wr.drew (wr.drew.alloc (.cells #[.string U, .int .i64 ra, .int .i64 rf, .int .i64 rx, .int .i64 ry, .int .i64 rz] 23)) := (Below.refl _ _).alloc (Nat.le_refl _) _
            have hgw' : ∀ j u, wr.drew.cell? ⟨g, j, none⟩ = some u → w'.cell? ⟨g, j, none⟩ = some u := fun j u h => (World.cell?_of_block (hgr.same (b := g) KG.out.2)).trans h
            have N0 := keep n0
            have N1 := keep n1
            have N2 := keep n2
            have N3 := keep n3
            have N4 := keep n4
            have HBS := keep hbs
            have HAPP := keep happ'
            have HVS := keep hvs
            have HBE := keep hbel
            have HFG := keep hfg
            have HM := keep hM5
            have HLT := keep hlt
            have HSS : Kept (wr.drew.cell? ⟨g, M5, none⟩ = some (.string U) ∧ wr.drew.cell? ⟨g, 0, none⟩ = some (.string Q0) ∧ wr.drew.cell? ⟨g, 1, none⟩ = some (.string Q1) ∧ wr.drew.cell? ⟨g, 2, none⟩ = some (.string Q2) ∧ wr.drew.cell? ⟨g, 3, none⟩ = some (.string Q3) ∧ wr.drew.cell? ⟨g, 4, none⟩ = some (.string Q4)) := ⟨e5, e0, e1, e2, e3, e4⟩
            have HSA : Kept ((wr.drew.alloc (.cells #[.string U, .int .i64 ra, .int .i64 rf, .int .i64 rx, .int .i64 ry, .int .i64 rz] 23)).cell? ⟨g, M5, none⟩ = some (.string U) ∧ (wr.drew.alloc (.cells #[.string U, .int .i64 ra, .int .i64 rf, .int .i64 rx, .int .i64 ry, .int .i64 rz] 23)).cell? ⟨g, 0, none⟩ = some (.string Q0) ∧ (wr.drew.alloc (.cells #[.string U, .int .i64 ra, .int .i64 rf, .int .i64 rx, .int .i64 ry, .int .i64 rz] 23)).cell? ⟨g, 1, none⟩ = some (.string Q1) ∧ (wr.drew.alloc (.cells #[.string U, .int .i64 ra, .int .i64 rf, .int .i64 rx, .int .i64 ry, .int .i64 rz] 23)).cell? ⟨g, 2, none⟩ = some (.string Q2) ∧ (wr.drew.alloc (.cells #[.string U, .int .i64 ra, .int .i64 rf, .int .i64 rx, .int .i64 ry, .int .i64 rz] 23)).cell? ⟨g, 3, none⟩ = some (.string Q3) ∧ (wr.drew.alloc (.cells #[.string U, .int .i64 ra, .int .i64 rf, .int .i64 rx, .int .i64 ry, .int .i64 rz] 23)).cell? ⟨g, 4, none⟩ = some (.string Q4)) :=
              ⟨(hba.cell (World.block_lt_of_cell? _ _ e5)).trans e5, (hba.cell (World.block_lt_of_cell? _ _ e0)).trans e0, (hba.cell (World.block_lt_of_cell? _ _ e1)).trans e1, (hba.cell (World.block_lt_of_cell? _ _ e2)).trans e2, (hba.cell (World.block_lt_of_cell? _ _ e3)).trans e3, (hba.cell (World.block_lt_of_cell? _ _ e4)).trans e4⟩
            have HSW : Kept (w'.cell? ⟨g, M5, none⟩ = some (.string U) ∧ w'.cell? ⟨g, 0, none⟩ = some (.string Q0) ∧ w'.cell? ⟨g, 1, none⟩ = some (.string Q1) ∧ w'.cell? ⟨g, 2, none⟩ = some (.string Q2) ∧ w'.cell? ⟨g, 3, none⟩ = some (.string Q3) ∧ w'.cell? ⟨g, 4, none⟩ = some (.string Q4)) := ⟨hgw' _ _ e5, hgw' _ _ e0, hgw' _ _ e1, hgw' _ _ e2, hgw' _ _ e3, hgw' _ _ e4⟩
            obtain ⟨NL, hNL⟩ : ∃ NL, NL = names.length + 5 := ⟨_, rfl⟩
            rw [← hNL] at hz
            rw [← hNL]
            have hz0 : (0 : Int) < (NL : Int) := by omega
            have hz1 : (1 : Int) < (NL : Int) := by omega
            have hz2 : (2 : Int) < (NL : Int) := by omega
            have hz3 : (3 : Int) < (NL : Int) := by omega
            have hz4 : (4 : Int) < (NL : Int) := by omega
            have hy0 : ¬ NL = 0 := by omega
            have hy1 : 1 < NL := by omega
            have hy2 : 2 < NL := by omega
            have hy3 : 3 < NL := by omega
            have hy4 : 4 < NL := by omega
            have hm0 : (0 : Int) ≤ (M5 : Int) := by omega
            have hym : M5 < NL := by omega
            have hwm : IntKind.i64.wrap ((M5 : Int) + 1) = ((M5 + 1 : Nat) : Int) := by have h3 := HNL.out; rw [← HNAMES.out] at h3; rw [IntKind.wrap_i64]; omega
            have HNLE := keep hNL
            clear hcu e0 e1 e2 e3 e4 e5 n0 n1 n2 n3 n4 hns hKS hlen happ happ' hvs hgr hbs hbel hfg hM5 hlt hU hQ0 hQ1 hQ2 hQ3 hQ4 hu hNL hba hgw'
            go_upto_region 11 with fail
            refine wp_region_held_drew (S := fun W => W.cell? ⟨g, M5, none⟩ = some (.string U) ∧ W.cell? ⟨g, 0, none⟩ = some (.string Q0) ∧ W.cell? ⟨g, 1, none⟩ = some (.string Q1) ∧ W.cell? ⟨g, 2, none⟩ = some (.string Q2) ∧ W.cell? ⟨g, 3, none⟩ = some (.string Q3) ∧ W.cell? ⟨g, 4, none⟩ = some (.string Q4)) (by kernel_rfl) HSS.out (fun hHeld => ?_)
            refine wpAnyH_take (i := 0) (oi := { dst := some 27, op := _, type := _, pos := _, after := _, guard := _ }) (v := ?v1) rfl (by kernel_rfl) (by kernel_rfl) (by kernel_rfl) (fun _ _ _ h => h) (Or.inl ⟨by rfl, ?hy1⟩) (by assumption) ?rest1
            case hy1 => (intro w hSw; obtain ⟨s5,s0,s1,s2,s3,s4⟩ := hSw; go_simp; try with_reducible rfl)
            try simp only [Act.put, List.setIfInBounds_toArray, List.set_cons_zero, List.set_cons_succ]
            refine wpAnyH_take (i := 1) (oi := { dst := some 28, op := _, type := _, pos := _, after := _, guard := _ }) (v := ?v2) rfl (by kernel_rfl) (by kernel_rfl) (by kernel_rfl) (fun _ _ _ h => h) (Or.inl ⟨by rfl, ?hy2⟩) (by assumption) ?rest2
            case hy2 => (intro w hSw; obtain ⟨s5,s0,s1,s2,s3,s4⟩ := hSw; go_simp; try with_reducible rfl)
            try simp only [Act.put, List.setIfInBounds_toArray, List.set_cons_zero, List.set_cons_succ]
            refine wpAnyH_take (i := 2) (oi := { dst := some 29, op := _, type := _, pos := _, after := _, guard := _ }) (v := ?v3) rfl (by kernel_rfl) (by kernel_rfl) (by kernel_rfl) (fun _ _ _ h => h) (Or.inl ⟨by rfl, ?hy3⟩) (by assumption) ?rest3
            case hy3 => (intro w hSw; obtain ⟨s5,s0,s1,s2,s3,s4⟩ := hSw; go_simp; try with_reducible rfl)
            try simp only [Act.put, List.setIfInBounds_toArray, List.set_cons_zero, List.set_cons_succ]
            refine wpAnyH_take (i := 3) (oi := { dst := some 30, op := _, type := _, pos := _, after := _, guard := _ }) (v := (.pointer (some ⟨g, M5, none⟩))) rfl (by kernel_rfl) (by kernel_rfl) (by kernel_rfl) (fun _ _ _ h => h) (Or.inl ⟨by rfl, ?hy4⟩) (by assumption) ?rest4
            case hy4 => (intro w hSw; obtain ⟨s5,s0,s1,s2,s3,s4⟩ := hSw; first | (go_simp; done) | (go_simp; simp [*]; done) | (simp [*]; go_simp; done))
            try simp only [Act.put, List.setIfInBounds_toArray, List.set_cons_zero, List.set_cons_succ]
            refine wpAnyH_take (i := 4) (oi := { dst := some 31, op := _, type := _, pos := _, after := _, guard := _ }) (v := (.string U)) rfl (by kernel_rfl) (by kernel_rfl) (by kernel_rfl) (fun _ _ _ h => h) (Or.inl ⟨by rfl, ?hy5⟩) (by assumption) ?rest5
            case hy5 => (intro w hSw; obtain ⟨s5,s0,s1,s2,s3,s4⟩ := hSw; first | (go_simp; done) | (go_simp; simp [*]; done) | (simp [*]; go_simp; done))
            try simp only [Act.put, List.setIfInBounds_toArray, List.set_cons_zero, List.set_cons_succ]
            refine wpAnyH_take (i := 5) (oi := { dst := some 32, op := _, type := _, pos := _, after := _, guard := _ }) (v := ?v6) rfl (by kernel_rfl) (by kernel_rfl) (by kernel_rfl) (fun _ _ _ h => h) (Or.inl ⟨by rfl, ?hy6⟩) (by assumption) ?rest6
            case hy6 => (intro w hSw; obtain ⟨s5,s0,s1,s2,s3,s4⟩ := hSw; go_simp; try with_reducible rfl)
            try simp only [Act.put, List.setIfInBounds_toArray, List.set_cons_zero, List.set_cons_succ]
            refine wpAnyH_take (i := 6) (oi := { dst := some 33, op := _, type := _, pos := _, after := _, guard := _ }) (v := (.pointer (some ⟨g, 0, none⟩))) rfl (by kernel_rfl) (by kernel_rfl) (by kernel_rfl) (fun _ _ _ h => h) (Or.inl ⟨by rfl, ?hy7⟩) (by assumption) ?rest7
            case hy7 => (intro w hSw; obtain ⟨s5,s0,s1,s2,s3,s4⟩ := hSw; first | (go_simp; done) | (go_simp; simp [*]; done) | (simp [*]; go_simp; done))
            try simp only [Act.put, List.setIfInBounds_toArray, List.set_cons_zero, List.set_cons_succ]
            refine wpAnyH_take (i := 7) (oi := { dst := some 34, op := _, type := _, pos := _, after := _, guard := _ }) (v := (.string Q0)) rfl (by kernel_rfl) (by kernel_rfl) (by kernel_rfl) (fun _ _ _ h => h) (Or.inl ⟨by rfl, ?hy8⟩) (by assumption) ?rest8
            case hy8 => (intro w hSw; obtain ⟨s5,s0,s1,s2,s3,s4⟩ := hSw; first | (go_simp; done) | (go_simp; simp [*]; done) | (simp [*]; go_simp; done))
            try simp only [Act.put, List.setIfInBounds_toArray, List.set_cons_zero, List.set_cons_succ]
            refine wpAnyH_take (i := 9) (oi := { dst := some 36, op := _, type := _, pos := _, after := _, guard := _ }) (v := ?v9) rfl (by kernel_rfl) (by kernel_rfl) (by kernel_rfl) (fun _ _ _ h => h) (Or.inl ⟨by rfl, ?hy9⟩) (by assumption) ?rest9
            case hy9 => (intro w hSw; obtain ⟨s5,s0,s1,s2,s3,s4⟩ := hSw; go_simp; try with_reducible rfl)
            try simp only [Act.put, List.setIfInBounds_toArray, List.set_cons_zero, List.set_cons_succ]
            refine wpAnyH_take (i := 10) (oi := { dst := some 37, op := _, type := _, pos := _, after := _, guard := _ }) (v := (.pointer (some ⟨g, 1, none⟩))) rfl (by kernel_rfl) (by kernel_rfl) (by kernel_rfl) (fun _ _ _ h => h) (Or.inl ⟨by rfl, ?hy10⟩) (by assumption) ?rest10
            case hy10 => (intro w hSw; obtain ⟨s5,s0,s1,s2,s3,s4⟩ := hSw; first | (go_simp; done) | (go_simp; simp [*]; done) | (simp [*]; go_simp; done))
            try simp only [Act.put, List.setIfInBounds_toArray, List.set_cons_zero, List.set_cons_succ]
            refine wpAnyH_take (i := 11) (oi := { dst := some 38, op := _, type := _, pos := _, after := _, guard := _ }) (v := (.string Q1)) rfl (by kernel_rfl) (by kernel_rfl) (by kernel_rfl) (fun _ _ _ h => h) (Or.inl ⟨by rfl, ?hy11⟩) (by assumption) ?rest11
            case hy11 => (intro w hSw; obtain ⟨s5,s0,s1,s2,s3,s4⟩ := hSw; first | (go_simp; done) | (go_simp; simp [*]; done) | (simp [*]; go_simp; done))
            try simp only [Act.put, List.setIfInBounds_toArray, List.set_cons_zero, List.set_cons_succ]
            refine wpAnyH_take (i := 13) (oi := { dst := some 40, op := _, type := _, pos := _, after := _, guard := _ }) (v := ?v12) rfl (by kernel_rfl) (by kernel_rfl) (by kernel_rfl) (fun _ _ _ h => h) (Or.inl ⟨by rfl, ?hy12⟩) (by assumption) ?rest12
            case hy12 => (intro w hSw; obtain ⟨s5,s0,s1,s2,s3,s4⟩ := hSw; go_simp; try with_reducible rfl)
            try simp only [Act.put, List.setIfInBounds_toArray, List.set_cons_zero, List.set_cons_succ]
            refine wpAnyH_take (i := 14) (oi := { dst := some 41, op := _, type := _, pos := _, after := _, guard := _ }) (v := (.pointer (some ⟨g, 2, none⟩))) rfl (by kernel_rfl) (by kernel_rfl) (by kernel_rfl) (fun _ _ _ h => h) (Or.inl ⟨by rfl, ?hy13⟩) (by assumption) ?rest13
            case hy13 => (intro w hSw; obtain ⟨s5,s0,s1,s2,s3,s4⟩ := hSw; first | (go_simp; done) | (go_simp; simp [*]; done) | (simp [*]; go_simp; done))
            try simp only [Act.put, List.setIfInBounds_toArray, List.set_cons_zero, List.set_cons_succ]
            refine wpAnyH_take (i := 15) (oi := { dst := some 42, op := _, type := _, pos := _, after := _, guard := _ }) (v := (.string Q2)) rfl (by kernel_rfl) (by kernel_rfl) (by kernel_rfl) (fun _ _ _ h => h) (Or.inl ⟨by rfl, ?hy14⟩) (by assumption) ?rest14
            case hy14 => (intro w hSw; obtain ⟨s5,s0,s1,s2,s3,s4⟩ := hSw; first | (go_simp; done) | (go_simp; simp [*]; done) | (simp [*]; go_simp; done))
            try simp only [Act.put, List.setIfInBounds_toArray, List.set_cons_zero, List.set_cons_succ]
            refine wpAnyH_take (i := 17) (oi := { dst := some 44, op := _, type := _, pos := _, after := _, guard := _ }) (v := ?v15) rfl (by kernel_rfl) (by kernel_rfl) (by kernel_rfl) (fun _ _ _ h => h) (Or.inl ⟨by rfl, ?hy15⟩) (by assumption) ?rest15
            case hy15 => (intro w hSw; obtain ⟨s5,s0,s1,s2,s3,s4⟩ := hSw; go_simp; try with_reducible rfl)
            try simp only [Act.put, List.setIfInBounds_toArray, List.set_cons_zero, List.set_cons_succ]
            refine wpAnyH_take (i := 18) (oi := { dst := some 45, op := _, type := _, pos := _, after := _, guard := _ }) (v := (.pointer (some ⟨g, 3, none⟩))) rfl (by kernel_rfl) (by kernel_rfl) (by kernel_rfl) (fun _ _ _ h => h) (Or.inl ⟨by rfl, ?hy16⟩) (by assumption) ?rest16
            case hy16 => (intro w hSw; obtain ⟨s5,s0,s1,s2,s3,s4⟩ := hSw; first | (go_simp; done) | (go_simp; simp [*]; done) | (simp [*]; go_simp; done))
            try simp only [Act.put, List.setIfInBounds_toArray, List.set_cons_zero, List.set_cons_succ]
            refine wpAnyH_take (i := 19) (oi := { dst := some 46, op := _, type := _, pos := _, after := _, guard := _ }) (v := (.string Q3)) rfl (by kernel_rfl) (by kernel_rfl) (by kernel_rfl) (fun _ _ _ h => h) (Or.inl ⟨by rfl, ?hy17⟩) (by assumption) ?rest17
            case hy17 => (intro w hSw; obtain ⟨s5,s0,s1,s2,s3,s4⟩ := hSw; first | (go_simp; done) | (go_simp; simp [*]; done) | (simp [*]; go_simp; done))
            try simp only [Act.put, List.setIfInBounds_toArray, List.set_cons_zero, List.set_cons_succ]
            refine wpAnyH_take (i := 21) (oi := { dst := some 48, op := _, type := _, pos := _, after := _, guard := _ }) (v := ?v18) rfl (by kernel_rfl) (by kernel_rfl) (by kernel_rfl) (fun _ _ _ h => h) (Or.inl ⟨by rfl, ?hy18⟩) (by assumption) ?rest18
            case hy18 => (intro w hSw; obtain ⟨s5,s0,s1,s2,s3,s4⟩ := hSw; go_simp; try with_reducible rfl)
            try simp only [Act.put, List.setIfInBounds_toArray, List.set_cons_zero, List.set_cons_succ]
            refine wpAnyH_take (i := 22) (oi := { dst := some 49, op := _, type := _, pos := _, after := _, guard := _ }) (v := (.pointer (some ⟨g, 4, none⟩))) rfl (by kernel_rfl) (by kernel_rfl) (by kernel_rfl) (fun _ _ _ h => h) (Or.inl ⟨by rfl, ?hy19⟩) (by assumption) ?rest19
            case hy19 => (intro w hSw; obtain ⟨s5,s0,s1,s2,s3,s4⟩ := hSw; first | (go_simp; done) | (go_simp; simp [*]; done) | (simp [*]; go_simp; done))
            try simp only [Act.put, List.setIfInBounds_toArray, List.set_cons_zero, List.set_cons_succ]
            refine wpAnyH_take (i := 23) (oi := { dst := some 50, op := _, type := _, pos := _, after := _, guard := _ }) (v := (.string Q4)) rfl (by kernel_rfl) (by kernel_rfl) (by kernel_rfl) (fun _ _ _ h => h) (Or.inl ⟨by rfl, ?hy20⟩) (by assumption) ?rest20
            case hy20 => (intro w hSw; obtain ⟨s5,s0,s1,s2,s3,s4⟩ := hSw; first | (go_simp; done) | (go_simp; simp [*]; done) | (simp [*]; go_simp; done))
            try simp only [Act.put, List.setIfInBounds_toArray, List.set_cons_zero, List.set_cons_succ]
            refine wpAnyH_ready (rs := [8]) (by kernel_rfl) (by simp) ?_
            refine AllReadyH.cons (o := { dst := some 35, op := _, type := _, pos := _, after := _, guard := _ }) rfl (fun K hK => ?_) AllReadyH.nil
            go_simp
            refine N0.out.mono ?_
            rintro _ y0 ⟨rfl, rfl⟩
            refine hK.out _ _ HSS.out (fun hHeld => ?_)
            try simp only [Act.put, List.setIfInBounds_toArray, List.set_cons_zero, List.set_cons_succ]
            clear hK
            refine wpAnyH_ready (rs := [12]) (by kernel_rfl) (by simp) ?_
            refine AllReadyH.cons (o := { dst := some 39, op := _, type := _, pos := _, after := _, guard := _ }) rfl (fun K hK => ?_) AllReadyH.nil
            go_simp
            refine N1.out.mono ?_
            rintro _ y1 ⟨rfl, rfl⟩
            refine hK.out _ _ HSS.out (fun hHeld => ?_)
            try simp only [Act.put, List.setIfInBounds_toArray, List.set_cons_zero, List.set_cons_succ]
            clear hK
            refine wpAnyH_ready (rs := [16]) (by kernel_rfl) (by simp) ?_
            refine AllReadyH.cons (o := { dst := some 43, op := _, type := _, pos := _, after := _, guard := _ }) rfl (fun K hK => ?_) AllReadyH.nil
            go_simp
            refine N2.out.mono ?_
            rintro _ y2 ⟨rfl, rfl⟩
            refine hK.out _ _ HSS.out (fun hHeld => ?_)
            try simp only [Act.put, List.setIfInBounds_toArray, List.set_cons_zero, List.set_cons_succ]
            clear hK
            refine wpAnyH_ready (rs := [20]) (by kernel_rfl) (by simp) ?_
            refine AllReadyH.cons (o := { dst := some 47, op := _, type := _, pos := _, after := _, guard := _ }) rfl (fun K hK => ?_) AllReadyH.nil
            go_simp
            refine N3.out.mono ?_
            rintro _ y3 ⟨rfl, rfl⟩
            refine hK.out _ _ HSS.out (fun hHeld => ?_)
            try simp only [Act.put, List.setIfInBounds_toArray, List.set_cons_zero, List.set_cons_succ]
            clear hK
            refine wpAnyH_ready (rs := [24]) (by kernel_rfl) (by simp) ?_
            refine AllReadyH.cons (o := { dst := some 51, op := _, type := _, pos := _, after := _, guard := _ }) rfl (fun K hK => ?_) AllReadyH.nil
            go_simp
            refine N4.out.mono ?_
            rintro _ y4 ⟨rfl, rfl⟩
            refine hK.out _ _ HSS.out (fun hHeld => ?_)
            try simp only [Act.put, List.setIfInBounds_toArray, List.set_cons_zero, List.set_cons_succ]
            clear hK
            refine wpAnyH_take (i := 25) (oi := { dst := some 52, op := _, type := _, pos := _, after := _, guard := _ }) (v := (.agg #[.string U, .int .i64 ra, .int .i64 rf, .int .i64 rx, .int .i64 ry, .int .i64 rz])) rfl (by kernel_rfl) (by kernel_rfl) (by kernel_rfl) (fun _ _ _ h => h) (Or.inl ⟨by rfl, ?hy21⟩) (by assumption) ?rest21
            case hy21 => (intro w hSw; first | (go_simp; done) | (go_simp; simp [*]; done) | (simp [*]; go_simp; done))
            try simp only [Act.put, List.setIfInBounds_toArray, List.set_cons_zero, List.set_cons_succ]
            refine wpAnyH_ready (rs := [26]) (by kernel_rfl) (by simp) ?_
            refine AllReadyH.cons (o := { dst := some 53, op := _, type := _, pos := _, after := _, guard := _ }) rfl (fun K hK => ?_) AllReadyH.nil
            have hbs := HBS.out
            go_simp
            refine hK.out _ _ HSA.out (fun hHeld => ?_)
            try simp only [Act.put, List.setIfInBounds_toArray, List.set_cons_zero, List.set_cons_succ]
            clear hK hbs
            refine wpAnyH_ready (rs := [27]) (by kernel_rfl) (by simp) ?_
            refine AllReadyH.cons (o := { dst := some 54, op := _, type := _, pos := _, after := _, guard := _ }) rfl (fun K hK => ?_) AllReadyH.nil
            refine wp_app_run (.tmp 27) (.tmp 53) 37 37 rfl _ _ _ rfl rfl HAPP.out ?_
            refine hK.out _ _ HSW.out (fun hHeld => ?_)
            try simp only [Act.put, List.setIfInBounds_toArray, List.set_cons_zero, List.set_cons_succ]
            clear hK
            refine wpAnyH_take (i := 28) (oi := { dst := some 1, op := _, type := _, pos := _, after := _, guard := _ }) (v := ?v22) rfl (by kernel_rfl) (by kernel_rfl) (by kernel_rfl) (fun _ _ _ h => h) (Or.inl ⟨by rfl, ?hy22⟩) (by assumption) ?rest22
            case hy22 => (intro w hSw; go_simp; try with_reducible rfl)
            try simp only [Act.put, List.setIfInBounds_toArray, List.set_cons_zero, List.set_cons_succ]
            refine wpAnyH_done (by kernel_rfl) ?_ _
            clear hHeld
            go_wp2_with fail
            go_roundw
            case measure => have := HLT.out; have := HM.out; have := HNLE.out; simp [intOf]; omega
            case rel => exact ⟨m + 1, HLT.out, by rw [show m + 1 + 5 = M5 + 1 by have := HM.out; omega]; rfl, HVS, HBE, HFG⟩
          · obtain rfl : m = names.length := by omega
            have hz : ¬ (((names.length + 5 : Nat) : Int)) < ((names.length + 5 : Nat) : Int) := by omega
            have KVN : Kept (Vs w.heap.size wr u1 (rowsK (k + 1))) := by
              show Vs _ _ _ _
              rw [rowsK_succ HKK.out, ← HNAMES.out]; exact KS.out
            go_wp2_with fail
            go_roundw
            case measure => simp [intOf]; omega
            case rel =>
              have hk := HK.out
              have hq := HQ4.out
              have hE := HE.out
              have hs := st_succ k
              refine ⟨k + 1, E + 1, ?_, by rw [hs, hE]; rfl, by rfl, KVN, KBx⟩
              by_cases e : k = 34
              · right; subst e; exact ⟨rfl, by rw [hE]; decide +kernel⟩
              · left; exact ⟨by omega, by omega, by rw [hE, ← hs]; unfold en; omega⟩
    · have hi12 : ¬ (1201 : Int) ≤ 1200 := by omega
      go_wp2_with fail
      rw [HP.out]
      exact ⟨⟨_, rfl, KV.out⟩, KB.out⟩
end Go.Proofs.YtaflggjgndkdlaaDoor
