/-
  Contracts over this program: the document's own words, number and Upper.
-/
import Derived.Test.YtaflggjgndkdlaaDoorVbKeys
import Derived.Laws.Strings2
namespace Go.Proofs.YtaflggjgndkdlaaDoor
open Go.RowKit
set_option linter.unusedVariables false
theorem ofL_app (l m : List UInt8) : Vb.ofL l ++ Vb.ofL m = Vb.ofL (l ++ m) := by
  apply ByteArray.ext
  apply Array.toList_inj.1
  rw [ByteArray.data_append, Array.toList_append]
  simp [Vb.ofL]
/-- what is told of the rest, behind the pieces that are whole and the one that is begun -/
def wrun : List (List UInt8) → List UInt8 → List UInt8 → List (List UInt8)
  | A, q, [] => A ++ [q]
  | A, q, c :: r => if c = 32 then wrun (A ++ [q]) [] r else wrun A (q ++ [c]) r
theorem wrun_is : ∀ (r : List UInt8) (A : List (List UInt8)) (q : List UInt8), ∃ p ps, Vb.pieces r = p :: ps ∧ wrun A q r = A ++ ((q ++ p) :: ps)
  | [], A, q => ⟨[], [], rfl, by simp [wrun]⟩
  | c :: r, A, q => by
    by_cases e : c = 32
    · obtain ⟨p, ps, h1, h2⟩ := wrun_is r (A ++ [q]) []
      refine ⟨[], p :: ps, by unfold Vb.pieces; rw [if_pos e, h1], ?_⟩
      unfold wrun
      rw [if_pos e, h2]
      simp
    · obtain ⟨p, ps, h1, h2⟩ := wrun_is r A (q ++ [c])
      refine ⟨c :: p, ps, by unfold Vb.pieces; rw [if_neg e, h1], ?_⟩
      unfold wrun
      rw [if_neg e, h2]
      simp
theorem wrun_all (l : List UInt8) : wrun [] [] l = Vb.pieces l := by
  obtain ⟨p, ps, h1, h2⟩ := wrun_is l [] []
  rw [h2, h1]
  simp
def WordsE (s : ByteArray) (w : World) (e : Ending) (w' : World) : Prop := ∃ v, e = .returned v ∧ Ks w.heap.size w' v ((Vb.pieces s.data.toList).map Vb.ofL)
set_option maxRecDepth 100000 in
set_option maxHeartbeats 2000000 in
theorem words_any (s : ByteArray) (w : World) (hs : s.size ≤ 2000) : Calls Tryd.prog 30 #[.string s] w fun e w' => WordsE s w e w' ∧ Below w.heap.size w w' := by
  obtain ⟨PP, hPP⟩ : ∃ PP : Ending → World → Prop, PP = fun e w' => WordsE s w e w' ∧ Below w.heap.size w w' := ⟨_, rfl⟩
  rw [← hPP]
  have HP := keep hPP
  clear hPP
  obtain ⟨l, hl⟩ : ∃ l, l = s.data.toList := ⟨_, rfl⟩
  have hn : l.length = s.size := by rw [hl, Vb.size_list]
  have HLL := keep hl
  have HN := keep hn
  have HS := keep hs
  clear hl hn hs
  go_enter Tryd.func30, Tryd.ntmps30
  go_wp2_with fail
  go_loopw [3, 4, 5] (fun v3 v4 v5 wr => ∃ (i : Nat) (A : List (List UInt8)) (q : List UInt8), i ≤ s.size + 1 ∧ v5 = .int .i64 (i : Nat) ∧ v4 = .string (Vb.ofL q) ∧ Kept ((i ≤ s.size → wrun A q (l.drop i) = Vb.pieces l ∧ A.length + q.length ≤ i) ∧ (i = s.size + 1 → A = Vb.pieces l)) ∧ Kept (Ks w.heap.size wr v3 (A.map Vb.ofL)) ∧ Kept (Below w.heap.size w wr)) (fun _ _ v5 _ => s.size + 1 - (intOf v5).toNat)
  case atStart => exact ⟨0, [], [], by omega, rfl, rfl, ⟨fun _ => ⟨wrun_all l, by simp⟩, fun h => by omega⟩, Ks.nil _ _, Below.refl _ _⟩
  case round =>
    obtain ⟨i, A, q, hi, rfl, rfl, KR, KS, KB⟩ := hrel
    by_cases hlast : i ≤ s.size
    · obtain ⟨hrun, hAq⟩ := KR.out.1 hlast
      have hle : (i : Int) ≤ (s.size : Int) := by omega
      have hi0 : (0 : Int) ≤ (i : Int) := by omega
      have hiw : IntKind.i64.wrap ((i : Int) + 1) = ((i + 1 : Nat) : Int) := by have := HS.out; rw [IntKind.wrap_i64]; omega
      have hiw2 : IntKind.i64.wrap ((i : Int) + 1) = (i : Int) + 1 := by have := HS.out; rw [IntKind.wrap_i64]; omega
      have hb0 : w.heap.size ≤ wr.heap.size := KB.out.size
      obtain ⟨ao, cc, hform⟩ := KS.out.form
      rw [List.length_map] at hform
      obtain ⟨v', w', happ, hks, hgr⟩ := app_tx (Vb.ofL q) KS.out hb0 (by rw [List.length_map]; have := HS.out; omega) 28
      have hks' : Ks w.heap.size w' v' ((A ++ [q]).map Vb.ofL) := by rw [List.map_append]; exact hks
      have hbw : Below w.heap.size w w' := KB.out.trans (hgr.below hb0 KS.out.from)
      obtain ⟨ao', cc', hform'⟩ := hks.form
      have HAPP := keep happ
      have HKS := keep hks'
      have HBW := keep hbw
      subst hform
      by_cases hlt : i < s.size
      · have hil : i < l.length := by rw [HN.out]; exact hlt
        have hz : (i : Int) < (s.size : Int) := by omega
        obtain ⟨c, hc⟩ : ∃ c, c = s[i] := ⟨_, rfl⟩
        have hcl : l[i] = c := by
          rw [hc]
          have e : l = s.data.toList := HLL.out
          subst e
          rfl
        have hdr : l.drop i = c :: l.drop (i + 1) := by rw [List.drop_eq_getElem_cons hil, hcl]
        rw [hdr] at hrun
        unfold wrun at hrun
        have hbyte : ∀ wx, (Instr.index 9 (.string s) (.int .i64 (i : Int))).run Tryd.prog wx = .ok (.int .u8 (c.toNat : Int)) wx := fun wx => by
          rw [run_index_string _ _ s .i64 (i : Int) Tryd.underlying9, dif_pos ⟨by omega, by omega⟩]
          simp only [Int.toNat_natCast, ← hc]
        by_cases e : c = 32
        · rw [if_pos e] at hrun
          have hne : ((c.toNat : Int) != 32) = false := by rw [e]; rfl
          have HR := keep hrun
          have HAQ := keep hAq
          clear hc hcl hdr hrun hAq happ hks hks' hbw hgr hform' hb0 hil e
          go_wp2_with (first | (at_builtin; refine wpList_app_run rfl _ _ _ _ rfl _ _ _ rfl rfl HAPP.out ?_))
          go_roundw
          case measure => simp [intOf]; omega
          case rel => exact ⟨i + 1, A ++ [q], [], by omega, by rfl, rfl, ⟨fun _ => ⟨HR.out, by have := HAQ.out; simp; omega⟩, fun h => by omega⟩, HKS, HBW⟩
        · rw [if_neg e] at hrun
          have hne : ((c.toNat : Int) != 32) = true := by
            have h2 : c.toNat ≠ 32 := fun h => e (UInt8.toNat_inj.1 (by rw [h]; rfl))
            simp; omega
          obtain ⟨C, hC⟩ : ∃ C, C = Vb.ofL [c] := ⟨_, rfl⟩
          have hsl : ∀ wx, (Instr.slice 9 (.string s) (some (.int .i64 (i : Int))) (some (.int .i64 ((i : Int) + 1))) none).run Tryd.prog wx = .ok (.string C) wx := fun wx => by
            rw [run_slice_string wx 9 s .i64 .i64 (i : Int) ((i : Int) + 1) Tryd.underlying9 (by omega) (by omega) (by omega), hC]
            congr 2
            apply ByteArray.ext
            apply Array.toList_inj.1
            rw [ByteArray.data_extract, Array.toList_extract, List.extract_eq_take_drop, Vb.ofL_data]
            have e2 : s.data.toList = l := HLL.out.symm
            rw [e2, Int.toNat_natCast, show ((i : Int) + 1).toNat = i + 1 by omega, hdr, Nat.add_sub_cancel_left]
            rfl
          obtain ⟨Q, hQ⟩ : ∃ Q, Q = Vb.ofL q := ⟨_, rfl⟩
          obtain ⟨D, hD⟩ : ∃ D, D = Vb.ofL (q ++ [c]) := ⟨_, rfl⟩
          have hcat : ∀ wx : World, (Op.stringOp .add Q C).run Tryd.prog wx = .ok (.string D) wx := fun wx => by
            rw [run_string_add_sum wx _ _ (by rw [hQ, hC, Vb.ofL_size, Vb.ofL_size]; have := HS.out; simp; omega), hQ, hC, ofL_app, hD]
          have HR := keep hrun
          have HAQ := keep hAq
          have HD := keep hD
          rw [← hQ]
          clear hc hcl hdr hrun hAq happ hks hks' hbw hgr hform' hb0 hil e hC hQ hD
          go_wp2_with fail
          go_roundw
          case measure => simp [intOf]; omega
          case rel => exact ⟨i + 1, A, q ++ [c], by omega, by rfl, by rw [HD.out], ⟨fun _ => ⟨HR.out, by have := HAQ.out; simp; omega⟩, fun h => by omega⟩, KS, KB⟩
      · obtain rfl : i = s.size := by omega
        have hz : ¬ ((s.size : Nat) : Int) < (s.size : Int) := by omega
        rw [List.drop_of_length_le (by rw [HN.out]; exact Nat.le_refl _)] at hrun
        unfold wrun at hrun
        have HR := keep hrun
        clear hrun hAq happ hks hks' hbw hgr hform' hb0 hlt hlast hi
        go_wp2_with (first | (at_builtin; refine wpList_app_run rfl _ _ _ _ rfl _ _ _ rfl rfl HAPP.out ?_))
        go_roundw
        case measure => simp [intOf]
        case rel => exact ⟨s.size + 1, A ++ [q], [], by omega, by rfl, rfl, ⟨fun h => by omega, fun _ => HR.out⟩, HKS, HBW⟩
    · obtain rfl : i = s.size + 1 := by omega
      have hle : ¬ ((s.size + 1 : Nat) : Int) ≤ (s.size : Int) := by omega
      have hA := KR.out.2 rfl
      have HA := keep hA
      clear hA hlast hi
      go_wp2_with fail
      rw [HP.out]
      exact ⟨⟨_, rfl, by rw [← HLL.out, ← HA.out]; exact KS.out⟩, KB.out⟩
end Go.Proofs.YtaflggjgndkdlaaDoor
