/-
  Proof of the second form of GlobStars: a star means all; between two stars a text means those in which it stands.
-/
import Derived.Test.YtekkpmonflpenaaRows
import Derived.Test.YtekkpmonflpenaaGlobStars0
import Derived.WalkKit
import Derived.ProofKit
import Derived.OpenShut
import Derived.ShutString
import Derived.ChangeOld
import Derived.Below
import Derived.JoinedCond
namespace Go.Proofs.Ytekkpmonflpenaa.globStars
open Go.ChangeShapes Go.WideShapes Go.ChangeAt Go.RowKit
open Go.ChangeMaps (open_string shut_string)
set_option linter.unusedVariables false

theorem own : ownKnob Try.prog.godebug = none := by kernel_rfl
theorem short {H : Type} (a0 : ByteArray) (a1 : ByteArray) (a2 : Int) (hk : Rows.uptoSmall H [.lit (.string a0.data.toList), .lit (.string a1.data.toList), .lit (.int .i64 a2)] = true) : a0.size ≤ 1048576 ∧ a1.size ≤ 1048576 := by
  have h : Rows.uptoBulkAll (H := H) [.lit (.string a0.data.toList), .lit (.string a1.data.toList), .lit (.int .i64 a2)] ≤ 1048576 := of_decide_eq_true hk
  simp only [Rows.uptoBulkAll, Rows.uptoBulk] at h
  have e0 : a0.data.toList.length = a0.size := by rw [Array.length_toList]; rfl
  have e1 : a1.data.toList.length = a1.size := by rw [Array.length_toList]; rfl
  omega
set_option maxHeartbeats 8000000 in
set_option maxRecDepth 100000 in
theorem walk (a0 : ByteArray) (a1 : ByteArray) (a2 : Int) (b0 : a0.size ≤ 1048576) (b1 : a1.size ≤ 1048576) (w2 : (Lit.int .i64 a2).wf = true) (w : World) :
    Calls Try.prog 8 #[.string a0, .string a1, .int .i64 a2] w fun e w' => e = .returned (.bool true) ∧ Below w.heap.size w w' := by
  have hw2 : -9223372036854775808 ≤ a2 ∧ a2 ≤ 9223372036854775807 := by simpa [Lit.wf, IntKind.min, IntKind.max, IntKind.signed, IntKind.bits] using w2
  have hS : (300 < a0.size ∧ ∃ S, a0.extract 0 300 = S ∧ S.size ≤ 300) ∨ (¬ 300 < a0.size ∧ ∃ S, S = a0 ∧ S.size ≤ 300) := by
    by_cases h : 300 < a0.size
    · exact .inl ⟨h, _, rfl, by rw [ByteArray.size_extract]; omega⟩
    · exact .inr ⟨h, _, rfl, by omega⟩
  have hT : (300 < a1.size ∧ ∃ T, a1.extract 0 300 = T ∧ T.size ≤ 300) ∨ (¬ 300 < a1.size ∧ ∃ T, T = a1 ∧ T.size ≤ 300) := by
    by_cases h : 300 < a1.size
    · exact .inl ⟨h, _, rfl, by rw [ByteArray.size_extract]; omega⟩
    · exact .inr ⟨h, _, rfl, by omega⟩
  have mW := wakes_any
  rcases hS with ⟨h0, S, hS, hs⟩ | ⟨h0, S, rfl, hs⟩ <;> rcases hT with ⟨h1, T, hT, ht⟩ | ⟨h1, T, rfl, ht⟩
  all_goals
    go_enter Try.func8, Try.ntmps8
    go_wp2_with fail
    refine (mW _).mono ?_
    rintro e w1 ⟨rfl, hb1⟩
    go_wp2
    go_loopg [7, 8] 9 (fun g v7 v8 wx => ∃ k : Nat, k + g = 9 ∧ k ≤ 8 ∧ v8 = .int .i64 k ∧ v7 = .string (Gb.st (k + 1)) ∧ wx = w1)
    case atStart => exact ⟨0, by omega, by omega, rfl, rfl, rfl⟩
    case round =>
      obtain ⟨k, hkg, hk8, rfl, rfl, rfl⟩ := hrel
      by_cases c : (k : Int) < a2 ∧ k < 8
      · obtain ⟨c1, c2⟩ := c
        have e1 := Gb.st_more (k + 1)
        have e2 := Gb.st_size (k + 1)
        go_wp2
        go_roundg (8 - k)
        case measure => omega
        case rel => exact ⟨k + 1, by omega, by omega, by go_num, rfl, rfl⟩
      · have cc : (¬ (k : Int) < a2) ∨ ((k : Int) < a2 ∧ k = 8) := by omega
        clear c
        have e2 := keep (Gb.st_size (k + 1))
        generalize hP : Gb.st (k + 1) = P at *
        have HP := keep hP
        clear hP
        rcases cc with c1 | ⟨c1, rfl⟩
        all_goals
          go_wp2
          go_loopg [9, 10] (S.size + 1) (fun g v9 v10 wx => ∃ j : Nat, j + g = S.size + 1 ∧ j ≤ S.size + 1 - T.size ∧ v10 = .int .i64 j ∧ v9 = .bool (Gb.stdB S T j) ∧ wx = wr)
          case atStart => exact ⟨0, by omega, by omega, rfl, rfl, rfl⟩
          case round =>
            obtain ⟨j, hjg, hj, rfl, rfl, rfl⟩ := hrel
            by_cases c3 : j + T.size ≤ S.size
            · cases hq : Gb.stdB S T j
              · obtain ⟨q, hq2⟩ : ∃ q, ((S.extract j (j + T.size)).toList == T.toList) = q := ⟨_, rfl⟩
                have e3 := keep (Gb.std_more hq2)
                have sl : ∀ u : World, (Instr.slice 9 (.string S) (some (.int .i64 (j : Int))) (some (.int .i64 ((j : Int) + (T.size : Int)))) none).run Try.prog u = .ok (.string (S.extract j (j + T.size))) u := fun u => by
                  have h := run_slice_string (P := Try.prog) (w := u) 9 S .i64 .i64 (j : Int) ((j + T.size : Nat) : Int) Try.underlying9 (by omega) (by omega) (by omega)
                  rw [show ((j + T.size : Nat) : Int) = (j : Int) + (T.size : Int) from by omega] at h
                  rw [h]
                  congr 3
                cases q
                all_goals
                  go_wp2
                  go_roundg (S.size - j)
                  case measure => omega
                  case rel => exact ⟨j + 1, by omega, by omega, by go_num, by rw [e3.out, hq]; rfl, rfl⟩
              · have e3 := keep (Gb.std_more (s := S) (t := T) (j := j) rfl)
                go_wp2
                go_roundg (S.size - j)
                case measure => omega
                case rel => exact ⟨j + 1, by omega, by omega, by go_num, by rw [e3.out, hq]; rfl, rfl⟩
            · have hj2 : j = S.size + 1 - T.size := by omega
              have e4 := e2.out
              have e5 := Gb.escB_size T
              have mP := fun w => plain_any P w (by omega)
              have mA := fun w => match_any P S w (by omega) (by omega)
              have mE := fun w => escaped_any T w (by omega)
              have mM := fun w => match_any (P ++ Gb.escB T ++ P) S w (by simp; omega) (by omega)
              have mF := fun w => match_any (Gb.escB T ++ P) (T ++ S) w (by simp; omega) (by simp; omega)
              have mB := fun w => match_any (P ++ Gb.escB T) (S ++ T) w (by simp; omega) (by simp; omega)
              rw [← HP.out] at mP mA mM mF mB
              rw [Gb.star_plain] at mP
              rw [Gb.star_all] at mA
              rw [Gb.star_mid, ← hj2] at mM
              rw [Gb.star_front] at mF
              rw [Gb.star_back] at mB
              rw [HP.out] at mP mA mM mF mB
              generalize Gb.stdB S T j = q at *
              go_wp2_with fail
              refine (mP _).mono ?_
              rintro e w3 ⟨rfl, hb3⟩
              go_wp2_with fail
              refine (mA _).mono ?_
              rintro e w4 ⟨rfl, hb4⟩
              go_wp2_with fail
              refine (mE _).mono ?_
              rintro e w5 ⟨rfl, hb5⟩
              go_wp2_with fail
              refine (mM _).mono ?_
              rintro e w6 ⟨rfl, hb6⟩
              go_wp2_with fail
              refine (mE _).mono ?_
              rintro e w7 ⟨rfl, hb7⟩
              go_wp2_with fail
              refine (mF _).mono ?_
              rintro e w8 ⟨rfl, hb8⟩
              go_wp2_with fail
              refine (mE _).mono ?_
              rintro e w9 ⟨rfl, hb9⟩
              go_wp2_with fail
              refine (mB _).mono ?_
              rintro e w10 ⟨rfl, hb10⟩
              go_wp2
              go_ret
              exact ⟨rfl, bel_trans (bel_trans (bel_trans (bel_trans (bel_trans (bel_trans (bel_trans (bel_trans hb1 hb3) hb4) hb5) hb6) hb7) hb8) hb9) hb10⟩

theorem contract (H : Type) (enc : TypeId × Value → H) (W : World) (base : Nat) (args : Array Value) (ds gs : List (DataW H)) (before : List MemPlace)
    (hval : ∀ (j : Nat) t v, Try.f8.params[j]? = some t → args[j]? = some v → Value.okWide Try.prog W .any base t v)
    (hW : DataW.Whole enc Try.prog Try.f8.params.toList Rows.globStarsSpec.vars false W args.toList ds gs before) (hk : Rows.uptoSmall H (ds ++ gs) = true) :
    Calls Try.prog 8 args W fun e W' => ∃ v, e = .returned v ∧ Rows.globStarsSpec.post enc Try.prog Try.f8 false true false false W args v W' := by
  have hW' := hW
  obtain ⟨p, q, hA0, hV, rfl, hfz, hnd⟩ := hW
  have hA : DataW.TrodAll enc Try.prog W 0 (fun _ => true) true Try.f8.params.toList args.toList ds p := hA0
  rw [Try.params8] at hA hval
  obtain ⟨v0, vs0, d0, ds0, p0, q0, hargs, rfl, rfl, h0, r0⟩ := trodAll_cons hA
  obtain ⟨v1, vs1, d1, ds1, p1, q1, rfl, rfl, rfl, h1, r1⟩ := trodAll_cons r0
  obtain ⟨v2, vs2, d2, ds2, p2, q2, rfl, rfl, rfl, h2, r2⟩ := trodAll_cons r1
  obtain ⟨rfl, rfl, rfl⟩ := trodAll_nil r2
  obtain rfl : args = #[v0, v1, v2] := by cases args; simp_all
  obtain ⟨rfl, rfl⟩ := trodVars_none hV
  obtain ⟨a0, rfl, rfl, rfl, w0⟩ := open_string Try.underlying9 (hval 0 9 v0 rfl rfl) h0
  obtain ⟨a1, rfl, rfl, rfl, w1⟩ := open_string Try.underlying9 (hval 1 9 v1 rfl rfl) h1
  obtain ⟨a2, rfl, rfl, rfl, w2⟩ := open_int Try.underlying3 (hval 2 3 v2 rfl rfl) h2
  clear hA0
  simp only [List.append_nil] at hW' hk
  obtain ⟨hb0, hb1⟩ := short a0 a1 a2 hk
  refine (walk a0 a1 a2 hb0 hb1 w2 W).mono fun e W' ⟨he, bel⟩ => ?_
  subst he
  exact ⟨_, rfl, _, _, _, [], [], [], hW', trodAll_mk1 (shut_bool Try.underlying4 _), (trodAll_cons_mk (shut_string Try.underlying9 w0) (trodAll_cons_mk (shut_string Try.underlying9 w1) (trodAll_cons_mk (shut_int Try.underlying3 w2) trodAll_mk0))), rfl, bel.frame _, fun h => by cases h⟩

set_option maxRecDepth 100000 in
theorem lifted (os : Os) (started : os.Started) (H : Type) (enc : TypeId × Value → H) (F : Stop.Interp) :
    ReturnsInHanded {} Try.checked os 8 .any ((Rows.OpenSpec.upto Rows.globStarsSpec).pre6 enc Try.prog Try.f8 Rows.globStarsUptoRow.domain false) (((Rows.OpenSpec.upto Rows.globStarsSpec).at F).post enc Try.prog Try.f8 false true false false) := by
  refine returnsInHanded_of_cond (C := Try.checked) (s := Rows.OpenSpec.upto Rows.globStarsSpec) (k := Rows.uptoSmall) rfl own started (by kernel_rfl) Try.func8
    (OpenSpec.witness (enc := enc) (C := Try.checked) (s := Rows.OpenSpec.upto Rows.globStarsSpec) (k := Rows.uptoSmall) rfl false ⟨#[], #[.string .empty, .string .empty, .int .i64 0], []⟩ 8 (by kernel_rfl) (by kernel_rfl) (by kernel_rfl)
      (x := ([.lit (.string []), .lit (.string []), .lit (.int .i64 0)], [], [])) (by kernel_rfl) rfl (by kernel_rfl)) ?_
  intro W base args ds gs before hval hW _ hk _
  exact contract H enc W base args ds gs before hval hW hk

theorem proved : Rows.GlobStarsUptoSaid :=
  OpenClaim.holds_of_cond 8 Try.f8 rfl rfl rfl rfl rfl rfl rfl ⟨rfl, rfl, rfl, rfl, rfl⟩ rfl rfl rfl rfl rfl (by kernel_rfl) Try.func8 (by kernel_rfl)
    (of_decide_eq_true (by kernel_rfl)) (by unfold Func.isWrapper; first | (rw [if_pos (by decide +kernel)]; kernel_rfl) | (rw [if_neg (by decide +kernel)]; exact ⟨rfl, rfl⟩))
    (fun os started H enc _ F => lifted os started H enc F)
end Go.Proofs.Ytekkpmonflpenaa.globStars

namespace Go.Proofs.Ytekkpmonflpenaa
theorem globStarsUpto_holds : Rows.GlobStarsUptoSaid := globStars.proved
end Go.Proofs.Ytekkpmonflpenaa
