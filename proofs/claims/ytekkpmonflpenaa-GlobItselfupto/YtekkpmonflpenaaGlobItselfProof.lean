/-
  Proof of the second form of GlobItself: an escaped text, and a text without signs, mean themselves alone.
-/
import Derived.Test.YtekkpmonflpenaaRows
import Derived.Test.YtekkpmonflpenaaGlobItself0
import Derived.WalkKit
import Derived.ProofKit
import Derived.OpenShut
import Derived.ShutString
import Derived.ChangeOld
import Derived.Below
import Derived.JoinedCond
namespace Go.Proofs.Ytekkpmonflpenaa.globItself
open Go.ChangeShapes Go.WideShapes Go.ChangeAt Go.RowKit
open Go.ChangeMaps (open_string shut_string)
set_option linter.unusedVariables false

theorem own : ownKnob Try.prog.godebug = none := by kernel_rfl
theorem short {H : Type} (a0 : ByteArray) (a1 : ByteArray) (hk : Rows.uptoSmall H [.lit (.string a0.data.toList), .lit (.string a1.data.toList)] = true) : a0.size ≤ 1048576 ∧ a1.size ≤ 1048576 := by
  have h : Rows.uptoBulkAll (H := H) [.lit (.string a0.data.toList), .lit (.string a1.data.toList)] ≤ 1048576 := of_decide_eq_true hk
  simp only [Rows.uptoBulkAll, Rows.uptoBulk] at h
  have e0 : a0.data.toList.length = a0.size := by rw [Array.length_toList]; rfl
  have e1 : a1.data.toList.length = a1.size := by rw [Array.length_toList]; rfl
  omega
set_option maxHeartbeats 8000000 in
set_option maxRecDepth 100000 in
theorem walk (a0 : ByteArray) (a1 : ByteArray) (b0 : a0.size ≤ 1048576) (b1 : a1.size ≤ 1048576) (w : World) :
    Calls Try.prog 7 #[.string a0, .string a1] w fun e w' => e = .returned (.bool true) ∧ Below w.heap.size w w' := by
  have mW := wakes_any
  have mE := fun w => escaped_any a0 w (by omega)
  have hes := Gb.escB_size a0
  have mP := fun w => plain_any (Gb.escB a0) w (by omega)
  rw [(Gb.esc_plain a0).1, (Gb.esc_plain a0).2] at mP
  have mM := fun t w h => match_any (Gb.escB a0) t w (by omega) h
  have hself : (a0.toList == a0.toList) = true := beq_self_eq_true _
  have mM0 := fun w => mM a0 w (by omega)
  have mM1 := fun w => mM a1 w (by omega)
  rw [Gb.esc_match, hself] at mM0
  rw [Gb.esc_match] at mM1
  clear mM
  have hq : ∃ q, (a0.toList == a1.toList) = q := ⟨_, rfl⟩
  clear hself hes
  obtain ⟨q, hq⟩ := hq
  rw [hq] at mM1
  cases q
  all_goals
    go_enter Try.func7, Try.ntmps7
    go_wp2_with fail
    refine (mW _).mono ?_
    rintro e w1 ⟨rfl, h1⟩
    go_wp2_with fail
    refine (mE _).mono ?_
    rintro e w2 ⟨rfl, h2⟩
    go_wp2_with fail
    refine (mP _).mono ?_
    rintro e w3 ⟨rfl, h3⟩
    go_wp2_with fail
    refine (mM0 _).mono ?_
    rintro e w4 ⟨rfl, h4⟩
    go_wp2_with fail
    refine (mM1 _).mono ?_
    rintro e w5 ⟨rfl, h5⟩
    have hb : Below w.heap.size w w5 := bel_trans (bel_trans (bel_trans (bel_trans h1 h2) h3) h4) h5
    clear h1 h2 h3 h4 h5
    go_wp2
    go_loopg [8] a0.size (fun g i wx => ∃ k : Nat, k + g = a0.size ∧ i = .int .i64 k ∧ Aside ((a0.data.toList.take k).all Gb.tame = true) ∧ Below w.heap.size w wx)
    case atStart => exact ⟨0, by omega, rfl, rfl, hb⟩
    case round =>
      clear hb
      obtain ⟨k, hk, rfl, hta, hb⟩ := hrel
      by_cases hlt : k < a0.size
      · by_cases c1 : (a0[k].toNat : Int) = 42
        · go_wp2
          go_ret
          exact ⟨rfl, hb⟩
        · by_cases c2 : (a0[k].toNat : Int) = 63
          · go_wp2
            go_ret
            exact ⟨rfl, hb⟩
          · by_cases c3 : (a0[k].toNat : Int) = 91
            · go_wp2
              go_ret
              exact ⟨rfl, hb⟩
            · by_cases c4 : (a0[k].toNat : Int) = 92
              · go_wp2
                go_ret
                exact ⟨rfl, hb⟩
              · have d1 : ((a0[k].toNat : Int) == 42) = false := beq_eq_false_iff_ne.2 c1
                have d2 : ((a0[k].toNat : Int) == 63) = false := beq_eq_false_iff_ne.2 c2
                have d3 : ((a0[k].toNat : Int) == 91) = false := beq_eq_false_iff_ne.2 c3
                have d4 : ((a0[k].toNat : Int) == 92) = false := beq_eq_false_iff_ne.2 c4
                have st : Aside ((a0.data.toList.take (k + 1)).all Gb.tame = true) := (Gb.tame_more hlt hta.out c1 c2 c3 c4)
                go_wp2
                go_roundg (a0.size - (k + 1))
                case rel => exact ⟨k + 1, by omega, by go_num, st, hb⟩
                case measure => omega
      · have hta2 := hta.out
        rw [Gb.take_all a0 k (by omega)] at hta2
        have nP := fun w => plain_any a0 w (by omega)
        rw [(Gb.tame_plain a0 hta2).1, (Gb.tame_plain a0 hta2).2] at nP
        have nM := fun w => match_any a0 a1 w (by omega) (by omega)
        rw [Gb.tame_match a0 a1 hta2, hq] at nM
        clear hta2
        go_wp2_with fail
        refine (nP _).mono ?_
        rintro e w6 ⟨rfl, h6⟩
        go_wp2_with fail
        refine (nM _).mono ?_
        rintro e w7 ⟨rfl, h7⟩
        go_wp2
        go_ret
        exact ⟨ret_b (by simp), bel_trans (bel_trans hb h6) h7⟩

theorem contract (H : Type) (enc : TypeId × Value → H) (W : World) (base : Nat) (args : Array Value) (ds gs : List (DataW H)) (before : List MemPlace)
    (hval : ∀ (j : Nat) t v, Try.f7.params[j]? = some t → args[j]? = some v → Value.okWide Try.prog W .any base t v)
    (hW : DataW.Whole enc Try.prog Try.f7.params.toList Rows.globItselfSpec.vars false W args.toList ds gs before) (hk : Rows.uptoSmall H (ds ++ gs) = true) :
    Calls Try.prog 7 args W fun e W' => ∃ v, e = .returned v ∧ Rows.globItselfSpec.post enc Try.prog Try.f7 false true false false W args v W' := by
  have hW' := hW
  obtain ⟨p, q, hA0, hV, rfl, hfz, hnd⟩ := hW
  have hA : DataW.TrodAll enc Try.prog W 0 (fun _ => true) true Try.f7.params.toList args.toList ds p := hA0
  rw [Try.params7] at hA hval
  obtain ⟨v0, vs0, d0, ds0, p0, q0, hargs, rfl, rfl, h0, r0⟩ := trodAll_cons hA
  obtain ⟨v1, vs1, d1, ds1, p1, q1, rfl, rfl, rfl, h1, r1⟩ := trodAll_cons r0
  obtain ⟨rfl, rfl, rfl⟩ := trodAll_nil r1
  obtain rfl : args = #[v0, v1] := by cases args; simp_all
  obtain ⟨rfl, rfl⟩ := trodVars_none hV
  obtain ⟨a0, rfl, rfl, rfl, w0⟩ := open_string Try.underlying9 (hval 0 9 v0 rfl rfl) h0
  obtain ⟨a1, rfl, rfl, rfl, w1⟩ := open_string Try.underlying9 (hval 1 9 v1 rfl rfl) h1
  clear hA0
  simp only [List.append_nil] at hW' hk
  obtain ⟨hb0, hb1⟩ := short a0 a1 hk
  refine (walk a0 a1 hb0 hb1 W).mono fun e W' ⟨he, bel⟩ => ?_
  subst he
  exact ⟨_, rfl, _, _, _, [], [], [], hW', trodAll_mk1 (shut_bool Try.underlying4 _), (trodAll_cons_mk (shut_string Try.underlying9 w0) (trodAll_cons_mk (shut_string Try.underlying9 w1) trodAll_mk0)), rfl, bel.frame _, fun h => by cases h⟩

set_option maxRecDepth 100000 in
theorem lifted (os : Os) (started : os.Started) (H : Type) (enc : TypeId × Value → H) (F : Stop.Interp) :
    ReturnsInHanded {} Try.checked os 7 .any ((Rows.OpenSpec.upto Rows.globItselfSpec).pre6 enc Try.prog Try.f7 Rows.globItselfUptoRow.domain false) (((Rows.OpenSpec.upto Rows.globItselfSpec).at F).post enc Try.prog Try.f7 false true false false) := by
  refine returnsInHanded_of_cond (C := Try.checked) (s := Rows.OpenSpec.upto Rows.globItselfSpec) (k := Rows.uptoSmall) rfl own started (by kernel_rfl) Try.func7
    (OpenSpec.witness (enc := enc) (C := Try.checked) (s := Rows.OpenSpec.upto Rows.globItselfSpec) (k := Rows.uptoSmall) rfl false ⟨#[], #[.string .empty, .string .empty], []⟩ 8 (by kernel_rfl) (by kernel_rfl) (by kernel_rfl)
      (x := ([.lit (.string []), .lit (.string [])], [], [])) (by kernel_rfl) rfl (by kernel_rfl)) ?_
  intro W base args ds gs before hval hW _ hk _
  exact contract H enc W base args ds gs before hval hW hk

theorem proved : Rows.GlobItselfUptoSaid :=
  OpenClaim.holds_of_cond 7 Try.f7 rfl rfl rfl rfl rfl rfl rfl ⟨rfl, rfl, rfl, rfl, rfl⟩ rfl rfl rfl rfl rfl (by kernel_rfl) Try.func7 (by kernel_rfl)
    (of_decide_eq_true (by kernel_rfl)) (by unfold Func.isWrapper; first | (rw [if_pos (by decide +kernel)]; kernel_rfl) | (rw [if_neg (by decide +kernel)]; exact ⟨rfl, rfl⟩))
    (fun os started H enc _ F => lifted os started H enc F)
end Go.Proofs.Ytekkpmonflpenaa.globItself

namespace Go.Proofs.Ytekkpmonflpenaa
theorem globItselfUpto_holds : Rows.GlobItselfUptoSaid := globItself.proved
end Go.Proofs.Ytekkpmonflpenaa
