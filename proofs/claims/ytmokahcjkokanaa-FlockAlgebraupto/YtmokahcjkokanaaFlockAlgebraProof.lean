/-
  FlockAlgebra, second form: who is in a union, in what all have, in a difference; the order of the others is nothing; a flock and itself; where the arguments hold at most 1048576 values and letters.
-/
import Derived.Test.YtmokahcjkokanaaRows
import Derived.Test.YtmokahcjkokanaaFlAlg3
import Derived.Test.YtmokahcjkokanaaFlOpen4
import Derived.Test.YtmokahcjkokanaaDraws
import Derived.WalkKit
import Derived.ProofKit
import Derived.OpenShut
import Derived.ShutString
import Derived.ChangeOld
import Derived.Below
import Derived.Carry
import Derived.ChangeSlices
import Derived.Deep.Slices
import Derived.JoinedCond
namespace Go.Proofs.Ytmokahcjkokanaa.flockAlgebra
open Go.ChangeShapes Go.WideShapes Go.ChangeAt Go.RowKit
open Go.ChangeMaps (open_string shut_string)
set_option linter.unusedVariables false

theorem own : ownKnob Try.prog.godebug = none := by kernel_rfl
theorem laid_out : laidOutB Try.prog = true := by kernel_rfl
set_option maxHeartbeats 8000000 in
set_option maxRecDepth 100000 in
theorem contract {H : Type} {enc : TypeId × Value → H} (W : World) {base : Nat} {v0 v1 : Value} {d0 d1 : DataW H} {p0 p1 : List MemPlace}
    (o0 : Value.okWide Try.prog W .any base 41 v0) (h0 : DataW.Trod enc Try.prog W 0 (fun _ => true) true 41 v0 d0 p0)
    (o1 : Value.okWide Try.prog W .any base 27 v1) (h1 : DataW.Trod enc Try.prog W 0 (fun _ => true) true 27 v1 d1 p1)
    (hk : Rows.uptoSmall H [d0, d1] = true) :
    Calls Try.prog 4 #[v0, v1] W fun e w' => e = .returned (.bool true) ∧ Below W.heap.size W w' := by
  obtain ⟨so, cs, R, hv0, hR, hRl⟩ := open_rows o0 h0
  obtain ⟨sa, ca, S, hv1, hS, hSl, hca⟩ := open_txts_at o1 h1
  have hD0 := open_rows_d hv0 hR h0
  have hD1 : Big d1 S.length := by
    obtain ⟨fuel, h⟩ := h1
    exact open_txts_d h (by subst hv1; rfl)
  have hone : ∀ d : DataW H, 1 ≤ Rows.uptoBulk d := by
    intro d
    unfold Rows.uptoBulk
    split <;> omega
  have hlen : ∀ D : List (DataW H), D.length ≤ Rows.uptoBulkAll D := by
    intro D
    induction D with
    | nil => exact Nat.zero_le _
    | cons d D ih =>
      have := hone d
      simp only [Rows.uptoBulkAll, List.length_cons]
      omega
  have hbig : ∀ (d : DataW H) (m : Nat), Big d m → m ≤ Rows.uptoBulk d := by
    intro d m hb
    rcases hb with ⟨rfl, rfl⟩ | ⟨D, E, rfl, rfl⟩
    · exact Nat.zero_le _
    · have := hlen D
      simp only [Rows.uptoBulk]
      omega
  have hall : ∀ (D : List (DataW H)) (R : List (List ByteArray)), D.length = R.length → (∀ j (hj : j < R.length) (hj' : j < D.length), Big D[j] R[j].length) → (R.map List.length).sum ≤ Rows.uptoBulkAll D := by
    intro D
    induction D with
    | nil => intro R hl _; rw [List.length_eq_zero_iff.1 hl.symm]; exact Nat.zero_le _
    | cons d D ih =>
      intro R hl hB
      cases R with
      | nil => exact Nat.zero_le _
      | cons r R =>
        have h1 := hbig d r.length (hB 0 (by simp) (by simp))
        have h2 := ih R (by simpa using hl) (fun j hj hj' => hB (j + 1) (by simpa using hj) (by simpa using hj'))
        simp only [Rows.uptoBulkAll, List.map_cons, List.sum_cons]
        omega
  have h : Rows.uptoBulkAll [d0, d1] ≤ 1048576 := of_decide_eq_true hk
  simp only [Rows.uptoBulkAll] at h
  have hb1 := hbig _ _ hD1
  have hb0 : R.length ≤ Rows.uptoBulk d0 ∧ (R.map List.length).sum ≤ Rows.uptoBulk d0 := by
    rcases hD0 with ⟨rfl, rfl⟩ | ⟨D, E, rfl, hl, hB⟩
    · exact ⟨Nat.zero_le _, Nat.zero_le _⟩
    · have g1 := hlen D
      have g2 := hall D R hl hB
      simp only [Rows.uptoBulk]
      omega
  subst hv0 hv1
  haveI : Inhabited Txt := ⟨⟨.empty, by decide⟩⟩
  exact alg_walk W so cs R hR sa ca S hS hca (by omega) (by omega)

set_option maxRecDepth 100000 in
theorem lifted (os : Os) (started : os.Started) (H : Type) (enc : TypeId × Value → H) (F : Stop.Interp) :
    ReturnsInHanded {} Try.checked os 4 .any ((Rows.OpenSpec.upto Rows.flockAlgebraSpec).pre6 enc Try.prog Try.f4 Rows.flockAlgebraUptoRow.domain false) (((Rows.OpenSpec.upto Rows.flockAlgebraSpec).at F).post enc Try.prog Try.f4 false true false false) := by
  refine returnsInHanded_of_cond (C := Try.checked) (s := Rows.OpenSpec.upto Rows.flockAlgebraSpec) (k := Rows.uptoSmall) rfl own started (by kernel_rfl) Try.func4
    (OpenSpec.witness (enc := enc) (C := Try.checked) (s := Rows.OpenSpec.upto Rows.flockAlgebraSpec) (k := Rows.uptoSmall) rfl false ⟨#[], #[.slice none 0 0, .slice none 0 0], []⟩ 8 (by kernel_rfl) (by kernel_rfl) (by kernel_rfl)
      (x := ([.nil, .nil], [], [])) (by kernel_rfl) rfl (by kernel_rfl)) ?_
  intro W base args ds gs before hval0 hW _ hk0 _
  have hval : ∀ (j : Nat) t v, Try.f4.params[j]? = some t → args[j]? = some v → Value.okWide Try.prog W .any base t v := hval0
  have hW' := hW
  obtain ⟨p, q, hA0, hV, rfl, hfz, hnd⟩ := hW
  have hA : DataW.TrodAll enc Try.prog W 0 (fun _ => true) true Try.f4.params.toList args.toList ds p := hA0
  rw [Try.params4] at hA hval
  obtain ⟨v0, vs0, d0, ds0, p0, q0, hargs, rfl, rfl, h0, r0⟩ := trodAll_cons hA
  obtain ⟨v1, vs1, d1, ds1, p1, q1, rfl, rfl, rfl, h1, r1⟩ := trodAll_cons r0
  obtain ⟨rfl, rfl, rfl⟩ := trodAll_nil r1
  obtain rfl : args = #[v0, v1] := by cases args; simp_all
  obtain ⟨rfl, rfl⟩ := trodVars_none hV
  clear hA0 hval0
  simp only [List.append_nil] at hW' hk0
  refine (contract (enc := enc) (base := base) W (hval 0 41 v0 rfl rfl) h0 (hval 1 27 v1 rfl rfl) h1 hk0).mono fun e W' ⟨he, bel⟩ => ?_
  subst he
  have l0 : ∀ x ∈ p0, x.block < W.heap.size := fun x hx => by simpa using hW'.lt x (by simp [hx])
  have l1 : ∀ x ∈ p1, x.block < W.heap.size := fun x hx => by simpa using hW'.lt x (by simp [hx])
  exact ⟨_, rfl, _, _, _, [], _, [], hW', trodAll_mk1 (shut_bool Try.underlying4 _), (trodAll_cons_mk (Below.trod laid_out (by kernel_rfl) (of_decide_eq_true (by kernel_rfl)) h0 bel l0) (trodAll_cons_mk (Below.trod laid_out (by kernel_rfl) (of_decide_eq_true (by kernel_rfl)) h1 bel l1) trodAll_mk0)), rfl, bel.frame _, fun h => by cases h⟩

theorem proved : Rows.FlockAlgebraUptoSaid :=
  OpenClaim.holds_of_cond 4 Try.f4 rfl rfl rfl rfl rfl rfl rfl ⟨rfl, rfl, rfl, rfl, rfl⟩ rfl rfl rfl rfl rfl (by kernel_rfl) Try.func4 (by kernel_rfl)
    (of_decide_eq_true (by kernel_rfl)) (by unfold Func.isWrapper; first | (rw [if_pos (by decide +kernel)]; kernel_rfl) | (rw [if_neg (by decide +kernel)]; exact ⟨rfl, rfl⟩))
    (fun os started H enc _ F => lifted os started H enc F)
end Go.Proofs.Ytmokahcjkokanaa.flockAlgebra

namespace Go.Proofs.Ytmokahcjkokanaa
theorem flockAlgebraUpto_holds : Rows.FlockAlgebraUptoSaid := flockAlgebra.proved
end Go.Proofs.Ytmokahcjkokanaa
