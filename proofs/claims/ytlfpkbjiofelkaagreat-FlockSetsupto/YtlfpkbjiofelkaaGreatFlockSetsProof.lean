/-
  For any rows of texts and any bools: flocks made of those rows, some of them none as the bools say, and the document's own flocks made of the same rows, tell the same unions, the same members of all, and the same differences; the rows that are told are the caller's own, the flocks that were handed in stay as they are, and each flock and each of its scans is what the document says. Condition: what is handed in has at most 1048576 elements in all, as the second form asks.
-/
import Derived.Test.YtlfpkbjiofelkaaGreatRows
import Derived.Test.YtlfpkbjiofelkaaGreatRdW4
import Derived.Test.YtlfpkbjiofelkaaGreatFlOpen4
import Derived.Test.YtlfpkbjiofelkaaGreatDraws
import Derived.WalkKit
import Derived.ProofKit
import Derived.OpenShut
import Derived.ShutString
import Derived.ChangeOld
import Derived.Below
import Derived.Carry
import Derived.ChangeSlices
import Derived.Deep.Slices
import Derived.JoinedCond
namespace Go.Proofs.YtlfpkbjiofelkaaGreat.flockSets
open Go.ChangeShapes Go.WideShapes Go.ChangeAt Go.RowKit
open Go.ChangeMaps (open_string shut_string)
set_option linter.unusedVariables false

theorem own : ownKnob Tryz.prog.godebug = none := by kernel_rfl
theorem laid_out : laidOutB Tryz.prog = true := by kernel_rfl
set_option maxHeartbeats 8000000 in
set_option maxRecDepth 100000 in
theorem contract {H : Type} {enc : TypeId × Value → H} (W : World) {base : Nat} {v0 v1 : Value} {d0 d1 : DataW H} {p0 p1 : List MemPlace}
    (o0 : Value.okWide Tryz.prog W .any base 39 v0) (h0 : DataW.Trod enc Tryz.prog W 0 (fun _ => true) true 39 v0 d0 p0)
    (o1 : Value.okWide Tryz.prog W .any base 40 v1) (h1 : DataW.Trod enc Tryz.prog W 0 (fun _ => true) true 40 v1 d1 p1)
    (hk : Rows.uptoSmall H [d0, d1] = true) :
    Calls Tryz.prog 4 #[v0, v1] W fun e w' => e = .returned (.bool true) ∧ Below W.heap.size W w' := by
  obtain ⟨so, cs, R, hv0, hR, hRl⟩ := open_rows o0 h0
  obtain ⟨sa, ca, S, hv1, hS⟩ := Rd.open_bools o1 h1
  have hD0 := open_rows_d hv0 hR h0
  have hone : ∀ d : DataW H, 1 ≤ Rows.uptoBulk d := by
    intro d
    unfold Rows.uptoBulk
    split <;> omega
  have hlen : ∀ D : List (DataW H), D.length ≤ Rows.uptoBulkAll D := by
    intro D
    induction D with
    | nil => exact Nat.zero_le _
    | cons d D ih =>
      have := hone d
      simp only [Rows.uptoBulkAll, List.length_cons]
      omega
  have hbig : ∀ (d : DataW H) (m : Nat), Big d m → m ≤ Rows.uptoBulk d := by
    intro d m hb
    rcases hb with ⟨rfl, rfl⟩ | ⟨D, E, rfl, rfl⟩
    · exact Nat.zero_le _
    · have := hlen D
      simp only [Rows.uptoBulk]
      omega
  have hall : ∀ (D : List (DataW H)) (R : List (List ByteArray)), D.length = R.length → (∀ j (hj : j < R.length) (hj' : j < D.length), Big D[j] R[j].length) → (R.map List.length).sum ≤ Rows.uptoBulkAll D := by
    intro D
    induction D with
    | nil => intro R hl _; rw [List.length_eq_zero_iff.1 hl.symm]; exact Nat.zero_le _
    | cons d D ih =>
      intro R hl hB
      cases R with
      | nil => exact Nat.zero_le _
      | cons r R =>
        have h1 := hbig d r.length (hB 0 (by simp) (by simp))
        have h2 := ih R (by simpa using hl) (fun j hj hj' => hB (j + 1) (by simpa using hj) (by simpa using hj'))
        simp only [Rows.uptoBulkAll, List.map_cons, List.sum_cons]
        omega
  have h : Rows.uptoBulkAll [d0, d1] ≤ 1048576 := of_decide_eq_true hk
  simp only [Rows.uptoBulkAll] at h
  have hb0 : R.length ≤ Rows.uptoBulk d0 ∧ (R.map List.length).sum ≤ Rows.uptoBulk d0 := by
    rcases hD0 with ⟨rfl, rfl⟩ | ⟨D, E, rfl, hl, hB⟩
    · exact ⟨Nat.zero_le _, Nat.zero_le _⟩
    · have g1 := hlen D
      have g2 := hall D R hl hB
      simp only [Rows.uptoBulk]
      omega
  subst hv0 hv1
  haveI : Inhabited Txt := ⟨⟨.empty, by decide⟩⟩
  exact Rd.sets_walk W so cs R hR sa ca S hS (by omega) (by omega)

set_option maxRecDepth 100000 in
theorem lifted (os : Os) (started : os.Started) (H : Type) (enc : TypeId × Value → H) (F : Stop.Interp) :
    ReturnsInHanded {} Tryz.checked os 4 .any ((Rows.OpenSpec.upto Rows.flockSetsSpec).pre6 enc Tryz.prog Tryz.f4 Rows.flockSetsUptoRow.domain false) (((Rows.OpenSpec.upto Rows.flockSetsSpec).at F).post enc Tryz.prog Tryz.f4 false true false false) := by
  refine returnsInHanded_of_cond (C := Tryz.checked) (s := Rows.OpenSpec.upto Rows.flockSetsSpec) (k := Rows.uptoSmall) rfl own started (by kernel_rfl) Tryz.func4
    (OpenSpec.witness (enc := enc) (C := Tryz.checked) (s := Rows.OpenSpec.upto Rows.flockSetsSpec) (k := Rows.uptoSmall) rfl false ⟨#[], #[.slice none 0 0, .slice none 0 0], []⟩ 8 (by kernel_rfl) (by kernel_rfl) (by kernel_rfl)
      (x := ([.nil, .nil], [], [])) (by kernel_rfl) rfl (by kernel_rfl)) ?_
  intro W base args ds gs before hval0 hW _ hk0 _
  have hval : ∀ (j : Nat) t v, Tryz.f4.params[j]? = some t → args[j]? = some v → Value.okWide Tryz.prog W .any base t v := hval0
  have hW' := hW
  obtain ⟨p, q, hA0, hV, rfl, hfz, hnd⟩ := hW
  have hA : DataW.TrodAll enc Tryz.prog W 0 (fun _ => true) true Tryz.f4.params.toList args.toList ds p := hA0
  rw [Tryz.params4] at hA hval
  obtain ⟨v0, vs0, d0, ds0, p0, q0, hargs, rfl, rfl, h0, r0⟩ := trodAll_cons hA
  obtain ⟨v1, vs1, d1, ds1, p1, q1, rfl, rfl, rfl, h1, r1⟩ := trodAll_cons r0
  obtain ⟨rfl, rfl, rfl⟩ := trodAll_nil r1
  obtain rfl : args = #[v0, v1] := by cases args; simp_all
  obtain ⟨rfl, rfl⟩ := trodVars_none hV
  clear hA0 hval0
  simp only [List.append_nil] at hW' hk0
  refine (contract (enc := enc) (base := base) W (hval 0 39 v0 rfl rfl) h0 (hval 1 40 v1 rfl rfl) h1 hk0).mono fun e W' ⟨he, bel⟩ => ?_
  subst he
  have l0 : ∀ x ∈ p0, x.block < W.heap.size := fun x hx => by simpa using hW'.lt x (by simp [hx])
  have l1 : ∀ x ∈ p1, x.block < W.heap.size := fun x hx => by simpa using hW'.lt x (by simp [hx])
  exact ⟨_, rfl, _, _, _, [], _, [], hW', trodAll_mk1 (shut_bool Tryz.underlying4 _), (trodAll_cons_mk (Below.trod laid_out (by kernel_rfl) (of_decide_eq_true (by kernel_rfl)) h0 bel l0) (trodAll_cons_mk (Below.trod laid_out (by kernel_rfl) (of_decide_eq_true (by kernel_rfl)) h1 bel l1) trodAll_mk0)), rfl, bel.frame _, fun h => by cases h⟩

set_option maxRecDepth 100000
theorem k1 : Rows.flockSetsUptoRow.wf (OpenSpec.ofChange (Rows.OpenSpec.upto Rows.flockSetsSpec).bare) = true := by kernel_rfl
theorem k2 : laidOutB Tryz.prog = true := by kernel_rfl
theorem k3 : mapsRowed Tryz.prog = true := by kernel_rfl
theorem k4 : Tryz.f4.params.all (Tryz.prog.readableRec ·) = true := by kernel_rfl
theorem k5 : namedTie Tryz.prog Rows.flockSetsUptoRow.named (Rows.OpenSpec.upto Rows.flockSetsSpec).bare.vars = true := by kernel_rfl
theorem k6 : (Rows.flockSetsUptoRow.stops == []) = true := by kernel_rfl
theorem k7 : (Tryz.prog.stops == []) = true := by kernel_rfl
theorem k8 : (Rows.flockSetsUptoRow.knobs == []) = true := by kernel_rfl
theorem k9 : (Tryz.prog.stopKnobs == []) = true := by kernel_rfl
theorem k10 : (Rows.flockSetsUptoRow.inPlace == Tryz.prog.inPlace 4) = true := by kernel_rfl
theorem k11 : (Rows.flockSetsUptoRow.unfollowed == Tryz.prog.unfollowed 4) = true := by kernel_rfl
theorem k12 : (Rows.flockSetsUptoRow.recurses == Tryz.prog.recurses 4) = true := by kernel_rfl
theorem k13 : (Rows.flockSetsUptoRow.named == Tryz.prog.varsNamed 4) = true := by kernel_rfl
theorem k14 : (Rows.flockSetsUptoRow.maps == (Tryz.f4.params.toList ++ (Rows.OpenSpec.upto Rows.flockSetsSpec).bare.plain.varTypes Tryz.prog).any (Tryz.prog.mapsRec ·)) = true := by kernel_rfl
theorem k15 : (Rows.flockSetsUptoRow.ifaces == (Tryz.f4.params.toList ++ (Rows.OpenSpec.upto Rows.flockSetsSpec).bare.plain.varTypes Tryz.prog).any (Tryz.prog.ifacesRec ·)) = true := by kernel_rfl
theorem k16 : (Rows.flockSetsUptoRow.mapsOut == Tryz.prog.mapsAmong Tryz.f4.resultTypes.toList) = true := by kernel_rfl
theorem k17 : (Rows.flockSetsUptoRow.loops == (Tryz.f4.params.toList ++ (Rows.OpenSpec.upto Rows.flockSetsSpec).bare.plain.varTypes Tryz.prog).any (Tryz.prog.loopsFrom ·)) = true := by kernel_rfl
theorem k17b : (Rows.flockSetsUptoRow.wideKeys == (Tryz.f4.params.toList ++ (Rows.OpenSpec.upto Rows.flockSetsSpec).bare.plain.varTypes Tryz.prog ++ Tryz.f4.resultTypes.toList).any (Tryz.prog.wideKeysFrom ·)) = true := by kernel_rfl
theorem k18 : (Rows.OpenSpec.upto Rows.flockSetsSpec).bare.vars.all (Tryz.prog.varReadable ·) = true := by kernel_rfl
theorem k19 : Tryz.f4.resultTypes.all (fun t => Tryz.prog.readableRec t && decide (t < Tryz.prog.types.size)) = true := by kernel_rfl
theorem k20 : (Rows.flockSetsUptoRow.ifacesOut == Tryz.f4.resultTypes.toList.any (Tryz.prog.ifacesRec ·)) = true := by kernel_rfl
theorem k21 : (Rows.flockSetsUptoRow.loopsOut == Tryz.f4.resultTypes.toList.any (Tryz.prog.loopsFrom ·)) = true := by kernel_rfl
theorem k22 : (Rows.flockSetsUptoRow.plainKeys == Tryz.prog.plainKeys) = true := by kernel_rfl
theorem k23 : Rows.flockSetsUptoRow.shortTexts.isNone = true := by kernel_rfl
theorem k23b : Tryz.prog.stopsHeard = true := by kernel_rfl
theorem k24 : Tryz.prog.mayEnter = true := by kernel_rfl
theorem k24b : (Rows.flockSetsUptoRow.lifted == Tryz.prog.liftsFinal) = true := by kernel_rfl
theorem k24c : (Tryz.prog.make == some Rows.flockSetsUptoRow.make) = true := by kernel_rfl
theorem closed : joinedFacts Tryz.prog 4 Tryz.f4 (Rows.OpenSpec.upto Rows.flockSetsSpec).bare Rows.flockSetsUptoRow = true := by
  unfold joinedFacts
  rw [k1, k2, k3, k4, k5, k6, k7, k8, k9, k10, k11, k12, k13, k14, k15, k16, k17, k17b, k18, k19, k20, k21, k22, k23, k23b, k24, k24b, k24c]
  kernel_rfl

theorem proved : Rows.FlockSetsUptoSaid :=
  OpenClaim.holds_of_cond 4 Tryz.f4 rfl rfl rfl rfl rfl rfl rfl ⟨rfl, rfl, rfl, rfl, rfl⟩ rfl rfl rfl rfl rfl (by kernel_rfl) Tryz.func4 closed
    (of_decide_eq_true (by kernel_rfl)) (by unfold Func.isWrapper; first | (rw [if_pos (by decide +kernel)]; kernel_rfl) | (rw [if_neg (by decide +kernel)]; exact ⟨rfl, rfl⟩))
    (fun os started H enc _ F => lifted os started H enc F)
end Go.Proofs.YtlfpkbjiofelkaaGreat.flockSets

namespace Go.Proofs.YtlfpkbjiofelkaaGreat
theorem flockSetsUpto_holds : Rows.FlockSetsUptoSaid := flockSets.proved
end Go.Proofs.YtlfpkbjiofelkaaGreat
