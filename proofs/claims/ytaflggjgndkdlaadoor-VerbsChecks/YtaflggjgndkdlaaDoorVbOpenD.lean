/-
  How a row of texts that came in is read, with how many there are at most.
-/
import Derived.Test.YtaflggjgndkdlaaDoorVbKeys
import Derived.Test.YtaflggjgndkdlaaDoorRows
import Derived.ChangeSlices
import Derived.SizedLaws
import Derived.ProofKit
import Derived.OpenShut
import Derived.Deep.Strs
import Derived.Deep.Slices
import Derived.Carry
import Derived.ShutString
namespace Go.Proofs.YtaflggjgndkdlaaDoor
open Go.ChangeShapes Go.WideShapes Go.ChangeAt Go.RowKit
set_option maxRecDepth 100000
theorem add_block (a : Addr) (j : Nat) : (a.add j).block = a.block := by unfold Addr.add; split <;> rfl
theorem cells_str : Tryd.prog.cellsOf 9 = 1 := by kernel_rfl
section
variable {H : Type} {enc : TypeId × Value → H} {W : World}
theorem bulk_one (d : DataW H) : 1 ≤ Rows.uptoBulk d := by
  unfold Rows.uptoBulk
  split <;> omega
theorem bulk_len (D : List (DataW H)) : D.length ≤ Rows.uptoBulkAll D := by
  induction D with
  | nil => exact Nat.zero_le _
  | cons d D ih =>
    have := bulk_one d
    simp only [Rows.uptoBulkAll, List.length_cons]
    omega
theorem sum_str (D E : List (DataW H)) (h : (DataW.weightsEach Tryd.prog [28] [DataW.slice D E]).all (fun x => decide (x ≤ reachBytes)) = true) : D.length ≤ 8796093021952 := by
  have e : DataW.weightsEach Tryd.prog [28] [DataW.slice D E] = ((D.length + E.length) * 16 :: (DataW.weightsAll Tryd.prog 9 D ++ DataW.weightsAll Tryd.prog 9 E)) ++ [] := by
    simp only [DataW.weightsEach, DataW.weights, Tryd.underlying28]
    rfl
  rw [e] at h
  simp only [List.append_nil, List.all_cons, Bool.and_eq_true, decide_eq_true_eq] at h
  have := h.1
  unfold reachBytes at this
  omega
theorem open_textsD {v : Value} {d : DataW H} {p : List MemPlace} {base : Nat} (o : Value.okWide Tryd.prog W .any base 28 v)
    (h : DataW.Trod enc Tryd.prog W 0 (fun _ => true) true 28 v d p) :
    ∃ so cap S, v = .slice so S.length cap ∧ Wd W so S ∧ S.length ≤ Rows.uptoBulk d ∧ ((DataW.weightsEach Tryd.prog [28] [d]).all (fun x => decide (x ≤ reachBytes)) = true → S.length ≤ 8796093021952) := by
  obtain ⟨a0, l0, c0, rfl⟩ := okWide_slice Tryd.underlying28 o
  obtain ⟨fuel, h⟩ := h
  rcases Go.Deep.open_slice Tryd.underlying28 h with ⟨hcs, hx⟩ | ⟨a, len, cap, m, n, D, Pl, hcs, _, hl, hm, hmm, hx, hel⟩
  · have hcs : [Value.slice a0 l0 c0] = [.slice none 0 0] := hcs
    cases hcs
    cases hx
    exact ⟨none, 0, [], rfl, fun j hj => absurd hj (by simp), Nat.zero_le _, fun _ => Nat.zero_le _⟩
  · have hcs : [Value.slice a0 l0 c0] = [.slice (some a) len cap] := hcs
    cases hcs
    simp only [if_true] at hmm
    subst hmm
    have each : ∀ i, ∃ g : ByteArray, i < l0 → W.cell? (a.add i) = some (.string g) ∧ g.size ≤ maxLen := by
      intro i
      by_cases hi : i < l0
      · obtain ⟨cs', h1, h2⟩ := hel i (by omega)
        obtain ⟨g, hg, _, hw⟩ := DataW.trod_string Tryd.underlying9 h2
        rw [cells_str] at h1
        obtain ⟨_, _, hcl⟩ := World.cells?_some h1
        refine ⟨g, fun _ => ⟨?_, hw⟩⟩
        have e := hcl 0 (by omega)
        rw [hg, Nat.mul_one] at e
        exact e
      · exact ⟨.empty, fun h => absurd h hi⟩
    obtain ⟨f, hf⟩ := Classical.skolem.1 each
    have hL : ((List.range l0).map f).length = l0 := by simp
    cases hx
    refine ⟨some a, _, (List.range l0).map f, by rw [hL], fun i hi => ?_, ?_, fun hw => ?_⟩
    · rw [hL] at hi
      have e : ((List.range l0).map f)[i]'(by rw [hL]; exact hi) = f i := by simp
      rw [e]
      obtain ⟨g0, g1⟩ := hf i hi
      refine ⟨a, rfl, ?_, g1, g0⟩
      have := World.block_lt_of_cell? _ _ g0
      rwa [add_block] at this
    · rw [hL]
      simp only [Rows.uptoBulk]
      refine Nat.le_trans ?_ (Nat.le_trans (Nat.le_add_right _ _) (Nat.le_add_right _ _))
      refine Nat.le_trans ?_ (bulk_len _)
      simp
    · rw [hL]
      have := sum_str _ _ hw
      simpa using this
end
end Go.Proofs.YtaflggjgndkdlaaDoor
