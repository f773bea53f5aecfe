/-
  How the bools of a row that came in are opened.
-/
import Derived.Test.YtlfpkbjiofelkaaGreatRdW3
import Derived.Test.YtlfpkbjiofelkaaGreatFlOpen4
namespace Go.Proofs.YtlfpkbjiofelkaaGreat
open Go.ChangeShapes Go.WideShapes Go.ChangeAt Go.RowKit
set_option maxRecDepth 100000
namespace Rd
theorem cells_bool : Tryz.prog.cellsOf 4 = 1 := by kernel_rfl
section
variable {H : Type} {enc : TypeId × Value → H} {W : World}
theorem open_bools {v : Value} {d : DataW H} {p : List MemPlace} {base : Nat} (o : Value.okWide Tryz.prog W .any base 40 v)
    (h : DataW.Trod enc Tryz.prog W 0 (fun _ => true) true 40 v d p) :
    ∃ so cap S, v = .slice so S.length cap ∧ Bools W so S := by
  obtain ⟨a0, l0, c0, rfl⟩ := okWide_slice Tryz.underlying40 o
  obtain ⟨fuel, h⟩ := h
  rcases Go.Deep.open_slice Tryz.underlying40 h with ⟨hcs, hx⟩ | ⟨a, len, cap, m, n, D, Pl, hcs, _, hl, hm, hmm, hx, hel⟩
  · have hcs : [Value.slice a0 l0 c0] = [.slice none 0 0] := hcs
    cases hcs
    cases hx
    exact ⟨none, 0, [], rfl, fun j hj => absurd hj (by simp)⟩
  · have hcs : [Value.slice a0 l0 c0] = [.slice (some a) len cap] := hcs
    cases hcs
    simp only [if_true] at hmm
    subst hmm
    have each : ∀ i, ∃ g : Bool, i < l0 → W.cell? (a.add i) = some (.bool g) := by
      intro i
      by_cases hi : i < l0
      · obtain ⟨cs', h1, h2⟩ := hel i (by omega)
        obtain ⟨g, hg, _⟩ := DataW.trod_bool Tryz.underlying4 h2
        rw [cells_bool] at h1
        obtain ⟨_, _, hcl⟩ := World.cells?_some h1
        refine ⟨g, fun _ => ?_⟩
        have e := hcl 0 (by omega)
        rw [hg, Nat.mul_one] at e
        exact e
      · exact ⟨false, fun h => absurd h hi⟩
    obtain ⟨f, hf⟩ := Classical.skolem.1 each
    have hL : ((List.range l0).map f).length = l0 := by simp
    cases hx
    refine ⟨some a, _, (List.range l0).map f, by rw [hL], fun i hi => ?_⟩
    rw [hL] at hi
    have e : ((List.range l0).map f)[i]'(by rw [hL]; exact hi) = f i := by simp
    rw [e]
    have g0 := hf i hi
    refine ⟨a, rfl, ?_, g0⟩
    have := lt_cell g0
    rwa [add_block] at this
end
end Rd
end Go.Proofs.YtlfpkbjiofelkaaGreat
