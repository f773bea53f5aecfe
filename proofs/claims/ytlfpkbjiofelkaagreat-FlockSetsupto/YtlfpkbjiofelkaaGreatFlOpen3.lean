/-
  How a row of rows of texts that came in is read.
-/
import Derived.Test.YtlfpkbjiofelkaaGreatFlOpen2
namespace Go.Proofs.YtlfpkbjiofelkaaGreat
open Go.ChangeShapes Go.WideShapes Go.ChangeAt Go.RowKit
set_option maxRecDepth 100000
theorem cells_strs : Tryz.prog.cellsOf 43 = 1 := by kernel_rfl
section
variable {H : Type} {enc : TypeId × Value → H} {W : World}
theorem open_txts_in {fuel : Nat} {cs : List Value} {x : DataW H × List MemPlace} (h : DataW.trod enc Tryz.prog W 0 (fun _ => true) true fuel 43 cs = some x) :
    ∃ so cap S, cs = [.slice so S.length cap] ∧ Txts W so S ∧ S.length ≤ maxLen ∧ (so = none → cap = 0) := by
  rcases Go.Deep.open_slice Tryz.underlying43 h with ⟨hcs, hx⟩ | ⟨a, l0, cap, m, n, D, Pl, hcs, _, hl, hm, hmm, hx, hel⟩
  · exact ⟨none, 0, [], hcs, fun j hj => absurd hj (by simp), Nat.zero_le _, fun _ => rfl⟩
  · simp only [if_true] at hmm
    subst hmm
    have each : ∀ i, ∃ g : ByteArray, i < l0 → W.cell? (a.add i) = some (.string g) ∧ g.size ≤ maxLen := by
      intro i
      by_cases hi : i < l0
      · obtain ⟨cs', h1, h2⟩ := hel i (by omega)
        obtain ⟨g, hg, _, hw⟩ := DataW.trod_string Tryz.underlying9 h2
        rw [cells_str] at h1
        obtain ⟨_, _, hcl⟩ := World.cells?_some h1
        refine ⟨g, fun _ => ⟨?_, hw⟩⟩
        have e := hcl 0 (by omega)
        rw [hg, Nat.mul_one] at e
        exact e
      · exact ⟨.empty, fun h => absurd h hi⟩
    obtain ⟨f, hf⟩ := Classical.skolem.1 each
    have hL : ((List.range l0).map f).length = l0 := by simp
    refine ⟨some a, _, (List.range l0).map f, by rw [hL]; exact hcs, fun i hi => ?_, by rw [hL]; exact Nat.le_trans hl hm, fun e => by cases e⟩
    rw [hL] at hi
    have e : ((List.range l0).map f)[i]'(by rw [hL]; exact hi) = f i := by simp
    rw [e]
    obtain ⟨g0, g1⟩ := hf i hi
    refine ⟨a, rfl, ?_, g1, g0⟩
    have := lt_cell g0
    rwa [add_block] at this
/-- the rows of texts of a row that came in -/
def Rowss (w : World) (so : Option Addr) (R : List (List ByteArray)) : Prop :=
  ∀ j (h : j < R.length), ∃ a, so = some a ∧ a.block < w.heap.size ∧ ∃ so' cap', w.cell? (a.add j) = some (.slice so' R[j].length cap') ∧ Txts w so' R[j] ∧ R[j].length ≤ maxLen ∧ (so' = none → cap' = 0)
theorem open_rows {v : Value} {d : DataW H} {p : List MemPlace} {base : Nat} (o : Value.okWide Tryz.prog W .any base 39 v)
    (h : DataW.Trod enc Tryz.prog W 0 (fun _ => true) true 39 v d p) :
    ∃ so cap R, v = .slice so R.length cap ∧ Rowss W so R ∧ R.length ≤ maxLen := by
  obtain ⟨a0, l0, c0, rfl⟩ := okWide_slice Tryz.underlying39 o
  obtain ⟨fuel, h⟩ := h
  rcases Go.Deep.open_slice Tryz.underlying39 h with ⟨hcs, hx⟩ | ⟨a, len, cap, m, n, D, Pl, hcs, _, hl, hm, hmm, hx, hel⟩
  · have hcs : [Value.slice a0 l0 c0] = [.slice none 0 0] := hcs
    cases hcs
    cases hx
    exact ⟨none, 0, [], rfl, fun j hj => absurd hj (by simp), Nat.zero_le _⟩
  · have hcs : [Value.slice a0 l0 c0] = [.slice (some a) len cap] := hcs
    cases hcs
    simp only [if_true] at hmm
    subst hmm
    have each : ∀ i, ∃ g : List ByteArray, i < l0 → ∃ so' cap', W.cell? (a.add i) = some (.slice so' g.length cap') ∧ Txts W so' g ∧ g.length ≤ maxLen ∧ (so' = none → cap' = 0) := by
      intro i
      by_cases hi : i < l0
      · obtain ⟨cs', h1, h2⟩ := hel i (by omega)
        obtain ⟨so', cap', g, hg, hT, hw, hc0⟩ := open_txts_in h2
        rw [cells_strs] at h1
        obtain ⟨_, _, hcl⟩ := World.cells?_some h1
        refine ⟨g, fun _ => ⟨so', cap', ?_, hT, hw, hc0⟩⟩
        have e := hcl 0 (by omega)
        rw [hg, Nat.mul_one] at e
        exact e
      · exact ⟨[], fun h => absurd h hi⟩
    obtain ⟨f, hf⟩ := Classical.skolem.1 each
    have hL : ((List.range l0).map f).length = l0 := by simp
    cases hx
    refine ⟨some a, _, (List.range l0).map f, by rw [hL], fun i hi => ?_, by rw [hL]; exact Nat.le_trans hl hm⟩
    rw [hL] at hi
    have e : ((List.range l0).map f)[i]'(by rw [hL]; exact hi) = f i := by simp
    rw [e]
    obtain ⟨so', cap', g0, g1, g2, g3⟩ := hf i hi
    refine ⟨a, rfl, ?_, so', cap', g0, g1, g2, g3⟩
    have := lt_cell g0
    rwa [add_block] at this
/-- a row of texts that came in, none of it being of no room -/
theorem open_txts_at {v : Value} {d : DataW H} {p : List MemPlace} {base : Nat} (o : Value.okWide Tryz.prog W .any base 43 v)
    (h : DataW.Trod enc Tryz.prog W 0 (fun _ => true) true 43 v d p) : ∃ so cap S, v = .slice so S.length cap ∧ Txts W so S ∧ S.length ≤ maxLen ∧ (so = none → cap = 0) := by
  obtain ⟨a0, l0, c0, rfl⟩ := okWide_slice Tryz.underlying43 o
  obtain ⟨fuel, h⟩ := h
  obtain ⟨so, cap, S, hcs, hT, hl, hc⟩ := open_txts_in h
  have hcs : [Value.slice a0 l0 c0] = [.slice so S.length cap] := hcs
  cases hcs
  exact ⟨_, _, S, rfl, hT, hl, hc⟩
end
theorem Txts.bel {w w' : World} {B : Nat} {so : Option Addr} {S : List ByteArray} (h : Txts w so S) (hb : Below B w w') (hB : w.heap.size ≤ B) : Txts w' so S := fun j hj => by
  obtain ⟨a, e, hab, h1, h2⟩ := h j hj
  exact ⟨a, e, Nat.lt_of_lt_of_le hab hb.size, h1, (hb.cell (by rw [add_block]; omega)).trans h2⟩
theorem Rowss.bel {w w' : World} {B : Nat} {so : Option Addr} {R : List (List ByteArray)} (h : Rowss w so R) (hb : Below B w w') (hB : w.heap.size ≤ B) : Rowss w' so R := fun j hj => by
  obtain ⟨a, e, hab, so', cap', h1, h2, h3⟩ := h j hj
  exact ⟨a, e, Nat.lt_of_lt_of_le hab hb.size, so', cap', (hb.cell (by rw [add_block]; omega)).trans h1, h2.bel hb hB, h3⟩
end Go.Proofs.YtlfpkbjiofelkaaGreat
