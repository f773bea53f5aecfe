/-
  How a row of texts, and a row of numbers, that came in are read.
-/
import Derived.Test.YtlfpkbjiofelkaaGreatFlOpen
namespace Go.Proofs.YtlfpkbjiofelkaaGreat
open Go.ChangeShapes Go.WideShapes Go.ChangeAt Go.RowKit
set_option maxRecDepth 100000
theorem bytes_str : Tryz.prog.bytesOf 9 = 16 := by kernel_rfl
section
variable {H : Type} {enc : TypeId × Value → H} {W : World}
theorem open_texts1 {v : Value} {d : DataW H} {p : List MemPlace} {base : Nat} (o : Value.okWide Tryz.prog W .any base 43 v)
    (h : DataW.Trod enc Tryz.prog W 0 (fun _ => true) true 43 v d p) :
    ∃ so cap S, v = .slice so S.length cap ∧ Txts W so S ∧ ((d = .nil ∧ S = []) ∨ ∃ D E, d = .slice D E ∧ D.length = S.length) := by
  obtain ⟨a0, l0, c0, rfl⟩ := okWide_slice Tryz.underlying43 o
  obtain ⟨fuel, h⟩ := h
  rcases Go.Deep.open_slice Tryz.underlying43 h with ⟨hcs, hx⟩ | ⟨a, len, cap, m, n, D, Pl, hcs, _, hl, hm, hmm, hx, hel⟩
  · have hcs : [Value.slice a0 l0 c0] = [.slice none 0 0] := hcs
    cases hcs
    cases hx
    exact ⟨none, 0, [], rfl, fun j hj => absurd hj (by simp), .inl ⟨rfl, rfl⟩⟩
  · have hcs : [Value.slice a0 l0 c0] = [.slice (some a) len cap] := hcs
    cases hcs
    simp only [if_true] at hmm
    subst hmm
    have each : ∀ i, ∃ g : ByteArray, i < l0 → W.cell? (a.add i) = some (.string g) ∧ g.size ≤ maxLen := by
      intro i
      by_cases hi : i < l0
      · obtain ⟨cs', h1, h2⟩ := hel i (by omega)
        obtain ⟨g, hg, _, hw⟩ := DataW.trod_string Tryz.underlying9 h2
        rw [cells_str] at h1
        obtain ⟨_, _, hcl⟩ := World.cells?_some h1
        refine ⟨g, fun _ => ⟨?_, hw⟩⟩
        have e := hcl 0 (by omega)
        rw [hg, Nat.mul_one] at e
        exact e
      · exact ⟨.empty, fun h => absurd h hi⟩
    obtain ⟨f, hf⟩ := Classical.skolem.1 each
    have hL : ((List.range l0).map f).length = l0 := by simp
    cases hx
    refine ⟨some a, _, (List.range l0).map f, by rw [hL], fun i hi => ?_, .inr ⟨_, _, rfl, by simp⟩⟩
    rw [hL] at hi
    have e : ((List.range l0).map f)[i]'(by rw [hL]; exact hi) = f i := by simp
    rw [e]
    obtain ⟨g0, g1⟩ := hf i hi
    refine ⟨a, rfl, ?_, g1, g0⟩
    have := lt_cell g0
    rwa [add_block] at this
/-- the numbers of a row that came in, of a kind, each within P -/
def Nums (P : Int → Prop) (q : IntKind) (w : World) (so : Option Addr) (S : List Int) : Prop :=
  ∀ j (h : j < S.length), ∃ a, so = some a ∧ a.block < w.heap.size ∧ P S[j] ∧ w.cell? (a.add j) = some (.int q S[j])
theorem open_nums {t e : TypeId} {q : IntKind} (ht : Tryz.prog.underlying t = some (.slice e)) (he : Tryz.prog.underlying e = some (.int q)) (hc : Tryz.prog.cellsOf e = 1) {v : Value} {d : DataW H} {p : List MemPlace} {base : Nat} (o : Value.okWide Tryz.prog W .any base t v)
    (h : DataW.Trod enc Tryz.prog W 0 (fun _ => true) true t v d p) :
    ∃ so cap S, v = .slice so S.length cap ∧ Nums (fun x => (Lit.int q x).wf = true) q W so S := by
  obtain ⟨a0, l0, c0, rfl⟩ := okWide_slice ht o
  obtain ⟨fuel, h⟩ := h
  rcases Go.Deep.open_slice ht h with ⟨hcs, hx⟩ | ⟨a, len, cap, m, n, D, Pl, hcs, _, hl, hm, hmm, hx, hel⟩
  · have hcs : [Value.slice a0 l0 c0] = [.slice none 0 0] := hcs
    cases hcs
    cases hx
    exact ⟨none, 0, [], rfl, fun j hj => absurd hj (by simp)⟩
  · have hcs : [Value.slice a0 l0 c0] = [.slice (some a) len cap] := hcs
    cases hcs
    simp only [if_true] at hmm
    subst hmm
    have each : ∀ i, ∃ g : Int, i < l0 → W.cell? (a.add i) = some (.int q g) ∧ (Lit.int q g).wf = true := by
      intro i
      by_cases hi : i < l0
      · obtain ⟨cs', h1, h2⟩ := hel i (by omega)
        obtain ⟨g, hg, _, hw⟩ := DataW.trod_int he h2
        rw [hc] at h1
        obtain ⟨_, _, hcl⟩ := World.cells?_some h1
        refine ⟨g, fun _ => ⟨?_, hw⟩⟩
        have e := hcl 0 (by omega)
        rw [hg, Nat.mul_one] at e
        exact e
      · exact ⟨0, fun h => absurd h hi⟩
    obtain ⟨f, hf⟩ := Classical.skolem.1 each
    have hL : ((List.range l0).map f).length = l0 := by simp
    cases hx
    refine ⟨some a, _, (List.range l0).map f, by rw [hL], fun i hi => ?_⟩
    rw [hL] at hi
    have e : ((List.range l0).map f)[i]'(by rw [hL]; exact hi) = f i := by simp
    rw [e]
    obtain ⟨g0, g1⟩ := hf i hi
    refine ⟨a, rfl, ?_, g1, g0⟩
    have := lt_cell g0
    rwa [add_block] at this
end
end Go.Proofs.YtlfpkbjiofelkaaGreat
