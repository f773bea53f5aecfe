/-
  How a row of changes that came in is read: what the memory holds of it.
-/
import Derived.Test.YtnkladifalnmnaaScanNext1
import Derived.ChangeSlices
import Derived.SizedLaws
import Derived.ProofKit
import Derived.OpenShut
import Derived.Deep.Strs
import Derived.Deep.Slices
import Derived.Carry
import Derived.ShutString
namespace Go.Proofs.Ytnkladifalnmnaa
open Go.ChangeShapes Go.WideShapes Go.ChangeAt Go.RowKit
set_option maxRecDepth 100000
structure Cg where
  op : Int
  key : ByteArray
def Cg.cells (o : Cg) : Array Value := #[.int .i64 o.op, .string o.key]
/-- one change lies at an address -/
def CgAt (w : World) (a : Addr) (o : Cg) : Prop := w.cell? a = some (.int .i64 o.op) ∧ w.cell? ⟨a.block, a.off + 1, none⟩ = some (.string o.key)
/-- the changes of a row that came in -/
def Cgs (w : World) (so : Option Addr) (S : List Cg) : Prop :=
  ∀ j (h : j < S.length), ∃ a, so = some a ∧ a.block < w.heap.size ∧ S[j].key.size ≤ maxLen ∧ CgAt w (a.add (j * 2)) S[j]
theorem lt_cell {w : World} {a : Addr} {v : Value} (h : w.cell? a = some v) : a.block < w.heap.size := by
  rcases Nat.lt_or_ge a.block w.heap.size with h' | h'
  · exact h'
  · simp [World.cell?, Array.getElem?_eq_none h'] at h
theorem add_block (a : Addr) (j : Nat) : (a.add j).block = a.block := by unfold Addr.add; split <;> rfl
theorem CgAt.bel {w w' : World} {B : Nat} {a : Addr} {o : Cg} (h : CgAt w a o) (hb : Below B w w') (ha : a.block < B) : CgAt w' a o :=
  ⟨(hb.cell ha).trans h.1, (hb.cell (p := ⟨a.block, a.off + 1, none⟩) ha).trans h.2⟩
theorem cells_cg : Try.prog.cellsOf 32 = 2 := by kernel_rfl
theorem cells_i64 : Try.prog.cellsOf 3 = 1 := by kernel_rfl
theorem cells_str : Try.prog.cellsOf 9 = 1 := by kernel_rfl
section
variable {H : Type} {enc : TypeId × Value → H} {W : World}
theorem open_cg {fuel : Nat} {cs : List Value} {x : DataW H × List MemPlace} (h : DataW.trod enc Try.prog W 0 (fun _ => true) true fuel 32 cs = some x) :
    ∃ g : Cg, cs = g.cells.toList ∧ g.key.size ≤ maxLen := by
  obtain ⟨xs, n, _, hx, hlen, hlx, hf⟩ := DataW.trod_struct Try.underlying32 h
  rw [cells_cg] at hlen
  match cs, hlen with
  | [c0, c1], _ =>
    match xs, hlx with
    | [y0, y1], _ =>
      have h0 : DataW.trod enc Try.prog W 0 (fun _ => true) true n 3 [c0] = some y0 := by simpa [cells_i64] using hf 0 _ rfl
      have h1 : DataW.trod enc Try.prog W 0 (fun _ => true) true n 9 [c1] = some y1 := by simpa [cells_str] using hf 1 _ rfl
      obtain ⟨k0, e0, _, _⟩ := DataW.trod_int Try.underlying3 h0
      obtain ⟨s, e1, _, hs⟩ := DataW.trod_string Try.underlying9 h1
      cases e0; cases e1
      exact ⟨⟨k0, s⟩, rfl, hs⟩
theorem open_cgs {v : Value} {d : DataW H} {p : List MemPlace} {base : Nat} (o : Value.okWide Try.prog W .any base 23 v)
    (h : DataW.Trod enc Try.prog W 0 (fun _ => true) true 23 v d p) :
    ∃ so cap S, v = .slice so S.length cap ∧ Cgs W so S ∧ S.length ≤ cap := by
  obtain ⟨a0, l0, c0, rfl⟩ := okWide_slice Try.underlying23 o
  obtain ⟨fuel, h⟩ := h
  rcases Go.Deep.open_slice Try.underlying23 h with ⟨hcs, hx⟩ | ⟨a, len, cap, m, n, D, Pl, hcs, _, hl, hm, hmm, hx, hel⟩
  · have hcs : [Value.slice a0 l0 c0] = [.slice none 0 0] := hcs
    cases hcs
    cases hx
    exact ⟨none, 0, [], rfl, fun j hj => absurd hj (by simp), Nat.le_refl _⟩
  · have hcs : [Value.slice a0 l0 c0] = [.slice (some a) len cap] := hcs
    cases hcs
    simp only [if_true] at hmm
    subst hmm
    have each : ∀ i, ∃ g : Cg, i < l0 → CgAt W (a.add (i * 2)) g ∧ g.key.size ≤ maxLen := by
      intro i
      by_cases hi : i < l0
      · obtain ⟨cs', h1, h2⟩ := hel i (by omega)
        obtain ⟨g, hc, hk⟩ := open_cg h2
        rw [cells_cg] at h1
        obtain ⟨_, _, hcl⟩ := World.cells?_some h1
        refine ⟨g, fun _ => ⟨⟨?_, ?_⟩, hk⟩⟩
        · have e := hcl 0 (by omega); rw [hc] at e; exact e
        · have e := hcl 1 (by omega); rw [hc] at e; exact e
      · exact ⟨⟨0, .empty⟩, fun h => absurd h hi⟩
    obtain ⟨f, hf⟩ := Classical.skolem.1 each
    have hL : ((List.range l0).map f).length = l0 := by simp
    cases hx
    refine ⟨some a, _, (List.range l0).map f, by rw [hL], fun i hi => ?_, by rw [hL]; omega⟩
    rw [hL] at hi
    have e : ((List.range l0).map f)[i]'(by rw [hL]; exact hi) = f i := by simp
    rw [e]
    obtain ⟨g0, g1⟩ := hf i hi
    refine ⟨a, rfl, ?_, g1, g0⟩
    have := lt_cell g0.1
    rwa [add_block] at this
end
end Go.Proofs.Ytnkladifalnmnaa
