/-
  How a row of steps (a change and a count) that came in is read.
-/
import Derived.Test.YtonaclojeggncaaScanOpen
namespace Go.Proofs.Ytonaclojeggncaa
open Go.ChangeShapes Go.WideShapes Go.ChangeAt Go.RowKit
set_option maxRecDepth 100000
structure Sp where
  op : Int
  key : ByteArray
  cnt : Int
def Sp.cells (o : Sp) : Array Value := #[.int .i64 o.op, .string o.key, .int .i64 o.cnt]
def SpAt (w : World) (a : Addr) (o : Sp) : Prop := w.cell? a = some (.int .i64 o.op) ∧ w.cell? ⟨a.block, a.off + 1, none⟩ = some (.string o.key) ∧ w.cell? ⟨a.block, a.off + 2, none⟩ = some (.int .i64 o.cnt)
def Sps (w : World) (so : Option Addr) (S : List Sp) : Prop :=
  ∀ j (h : j < S.length), ∃ a, so = some a ∧ a.block < w.heap.size ∧ S[j].key.size ≤ maxLen ∧ SpAt w (a.add (j * 3)) S[j]
theorem SpAt.bel {w w' : World} {B : Nat} {a : Addr} {o : Sp} (h : SpAt w a o) (hb : Below B w w') (ha : a.block < B) : SpAt w' a o :=
  ⟨(hb.cell ha).trans h.1, (hb.cell (p := ⟨a.block, a.off + 1, none⟩) ha).trans h.2.1, (hb.cell (p := ⟨a.block, a.off + 2, none⟩) ha).trans h.2.2⟩
theorem cells_sp : Try.prog.cellsOf 51 = 3 := by kernel_rfl
section
variable {H : Type} {enc : TypeId × Value → H} {W : World}
theorem open_sp {fuel : Nat} {cs : List Value} {x : DataW H × List MemPlace} (h : DataW.trod enc Try.prog W 0 (fun _ => true) true fuel 51 cs = some x) :
    ∃ g : Sp, cs = g.cells.toList ∧ g.key.size ≤ maxLen := by
  obtain ⟨xs, n, _, hx, hlen, hlx, hf⟩ := DataW.trod_struct Try.underlying51 h
  rw [cells_sp] at hlen
  match cs, hlen with
  | [c0, c1, c2], _ =>
    match xs, hlx with
    | [y0, y1], _ =>
      have h0 : DataW.trod enc Try.prog W 0 (fun _ => true) true n 32 [c0, c1] = some y0 := by simpa [cells_cg] using hf 0 _ rfl
      have h1 : DataW.trod enc Try.prog W 0 (fun _ => true) true n 3 [c2] = some y1 := by simpa [cells_i64, cells_cg] using hf 1 _ rfl
      obtain ⟨g, e0, hs⟩ := open_cg h0
      obtain ⟨k1, e1, _, _⟩ := DataW.trod_int Try.underlying3 h1
      unfold Cg.cells at e0
      simp at e0
      obtain ⟨rfl, rfl⟩ := e0
      cases e1
      exact ⟨⟨g.op, g.key, k1⟩, rfl, hs⟩
theorem open_sps {v : Value} {d : DataW H} {p : List MemPlace} {base : Nat} (o : Value.okWide Try.prog W .any base 46 v)
    (h : DataW.Trod enc Try.prog W 0 (fun _ => true) true 46 v d p) :
    ∃ so cap S, v = .slice so S.length cap ∧ Sps W so S := by
  obtain ⟨a0, l0, c0, rfl⟩ := okWide_slice Try.underlying46 o
  obtain ⟨fuel, h⟩ := h
  rcases Go.Deep.open_slice Try.underlying46 h with ⟨hcs, hx⟩ | ⟨a, len, cap, m, n, D, Pl, hcs, _, hl, hm, hmm, hx, hel⟩
  · have hcs : [Value.slice a0 l0 c0] = [.slice none 0 0] := hcs
    cases hcs
    cases hx
    exact ⟨none, 0, [], rfl, fun j hj => absurd hj (by simp)⟩
  · have hcs : [Value.slice a0 l0 c0] = [.slice (some a) len cap] := hcs
    cases hcs
    simp only [if_true] at hmm
    subst hmm
    have each : ∀ i, ∃ g : Sp, i < l0 → SpAt W (a.add (i * 3)) g ∧ g.key.size ≤ maxLen := by
      intro i
      by_cases hi : i < l0
      · obtain ⟨cs', h1, h2⟩ := hel i (by omega)
        obtain ⟨g, hc, hk⟩ := open_sp h2
        rw [cells_sp] at h1
        obtain ⟨_, _, hcl⟩ := World.cells?_some h1
        refine ⟨g, fun _ => ⟨⟨?_, ?_, ?_⟩, hk⟩⟩
        · have e := hcl 0 (by omega); rw [hc] at e; exact e
        · have e := hcl 1 (by omega); rw [hc] at e; exact e
        · have e := hcl 2 (by omega); rw [hc] at e; exact e
      · exact ⟨⟨0, .empty, 0⟩, fun h => absurd h hi⟩
    obtain ⟨f, hf⟩ := Classical.skolem.1 each
    have hL : ((List.range l0).map f).length = l0 := by simp
    cases hx
    refine ⟨some a, _, (List.range l0).map f, by rw [hL], fun i hi => ?_⟩
    rw [hL] at hi
    have e : ((List.range l0).map f)[i]'(by rw [hL]; exact hi) = f i := by simp
    rw [e]
    obtain ⟨g0, g1⟩ := hf i hi
    refine ⟨a, rfl, ?_, g1, g0⟩
    have := lt_cell g0.1
    rwa [add_block] at this
end
end Go.Proofs.Ytonaclojeggncaa
