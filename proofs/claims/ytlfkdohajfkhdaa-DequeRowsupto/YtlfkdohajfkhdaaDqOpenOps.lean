/-
  How a script of ops that came in is read.
-/
import Derived.Test.YtlfkdohajfkhdaaDqOpen
namespace Go.Proofs.Ytlfkdohajfkhdaa
open Go.ChangeShapes Go.WideShapes Go.ChangeAt Go.RowKit
set_option maxRecDepth 100000
structure Opn where
  who : Int
  act : Int
  i : Int
  j : Int
  fl : Bool
  s : ByteArray
  big : Int
def Opn.cells (o : Opn) : Array Value := #[.int .i64 o.who, .int .i64 o.act, .int .i64 o.i, .int .i64 o.j, .bool o.fl, .string o.s, .int .i64 o.big]
/-- one op lies at an address -/
def OpnAt (w : World) (a : Addr) (o : Opn) : Prop :=
  w.cell? a = some (.int .i64 o.who) ∧ w.cell? ⟨a.block, a.off + 1, none⟩ = some (.int .i64 o.act) ∧ w.cell? ⟨a.block, a.off + 2, none⟩ = some (.int .i64 o.i) ∧ w.cell? ⟨a.block, a.off + 3, none⟩ = some (.int .i64 o.j) ∧ w.cell? ⟨a.block, a.off + 4, none⟩ = some (.bool o.fl) ∧ w.cell? ⟨a.block, a.off + 5, none⟩ = some (.string o.s) ∧ w.cell? ⟨a.block, a.off + 6, none⟩ = some (.int .i64 o.big)
/-- what such an op may be -/
def OpnOk (o : Opn) : Prop := o.s.size ≤ maxLen ∧ (Lit.int .i64 o.who).wf = true ∧ (Lit.int .i64 o.act).wf = true ∧ (Lit.int .i64 o.i).wf = true ∧ (Lit.int .i64 o.j).wf = true ∧ (Lit.int .i64 o.big).wf = true
/-- the ops of a script that came in -/
def Opns (w : World) (so : Option Addr) (S : List Opn) : Prop :=
  ∀ j (h : j < S.length), ∃ a, so = some a ∧ a.block < w.heap.size ∧ OpnOk S[j] ∧ OpnAt w (a.add (j * 7)) S[j]
theorem OpnAt.bel {w w' : World} {B : Nat} {a : Addr} {o : Opn} (h : OpnAt w a o) (hb : Below B w w') (ha : a.block < B) : OpnAt w' a o :=
  ⟨(hb.cell ha).trans h.1, (hb.cell (p := ⟨a.block, a.off + 1, none⟩) ha).trans h.2.1, (hb.cell (p := ⟨a.block, a.off + 2, none⟩) ha).trans h.2.2.1, (hb.cell (p := ⟨a.block, a.off + 3, none⟩) ha).trans h.2.2.2.1, (hb.cell (p := ⟨a.block, a.off + 4, none⟩) ha).trans h.2.2.2.2.1, (hb.cell (p := ⟨a.block, a.off + 5, none⟩) ha).trans h.2.2.2.2.2.1, (hb.cell (p := ⟨a.block, a.off + 6, none⟩) ha).trans h.2.2.2.2.2.2⟩
theorem cells_op : Try.prog.cellsOf 28 = 7 := by kernel_rfl
theorem cells_i64 : Try.prog.cellsOf 3 = 1 := by kernel_rfl
theorem cells_bool : Try.prog.cellsOf 4 = 1 := by kernel_rfl
section
variable {H : Type} {enc : TypeId × Value → H} {W : World}
theorem open_op {fuel : Nat} {cs : List Value} {x : DataW H × List MemPlace} (h : DataW.trod enc Try.prog W 0 (fun _ => true) true fuel 28 cs = some x) :
    ∃ g : Opn, cs = g.cells.toList ∧ OpnOk g := by
  obtain ⟨xs, n, _, hx, hlen, hlx, hf⟩ := DataW.trod_struct Try.underlying28 h
  rw [cells_op] at hlen
  match cs, hlen with
  | [c0, c1, c2, c3, c4, c5, c6], _ =>
    match xs, hlx with
    | [y0, y1, y2, y3, y4, y5, y6], _ =>
      have h0 : DataW.trod enc Try.prog W 0 (fun _ => true) true n 3 [c0] = some y0 := by simpa [cells_i64] using hf 0 _ rfl
      have h1 : DataW.trod enc Try.prog W 0 (fun _ => true) true n 3 [c1] = some y1 := by simpa [cells_i64] using hf 1 _ rfl
      have h2 : DataW.trod enc Try.prog W 0 (fun _ => true) true n 3 [c2] = some y2 := by simpa [cells_i64] using hf 2 _ rfl
      have h3 : DataW.trod enc Try.prog W 0 (fun _ => true) true n 3 [c3] = some y3 := by simpa [cells_i64] using hf 3 _ rfl
      have h4 : DataW.trod enc Try.prog W 0 (fun _ => true) true n 4 [c4] = some y4 := by simpa [cells_bool] using hf 4 _ rfl
      have h5 : DataW.trod enc Try.prog W 0 (fun _ => true) true n 9 [c5] = some y5 := by simpa [cells_str] using hf 5 _ rfl
      have h6 : DataW.trod enc Try.prog W 0 (fun _ => true) true n 3 [c6] = some y6 := by simpa [cells_i64] using hf 6 _ rfl
      obtain ⟨k0, e0, _, w0⟩ := DataW.trod_int Try.underlying3 h0
      obtain ⟨k1, e1, _, w1⟩ := DataW.trod_int Try.underlying3 h1
      obtain ⟨k2, e2, _, w2⟩ := DataW.trod_int Try.underlying3 h2
      obtain ⟨k3, e3, _, w3⟩ := DataW.trod_int Try.underlying3 h3
      obtain ⟨k4, e4, _⟩ := DataW.trod_bool Try.underlying4 h4
      obtain ⟨s5, e5, _, hs5⟩ := DataW.trod_string Try.underlying9 h5
      obtain ⟨k6, e6, _, w6⟩ := DataW.trod_int Try.underlying3 h6
      cases e0; cases e1; cases e2; cases e3; cases e4; cases e5; cases e6
      exact ⟨⟨k0, k1, k2, k3, k4, s5, k6⟩, rfl, hs5, w0, w1, w2, w3, w6⟩
theorem open_ops {v : Value} {d : DataW H} {p : List MemPlace} {base : Nat} (o : Value.okWide Try.prog W .any base 22 v)
    (h : DataW.Trod enc Try.prog W 0 (fun _ => true) true 22 v d p) :
    ∃ so cap S, v = .slice so S.length cap ∧ Opns W so S ∧ S.length ≤ maxLen := by
  obtain ⟨a0, l0, c0, rfl⟩ := okWide_slice Try.underlying22 o
  obtain ⟨fuel, h⟩ := h
  rcases Go.Deep.open_slice Try.underlying22 h with ⟨hcs, hx⟩ | ⟨a, len, cap, m, n, D, Pl, hcs, _, hl, hm, hmm, hx, hel⟩
  · have hcs : [Value.slice a0 l0 c0] = [.slice none 0 0] := hcs
    cases hcs
    cases hx
    exact ⟨none, 0, [], rfl, fun j hj => absurd hj (by simp), Nat.zero_le _⟩
  · have hcs : [Value.slice a0 l0 c0] = [.slice (some a) len cap] := hcs
    cases hcs
    simp only [if_true] at hmm
    subst hmm
    have each : ∀ i, ∃ g : Opn, i < l0 → OpnAt W (a.add (i * 7)) g ∧ OpnOk g := by
      intro i
      by_cases hi : i < l0
      · obtain ⟨cs', h1, h2⟩ := hel i (by omega)
        obtain ⟨g, hc, hk⟩ := open_op h2
        rw [cells_op] at h1
        obtain ⟨_, _, hcl⟩ := World.cells?_some h1
        refine ⟨g, fun _ => ⟨⟨?_, ?_, ?_, ?_, ?_, ?_, ?_⟩, hk⟩⟩
        · have e := hcl 0 (by omega); rw [hc] at e; exact e
        · have e := hcl 1 (by omega); rw [hc] at e; exact e
        · have e := hcl 2 (by omega); rw [hc] at e; exact e
        · have e := hcl 3 (by omega); rw [hc] at e; exact e
        · have e := hcl 4 (by omega); rw [hc] at e; exact e
        · have e := hcl 5 (by omega); rw [hc] at e; exact e
        · have e := hcl 6 (by omega); rw [hc] at e; exact e
      · exact ⟨⟨0, 0, 0, 0, false, .empty, 0⟩, fun h => absurd h hi⟩
    obtain ⟨f, hf⟩ := Classical.skolem.1 each
    have hL : ((List.range l0).map f).length = l0 := by simp
    cases hx
    refine ⟨some a, _, (List.range l0).map f, by rw [hL], fun i hi => ?_, by rw [hL]; exact Nat.le_trans hl hm⟩
    rw [hL] at hi
    have e : ((List.range l0).map f)[i]'(by rw [hL]; exact hi) = f i := by simp
    rw [e]
    obtain ⟨g0, g1⟩ := hf i hi
    refine ⟨a, rfl, ?_, g1, g0⟩
    have := lt_cell g0.1
    rwa [add_block] at this
end
end Go.Proofs.Ytlfkdohajfkhdaa
