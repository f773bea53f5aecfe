/-
  How a script of steps that came in is read.
-/
import Derived.Test.YtapehjlpiobeaaaRkDone
import Derived.ChangeSlices
import Derived.SizedLaws
import Derived.ProofKit
import Derived.OpenShut
import Derived.Deep.Strs
import Derived.Deep.Slices
import Derived.Carry
import Derived.ShutString
namespace Go.Proofs.Ytapehjlpiobeaaa
open Go.ChangeShapes Go.WideShapes Go.ChangeAt Go.RowKit
set_option maxRecDepth 100000
structure Stp where
  who : Int
  act : Int
  sa : Int
  sb : Int
  key : ByteArray
  x : Nat
  y : Nat
  ox : Bool
  oy : Bool
def Stp.cells (o : Stp) : Array Value := #[.int .i64 o.who, .int .i64 o.act, .int .i64 o.sa, .int .i64 o.sb, .string o.key, .int .u64 (o.x : Int), .int .u64 (o.y : Int), .bool o.ox, .bool o.oy]
/-- one step lies at an address -/
def StpAt (w : World) (a : Addr) (o : Stp) : Prop :=
  w.cell? a = some (.int .i64 o.who) ∧ w.cell? ⟨a.block, a.off + 1, none⟩ = some (.int .i64 o.act) ∧ w.cell? ⟨a.block, a.off + 2, none⟩ = some (.int .i64 o.sa) ∧ w.cell? ⟨a.block, a.off + 3, none⟩ = some (.int .i64 o.sb) ∧ w.cell? ⟨a.block, a.off + 4, none⟩ = some (.string o.key) ∧ w.cell? ⟨a.block, a.off + 5, none⟩ = some (.int .u64 (o.x : Int)) ∧ w.cell? ⟨a.block, a.off + 6, none⟩ = some (.int .u64 (o.y : Int)) ∧ w.cell? ⟨a.block, a.off + 7, none⟩ = some (.bool o.ox) ∧ w.cell? ⟨a.block, a.off + 8, none⟩ = some (.bool o.oy)
/-- the steps of a script that came in -/
def Steps (w : World) (so : Option Addr) (S : List Stp) : Prop :=
  ∀ j (h : j < S.length), ∃ a, so = some a ∧ a.block < w.heap.size ∧ (S[j].key.size ≤ maxLen ∧ S[j].x < Dw.M ∧ S[j].y < Dw.M ∧ (Lit.int .i64 S[j].sa).wf = true ∧ (Lit.int .i64 S[j].sb).wf = true) ∧ StpAt w (a.add (j * 9)) S[j]
theorem lt_cell {w : World} {a : Addr} {v : Value} (h : w.cell? a = some v) : a.block < w.heap.size := by
  rcases Nat.lt_or_ge a.block w.heap.size with h' | h'
  · exact h'
  · simp [World.cell?, Array.getElem?_eq_none h'] at h
theorem add_block (a : Addr) (j : Nat) : (a.add j).block = a.block := by unfold Addr.add; split <;> rfl
theorem StpAt.bel {w w' : World} {B : Nat} {a : Addr} {o : Stp} (h : StpAt w a o) (hb : Below B w w') (ha : a.block < B) : StpAt w' a o :=
  ⟨(hb.cell ha).trans h.1, (hb.cell (p := ⟨a.block, a.off + 1, none⟩) ha).trans h.2.1, (hb.cell (p := ⟨a.block, a.off + 2, none⟩) ha).trans h.2.2.1, (hb.cell (p := ⟨a.block, a.off + 3, none⟩) ha).trans h.2.2.2.1, (hb.cell (p := ⟨a.block, a.off + 4, none⟩) ha).trans h.2.2.2.2.1, (hb.cell (p := ⟨a.block, a.off + 5, none⟩) ha).trans h.2.2.2.2.2.1, (hb.cell (p := ⟨a.block, a.off + 6, none⟩) ha).trans h.2.2.2.2.2.2.1, (hb.cell (p := ⟨a.block, a.off + 7, none⟩) ha).trans h.2.2.2.2.2.2.2.1, (hb.cell (p := ⟨a.block, a.off + 8, none⟩) ha).trans h.2.2.2.2.2.2.2.2⟩
theorem Steps.bel {w w' : World} {so : Option Addr} {S : List Stp} (h : Steps w so S) (hb : Below w.heap.size w w') : Steps w' so S := fun j hj => by
  obtain ⟨a, q1, q2, q3, q4⟩ := h j hj
  exact ⟨a, q1, Nat.lt_of_lt_of_le q2 hb.size, q3, q4.bel hb (by rw [add_block]; exact q2)⟩
theorem cells_step : Try.prog.cellsOf 31 = 9 := by kernel_rfl
theorem cells_i64 : Try.prog.cellsOf 3 = 1 := by kernel_rfl
theorem cells_u64 : Try.prog.cellsOf 22 = 1 := by kernel_rfl
theorem cells_str : Try.prog.cellsOf 9 = 1 := by kernel_rfl
theorem cells_bool : Try.prog.cellsOf 4 = 1 := by kernel_rfl
section
variable {H : Type} {enc : TypeId × Value → H} {W : World}
theorem open_step {fuel : Nat} {cs : List Value} {x : DataW H × List MemPlace} (h : DataW.trod enc Try.prog W 0 (fun _ => true) true fuel 31 cs = some x) :
    ∃ g : Stp, cs = g.cells.toList ∧ (g.key.size ≤ maxLen ∧ g.x < Dw.M ∧ g.y < Dw.M ∧ (Lit.int .i64 g.sa).wf = true ∧ (Lit.int .i64 g.sb).wf = true) := by
  obtain ⟨xs, n, _, hx, hlen, hlx, hf⟩ := DataW.trod_struct Try.underlying31 h
  rw [cells_step] at hlen
  match cs, hlen with
  | [c0, c1, c2, c3, c4, c5, c6, c7, c8], _ =>
    match xs, hlx with
    | [y0, y1, y2, y3, y4, y5, y6, y7, y8], _ =>
      have h0 : DataW.trod enc Try.prog W 0 (fun _ => true) true n 3 [c0] = some y0 := by simpa [cells_i64] using hf 0 _ rfl
      have h1 : DataW.trod enc Try.prog W 0 (fun _ => true) true n 3 [c1] = some y1 := by simpa [cells_i64] using hf 1 _ rfl
      have h2 : DataW.trod enc Try.prog W 0 (fun _ => true) true n 3 [c2] = some y2 := by simpa [cells_i64] using hf 2 _ rfl
      have h3 : DataW.trod enc Try.prog W 0 (fun _ => true) true n 3 [c3] = some y3 := by simpa [cells_i64] using hf 3 _ rfl
      have h4 : DataW.trod enc Try.prog W 0 (fun _ => true) true n 9 [c4] = some y4 := by simpa [cells_str] using hf 4 _ rfl
      have h5 : DataW.trod enc Try.prog W 0 (fun _ => true) true n 22 [c5] = some y5 := by simpa [cells_u64] using hf 5 _ rfl
      have h6 : DataW.trod enc Try.prog W 0 (fun _ => true) true n 22 [c6] = some y6 := by simpa [cells_u64] using hf 6 _ rfl
      have h7 : DataW.trod enc Try.prog W 0 (fun _ => true) true n 4 [c7] = some y7 := by simpa [cells_bool] using hf 7 _ rfl
      have h8 : DataW.trod enc Try.prog W 0 (fun _ => true) true n 4 [c8] = some y8 := by simpa [cells_bool] using hf 8 _ rfl
      obtain ⟨k0, e0, _, _⟩ := DataW.trod_int Try.underlying3 h0
      obtain ⟨k1, e1, _, _⟩ := DataW.trod_int Try.underlying3 h1
      obtain ⟨k2, e2, _, w2⟩ := DataW.trod_int Try.underlying3 h2
      obtain ⟨k3, e3, _, w3⟩ := DataW.trod_int Try.underlying3 h3
      obtain ⟨s4, e4, _, hs4⟩ := DataW.trod_string Try.underlying9 h4
      obtain ⟨k5, e5, _, w5⟩ := DataW.trod_int Try.underlying22 h5
      obtain ⟨k6, e6, _, w6⟩ := DataW.trod_int Try.underlying22 h6
      obtain ⟨k7, e7, _⟩ := DataW.trod_bool Try.underlying4 h7
      obtain ⟨k8, e8, _⟩ := DataW.trod_bool Try.underlying4 h8
      obtain ⟨b5, hb5, hlt5⟩ := Dw.u64_of w5
      obtain ⟨b6, hb6, hlt6⟩ := Dw.u64_of w6
      cases e0; cases e1; cases e2; cases e3; cases e4; cases e5; cases e6; cases e7; cases e8
      exact ⟨⟨k0, k1, k2, k3, s4, b5, b6, k7, k8⟩, by rw [hb5, hb6]; rfl, hs4, hlt5, hlt6, w2, w3⟩
theorem open_steps0 {v : Value} {d : DataW H} {p : List MemPlace} {base : Nat} (o : Value.okWide Try.prog W .any base 23 v)
    (h : DataW.Trod enc Try.prog W 0 (fun _ => true) true 23 v d p) :
    ∃ so cap S, v = .slice so S.length cap ∧ Steps W so S ∧ S.length ≤ maxLen := by
  obtain ⟨a0, l0, c0, rfl⟩ := okWide_slice Try.underlying23 o
  obtain ⟨fuel, h⟩ := h
  rcases Go.Deep.open_slice Try.underlying23 h with ⟨hcs, hx⟩ | ⟨a, len, cap, m, n, D, Pl, hcs, _, hl, hm, hmm, hx, hel⟩
  · have hcs : [Value.slice a0 l0 c0] = [.slice none 0 0] := hcs
    cases hcs
    cases hx
    exact ⟨none, 0, [], rfl, fun j hj => absurd hj (by simp), Nat.zero_le _⟩
  · have hcs : [Value.slice a0 l0 c0] = [.slice (some a) len cap] := hcs
    cases hcs
    simp only [if_true] at hmm
    subst hmm
    have each : ∀ i, ∃ g : Stp, i < l0 → StpAt W (a.add (i * 9)) g ∧ (g.key.size ≤ maxLen ∧ g.x < Dw.M ∧ g.y < Dw.M ∧ (Lit.int .i64 g.sa).wf = true ∧ (Lit.int .i64 g.sb).wf = true) := by
      intro i
      by_cases hi : i < l0
      · obtain ⟨cs', h1, h2⟩ := hel i (by omega)
        obtain ⟨g, hc, hk⟩ := open_step h2
        rw [cells_step] at h1
        obtain ⟨_, _, hcl⟩ := World.cells?_some h1
        refine ⟨g, fun _ => ⟨⟨?_, ?_, ?_, ?_, ?_, ?_, ?_, ?_, ?_⟩, hk⟩⟩
        · have e := hcl 0 (by omega); rw [hc] at e; exact e
        · have e := hcl 1 (by omega); rw [hc] at e; exact e
        · have e := hcl 2 (by omega); rw [hc] at e; exact e
        · have e := hcl 3 (by omega); rw [hc] at e; exact e
        · have e := hcl 4 (by omega); rw [hc] at e; exact e
        · have e := hcl 5 (by omega); rw [hc] at e; exact e
        · have e := hcl 6 (by omega); rw [hc] at e; exact e
        · have e := hcl 7 (by omega); rw [hc] at e; exact e
        · have e := hcl 8 (by omega); rw [hc] at e; exact e
      · exact ⟨⟨0, 0, 0, 0, .empty, 0, 0, false, false⟩, fun h => absurd h hi⟩
    obtain ⟨f, hf⟩ := Classical.skolem.1 each
    have hL : ((List.range l0).map f).length = l0 := by simp
    cases hx
    refine ⟨some a, _, (List.range l0).map f, by rw [hL], fun i hi => ?_, by rw [hL]; exact Nat.le_trans hl hm⟩
    rw [hL] at hi
    have e : ((List.range l0).map f)[i]'(by rw [hL]; exact hi) = f i := by simp
    rw [e]
    obtain ⟨g0, g1⟩ := hf i hi
    refine ⟨a, rfl, ?_, g1, g0⟩
    have := lt_cell g0.1
    rwa [add_block] at this
end
end Go.Proofs.Ytapehjlpiobeaaa
