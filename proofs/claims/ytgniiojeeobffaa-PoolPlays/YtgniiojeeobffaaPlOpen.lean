/-
  How a script of steps, or a row of candidates, that came in is read.
-/
import Derived.Test.YtgniiojeeobffaaPlSame
import Derived.ChangeSlices
import Derived.SizedLaws
import Derived.ProofKit
import Derived.OpenShut
import Derived.Deep.Strs
import Derived.Deep.Slices
import Derived.Carry
import Derived.ShutString
namespace Go.Proofs.Ytgniiojeeobffaa
open Go.ChangeShapes Go.WideShapes Go.ChangeAt Go.RowKit
set_option maxRecDepth 100000
structure Stp where
  who : Int
  act : Int
  key : ByteArray
  x : Int
def Stp.cells (o : Stp) : Array Value := #[.int .i64 o.who, .int .i64 o.act, .string o.key, .int .u64 o.x]
/-- one step lies at an address -/
def StpAt (w : World) (a : Addr) (o : Stp) : Prop :=
  w.cell? a = some (.int .i64 o.who) ∧ w.cell? ⟨a.block, a.off + 1, none⟩ = some (.int .i64 o.act) ∧ w.cell? ⟨a.block, a.off + 2, none⟩ = some (.string o.key) ∧ w.cell? ⟨a.block, a.off + 3, none⟩ = some (.int .u64 o.x)
/-- the steps of a script that came in -/
def Steps (w : World) (so : Option Addr) (S : List Stp) : Prop :=
  ∀ j (h : j < S.length), ∃ a, so = some a ∧ a.block < w.heap.size ∧ StpAt w (a.add (j * 4)) S[j]
theorem lt_cell {w : World} {a : Addr} {v : Value} (h : w.cell? a = some v) : a.block < w.heap.size := by
  rcases Nat.lt_or_ge a.block w.heap.size with h' | h'
  · exact h'
  · simp [World.cell?, Array.getElem?_eq_none h'] at h
theorem add_block (a : Addr) (j : Nat) : (a.add j).block = a.block := by unfold Addr.add; split <;> rfl
theorem StpAt.bel {w w' : World} {B : Nat} {a : Addr} {o : Stp} (h : StpAt w a o) (hb : Below B w w') (ha : a.block < B) : StpAt w' a o :=
  ⟨(hb.cell ha).trans h.1, (hb.cell (p := ⟨a.block, a.off + 1, none⟩) ha).trans h.2.1, (hb.cell (p := ⟨a.block, a.off + 2, none⟩) ha).trans h.2.2.1, (hb.cell (p := ⟨a.block, a.off + 3, none⟩) ha).trans h.2.2.2⟩
theorem Steps.bel {w w' : World} {so : Option Addr} {S : List Stp} (h : Steps w so S) (hb : Below w.heap.size w w') : Steps w' so S := fun j hj => by
  obtain ⟨a, q1, q2, q4⟩ := h j hj
  exact ⟨a, q1, Nat.lt_of_lt_of_le q2 hb.size, q4.bel hb (by rw [add_block]; exact q2)⟩
/-- one candidate lies at an address -/
def CdAt (w : World) (a : Addr) (o : Ent) : Prop := w.cell? a = some (.string o.1) ∧ w.cell? ⟨a.block, a.off + 1, none⟩ = some (.int .u64 o.2)
/-- the candidates of a row that came in -/
def Cds (w : World) (so : Option Addr) (S : List Ent) : Prop :=
  ∀ j (h : j < S.length), ∃ a, so = some a ∧ a.block < w.heap.size ∧ CdAt w (a.add (j * 2)) S[j]
theorem CdAt.bel {w w' : World} {B : Nat} {a : Addr} {o : Ent} (h : CdAt w a o) (hb : Below B w w') (ha : a.block < B) : CdAt w' a o :=
  ⟨(hb.cell ha).trans h.1, (hb.cell (p := ⟨a.block, a.off + 1, none⟩) ha).trans h.2⟩
theorem Cds.bel {w w' : World} {so : Option Addr} {S : List Ent} (h : Cds w so S) (hb : Below w.heap.size w w') : Cds w' so S := fun j hj => by
  obtain ⟨a, q1, q2, q4⟩ := h j hj
  exact ⟨a, q1, Nat.lt_of_lt_of_le q2 hb.size, q4.bel hb (by rw [add_block]; exact q2)⟩
theorem cells_step : Try.prog.cellsOf 34 = 4 := by kernel_rfl
theorem cells_cd : Try.prog.cellsOf 32 = 2 := by kernel_rfl
theorem cells_i64 : Try.prog.cellsOf 3 = 1 := by kernel_rfl
theorem cells_u64 : Try.prog.cellsOf 30 = 1 := by kernel_rfl
theorem cells_str : Try.prog.cellsOf 9 = 1 := by kernel_rfl
section
variable {H : Type} {enc : TypeId × Value → H} {W : World}
theorem open_cd {fuel : Nat} {cs : List Value} {x : DataW H × List MemPlace} (h : DataW.trod enc Try.prog W 0 (fun _ => true) true fuel 32 cs = some x) :
    ∃ g : Ent, cs = enE g := by
  obtain ⟨xs, n, _, hx, hlen, hlx, hf⟩ := DataW.trod_struct Try.underlying32 h
  rw [cells_cd] at hlen
  match cs, hlen with
  | [c0, c1], _ =>
    match xs, hlx with
    | [y0, y1], _ =>
      have h0 : DataW.trod enc Try.prog W 0 (fun _ => true) true n 9 [c0] = some y0 := by simpa [cells_str] using hf 0 _ rfl
      have h1 : DataW.trod enc Try.prog W 0 (fun _ => true) true n 30 [c1] = some y1 := by simpa [cells_u64] using hf 1 _ rfl
      obtain ⟨s0, e0, _, _⟩ := DataW.trod_string Try.underlying9 h0
      obtain ⟨k1, e1, _, _⟩ := DataW.trod_int Try.underlying30 h1
      cases e0; cases e1
      exact ⟨(s0, k1), rfl⟩
theorem open_step {fuel : Nat} {cs : List Value} {x : DataW H × List MemPlace} (h : DataW.trod enc Try.prog W 0 (fun _ => true) true fuel 34 cs = some x) :
    ∃ g : Stp, cs = g.cells.toList := by
  obtain ⟨xs, n, _, hx, hlen, hlx, hf⟩ := DataW.trod_struct Try.underlying34 h
  rw [cells_step] at hlen
  match cs, hlen with
  | [c0, c1, c2, c3], _ =>
    match xs, hlx with
    | [y0, y1, y2], _ =>
      have h0 : DataW.trod enc Try.prog W 0 (fun _ => true) true n 3 [c0] = some y0 := by simpa [cells_i64] using hf 0 _ rfl
      have h1 : DataW.trod enc Try.prog W 0 (fun _ => true) true n 3 [c1] = some y1 := by simpa [cells_i64] using hf 1 _ rfl
      have h2 : DataW.trod enc Try.prog W 0 (fun _ => true) true n 32 [c2, c3] = some y2 := by simpa [cells_cd] using hf 2 _ rfl
      obtain ⟨k0, e0, _, _⟩ := DataW.trod_int Try.underlying3 h0
      obtain ⟨k1, e1, _, _⟩ := DataW.trod_int Try.underlying3 h1
      obtain ⟨g, hg⟩ := open_cd h2
      cases e0; cases e1
      unfold enE at hg
      cases hg
      exact ⟨⟨k0, k1, g.1, g.2⟩, rfl⟩
theorem open_steps {v : Value} {d : DataW H} {p : List MemPlace} {base : Nat} (o : Value.okWide Try.prog W .any base 22 v)
    (h : DataW.Trod enc Try.prog W 0 (fun _ => true) true 22 v d p) :
    ∃ so cap S, v = .slice so S.length cap ∧ Steps W so S ∧ S.length ≤ maxLen := by
  obtain ⟨a0, l0, c0, rfl⟩ := okWide_slice Try.underlying22 o
  obtain ⟨fuel, h⟩ := h
  rcases Go.Deep.open_slice Try.underlying22 h with ⟨hcs, hx⟩ | ⟨a, len, cap, m, n, D, Pl, hcs, _, hl, hm, hmm, hx, hel⟩
  · have hcs : [Value.slice a0 l0 c0] = [.slice none 0 0] := hcs
    cases hcs
    cases hx
    exact ⟨none, 0, [], rfl, fun j hj => absurd hj (by simp), Nat.zero_le _⟩
  · have hcs : [Value.slice a0 l0 c0] = [.slice (some a) len cap] := hcs
    cases hcs
    simp only [if_true] at hmm
    subst hmm
    have each : ∀ i, ∃ g : Stp, i < l0 → StpAt W (a.add (i * 4)) g := by
      intro i
      by_cases hi : i < l0
      · obtain ⟨cs', h1, h2⟩ := hel i (by omega)
        obtain ⟨g, hc⟩ := open_step h2
        rw [cells_step] at h1
        obtain ⟨_, _, hcl⟩ := World.cells?_some h1
        refine ⟨g, fun _ => ⟨?_, ?_, ?_, ?_⟩⟩
        · have e := hcl 0 (by omega); rw [hc] at e; exact e
        · have e := hcl 1 (by omega); rw [hc] at e; exact e
        · have e := hcl 2 (by omega); rw [hc] at e; exact e
        · have e := hcl 3 (by omega); rw [hc] at e; exact e
      · exact ⟨⟨0, 0, .empty, 0⟩, fun h => absurd h hi⟩
    obtain ⟨f, hf⟩ := Classical.skolem.1 each
    have hL : ((List.range l0).map f).length = l0 := by simp
    cases hx
    refine ⟨some a, _, (List.range l0).map f, by rw [hL], fun i hi => ?_, by rw [hL]; exact Nat.le_trans hl hm⟩
    rw [hL] at hi
    have e : ((List.range l0).map f)[i]'(by rw [hL]; exact hi) = f i := by simp
    rw [e]
    have g0 := hf i hi
    refine ⟨a, rfl, ?_, g0⟩
    have := lt_cell g0.1
    rwa [add_block] at this
theorem open_cds {v : Value} {d : DataW H} {p : List MemPlace} {base : Nat} (o : Value.okWide Try.prog W .any base 43 v)
    (h : DataW.Trod enc Try.prog W 0 (fun _ => true) true 43 v d p) :
    ∃ so cap S, v = .slice so S.length cap ∧ Cds W so S ∧ S.length ≤ maxLen := by
  obtain ⟨a0, l0, c0, rfl⟩ := okWide_slice Try.underlying43 o
  obtain ⟨fuel, h⟩ := h
  rcases Go.Deep.open_slice Try.underlying43 h with ⟨hcs, hx⟩ | ⟨a, len, cap, m, n, D, Pl, hcs, _, hl, hm, hmm, hx, hel⟩
  · have hcs : [Value.slice a0 l0 c0] = [.slice none 0 0] := hcs
    cases hcs
    cases hx
    exact ⟨none, 0, [], rfl, fun j hj => absurd hj (by simp), Nat.zero_le _⟩
  · have hcs : [Value.slice a0 l0 c0] = [.slice (some a) len cap] := hcs
    cases hcs
    simp only [if_true] at hmm
    subst hmm
    have each : ∀ i, ∃ g : Ent, i < l0 → CdAt W (a.add (i * 2)) g := by
      intro i
      by_cases hi : i < l0
      · obtain ⟨cs', h1, h2⟩ := hel i (by omega)
        obtain ⟨g, hc⟩ := open_cd h2
        rw [cells_cd] at h1
        obtain ⟨_, _, hcl⟩ := World.cells?_some h1
        refine ⟨g, fun _ => ⟨?_, ?_⟩⟩
        · have e := hcl 0 (by omega); rw [hc] at e; exact e
        · have e := hcl 1 (by omega); rw [hc] at e; exact e
      · exact ⟨(.empty, 0), fun h => absurd h hi⟩
    obtain ⟨f, hf⟩ := Classical.skolem.1 each
    have hL : ((List.range l0).map f).length = l0 := by simp
    cases hx
    refine ⟨some a, _, (List.range l0).map f, by rw [hL], fun i hi => ?_, by rw [hL]; exact Nat.le_trans hl hm⟩
    rw [hL] at hi
    have e : ((List.range l0).map f)[i]'(by rw [hL]; exact hi) = f i := by simp
    rw [e]
    have g0 := hf i hi
    refine ⟨a, rfl, ?_, g0⟩
    have := lt_cell g0.1
    rwa [add_block] at this
end
end Go.Proofs.Ytgniiojeeobffaa
