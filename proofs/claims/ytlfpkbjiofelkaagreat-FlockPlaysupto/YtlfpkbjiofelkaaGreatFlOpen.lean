/-
  How a script of steps, and a row of texts, that came in are read.
-/
import Derived.Test.YtlfpkbjiofelkaaGreatDictTale
import Derived.ChangeSlices
import Derived.SizedLaws
import Derived.ProofKit
import Derived.OpenShut
import Derived.Deep.Strs
import Derived.Deep.Slices
import Derived.Carry
import Derived.ShutString
namespace Go.Proofs.YtlfpkbjiofelkaaGreat
open Go.ChangeShapes Go.WideShapes Go.ChangeAt Go.RowKit
set_option maxRecDepth 100000
structure Stp where
  who : Int
  op : Int
  f : ByteArray
  big : Int
  n : Nat
  cnt : Int
def Stp.cells (o : Stp) : Array Value := #[.int .i64 o.who, .int .i64 o.op, .string o.f, .int .i64 o.big, .int .u64 o.n, .int .i64 o.cnt]
/-- one step lies at an address -/
def StpAt (w : World) (a : Addr) (o : Stp) : Prop :=
  w.cell? a = some (.int .i64 o.who) ∧ w.cell? ⟨a.block, a.off + 1, none⟩ = some (.int .i64 o.op) ∧ w.cell? ⟨a.block, a.off + 2, none⟩ = some (.string o.f) ∧ w.cell? ⟨a.block, a.off + 3, none⟩ = some (.int .i64 o.big) ∧ w.cell? ⟨a.block, a.off + 4, none⟩ = some (.int .u64 o.n) ∧ w.cell? ⟨a.block, a.off + 5, none⟩ = some (.int .i64 o.cnt)
/-- the steps of a script that came in -/
def Steps (w : World) (so : Option Addr) (S : List Stp) : Prop :=
  ∀ j (h : j < S.length), ∃ a, so = some a ∧ a.block < w.heap.size ∧ S[j].f.size ≤ maxLen ∧ (S[j].n < Dw.M ∧ (Lit.int .i64 S[j].cnt).wf = true) ∧ StpAt w (a.add (j * 6)) S[j]
theorem lt_cell {w : World} {a : Addr} {v : Value} (h : w.cell? a = some v) : a.block < w.heap.size := by
  rcases Nat.lt_or_ge a.block w.heap.size with h' | h'
  · exact h'
  · simp [World.cell?, Array.getElem?_eq_none h'] at h
theorem add_block (a : Addr) (j : Nat) : (a.add j).block = a.block := by unfold Addr.add; split <;> rfl
theorem StpAt.bel {w w' : World} {B : Nat} {a : Addr} {o : Stp} (h : StpAt w a o) (hb : Below B w w') (ha : a.block < B) : StpAt w' a o :=
  ⟨(hb.cell ha).trans h.1, (hb.cell (p := ⟨a.block, a.off + 1, none⟩) ha).trans h.2.1, (hb.cell (p := ⟨a.block, a.off + 2, none⟩) ha).trans h.2.2.1, (hb.cell (p := ⟨a.block, a.off + 3, none⟩) ha).trans h.2.2.2.1, (hb.cell (p := ⟨a.block, a.off + 4, none⟩) ha).trans h.2.2.2.2.1, (hb.cell (p := ⟨a.block, a.off + 5, none⟩) ha).trans h.2.2.2.2.2⟩
theorem cells_step : Tryz.prog.cellsOf 32 = 6 := by kernel_rfl
theorem bytes_step : Tryz.prog.bytesOf 32 = 56 := by kernel_rfl
theorem cells_i64 : Tryz.prog.cellsOf 3 = 1 := by kernel_rfl
theorem cells_u64 : Tryz.prog.cellsOf 22 = 1 := by kernel_rfl
theorem cells_str : Tryz.prog.cellsOf 9 = 1 := by kernel_rfl
section
variable {H : Type} {enc : TypeId × Value → H} {W : World}
theorem open_step {fuel : Nat} {cs : List Value} {x : DataW H × List MemPlace} (h : DataW.trod enc Tryz.prog W 0 (fun _ => true) true fuel 32 cs = some x) :
    ∃ g : Stp, cs = g.cells.toList ∧ g.f.size ≤ maxLen ∧ (g.n < Dw.M ∧ (Lit.int .i64 g.cnt).wf = true) := by
  obtain ⟨xs, n, _, hx, hlen, hlx, hf⟩ := DataW.trod_struct Tryz.underlying32 h
  rw [cells_step] at hlen
  match cs, hlen with
  | [c0, c1, c2, c3, c4, c5], _ =>
    match xs, hlx with
    | [y0, y1, y2, y3, y4, y5], _ =>
      have h0 : DataW.trod enc Tryz.prog W 0 (fun _ => true) true n 3 [c0] = some y0 := by simpa [cells_i64] using hf 0 _ rfl
      have h1 : DataW.trod enc Tryz.prog W 0 (fun _ => true) true n 3 [c1] = some y1 := by simpa [cells_i64] using hf 1 _ rfl
      have h2 : DataW.trod enc Tryz.prog W 0 (fun _ => true) true n 9 [c2] = some y2 := by simpa [cells_str] using hf 2 _ rfl
      have h3 : DataW.trod enc Tryz.prog W 0 (fun _ => true) true n 3 [c3] = some y3 := by simpa [cells_i64] using hf 3 _ rfl
      have h4 : DataW.trod enc Tryz.prog W 0 (fun _ => true) true n 22 [c4] = some y4 := by simpa [cells_u64] using hf 4 _ rfl
      have h5 : DataW.trod enc Tryz.prog W 0 (fun _ => true) true n 3 [c5] = some y5 := by simpa [cells_i64] using hf 5 _ rfl
      obtain ⟨k0, e0, _, _⟩ := DataW.trod_int Tryz.underlying3 h0
      obtain ⟨k1, e1, _, _⟩ := DataW.trod_int Tryz.underlying3 h1
      obtain ⟨s2, e2, _, hs2⟩ := DataW.trod_string Tryz.underlying9 h2
      obtain ⟨k3, e3, _, _⟩ := DataW.trod_int Tryz.underlying3 h3
      obtain ⟨k4, e4, _, w4⟩ := DataW.trod_int Tryz.underlying22 h4
      obtain ⟨k5, e5, _, w5⟩ := DataW.trod_int Tryz.underlying3 h5
      obtain ⟨b', hb, hlt⟩ := Dw.u64_of w4
      cases e0; cases e1; cases e2; cases e3; cases e4; cases e5
      exact ⟨⟨k0, k1, s2, k3, b', k5⟩, by rw [hb]; rfl, hs2, hlt, w5⟩
theorem open_steps0 {v : Value} {d : DataW H} {p : List MemPlace} {base : Nat} (o : Value.okWide Tryz.prog W .any base 24 v)
    (h : DataW.Trod enc Tryz.prog W 0 (fun _ => true) true 24 v d p) :
    ∃ so cap S, v = .slice so S.length cap ∧ Steps W so S ∧ ((d = .nil ∧ S = []) ∨ ∃ D E, d = .slice D E ∧ D.length = S.length) := by
  obtain ⟨a0, l0, c0, rfl⟩ := okWide_slice Tryz.underlying24 o
  obtain ⟨fuel, h⟩ := h
  rcases Go.Deep.open_slice Tryz.underlying24 h with ⟨hcs, hx⟩ | ⟨a, len, cap, m, n, D, Pl, hcs, _, hl, hm, hmm, hx, hel⟩
  · have hcs : [Value.slice a0 l0 c0] = [.slice none 0 0] := hcs
    cases hcs
    cases hx
    exact ⟨none, 0, [], rfl, fun j hj => absurd hj (by simp), .inl ⟨rfl, rfl⟩⟩
  · have hcs : [Value.slice a0 l0 c0] = [.slice (some a) len cap] := hcs
    cases hcs
    simp only [if_true] at hmm
    subst hmm
    have each : ∀ i, ∃ g : Stp, i < l0 → StpAt W (a.add (i * 6)) g ∧ g.f.size ≤ maxLen ∧ (g.n < Dw.M ∧ (Lit.int .i64 g.cnt).wf = true) := by
      intro i
      by_cases hi : i < l0
      · obtain ⟨cs', h1, h2⟩ := hel i (by omega)
        obtain ⟨g, hc, hk, hr⟩ := open_step h2
        rw [cells_step] at h1
        obtain ⟨_, _, hcl⟩ := World.cells?_some h1
        have add : ∀ k, k < 6 → W.cell? ((a.add (i * 6)).add k) = g.cells.toList[k]? := fun k hk => by rw [hcl k hk, hc]
        refine ⟨g, fun _ => ⟨⟨?_, ?_, ?_, ?_, ?_, ?_⟩, hk, hr⟩⟩
        · have e := hcl 0 (by omega); rw [hc] at e; exact e
        · have e := hcl 1 (by omega); rw [hc] at e; exact e
        · have e := hcl 2 (by omega); rw [hc] at e; exact e
        · have e := hcl 3 (by omega); rw [hc] at e; exact e
        · have e := hcl 4 (by omega); rw [hc] at e; exact e
        · have e := hcl 5 (by omega); rw [hc] at e; exact e
      · exact ⟨⟨0, 0, .empty, 0, 0, 0⟩, fun h => absurd h hi⟩
    obtain ⟨f, hf⟩ := Classical.skolem.1 each
    have hL : ((List.range l0).map f).length = l0 := by simp
    cases hx
    refine ⟨some a, _, (List.range l0).map f, by rw [hL], fun i hi => ?_, .inr ⟨_, _, rfl, by simp⟩⟩
    rw [hL] at hi
    have e : ((List.range l0).map f)[i]'(by rw [hL]; exact hi) = f i := by simp
    rw [e]
    obtain ⟨g0, g1, g2⟩ := hf i hi
    refine ⟨a, rfl, ?_, g1, g2, g0⟩
    have := lt_cell g0.1
    rwa [add_block] at this
theorem open_steps {v : Value} {d : DataW H} {p : List MemPlace} {ts : List TypeId} {ds : List (DataW H)} {base : Nat} (j : Nat) (o : Value.okWide Tryz.prog W .any base 24 v)
    (h : DataW.Trod enc Tryz.prog W 0 (fun _ => true) true 24 v d p) (hsz : (DataW.weightsEach Tryz.prog ts ds).all (fun x => decide (x ≤ reachBytes)) = true) (hj : ts[j]? = some 24) (hd : ds[j]? = some d) :
    ∃ so cap S, v = .slice so S.length cap ∧ Steps W so S ∧ S.length ≤ 2513169434843 := by
  obtain ⟨so, cap, S, hv, hS, hd'⟩ := open_steps0 o h
  refine ⟨so, cap, S, hv, hS, ?_⟩
  rcases hd' with ⟨_, rfl⟩ | ⟨D, E, rfl, hl⟩
  · simp
  · have hw := sized_slice hsz hj hd Tryz.underlying24
    rw [bytes_step] at hw
    simp only [reachBytes] at hw
    omega
/-- the texts of a row that came in -/
def Txts (w : World) (so : Option Addr) (S : List ByteArray) : Prop :=
  ∀ j (h : j < S.length), ∃ a, so = some a ∧ a.block < w.heap.size ∧ S[j].size ≤ maxLen ∧ w.cell? (a.add j) = some (.string S[j])
theorem open_texts {v : Value} {d : DataW H} {p : List MemPlace} {base : Nat} (o : Value.okWide Tryz.prog W .any base 43 v)
    (h : DataW.Trod enc Tryz.prog W 0 (fun _ => true) true 43 v d p) :
    ∃ so cap S, v = .slice so S.length cap ∧ Txts W so S := by
  obtain ⟨a0, l0, c0, rfl⟩ := okWide_slice Tryz.underlying43 o
  obtain ⟨fuel, h⟩ := h
  rcases Go.Deep.open_slice Tryz.underlying43 h with ⟨hcs, hx⟩ | ⟨a, len, cap, m, n, D, Pl, hcs, _, hl, hm, hmm, hx, hel⟩
  · have hcs : [Value.slice a0 l0 c0] = [.slice none 0 0] := hcs
    cases hcs
    cases hx
    exact ⟨none, 0, [], rfl, fun j hj => absurd hj (by simp)⟩
  · have hcs : [Value.slice a0 l0 c0] = [.slice (some a) len cap] := hcs
    cases hcs
    simp only [if_true] at hmm
    subst hmm
    have each : ∀ i, ∃ g : ByteArray, i < l0 → W.cell? (a.add i) = some (.string g) ∧ g.size ≤ maxLen := by
      intro i
      by_cases hi : i < l0
      · obtain ⟨cs', h1, h2⟩ := hel i (by omega)
        obtain ⟨g, hg, _, hw⟩ := DataW.trod_string Tryz.underlying9 h2
        rw [cells_str] at h1
        obtain ⟨_, _, hcl⟩ := World.cells?_some h1
        refine ⟨g, fun _ => ⟨?_, hw⟩⟩
        have e := hcl 0 (by omega)
        rw [hg, Nat.mul_one] at e
        exact e
      · exact ⟨.empty, fun h => absurd h hi⟩
    obtain ⟨f, hf⟩ := Classical.skolem.1 each
    have hL : ((List.range l0).map f).length = l0 := by simp
    cases hx
    refine ⟨some a, _, (List.range l0).map f, by rw [hL], fun i hi => ?_⟩
    rw [hL] at hi
    have e : ((List.range l0).map f)[i]'(by rw [hL]; exact hi) = f i := by simp
    rw [e]
    obtain ⟨g0, g1⟩ := hf i hi
    refine ⟨a, rfl, ?_, g1, g0⟩
    have := lt_cell g0
    rwa [add_block] at this
end
end Go.Proofs.YtlfpkbjiofelkaaGreat
