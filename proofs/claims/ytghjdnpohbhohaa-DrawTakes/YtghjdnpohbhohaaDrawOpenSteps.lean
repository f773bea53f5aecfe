/-
  How a script of questions that came in is read: what the memory holds of it, and how long it is at most.
-/
import Derived.Test.YtghjdnpohbhohaaDrawTakes0
import Derived.Test.YtghjdnpohbhohaaDrawOpen
import Derived.Deep.Strs
import Derived.Deep.Slices
import Derived.Carry
namespace Go.Proofs.Ytghjdnpohbhohaa
open Go.ChangeShapes Go.WideShapes Go.ChangeAt Go.RowKit
theorem cells_step : Try.prog.cellsOf 35 = 3 := by kernel_rfl
theorem bytes_step : Try.prog.bytesOf 35 = 24 := by kernel_rfl
theorem cells_i64 : Try.prog.cellsOf 3 = 1 := by kernel_rfl
section
variable {H : Type} {enc : TypeId × Value → H} {W : World}
theorem open_step {fuel : Nat} {cs : List Value} {x : DataW H × List MemPlace} (h : DataW.trod enc Try.prog W 0 (fun _ => true) true fuel 35 cs = some x) :
    ∃ g : Int × Int × Nat, cs = [.int .i64 g.1, .int .i64 g.2.1, .int .u64 (g.2.2 : Nat)] := by
  obtain ⟨y0, y1, y2, n, hx, hlen, h0, h1, h2⟩ := Go.Deep.trod_struct3 Try.underlying35 h
  rw [cells_step] at hlen
  match cs, hlen with
  | [c0, c1, c2], _ =>
    have h0 : DataW.trod enc Try.prog W 0 (fun _ => true) true n 3 [c0] = some y0 := by simpa [cells_i64] using h0
    have h1 : DataW.trod enc Try.prog W 0 (fun _ => true) true n 3 [c1] = some y1 := by simpa [cells_i64] using h1
    have h2 : DataW.trod enc Try.prog W 0 (fun _ => true) true n 22 [c2] = some y2 := by simpa [cells_u64] using h2
    obtain ⟨k, e0, _, w0⟩ := DataW.trod_int Try.underlying3 h0
    obtain ⟨a, e1, _, w1⟩ := DataW.trod_int Try.underlying3 h1
    obtain ⟨b, e2, _, w2⟩ := DataW.trod_int Try.underlying22 h2
    obtain ⟨b', hb, _⟩ := Dw.u64_of w2
    cases e0; cases e1; cases e2
    exact ⟨(k, a, b'), by rw [hb]⟩
theorem open_steps {v : Value} {d : DataW H} {p : List MemPlace} {ts : List TypeId} {ds : List (DataW H)} {base : Nat} (j : Nat) (o : Value.okWide Try.prog W .any base 26 v)
    (h : DataW.Trod enc Try.prog W 0 (fun _ => true) true 26 v d p) (hsz : (DataW.weightsEach Try.prog ts ds).all (fun x => decide (x ≤ reachBytes)) = true) (hj : ts[j]? = some 26) (hd : ds[j]? = some d) :
    ∃ so cap S, v = .slice so S.length cap ∧ Steps W so S ∧ S.length * 24 ≤ 140737488351232 := by
  obtain ⟨a0, l0, c0, rfl⟩ := okWide_slice Try.underlying26 o
  obtain ⟨fuel, h⟩ := h
  rcases Go.Deep.open_slice Try.underlying26 h with ⟨hcs, hx⟩ | ⟨a, len, cap, m, n, D, Pl, hcs, _, hl, hm, hmm, hx, hel⟩
  · have hcs : [Value.slice a0 l0 c0] = [.slice none 0 0] := hcs
    cases hcs
    exact ⟨none, 0, [], rfl, fun j hj => absurd hj (by simp), by simp⟩
  · have hcs : [Value.slice a0 l0 c0] = [.slice (some a) len cap] := hcs
    cases hcs
    simp only [if_true] at hmm
    subst hmm
    have each : ∀ i, ∃ g : Int × Int × Nat, i < l0 → W.cell? (a.add (i * 3)) = some (.int .i64 g.1) ∧ W.cell? ((a.add (i * 3)).add 1) = some (.int .i64 g.2.1) ∧ W.cell? ((a.add (i * 3)).add 2) = some (.int .u64 (g.2.2 : Nat)) := by
      intro i
      by_cases hi : i < l0
      · obtain ⟨cs', h1, h2⟩ := hel i (by omega)
        obtain ⟨g, hc⟩ := open_step h2
        rw [cells_step] at h1
        obtain ⟨_, _, hcl⟩ := World.cells?_some h1
        refine ⟨g, fun _ => ⟨?_, ?_, ?_⟩⟩
        · have e := hcl 0 (by omega); rw [hc] at e; exact e
        · have e := hcl 1 (by omega); rw [hc] at e; exact e
        · have e := hcl 2 (by omega); rw [hc] at e; exact e
      · exact ⟨(0, 0, 0), fun h => absurd h hi⟩
    obtain ⟨f, hf⟩ := Classical.skolem.1 each
    have hL : ((List.range l0).map f).length = l0 := by simp
    cases hx
    have hw := sized_slice hsz hj hd Try.underlying26
    rw [bytes_step] at hw
    simp only [List.length_map, List.length_range, reachBytes] at hw
    refine ⟨some a, _, (List.range l0).map f, by rw [hL], fun i hi => ?_, by rw [hL]; omega⟩
    rw [hL] at hi
    have e : ((List.range l0).map f)[i]'(by rw [hL]; exact hi) = f i := by simp
    rw [e]
    obtain ⟨g0, g1, g2⟩ := hf i hi
    refine ⟨a, rfl, ?_, g0, g1, g2⟩
    have := lt_cell g0
    rwa [add_block] at this
end
end Go.Proofs.Ytghjdnpohbhohaa
