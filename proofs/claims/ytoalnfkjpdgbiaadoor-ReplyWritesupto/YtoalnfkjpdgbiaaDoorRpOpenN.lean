/-
  How nodes that came in are read, and how much they hold.
-/
import Derived.Test.YtoalnfkjpdgbiaaDoorRpOpenB
import Derived.Test.YtoalnfkjpdgbiaaDoorRpPlainM
namespace Go.Proofs.YtoalnfkjpdgbiaaDoor
open Go.ChangeShapes Go.WideShapes Go.ChangeAt Go.RowKit
set_option linter.unusedVariables false
set_option maxRecDepth 100000
theorem cells_node : Tryd.prog.cellsOf 55 = 4 := by kernel_rfl
theorem cells_i64 : Tryd.prog.cellsOf 3 = 1 := by kernel_rfl
theorem cells_j64 : Tryd.prog.cellsOf 2 = 1 := by kernel_rfl
theorem cells_str : Tryd.prog.cellsOf 9 = 1 := by kernel_rfl
theorem bulk_str {H : Type} (s : ByteArray) : Rows.uptoBulk (H := H) (.lit (.string s.data.toList)) = s.size + 1 := by
  show s.data.toList.length + 1 = _
  rw [Array.length_toList]
  rfl
section
variable {H : Type} {enc : TypeId × Value → H} {W : World}
theorem open_nd {fuel : Nat} {cs : List Value} {x : DataW H × List MemPlace} (h : DataW.trod enc Tryd.prog W 0 (fun _ => true) true fuel 55 cs = some x) :
    ∃ g : Nd, cs = [.int .i64 g.k, .string g.s, .int .i64 g.i, .int .i64 g.n] ∧ (I64 g.k ∧ I64 g.i ∧ I64 g.n) ∧ g.s.size + 5 ≤ Rows.uptoBulk x.1 := by
  obtain ⟨xs, n, _, hx, hlen, hlx, hf⟩ := DataW.trod_struct Tryd.underlying55 h
  rw [cells_node] at hlen
  match cs, hlen with
  | [c0, c1, c2, c3], _ =>
    match xs, hlx with
    | [y0, y1, y2, y3], _ =>
      have h0 : DataW.trod enc Tryd.prog W 0 (fun _ => true) true n 3 [c0] = some y0 := by simpa [cells_i64] using hf 0 _ rfl
      have h1 : DataW.trod enc Tryd.prog W 0 (fun _ => true) true n 9 [c1] = some y1 := by simpa [cells_str] using hf 1 _ rfl
      have h2 : DataW.trod enc Tryd.prog W 0 (fun _ => true) true n 2 [c2] = some y2 := by simpa [cells_j64] using hf 2 _ rfl
      have h3 : DataW.trod enc Tryd.prog W 0 (fun _ => true) true n 3 [c3] = some y3 := by simpa [cells_i64] using hf 3 _ rfl
      obtain ⟨k0, e0, f0, w0⟩ := DataW.trod_int Tryd.underlying3 h0
      obtain ⟨s1, e1, f1, w1⟩ := DataW.trod_string Tryd.underlying9 h1
      obtain ⟨k2, e2, f2, w2⟩ := DataW.trod_int Tryd.underlying2 h2
      obtain ⟨k3, e3, f3, w3⟩ := DataW.trod_int Tryd.underlying3 h3
      cases e0; cases e1; cases e2; cases e3
      refine ⟨⟨k0, s1, k2, k3⟩, rfl, ⟨bounds_i64 w0, bounds_i64 w2, bounds_i64 w3⟩, ?_⟩
      have hx1 : x.1 = .agg [y0.1, y1.1, y2.1, y3.1] := by rw [hx]; rfl
      rw [hx1, f0, f1, f2, f3]
      show s1.size + 5 ≤ (1 + (Rows.uptoBulk (H := H) (.lit (.string s1.data.toList)) + (1 + (1 + 0)))) + 1
      rw [bulk_str]
      omega
theorem bulk_all {H : Type} : ∀ (l : List (DataW H)), Rows.uptoBulkAll l = (l.map Rows.uptoBulk).sum
  | [] => rfl
  | d :: l => by
    show Rows.uptoBulk d + Rows.uptoBulkAll l = _
    rw [bulk_all l]
    rfl
theorem open_nds {v : Value} {d : DataW H} {p : List MemPlace} {base : Nat} (o : Value.okWide Tryd.prog W .any base 22 v)
    (h : DataW.Trod enc Tryd.prog W 0 (fun _ => true) true 22 v d p) (hd : Rows.uptoBulk d ≤ 1048576) :
    ∃ so cap S, v = .slice so S.length cap ∧ Nds W so S ∧ S.length ≤ 1048576 ∧ rest S 0 ≤ 1048576 := by
  obtain ⟨a0, l0, c0, rfl⟩ := okWide_slice Tryd.underlying22 o
  obtain ⟨fuel, h⟩ := h
  rcases Go.Deep.open_slice Tryd.underlying22 h with ⟨hcs, hx⟩ | ⟨a, len, cap, m, n, D, Pl, hcs, _, hl, hm, hmm, hx, hel⟩
  · have hcs : [Value.slice a0 l0 c0] = [.slice none 0 0] := hcs
    cases hcs
    exact ⟨none, 0, [], rfl, fun j hj => absurd hj (by simp), Nat.zero_le _, Nat.zero_le _⟩
  · have hcs : [Value.slice a0 l0 c0] = [.slice (some a) len cap] := hcs
    cases hcs
    simp only [if_true] at hmm
    subst hmm
    have each : ∀ i, ∃ g : Nd, i < l0 → NdAt W (a.add (i * 4)) g ∧ (I64 g.k ∧ I64 g.i ∧ I64 g.n) ∧ g.s.size + 5 ≤ Rows.uptoBulk (D i) := by
      intro i
      by_cases hi : i < l0
      · obtain ⟨cs', h1, h2⟩ := hel i (by omega)
        obtain ⟨g, hc, hk, hbk⟩ := open_nd h2
        rw [cells_node] at h1
        obtain ⟨_, _, hcl⟩ := World.cells?_some h1
        refine ⟨g, fun _ => ⟨⟨?_, ?_, ?_, ?_⟩, hk, hbk⟩⟩
        · have e := hcl 0 (by omega); rw [hc] at e; exact e
        · have e := hcl 1 (by omega); rw [hc] at e; exact e
        · have e := hcl 2 (by omega); rw [hc] at e; exact e
        · have e := hcl 3 (by omega); rw [hc] at e; exact e
      · exact ⟨⟨0, .empty, 0, 0⟩, fun h => absurd h hi⟩
    obtain ⟨f, hf⟩ := Classical.skolem.1 each
    have hL : ((List.range l0).map f).length = l0 := by simp
    cases hx
    have hbs : ∀ k, k ≤ l0 → (((List.range k).map f).map fun o => 4 + o.s.size).sum + k ≤ (((List.range k).map D).map Rows.uptoBulk).sum := by
      intro k
      induction k with
      | zero => intro _; simp
      | succ k ih =>
        intro hk
        have h1 := ih (by omega)
        have h2 := (hf k (by omega)).2.2
        rw [List.range_succ]
        simp only [List.map_append, List.map_cons, List.map_nil, List.sum_append, List.sum_cons, List.sum_nil] at *
        omega
    have hb0 := hbs l0 (Nat.le_refl _)
    obtain ⟨ee, hd'⟩ : ∃ ee, Rows.uptoBulkAll ((List.range l0).map D) + ee + 1 ≤ 1048576 := ⟨_, hd⟩
    rw [bulk_all] at hd'
    have hrest : rest ((List.range l0).map f) 0 + l0 ≤ 1048576 := by
      unfold rest
      rw [List.drop_zero]
      omega
    refine ⟨some a, _, (List.range l0).map f, by rw [hL], fun i hi => ?_, by rw [hL]; omega, by omega⟩
    rw [hL] at hi
    have e : ((List.range l0).map f)[i]'(by rw [hL]; exact hi) = f i := by simp
    rw [e]
    obtain ⟨g0, g1, g2⟩ := hf i hi
    refine ⟨a, rfl, ?_, ⟨?_, g1.1, g1.2.1, g1.2.2⟩, g0⟩
    · have := (spot_none g0.1).2
      rwa [addr_block] at this
    · have := rest_at ((List.range l0).map f) 
      have h4 : (f i).s.size + 5 ≤ Rows.uptoBulk (D i) := g2
      have h5 : Rows.uptoBulk (D i) ≤ (((List.range l0).map D).map Rows.uptoBulk).sum := by
        rw [List.map_map]
        exact Rp.sum_mem (Rows.uptoBulk ∘ D) (List.range l0) i (List.mem_range.2 hi)
      omega
end
end Go.Proofs.YtoalnfkjpdgbiaaDoor
