/-
  How the arguments of EvictNil are opened: a config, and a row of numbers.
-/
import Derived.Test.YthmmblohfjmbcaaGreatEv5
import Derived.ChangeSlices
import Derived.SizedLaws
import Derived.ProofKit
import Derived.OpenShut
namespace Go.Proofs.YthmmblohfjmbcaaGreat
open Go.ChangeShapes Go.WideShapes Go.ChangeAt Go.RowKit
set_option maxRecDepth 100000
namespace Ks
theorem cells_u64 : Tryz.prog.cellsOf 22 = 1 := by kernel_rfl
theorem bytes_u64 : Tryz.prog.bytesOf 22 = 8 := by kernel_rfl
theorem lt_cell {w : World} {a : Addr} {v : Value} (h : w.cell? a = some v) : a.block < w.heap.size := by
  rcases Nat.lt_or_ge a.block w.heap.size with h' | h'
  · exact h'
  · simp [World.cell?, Array.getElem?_eq_none h'] at h
theorem add_block (a : Addr) (j : Nat) : (a.add j).block = a.block := by unfold Addr.add; split <;> rfl
theorem u64s_of (zs : List Int) (h : ∀ n ∈ zs, (Lit.int .u64 n).wf = true) : ∃ l : List Nat, zs = l.map (fun b : Nat => (b : Int)) ∧ ∀ x ∈ l, (x : Int) ≤ 18446744073709551615 := by
  induction zs with
  | nil => exact ⟨[], rfl, fun _ h => by cases h⟩
  | cons n zs ih =>
    obtain ⟨b, hb, hlt⟩ := Dw.u64_of (h n (by simp))
    obtain ⟨l, hl, hb2⟩ := ih (fun m hm => h m (by simp [hm]))
    refine ⟨b :: l, by rw [hb, hl]; rfl, fun x hx => ?_⟩
    rcases List.mem_cons.1 hx with rfl | hx
    · exact Dw.le_of hlt
    · exact hb2 x hx
theorem open_u64s {H : Type} {enc : TypeId × Value → H} {W : World} {v : Value} {d : DataW H} {p : List MemPlace} {ts : List TypeId} {ds : List (DataW H)} {base : Nat} (j : Nat) (o : Value.okWide Tryz.prog W .any base 25 v)
    (h : DataW.Trod enc Tryz.prog W 0 (fun _ => true) true 25 v d p) (hsz : (DataW.weightsEach Tryz.prog ts ds).all (fun x => decide (x ≤ reachBytes)) = true) (hj : ts[j]? = some 25) (hd : ds[j]? = some d) :
    ∃ ao cap Z, v = .slice ao Z.length cap ∧ DQ.Ints W v Z ∧ (∀ x ∈ Z, (x : Int) ≤ 18446744073709551615) ∧ Z.length ≤ cap ∧ cap * 8 ≤ 140737488351232 := by
  obtain ⟨a0, l0, c0, rfl⟩ := okWide_slice Tryz.underlying25 o
  obtain ⟨fuel, h⟩ := h
  rcases open_ints Tryz.underlying25 Tryz.underlying22 cells_u64 h with ⟨hcs, hx⟩ | ⟨a, len, cap, zs, hcs, _, hl, hm, hz, hx, hcell, hwz⟩
  · have hcs : [Value.slice a0 l0 c0] = [.slice none 0 0] := hcs
    cases hcs
    exact ⟨none, 0, [], rfl, .inl ⟨rfl, rfl⟩, (fun _ h => absurd h (by simp)), Nat.le_refl _, by omega⟩
  · have hcs : [Value.slice a0 l0 c0] = [.slice (some a) len cap] := hcs
    cases hcs
    cases hx
    obtain ⟨l, rfl, hb⟩ := u64s_of zs hwz
    simp only [if_true, List.length_map] at hz
    have hlen : (l.take l0).length = l0 := by rw [List.length_take]; omega
    have hc : ∀ i (hi : i < (l.take l0).length), W.cell? (a.add i) = some (.int .u64 ((l.take l0)[i] : Nat)) := by
      intro i hi
      have hi2 : i < l.length := by rw [hlen] at hi; omega
      rw [hcell i (by rw [List.length_map]; exact hi2)]
      congr 2
      rw [List.getElem_take, List.getD, List.getElem?_map, List.getElem?_eq_getElem hi2]
      rfl
    have hw := sized_slice hsz hj hd Tryz.underlying25
    rw [bytes_u64] at hw
    simp only [lits, List.length_map, List.length_take, List.length_drop, reachBytes] at hw
    exact ⟨some a, c0, l.take l0, by rw [hlen], .inr ⟨a, c0, by rw [hlen], by omega, hm, hc⟩, fun x hx => hb x (List.mem_of_mem_take hx), by omega, by omega⟩
theorem cells_i64 : Tryz.prog.cellsOf 2 = 1 := by kernel_rfl
theorem cells_int : Tryz.prog.cellsOf 3 = 1 := by kernel_rfl
theorem cells_cfg : Tryz.prog.cellsOf 24 = 4 := by kernel_rfl
theorem open_cfg {H : Type} {enc : TypeId × Value → H} {W : World} {v : Value} {d : DataW H} {p : List MemPlace} {base : Nat} (o : Value.okWide Tryz.prog W .any base 24 v)
    (h : DataW.Trod enc Tryz.prog W 0 (fun _ => true) true 24 v d p) : ∃ (seed : Nat) (most pol smp : Int), v = .agg #[.int .u64 (seed : Int), .int .i64 most, .int .i64 pol, .int .i64 smp] ∧ seed < Dw.M := by
  obtain ⟨cs, rfl, hcs⟩ := okWide_struct Tryz.underlying24 o
  obtain ⟨fuel, h⟩ := h
  obtain ⟨xs, n, _, hx, hlen, hlx, hf⟩ := DataW.trod_struct Tryz.underlying24 h
  rw [cells_cfg] at hlen
  obtain ⟨l⟩ := cs
  have hlen : l.length = 4 := hlen
  match l, hlen with
  | [c0, c1, c2, c3], _ =>
    match xs, hlx with
    | [y0, y1, y2, y3], _ =>
      have h0 : DataW.trod enc Tryz.prog W 0 (fun _ => true) true n 22 [c0] = some y0 := by simpa [cells_u64, Value.cells] using hf 0 _ rfl
      have h1 : DataW.trod enc Tryz.prog W 0 (fun _ => true) true n 2 [c1] = some y1 := by simpa [cells_i64, Value.cells] using hf 1 _ rfl
      have h2 : DataW.trod enc Tryz.prog W 0 (fun _ => true) true n 3 [c2] = some y2 := by simpa [cells_int, Value.cells] using hf 2 _ rfl
      have h3 : DataW.trod enc Tryz.prog W 0 (fun _ => true) true n 3 [c3] = some y3 := by simpa [cells_int, Value.cells] using hf 3 _ rfl
      obtain ⟨k0, e0, _, w0⟩ := DataW.trod_int Tryz.underlying22 h0
      obtain ⟨k1, e1, _, _⟩ := DataW.trod_int Tryz.underlying2 h1
      obtain ⟨k2, e2, _, _⟩ := DataW.trod_int Tryz.underlying3 h2
      obtain ⟨k3, e3, _, _⟩ := DataW.trod_int Tryz.underlying3 h3
      obtain ⟨b0, hb0, hl0⟩ := Dw.u64_of w0
      cases e0; cases e1; cases e2; cases e3
      exact ⟨b0, k1, k2, k3, by rw [hb0], hl0⟩
end Ks
end Go.Proofs.YthmmblohfjmbcaaGreat
