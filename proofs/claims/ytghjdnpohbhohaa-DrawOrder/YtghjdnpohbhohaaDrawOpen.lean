/-
  How an argument that is a row of numbers is read: what the memory holds of it, and how long it is at most.
-/
import Derived.Test.YtghjdnpohbhohaaDrawOrder0
import Derived.ChangeSlices
import Derived.SizedLaws
import Derived.ProofKit
import Derived.OpenShut
namespace Go.Proofs.Ytghjdnpohbhohaa
open Go.ChangeShapes Go.WideShapes Go.ChangeAt Go.RowKit
theorem cells_u64 : Try.prog.cellsOf 22 = 1 := by kernel_rfl
theorem bytes_u64 : Try.prog.bytesOf 22 = 8 := by kernel_rfl
theorem lt_cell {w : World} {a : Addr} {v : Value} (h : w.cell? a = some v) : a.block < w.heap.size := by
  rcases Nat.lt_or_ge a.block w.heap.size with h' | h'
  · exact h'
  · simp [World.cell?, Array.getElem?_eq_none h'] at h
theorem add_block (a : Addr) (j : Nat) : (a.add j).block = a.block := by unfold Addr.add; split <;> rfl
theorem u64s_of (zs : List Int) (h : ∀ n ∈ zs, (Lit.int .u64 n).wf = true) : ∃ l : List Nat, zs = l.map (fun b : Nat => (b : Int)) ∧ ∀ x ∈ l, (x : Int) ≤ 18446744073709551615 := by
  induction zs with
  | nil => exact ⟨[], rfl, fun _ h => by cases h⟩
  | cons n zs ih =>
    obtain ⟨b, hb, hlt⟩ := Dw.u64_of (h n (by simp))
    obtain ⟨l, hl, hb2⟩ := ih (fun m hm => h m (by simp [hm]))
    refine ⟨b :: l, by rw [hb, hl]; rfl, fun x hx => ?_⟩
    rcases List.mem_cons.1 hx with rfl | hx
    · exact Dw.le_of hlt
    · exact hb2 x hx
theorem open_u64s {H : Type} {enc : TypeId × Value → H} {W : World} {v : Value} {d : DataW H} {p : List MemPlace} {ts : List TypeId} {ds : List (DataW H)} {base : Nat} (j : Nat) (o : Value.okWide Try.prog W .any base 25 v)
    (h : DataW.Trod enc Try.prog W 0 (fun _ => true) true 25 v d p) (hsz : (DataW.weightsEach Try.prog ts ds).all (fun x => decide (x ≤ reachBytes)) = true) (hj : ts[j]? = some 25) (hd : ds[j]? = some d) :
    ∃ ao cap Z, v = .slice ao Z.length cap ∧ Ints W v Z ∧ Row W ao Z ∧ (∀ x ∈ Z, (x : Int) ≤ 18446744073709551615) ∧ Z.length ≤ cap ∧ cap * 8 ≤ 140737488351232 := by
  obtain ⟨a0, l0, c0, rfl⟩ := okWide_slice Try.underlying25 o
  obtain ⟨fuel, h⟩ := h
  rcases open_ints Try.underlying25 Try.underlying22 cells_u64 h with ⟨hcs, hx⟩ | ⟨a, len, cap, zs, hcs, _, hl, hm, hz, hx, hcell, hwz⟩
  · have hcs : [Value.slice a0 l0 c0] = [.slice none 0 0] := hcs
    cases hcs
    exact ⟨none, 0, [], rfl, .inl ⟨rfl, rfl⟩, fun j hj => absurd hj (by simp), (fun _ h => absurd h (by simp)), Nat.le_refl _, by omega⟩
  · have hcs : [Value.slice a0 l0 c0] = [.slice (some a) len cap] := hcs
    cases hcs
    cases hx
    obtain ⟨l, rfl, hb⟩ := u64s_of zs hwz
    simp only [if_true, List.length_map] at hz
    have hlen : (l.take l0).length = l0 := by rw [List.length_take]; omega
    have hc : ∀ i (hi : i < (l.take l0).length), W.cell? (a.add i) = some (.int .u64 ((l.take l0)[i] : Nat)) := by
      intro i hi
      have hi2 : i < l.length := by rw [hlen] at hi; omega
      rw [hcell i (by rw [List.length_map]; exact hi2)]
      congr 2
      rw [List.getElem_take, List.getD, List.getElem?_map, List.getElem?_eq_getElem hi2]
      rfl
    have hw := sized_slice hsz hj hd Try.underlying25
    rw [bytes_u64] at hw
    simp only [lits, List.length_map, List.length_take, List.length_drop, reachBytes] at hw
    refine ⟨some a, c0, l.take l0, by rw [hlen], .inr ⟨a, c0, by rw [hlen], by omega, hm, hc⟩, fun i hi => ⟨a, rfl, ?_, hc i hi⟩, fun x hx => hb x (List.mem_of_mem_take hx), by omega, by omega⟩
    have := lt_cell (hc i hi)
    rwa [add_block] at this
end Go.Proofs.Ytghjdnpohbhohaa
