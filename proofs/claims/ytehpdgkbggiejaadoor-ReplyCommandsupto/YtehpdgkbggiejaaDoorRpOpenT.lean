/-
  How texts that came in are read, and how long the command is that they make.
-/
import Derived.Test.YtehpdgkbggiejaaDoorRpOpenN
import Derived.Test.YtehpdgkbggiejaaDoorRpReq
namespace Go.Proofs.YtehpdgkbggiejaaDoor
open Go.ChangeShapes Go.WideShapes Go.ChangeAt Go.RowKit
set_option linter.unusedVariables false
set_option maxRecDepth 100000
theorem rq_len (S : List ByteArray) (hS : ∀ s ∈ S, s.size ≤ 1048576) : (S.flatMap fun s => Rp.enc 1 (bkR 0 s)).length ≤ 12 * (S.map fun s => s.size + 1).sum := by
  induction S with
  | nil => exact Nat.le_refl _
  | cons s S ih =>
    have h1 := ih (fun u hu => hS u (List.mem_cons_of_mem _ hu))
    have h2 := hS s (List.mem_cons_self ..)
    have h3 : (Lib.itoa (s.size : Int)).length ≤ 7 := by
      rw [Pl.itoa_pos (by omega), Int.toNat_natCast]
      exact Pl.dd_len 6 s.size (Nat.lt_of_le_of_lt h2 (by decide))
    have h4 : (Rp.enc 1 (bkR 0 s)).length ≤ 12 + s.size := by
      show (36 :: (Lib.itoa (s.size : Int) ++ Rp.crlf ++ Rp.bytesOf s ++ Rp.crlf)).length ≤ _
      have := Rp.bytes_len s
      simp only [List.length_cons, List.length_append, Rp.crlf, List.length_nil] at *
      omega
    rw [List.flatMap_cons, List.length_append, List.map_cons, List.sum_cons]
    omega
theorem rq_all (S : List ByteArray) (hS : ∀ s ∈ S, s.size ≤ 1048576) (hn : S.length ≤ 1048576) (hw : (S.map fun s => s.size + 1).sum ≤ 1048576) : (Rp.enc 2 (rqR S)).length ≤ 16777216 := by
  rw [rq_enc]
  have h1 := rq_len S hS
  have h2 := Pl.itoa_len (S.length : Int) (by omega) (by omega)
  simp only [List.length_cons, List.length_append, Rp.crlf, List.length_nil] at *
  omega
section
variable {H : Type} {enc : TypeId × Value → H} {W : World}
theorem open_txs {v : Value} {d : DataW H} {p : List MemPlace} {base : Nat} (o : Value.okWide Tryd.prog W .any base 42 v)
    (h : DataW.Trod enc Tryd.prog W 0 (fun _ => true) true 42 v d p) (hd : Rows.uptoBulk d ≤ 1048576) :
    ∃ so cap S, v = .slice so S.length cap ∧ Txs W so S ∧ S.length ≤ 1048576 ∧ (∀ s ∈ S, s.size ≤ 1048576) ∧ (S.map fun s => s.size + 1).sum ≤ 1048576 := by
  obtain ⟨a0, l0, c0, rfl⟩ := okWide_slice Tryd.underlying42 o
  obtain ⟨fuel, h⟩ := h
  rcases Go.Deep.open_slice Tryd.underlying42 h with ⟨hcs, hx⟩ | ⟨a, len, cap, m, n, D, Pl, hcs, _, hl, hm, hmm, hx, hel⟩
  · have hcs : [Value.slice a0 l0 c0] = [.slice none 0 0] := hcs
    cases hcs
    exact ⟨none, 0, [], rfl, (fun j hj => absurd hj (by simp)), (Nat.zero_le _), (fun (s : ByteArray) (hs : s ∈ []) => by simp at hs), (Nat.zero_le _)⟩
  · have hcs : [Value.slice a0 l0 c0] = [.slice (some a) len cap] := hcs
    cases hcs
    simp only [if_true] at hmm
    subst hmm
    have each : ∀ i, ∃ g : ByteArray, i < l0 → W.cell? (a.add i) = some (.string g) ∧ Rows.uptoBulk (D i) = g.size + 1 := by
      intro i
      by_cases hi : i < l0
      · obtain ⟨cs', h1, h2⟩ := hel i (by omega)
        obtain ⟨g, hc, hk, _⟩ := DataW.trod_string Tryd.underlying9 h2
        rw [cells_str] at h1
        obtain ⟨_, _, hcl⟩ := World.cells?_some h1
        refine ⟨g, fun _ => ⟨?_, ?_⟩⟩
        · have e := hcl 0 (by omega)
          rw [hc, Nat.mul_one] at e
          exact e
        · have e : D i = .lit (.string g.data.toList) := congrArg Prod.fst hk
          rw [e, bulk_str]
      · exact ⟨.empty, fun h => absurd h hi⟩
    obtain ⟨f, hf⟩ := Classical.skolem.1 each
    have hL : ((List.range l0).map f).length = l0 := by simp
    cases hx
    have hbs : ∀ k, k ≤ l0 → (((List.range k).map f).map fun s => s.size + 1).sum = (((List.range k).map D).map Rows.uptoBulk).sum ∧ k ≤ (((List.range k).map f).map fun s => s.size + 1).sum := by
      intro k
      induction k with
      | zero => intro _; exact ⟨rfl, Nat.le_refl _⟩
      | succ k ih =>
        intro hk
        have h1 := ih (by omega)
        have h2 := (hf k (by omega)).2
        rw [List.range_succ]
        simp only [List.map_append, List.map_cons, List.map_nil, List.sum_append, List.sum_cons, List.sum_nil] at *
        omega
    have hb0 := hbs l0 (Nat.le_refl _)
    obtain ⟨ee, hd'⟩ : ∃ ee, Rows.uptoBulkAll ((List.range l0).map D) + ee + 1 ≤ 1048576 := ⟨_, hd⟩
    rw [bulk_all] at hd'
    have hall : ∀ s ∈ (List.range l0).map f, s.size ≤ 1048576 := fun s hs => by
      have := Rp.sum_mem (fun s : ByteArray => s.size + 1) _ s hs
      omega
    refine ⟨some a, _, (List.range l0).map f, by rw [hL], fun i hi => ?_, by rw [hL]; omega, hall, by omega⟩
    rw [hL] at hi
    have e : ((List.range l0).map f)[i]'(by rw [hL]; exact hi) = f i := by simp
    rw [e]
    obtain ⟨g0, _⟩ := hf i hi
    refine ⟨a, rfl, ?_, hall _ (List.mem_map.2 ⟨i, List.mem_range.2 hi, rfl⟩), g0⟩
    have := (spot_none g0).2
    rwa [addr_block] at this
end
end Go.Proofs.YtehpdgkbggiejaaDoor
