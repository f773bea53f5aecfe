/-
  A map that counts texts, in the memory.
-/
import Derived.Test.YtmokahcjkokanaaFlSort
import Derived.Maps.OwnIn
import Derived.Maps.Views
namespace Go.Proofs.Ytmokahcjkokanaa
open Go.RowKit Go.Shelf Go.Maps
/-- the map in block b counts: c says how often; n bounds its entries -/
def Tal (w : World) (b n : Nat) (c : ByteArray → Nat) : Prop :=
  ∃ D : DataW Unit, w.ownsMap Try.prog 9 (plainElem Try.prog 3) b n D ∧ (∀ k, D.atKey (.string (ky k)) (.lit (.int .i64 0)) = .lit (.int .i64 ((c k : Nat) : Int))) ∧ ∀ k, has D (.string (ky k)) = decide (0 < c k)
theorem key_of (k : ByteArray) (hk : k.size ≤ maxLen) : keyOf Try.prog 9 (.string k) = some (.string (ky k)) := by
  simp [keyOf, Try.underlying9, mapKey, hk, ky]
theorem Tal.made (w : World) : Tal (w.alloc (.map #[] 0)) w.heap.size 0 (fun _ => 0) :=
  ⟨.map [], World.ownsMap_made w _ _ _, fun _ => rfl, fun _ => rfl⟩
theorem Tal.lt {w : World} {b n : Nat} {c : ByteArray → Nat} (h : Tal w b n c) : b < w.heap.size := by
  obtain ⟨D, h1, _⟩ := h
  exact h1.lt
theorem Tal.kept {w w' : World} {b n : Nat} {c : ByteArray → Nat} (h : Tal w b n c) (hk : w'.heap[b]? = w.heap[b]?) : Tal w' b n c := by
  obtain ⟨D, ⟨es, clock, hb, F, hs, hD⟩, h2⟩ := h
  exact ⟨D, ⟨es, clock, hk.trans hb, F, hs, hD⟩, h2⟩
theorem Tal.look {w : World} {b n : Nat} {c : ByteArray → Nat} (h : Tal w b n c) (k : ByteArray) (hk : k.size ≤ maxLen) :
    (Instr.lookup 70 (.map (some b)) (.string k) false).run Try.prog w = .ok (.int .i64 ((c k : Nat) : Int)) w := by
  obtain ⟨D, h1, h2, _⟩ := h
  obtain ⟨x, hrun, hat, _⟩ := h1.lookup_int (string_keyed Try.underlying9) Try.underlying70 Try.underlying3 (Try.zeroValue3 w) (key_of k hk)
  rw [h2 k] at hat
  cases hat
  exact hrun
theorem Tal.put {w : World} {b n : Nat} {c : ByteArray → Nat} (h : Tal w b n c) (k : ByteArray) (hk : k.size ≤ maxLen) (hn : n < maxLen) (v : Nat) (hv : v < 4611686018427387904) (hv0 : 0 < v) :
    ∃ w', (Instr.mapUpdate 70 (.map (some b)) (.string k) (.int .i64 ((v : Nat) : Int))).run Try.prog w = .ok () w' ∧ Tal w' b (n + 1) (fun x => if x = k then v else c x) ∧ w.grownBy w' (some b) := by
  obtain ⟨D, h1, h2, h3⟩ := h
  have hM : IsMap D := by obtain ⟨_, _, _, _, _, hD⟩ := h1; exact ⟨_, hD⟩
  obtain ⟨w', r1, r2, r3⟩ := h1.update (string_keyed Try.underlying9) Try.underlying70 hn (key_of k hk) (plainElem_int (H := Unit) (P := Try.prog) (e := 3) Try.underlying3 (a := (v : Int)) (by have h1 : IntKind.i64.min = -9223372036854775808 := rfl; have h2 : IntKind.i64.max = 9223372036854775807 := rfl; simp [Lit.wf, h1, h2]; omega))
  refine ⟨w', r1, ⟨_, r2, fun x => ?_, fun x => ?_⟩, r3⟩
  · dsimp only
    by_cases e : x = k
    · subst e
      rw [if_pos rfl, atKey_put_same hM (by trivial)]
    · rw [if_neg e, atKey_put_other (fun e' => e (ky_inj (by injection e'))), h2 x]
  · dsimp only
    by_cases e : x = k
    · subst e
      rw [has_put_same hM (by trivial)]; simp [hv0]
    · rw [has_put_other (fun e' => e (ky_inj (by injection e'))), h3 x]; simp [e]
end Go.Proofs.Ytmokahcjkokanaa
