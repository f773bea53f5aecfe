/-
  Contracts over this program: a plain row of pairs beside a record; find, without, fits.
-/
import Derived.Test.YtkcmhfcfmbhboaaGreatRecSample
import Derived.Test.YtkcmhfcfmbhboaaGreatRecOpen
namespace Go.Proofs.YtkcmhfcfmbhboaaGreat
open Go.RowKit Go.Shelf
theorem own_zero {w : World} {B e s : Nat} {v : Value} {n : Nat} {xs : List Value} (h : w.ownsRow B e s v n xs) : w.ownsRow 0 e s v n xs := by
  refine ⟨h.1, ?_⟩
  rcases h.2 with h' | ⟨g, cap, cur, h1, _, h2⟩
  · exact .inl h'
  · exact .inr ⟨g, cap, cur, h1, Nat.zero_le _, h2⟩
/-- a row of pairs lies in a slice of one's own -/
def Rw (B : Nat) (w : World) (v : Value) (l : List Ent) : Prop := w.ownsRow B 54 2 v l.length (enL l)
theorem Rw.form {B : Nat} {w : World} {v : Value} {l : List Ent} (h : Rw B w v l) : ∃ ao cap, v = .slice ao l.length cap ∧ (l = [] ∨ ∃ g, ao = some ⟨g, 0, none⟩ ∧ g < w.heap.size ∧ B ≤ g) := by
  rcases h.2 with ⟨rfl, h0⟩ | ⟨g, cap, cur, rfl, hb, hg, h1, h2, _⟩
  · exact ⟨none, 0, by rw [h0], .inl (List.length_eq_zero_iff.1 h0)⟩
  · exact ⟨_, cap, rfl, .inr ⟨g, rfl, (Array.getElem?_eq_some_iff.1 hg).1, hb⟩⟩
theorem Rw.at {B : Nat} {w : World} {g n cap p : Nat} {l : List Ent} {e : Ent} (h : Rw B w (.slice (some ⟨g, 0, none⟩) n cap) l) (hp : l[p]? = some e) :
    w.cell? ⟨g, p * 2, none⟩ = some (.string e.1) ∧ w.cell? ⟨g, p * 2 + 1, none⟩ = some (.string e.2) := Lie.at (own_zero h) hp
theorem Rw.kept {B : Nat} {w w' : World} {v : Value} {l : List Ent} (h : Rw B w v l) (hk : ∀ k, v.ownBlock = some k → w'.heap[k]? = w.heap[k]?) : Rw B w' v l := own_kept h hk
theorem Rw.lt {B : Nat} {w : World} {v : Value} {l : List Ent} (h : Rw B w v l) {k : Nat} (hk : v.ownBlock = some k) : k < w.heap.size := own_lt h hk
/-- one more pair behind a row of one's own: the run of append -/
theorem push_row {B : Nat} {v : Value} {l : List Ent} {W2 : World} (e1 e2 : ByteArray) (h : Rw B W2 v l) (hB : B ≤ W2.heap.size) (hl : l.length ≤ 2600000000000) :
    ∃ g cap W3, (Builtin.append_ #[36, 36] 36 #[v, .slice (some ⟨W2.heap.size, 0, none⟩) 1 1]).run Tryz.prog (W2.alloc (.cells #[.string e1, .string e2] 54)) = .ok (.slice (some ⟨g, 0, none⟩) (l.length + 1) cap) W3 ∧
      Rw B W3 (.slice (some ⟨g, 0, none⟩) (l.length + 1) cap) (l ++ [(e1, e2)]) ∧ W2.heap.size < W3.heap.size ∧ (W3.os = W2.os ∧ W3.tape = W2.tape ∧ W3.output = W2.output) ∧ (v.ownBlock = some g ∨ W2.heap.size ≤ g) ∧ ∀ k, k < W2.heap.size → v.ownBlock ≠ some k → W3.heap[k]? = W2.heap[k]? := by
  obtain ⟨i0, hi0, hz0, hz1, hzb⟩ := info_parts info_pair
  obtain ⟨ao, cap0, rfl, _⟩ := h.form
  obtain ⟨g, cap, W3, hrun, hown, hgr, hat, hg3⟩ := run_append_lies (P := Tryz.prog) (w := W2.alloc (.cells #[.string e1, .string e2] 54)) 36 36 B 54 i0 _ 2 32 Tryz.underlying36 hi0 hz0 hz1 hzb rfl (by omega) (.slice ao l.length cap0) l.length (enL l) (h.alloc _) ⟨W2.heap.size, 0, none⟩ 1 1 [.string e1, .string e2] rfl (World.news_of_block (cs := #[.string e1, .string e2]) (t := 54) (fr := (0, 0)) (heap_alloc_new W2 _)) (by simp [Value.oneCell']) (by omega) (by unfold maxLen; omega) (by omega) (by simp; omega) (W2.heap.size + 1) (by simp)
  have hs3 : W2.heap.size + 1 ≤ W3.heap.size := by have := hgr.size; simpa using this
  refine ⟨g, cap, W3, hrun, ?_, by omega, ⟨hgr.os, hgr.tape, hgr.output⟩, ?_, fun k hk hn => ?_⟩
  · have e : enL (l ++ [(e1, e2)]) = enL l ++ [.string e1, .string e2] := by unfold enL; rw [List.flatMap_append]; rfl
    unfold Rw
    rw [e, List.length_append]
    exact hown
  · rcases hat with h | h
    · exact .inl h
    · exact .inr (by omega)
  · rw [hgr.block k (by simp; omega) (fun e => hn e.symm), Below.heap_alloc _ _ _ hk]
theorem erase_step {l : List Ent} {k p : Nat} {e : Ent} (he : l[k]? = some e) : (l.take (k + 1)).eraseIdx p = if k = p then (l.take k).eraseIdx p else (l.take k).eraseIdx p ++ [e] := by
  obtain ⟨hk, rfl⟩ := List.getElem?_eq_some_iff.1 he
  have hlen : (l.take k).length = k := by rw [List.length_take]; omega
  rw [List.take_succ_eq_append_getElem hk]
  by_cases h : k = p
  · subst h
    rw [if_pos rfl, List.eraseIdx_append_of_length_le (by rw [hlen]; exact Nat.le_refl _), hlen, Nat.sub_self]
    show l.take k ++ [] = _
    rw [List.append_nil]
    exact (List.eraseIdx_of_length_le (by rw [hlen]; exact Nat.le_refl _)).symm
  · rw [if_neg h]
    rcases Nat.lt_or_gt_of_ne h with h1 | h1
    · rw [List.eraseIdx_of_length_le (by simp; omega), List.eraseIdx_of_length_le (by rw [hlen]; omega)]
    · rw [List.eraseIdx_append_of_lt_length (by rw [hlen]; exact h1)]
end Go.Proofs.YtkcmhfcfmbhboaaGreat
