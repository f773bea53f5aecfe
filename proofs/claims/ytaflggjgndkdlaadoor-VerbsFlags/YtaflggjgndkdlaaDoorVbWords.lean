/-
  Words in the memory: rows that are made, that are written, that came out of a literal; and what Check tells of them, by its error's number.
-/
import Derived.Test.YtaflggjgndkdlaaDoorVbKeys
import Derived.Laws.MakeOwn
import Derived.Laws.OwnMore
namespace Go.Proofs.YtaflggjgndkdlaaDoor
open Go.RowKit
set_option linter.unusedVariables false
theorem row_wd {W : World} {b : Nat} {t : TypeId} {fr : Nat × Nat} (S : List ByteArray) (h : W.heap[b]? = some (.cells (S.map Value.string).toArray t fr)) (hs : ∀ s ∈ S, s.size ≤ maxLen) : Wd W (some ⟨b, 0, none⟩) S := fun j hj => by
  refine ⟨_, rfl, (Array.getElem?_eq_some_iff.1 h).1, hs _ (List.getElem_mem _), ?_⟩
  rw [add_at, cell_of_row _ _ _ _ _ _ h]
  simp [hj]
theorem info_u8C : (Tryd.prog.info? 5).map (fun i => (i.zero, i.size, i.bytes)) = some (some (.int .u8 0), 1, 1) := by kernel_rfl
theorem own_at {B : Nat} {w : World} {e g n cap j : Nat} {xs : List Value} {x : Value} (h : w.ownsRow B e 1 (.slice (some ⟨g, 0, none⟩) n cap) n xs) (hx : xs[j]? = some x) : w.cell? ⟨g, j, none⟩ = some x := by
  have add : ∀ i, (⟨g, 0, none⟩ : Addr).add i = ⟨g, i, none⟩ := by intro i; unfold Addr.add; split <;> simp_all
  have := h.cells (g := g) rfl j x hx
  rwa [add] at this
/-- the text of n bytes 0, as make and a conversion lay it -/
theorem zeros_text (w : World) (n : Nat) (hn : n ≤ 4194304) :
    ∃ w' z, (Instr.makeSlice 51 (.int .i64 (n : Int)) (.int .i64 (n : Int))).run Tryd.prog w = .ok (.slice (some ⟨w.heap.size, 0, none⟩) n n) w' ∧ (convert 51 9 (.slice (some ⟨w.heap.size, 0, none⟩) n n)).run Tryd.prog w' = .ok (.string z) w' ∧ z.size = n ∧ Below w.heap.size w w' := by
  obtain ⟨i0, hi0, hz0, hz1, hz2⟩ := parts_of info_u8C
  obtain ⟨w', h1, h2, h3⟩ := run_make_full (P := Tryd.prog) w w.heap.size 51 5 i0 (.int .u8 0) 1 Tryd.underlying51 hi0 hz0 hz1 .i64 .i64 n (by rw [hz2]; omega) (by unfold maxLen; omega) (Nat.le_refl _)
  have hl : (List.replicate n (0 : UInt8)).length = n := List.length_replicate
  refine ⟨w', ⟨(List.replicate n (0 : UInt8)).toArray⟩, h1, ?_, by show (List.replicate n (0 : UInt8)).toArray.size = n; simp, (Below.refl _ w).grown h3 (Nat.le_refl _) (fun k hk => by cases hk)⟩
  have hb := run_convert_bytes_back (P := Tryd.prog) w' 51 9 5 ⟨w.heap.size, 0, none⟩ n (List.replicate n 0) Tryd.underlying51 Tryd.underlying5 Tryd.underlying9 (fun j hj => by
    rw [hl] at hj
    have e : (⟨w.heap.size, 0, none⟩ : Addr).add j = ⟨w.heap.size, j, none⟩ := by unfold Addr.add; split <;> simp_all
    rw [e, List.getElem_replicate]
    refine own_at h2 ?_
    show (madeCells #[.int .u8 0] (n * 1)).toList[j]? = _
    rw [toList_madeCells_one, Nat.mul_one, List.getElem?_replicate, if_pos hj]
    rfl)
  rw [hl] at hb
  exact hb
/-- a row of n empty texts, as make lays it -/
theorem texts_made (w : World) (n : Nat) (hn : n ≤ 4194304) :
    ∃ w', (Instr.makeSlice 28 (.int .i64 (n : Int)) (.int .i64 (n : Int))).run Tryd.prog w = .ok (.slice (some ⟨w.heap.size, 0, none⟩) n n) w' ∧ Ks w.heap.size w' (.slice (some ⟨w.heap.size, 0, none⟩) n n) (List.replicate n ByteArray.empty) ∧ Below w.heap.size w w' := by
  obtain ⟨i0, hi0, hz0, hz1, hz2⟩ := parts_of info_str
  obtain ⟨w', h1, h2, h3⟩ := run_make_full (P := Tryd.prog) w w.heap.size 28 9 i0 _ 1 Tryd.underlying28 hi0 hz0 hz1 .i64 .i64 n (by rw [hz2]; omega) (by unfold maxLen; omega) (Nat.le_refl _)
  refine ⟨w', h1, ?_, (Below.refl _ w).grown h3 (Nat.le_refl _) (fun k hk => by cases hk)⟩
  unfold Ks
  rw [List.length_replicate, List.map_replicate]
  have e : (madeCells (Value.string ByteArray.empty).cells (n * 1)).toList = List.replicate n (Value.string ByteArray.empty) := by
    show (madeCells #[.string ByteArray.empty] (n * 1)).toList = _
    rw [toList_madeCells_one, Nat.mul_one]
  rw [← e]
  exact h2
/-- a text of such a row written anew -/
theorem Ks.set {B : Nat} {w : World} {g n c : Nat} {l : List ByteArray} (h : Ks B w (.slice (some ⟨g, 0, none⟩) n c) l) (j : Nat) (x : ByteArray) (hj : j < l.length) :
    Ks B (w.setCell ⟨g, j, none⟩ (.string x)) (.slice (some ⟨g, 0, none⟩) n c) (l.set j x) ∧ (∃ u, w.cell? ⟨g, j, none⟩ = some u) ∧ w.frozen? ⟨g, j, none⟩ = false := by
  obtain ⟨h0, h1⟩ := h
  rcases h1 with ⟨e, _⟩ | ⟨g', cap, cur, e, hb, hg, q1, q2, q3, q4⟩
  · cases e
  · cases e
    have hsz : j < cur.size := by omega
    refine ⟨⟨by simp, .inr ⟨g, c, cur.setIfInBounds j (.string x), by rw [List.length_set], hb, heap_setCell_same _ _ _ _ _ _ hg, by rw [List.length_set]; exact q1, q2, by rw [Array.size_setIfInBounds]; exact q3, ?_⟩⟩, ⟨cur[j], ?_⟩, frozen_of_row _ _ _ _ _ hg⟩
    · rw [List.length_set, Array.toList_setIfInBounds, List.take_set, q4, List.map_set]
    · rw [cell_of_row _ _ _ _ _ _ hg, Array.getElem?_eq_getElem hsz]
/-- Check, by its error's number -/
theorem check_code (so : Option Addr) (cap : Nat) (S : List ByteArray) (w : World) (c : Int) (hT : Wd w so S) (hl : S.length ≤ maxLen) (hc : (chk S).2.2 = c) :
    Calls Tryd.prog 13 #[.slice so S.length cap] w fun e w' => (∃ n a f x y z, e = .returned (.tuple #[.agg #[.string n, .int .i64 a, .int .i64 f, .int .i64 x, .int .i64 y, .int .i64 z], .int .i64 c])) ∧ Below w.heap.size w w' := by
  refine (check_any so cap S w hT hl).mono ?_
  rintro e w' ⟨hE, hb⟩
  unfold ChkE at hE
  rw [row_form, hc] at hE
  exact ⟨⟨_, _, _, _, _, _, hE⟩, hb⟩
theorem code_long {s : ByteArray} {r : List ByteArray} (h : longW (s :: r) = true) : (chk (s :: r)).2.2 = 2 := by rw [chk_long h]
theorem code_ok {s : ByteArray} {r : List ByteArray} {v : Vb.Row} (h : longW (s :: r) = false) (hf : Vb.find (Vb.up s).toList = some v) (hm : many (s :: r).length v.1 = true) : (chk (s :: r)).2.2 = 0 := by rw [chk_ok h hf hm]
end Go.Proofs.YtaflggjgndkdlaaDoor
