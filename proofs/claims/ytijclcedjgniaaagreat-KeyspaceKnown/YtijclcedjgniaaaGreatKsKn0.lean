/-
  What the statement's own walk wants besides: texts of bytes 0, the lists that are made, configurations that are refused.
-/
import Derived.Test.YtijclcedjgniaaaGreatKsWakes
import Derived.Laws.OwnMore
import Derived.Laws.IdiomStrings
import Derived.Laws.MakeOwn
namespace Go.Proofs.YtijclcedjgniaaaGreat
open Go.RowKit Go.Shelf
set_option linter.unusedVariables false
set_option maxRecDepth 100000
namespace Ks
open Vl
theorem info_u8C : (Tryz.prog.info? 5).map (fun i => (i.zero, i.size, i.bytes)) = some (some (.int .u8 0), 1, 1) := by kernel_rfl
theorem own_at {B : Nat} {w : World} {e g n cap j : Nat} {xs : List Value} {x : Value} (h : w.ownsRow B e 1 (.slice (some ⟨g, 0, none⟩) n cap) n xs) (hx : xs[j]? = some x) : w.cell? ⟨g, j, none⟩ = some x := by
  have := h.cells (g := g) rfl j x hx
  rwa [add0] at this
/-- the text of n bytes 0, as make and a conversion lay it -/
theorem zeros_text (w : World) (n : Nat) (hn : n ≤ 2097152) :
    ∃ w' z, (Instr.makeSlice 84 (.int .i64 (n : Int)) (.int .i64 (n : Int))).run Tryz.prog w = .ok (.slice (some ⟨w.heap.size, 0, none⟩) n n) w' ∧ (∀ w'', Below w'.heap.size w' w'' → (convert 84 9 (.slice (some ⟨w.heap.size, 0, none⟩) n n)).run Tryz.prog w'' = .ok (.string z) w'') ∧ z.size = n ∧ Below w.heap.size w w' := by
  obtain ⟨i0, hi0, hz0, hz1, hz2⟩ := info_parts info_u8C
  obtain ⟨w', h1, h2, h3⟩ := run_make_full (P := Tryz.prog) w w.heap.size 84 5 i0 (.int .u8 0) 1 Tryz.underlying84 hi0 hz0 hz1 .i64 .i64 n (by rw [hz2]; omega) (by unfold maxLen; omega) (Nat.le_refl _)
  have hl : (List.replicate n (0 : UInt8)).length = n := List.length_replicate
  refine ⟨w', ⟨(List.replicate n (0 : UInt8)).toArray⟩, h1, fun w'' hb'' => ?_, by show (List.replicate n (0 : UInt8)).toArray.size = n; simp, (Below.refl _ w).grown h3 (Nat.le_refl _) (fun k hk => by cases hk)⟩
  have h2' := kept h2 hb''
  have hb := run_convert_bytes_back (P := Tryz.prog) w'' 84 9 5 ⟨w.heap.size, 0, none⟩ n (List.replicate n 0) Tryz.underlying84 Tryz.underlying5 Tryz.underlying9 (fun j hj => by
    rw [hl] at hj
    rw [add0, List.getElem_replicate]
    refine own_at h2' ?_
    show (madeCells #[.int .u8 0] (n * 1)).toList[j]? = _
    rw [toList_madeCells_one, Nat.mul_one, List.getElem?_replicate, if_pos hj]
    rfl)
  rw [hl] at hb
  exact hb
theorem nil_row (w : World) (B t s : Nat) : w.ownsRow B t s (.slice none 0 0) 0 [] := ⟨by simp, .inl ⟨rfl, rfl⟩⟩
def dL (l : List ByteArray) : Dt := ⟨2, .empty, l, [], []⟩
theorem dL_ok {l : List ByteArray} (h1 : ∀ x ∈ l, x.size ≤ 1048576) (h2 : l.length ≤ 1048576) : Rfz (dL l) 0 := by
  refine .inr (.inr (.inr ⟨rfl, ?_, ?_, ?_⟩))
  · rintro (h | h | ⟨e, he, _⟩)
    · exact h (by simp [Fit, dL])
    · rcases h with ⟨h, _⟩ | h | h
      · exact absurd h (show ¬ (2 : Int) = 4 by decide)
      · exact h (by simp [dL])
      · exact h (by simp [dL])
    · simp [dL] at he
  · rintro (h | ⟨x, hx, h⟩ | ⟨x, hx, _⟩ | ⟨x, hx, _⟩)
    · exact absurd h (show ¬ 1048576 < ByteArray.empty.size by decide)
    · have := h1 x hx; omega
    · simp [dL] at hx
    · simp [dL] at hx
  · rintro (h | h | h)
    · have : (dL l).items.length = l.length := rfl; omega
    · simp [dL] at h
    · simp [dL] at h
theorem dL_wf {l : List ByteArray} (h1 : ∀ x ∈ l, x.size ≤ 1048576) : Wf (dL l) := by
  refine ⟨(show ByteArray.empty.size ≤ maxLen by decide), fun x hx => ?_, fun x hx => by simp [dL] at hx, fun x hx => by simp [dL] at hx⟩
  have := h1 x hx
  unfold maxLen
  omega
/-- the value that a list is -/
theorem va_vi {B : Nat} {w : World} {b : Nat} {l : List ByteArray} (h : VaL B w b (dL l)) : ∃ o cs, Hol w b 141 (.agg #[.pointer (some ⟨o, 0, none⟩)]) ∧ DQ.Dq w o cs ∧ DQ.row cs = l ∧ ∀ k, (viL b o cs).own k → B ≤ k ∧ k < w.heap.size := by
  obtain ⟨o, W, h1, h2, h3, cs, h4, h5, h6, h7⟩ := h
  refine ⟨o, cs, h3, h4, h5, fun k hk => ?_⟩
  have hlt := (vs_list h3 h4).1 k hk
  rcases hk with hk | hk
  · rw [hk]; rw [hk] at hlt; exact ⟨h2, hlt⟩
  · exact ⟨Nat.le_trans h1 (h6 k hk), hlt⟩
/-- its own block is none of its deque's -/
theorem not_owd {w : World} {b o : Nat} {cs : List DQ.Chk} (h : Hol w b 141 (.agg #[.pointer (some ⟨o, 0, none⟩)])) (hd : DQ.Dq w o cs) : ¬ DQ.OwD o cs b := by
  rintro (e | ⟨x, hx, e⟩)
  · have h1 := hd.1.1
    unfold DQ.Ds at h1
    unfold Hol at h
    rw [e] at h
    rw [h] at h1
    simp at h1
  · obtain ⟨pv, nv, rest, hl, hc⟩ := hd.1.2.1.mem x hx
    unfold Hol at h
    rw [← e] at h
    rw [h] at hc
    simp [DQ.ckC] at hc
/-- the configurations that are refused -/
def cfs : List (Int × Int × Int) := [(-1, 0, 0), (0, 1, 0), (0, 2, 17), (0, 3, 1), (0, -1, 0), (0, 0, -1)]
def enK (l : List (Int × Int × Int)) : List Value := l.flatMap fun c => [.int .u64 0, .int .i64 c.1, .int .i64 c.2.1, .int .i64 c.2.2]
def aCf : Array Value := #[.int .u64 0, .int .i64 (-1), .int .i64 0, .int .i64 0, .int .u64 0, .int .i64 0, .int .i64 1, .int .i64 0, .int .u64 0, .int .i64 0, .int .i64 2, .int .i64 17, .int .u64 0, .int .i64 0, .int .i64 3, .int .i64 1, .int .u64 0, .int .i64 0, .int .i64 (-1), .int .i64 0, .int .u64 0, .int .i64 0, .int .i64 0, .int .i64 (-1)]
theorem cf_bad : ∀ (k : Nat) (c : Int × Int × Int), cfs[k]? = some c → c.1 < 0 ∨ c.2.1 < 0 ∨ 2 < c.2.1 ∨ sf c.2.1 c.2.2 = false
  | 0, c, h => by cases h; exact .inl (by decide)
  | 1, c, h => by cases h; exact .inr (.inr (.inr rfl))
  | 2, c, h => by cases h; exact .inr (.inr (.inr rfl))
  | 3, c, h => by cases h; exact .inr (.inr (.inl (by decide)))
  | 4, c, h => by cases h; exact .inr (.inl (by decide))
  | 5, c, h => by cases h; exact .inr (.inr (.inr rfl))
  | k + 6, c, h => by simp [cfs] at h
theorem cf_at : ∀ (k : Nat) (c : Int × Int × Int), cfs[k]? = some c → aCf[k * 4]? = some (.int .u64 0) ∧ aCf[k * 4 + 1]? = some (.int .i64 c.1) ∧ aCf[k * 4 + 2]? = some (.int .i64 c.2.1) ∧ aCf[k * 4 + 3]? = some (.int .i64 c.2.2)
  | 0, c, h => by cases h; exact ⟨rfl, rfl, rfl, rfl⟩
  | 1, c, h => by cases h; exact ⟨rfl, rfl, rfl, rfl⟩
  | 2, c, h => by cases h; exact ⟨rfl, rfl, rfl, rfl⟩
  | 3, c, h => by cases h; exact ⟨rfl, rfl, rfl, rfl⟩
  | 4, c, h => by cases h; exact ⟨rfl, rfl, rfl, rfl⟩
  | 5, c, h => by cases h; exact ⟨rfl, rfl, rfl, rfl⟩
  | k + 6, c, h => by simp [cfs] at h
end Ks
end Go.Proofs.YtijclcedjgniaaaGreat
