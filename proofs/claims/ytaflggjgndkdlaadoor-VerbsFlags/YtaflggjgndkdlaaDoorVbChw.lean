/-
  Contracts over this program: rows of texts side by side, and what the walk of VerbsChecks keeps of them.
-/
import Derived.Test.YtaflggjgndkdlaaDoorVbRef6
import Derived.Test.YtaflggjgndkdlaaDoorVbSpo
namespace Go.Proofs.YtaflggjgndkdlaaDoor
open Go.RowKit
set_option linter.unusedVariables false
theorem Wd.small {w : World} {so : Option Addr} {S : List ByteArray} (h : Wd w so S) : ∀ s ∈ S, s.size ≤ maxLen := fun s hs => by
  obtain ⟨j, hj, rfl⟩ := List.getElem_of_mem hs
  obtain ⟨_, _, _, h3, _⟩ := h j hj
  exact h3
theorem keysL_small {S : List ByteArray} (h : ∀ s ∈ S, s.size ≤ maxLen) : ∀ s ∈ keysL S, s.size ≤ maxLen := fun s hs => by
  unfold keysL at hs
  split at hs
  · unfold keysR at hs
    obtain ⟨k, _, rfl⟩ := List.mem_map.1 hs
    rw [List.getD_eq_getElem?_getD]
    cases e : S[1 + k * (chk S).2.1.2.2.2.2.toNat]? with
    | none => exact Nat.zero_le _
    | some x => exact h _ (List.mem_of_getElem? e)
  · cases hs
theorem keysL_len (S : List ByteArray) : (keysL S).length ≤ 1024 := by
  unfold keysL
  split
  · rename_i hc
    obtain ⟨g1, g2, s, r, g3, g4, g5, g6⟩ := chk_row hc.1
    obtain ⟨p1, p2, p3, p4, p5⟩ := row_places (find_okRow g4) g6 hc.2
    rw [keysR_len]
    have hl := (not_long g1).1
    generalize cntK S.length (chk S).2.1 = C at *
    generalize lastK S.length (chk S).2.1 = L at *
    cases C with
    | zero => exact Nat.zero_le _
    | succ C =>
      have h := (p5 C).2 (Nat.lt_succ_self C)
      have hj : C ≤ C * (chk S).2.1.2.2.2.2.toNat := Nat.le_mul_of_pos_right C (by rcases p2 with h | h <;> rw [h] <;> decide)
      generalize C * (chk S).2.1.2.2.2.2.toNat = M at *
      omega
  · exact Nat.zero_le _
theorem Ks.lit {B b : Nat} {w : World} (S : List ByteArray) (h : w.heap[b]? = some (.cells (S.map Value.string).toArray 9 (0, 0))) (hB : B ≤ b) (hl : S.length ≤ maxLen) : Ks B w (.slice (some ⟨b, 0, none⟩) S.length S.length) S :=
  ⟨by simp, .inr ⟨b, S.length, _, rfl, hB, h, Nat.le_refl _, hl, by simp, by rw [Nat.mul_one]; exact List.take_of_length_le (by simp)⟩⟩
/-- texts more, out of a row that lies anywhere -/
theorem app_all {B : Nat} {w : World} {v : Value} {l : List ByteArray} {so : Option Addr} {S : List ByteArray} (cap : Nat) (h1 : Ks B w v l) (hT : Wd w so S) (hB : B ≤ w.heap.size) (hl : l.length + S.length ≤ 8796093022208) (ty : TypeId) :
    ∃ v' w', (Builtin.append_ #[28, 28] ty #[v, .slice so S.length cap]).run Tryd.prog w = .ok v' w' ∧ Ks B w' v' (l ++ S) ∧ Gr v v' w w' := by
  obtain ⟨i0, hi0, hz0, hz1, hz2⟩ := parts_of info_str
  have hs : Src Tryd.prog 1 28 (.slice so S.length cap) S.length (S.map Value.string) w := by
    cases so with
    | none =>
      cases S with
      | nil => exact Src.ofNil _ Tryd.underlying28 cap
      | cons s S => obtain ⟨a, e, _⟩ := hT 0 (by simp); cases e
    | some a =>
      refine Src.ofSlice _ Tryd.underlying28 a S.length cap _ (by rw [List.length_map, Nat.mul_one]) (fun j u hu => ?_) (fun u hu => ?_)
      · rw [List.getElem?_map] at hu
        cases e : S[j]? with
        | none => rw [e] at hu; cases hu
        | some x =>
          rw [e] at hu
          cases hu
          obtain ⟨hj, ej⟩ := List.getElem?_eq_some_iff.1 e
          obtain ⟨a', ea, _, _, h4⟩ := hT j hj
          cases ea
          rw [h4, ej]
      · obtain ⟨x, _, rfl⟩ := List.mem_map.1 hu
        rfl
  obtain ⟨v', w', r1, r2, r3, r4, _⟩ := app_gen w B 28 28 ty 9 i0 _ 1 16 Tryd.underlying28 hi0 hz0 hz1 hz2 rfl (by decide) v l.length _ h1 _ S.length _ hs (by unfold maxLen; omega) (by omega) hB
  refine ⟨v', w', r1, ?_, r3, fun k hk => ?_⟩
  · unfold Ks
    rw [List.length_append, List.map_append]
    exact r2
  · rcases r4 with e | e
    · exact .inl (e ▸ hk)
    · rw [e] at hk; cases hk; exact .inr (Nat.le_refl _)
def markB : ByteArray := ⟨#[109, 97, 114, 107]⟩
def kramB : ByteArray := ⟨#[107, 114, 97, 109]⟩
/-- the words copied, two more behind them -/
theorem copied (so : Option Addr) (cap : Nat) (S : List ByteArray) (w : World) (hT : Wd w so S) (hl : S.length ≤ 8796093021952) (ty : TypeId) :
    ∃ ao c1 w1 gl c2 w2, (Builtin.append_ #[28, 28] ty #[.slice (some ⟨w.heap.size, 0, none⟩) 0 0, .slice so S.length cap]).run Tryd.prog (w.alloc (.cells #[] 9)) = .ok (.slice ao S.length c1) w1 ∧
      (Builtin.append_ #[28, 28] ty #[.slice ao S.length c1, .slice (some ⟨w1.heap.size, 0, none⟩) 2 2]).run Tryd.prog (w1.alloc (.cells #[.string ⟨#[109, 97, 114, 107]⟩, .string ⟨#[107, 114, 97, 109]⟩] 9)) = .ok (.slice (some ⟨gl, 0, none⟩) (S.length + 2) c2) w2 ∧
      Below w.heap.size w w2 ∧ Ks w.heap.size w2 (.slice (some ⟨gl, 0, none⟩) (S.length + 2) c2) (S ++ [markB, kramB]) ∧ gl < w2.heap.size ∧ S.length + 2 ≤ c2 := by
  have b0 : Below w.heap.size w (w.alloc (.cells #[] 9)) := (Below.refl _ w).alloc (Nat.le_refl _) _
  have k0 : Ks w.heap.size (w.alloc (.cells #[] 9)) (.slice (some ⟨w.heap.size, 0, none⟩) 0 0) [] := Ks.lit [] (heap_alloc_new _ _) (Nat.le_refl _) (Nat.zero_le _)
  obtain ⟨v1, w1, r1, k1, g1⟩ := app_all cap k0 (hT.below b0) b0.size (by simp; omega) ty
  rw [List.nil_append] at k1
  have b1 : Below w.heap.size w w1 := b0.trans (g1.below b0.size k0.from)
  obtain ⟨ao, c1, rfl⟩ := k1.form
  have b2 : Below w1.heap.size w1 (w1.alloc (.cells #[.string ⟨#[109, 97, 114, 107]⟩, .string ⟨#[107, 114, 97, 109]⟩] 9)) := (Below.refl _ w1).alloc (Nat.le_refl _) _
  have t2 : Wd (w1.alloc (.cells #[.string ⟨#[109, 97, 114, 107]⟩, .string ⟨#[107, 114, 97, 109]⟩] 9)) (some ⟨w1.heap.size, 0, none⟩) [markB, kramB] := row_wd (t := 9) (fr := (0, 0)) [markB, kramB] (heap_alloc_new _ _) (by intro u hu; unfold maxLen; simp only [List.mem_cons, List.not_mem_nil, or_false] at hu; rcases hu with rfl | rfl <;> decide)
  obtain ⟨v2, w2, r2, k2, g2⟩ := app_all 2 (k1.later b2) t2 (Nat.le_trans b1.size b2.size) (by show S.length + 2 ≤ _; omega) ty
  have b3 : Below w.heap.size w w2 := (b1.trans (b2.mono b1.size)).trans (g2.below (Nat.le_trans b1.size b2.size) k1.from)
  have hl2 : (S ++ [markB, kramB]).length = S.length + 2 := by rw [List.length_append]; rfl
  rcases k2.2 with ⟨_, hn⟩ | ⟨gl, c2, cur, e, _, hg, hc, _⟩
  · rw [hl2] at hn; omega
  · rw [hl2] at e hc
    subst e
    exact ⟨ao, c1, w1, gl, c2, w2, r1, r2, b3, k2, (Array.getElem?_eq_some_iff.1 hg).1, hc⟩
end Go.Proofs.YtaflggjgndkdlaaDoor
