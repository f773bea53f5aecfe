/-
  Contracts over this program: meet.
-/
import Derived.Test.YtoalnfkjpdgbiaaDoorRpMap
import Derived.Test.YtoalnfkjpdgbiaaDoorRpWell
namespace Go.Proofs.YtoalnfkjpdgbiaaDoor
open Go.RowKit
set_option linter.unusedVariables false
/-- the depth as it is noted -/
abbrev dep (d : Nat) : Int := min (d : Int) 8
/-- noted of one place more, or anew -/
def NotedAs (L' L : List (Spot × Int)) (k : Spot) (d : Int) : Prop := ∀ s, noted L' s = if s = k then d else noted L s
theorem meet_none (r : Nat) (ao : Option Addr) (c : Nat) (d : Int) (w : World) :
    Calls Tryd.prog 54 #[.map (some r), .slice ao 0 c, .int .i64 d] w fun e w' => e = .returned (.bool false) ∧ w' = w := by
  go_enter Tryd.func54, Tryd.ntmps54
  go_wp2
  go_ret
  exact ⟨rfl, rfl⟩
theorem grown_update {r : Nat} {w w1 w' : World} (h : Below w.heap.size w w1) (hb : Below r w1 w') (hs : w1.heap.size ≤ w'.heap.size) (hk : ∀ k, k ≠ r → w'.heap[k]? = w1.heap[k]?) : w.grownBy w' (some r) :=
  ⟨hb.os.trans h.os, hb.tape.trans h.tape, hb.output.trans h.output, Nat.le_trans h.size hs, fun k hlt hne => (hk k (fun e => hne (by rw [e]))).trans (h.block k hlt)⟩
set_option maxRecDepth 100000 in
set_option maxHeartbeats 1000000 in
theorem meet_any (r : Nat) (L : List (Spot × Int)) (g m c d : Nat) (w : World) (h : Mp w r L) (hg : Lv w g) (hm : 0 < m) (hm2 : m ≤ c) (hd : d < 1000000) :
    Calls Tryd.prog 54 #[.map (some r), .slice (some ⟨g, 0, none⟩) m c, .int .i64 d] w fun e w' => e = .returned (.bool (!decide (noted L (g, m) = dep d))) ∧ w.grownBy w' (some r) ∧
      ∃ L', Mp w' r L' ∧ NotedAs L' L (g, m) (dep d) := by
  obtain ⟨W1, hW1⟩ : ∃ x, x = w.alloc (.cells #[.pointer (some ⟨g, 0, none⟩), .int .i64 (m : Int)] 91) := ⟨_, rfl⟩
  have b1 : Below w.heap.size w W1 := hW1 ▸ (Below.refl _ _).alloc (Nat.le_refl _) _
  have hlt : r < w.heap.size := by obtain ⟨es, c', h1, _⟩ := h; exact (Array.getElem?_eq_some_iff.1 h1).1
  have hlv : ∀ b, Lv w b → Lv W1 b := fun b ⟨cc, t, hb⟩ => ⟨cc, t, (b1.block b (Array.getElem?_eq_some_iff.1 hb).1).trans hb⟩
  have h1 : Mp W1 r L := by
    obtain ⟨es, c', q1, q2⟩ := h
    exact ⟨es, c', (b1.block r hlt).trans q1, q2.mono hlv⟩
  have hn : ∀ c t f, W1.heap[r]? ≠ some (.cells c t f) := fun cc t f e => by
    obtain ⟨es, c', q1, q2⟩ := h1
    rw [q1] at e; cases e
  have lk := lookup_run h1 (g, m) (hlv g hg)
  obtain ⟨w2, L', up, m1, m2, m3, u1, u2⟩ := update_run h1 (g, m) (hlv g hg) hn (dep d)
  have c0 : W1.cell? ⟨w.heap.size, 0, none⟩ = some (.pointer (some ⟨g, 0, none⟩)) := by rw [hW1, cell_of_row _ _ _ _ _ _ (heap_alloc_new _ _)]; rfl
  have c1 : W1.cell? ⟨w.heap.size, 1, none⟩ = some (.int .i64 (m : Int)) := by rw [hW1, cell_of_row _ _ _ _ _ _ (heap_alloc_new _ _)]; rfl
  have z0 : ((m : Int) == 0) = false := beq_eq_false_iff_ne.2 (by omega)
  have x0 : (0 : Int) < (m : Int) := by omega
  have G1 : Kept (w.grownBy W1 (some r)) := keep ⟨b1.os, b1.tape, b1.output, b1.size, fun k hk _ => b1.block k hk⟩
  have G2 := keep (grown_update b1 u1 u1.size u2)
  have M0 := keep h1
  have M1 := keep m1
  have M2 := keep m2
  have M3 := keep m3
  have hW1' := hW1.symm
  unfold keyV at lk up
  clear h hg b1 hlt hlv h1 hn m1 m2 m3 u1 u2 hW1 hm
  unfold dep at up M2 ⊢
  clear hd
  by_cases q : noted L (g, m) = min (d : Int) 8
  · have Q := keep q
    rw [q] at lk
    have qb : (min (d : Int) 8 == min (d : Int) 8) = true := by simp
    clear q
    go_enter Tryd.func54, Tryd.ntmps54
    go_wp2
    go_ret
    refine ⟨by rw [decide_eq_true Q.out]; rfl, G1.out, L, M0.out, fun s => ?_⟩
    by_cases e : s = (g, m)
    · rw [if_pos e, e]; exact Q.out
    · rw [if_neg e]
  · have qb : (noted L (g, m) == min (d : Int) 8) = false := beq_eq_false_iff_ne.2 q
    have Q := keep q
    clear q
    go_enter Tryd.func54, Tryd.ntmps54
    go_wp2
    go_ret
    refine ⟨by rw [decide_eq_false Q.out]; rfl, G2.out, L', M1.out, fun s => ?_⟩
    by_cases e : s = (g, m)
    · rw [if_pos e, e]; exact M2.out
    · rw [if_neg e]; exact M3.out s e
end Go.Proofs.YtoalnfkjpdgbiaaDoor
