/-
  Contracts over this program: what the methods of draw.Source answer, and what they leave.
-/
import Derived.Test.YthmmblohfjmbcaaGreatDraws
import Derived.Below
import Derived.OwnWalk
import Derived.Laws.AppendOwn
import Derived.Laws.AppendOwnNone
namespace Go.Proofs.YthmmblohfjmbcaaGreat.DQ
open Go.RowKit
/-- a source in block b has the numbers L left; they lie in block g -/
def Src (w : World) (b g : Nat) (L : List Nat) : Prop :=
  (L ≠ [] → g ≠ b) ∧ ∃ ao cap, w.heap[b]? = some (.cells #[.slice ao L.length cap] 52 (0, 0)) ∧ L.length ≤ cap ∧ cap ≤ maxLen ∧
    ∀ j (h : j < L.length), ∃ o, ao = some ⟨g, o, none⟩ ∧ w.cell? ⟨g, o + j, none⟩ = some (.int .u64 (L[j] : Nat))
/-- block b alone has turned -/
def Only (b : Nat) (w w' : World) : Prop := (∀ B, B ≤ b → Below B w w') ∧ w'.heap.size = w.heap.size ∧ ∀ k, k ≠ b → w'.heap[k]? = w.heap[k]?
theorem Only.refl (b : Nat) (w : World) : Only b w w := ⟨fun _ _ => Below.refl _ _, rfl, fun _ _ => rfl⟩
theorem Src.kept {w w' : World} {b g : Nat} {L : List Nat} (h : Src w b g L) (hb : w'.heap[b]? = w.heap[b]?) (hg : w'.heap[g]? = w.heap[g]?) : Src w' b g L := by
  obtain ⟨hne, ao, cap, h1, h2, h3, h4⟩ := h
  refine ⟨hne, ao, cap, by rw [hb]; exact h1, h2, h3, fun j hj => ?_⟩
  obtain ⟨o, e, hc⟩ := h4 j hj
  exact ⟨o, e, by rw [World.cell?_of_block (w := w) (a := ⟨g, o + j, none⟩) hg]; exact hc⟩
set_option maxHeartbeats 400000 in
theorem left_any (w : World) (b g : Nat) (L : List Nat) (h : Src w b g L) :
    Calls Tryz.prog 30 #[.pointer (some ⟨b, 0, none⟩)] w fun e w' => e = .returned (.int .i64 L.length) ∧ w' = w := by
  obtain ⟨hne, ao, cap, h1, h2, h3, h4⟩ := h
  have c0 := cell_of_one h1
  clear h1 h4
  go_enter Tryz.func30, Tryz.ntmps30
  go_wp2
  go_ret
  exact ⟨rfl, rfl⟩
set_option maxHeartbeats 400000 in
theorem next_none (w : World) (b g : Nat) (h : Src w b g []) :
    Calls Tryz.prog 15 #[.pointer (some ⟨b, 0, none⟩)] w fun e w' => e = .returned (.int .u64 0) ∧ w' = w := by
  have mL := left_any w b g [] h
  clear h
  go_enter Tryz.func15, Tryz.ntmps15
  go_wp2_with fail
  refine mL.mono ?_
  rintro e w' ⟨rfl, rfl⟩
  go_wp2
  go_ret
  exact ⟨rfl, rfl⟩
theorem src_next {w : World} {b g x o cap c' : Nat} {L : List Nat} {ao : Option Addr} (hne : g ≠ b) (h1 : w.heap[b]? = some (.cells #[.slice (some ⟨g, o, none⟩) (L.length + 1) cap] 52 (0, 0))) (h3 : c' ≤ maxLen) (h2 : L.length ≤ c')
    (h4 : ∀ (j : Nat) (h : j < (x :: L).length), ∃ o1, some ⟨g, o, none⟩ = some (⟨g, o1, none⟩ : Addr) ∧ w.cell? ⟨g, o1 + j, none⟩ = some (.int .u64 ((x :: L)[j] : Nat)))
    (ha : L ≠ [] → ao = some ⟨g, o + 1, none⟩) : Src (w.setCell ⟨b, 0, none⟩ (.slice ao L.length c')) b g L ∧ Only b w (w.setCell ⟨b, 0, none⟩ (.slice ao L.length c')) := by
  refine ⟨⟨fun _ => hne, ao, c', one_setCell h1, h2, h3, fun j hj => ?_⟩, fun B hB => (Below.refl _ _).setCell hB _, by simp, fun k hk => Below.heap_setCell _ _ _ _ hk⟩
  refine ⟨o + 1, ha (by intro e; subst e; simp at hj), ?_⟩
  rw [World.cell?_of_block (w := w) (a := ⟨g, o + 1 + j, none⟩) (Below.heap_setCell _ _ _ _ hne)]
  obtain ⟨o1, e, hc⟩ := h4 (j + 1) (by simp; omega)
  cases e
  rw [show o + 1 + j = o + (j + 1) by omega]
  exact hc
set_option maxHeartbeats 400000 in
theorem next_some (w : World) (b g x : Nat) (L : List Nat) (h : Src w b g (x :: L)) :
    Calls Tryz.prog 15 #[.pointer (some ⟨b, 0, none⟩)] w fun e w' => e = .returned (.int .u64 x) ∧ Src w' b g L ∧ Only b w w' := by
  have mL := left_any w b g (x :: L) h
  obtain ⟨hne, ao, cap, h1, h2, h3, h4⟩ := h
  obtain ⟨o, rfl, hx⟩ := h4 0 (by simp)
  have c0 := cell_of_one h1
  have f0 := free_of_one h1
  have hx : w.cell? ⟨g, o, none⟩ = some (.int .u64 x) := hx
  have hlen : (x :: L).length = L.length + 1 := rfl
  rw [hlen] at c0 h1 h2 mL
  have H4 := keep h4
  have H1 := keep h1
  clear h4 h1 hlen
  go_enter Tryz.func15, Tryz.ntmps15
  go_wp2_with fail
  refine mL.mono ?_
  rintro e w' ⟨rfl, rfl⟩
  go_wp2
  · go_ret
    exact ⟨rfl, src_next (hne (by simp)) H1.out (by omega) (by omega) H4.out (fun h => absurd (List.length_eq_zero_iff.1 (by omega)) h)⟩
  · go_ret
    exact ⟨rfl, src_next (hne (by simp)) H1.out (by omega) (by omega) H4.out (fun _ => rfl)⟩
theorem next_any (w : World) (b g : Nat) (L : List Nat) (h : Src w b g L) :
    Calls Tryz.prog 15 #[.pointer (some ⟨b, 0, none⟩)] w fun e w' => e = .returned (.int .u64 (L.headD 0)) ∧ Src w' b g L.tail ∧ Only b w w' := by
  cases L with
  | nil =>
    refine (next_none w b g h).mono ?_
    rintro e w' ⟨rfl, rfl⟩
    exact ⟨rfl, h, Only.refl _ _⟩
  | cons x L => exact next_some w b g x L h
/-- a row of numbers that lies in memory -/
def Ints (w : World) (v : Value) (Z : List Nat) : Prop :=
  (v = .slice none 0 0 ∧ Z = []) ∨ ∃ a cap, v = .slice (some a) Z.length cap ∧ Z.length ≤ cap ∧ cap ≤ maxLen ∧ ∀ j (h : j < Z.length), w.cell? (a.add j) = some (.int .u64 (Z[j] : Nat))
theorem info_u64 : (Tryz.prog.info? 22).map (fun i => (i.zero, i.size, i.bytes)) = some (some (.int .u64 0), 1, 8) := by kernel_rfl
theorem owns_none (w : World) (B : Nat) : w.ownsRow B 22 1 (.slice none 0 0) 0 [] := ⟨rfl, .inl ⟨rfl, rfl⟩⟩
/-- what a row that was made holds, number by number -/
def Lies (w : World) (B : Nat) (ao : Option Addr) (Z : List Nat) : Prop :=
  Z = [] ∨ ∃ g, B ≤ g ∧ g < w.heap.size ∧ ∀ j (h : j < Z.length), ao = some ⟨g, 0, none⟩ ∧ w.cell? ⟨g, j, none⟩ = some (.int .u64 (Z[j] : Nat))
theorem own_ints {w : World} {B n : Nat} {v : Value} {Z : List Nat} {xs : List Value} (h : w.ownsRow B 22 1 v n xs) (hn : n = Z.length) (hxs : xs = Z.map fun n : Nat => Value.int .u64 n) :
    ∃ ao cp, v = .slice ao Z.length cp ∧ Z.length ≤ cp ∧ cp ≤ maxLen ∧ Kept (Lies w B ao Z) := by
  subst hn hxs
  obtain ⟨_, ⟨rfl, h0⟩ | ⟨g, cap, cur, rfl, hg, hh, hc, hm, hs, ht⟩⟩ := h
  · exact ⟨none, 0, by rw [h0], by omega, Nat.zero_le _, .inl (List.length_eq_zero_iff.1 h0)⟩
  · refine ⟨some ⟨g, 0, none⟩, cap, rfl, hc, hm, .inr ⟨g, hg, lt_of_block hh, fun j hj => ⟨rfl, ?_⟩⟩⟩
    rw [Nat.mul_one] at ht hs
    have hj2 : j < cur.size := by omega
    have e : cur[j] = .int .u64 (Z[j] : Nat) := by
      have e1 : (cur.toList.take Z.length)[j]? = some cur[j] := by
        rw [List.getElem?_take_of_lt hj, Array.getElem?_toList, Array.getElem?_eq_getElem hj2]
      rw [ht, List.getElem?_map, List.getElem?_eq_getElem hj] at e1
      exact (Option.some.inj e1).symm
    simp [World.cell?, hh, Array.getElem?_eq_getElem hj2, e]
theorem src_new {w w1 : World} {ao : Option Addr} {cp : Nat} {Z : List Nat} {row : Option Nat} (hg : w.grownBy w1 row) (hr : row = none) (h2 : Z.length ≤ cp) (h3 : cp ≤ maxLen) (h : Lies w1 w.heap.size ao Z) :
    ∃ b g, Ending.returned (.pointer (some ⟨w1.heap.size, 0, none⟩)) = .returned (.pointer (some ⟨b, 0, none⟩)) ∧ Src (w1.alloc (.cells #[.slice ao Z.length cp] 52)) b g Z ∧ w.heap.size ≤ b ∧ b < (w1.alloc (.cells #[.slice ao Z.length cp] 52)).heap.size ∧ w.heap.size ≤ g ∧ g < (w1.alloc (.cells #[.slice ao Z.length cp] 52)).heap.size ∧ Below w.heap.size w (w1.alloc (.cells #[.slice ao Z.length cp] 52)) := by
  have hs := hg.size
  have hsz : (w1.alloc (.cells #[.slice ao Z.length cp] 52)).heap.size = w1.heap.size + 1 := by simp
  have hbel : Below w.heap.size w (w1.alloc (.cells #[.slice ao Z.length cp] 52)) := ((Below.refl _ _).grown hg (Nat.le_refl _) (fun k hk => by rw [hr] at hk; cases hk)).alloc hs _
  have hb : (w1.alloc (.cells #[.slice ao Z.length cp] 52)).heap[w1.heap.size]? = some (.cells #[.slice ao Z.length cp] 52 (0, 0)) := heap_alloc_new _ _
  rcases h with rfl | ⟨g, hg1, hg2, hc⟩
  · exact ⟨w1.heap.size, w1.heap.size, rfl, ⟨fun h => absurd rfl h, ao, cp, hb, h2, h3, fun j hj => absurd hj (Nat.not_lt_zero j)⟩, hs, by omega, hs, by omega, hbel⟩
  · refine ⟨w1.heap.size, g, rfl, ⟨fun _ => by omega, ao, cp, hb, h2, h3, fun j hj => ⟨0, (hc j hj).1, ?_⟩⟩, hs, by omega, hg1, by omega, hbel⟩
    rw [Nat.zero_add, World.cell?_of_block (w := w1) (a := ⟨g, j, none⟩) (Below.heap_alloc _ _ _ hg2)]
    exact (hc j hj).2
theorem grown_refl (w : World) : w.grownBy w none := ⟨rfl, rfl, rfl, Nat.le_refl _, fun _ _ _ => rfl⟩
set_option maxHeartbeats 400000 in
theorem new_any (w : World) (v : Value) (Z : List Nat) (h : Ints w v Z) (hz : Z.length * 8 ≤ 140737488355328) :
    Calls Tryz.prog 6 #[v] w fun e w' => ∃ b g, e = .returned (.pointer (some ⟨b, 0, none⟩)) ∧ Src w' b g Z ∧ w.heap.size ≤ b ∧ b < w'.heap.size ∧ w.heap.size ≤ g ∧ g < w'.heap.size ∧ Below w.heap.size w w' := by
  obtain ⟨i0, hi, hz0, hz1, hz2⟩ := info_parts info_u64
  rcases h with ⟨rfl, rfl⟩ | ⟨a, cap, rfl, hc, hm, hcell⟩
  · go_enter Tryz.func6, Tryz.ntmps6
    go_wp2_with (first | (at_builtin; refine wpList_append_own_none rfl _ _ 25 rfl w.heap.size 22 i0 1 Tryz.underlying25 hi _ _ _ rfl (owns_none w w.heap.size) rfl ?_))
    go_ret
    exact src_new (Z := []) (grown_refl w) rfl (Nat.le_refl _) (Nat.zero_le _) (.inl rfl)
  · have hnews : ∀ (j : Nat) u, (Z.map fun n : Nat => Value.int .u64 n)[j]? = some u → w.cell? (a.add j) = some u := by
      intro j u hu
      rw [List.getElem?_map] at hu
      have hj : j < Z.length := by
        rcases Nat.lt_or_ge j Z.length with h | h
        · exact h
        · rw [List.getElem?_eq_none h] at hu; cases hu
      rw [List.getElem?_eq_getElem hj] at hu
      rw [hcell j hj]
      simpa using hu
    have h1 : ∀ u ∈ (Z.map fun n : Nat => Value.int .u64 n), u.oneCell' = true := by
      intro u hu
      obtain ⟨n, _, rfl⟩ := List.mem_map.1 hu
      rfl
    go_enter Tryz.func6, Tryz.ntmps6
    go_wp2_with (first | (at_builtin; refine wpList_append_own _ rfl _ _ 25 rfl w.heap.size 22 i0 (.int .u64 0) 1 8 Tryz.underlying25 hi hz0 hz1 hz2 rfl (by decide) _ _ _ rfl (owns_none w w.heap.size) a _ _ (Z.map fun n : Nat => Value.int .u64 n) rfl (by simp) hnews h1 (by omega) (by omega) (Nat.le_refl _) ?_; intro v' w1 hown hgrow _; obtain ⟨ao, cp, rfl, h2, h3, hl⟩ := own_ints (Z := Z) hown (by simp) (by simp); clear hown))
    go_ret
    exact src_new hgrow rfl h2 h3 hl.out
end Go.Proofs.YthmmblohfjmbcaaGreat.DQ
