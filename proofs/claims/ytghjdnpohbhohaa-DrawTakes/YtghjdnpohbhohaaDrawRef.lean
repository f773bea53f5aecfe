/-
  Contracts over this program: what the methods of the document's own source answer, and what they leave.
-/
import Derived.Test.YtghjdnpohbhohaaDrawSrc
import Derived.Deep.QuietTactic
import Derived.BigQuiet
namespace Go.Proofs.Ytghjdnpohbhohaa
open Go.RowKit
/-- the document's source in block b: its list Z lies in block g, t numbers are taken -/
def RSrc (w : World) (b g : Nat) (Z : List Nat) (t : Nat) : Prop :=
  (Z ≠ [] → g ≠ b) ∧ t ≤ Z.length ∧ Z.length * 8 ≤ 140737488355328 ∧ ∃ ao cap, w.heap[b]? = some (.cells #[.slice ao Z.length cap, .int .i64 t] 47 (0, 0)) ∧ Z.length ≤ cap ∧
    ∀ j (h : j < Z.length), ao = some ⟨g, 0, none⟩ ∧ w.cell? ⟨g, j, none⟩ = some (.int .u64 (Z[j] : Nat))
theorem RSrc.kept {w w' : World} {b g t : Nat} {Z : List Nat} (h : RSrc w b g Z t) (hb : w'.heap[b]? = w.heap[b]?) (hg : w'.heap[g]? = w.heap[g]?) : RSrc w' b g Z t := by
  obtain ⟨hne, ht, hz, ao, cap, h1, h2, h4⟩ := h
  refine ⟨hne, ht, hz, ao, cap, by rw [hb]; exact h1, h2, fun j hj => ⟨(h4 j hj).1, ?_⟩⟩
  rw [World.cell?_of_block (w := w) (a := ⟨g, j, none⟩) hg]; exact (h4 j hj).2
theorem two_cells {w : World} {b : Nat} {u v : Value} {t : TypeId} (h : w.heap[b]? = some (.cells #[u, v] t (0, 0))) : w.cell? ⟨b, 0, none⟩ = some u ∧ w.cell? ⟨b, 1, none⟩ = some v ∧ w.frozen? ⟨b, 1, none⟩ = false := by
  refine ⟨?_, ?_, ?_⟩ <;> simp [World.cell?, World.frozen?, h]
theorem two_set {w : World} {b : Nat} {u v x : Value} {t : TypeId} (h : w.heap[b]? = some (.cells #[u, v] t (0, 0))) : (w.setCell ⟨b, 1, none⟩ x).heap[b]? = some (.cells #[u, x] t (0, 0)) := by
  have := heap_setCell_same w b 1 #[u, v] t x h
  simpa using this
theorem only_drew {b : Nat} {w w' : World} (h : Only b w w') (n : Nat) : Only b w (w'.drewN n) :=
  ⟨fun B hB => ⟨(h.1 B hB).os, (h.1 B hB).tape, (h.1 B hB).output, (h.1 B hB).size, (h.1 B hB).block⟩, h.2.1, h.2.2⟩
set_option maxHeartbeats 400000 in
theorem rleft_any (w : World) (b g t : Nat) (Z : List Nat) (h : RSrc w b g Z t) :
    Calls Try.prog 16 #[.pointer (some ⟨b, 0, none⟩)] w fun e w' => e = .returned (.int .i64 (Z.drop t).length) ∧ ∃ n, w' = w.drewN n := by
  obtain ⟨hne, ht, hz, ao, cap, h1, h2, h4⟩ := h
  obtain ⟨c0, c1, _⟩ := two_cells h1
  have e : ((Z.drop t).length : Int) = (Z.length : Int) - t := by rw [List.length_drop]; omega
  rw [e]
  clear h1 h4 hne e
  go_enter Try.func16, Try.ntmps16
  go_wp2
  go_quiet (fail)
  go_wp2
  go_ret
  exact ⟨rfl, _, rfl⟩
set_option maxHeartbeats 400000 in
theorem rnext_none (w : World) (b g t : Nat) (Z : List Nat) (h : RSrc w b g Z t) (hn : ¬ t < Z.length) :
    Calls Try.prog 19 #[.pointer (some ⟨b, 0, none⟩)] w fun e w' => e = .returned (.int .u64 0) ∧ ∃ n, w' = w.drewN n := by
  obtain ⟨hne, ht, hz, ao, cap, h1, h2, h4⟩ := h
  obtain ⟨c0, c1, _⟩ := two_cells h1
  obtain rfl : t = Z.length := by omega
  clear h1 h4 hne hn ht
  go_enter Try.func19, Try.ntmps19
  go_wp2
  go_quiet (fail)
  go_wp2
  go_ret
  exact ⟨rfl, _, rfl⟩
theorem rsrc_next {w : World} {b g t : Nat} {Z : List Nat} (h : RSrc w b g Z t) (hn : t < Z.length) (n m : Nat) : RSrc (((w.drewN n).setCell ⟨b, 1, none⟩ (.int .i64 (t + 1 : Nat))).drewN m) b g Z (t + 1) ∧ Only b w (((w.drewN n).setCell ⟨b, 1, none⟩ (.int .i64 (t + 1 : Nat))).drewN m) := by
  obtain ⟨hne, ht, hz, ao, cap, h1, h2, h4⟩ := h
  have hgb : g ≠ b := hne (by intro e; subst e; simp at hn)
  refine ⟨⟨hne, by omega, hz, ao, cap, two_set (w := w.drewN n) h1, h2, fun j hj => ⟨(h4 j hj).1, ?_⟩⟩, only_drew (w := w) (w' := (w.drewN n).setCell ⟨b, 1, none⟩ (.int .i64 (t + 1 : Nat))) ⟨fun B hB => ?_, by simp, fun k hk => Below.heap_setCell (w.drewN n) _ _ _ hk⟩ m⟩
  · have e : ((((w.drewN n).setCell ⟨b, 1, none⟩ (.int .i64 (t + 1 : Nat))).drewN m).heap[g]?) = w.heap[g]? := Below.heap_setCell (w.drewN n) _ _ _ hgb
    rw [World.cell?_of_block (w := w) (a := ⟨g, j, none⟩) e]
    exact (h4 j hj).2
  · have h0 : Below B w (w.drewN n) := ⟨rfl, rfl, rfl, Nat.le_refl _, fun _ _ => rfl⟩
    exact h0.setCell hB _
set_option maxHeartbeats 400000 in
theorem rnext_some (w : World) (b g t : Nat) (Z : List Nat) (h : RSrc w b g Z t) (hn : t < Z.length) :
    Calls Try.prog 19 #[.pointer (some ⟨b, 0, none⟩)] w fun e w' => e = .returned (.int .u64 (Z[t] : Nat)) ∧ RSrc w' b g Z (t + 1) ∧ Only b w w' := by
  have H := keep h
  obtain ⟨hne, ht, hz, ao, cap, h1, h2, h4⟩ := h
  obtain ⟨c0, c1, f1⟩ := two_cells h1
  obtain ⟨rfl, hc⟩ := h4 t hn
  have hgb : g ≠ b := hne (by intro e; subst e; simp at hn)
  generalize Z[t] = x at *
  clear h1 h4 hne
  go_enter Try.func19, Try.ntmps19
  go_wp2
  go_quiet (fail)
  go_wp2
  go_quiet (fail)
  go_wp2
  go_ret
  exact ⟨rfl, rsrc_next H.out hn _ _⟩
/-- one number more is taken, if there is one -/
def Nxt (Z : List Nat) (t t' : Nat) : Prop := Z.drop t' = (Z.drop t).tail
theorem rnext_any (w : World) (b g t : Nat) (Z : List Nat) (h : RSrc w b g Z t) :
    Calls Try.prog 19 #[.pointer (some ⟨b, 0, none⟩)] w fun e w' => e = .returned (.int .u64 ((Z.drop t).headD 0 : Nat)) ∧ ∃ t', RSrc w' b g Z t' ∧ Nxt Z t t' ∧ Only b w w' := by
  rcases Nat.lt_or_ge t Z.length with hn | hn
  · refine (rnext_some w b g t Z h hn).mono ?_
    rintro e w' ⟨rfl, h1, h2⟩
    exact ⟨by rw [List.drop_eq_getElem_cons hn]; rfl, t + 1, h1, by unfold Nxt; rw [List.tail_drop], h2⟩
  · refine (rnext_none w b g t Z h (by omega)).mono ?_
    rintro e w' ⟨rfl, n, rfl⟩
    refine ⟨by rw [List.drop_of_length_le hn]; rfl, t, h.kept rfl rfl, by unfold Nxt; rw [List.drop_of_length_le hn]; rfl, only_drew (Only.refl b w) n⟩
set_option maxHeartbeats 400000 in
theorem rbelow_any (w : World) (b g t n : Nat) (Z : List Nat) (h : RSrc w b g Z t) (hL : ((Z.drop t).headD 0 : Int) ≤ 18446744073709551615) :
    Calls Try.prog 20 #[.pointer (some ⟨b, 0, none⟩), .int .u64 n] w fun e w' => e = .returned (.int .u64 ((if n = 0 then 0 else (Z.drop t).headD 0 % n : Nat) : Int)) ∧ ∃ t', RSrc w' b g Z t' ∧ Nxt Z t t' ∧ Only b w w' := by
  have mN := rnext_any w b g t Z h
  clear h
  generalize (Z.drop t).headD 0 = x at *
  by_cases hn : n = 0
  · subst hn
    go_enter Try.func20, Try.ntmps20
    go_wp2_with fail
    refine mN.mono ?_
    rintro e w' ⟨rfl, h1⟩
    have H1 := keep h1
    clear h1
    go_wp2
    go_ret
    exact ⟨rfl, H1.out⟩
  · rw [if_neg hn]
    have hn' : ((n : Int) == 0) = false := beq_eq_false_iff_ne.2 (by omega)
    have hn2 : 1 ≤ (n : Int) := by omega
    clear hn
    go_enter Try.func20, Try.ntmps20
    go_wp2_with fail
    refine mN.mono ?_
    rintro e w' ⟨rfl, h1⟩
    have H1 := keep h1
    clear h1
    go_wp2
    go_ret
    exact ⟨ret_u (by simp), H1.out⟩
theorem rsrc_new {w w1 : World} {ao : Option Addr} {cp : Nat} {Z : List Nat} (hg : Below w.heap.size w w1) (h2 : Z.length ≤ cp) (hz : Z.length * 8 ≤ 140737488355328) (h : Lies w1 w.heap.size ao Z) :
    ∃ b g, Ending.returned (.pointer (some ⟨w1.heap.size, 0, none⟩)) = .returned (.pointer (some ⟨b, 0, none⟩)) ∧ RSrc (w1.alloc (.cells #[.slice ao Z.length cp, .int .i64 0] 47)) b g Z 0 ∧ w.heap.size ≤ b ∧ b < (w1.alloc (.cells #[.slice ao Z.length cp, .int .i64 0] 47)).heap.size ∧ w.heap.size ≤ g ∧ g < (w1.alloc (.cells #[.slice ao Z.length cp, .int .i64 0] 47)).heap.size ∧ Below w.heap.size w (w1.alloc (.cells #[.slice ao Z.length cp, .int .i64 0] 47)) := by
  have hs := hg.size
  have hsz : (w1.alloc (.cells #[.slice ao Z.length cp, .int .i64 0] 47)).heap.size = w1.heap.size + 1 := by simp
  have hbel : Below w.heap.size w (w1.alloc (.cells #[.slice ao Z.length cp, .int .i64 0] 47)) := hg.alloc hs _
  have hb : (w1.alloc (.cells #[.slice ao Z.length cp, .int .i64 0] 47)).heap[w1.heap.size]? = some (.cells #[.slice ao Z.length cp, .int .i64 0] 47 (0, 0)) := heap_alloc_new _ _
  rcases h with rfl | ⟨g, hg1, hg2, hc⟩
  · exact ⟨w1.heap.size, w1.heap.size, rfl, ⟨fun h => absurd rfl h, Nat.zero_le _, hz, ao, cp, hb, h2, fun j hj => absurd hj (Nat.not_lt_zero j)⟩, hs, by omega, hs, by omega, hbel⟩
  · refine ⟨w1.heap.size, g, rfl, ⟨fun _ => by omega, Nat.zero_le _, hz, ao, cp, hb, h2, fun j hj => ⟨(hc j hj).1, ?_⟩⟩, hs, by omega, hg1, by omega, hbel⟩
    rw [World.cell?_of_block (w := w1) (a := ⟨g, j, none⟩) (Below.heap_alloc _ _ _ hg2)]
    exact (hc j hj).2
theorem news_of {w : World} {a : Addr} {Z : List Nat} (hcell : ∀ j (h : j < Z.length), w.cell? (a.add j) = some (.int .u64 (Z[j] : Nat))) : ∀ (j : Nat) u, (Z.map fun n : Nat => Value.int .u64 n)[j]? = some u → w.cell? (a.add j) = some u := by
  intro j u hu
  rw [List.getElem?_map] at hu
  have hj : j < Z.length := by
    rcases Nat.lt_or_ge j Z.length with h | h
    · exact h
    · rw [List.getElem?_eq_none h] at hu; cases hu
  rw [List.getElem?_eq_getElem hj] at hu
  rw [hcell j hj]
  simpa using hu
theorem one_of (Z : List Nat) : ∀ u ∈ (Z.map fun n : Nat => Value.int .u64 n), u.oneCell' = true := by
  intro u hu
  obtain ⟨n, _, rfl⟩ := List.mem_map.1 hu
  rfl
theorem lt_of_cell {w : World} {a : Addr} {v : Value} (h : w.cell? a = some v) : a.block < w.heap.size := by
  rcases Nat.lt_or_ge a.block w.heap.size with h' | h'
  · exact h'
  · simp [World.cell?, Array.getElem?_eq_none h'] at h
theorem owns_empty (w : World) : (w.alloc (.cells #[] 22)).ownsRow w.heap.size 22 1 (.slice (some ⟨w.heap.size, 0, none⟩) 0 0) 0 [] :=
  ⟨rfl, .inr ⟨w.heap.size, 0, #[], rfl, Nat.le_refl _, heap_alloc_new _ _, Nat.le_refl _, Nat.zero_le _, rfl, rfl⟩⟩
set_option maxHeartbeats 400000 in
theorem rnew_any (w : World) (v : Value) (Z : List Nat) (h : Ints w v Z) (hz : Z.length * 8 ≤ 140737488355328) :
    Calls Try.prog 11 #[v] w fun e w' => ∃ b g, e = .returned (.pointer (some ⟨b, 0, none⟩)) ∧ RSrc w' b g Z 0 ∧ w.heap.size ≤ b ∧ b < w'.heap.size ∧ w.heap.size ≤ g ∧ g < w'.heap.size ∧ Below w.heap.size w w' := by
  obtain ⟨i0, hi, hz0, hz1, hz2⟩ := info_parts info_u64
  rcases h with ⟨rfl, rfl⟩ | ⟨a, cap, rfl, hc, hm, hcell⟩
  · go_enter Try.func11, Try.ntmps11
    go_wp2
    go_ret
    have e : w.heap.size + 1 = (w.alloc (.cells #[] 22)).heap.size := by simp
    rw [e]
    exact rsrc_new (Z := []) (w1 := w.alloc (.cells #[] 22)) ((Below.refl _ _).alloc (Nat.le_refl _) _) (Nat.le_refl _) hz (.inl rfl)
  · have hcell2 : ∀ j (h : j < Z.length), (w.alloc (.cells #[] 22)).cell? (a.add j) = some (.int .u64 (Z[j] : Nat)) := by
      intro j hj
      have hb := lt_of_cell (hcell j hj)
      rw [World.cell?_of_block (w := w) (a := a.add j) (Below.heap_alloc _ _ _ hb)]
      exact hcell j hj
    have hnews := news_of hcell2
    have h1 := one_of Z
    go_enter Try.func11, Try.ntmps11
    go_wp2_with (first | (at_builtin; refine wpList_append_own _ rfl _ _ 25 rfl w.heap.size 22 i0 (.int .u64 0) 1 8 Try.underlying25 hi hz0 hz1 hz2 rfl (by decide) _ 0 [] rfl (owns_empty w) a _ _ (Z.map fun n : Nat => Value.int .u64 n) rfl (by simp) hnews h1 (by omega) (by omega) (by simp) ?_; intro v' w1 hown hgrow _; obtain ⟨ao, cp, rfl, h2, h3, hl⟩ := own_ints (Z := Z) hown (by simp) (by simp); clear hown))
    go_ret
    exact rsrc_new ((((Below.refl w.heap.size w).alloc (Nat.le_refl _) _)).grown hgrow (by simp) (by intro k hk; cases hk; exact Nat.le_refl _)) h2 hz hl.out
end Go.Proofs.Ytghjdnpohbhohaa
