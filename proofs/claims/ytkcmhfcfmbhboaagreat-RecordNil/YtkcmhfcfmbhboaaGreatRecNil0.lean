/-
  Contracts over this program: every call of no record; two rows without pairs, or without texts; a row that is spoilt.
-/
import Derived.Test.YtkcmhfcfmbhboaaGreatRecPairs
import Derived.Test.YtkcmhfcfmbhboaaGreatRecTab0
namespace Go.Proofs.YtkcmhfcfmbhboaaGreat
open Go.RowKit Go.Shelf
attribute [local go_sem] Oper.semAt_some
set_option maxHeartbeats 400000 in
theorem dictionary_nil (w : World) : Calls Tryz.prog 31 #[.pointer none] w fun e w' => e = .returned (.pointer none) ∧ w' = w := by
  go_enter Tryz.func31, Tryz.ntmps31
  go_wp2
  go_ret
  exact ⟨rfl, rfl⟩
set_option maxHeartbeats 400000 in
theorem rlen_nil (w : World) : Calls Tryz.prog 15 #[.pointer none] w fun e w' => e = .returned (.int .i64 0) ∧ w' = w := by
  go_enter Tryz.func15, Tryz.ntmps15
  go_wp2
  go_ret
  exact ⟨rfl, rfl⟩
set_option maxHeartbeats 400000 in
theorem rget_nil (w : World) (f : ByteArray) : Calls Tryz.prog 21 #[.pointer none, .string f] w fun e w' => e = .returned (.tuple #[.string .empty, .bool false]) ∧ w' = w := by
  go_enter Tryz.func21, Tryz.ntmps21
  go_wp2
  refine bodyPost_ret (results_tmp2 rfl _ _ _) rfl ?_
  exact ⟨rfl, rfl⟩
set_option maxHeartbeats 400000 in
theorem rdel_nil (w : World) (f : ByteArray) : Calls Tryz.prog 23 #[.pointer none, .string f] w fun e w' => e = .returned (.bool false) ∧ w' = w := by
  go_enter Tryz.func23, Tryz.ntmps23
  go_wp2_with fail
  refine (rget_nil w f).mono ?_
  rintro _ w' ⟨rfl, hw'⟩
  obtain rfl := hw'.symm
  go_wp2
  go_ret
  exact ⟨rfl, rfl⟩
set_option maxHeartbeats 400000 in
theorem sizes_nil (w : World) : Calls Tryz.prog 68 #[.pointer none] w fun e w' => e = .returned (.tuple #[.int .i64 0, .int .i64 0, .int .i64 0]) ∧ w' = w := by
  go_enter Tryz.func68, Tryz.ntmps68
  go_wp2
  refine bodyPost_ret (results_tmp3 rfl _ _ _) rfl ?_
  exact ⟨rfl, rfl⟩
set_option maxHeartbeats 400000 in
theorem next_nil (w : World) (c : Nat) (n : Int) : Calls Tryz.prog 46 #[.pointer none, .int .u64 c, .int .i64 n] w fun e w' => e = .returned (.tuple #[.int .u64 0, .slice none 0 0]) ∧ w' = w := by
  go_enter Tryz.func46, Tryz.ntmps46
  go_wp2_with fail
  refine (sizes_nil w).mono ?_
  rintro _ w' ⟨rfl, hw'⟩
  obtain rfl := hw'.symm
  go_wp2
  refine bodyPost_ret (results_tmp2 rfl _ _ _) rfl ?_
  exact ⟨rfl, rfl⟩
set_option maxHeartbeats 400000 in
theorem rscan_nil (w : World) (c : Nat) (n : Int) : Calls Tryz.prog 28 #[.pointer none, .int .u64 c, .int .i64 n] w fun e w' => e = .returned (.tuple #[.int .u64 0, .slice none 0 0]) ∧ w' = w := by
  go_enter Tryz.func28, Tryz.ntmps28
  go_wp2_with fail
  refine (dictionary_nil w).mono ?_
  rintro _ w' ⟨rfl, hw'⟩
  obtain rfl := hw'.symm
  go_wp2_with fail
  refine (next_nil w c n).mono ?_
  rintro _ w' ⟨rfl, hw'⟩
  obtain rfl := hw'.symm
  go_wp2
  refine bodyPost_ret (results_tmp2 rfl _ _ _) rfl ?_
  exact ⟨rfl, rfl⟩
/-- who tells nothing -/
theorem iter_none {α : Type} {P : Program} {g : Nat} {lb : Array Value} {encs : α → Array Value} {Rd : Nat → World → Prop} {W : World} (h : ∀ l, Calls P g (#[.func (.yield l) #[] #[]] ++ lb) W fun e w' => (∃ v, e = .returned v) ∧ Below W.heap.size W w') : Iter P g lb encs Rd ([] : List α) W := by
  intro l J Jx hJ _ _ _ h0
  refine (h l).mono ?_
  rintro e w' ⟨hv, hb⟩
  exact ⟨hv, fun _ => False, fun _ h => h.elim, .inl (hJ _ _ _ _ _ h0 (Sep.of_below hb) (fun _ h => h.elim))⟩
set_option maxRecDepth 100000 in
set_option maxHeartbeats 1000000 in
theorem all1_nil (W : World) (l Bd : Nat) (hBd : W.cell? ⟨Bd, 0, none⟩ = some (.pointer none)) :
    Calls Tryz.prog 71 (#[.func (.yield l) #[] #[]] ++ #[.pointer (some ⟨Bd, 0, none⟩)]) W fun e w' => (∃ v, e = .returned v) ∧ Below W.heap.size W w' := by
  have hBl : Bd < W.heap.size := World.block_lt_of_cell? _ _ hBd
  have hc1 : (W.alloc (.cells #[.func (.yield l) #[] #[]] 113)).cell? ⟨Bd, 0, none⟩ = some (.pointer none) := (((Below.refl _ W).alloc (Nat.le_refl _) _).cell (p := ⟨Bd, 0, none⟩) hBl).trans hBd
  have hb := (Below.refl _ W).alloc (Nat.le_refl _) (.cells #[.func (.yield l) #[] #[]] 113)
  refine callsIn_wide (n := 9) |>.1 (callsIn_of_wp_marks Tryz.func71 rfl trivial (wpIn_wide.2 ?_) rfl)
  simp only [Tryz.ntmps71, List.size_toArray, List.length_cons, List.length_nil, Nat.reduceAdd, Nat.reduceSub, Array.replicate_succ, Array.replicate_zero, List.push_toArray, List.append_toArray, List.nil_append, List.cons_append]
  go_wp2
  exact ⟨_, results_none rfl _ _ _, ⟨_, rfl⟩, hb⟩
/-- while nothing comes -/
def Holnil (W : World) (H : Nat) (M : Nat → Prop) (_ : Nat) (w : World) : Prop := (¬ M H ∧ w.heap[H]? = some (.cells #[.slice none 0 0] 89 (0, 0))) ∧ Below W.heap.size W w ∧ ∀ k, M k → W.heap.size ≤ k
theorem Holnil.abd {W : World} {H : Nat} : Abd (Holnil W H) := by
  rintro M M' m A B ⟨⟨h1, h1'⟩, h5, h6⟩ hs hx
  have hl := (Array.getElem?_eq_some_iff.1 h1').1
  exact ⟨⟨hx.lt hl h1, (hs.2.2 H hl h1).trans h1'⟩, h5.trans (hs.below h5.size h6), hx.ge h5.size h6⟩
set_option maxRecDepth 100000 in
set_option maxHeartbeats 1000000 in
theorem each1_nil (W : World) (l Bd : Nat) (hBd : W.cell? ⟨Bd, 0, none⟩ = some (.pointer none)) :
    Calls Tryz.prog 49 (#[.func (.yield l) #[] #[]] ++ #[.pointer (some ⟨Bd, 0, none⟩)]) W fun e w' => (∃ v, e = .returned v) ∧ Below W.heap.size W w' := by
  have hBl : Bd < W.heap.size := World.block_lt_of_cell? _ _ hBd
  have hc1 : (W.alloc (.cells #[.slice none 0 0] 89)).cell? ⟨Bd, 0, none⟩ = some (.pointer none) := (((Below.refl _ W).alloc (Nat.le_refl _) _).cell (p := ⟨Bd, 0, none⟩) hBl).trans hBd
  have MA := keep (fun w => all_any w (.pointer none) (.inl rfl))
  refine callsIn_wide (n := 9) |>.1 (callsIn_of_wp_marks Tryz.func49 rfl trivial (wpIn_wide.2 ?_) rfl)
  simp only [Tryz.ntmps49, List.size_toArray, List.length_cons, List.length_nil, Nat.reduceAdd, Nat.reduceSub, Array.replicate_succ, Array.replicate_zero, List.push_toArray, List.append_toArray, List.nil_append, List.cons_append]
  go_wp2_with fail
  refine (MA.out _).mono ?_
  rintro _ w2 ⟨rfl, hw2⟩
  have hz2 : w2.heap.size = W.heap.size + 2 := by rw [hw2]; simp
  have hb2 : Below W.heap.size W w2 := by rw [hw2]; exact ((Below.refl _ W).alloc (Nat.le_refl _) _).alloc (by simp) _
  have h2H : w2.heap[W.heap.size]? = some (.cells #[.slice none 0 0] 89 (0, 0)) := by rw [hw2, Below.heap_alloc _ _ _ (by simp)]; exact heap_alloc_new _ _
  have h2B : w2.cell? ⟨W.heap.size + 1, 0, none⟩ = some (.pointer none) := by
    have := heap_alloc_new (W.alloc (.cells #[.slice none 0 0] 89)) (.cells #[.pointer none] 45)
    rw [World.size_alloc] at this
    rw [hw2, cell_of_row _ _ _ _ _ _ this]; rfl
  have HI0 : Kept (Holnil W W.heap.size (fun _ => False) 0 w2) := ⟨⟨id, h2H⟩, hb2, fun _ h => h.elim⟩
  have H2B := keep h2B
  have HB2 := keep hb2
  clear hw2 hc1 hb2 h2H h2B
  go_wp2
  refine (wpIn_wide (n := 9)).1 (range_own (α := Unit) (gf := 71) (lb := #[.pointer (some ⟨W.heap.size + 1, 0, none⟩)]) (by simp [Act.eval]) (enters_of Tryz.func71 (by kernel_rfl) rfl) (encs := fun _ => #[.bool true]) (L := []) (fun _ => rfl)
    (fun W1 hb => iter_none (Rd := fun _ _ => True) (fun l => all1_nil W1 l (W.heap.size + 1) ((hb.cell (p := ⟨W.heap.size + 1, 0, none⟩) (by show W.heap.size + 1 < w2.heap.size; omega)).trans H2B.out)))
    (Holnil W W.heap.size) (fun _ _ _ _ => False) Holnil.abd (fun _ _ _ _ _ _ h _ _ => h) HI0.out (fun _ _ _ _ => trivial) (fun _ _ _ _ _ _ h => by simp at h) ?done (fun _ _ _ _ _ _ h => h.elim))
  case done =>
    intro M' D W5 hI hD hDk hM'
    obtain ⟨⟨j1, j1'⟩, j5, j6⟩ := hI
    have cH : W5.cell? ⟨W.heap.size, 0, none⟩ = some (.slice none 0 0) := by rw [cell_of_row _ _ _ _ _ _ j1']; rfl
    have J5 := keep j5
    have hDW := j6 D hD
    have HDK := keep hDk
    clear j1' j5 j6 hDk hM'
    go_wp2
    go_loopw [16] (fun i wr => i = .int .i64 0 ∧ wr = W5) (fun _ _ => 0)
    case atStart => exact ⟨rfl, rfl⟩
    case round =>
      obtain ⟨rfl, rfl⟩ := hrel
      go_wp2
      refine leave_mark HDK.out ?_
      exact ⟨_, results_none rfl _ _ _, ⟨_, rfl⟩, J5.out.grown (grownBy_mark _ D _) J5.out.size (fun k e => by cases e; exact hDW)⟩
/-- while no pairs come -/
def PrN (W : World) (Sg Sb : Nat) (M : Nat → Prop) (_ : Nat) (w : World) : Prop :=
  (¬ M Sb ∧ w.heap[Sb]? = some (.cells #[.slice (some ⟨Sg, 0, none⟩) 0 0] 36 (0, 0))) ∧ (¬ M Sg ∧ w.ownsRow W.heap.size 54 2 (.slice (some ⟨Sg, 0, none⟩) 0 0) 0 []) ∧
    Below W.heap.size W w ∧ ∀ k, M k → W.heap.size ≤ k
theorem PrN.abd {W : World} {Sg Sb : Nat} : Abd (PrN W Sg Sb) := by
  rintro M M' m A B ⟨⟨h1, h1'⟩, ⟨h2, h2'⟩, h5, h6⟩ hs hx
  have keepB : ∀ k o, ¬ M k → A.heap[k]? = some o → ¬ M' k ∧ B.heap[k]? = some o := fun k o hn ho => by
    have hl := (Array.getElem?_eq_some_iff.1 ho).1
    exact ⟨hx.lt hl hn, (hs.2.2 k hl hn).trans ho⟩
  have hSl := own_lt h2' (k := Sg) rfl
  exact ⟨keepB _ _ h1 h1', ⟨hx.lt hSl h2, own_kept h2' (fun k hk => by cases hk; exact hs.2.2 _ hSl h2)⟩, h5.trans (hs.below h5.size h6), hx.ge h5.size h6⟩
set_option maxRecDepth 100000 in
set_option maxHeartbeats 2000000 in
theorem rpairs_nil (W : World) :
    Calls Tryz.prog 11 #[.pointer none] W fun e w' => e = .returned (.slice (some ⟨W.heap.size, 0, none⟩) 0 0) ∧ w'.ownsRow W.heap.size 54 2 (.slice (some ⟨W.heap.size, 0, none⟩) 0 0) 0 [] ∧ Below W.heap.size W w' := by
  have mL := rlen_nil W
  obtain ⟨w1, mk, hS2, hg2, hlt2⟩ := make_pairs W 0 (by omega)
  have mk : (Instr.makeSlice 36 (.int .i64 0) (.int .i64 0)).run Tryz.prog W = .ok (.slice (some ⟨W.heap.size, 0, none⟩) 0 0) w1 := mk
  have hb1 : Below W.heap.size W w1 := (Below.refl _ W).grown hg2 (Nat.le_refl _) (fun k h => by cases h)
  obtain ⟨w2, hw2⟩ : ∃ w2, w1.alloc (.cells #[.slice (some ⟨W.heap.size, 0, none⟩) 0 0] 36) = w2 := ⟨_, rfl⟩
  have hb12 : Below w1.heap.size w1 w2 := by rw [← hw2]; exact (Below.refl _ w1).alloc (Nat.le_refl _) _
  have hz2 : w2.heap.size = w1.heap.size + 1 := by rw [← hw2]; simp
  have h2S : w2.heap[w1.heap.size]? = some (.cells #[.slice (some ⟨W.heap.size, 0, none⟩) 0 0] 36 (0, 0)) := by rw [← hw2]; exact heap_alloc_new _ _
  have hb2 : Below W.heap.size W w2 := hb1.trans (hb12.mono hb1.size)
  have mD := dictionary_nil w2
  refine callsIn_wide (n := 9) |>.1 (callsIn_of_wp_marks Tryz.func11 rfl trivial (wpIn_wide.2 ?_) rfl)
  simp only [Tryz.ntmps11, List.size_toArray, List.length_cons, List.length_nil, Nat.reduceAdd, Nat.reduceSub, Array.replicate_succ, Array.replicate_zero, List.push_toArray, List.append_toArray, List.nil_append, List.cons_append]
  go_wp2_with fail
  refine mL.mono ?_
  rintro _ w' ⟨rfl, hw'⟩
  obtain rfl := hw'.symm
  go_wp2_with fail
  refine mD.mono ?_
  rintro _ w' ⟨rfl, hw'⟩
  obtain rfl := hw'.symm
  go_wp2_with fail
  refine (each_any _ _ (.inl rfl)).mono ?_
  rintro _ w4 ⟨rfl, hw4⟩
  have hz4 : w4.heap.size = w2.heap.size + 1 := by rw [hw4]; simp
  have hb24 : Below w2.heap.size w2 w4 := by rw [hw4]; exact (Below.refl _ w2).alloc (Nat.le_refl _) _
  have h4B : w4.heap[w2.heap.size]? = some (.cells #[.pointer none] 45 (0, 0)) := by rw [hw4]; exact heap_alloc_new _ _
  have h4S : w4.heap[w1.heap.size]? = some (.cells #[.slice (some ⟨W.heap.size, 0, none⟩) 0 0] 36 (0, 0)) := (hb24.block _ (by omega)).trans h2S
  have hb4 : Below W.heap.size W w4 := hb2.trans (hb24.mono hb2.size)
  have c4B : w4.cell? ⟨w2.heap.size, 0, none⟩ = some (.pointer none) := by rw [cell_of_row _ _ _ _ _ _ h4B]; rfl
  have hI0 : PrN W W.heap.size w1.heap.size (fun _ => False) 0 w4 := by
    refine ⟨⟨id, h4S⟩, ⟨id, own_kept hS2 (fun k hk => by cases hk; exact (hb24.block W.heap.size (by omega)).trans (hb12.block W.heap.size hlt2))⟩, hb4, fun _ h => h.elim⟩
  have HI0 := keep hI0
  have C4B := keep c4B
  clear hw4 hb24 h4S h4B hb4 c4B hI0 mk hS2 hg2 hw2 hb12 h2S hb2 mD mL hb1
  go_wp2
  refine (wpIn_wide (n := 9)).1 (range_own (α := Ent) (gf := 49) (lb := #[.pointer (some ⟨w2.heap.size, 0, none⟩)]) (by simp [Act.eval]) (enters_of Tryz.func49 (by kernel_rfl) rfl) (encs := eachV) (L := []) (fun _ => rfl)
    (fun W1 hb => iter_none (Rd := fun _ _ => True) (fun l => each1_nil W1 l w2.heap.size ((hb.cell (p := ⟨w2.heap.size, 0, none⟩) (by show w2.heap.size < w4.heap.size; omega)).trans C4B.out)))
    (PrN W W.heap.size w1.heap.size) (fun _ _ _ _ => False) PrN.abd (fun _ _ _ _ _ _ h _ _ => h) HI0.out (fun _ _ _ _ => trivial) (fun _ _ _ _ _ _ h => by simp at h) ?done (fun _ _ _ _ _ _ h => h.elim))
  case done =>
    intro M' D W5 hI hD hDk hM'
    obtain ⟨⟨j1, j1'⟩, ⟨j2, j2'⟩, j5, j6⟩ := hI
    have hsS : w1.heap.size < W5.heap.size := (Array.getElem?_eq_some_iff.1 j1').1
    have hDW : W.heap.size ≤ D := j6 D hD
    have hsD : D < W5.heap.size := (Array.getElem?_eq_some_iff.1 hDk).1
    have hDG : D ≠ W.heap.size := fun e => j2 (e ▸ hD)
    have c5S : W5.cell? ⟨w1.heap.size, 0, none⟩ = some (.slice (some ⟨W.heap.size, 0, none⟩) 0 0) := by rw [cell_of_row _ _ _ _ _ _ j1']; rfl
    have mS := sort_any W5 W.heap.size W.heap.size 0 [] j2' (by simp [Dc.keys]) (by simp)
    simp only [List.length_nil] at mS
    have J1 := keep j1'
    have J5 := keep j5
    have HDK := keep hDk
    clear j1 j1' j2 j2' j5 j6 hM' hDk HI0 C4B hz4
    go_wp2_with fail
    refine mS.mono ?_
    rintro _ w6 ⟨rfl, O, hO1, hO2, hO3⟩
    obtain rfl : O = [] := List.perm_nil.1 hO1.1
    have k6S : w6.heap[w1.heap.size]? = W5.heap[w1.heap.size]? := hO3.block _ hsS (fun e => by have := Option.some.inj e; omega)
    have c6S : w6.cell? ⟨w1.heap.size, 0, none⟩ = some (.slice (some ⟨W.heap.size, 0, none⟩) 0 0) := by rw [cell_of_row _ _ _ _ _ _ (k6S.trans J1.out)]; rfl
    have h6D : w6.heap[D]? = some (.deferred (some [])) := (hO3.block _ hsD (fun e => hDG (Option.some.inj e))).trans HDK.out
    have OO2 := keep hO2
    have OO3 := keep hO3
    have H6D := keep h6D
    clear hO1 hO2 hO3 h6D k6S mS c5S
    go_wp2
    refine leave_mark H6D.out ?_
    have hb6 : Below W.heap.size W w6 := J5.out.grown OO3.out (by exact J5.out.size) (fun k e => by cases e; exact Nat.le_refl _)
    refine ⟨_, results_tmp rfl _ _ _, rfl, ?_, hb6.grown (grownBy_mark _ D _) hb6.size (fun k e => by cases e; exact hDW)⟩
    exact own_kept OO2.out (fun k hk => by cases hk; exact World.putObj_heap_other (Ne.symm hDG))
set_option maxHeartbeats 400000 in
theorem rsample_nil (W : World) (n : Nat) : Calls Tryz.prog 26 #[.pointer none, .int .u64 n] W fun e w' => e = .returned (.tuple #[.string .empty, .bool false]) ∧ Below W.heap.size W w' := by
  have mP := rpairs_nil W
  go_enter Tryz.func26, Tryz.ntmps26
  go_wp2_with fail
  refine mP.mono ?_
  rintro _ w1 ⟨rfl, _, hb⟩
  have HB := keep hb
  clear mP hb
  go_wp2
  refine bodyPost_ret (results_tmp2 rfl _ _ _) rfl ?_
  exact ⟨rfl, HB.out⟩
set_option maxHeartbeats 400000 in
theorem samePairs_none (w : World) (a b : Option Addr) (c d : Nat) : Calls Tryz.prog 10 #[.slice a 0 c, .slice b 0 d] w fun e w' => e = .returned (.bool true) ∧ w' = w := by
  go_enter Tryz.func10, Tryz.ntmps10
  go_wp2
  go_loopw [5] (fun i wr => i = .int .i64 0 ∧ wr = w) (fun _ _ => 0)
  case atStart => exact ⟨rfl, rfl⟩
  case round =>
    obtain ⟨rfl, rfl⟩ := hrel
    go_wp2
    go_ret
    exact ⟨rfl, rfl⟩
set_option maxHeartbeats 400000 in
theorem same_none (w : World) (a b : Option Addr) (c d : Nat) : Calls Tryz.prog 30 #[.slice a 0 c, .slice b 0 d] w fun e w' => e = .returned (.bool true) ∧ w' = w := by
  go_enter Tryz.func30, Tryz.ntmps30
  go_wp2
  go_loopw [5] (fun i wr => i = .int .i64 0 ∧ wr = w) (fun _ _ => 0)
  case atStart => exact ⟨rfl, rfl⟩
  case round =>
    obtain ⟨rfl, rfl⟩ := hrel
    go_wp2
    go_ret
    exact ⟨rfl, rfl⟩
def bang : ByteArray := { data := #[33] }
set_option maxRecDepth 100000 in
set_option maxHeartbeats 1000000 in
theorem spoil_none (B : Nat) (w : World) (g : Nat) (h : w.ownsRow B 54 2 (.slice (some ⟨g, 0, none⟩) 0 0) 0 []) (hB : B ≤ w.heap.size) :
    Calls Tryz.prog 25 #[.slice (some ⟨g, 0, none⟩) 0 0] w fun e w' => e = .returned (.tuple #[]) ∧ w.grownBy w' (some g) := by
  have HR : Kept (Rw B w (.slice (some ⟨g, 0, none⟩) 0 0) []) := h
  clear h
  go_enter Tryz.func25, Tryz.ntmps25
  go_wp2
  go_loopw [2] (fun i wr => i = .int .i64 0 ∧ wr = w) (fun _ _ => 0)
  case atStart => exact ⟨rfl, rfl⟩
  case round =>
    obtain ⟨rfl, hw⟩ := hrel
    subst hw
    obtain ⟨wo, hwo⟩ : ∃ o, o = wr := ⟨_, rfl⟩
    subst hwo
    go_wp2
    go_loopw [0, 3] (fun v i wr => ∃ (k : Nat) (l : List Ent), k ≤ 40 ∧ i = .int .i64 k ∧ l.length = k ∧ Kept (Rw B wr v l) ∧ Kept (∀ j, v.ownBlock = some j → j = g ∨ wo.heap.size ≤ j) ∧ Kept (wo.grownBy wr (some g))) (fun _ i _ => 40 - (intOf i).toNat)
    case atStart => exact ⟨0, [], Nat.zero_le _, rfl, rfl, HR, fun j hj => by cases hj; exact .inl rfl, ⟨rfl, rfl, rfl, Nat.le_refl _, fun _ _ _ => rfl⟩⟩
    case round =>
      obtain ⟨k, l, hk, rfl, hl, KR, KO, KG⟩ := hrel
      by_cases hlt : k < 40
      · have hltz : (k : Int) < 40 := by omega
        have hsz := KG.out.size
        obtain ⟨g', cap', W3, hrun, hR, hs3, ho3, hat, hsame⟩ := push_row bang .empty KR.out (by omega) (by omega)
        have hgr : wo.grownBy W3 (some g) := ⟨ho3.1.trans KG.out.os, ho3.2.1.trans KG.out.tape, ho3.2.2.trans KG.out.output, by omega, fun j hj hne => by
          rw [hsame j (by omega) (fun e => by
            rcases KO.out j e with e' | e'
            · exact hne (by rw [e'])
            · omega)]
          exact KG.out.block j hj hne⟩
        have hown : ∀ j, (Value.slice (some ⟨g', 0, none⟩) (l.length + 1) cap').ownBlock = some j → j = g ∨ wo.heap.size ≤ j := fun j hj => by
          obtain rfl : g' = j := by cases hj; rfl
          rcases hat with e | e
          · exact KO.out g' e
          · exact .inr (by omega)
        obtain ⟨ao', cp', rfl, _⟩ := KR.out.form
        rw [hl] at hrun hR hown ⊢
        have MA := keep hrun
        have HR3 := keep hR
        have HO3 := keep hown
        have HG3 := keep hgr
        clear hrun hR hs3 ho3 hat hsame hgr hown hsz
        go_wp2_with (first | (show wpList _ _ _ ({ dst := some 21, op := Op.call { callee := Callee.builtin Builtin.append, args := _, argTypes := _ }, type := _, pos := _, after := _, guard := _ } :: _) _ _; refine wpL_app_run rfl (.tmp 18) (.tmp 20) 36 rfl _ _ _ rfl rfl MA.out ?_))
        go_roundw
        case measure => simp [intOf]; omega
        case rel => exact ⟨k + 1, l ++ [(bang, .empty)], by omega, by go_num, by simp [hl], HR3, HO3, HG3⟩
      · have hltz : ¬ (k : Int) < 40 := by omega
        go_wp2
        go_end0
        exact ⟨rfl, KG.out⟩
end Go.Proofs.YtkcmhfcfmbhboaaGreat
