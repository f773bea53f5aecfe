/-
  Contracts over this program: in how many flocks a text is (tally), some of them none.
-/
import Derived.Test.YtlfpkbjiofelkaaGreatFlMembers
import Derived.Test.YtlfpkbjiofelkaaGreatFlAdd
import Derived.Test.YtlfpkbjiofelkaaGreatScanNext
import Derived.Test.YtlfpkbjiofelkaaGreatFlTally
/-
  Contracts over this program: every call of no flock.
-/
namespace Go.Proofs.YtlfpkbjiofelkaaGreat
open Go.RowKit Go.Shelf
attribute [local go_sem] Oper.semAt_some
set_option maxHeartbeats 400000 in
theorem dictionary_nil (w : World) : Calls Tryz.prog 50 #[.pointer none] w fun e w' => e = .returned (.pointer none) ∧ w' = w := by
  go_enter Tryz.func50, Tryz.ntmps50
  go_wp2
  go_ret
  exact ⟨rfl, rfl⟩
set_option maxHeartbeats 400000 in
theorem flen_nil (w : World) : Calls Tryz.prog 33 #[.pointer none] w fun e w' => e = .returned (.int .i64 0) ∧ w' = w := by
  go_enter Tryz.func33, Tryz.ntmps33
  go_wp2
  go_ret
  exact ⟨rfl, rfl⟩
set_option maxHeartbeats 400000 in
theorem fcost_nil (w : World) : Calls Tryz.prog 35 #[.pointer none] w fun e w' => e = .returned (.int .i64 0) ∧ w' = w := by
  go_enter Tryz.func35, Tryz.ntmps35
  go_wp2
  go_ret
  exact ⟨rfl, rfl⟩
set_option maxHeartbeats 400000 in
theorem get_nil (w : World) (k : ByteArray) : Calls Tryz.prog 55 #[.pointer none, .string k] w fun e w' => e = .returned (.tuple #[.agg #[], .bool false]) ∧ Below w.heap.size w w' := by
  go_enter Tryz.func55, Tryz.ntmps55
  go_wp2
  refine bodyPost_ret (results_none_tmp rfl Tryz.isAgg54 Tryz.sizeOf54 _ _ _ rfl) rfl ?_
  exact ⟨rfl, ((Below.refl _ w).alloc (Nat.le_refl _) _).alloc (by simp) _⟩
set_option maxHeartbeats 400000 in
theorem fhas_nil (w : World) (f : ByteArray) : Calls Tryz.prog 29 #[.pointer none, .string f] w fun e w' => e = .returned (.bool false) ∧ Below w.heap.size w w' := by
  go_enter Tryz.func29, Tryz.ntmps29
  go_wp2_with fail
  refine (dictionary_nil w).mono ?_
  rintro _ w' ⟨rfl, hw'⟩
  obtain rfl := hw'.symm
  go_wp2_with fail
  refine (get_nil w f).mono ?_
  rintro _ w2 ⟨rfl, hb⟩
  have HB := keep hb
  clear hb
  go_wp2
  go_ret
  exact ⟨rfl, HB.out.alloc HB.out.size _⟩
set_option maxHeartbeats 400000 in
theorem fdel_nil (w : World) (f : ByteArray) : Calls Tryz.prog 27 #[.pointer none, .string f] w fun e w' => e = .returned (.bool false) ∧ Below w.heap.size w w' := by
  go_enter Tryz.func27, Tryz.ntmps27
  go_wp2_with fail
  refine (fhas_nil w f).mono ?_
  rintro _ w2 ⟨rfl, hb⟩
  have HB := keep hb
  clear hb
  go_wp2
  go_ret
  exact ⟨rfl, HB.out⟩
set_option maxHeartbeats 400000 in
theorem sizes_nil (w : World) : Calls Tryz.prog 81 #[.pointer none] w fun e w' => e = .returned (.tuple #[.int .i64 0, .int .i64 0, .int .i64 0]) ∧ w' = w := by
  go_enter Tryz.func81, Tryz.ntmps81
  go_wp2
  refine bodyPost_ret (results_tmp3 rfl _ _ _) rfl ?_
  exact ⟨rfl, rfl⟩
set_option maxHeartbeats 400000 in
theorem next_nil (w : World) (c : Nat) (n : Int) : Calls Tryz.prog 57 #[.pointer none, .int .u64 c, .int .i64 n] w fun e w' => e = .returned (.tuple #[.int .u64 0, .slice none 0 0]) ∧ w' = w := by
  go_enter Tryz.func57, Tryz.ntmps57
  go_wp2_with fail
  refine (sizes_nil w).mono ?_
  rintro _ w' ⟨rfl, hw'⟩
  obtain rfl := hw'.symm
  go_wp2
  refine bodyPost_ret (results_tmp2 rfl _ _ _) rfl ?_
  exact ⟨rfl, rfl⟩
set_option maxHeartbeats 400000 in
theorem fscan_nil (w : World) (c : Nat) (n : Int) : Calls Tryz.prog 37 #[.pointer none, .int .u64 c, .int .i64 n] w fun e w' => e = .returned (.tuple #[.int .u64 0, .slice none 0 0]) ∧ w' = w := by
  go_enter Tryz.func37, Tryz.ntmps37
  go_wp2_with fail
  refine (dictionary_nil w).mono ?_
  rintro _ w' ⟨rfl, hw'⟩
  obtain rfl := hw'.symm
  go_wp2_with fail
  refine (next_nil w c n).mono ?_
  rintro _ w' ⟨rfl, hw'⟩
  obtain rfl := hw'.symm
  go_wp2
  refine bodyPost_ret (results_tmp2 rfl _ _ _) rfl ?_
  exact ⟨rfl, rfl⟩
/-- who tells nothing -/
theorem iter_none {α : Type} {P : Program} {g : Nat} {lb : Array Value} {encs : α → Array Value} {Rd : Nat → World → Prop} {W : World} (h : ∀ l, Calls P g (#[.func (.yield l) #[] #[]] ++ lb) W fun e w' => (∃ v, e = .returned v) ∧ Below W.heap.size W w') : Iter P g lb encs Rd ([] : List α) W := by
  intro l J Jx hJ _ _ _ h0
  refine (h l).mono ?_
  rintro e w' ⟨hv, hb⟩
  exact ⟨hv, fun _ => False, fun _ h => h.elim, .inl (hJ _ _ _ _ _ h0 (Sep.of_below hb) (fun _ h => h.elim))⟩
set_option maxRecDepth 100000 in
set_option maxHeartbeats 1000000 in
theorem all1_nil (W : World) (l Bd : Nat) (hBd : W.cell? ⟨Bd, 0, none⟩ = some (.pointer none)) :
    Calls Tryz.prog 92 (#[.func (.yield l) #[] #[]] ++ #[.pointer (some ⟨Bd, 0, none⟩)]) W fun e w' => (∃ v, e = .returned v) ∧ Below W.heap.size W w' := by
  have hBl : Bd < W.heap.size := World.block_lt_of_cell? _ _ hBd
  have hc1 : (W.alloc (.cells #[.func (.yield l) #[] #[]] 131)).cell? ⟨Bd, 0, none⟩ = some (.pointer none) := (((Below.refl _ W).alloc (Nat.le_refl _) _).cell (p := ⟨Bd, 0, none⟩) hBl).trans hBd
  have hb := (Below.refl _ W).alloc (Nat.le_refl _) (.cells #[.func (.yield l) #[] #[]] 131)
  refine callsIn_wide (n := 9) |>.1 (callsIn_of_wp_marks Tryz.func92 rfl trivial (wpIn_wide.2 ?_) rfl)
  simp only [Tryz.ntmps92, List.size_toArray, List.length_cons, List.length_nil, Nat.reduceAdd, Nat.reduceSub, Array.replicate_succ, Array.replicate_zero, List.push_toArray, List.append_toArray, List.nil_append, List.cons_append]
  go_wp2
  exact ⟨_, results_none rfl _ _ _, ⟨_, rfl⟩, hb⟩
/-- while nothing comes -/
def Holnil (W : World) (H : Nat) (M : Nat → Prop) (_ : Nat) (w : World) : Prop := (¬ M H ∧ w.heap[H]? = some (.cells #[.slice none 0 0] 106 (0, 0))) ∧ Below W.heap.size W w ∧ ∀ k, M k → W.heap.size ≤ k
theorem Holnil.abd {W : World} {H : Nat} : Abd (Holnil W H) := by
  rintro M M' m A B ⟨⟨h1, h1'⟩, h5, h6⟩ hs hx
  have hl := (Array.getElem?_eq_some_iff.1 h1').1
  exact ⟨⟨hx.lt hl h1, (hs.2.2 H hl h1).trans h1'⟩, h5.trans (hs.below h5.size h6), hx.ge h5.size h6⟩
set_option maxRecDepth 100000 in
set_option maxHeartbeats 1000000 in
theorem each1_nil (W : World) (l Bd : Nat) (hBd : W.cell? ⟨Bd, 0, none⟩ = some (.pointer none)) :
    Calls Tryz.prog 74 (#[.func (.yield l) #[] #[]] ++ #[.pointer (some ⟨Bd, 0, none⟩)]) W fun e w' => (∃ v, e = .returned v) ∧ Below W.heap.size W w' := by
  have hBl : Bd < W.heap.size := World.block_lt_of_cell? _ _ hBd
  have hc1 : (W.alloc (.cells #[.slice none 0 0] 106)).cell? ⟨Bd, 0, none⟩ = some (.pointer none) := (((Below.refl _ W).alloc (Nat.le_refl _) _).cell (p := ⟨Bd, 0, none⟩) hBl).trans hBd
  have MA := keep (fun w => all_any w (.pointer none) (.inl rfl))
  refine callsIn_wide (n := 9) |>.1 (callsIn_of_wp_marks Tryz.func74 rfl trivial (wpIn_wide.2 ?_) rfl)
  simp only [Tryz.ntmps74, List.size_toArray, List.length_cons, List.length_nil, Nat.reduceAdd, Nat.reduceSub, Array.replicate_succ, Array.replicate_zero, List.push_toArray, List.append_toArray, List.nil_append, List.cons_append]
  go_wp2_with fail
  refine (MA.out _).mono ?_
  rintro _ w2 ⟨rfl, hw2⟩
  have hz2 : w2.heap.size = W.heap.size + 2 := by rw [hw2]; simp
  have hb2 : Below W.heap.size W w2 := by rw [hw2]; exact ((Below.refl _ W).alloc (Nat.le_refl _) _).alloc (by simp) _
  have h2H : w2.heap[W.heap.size]? = some (.cells #[.slice none 0 0] 106 (0, 0)) := by rw [hw2, Below.heap_alloc _ _ _ (by simp)]; exact heap_alloc_new _ _
  have h2B : w2.cell? ⟨W.heap.size + 1, 0, none⟩ = some (.pointer none) := by
    have := heap_alloc_new (W.alloc (.cells #[.slice none 0 0] 106)) (.cells #[.pointer none] 52)
    rw [World.size_alloc] at this
    rw [hw2, cell_of_row _ _ _ _ _ _ this]; rfl
  have HI0 : Kept (Holnil W W.heap.size (fun _ => False) 0 w2) := ⟨⟨id, h2H⟩, hb2, fun _ h => h.elim⟩
  have H2B := keep h2B
  have HB2 := keep hb2
  clear hw2 hc1 hb2 h2H h2B
  go_wp2
  refine (wpIn_wide (n := 9)).1 (range_own (α := Unit) (gf := 92) (lb := #[.pointer (some ⟨W.heap.size + 1, 0, none⟩)]) (by simp [Act.eval]) (enters_of Tryz.func92 (by kernel_rfl) rfl) (encs := fun _ => #[.bool true]) (L := []) (fun _ => rfl)
    (fun W1 hb => iter_none (Rd := fun _ _ => True) (fun l => all1_nil W1 l (W.heap.size + 1) ((hb.cell (p := ⟨W.heap.size + 1, 0, none⟩) (by show W.heap.size + 1 < w2.heap.size; omega)).trans H2B.out)))
    (Holnil W W.heap.size) (fun _ _ _ _ => False) Holnil.abd (fun _ _ _ _ _ _ h _ _ => h) HI0.out (fun _ _ _ _ => trivial) (fun _ _ _ _ _ _ h => by simp at h) ?done (fun _ _ _ _ _ _ h => h.elim))
  case done =>
    intro M' D W5 hI hD hDk hM'
    obtain ⟨⟨j1, j1'⟩, j5, j6⟩ := hI
    have cH : W5.cell? ⟨W.heap.size, 0, none⟩ = some (.slice none 0 0) := by rw [cell_of_row _ _ _ _ _ _ j1']; rfl
    have J5 := keep j5
    have hDW := j6 D hD
    have HDK := keep hDk
    clear j1' j5 j6 hDk hM'
    go_wp2
    go_loopw [16] (fun i wr => i = .int .i64 0 ∧ wr = W5) (fun _ _ => 0)
    case atStart => exact ⟨rfl, rfl⟩
    case round =>
      obtain ⟨rfl, rfl⟩ := hrel
      go_wp2
      refine leave_mark HDK.out ?_
      exact ⟨_, results_none rfl _ _ _, ⟨_, rfl⟩, J5.out.grown (grownBy_mark _ D _) J5.out.size (fun k e => by cases e; exact hDW)⟩
/-- while no pairs come -/
def PrN (W : World) (Sg Sb : Nat) (M : Nat → Prop) (_ : Nat) (w : World) : Prop :=
  (¬ M Sb ∧ w.heap[Sb]? = some (.cells #[.slice (some ⟨Sg, 0, none⟩) 0 0] 43 (0, 0))) ∧ (¬ M Sg ∧ w.ownsRow W.heap.size 9 1 (.slice (some ⟨Sg, 0, none⟩) 0 0) 0 []) ∧
    Below W.heap.size W w ∧ ∀ k, M k → W.heap.size ≤ k
theorem PrN.abd {W : World} {Sg Sb : Nat} : Abd (PrN W Sg Sb) := by
  rintro M M' m A B ⟨⟨h1, h1'⟩, ⟨h2, h2'⟩, h5, h6⟩ hs hx
  have keepB : ∀ k o, ¬ M k → A.heap[k]? = some o → ¬ M' k ∧ B.heap[k]? = some o := fun k o hn ho => by
    have hl := (Array.getElem?_eq_some_iff.1 ho).1
    exact ⟨hx.lt hl hn, (hs.2.2 k hl hn).trans ho⟩
  have hSl := own_lt h2' (k := Sg) rfl
  exact ⟨keepB _ _ h1 h1', ⟨hx.lt hSl h2, own_kept h2' (fun k hk => by cases hk; exact hs.2.2 _ hSl h2)⟩, h5.trans (hs.below h5.size h6), hx.ge h5.size h6⟩
set_option maxRecDepth 100000 in
set_option maxHeartbeats 2000000 in
theorem fmembers_nil (W : World) :
    Calls Tryz.prog 24 #[.pointer none] W fun e w' => e = .returned (.slice (some ⟨W.heap.size, 0, none⟩) 0 0) ∧ w'.ownsRow W.heap.size 9 1 (.slice (some ⟨W.heap.size, 0, none⟩) 0 0) 0 [] ∧ Below W.heap.size W w' := by
  have mL := flen_nil W
  obtain ⟨w1, mk, hS2, hg2, hlt2⟩ := make_texts W 0 (by omega)
  have mk : (Instr.makeSlice 43 (.int .i64 0) (.int .i64 0)).run Tryz.prog W = .ok (.slice (some ⟨W.heap.size, 0, none⟩) 0 0) w1 := mk
  have hb1 : Below W.heap.size W w1 := (Below.refl _ W).grown hg2 (Nat.le_refl _) (fun k h => by cases h)
  obtain ⟨w2, hw2⟩ : ∃ w2, w1.alloc (.cells #[.slice (some ⟨W.heap.size, 0, none⟩) 0 0] 43) = w2 := ⟨_, rfl⟩
  have hb12 : Below w1.heap.size w1 w2 := by rw [← hw2]; exact (Below.refl _ w1).alloc (Nat.le_refl _) _
  have hz2 : w2.heap.size = w1.heap.size + 1 := by rw [← hw2]; simp
  have h2S : w2.heap[w1.heap.size]? = some (.cells #[.slice (some ⟨W.heap.size, 0, none⟩) 0 0] 43 (0, 0)) := by rw [← hw2]; exact heap_alloc_new _ _
  have hb2 : Below W.heap.size W w2 := hb1.trans (hb12.mono hb1.size)
  have mD := dictionary_nil w2
  refine callsIn_wide (n := 9) |>.1 (callsIn_of_wp_marks Tryz.func24 rfl trivial (wpIn_wide.2 ?_) rfl)
  simp only [Tryz.ntmps24, List.size_toArray, List.length_cons, List.length_nil, Nat.reduceAdd, Nat.reduceSub, Array.replicate_succ, Array.replicate_zero, List.push_toArray, List.append_toArray, List.nil_append, List.cons_append]
  go_wp2_with fail
  refine mL.mono ?_
  rintro _ w' ⟨rfl, hw'⟩
  obtain rfl := hw'.symm
  go_wp2_with fail
  refine mD.mono ?_
  rintro _ w' ⟨rfl, hw'⟩
  obtain rfl := hw'.symm
  go_wp2_with fail
  refine (each_any _ _ (.inl rfl)).mono ?_
  rintro _ w4 ⟨rfl, hw4⟩
  have hz4 : w4.heap.size = w2.heap.size + 1 := by rw [hw4]; simp
  have hb24 : Below w2.heap.size w2 w4 := by rw [hw4]; exact (Below.refl _ w2).alloc (Nat.le_refl _) _
  have h4B : w4.heap[w2.heap.size]? = some (.cells #[.pointer none] 52 (0, 0)) := by rw [hw4]; exact heap_alloc_new _ _
  have h4S : w4.heap[w1.heap.size]? = some (.cells #[.slice (some ⟨W.heap.size, 0, none⟩) 0 0] 43 (0, 0)) := (hb24.block _ (by omega)).trans h2S
  have hb4 : Below W.heap.size W w4 := hb2.trans (hb24.mono hb2.size)
  have c4B : w4.cell? ⟨w2.heap.size, 0, none⟩ = some (.pointer none) := by rw [cell_of_row _ _ _ _ _ _ h4B]; rfl
  have hI0 : PrN W W.heap.size w1.heap.size (fun _ => False) 0 w4 := by
    refine ⟨⟨id, h4S⟩, ⟨id, own_kept hS2 (fun k hk => by cases hk; exact (hb24.block W.heap.size (by omega)).trans (hb12.block W.heap.size hlt2))⟩, hb4, fun _ h => h.elim⟩
  have HI0 := keep hI0
  have C4B := keep c4B
  clear hw4 hb24 h4S h4B hb4 c4B hI0 mk hS2 hg2 hw2 hb12 h2S hb2 mD mL hb1
  go_wp2
  refine (wpIn_wide (n := 9)).1 (range_own (α := Ent) (gf := 74) (lb := #[.pointer (some ⟨w2.heap.size, 0, none⟩)]) (by simp [Act.eval]) (enters_of Tryz.func74 (by kernel_rfl) rfl) (encs := eachV) (L := []) (fun _ => rfl)
    (fun W1 hb => iter_none (Rd := fun _ _ => True) (fun l => each1_nil W1 l w2.heap.size ((hb.cell (p := ⟨w2.heap.size, 0, none⟩) (by show w2.heap.size < w4.heap.size; omega)).trans C4B.out)))
    (PrN W W.heap.size w1.heap.size) (fun _ _ _ _ => False) PrN.abd (fun _ _ _ _ _ _ h _ _ => h) HI0.out (fun _ _ _ _ => trivial) (fun _ _ _ _ _ _ h => by simp at h) ?done (fun _ _ _ _ _ _ h => h.elim))
  case done =>
    intro M' D W5 hI hD hDk hM'
    obtain ⟨⟨j1, j1'⟩, ⟨j2, j2'⟩, j5, j6⟩ := hI
    have hsS : w1.heap.size < W5.heap.size := (Array.getElem?_eq_some_iff.1 j1').1
    have hDW : W.heap.size ≤ D := j6 D hD
    have hsD : D < W5.heap.size := (Array.getElem?_eq_some_iff.1 hDk).1
    have hDG : D ≠ W.heap.size := fun e => j2 (e ▸ hD)
    have c5S : W5.cell? ⟨w1.heap.size, 0, none⟩ = some (.slice (some ⟨W.heap.size, 0, none⟩) 0 0) := by rw [cell_of_row _ _ _ _ _ _ j1']; rfl
    have mS := sort_any W5 W.heap.size W.heap.size 0 [] j2' (by simp) (by simp)
    simp only [List.length_nil] at mS
    have J1 := keep j1'
    have J5 := keep j5
    have HDK := keep hDk
    clear j1 j1' j2 j2' j5 j6 hM' hDk HI0 C4B hz4
    go_wp2_with fail
    refine mS.mono ?_
    rintro _ w6 ⟨rfl, O, hO1, hO2, hO3⟩
    obtain rfl : O = [] := List.perm_nil.1 hO1.1
    have k6S : w6.heap[w1.heap.size]? = W5.heap[w1.heap.size]? := hO3.block _ hsS (fun e => by have := Option.some.inj e; omega)
    have c6S : w6.cell? ⟨w1.heap.size, 0, none⟩ = some (.slice (some ⟨W.heap.size, 0, none⟩) 0 0) := by rw [cell_of_row _ _ _ _ _ _ (k6S.trans J1.out)]; rfl
    have h6D : w6.heap[D]? = some (.deferred (some [])) := (hO3.block _ hsD (fun e => hDG (Option.some.inj e))).trans HDK.out
    have OO2 := keep hO2
    have OO3 := keep hO3
    have H6D := keep h6D
    clear hO1 hO2 hO3 h6D k6S mS c5S
    go_wp2
    refine leave_mark H6D.out ?_
    have hb6 : Below W.heap.size W w6 := J5.out.grown OO3.out (by exact J5.out.size) (fun k e => by cases e; exact Nat.le_refl _)
    refine ⟨_, results_tmp rfl _ _ _, rfl, ?_, hb6.grown (grownBy_mark _ D _) hb6.size (fun k e => by cases e; exact hDW)⟩
    exact own_kept OO2.out (fun k hk => by cases hk; exact World.putObj_heap_other (Ne.symm hDG))
set_option maxHeartbeats 400000 in
theorem fsample_nil (W : World) (n : Nat) : Calls Tryz.prog 31 #[.pointer none, .int .u64 n] W fun e w' => e = .returned (.tuple #[.string .empty, .bool false]) ∧ Below W.heap.size W w' := by
  have mP := fmembers_nil W
  go_enter Tryz.func31, Tryz.ntmps31
  go_wp2_with fail
  refine mP.mono ?_
  rintro _ w1 ⟨rfl, _, hb⟩
  have HB := keep hb
  clear mP hb
  go_wp2
  refine bodyPost_ret (results_tmp2 rfl _ _ _) rfl ?_
  exact ⟨rfl, HB.out⟩
end Go.Proofs.YtlfpkbjiofelkaaGreat

namespace Go.Proofs.YtlfpkbjiofelkaaGreat
open Go.RowKit Go.Shelf
attribute [local go_sem] Oper.semAt_some
/-- a flock's pointer, or nil -/
def pv (p : Option Nat) : Value := .pointer (p.map fun R => ⟨R, 0, none⟩)
/-- a flock, or none, has the members ks -/
def FlkO (W : World) (p : Option Nat) (ks : List ByteArray) : Prop :=
  match p with
  | none => ks = []
  | some R => Flk W R ks
theorem FlkO.below {W w : World} {p : Option Nat} {ks : List ByteArray} (h : FlkO W p ks) (hb : Below W.heap.size W w) : FlkO w p ks := by
  cases p with
  | none => exact h
  | some R => exact Flk.below h hb
theorem flk_each {wr : World} {p : Option Nat} {ks : List ByteArray} (hf : FlkO wr p ks) : ∃ (dv : Value) (es : List Ent), (dv = .pointer none ∨ ∃ x, dv = .pointer (some ⟨x, 0, none⟩)) ∧ ks = es.map (fun e : Ent => e.1) ∧ (es.map (fun e : Ent => e.1)).Nodup ∧ (∀ e ∈ es, e.1.size ≤ maxLen) ∧ es.length ≤ 2600000000000 ∧
    Calls Tryz.prog 50 #[pv p] wr (fun e w' => e = .returned dv ∧ w' = wr) ∧ ∀ (B : Nat) (W1 : World), Below wr.heap.size wr W1 → W1.cell? ⟨B, 0, none⟩ = some dv → Iter Tryz.prog 74 #[.pointer (some ⟨B, 0, none⟩)] eachV (fun _ _ => True) es W1 := by
  cases p with
  | none =>
    refine ⟨.pointer none, [], .inl rfl, hf, List.nodup_nil, fun e he => by simp at he, by simp, dictionary_nil wr, fun B W1 _ hc => iter_none (fun l => each1_nil W1 l B hc)⟩
  | some R =>
    obtain ⟨h, N, r, b, seed, s, hr, hN, hks⟩ := hf
    have hd := hr.1
    have hpp : s.pos ≤ s.old.length := by
      by_cases hy : s.young = []
      · rw [hd.2.1.rest hy]; omega
      · have := hd.2.1.move hy; omega
    have hm0 : s.old.length ≤ 5400000000000 := by have := hd.2.2.2.2.1; omega
    have hm1 : s.young.length ≤ 5400000000000 := by have := hd.2.2.2.2.2; omega
    have hal : (Dc.all s).length ≤ 2600000000000 := by have := hd.2.2.2.1; omega
    exact ⟨_, Dc.all s, .inr ⟨b, rfl⟩, hks, all_nodup hd.2.1, hd.2.2.1, hal, dictionary_any hr, fun B W1 hb hc => each_iter B b seed _ r s W1 (hd.1.below hb) hc hpp hm0 hm1 hal⟩
set_option maxRecDepth 100000 in
set_option maxHeartbeats 2000000 in
theorem tallyo_any (W : World) (ao : Option Addr) (cap : Nat) (ps : List (Option Nat × List ByteArray)) (hcell : ∀ j p, ps[j]? = some p → ∃ g o, ao = some ⟨g, o, none⟩ ∧ W.cell? ⟨g, o + j, none⟩ = some (pv p.1)) (hfl : ∀ p ∈ ps, FlkO W p.1 p.2) (hln : ps.length ≤ 2600000000000) (hsum : (ps.map (fun p => p.2.length)).sum ≤ 2600000000000) :
    Calls Tryz.prog 46 #[.slice ao ps.length cap] W fun e w' => e = .returned (.map (some W.heap.size)) ∧ ∃ n, Tal w' W.heap.size n (tal (ps.map (·.2))) ∧ Below W.heap.size W w' ∧ n ≤ 2600000000000 := by
  obtain ⟨W1, hW1⟩ : ∃ W1, (W.alloc (.map #[] 0)).alloc (.cells #[.map (some W.heap.size)] 80) = W1 := ⟨_, rfl⟩
  have hS1 : TlS W [] 0 [] W1 := by
    rw [← hW1]
    refine ⟨(Tal.made W).kept (Below.heap_alloc _ _ _ (by simp)), ?_, ((Below.refl _ W).alloc (Nat.le_refl _) _).alloc (by simp) _, List.nodup_nil, fun D h => by simp at h⟩
    have := heap_alloc_new (W.alloc (.map #[] 0)) (.cells #[.map (some W.heap.size)] 80)
    rwa [World.size_alloc] at this
  obtain ⟨T, hT⟩ : ∃ T, ps.length = T := ⟨_, rfl⟩
  rw [hT] at hln ⊢
  have HT := keep hT
  have HS1 := keep hS1
  have HC := keep hcell
  have HF := keep hfl
  have HSUM := keep hsum
  clear hT hS1 hcell hfl hsum
  have hmm : ∀ w, (Instr.makeMap 80 none).run Tryz.prog w = .ok (.map (some w.heap.size)) (w.alloc (.map #[] 0)) := fun w => rfl
  refine callsIn_wide (n := 9) |>.1 (callsIn_of_wp_marks Tryz.func46 rfl trivial (wpIn_wide.2 ?_) rfl)
  simp only [Tryz.ntmps46, List.size_toArray, List.length_cons, List.length_nil, Nat.reduceAdd, Nat.reduceSub, Array.replicate_succ, Array.replicate_zero, List.push_toArray, List.append_toArray, List.nil_append, List.cons_append]
  go_wp2
  refine wp_loop (fun a w' => ∃ (i : Nat) (n : Nat) (Ds : List Nat) (v5 v6 v11 v12 v13 v14 v15 v16 v17 v18 v19 v20 v21 v22 v23 : Value), i ≤ T ∧ a = { tmps := #[.slice ao T cap, undef, .map none, .pointer (some ⟨W.heap.size + 1, 0, none⟩), undef, v5, v6, .map (some W.heap.size), .slice ao T cap, .int .i64 T, .int .i64 i, v11, v12, v13, v14, v15, v16, v17, v18, v19, v20, v21, v22, v23, undef], defers := Ds.map fun D => { target := .collected D, args := #[] } } ∧ Kept (TlS W ((ps.take i).map (·.2)) n Ds w') ∧ Kept (n = ((ps.take i).map (fun p => p.2.length)).sum)) (fun a _ => T - (intOf (a.tmps.getD 10 undef)).toNat) ⟨0, 0, [], _, _, _, _, _, _, _, _, _, _, _, _, _, _, _, Nat.zero_le _, rfl, HS1, rfl⟩ ?_
  rintro a wr ⟨i, n, Ds, v5, v6, v11, v12, v13, v14, v15, v16, v17, v18, v19, v20, v21, v22, v23, hi, rfl, KS, KN⟩
  clear hmm
  by_cases hlt : i < T
  · have hltz : (i : Int) < (T : Int) := by omega
    have hi0 : (0 : Int) ≤ (i : Int) := by omega
    obtain ⟨p, hp⟩ : ∃ p, ps[i]? = some p := ⟨_, List.getElem?_eq_getElem (by rw [HT.out]; exact hlt)⟩
    obtain ⟨g, o, rfl, hc⟩ := HC.out i p hp
    obtain ⟨a1, a2, a3, a4, a5⟩ := KS.out
    have hcw : wr.cell? ⟨g, o + i, none⟩ = some (pv p.1) := (a3.cell (p := ⟨g, o + i, none⟩) (World.block_lt_of_cell? _ _ hc)).trans hc
    obtain ⟨dv, es, hdv, hks, hnd, hsz, hal, mD, hit⟩ := flk_each ((HF.out p (List.mem_of_getElem? hp)).below a3)
    have HP := keep hp
    have HKS := keep hks
    have HIT := keep hit
    have HND := keep hnd
    have HSZ := keep hsz
    have A1 := keep a1
    have A2 := keep a2
    have A3 := keep a3
    have A4 := keep a4
    have A5 := keep a5
    clear hp hc hks hnd hsz hit a1 a2 a3 a4 a5 KS
    obtain ⟨p1, p2⟩ := p
    dsimp only at hcw mD
    obtain ⟨pq, hpq⟩ : ∃ pq, pv p1 = pq := ⟨_, rfl⟩
    rw [hpq] at hcw mD
    clear hpq
    go_wp2_with fail
    refine mD.mono ?_
    rintro _ w' ⟨rfl, hw'⟩
    obtain rfl := hw'.symm
    clear mD hcw
    go_wp2_with fail
    refine (each_any _ _ hdv).mono ?_
    rintro _ w4 ⟨rfl, hw4⟩
    have hz4 : w4.heap.size = wr.heap.size + 1 := by rw [hw4]; simp
    have hb4 : Below wr.heap.size wr w4 := by rw [hw4]; exact (Below.refl _ wr).alloc (Nat.le_refl _) _
    have h4B : w4.heap[wr.heap.size]? = some (.cells #[dv] 52 (0, 0)) := by rw [hw4]; exact heap_alloc_new _ _
    have c4B : w4.cell? ⟨wr.heap.size, 0, none⟩ = some dv := by rw [cell_of_row _ _ _ _ _ _ h4B]; rfl
    have hsw : W.heap.size + 1 < wr.heap.size := (Array.getElem?_eq_some_iff.1 A2.out).1
    have hI0 : TlI W ((ps.take i).map (·.2)) n Ds (es) (fun _ => False) 0 w4 := by
      refine ⟨⟨id, ?_⟩, ⟨id, (hb4.block _ hsw).trans A2.out⟩, A3.out.trans (hb4.mono A3.out.size), fun _ h => h.elim, fun D hD => ⟨id, (hb4.block _ (Array.getElem?_eq_some_iff.1 (A5.out D hD).2).1).trans (A5.out D hD).2⟩⟩
      have := A1.out.kept (hb4.block _ A1.out.lt)
      simpa [inB] using this
    have HI0 := keep hI0
    have C4B := keep c4B
    have HB4 := keep hb4
    clear hw4 h4B c4B hI0 hb4
    go_wp2
    refine (wpIn_wide (n := 9)).1 (range_own (α := Ent) (gf := 74) (lb := #[.pointer (some ⟨wr.heap.size, 0, none⟩)]) (by simp [Act.eval]) (enters_of Tryz.func74 (by kernel_rfl) rfl) (encs := eachV) (L := es) (fun _ => rfl)
      (fun W1 hb => HIT.out wr.heap.size W1 (HB4.out.trans (hb.mono HB4.out.size)) ((hb.cell (p := ⟨wr.heap.size, 0, none⟩) (by show wr.heap.size < w4.heap.size; omega)).trans C4B.out))
      (TlI W ((ps.take i).map (·.2)) n Ds (es)) (fun _ _ _ _ => False) TlI.abd (fun _ _ _ _ _ _ h _ _ => h) HI0.out (fun _ _ _ _ => trivial) ?round ?done ?stop)
    case stop => exact fun _ _ _ _ _ _ h => h.elim
    case round =>
      intro M' l' m x W1 hI hx hl hrec hM'
      obtain ⟨e1, e2⟩ := x
      have HI := keep hI
      have HX := keep hx
      have HM' := keep hM'
      clear hI hx hM' HI0 hrec
      unfold eachV
      gi_wp2
      refine ⟨Mk.refl _ _, fun rl => ?_⟩
      obtain ⟨W2, hW2⟩ : ∃ W2, W1.putObj l' (.loop rl) = W2 := ⟨_, rfl⟩
      rw [hW2]
      have hI2 : TlI W ((ps.take i).map (·.2)) n Ds (es) M' m W2 := TlI.abd _ _ _ _ _ HI.out (by rw [← hW2]; exact Sep.put _ _ hl) (Ext.refl _ _ _)
      obtain ⟨⟨j1, j1'⟩, ⟨j2, j2'⟩, j5, j6, j7⟩ := hI2
      have hml : m < (es).length := (List.getElem?_eq_some_iff.1 HX.out).1
      have hes : e1.size ≤ maxLen := HSZ.out _ (List.mem_of_getElem? HX.out)
      have cS : W2.cell? ⟨W.heap.size + 1, 0, none⟩ = some (.map (some W.heap.size)) := by rw [cell_of_row _ _ _ _ _ _ j2']; rfl
      have hlk := j1'.look e1 hes
      have hnt := take_key HND.out HX.out
      rw [show inB e1 (((es).take m).map (fun e : Ent => e.1)) = false from by
        cases hh : inB e1 (((es).take m).map (fun e : Ent => e.1)) with
        | false => rfl
        | true => exact absurd ((inB_iff _ _).1 hh) hnt, if_neg (by simp), Nat.add_zero] at hlk
      have hn9 : n + m < maxLen := by
        have e1 := KN.out
        have e2 : n ≤ 2600000000000 := by
          rw [e1]
          refine Nat.le_trans ?_ HSUM.out
          exact sum_take _ _ _
        unfold maxLen
        omega
      have htl : tal ((ps.take i).map (·.2)) e1 ≤ 2600000000000 := by
        refine Nat.le_trans (tal_le _ _) ?_
        rw [List.length_map, List.length_take]
        omega
      obtain ⟨W3, hup, hT3, hg3⟩ := j1'.put e1 hes hn9 (tal ((ps.take i).map (·.2)) e1 + 1) (by omega) (by omega)
      have hwr : IntKind.i64.wrap (((tal ((ps.take i).map (·.2)) e1 : Nat) : Int) + 1) = ((tal ((ps.take i).map (·.2)) e1 + 1 : Nat) : Int) := by rw [IntKind.wrap_i64]; omega
      have fin : Kept (rdPost (TlI W ((ps.take i).map (·.2)) n Ds (es)) (fun _ _ _ _ => False) M' (m + 1) W2 .normal { tmps := #[], defers := [] } W3) := by
        have same : ∀ k, k < W2.heap.size → k ≠ W.heap.size → W3.heap[k]? = W2.heap[k]? := fun k hk hn => hg3.block k hk (fun e => hn (Option.some.inj e))
        refine ⟨⟨hg3.size, fun k hk => ?_⟩, ⟨j1, ?_⟩, ⟨j2, (same _ (Array.getElem?_eq_some_iff.1 j2').1 (by omega)).trans j2'⟩, ?_, j6, fun D hD => ⟨(j7 D hD).1, ?_⟩⟩
        · have hkb := HM'.out k hk
          have : W2.heap.size = W1.heap.size := by rw [← hW2]; simp
          exact same k (by omega) (fun e => j1 (e ▸ hk))
        · have := hT3
          rw [take_count HX.out] at this
          exact this
        · exact j5.trans ((Below.refl _ W2).grown hg3 j5.size (fun k e => by cases e; exact Nat.le_refl _))
        · have hD' := (A5.out D hD).1
          exact (same D (Array.getElem?_eq_some_iff.1 (j7 D hD).2).1 (by omega)).trans (j7 D hD).2
      obtain ⟨v, hv⟩ : ∃ v, tal ((ps.take i).map (·.2)) e1 = v := ⟨_, rfl⟩
      rw [hv] at hlk hup hwr
      rw [show ((v + 1 : Nat) : Int) = (v : Int) + 1 from by omega] at hup hwr
      clear hT3 hg3 j1 j1' j2 j2' j5 j6 j7 hW2 hnt hv htl hn9 hes hml HI HX HM' A5 A4 A1 A2 A3
      gi_wp2
      exact fin.out
    case done =>
      intro M' D W5 hI hD hDk hM'
      obtain ⟨⟨j1, j1'⟩, ⟨j2, j2'⟩, j5, j6, j7⟩ := hI
      rw [List.take_length] at j1'
      have hps : ((ps.take (i + 1)).map (·.2)) = (ps.take i).map (·.2) ++ [(es).map (fun e : Ent => e.1)] := by
        obtain ⟨hm, he⟩ := List.getElem?_eq_some_iff.1 HP.out
        rw [List.take_succ_eq_append_getElem hm, he, List.map_append, List.map_singleton]
        show _ ++ [p2] = _
        rw [show p2 = es.map (fun e : Ent => e.1) from HKS.out]
      have hpn : ((ps.take (i + 1)).map (fun p : Option Nat × List ByteArray => p.2.length)).sum = n + (es).length := by
        obtain ⟨hm, he⟩ := List.getElem?_eq_some_iff.1 HP.out
        rw [List.take_succ_eq_append_getElem hm, he, List.map_append, List.map_singleton, List.sum_append, ← KN.out]
        show n + [p2.length].sum = _
        rw [show p2 = es.map (fun e : Ent => e.1) from HKS.out]
        simp
      have KS5 : Kept (TlS W ((ps.take (i + 1)).map (·.2)) (n + (es).length) (D :: Ds) W5) := by
        refine ⟨?_, j2', j5, List.nodup_cons.2 ⟨fun h => (j7 D h).1 hD, A4.out⟩, fun D' hD' => ?_⟩
        · rw [hps]
          rw [show tal ((ps.take i).map (·.2) ++ [(es).map (fun e : Ent => e.1)]) = fun k => tal ((ps.take i).map (·.2)) k + if inB k ((es).map (fun e : Ent => e.1)) then 1 else 0 from funext fun k => tal_snoc _ _ _]
          exact j1'
        · rcases List.mem_cons.1 hD' with rfl | h
          · have h1 := hM' _ hD
            exact ⟨by omega, hDk⟩
          · exact ⟨(A5.out D' h).1, (j7 D' h).2⟩
      have hwi : IntKind.i64.wrap ((i : Int) + 1) = ((i + 1 : Nat) : Int) := by rw [IntKind.wrap_i64]; omega
      clear j1 j1' j2 j2' j5 j6 j7 hM' hDk hD HI0 hps
      go_wp2
      exact ⟨⟨i + 1, _, D :: Ds, _, _, _, _, _, _, _, _, _, _, _, _, _, _, _, by omega, rfl, KS5, hpn.symm⟩, by simp [intOf]; omega⟩
  · have hltz : ¬ (i : Int) < (T : Int) := by omega
    obtain rfl : i = T := by omega
    obtain ⟨a1, a2, a3, a4, a5⟩ := KS.out
    have c2 : wr.cell? ⟨W.heap.size + 1, 0, none⟩ = some (.map (some W.heap.size)) := by rw [cell_of_row _ _ _ _ _ _ a2]; rfl
    have A1 := keep a1
    have A3 := keep a3
    have A4 := keep a4
    have A5 := keep a5
    clear a1 a2 a3 a4 a5 KS
    go_wp2
    refine leave_marks Ds wr A4.out (fun D hD => (A5.out D hD).2) (fun W' hs => ?_)
    refine ⟨_, results_tmp rfl _ _ _, rfl, n, ?_, ?_, ?_⟩
    · have := A1.out.kept (hs.2.2 _ A1.out.lt (fun h => by have := (A5.out _ h).1; omega))
      rwa [List.take_of_length_le (by rw [HT.out]; exact Nat.le_refl _)] at this
    · exact A3.out.trans (hs.below A3.out.size (fun k hk => by have := (A5.out k hk).1; omega))
    · rw [KN.out, List.take_of_length_le (by rw [HT.out]; exact Nat.le_refl _)]
      exact HSUM.out
end Go.Proofs.YtlfpkbjiofelkaaGreat
