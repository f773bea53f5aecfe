/-
  Contracts over this program: no dict, and an empty one of texts.
-/
import Derived.Test.YtcdcdodhpnmhpaaDictOnce
namespace Go.Proofs.Ytcdcdodhpnmhpaa
open Go.RowKit Go.Shelf
attribute [local go_sem] Oper.semAt_some
set_option maxHeartbeats 400000 in
theorem len_nil (w : World) : Calls Try.prog 18 #[.pointer none] w fun e w' => e = .returned (.int .i64 0) ∧ w' = w := by
  go_enter Try.func18, Try.ntmps18
  go_wp2
  go_ret
  exact ⟨rfl, rfl⟩
set_option maxHeartbeats 400000 in
theorem get_nil (w : World) (k : ByteArray) : Calls Try.prog 22 #[.pointer none, .string k] w fun e w' => e = .returned (.tuple #[.int .i64 0, .bool false]) ∧ w' = w := by
  go_enter Try.func22, Try.ntmps22
  go_wp2
  refine bodyPost_ret (results_tmp2 rfl _ _ _) rfl ?_
  exact ⟨rfl, rfl⟩
set_option maxHeartbeats 400000 in
theorem sizes_nil (w : World) : Calls Try.prog 24 #[.pointer none] w fun e w' => e = .returned (.tuple #[.int .i64 0, .int .i64 0, .int .i64 0]) ∧ w' = w := by
  go_enter Try.func24, Try.ntmps24
  go_wp2
  refine bodyPost_ret (results_tmp3 rfl _ _ _) rfl ?_
  exact ⟨rfl, rfl⟩
set_option maxHeartbeats 400000 in
theorem clear_nil (w : World) : Calls Try.prog 25 #[.pointer none] w fun e w' => e = .returned (.tuple #[]) ∧ w' = w := by
  go_enter Try.func25, Try.ntmps25
  go_wp2
  refine bodyPost_ret (results_none rfl _ _ _) rfl ?_
  exact ⟨rfl, rfl⟩
set_option maxHeartbeats 400000 in
theorem set_nil (w : World) (k : ByteArray) (v : Int) : Calls Try.prog 26 #[.pointer none, .string k, .int .i64 v] w fun e w' => e = .returned (.bool false) ∧ w' = w := by
  go_enter Try.func26, Try.ntmps26
  go_wp2
  go_ret
  exact ⟨rfl, rfl⟩
set_option maxHeartbeats 400000 in
theorem delete_nil (w : World) (k : ByteArray) : Calls Try.prog 27 #[.pointer none, .string k] w fun e w' => e = .returned (.bool false) ∧ w' = w := by
  go_enter Try.func27, Try.ntmps27
  go_wp2
  go_ret
  exact ⟨rfl, rfl⟩
set_option maxHeartbeats 400000 in
theorem bucket_nil (w : World) (t i : Int) : Calls Try.prog 28 #[.pointer none, .int .i64 t, .int .i64 i] w fun e w' => e = .returned (.slice none 0 0) ∧ w' = w := by
  go_enter Try.func28, Try.ntmps28
  go_wp2
  go_ret
  exact ⟨rfl, rfl⟩
set_option maxHeartbeats 400000 in
theorem sample_nil (w : World) (x : Int) : Calls Try.prog 23 #[.pointer none, .int .u64 x] w fun e w' => e = .returned (.tuple #[.string { data := #[] }, .bool false]) ∧ w' = w := by
  go_enter Try.func23, Try.ntmps23
  go_wp2_with fail
  refine (len_nil _).mono ?_
  rintro _ w' ⟨rfl, hw'⟩
  subst hw'
  go_wp2
  refine bodyPost_ret (results_tmp2 rfl _ _ _) rfl ?_
  exact ⟨rfl, rfl⟩
/-- who tells nothing -/
theorem iter_none {α : Type} {P : Program} {g : Nat} {lb : Array Value} {encs : α → Array Value} {Rd : Nat → World → Prop} {W : World} (h : ∀ l, Calls P g (#[.func (.yield l) #[] #[]] ++ lb) W fun e w' => (∃ v, e = .returned v) ∧ Below W.heap.size W w') : Iter P g lb encs Rd ([] : List α) W := by
  intro l J Jx hJ _ _ _ h0
  refine (h l).mono ?_
  rintro e w' ⟨hv, hb⟩
  exact ⟨hv, fun _ => False, fun _ h => h.elim, .inl (hJ _ _ _ _ _ h0 (Sep.of_below hb) (fun _ h => h.elim))⟩
set_option maxRecDepth 100000 in
set_option maxHeartbeats 1000000 in
theorem all1_nil (W : World) (l Bd : Nat) (hBd : W.cell? ⟨Bd, 0, none⟩ = some (.pointer none)) :
    Calls Try.prog 89 (#[.func (.yield l) #[] #[]] ++ #[.pointer (some ⟨Bd, 0, none⟩)]) W fun e w' => (∃ v, e = .returned v) ∧ Below W.heap.size W w' := by
  have hBl : Bd < W.heap.size := lt_cell hBd
  have hc1 : (W.alloc (.cells #[.func (.yield l) #[] #[]] 135)).cell? ⟨Bd, 0, none⟩ = some (.pointer none) := (((Below.refl _ W).alloc (Nat.le_refl _) _).cell (p := ⟨Bd, 0, none⟩) hBl).trans hBd
  have hb := (Below.refl _ W).alloc (Nat.le_refl _) (.cells #[.func (.yield l) #[] #[]] 135)
  refine callsIn_wide (n := 9) |>.1 (callsIn_of_wp_marks Try.func89 rfl trivial (wpIn_wide.2 ?_) rfl)
  simp only [Try.ntmps89, List.size_toArray, List.length_cons, List.length_nil, Nat.reduceAdd, Nat.reduceSub, Array.replicate_succ, Array.replicate_zero, List.push_toArray, List.append_toArray, List.nil_append, List.cons_append]
  go_wp2
  exact ⟨_, results_none rfl _ _ _, ⟨_, rfl⟩, hb⟩
/-- while nothing comes -/
def Holnil (W : World) (H : Nat) (M : Nat → Prop) (_ : Nat) (w : World) : Prop := (¬ M H ∧ w.heap[H]? = some (.cells #[.slice none 0 0] 89 (0, 0))) ∧ Below W.heap.size W w ∧ ∀ k, M k → W.heap.size ≤ k
theorem Holnil.abd {W : World} {H : Nat} : Abd (Holnil W H) := by
  rintro M M' m A B ⟨⟨h1, h1'⟩, h5, h6⟩ hs hx
  have hl := (Array.getElem?_eq_some_iff.1 h1').1
  exact ⟨⟨hx.lt hl h1, (hs.2.2 H hl h1).trans h1'⟩, h5.trans (hs.below h5.size h6), hx.ge h5.size h6⟩
set_option maxRecDepth 100000 in
set_option maxHeartbeats 1000000 in
theorem each1_nil (W : World) (l Bd : Nat) (dv : Value) (hdv : dv = .pointer none ∨ ∃ x, dv = .pointer (some ⟨x, 0, none⟩)) (hBd : W.cell? ⟨Bd, 0, none⟩ = some dv)
    (hall : ∀ (W1 : World) (Bx l : Nat), Below W.heap.size W W1 → W1.cell? ⟨Bx, 0, none⟩ = some dv → Calls Try.prog 89 (#[.func (.yield l) #[] #[]] ++ #[.pointer (some ⟨Bx, 0, none⟩)]) W1 fun e w' => (∃ v, e = .returned v) ∧ Below W1.heap.size W1 w') :
    Calls Try.prog 52 (#[.func (.yield l) #[] #[]] ++ #[.pointer (some ⟨Bd, 0, none⟩)]) W fun e w' => (∃ v, e = .returned v) ∧ Below W.heap.size W w' := by
  have hBl : Bd < W.heap.size := lt_cell hBd
  have hc1 : (W.alloc (.cells #[.slice none 0 0] 89)).cell? ⟨Bd, 0, none⟩ = some dv := (((Below.refl _ W).alloc (Nat.le_refl _) _).cell (p := ⟨Bd, 0, none⟩) hBl).trans hBd
  have HALL := keep hall
  have mA := fun w => all_any w dv hdv
  have MA := keep mA
  clear hall mA
  obtain ⟨pv, rfl⟩ : ∃ pv, dv = .pointer pv := by
    rcases hdv with rfl | ⟨x, rfl⟩
    · exact ⟨_, rfl⟩
    · exact ⟨_, rfl⟩
  refine callsIn_wide (n := 9) |>.1 (callsIn_of_wp_marks Try.func52 rfl trivial (wpIn_wide.2 ?_) rfl)
  simp only [Try.ntmps52, List.size_toArray, List.length_cons, List.length_nil, Nat.reduceAdd, Nat.reduceSub, Array.replicate_succ, Array.replicate_zero, List.push_toArray, List.append_toArray, List.nil_append, List.cons_append]
  go_wp2_with fail
  refine (MA.out _).mono ?_
  rintro _ w2 ⟨rfl, hw2⟩
  have hz2 : w2.heap.size = W.heap.size + 2 := by rw [hw2]; simp
  have hb2 : Below W.heap.size W w2 := by rw [hw2]; exact ((Below.refl _ W).alloc (Nat.le_refl _) _).alloc (by simp) _
  have h2H : w2.heap[W.heap.size]? = some (.cells #[.slice none 0 0] 89 (0, 0)) := by rw [hw2, Below.heap_alloc _ _ _ (by simp)]; exact heap_alloc_new _ _
  have h2B : w2.cell? ⟨W.heap.size + 1, 0, none⟩ = some (.pointer pv) := by
    have := heap_alloc_new (W.alloc (.cells #[.slice none 0 0] 89)) (.cells #[.pointer pv] 24)
    rw [World.size_alloc] at this
    rw [hw2, cell_of_row _ _ _ _ _ _ this]; rfl
  have HI0 : Kept (Holnil W W.heap.size (fun _ => False) 0 w2) := ⟨⟨id, h2H⟩, hb2, fun _ h => h.elim⟩
  have H2B := keep h2B
  have HB2 := keep hb2
  clear hw2 hc1 hb2 h2H h2B
  go_wp2
  refine (wpIn_wide (n := 9)).1 (range_own (α := Unit) (gf := 89) (lb := #[.pointer (some ⟨W.heap.size + 1, 0, none⟩)]) (by simp [Act.eval]) (enters_of Try.func89 (by kernel_rfl) rfl) (encs := fun _ => #[.bool true]) (L := []) (fun _ => rfl)
    (fun W1 hb => iter_none (Rd := fun _ _ => True) (fun l => HALL.out W1 (W.heap.size + 1) l (HB2.out.trans (hb.mono HB2.out.size)) ((hb.cell (p := ⟨W.heap.size + 1, 0, none⟩) (by show W.heap.size + 1 < w2.heap.size; omega)).trans H2B.out)))
    (Holnil W W.heap.size) (fun _ _ _ _ => False) Holnil.abd (fun _ _ _ _ _ _ h _ _ => h) HI0.out (fun _ _ _ _ => trivial) (fun _ _ _ _ _ _ h => by simp at h) ?done (fun _ _ _ _ _ _ h => h.elim))
  case done =>
    intro M' D W5 hI hD hDk hM'
    obtain ⟨⟨j1, j1'⟩, j5, j6⟩ := hI
    have cH : W5.cell? ⟨W.heap.size, 0, none⟩ = some (.slice none 0 0) := by rw [cell_of_row _ _ _ _ _ _ j1']; rfl
    have J5 := keep j5
    have hDW := j6 D hD
    have HDK := keep hDk
    clear j1' j5 j6 hDk hM'
    go_wp2
    go_loopw [16] (fun i wr => i = .int .i64 0 ∧ wr = W5) (fun _ _ => 0)
    case atStart => exact ⟨rfl, rfl⟩
    case round =>
      obtain ⟨rfl, rfl⟩ := hrel
      go_wp2
      refine leave_mark HDK.out ?_
      exact ⟨_, results_none rfl _ _ _, ⟨_, rfl⟩, J5.out.grown (grownBy_putObj' _ D _) J5.out.size (fun k e => by cases e; exact hDW)⟩
set_option maxHeartbeats 400000 in
theorem all_str (w : World) (b : Value) (hb : b = .pointer none ∨ ∃ x, b = .pointer (some ⟨x, 0, none⟩)) :
    Calls Try.prog 65 #[b] w fun e w' => e = .returned (.func (.func 95) #[] #[.pointer (some ⟨w.heap.size, 0, none⟩)]) ∧ w' = w.alloc (.cells #[b] 63) := by
  have hmf : ∀ (fn : Fn) (first cap : Array Value) (w : World), (Instr.makeFunc fn first cap).run Try.prog w = .ok (.func fn first cap) w := fun _ _ _ _ => rfl
  rcases hb with rfl | ⟨x, rfl⟩
  · go_enter Try.func65, Try.ntmps65
    go_wp2
    go_ret
    exact ⟨rfl, rfl⟩
  · go_enter Try.func65, Try.ntmps65
    go_wp2
    go_ret
    exact ⟨rfl, rfl⟩
set_option maxHeartbeats 400000 in
theorem each_str (w : World) (b : Value) (hb : b = .pointer none ∨ ∃ x, b = .pointer (some ⟨x, 0, none⟩)) :
    Calls Try.prog 31 #[b] w fun e w' => e = .returned (.func (.func 64) #[] #[.pointer (some ⟨w.heap.size, 0, none⟩)]) ∧ w' = w.alloc (.cells #[b] 63) := by
  have hmf : ∀ (fn : Fn) (first cap : Array Value) (w : World), (Instr.makeFunc fn first cap).run Try.prog w = .ok (.func fn first cap) w := fun _ _ _ _ => rfl
  rcases hb with rfl | ⟨x, rfl⟩
  · go_enter Try.func31, Try.ntmps31
    go_wp2
    go_ret
    exact ⟨rfl, rfl⟩
  · go_enter Try.func31, Try.ntmps31
    go_wp2
    go_ret
    exact ⟨rfl, rfl⟩
/-- while nothing comes -/
def Holstr (W : World) (H : Nat) (M : Nat → Prop) (_ : Nat) (w : World) : Prop := (¬ M H ∧ w.heap[H]? = some (.cells #[.slice none 0 0] 107 (0, 0))) ∧ Below W.heap.size W w ∧ ∀ k, M k → W.heap.size ≤ k
theorem Holstr.abd {W : World} {H : Nat} : Abd (Holstr W H) := by
  rintro M M' m A B ⟨⟨h1, h1'⟩, h5, h6⟩ hs hx
  have hl := (Array.getElem?_eq_some_iff.1 h1').1
  exact ⟨⟨hx.lt hl h1, (hs.2.2 H hl h1).trans h1'⟩, h5.trans (hs.below h5.size h6), hx.ge h5.size h6⟩
set_option maxRecDepth 100000 in
set_option maxHeartbeats 1000000 in
theorem each1_str (W : World) (l Bd : Nat) (dv : Value) (hdv : dv = .pointer none ∨ ∃ x, dv = .pointer (some ⟨x, 0, none⟩)) (hBd : W.cell? ⟨Bd, 0, none⟩ = some dv)
    (hall : ∀ (W1 : World) (Bx l : Nat), Below W.heap.size W W1 → W1.cell? ⟨Bx, 0, none⟩ = some dv → Calls Try.prog 95 (#[.func (.yield l) #[] #[]] ++ #[.pointer (some ⟨Bx, 0, none⟩)]) W1 fun e w' => (∃ v, e = .returned v) ∧ Below W1.heap.size W1 w') :
    Calls Try.prog 64 (#[.func (.yield l) #[] #[]] ++ #[.pointer (some ⟨Bd, 0, none⟩)]) W fun e w' => (∃ v, e = .returned v) ∧ Below W.heap.size W w' := by
  have hBl : Bd < W.heap.size := lt_cell hBd
  have hc1 : (W.alloc (.cells #[.slice none 0 0] 107)).cell? ⟨Bd, 0, none⟩ = some dv := (((Below.refl _ W).alloc (Nat.le_refl _) _).cell (p := ⟨Bd, 0, none⟩) hBl).trans hBd
  have HALL := keep hall
  have mA := fun w => all_str w dv hdv
  have MA := keep mA
  clear hall mA
  obtain ⟨pv, rfl⟩ : ∃ pv, dv = .pointer pv := by
    rcases hdv with rfl | ⟨x, rfl⟩
    · exact ⟨_, rfl⟩
    · exact ⟨_, rfl⟩
  refine callsIn_wide (n := 9) |>.1 (callsIn_of_wp_marks Try.func64 rfl trivial (wpIn_wide.2 ?_) rfl)
  simp only [Try.ntmps64, List.size_toArray, List.length_cons, List.length_nil, Nat.reduceAdd, Nat.reduceSub, Array.replicate_succ, Array.replicate_zero, List.push_toArray, List.append_toArray, List.nil_append, List.cons_append]
  go_wp2_with fail
  refine (MA.out _).mono ?_
  rintro _ w2 ⟨rfl, hw2⟩
  have hz2 : w2.heap.size = W.heap.size + 2 := by rw [hw2]; simp
  have hb2 : Below W.heap.size W w2 := by rw [hw2]; exact ((Below.refl _ W).alloc (Nat.le_refl _) _).alloc (by simp) _
  have h2H : w2.heap[W.heap.size]? = some (.cells #[.slice none 0 0] 107 (0, 0)) := by rw [hw2, Below.heap_alloc _ _ _ (by simp)]; exact heap_alloc_new _ _
  have h2B : w2.cell? ⟨W.heap.size + 1, 0, none⟩ = some (.pointer pv) := by
    have := heap_alloc_new (W.alloc (.cells #[.slice none 0 0] 107)) (.cells #[.pointer pv] 63)
    rw [World.size_alloc] at this
    rw [hw2, cell_of_row _ _ _ _ _ _ this]; rfl
  have HI0 : Kept (Holstr W W.heap.size (fun _ => False) 0 w2) := ⟨⟨id, h2H⟩, hb2, fun _ h => h.elim⟩
  have H2B := keep h2B
  have HB2 := keep hb2
  clear hw2 hc1 hb2 h2H h2B
  go_wp2
  refine (wpIn_wide (n := 9)).1 (range_own (α := Unit) (gf := 95) (lb := #[.pointer (some ⟨W.heap.size + 1, 0, none⟩)]) (by simp [Act.eval]) (enters_of Try.func95 (by kernel_rfl) rfl) (encs := fun _ => #[.bool true]) (L := []) (fun _ => rfl)
    (fun W1 hb => iter_none (Rd := fun _ _ => True) (fun l => HALL.out W1 (W.heap.size + 1) l (HB2.out.trans (hb.mono HB2.out.size)) ((hb.cell (p := ⟨W.heap.size + 1, 0, none⟩) (by show W.heap.size + 1 < w2.heap.size; omega)).trans H2B.out)))
    (Holstr W W.heap.size) (fun _ _ _ _ => False) Holstr.abd (fun _ _ _ _ _ _ h _ _ => h) HI0.out (fun _ _ _ _ => trivial) (fun _ _ _ _ _ _ h => by simp at h) ?done (fun _ _ _ _ _ _ h => h.elim))
  case done =>
    intro M' D W5 hI hD hDk hM'
    obtain ⟨⟨j1, j1'⟩, j5, j6⟩ := hI
    have cH : W5.cell? ⟨W.heap.size, 0, none⟩ = some (.slice none 0 0) := by rw [cell_of_row _ _ _ _ _ _ j1']; rfl
    have J5 := keep j5
    have hDW := j6 D hD
    have HDK := keep hDk
    clear j1' j5 j6 hDk hM'
    go_wp2
    go_loopw [16] (fun i wr => i = .int .i64 0 ∧ wr = W5) (fun _ _ => 0)
    case atStart => exact ⟨rfl, rfl⟩
    case round =>
      obtain ⟨rfl, rfl⟩ := hrel
      go_wp2
      refine leave_mark HDK.out ?_
      exact ⟨_, results_none rfl _ _ _, ⟨_, rfl⟩, J5.out.grown (grownBy_putObj' _ D _) J5.out.size (fun k e => by cases e; exact hDW)⟩
/-- an empty dict of texts -/
def Ds (w : World) (b seed : Nat) : Prop := w.heap[b]? = some (.cells #[.int .u64 seed, .int .i64 0, .slice none 0 0, .slice none 0 0, .int .i64 0] 106 (0, 0))
set_option maxHeartbeats 400000 in
theorem new_str (w : World) (seed : Nat) : Calls Try.prog 29 #[.int .u64 seed] w fun e w' => e = .returned (.pointer (some ⟨w.heap.size, 0, none⟩)) ∧ w' = w.alloc (.cells #[.int .u64 seed, .int .i64 0, .slice none 0 0, .slice none 0 0, .int .i64 0] 106) := by
  go_enter Try.func29, Try.ntmps29
  go_wp2
  go_ret
  exact ⟨rfl, rfl⟩
set_option maxHeartbeats 400000 in
theorem sizes_str (w : World) (b seed : Nat) (hd : Ds w b seed) : Calls Try.prog 30 #[.pointer (some ⟨b, 0, none⟩)] w fun e w' => e = .returned (.tuple #[.int .i64 0, .int .i64 0, .int .i64 0]) ∧ Below w.heap.size w w' := by
  obtain ⟨c0, c1, c2, c3, c4, cf⟩ := five hd
  clear hd
  go_enter Try.func30, Try.ntmps30
  go_wp2_with fail
  go_quiet (fail)
  go_wp2
  refine bodyPost_ret (results_tmp3 rfl _ _ _) rfl ?_
  exact ⟨rfl, below_drewN (Below.refl _ _) _⟩
set_option maxHeartbeats 400000 in
theorem bucket_str (w : World) (b seed : Nat) (hd : Ds w b seed) : Calls Try.prog 32 #[.pointer (some ⟨b, 0, none⟩), .int .i64 0, .int .i64 0] w fun e w' => e = .returned (.slice none 0 0) ∧ w' = w := by
  obtain ⟨c0, c1, c2, c3, c4, cf⟩ := five hd
  clear hd
  go_enter Try.func32, Try.ntmps32
  go_wp2
  go_ret
  exact ⟨rfl, rfl⟩
set_option maxHeartbeats 400000 in
theorem moving_str (w : World) (b : Nat) (h : w.cell? ⟨b, 3, none⟩ = some (.slice none 0 0)) :
    Calls Try.prog 70 #[.pointer (some ⟨b, 0, none⟩)] w fun e w' => e = .returned (.bool false) ∧ w' = w := by
  go_enter Try.func70, Try.ntmps70
  go_wp2
  go_ret
  exact ⟨by simp, rfl⟩
set_option maxHeartbeats 400000 in
theorem step_str (w : World) (b seed : Nat) (hd : Ds w b seed) : Calls Try.prog 67 #[.pointer (some ⟨b, 0, none⟩)] w fun e w' => e = .returned (.tuple #[]) ∧ w' = w := by
  obtain ⟨c0, c1, c2, c3, c4, cf⟩ := five hd
  have mM := moving_str w b c3
  clear hd c0 c1 c2 c3 c4 cf
  go_enter Try.func67, Try.ntmps67
  go_wp2_with fail
  refine mM.mono ?_
  rintro _ w' ⟨rfl, hw'⟩
  subst hw'
  go_wp2
  refine bodyPost_ret (results_none rfl _ _ _) rfl ?_
  exact ⟨rfl, rfl⟩
end Go.Proofs.Ytcdcdodhpnmhpaa
