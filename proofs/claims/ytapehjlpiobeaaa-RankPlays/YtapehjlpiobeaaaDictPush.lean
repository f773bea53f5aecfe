/-
  Contracts over this program: an entry goes to the head of its bucket's chain.
-/
import Derived.Test.YtapehjlpiobeaaaDictFind
import Derived.RangeFuncNested
namespace Go.Proofs.Ytapehjlpiobeaaa
open Go.RowKit Go.Shelf
theorem info_ent : (Try.prog.info? 91).map (fun i => (i.zero, i.size, i.bytes)) = some (some (.agg #[.string .empty, .float .f64 0]), 2, 24) := by kernel_rfl
/-- the blocks of one table alone have turned, and new ones have come -/
def Tr (t : Nat) (w : World) (r : Roles) (w' : World) (r' : Roles) : Prop :=
  (w'.os = w.os ∧ w'.tape = w.tape ∧ w'.output = w.output) ∧ w.heap.size ≤ w'.heap.size ∧ (∀ k, k < w.heap.size → (r k).1 ≠ 1 + t → (r k).1 ≠ 3 + t → w'.heap[k]? = w.heap[k]? ∧ r' k = r k) ∧ (∀ k, r' k ≠ (0, 0) → r k ≠ (0, 0) ∨ (w.heap.size ≤ k ∧ k < w'.heap.size)) ∧ ∀ (k : Nat) (o : Obj), w.heap[k]? = some o → o.isCells = false → w'.heap[k]? = some o
def hs (seed : Nat) (k : ByteArray) : Nat := Dw.hsh seed k.data.toList
/-- h is what draw.Hash tells at a seed -/
def HashIs (seed : Nat) (h : ByteArray → Nat) : Prop := ∀ k : ByteArray, k.size ≤ maxLen → h k < Dw.M ∧ ∀ w, Calls Try.prog 68 #[.int .u64 seed, .string k] w fun e w' => e = .returned (.int .u64 (h k : Nat)) ∧ w' = w
theorem hs_is (seed : Nat) (hsd : seed < Dw.M) : HashIs seed (hs seed) := by
  intro k hk
  unfold hs
  exact ⟨Dw.hsh_lt _ _, fun w => hash_any seed k w hk hsd⟩
/-- the new chain is written -/
theorem push_put {w w3 : World} {r : Roles} {t g cap gg cap' : Nat} {T : Dc.Tab ByteArray Nat} {i : Nat} {c : List Ent} {v : Value} {e : Ent} (hT : Tb w r t (.slice (some ⟨g, 0, none⟩) T.length cap) T) (hi : T[i]? = some c) (hcv : Chn w v c) (hv : ∀ k, v.ownBlock = some k → r k = (3 + t, i)) (hs : w.heap.size + 2 ≤ w3.heap.size) (ho : w3.os = w.os ∧ w3.tape = w.tape ∧ w3.output = w.output) (hk : ∀ k, k < w.heap.size → some k ≠ v.ownBlock → w3.heap[k]? = w.heap[k]?)
    (hown : w3.ownsRow 0 91 2 (.slice (some ⟨gg, 0, none⟩) (c.length + 1) cap') (c.length + 1) (enC c ++ enE e)) (hat : v.ownBlock = some gg ∨ gg = w.heap.size + 2) (hlt : gg < w3.heap.size) :
    Tb (w3.setCell ⟨g, i, none⟩ (.slice (some ⟨gg, 0, none⟩) (c.length + 1) cap')) (role r (.slice (some ⟨gg, 0, none⟩) (c.length + 1) cap') (3 + t, i)) t (.slice (some ⟨g, 0, none⟩) T.length cap) (T.set i (e :: c)) ∧
      Tr t w r (w3.setCell ⟨g, i, none⟩ (.slice (some ⟨gg, 0, none⟩) (c.length + 1) cap')) (role r (.slice (some ⟨gg, 0, none⟩) (c.length + 1) cap') (3 + t, i)) := by
  obtain ⟨vs, q1, q2, q3⟩ := id hT
  have hrg := q2 g rfl
  have hgl := own_lt q1 (k := g) rfl
  have hgv : some g ≠ v.ownBlock := fun h => by have := hv g h.symm; rw [hrg] at this; simp at this
  refine ⟨hT.put hi (hk g hgl hgv) (fun k j hl hrk hj => hk k hl (fun h => ?_)) (by unfold Chn; rw [enC_cons]; exact hown) (fun k h => ?_), ⟨ho, by simp [World.setCell]; omega, fun k hl h1 h3 => ?_, fun k h => ?_, fun k o h1 h2 => ?_⟩⟩
  · have := hv k h.symm
    rw [hrk] at this
    simp at this
    exact hj this
  · obtain rfl : gg = k := by cases h; rfl
    rcases hat with h | h
    · exact .inl (hv gg h)
    · exact .inr (by omega)
  · have hkg : k ≠ g := fun h => h1 (by rw [h, hrg])
    have hkv : some k ≠ v.ownBlock := fun h => h3 (by rw [hv k h.symm])
    refine ⟨by rw [Below.heap_setCell _ _ _ _ hkg]; exact hk k hl hkv, ?_⟩
    unfold role
    rw [if_neg]
    intro h
    obtain rfl : gg = k := by cases h; rfl
    rcases hat with h | h
    · exact hkv h.symm
    · omega
  · unfold role at h
    split at h
    · rename_i hh
      obtain rfl : gg = k := by cases hh; rfl
      rcases hat with h' | h'
      · exact .inl (by rw [hv gg h']; simp)
      · exact .inr ⟨by omega, by simpa [World.setCell] using hlt⟩
    · exact .inl h
  · have hkl : k < w.heap.size := (Array.getElem?_eq_some_iff.1 h1).1
    have hkg : k ≠ g := fun e => by
      rcases q1.2 with ⟨e', _⟩ | ⟨g', cap', cur, e', _, hh, _⟩
      · cases e'
      · cases e'
        rw [e, hh] at h1
        cases h1
        cases h2
    have hkv : some k ≠ v.ownBlock := fun e => by
      rcases hcv.2 with ⟨rfl, _⟩ | ⟨g', cap', cur, rfl, _, hh, _⟩
      · cases e
      · cases e
        rw [hh] at h1
        cases h1
        cases h2
    rw [Below.heap_setCell _ _ _ _ hkg, hk k hkl hkv]
    exact h1
theorem push_is {h : ByteArray → Nat} {T : Dc.Tab ByteArray Nat} {e : Ent} {c : List Ent} (hc : T[h e.1 % T.length]? = some c) : Dc.push h T e = T.set (h e.1 % T.length) (e :: c) := by
  unfold Dc.push
  rw [List.modify_eq_set, hc]
  rfl
theorem two_new (w : World) (o1 o2 : Obj) : ((w.alloc o1).alloc o2).drew.heap[w.heap.size + 1]? = some o2 := by
  have := heap_alloc_new (w.alloc o1) o2
  rw [World.size_alloc] at this
  exact this
theorem two_cell {w : World} {a : Addr} {v : Value} (h : w.cell? a = some v) (o1 o2 : Obj) : ((w.alloc o1).alloc o2).drew.cell? a = some v := by
  have hl := World.block_lt_of_cell? w _ h
  rw [← h]
  refine World.cell?_of_block ?_
  show ((w.alloc o1).alloc o2).heap[a.block]? = w.heap[a.block]?
  rw [Below.heap_alloc _ _ _ (by simp; omega), Below.heap_alloc _ _ _ hl]
theorem two_frozen {w : World} {a : Addr} {v : Value} (h : w.cell? a = some v) (hf : w.frozen? a = false) (o1 o2 : Obj) : ((w.alloc o1).alloc o2).drew.frozen? a = false := by
  have hl := World.block_lt_of_cell? w _ h
  rw [← hf]
  refine World.frozen?_of_block ?_
  show ((w.alloc o1).alloc o2).heap[a.block]? = w.heap[a.block]?
  rw [Below.heap_alloc _ _ _ (by simp; omega), Below.heap_alloc _ _ _ hl]
theorem two_size {w w3 : World} {o1 o2 : Obj} {row : Option Nat} (h : ((w.alloc o1).alloc o2).drew.grownBy w3 row) : w.heap.size + 2 ≤ w3.heap.size := by
  have := h.size
  have e : ((w.alloc o1).alloc o2).drew.heap.size = w.heap.size + 2 := by show ((w.alloc o1).alloc o2).heap.size = _; simp
  omega
theorem two_block {w w3 : World} {o1 o2 : Obj} {row : Option Nat} (h : ((w.alloc o1).alloc o2).drew.grownBy w3 row) (k : Nat) (hk : k < w.heap.size) (hne : some k ≠ row) : w3.heap[k]? = w.heap[k]? := by
  have e : ((w.alloc o1).alloc o2).drew.heap.size = w.heap.size + 2 := by show ((w.alloc o1).alloc o2).heap.size = _; simp
  rw [h.block k (by omega) hne]
  show ((w.alloc o1).alloc o2).heap[k]? = _
  rw [Below.heap_alloc _ _ _ (by simp; omega), Below.heap_alloc _ _ _ hk]
theorem one_cell {w : World} {a : Addr} {v : Value} (h : w.cell? a = some v) (o1 : Obj) : (w.alloc o1).drew.cell? a = some v := by
  have hl := World.block_lt_of_cell? w _ h
  rw [← h]
  refine World.cell?_of_block ?_
  show (w.alloc o1).heap[a.block]? = w.heap[a.block]?
  rw [Below.heap_alloc _ _ _ hl]
/-- the entry's own box -/
def heldB (B : Nat) (e1 : ByteArray) (e2 : Nat) (w : World) : Prop := w.cell? ⟨B, 0, none⟩ = some (.string e1) ∧ w.cell? ⟨B, 1, none⟩ = some (.float .f64 e2)
theorem heldB_new (w : World) (e1 : ByteArray) (e2 : Nat) : heldB w.heap.size e1 e2 (w.alloc (.cells #[.string e1, .float .f64 e2] 91)).drew := by
  have h : (w.alloc (.cells #[.string e1, .float .f64 e2] 91)).drew.heap[w.heap.size]? = _ := heap_alloc_new w (.cells #[.string e1, .float .f64 e2] 91)
  exact ⟨by rw [cell_of_row _ _ _ _ _ _ h]; rfl, by rw [cell_of_row _ _ _ _ _ _ h]; rfl⟩
theorem heldB_kept {B : Nat} {e1 : ByteArray} {e2 : Nat} {w w' : World} (h : heldB B e1 e2 w) (hk : w'.heap[B]? = w.heap[B]?) : heldB B e1 e2 w' :=
  ⟨(World.cell?_of_block (w := w) (a := ⟨B, 0, none⟩) hk).trans h.1, (World.cell?_of_block (w := w) (a := ⟨B, 1, none⟩) hk).trans h.2⟩
theorem heldB_alloc {B : Nat} {e1 : ByteArray} {e2 : Nat} {w : World} (h : heldB B e1 e2 w) (o : Obj) : heldB B e1 e2 (w.alloc o) :=
  heldB_kept h (Below.heap_alloc _ _ _ (World.block_lt_of_cell? w _ h.1))
theorem heldB_set {B g i : Nat} {e1 : ByteArray} {e2 : Nat} {w : World} (h : heldB B e1 e2 w) (hne : ¬ g = B) (u : Value) : heldB B e1 e2 (w.setCell ⟨g, i, none⟩ u) :=
  heldB_kept h (Below.heap_setCell _ _ _ _ (fun e => hne e.symm))
theorem heldB_far {B : Nat} {e1 : ByteArray} {e2 : Nat} {w w' : World} {row : Option Nat} (h : heldB B e1 e2 w) (hg : w.grownBy w' row) (_ : True) (hne : row ≠ some B) : heldB B e1 e2 w' :=
  heldB_kept h (hg.block B (World.block_lt_of_cell? w _ h.1) (Ne.symm hne))
set_option maxRecDepth 100000 in
set_option maxHeartbeats 2000000 in
theorem push_any {h : ByteArray → Nat} {seed : Nat} (hH : HashIs seed h) (w : World) (r : Roles) (t g cap : Nat) (T : Dc.Tab ByteArray Nat) (e : Ent) (hT : Tb w r t (.slice (some ⟨g, 0, none⟩) T.length cap) T) (hn : 0 < T.length) (hm : T.length ≤ maxLen) (hk : e.1.size ≤ maxLen)
    (hr : ∀ k, r k ≠ (0, 0) → k < w.heap.size) (hlen : ∀ c ∈ T, c.length ≤ 2600000000000) :
    Calls Try.prog 49 #[.slice (some ⟨g, 0, none⟩) T.length cap, .int .u64 seed, .agg #[.string e.1, .float .f64 e.2]] w fun x w' => x = .returned (.tuple #[]) ∧ ∃ r', Tb w' r' t (.slice (some ⟨g, 0, none⟩) T.length cap) (Dc.push h T e) ∧ Tr t w r w' r' := by
  have hlt : h e.1 % T.length < T.length := Nat.mod_lt _ hn
  obtain ⟨c, hc⟩ : ∃ c, T[h e.1 % T.length]? = some c := ⟨_, List.getElem?_eq_getElem hlt⟩
  rw [push_is hc]
  obtain ⟨v, hv1, hv2, hv3⟩ := hT.at hc
  obtain ⟨vs, q1, q2, q3⟩ := id hT
  have hrg := q2 g rfl
  have hgl := own_lt q1 (k := g) rfl
  clear q1 q2 q3
  have hgv : v.ownBlock ≠ some g := fun h => by have := hv3 g h; rw [hrg] at this; simp at this
  have hcl := hlen c (List.mem_of_getElem? hc)
  have mH := (hH e.1 hk).2 (w.alloc (.cells #[.string e.1, .float .f64 e.2] 91))
  have mO := of_any (w.alloc (.cells #[.string e.1, .float .f64 e.2] 91)) (some ⟨g, 0, none⟩) T.length cap (h e.1) hn hm (hH e.1 hk).1
  have hfr := hT.free (h e.1 % T.length)
  have HPUT := keep (fun (w3 : World) (gg cap' : Nat) => push_put (w3 := w3) (gg := gg) (cap' := cap') (v := v) (e := e) hT hc hv2 hv3)
  obtain ⟨i0, hi0, hz0, hz1, hz2⟩ := info_parts info_ent
  have hvh : v.ownBlock ≠ some w.heap.size := fun h => by have := hr w.heap.size (by rw [hv3 _ h]; simp); omega
  have HV2 := keep hv2
  clear hT hlen hr hv3 hrg hc hk hm hv2 hH
  generalize h e.1 = x at *
  generalize hx : x % T.length = i at *
  clear hx
  have hi0' : (0 : Int) ≤ (i : Int) := Int.natCast_nonneg _
  have hi1 : (i : Int) < (T.length : Int) := by omega
  generalize T.length = n at *
  obtain ⟨e1, e2⟩ := e
  dsimp only at *
  have hne : ¬ g = w.heap.size := by omega
  go_enter Try.func49, Try.ntmps49
  go_wp2_with fail
  refine mH.mono ?_
  rintro _ w' ⟨rfl, hw'⟩
  subst hw'
  go_wp2_with fail
  refine mO.mono ?_
  rintro _ w' ⟨rfl, hw'⟩
  subst hw'
  clear mH mO hn hlt
  go_wp2_with fail
  refine wp_region_held_drew (S := heldB w.heap.size e1 e2) (by kernel_rfl) (heldB_new w e1 e2) (fun hHeld => ?_)
  refine wpAnyH_take (i := 0) (oi := { dst := some 13, op := _, type := _, pos := _, after := _, guard := _ }) (v := ?v1) rfl (by kernel_rfl) (by kernel_rfl) (by kernel_rfl) (fun _ _ _ h => h) (Or.inl ⟨by rfl, ?hy1⟩) (by assumption) ?rest1
  case hy1 => (intro w hSw; go_simp; try with_reducible rfl)
  try simp only [Act.put, List.setIfInBounds_toArray, List.set_cons_zero, List.set_cons_succ]
  refine wpAnyH_take (i := 1) (oi := { dst := some 14, op := _, type := _, pos := _, after := _, guard := _ }) (v := ?v2) rfl (by kernel_rfl) (by kernel_rfl) (by kernel_rfl) (fun _ _ _ h => h) (Or.inl ⟨by rfl, ?hy2⟩) (by assumption) ?rest2
  case hy2 => (intro w hSw; go_simp; try with_reducible rfl)
  try simp only [Act.put, List.setIfInBounds_toArray, List.set_cons_zero, List.set_cons_succ]
  refine wpAnyH_take (i := 2) (oi := { dst := some 15, op := _, type := _, pos := _, after := _, guard := _ }) (v := ?v3) rfl (by kernel_rfl) (by kernel_rfl) (by kernel_rfl) (fun _ _ _ h => h) (Or.inl ⟨by rfl, ?hy3⟩) (by assumption) ?rest3
  case hy3 => (intro w hSw; go_simp; try with_reducible rfl)
  try simp only [Act.put, List.setIfInBounds_toArray, List.set_cons_zero, List.set_cons_succ]
  refine wpAnyH_take (i := 3) (oi := { dst := some 16, op := _, type := _, pos := _, after := _, guard := _ }) (v := ?v4) rfl (by kernel_rfl) (by kernel_rfl) (by kernel_rfl) (fun _ _ _ h => h) (Or.inl ⟨by rfl, ?hy4⟩) (by assumption) ?rest4
  case hy4 => (intro w hSw; go_simp; try with_reducible rfl)
  try simp only [Act.put, List.setIfInBounds_toArray, List.set_cons_zero, List.set_cons_succ]
  refine wpAnyH_take (i := 4) (oi := { dst := some 17, op := _, type := _, pos := _, after := _, guard := _ }) (v := ?v5) rfl (by kernel_rfl) (by kernel_rfl) (by kernel_rfl) (fun _ _ _ h => h) (Or.inl ⟨by rfl, ?hy5⟩) (by assumption) ?rest5
  case hy5 => (intro w hSw; go_simp; try with_reducible rfl)
  try simp only [Act.put, List.setIfInBounds_toArray, List.set_cons_zero, List.set_cons_succ]
  refine wpAnyH_take (i := 6) (oi := { dst := some 19, op := _, type := _, pos := _, after := _, guard := _ }) (v := ?v6) rfl (by kernel_rfl) (by kernel_rfl) (by kernel_rfl) (fun _ _ _ h => h) (Or.inl ⟨by rfl, ?hy6⟩) (by assumption) ?rest6
  case hy6 => (intro w hSw; obtain ⟨q0, q1⟩ := hSw; go_simp; try with_reducible rfl)
  try simp only [Act.put, List.setIfInBounds_toArray, List.set_cons_zero, List.set_cons_succ]
  refine wpAnyH_ready (rs := [5, 7]) (by kernel_rfl) (by simp) ?_
  refine AllReadyH.cons (o := { dst := some 18, op := _, type := _, pos := _, after := _, guard := _ }) rfl (fun K hK => ?_) (AllReadyH.cons (o := { dst := some 20, op := _, type := _, pos := _, after := _, guard := _ }) rfl (fun K hK => ?_) AllReadyH.nil)
  · have hg1 := one_cell hv1 (.cells #[.string e1, .float .f64 e2] 91)
    go_simp
    refine hK.out _ _ hHeld (fun hHeld => ?_)
    try simp only [Act.put, List.setIfInBounds_toArray, List.set_cons_zero, List.set_cons_succ]
    refine wpAnyH_ready (rs := [7]) (by kernel_rfl) (by simp) ?_
    refine AllReadyH.cons (o := { dst := some 20, op := _, type := _, pos := _, after := _, guard := _ }) rfl (fun K hK => ?_) AllReadyH.nil
    go_simp
    refine hK.out _ _ (heldB_alloc hHeld _) (fun hHeld => ?_)
    try simp only [Act.put, List.setIfInBounds_toArray, List.set_cons_zero, List.set_cons_succ]
    refine wpAnyH_ready (rs := [8]) (by kernel_rfl) (by simp) ?_
    refine AllReadyH.cons (o := { dst := some 21, op := _, type := _, pos := _, after := _, guard := _ }) rfl (fun K hK => ?_) AllReadyH.nil
    refine step_append_lies _ (by rfl) _ _ _ (by rfl) 0 91 i0 _ 2 24 Try.underlying93 hi0 hz0 hz1 hz2 rfl (by omega) v c.length (enC c) (by rfl) (((HV2.out).alloc _).alloc _).drew
        ⟨w.heap.size + 1, 0, none⟩ 1 1 [.string e1, .float .f64 e2] (by rfl) (by rfl) (World.news_of_block (cs := #[.string e1, .float .f64 e2]) (t := 91) (fr := (0, 0)) (two_new w _ _)) (by simp [Value.oneCell'])
        (by omega) (by unfold maxLen; omega) (by omega) (by simp) (w.heap.size + 2) (by simp) ?_
    intro gg cap' w3 hown hgrow hat hlt3
    have hc3 : w3.cell? ⟨g, i, none⟩ = some v := (by rw [hgrow.cell_far _ (by simp; omega) (Ne.symm hgv)]; exact two_cell hv1 _ _)
    have hf3 : w3.frozen? ⟨g, i, none⟩ = false := (by rw [hgrow.frozen_far _ (by simp; omega) (Ne.symm hgv)]; exact two_frozen hv1 hfr _ _)
    refine hK.out _ _ (heldB_far hHeld hgrow (by simp) hvh) (fun hHeld => ?_)
    try simp only [Act.put, List.setIfInBounds_toArray, List.set_cons_zero, List.set_cons_succ]
    refine wpAnyH_take (i := 9) (oi := { dst := some 22, op := _, type := _, pos := _, after := _, guard := _ }) (v := ?v7) rfl (by kernel_rfl) (by kernel_rfl) (by kernel_rfl) (fun _ _ _ h => h) (Or.inl ⟨by rfl, ?hy7⟩) (by assumption) ?rest7
    case hy7 => (intro w hSw; go_simp; try with_reducible rfl)
    try simp only [Act.put, List.setIfInBounds_toArray, List.set_cons_zero, List.set_cons_succ]
    refine wpAnyH_ready (rs := [10]) (by kernel_rfl) (by simp) ?_
    refine AllReadyH.cons (o := { dst := none, op := _, type := _, pos := _, after := _, guard := _ }) rfl (fun K hK => ?_) AllReadyH.nil
    go_simp
    refine hK.out _ _ (heldB_set hHeld hne _) (fun hHeld => ?_)
    refine wpAnyH_done (by kernel_rfl) ?_ _
    go_wp2
    go_end0
    exact ⟨rfl, _, HPUT.out w3 gg cap' (two_size hgrow) ⟨hgrow.os, hgrow.tape, hgrow.output⟩ (two_block hgrow) hown hat hlt3⟩
  · go_simp
    refine hK.out _ _ (heldB_alloc hHeld _) (fun hHeld => ?_)
    try simp only [Act.put, List.setIfInBounds_toArray, List.set_cons_zero, List.set_cons_succ]
    refine wpAnyH_ready (rs := [5]) (by kernel_rfl) (by simp) ?_
    refine AllReadyH.cons (o := { dst := some 18, op := _, type := _, pos := _, after := _, guard := _ }) rfl (fun K hK => ?_) AllReadyH.nil
    have hg1 := two_cell hv1 (.cells #[.string e1, .float .f64 e2] 91) (.cells #[.string e1, .float .f64 e2] 91)
    go_simp
    refine hK.out _ _ hHeld (fun hHeld => ?_)
    try simp only [Act.put, List.setIfInBounds_toArray, List.set_cons_zero, List.set_cons_succ]
    refine wpAnyH_ready (rs := [8]) (by kernel_rfl) (by simp) ?_
    refine AllReadyH.cons (o := { dst := some 21, op := _, type := _, pos := _, after := _, guard := _ }) rfl (fun K hK => ?_) AllReadyH.nil
    refine step_append_lies _ (by rfl) _ _ _ (by rfl) 0 91 i0 _ 2 24 Try.underlying93 hi0 hz0 hz1 hz2 rfl (by omega) v c.length (enC c) (by rfl) (((HV2.out).alloc _).alloc _).drew
        ⟨w.heap.size + 1, 0, none⟩ 1 1 [.string e1, .float .f64 e2] (by rfl) (by rfl) (World.news_of_block (cs := #[.string e1, .float .f64 e2]) (t := 91) (fr := (0, 0)) (two_new w _ _)) (by simp [Value.oneCell'])
        (by omega) (by unfold maxLen; omega) (by omega) (by simp) (w.heap.size + 2) (by simp) ?_
    intro gg cap' w3 hown hgrow hat hlt3
    have hc3 : w3.cell? ⟨g, i, none⟩ = some v := (by rw [hgrow.cell_far _ (by simp; omega) (Ne.symm hgv)]; exact two_cell hv1 _ _)
    have hf3 : w3.frozen? ⟨g, i, none⟩ = false := (by rw [hgrow.frozen_far _ (by simp; omega) (Ne.symm hgv)]; exact two_frozen hv1 hfr _ _)
    refine hK.out _ _ (heldB_far hHeld hgrow (by simp) hvh) (fun hHeld => ?_)
    try simp only [Act.put, List.setIfInBounds_toArray, List.set_cons_zero, List.set_cons_succ]
    refine wpAnyH_take (i := 9) (oi := { dst := some 22, op := _, type := _, pos := _, after := _, guard := _ }) (v := ?v8) rfl (by kernel_rfl) (by kernel_rfl) (by kernel_rfl) (fun _ _ _ h => h) (Or.inl ⟨by rfl, ?hy8⟩) (by assumption) ?rest8
    case hy8 => (intro w hSw; go_simp; try with_reducible rfl)
    try simp only [Act.put, List.setIfInBounds_toArray, List.set_cons_zero, List.set_cons_succ]
    refine wpAnyH_ready (rs := [10]) (by kernel_rfl) (by simp) ?_
    refine AllReadyH.cons (o := { dst := none, op := _, type := _, pos := _, after := _, guard := _ }) rfl (fun K hK => ?_) AllReadyH.nil
    go_simp
    refine hK.out _ _ (heldB_set hHeld hne _) (fun hHeld => ?_)
    refine wpAnyH_done (by kernel_rfl) ?_ _
    go_wp2
    go_end0
    exact ⟨rfl, _, HPUT.out w3 gg cap' (two_size hgrow) ⟨hgrow.os, hgrow.tape, hgrow.output⟩ (two_block hgrow) hown hat hlt3⟩
end Go.Proofs.Ytapehjlpiobeaaa
