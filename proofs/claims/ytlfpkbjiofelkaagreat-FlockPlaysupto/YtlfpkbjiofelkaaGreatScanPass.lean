/-
  Contracts over this program: one scan of a table from a cursor.
-/
import Derived.Test.YtlfpkbjiofelkaaGreatScanBucket
import Derived.Test.YtlfpkbjiofelkaaGreatScanRef
import Derived.Deep.Cut
import Derived.Laws.Rows
import Derived.WalkSmall
namespace Go.Proofs.YtlfpkbjiofelkaaGreat
open Go.RowKit Go.Shelf
attribute [local go_sem] Oper.semAt_some
abbrev Sd : Type := Dc.St ByteArray Unit
/-- the number of the smaller table, and the greater one's -/
def smN (s : Sd) : Nat := if 0 < s.young.length ∧ s.young.length < s.old.length then 1 else 0
def tbl (s : Sd) (t : Nat) : Dc.Tab ByteArray Unit := if t = 0 then s.old else s.young
def tbV (s : Sd) (t : Nat) : Value := .agg #[.int .i64 (t : Int), .int .i64 ((tbl s t).length : Int)]
/-- two new blocks of two cells each -/
def Two (w W : World) (a b c d : Value) : Prop := W.heap[w.heap.size]? = some (.cells #[a, b] 146 (0, 0)) ∧ W.heap[w.heap.size + 1]? = some (.cells #[c, d] 146 (0, 0)) ∧ Below w.heap.size w W
theorem pair_new (w : World) (a b c d : Value) : Two w ((w.alloc (.cells #[a, b] 146)).alloc (.cells #[c, d] 146)) a b c d := by
  refine ⟨?_, ?_, ((Below.refl _ w).alloc (Nat.le_refl _) _).alloc (by simp) _⟩
  · rw [Below.heap_alloc _ _ _ (by simp)]; exact heap_alloc_new _ _
  · have h := heap_alloc_new (w.alloc (.cells #[a, b] 146)) (.cells #[c, d] 146)
    rw [World.size_alloc] at h
    exact h
theorem Two.drewN {w W : World} {a b c d : Value} (h : Two w W a b c d) (q : Nat) : Two w (W.drewN q) a b c d := ⟨h.1, h.2.1, below_drewN h.2.2 q⟩
theorem Two.drew {w W : World} {a b c d : Value} (h : Two w W a b c d) : Two w W.drew a b c d := ⟨h.1, h.2.1, h.2.2.drew⟩
theorem Two.s0 {w W : World} {a b c d : Value} (h : Two w W a b c d) (x : Value) : Two w (W.setCell ⟨w.heap.size, 0, none⟩ x) x b c d :=
  ⟨cells_setCell h.1, (Below.heap_setCell _ _ _ _ (by simp)).trans h.2.1, h.2.2.setCell (Nat.le_refl _) _⟩
theorem Two.s1 {w W : World} {a b c d : Value} (h : Two w W a b c d) (x : Value) : Two w (W.setCell ⟨w.heap.size, 1, none⟩ x) a x c d :=
  ⟨cells_setCell h.1, (Below.heap_setCell _ _ _ _ (by simp)).trans h.2.1, h.2.2.setCell (Nat.le_refl _) _⟩
theorem Two.s2 {w W : World} {a b c d : Value} (h : Two w W a b c d) (x : Value) : Two w (W.setCell ⟨w.heap.size + 1, 0, none⟩ x) a b x d :=
  ⟨(Below.heap_setCell _ _ _ _ (by simp)).trans h.1, cells_setCell h.2.1, h.2.2.setCell (Nat.le_succ _) _⟩
theorem Two.s3 {w W : World} {a b c d : Value} (h : Two w W a b c d) (x : Value) : Two w (W.setCell ⟨w.heap.size + 1, 1, none⟩ x) a b c x :=
  ⟨(Below.heap_setCell _ _ _ _ (by simp)).trans h.1, cells_setCell h.2.1, h.2.2.setCell (Nat.le_succ _) _⟩
theorem Two.cells {w W : World} {a b c d : Value} (h : Two w W a b c d) : W.cell? ⟨w.heap.size, 0, none⟩ = some a ∧ W.cell? ⟨w.heap.size, 1, none⟩ = some b ∧ W.cell? ⟨w.heap.size + 1, 0, none⟩ = some c ∧ W.cell? ⟨w.heap.size + 1, 1, none⟩ = some d := by
  refine ⟨?_, ?_, ?_, ?_⟩ <;> first | (rw [cell_of_row _ _ _ _ _ _ h.1]; rfl) | (rw [cell_of_row _ _ _ _ _ _ h.2.1]; rfl)
theorem Two.free {w W : World} {a b c d : Value} (h : Two w W a b c d) : W.frozen? ⟨w.heap.size, 0, none⟩ = false ∧ W.frozen? ⟨w.heap.size, 1, none⟩ = false ∧ W.frozen? ⟨w.heap.size + 1, 0, none⟩ = false ∧ W.frozen? ⟨w.heap.size + 1, 1, none⟩ = false := by
  refine ⟨?_, ?_, ?_, ?_⟩ <;> first | (unfold World.frozen?; rw [h.1]; simp; done) | (unfold World.frozen?; rw [h.2.1]; simp; done)
theorem results_rrt {P : Program} {fn : Func} {p p2 u : Tmp} {ty : TypeId} (h : fn.results = #[.cell p ty, .cell p2 ty, .tmp u]) (tmps : Array Value) (w : World) (g g2 : Nat) (t : TypeId) (cs cs2 : Array Value) (fr : Nat × Nat) (d : TypeDesc)
    (hp : tmps.getD p undef = .pointer (some ⟨g, 0, none⟩)) (hg : w.heap[g]? = some (.cells cs t fr)) (hp2 : tmps.getD p2 undef = .pointer (some ⟨g2, 0, none⟩)) (hg2 : w.heap[g2]? = some (.cells cs2 t fr))
    (hu : P.underlying ty = some d) (hd : (match d with | .struct _ | .array _ _ => true | _ => false) = true) (hi : (P.info? ty).map (·.size) = some cs.size) (hi2 : (P.info? ty).map (·.size) = some cs2.size) :
    (results fn tmps).run P w = .ok (.tuple #[.agg cs, .agg cs2, tmps.getD u undef]) w := by
  have hp' : tmps[p]?.getD undef = .pointer (some ⟨g, 0, none⟩) := by simpa using hp
  have hp2' : tmps[p2]?.getD undef = .pointer (some ⟨g2, 0, none⟩) := by simpa using hp2
  simp [results, h, hp', hp2', asAddr, run_loadVar_row w g t ty cs fr d hg hu hd hi, run_loadVar_row w g2 t ty cs2 fr d hg2 hu hd hi2]
set_option maxRecDepth 100000 in
set_option maxHeartbeats 1000000 in
theorem tables_any (w : World) (r : Roles) (b seed n : Nat) (s : Sd) (hD : Dct w r b seed n s) :
    Calls Tryz.prog 107 #[.pointer (some ⟨b, 0, none⟩)] w fun x w' => x = .returned (.tuple #[tbV s (smN s), tbV s (1 - smN s), .bool (decide (0 < s.young.length))]) ∧ Below w.heap.size w w' := by
  have KS := keep fun W (h : Below w.heap.size w W) => sizes_any W r b seed n s (hD.below h)
  clear hD
  by_cases q0 : 0 < s.young.length
  · have q0' : (0 : Int) < (s.young.length : Int) := by omega
    rw [decide_eq_true q0]
    by_cases q1 : s.young.length < s.old.length
    · have e : smN s = 1 := by unfold smN; rw [if_pos ⟨q0, q1⟩]
      rw [e]
      have q1' : (s.young.length : Int) < (s.old.length : Int) := by omega
      go_enter Tryz.func107, Tryz.ntmps107
      go_wp2_with fail
      refine (KS.out _ (((Below.refl w.heap.size w).alloc (Nat.le_refl _) _).alloc (by simp) _)).mono ?_
      rintro _ w' ⟨rfl, q, hw'⟩
      subst hw'
      clear KS
      go_wp2_with fail
      generalize hW : World.setCell _ _ _ = Wz
      have hT : Two w Wz (.int .i64 1) (.int .i64 (s.young.length : Int)) (.int .i64 0) (.int .i64 (s.old.length : Int)) := by
        rw [← hW]; exact ((((((((pair_new w _ _ _ _).drewN q).s0 _).s1 _).s2 _).s3 _).s0 _).s1 _).s2 _ |>.s3 _
      clear hW
      obtain ⟨c0, c1, c2, c3⟩ := hT.cells
      obtain ⟨f0, f1, f2, f3⟩ := hT.free
      have HT := keep ((((hT.s0 (.int .i64 1)).s1 (.int .i64 (s.young.length : Int))).s2 (.int .i64 0)).s3 (.int .i64 (s.old.length : Int))).drew
      clear hT
      go_region
      go_wp2
      refine bodyPost_ret (results_rrt rfl _ _ _ _ _ _ _ _ _ rfl HT.out.1 rfl HT.out.2.1 Tryz.underlying146 rfl (by kernel_rfl) (by kernel_rfl)) rfl ?_
      exact ⟨rfl, HT.out.2.2⟩
    · have e : smN s = 0 := by unfold smN; rw [if_neg (fun h => q1 h.2)]
      rw [e]
      have q1' : ¬ (s.young.length : Int) < (s.old.length : Int) := by omega
      go_enter Tryz.func107, Tryz.ntmps107
      go_wp2_with fail
      refine (KS.out _ (((Below.refl w.heap.size w).alloc (Nat.le_refl _) _).alloc (by simp) _)).mono ?_
      rintro _ w' ⟨rfl, q, hw'⟩
      subst hw'
      clear KS
      go_wp2_with fail
      generalize hW : World.setCell _ _ _ = Wz
      have hT : Two w Wz (.int .i64 0) (.int .i64 (s.old.length : Int)) (.int .i64 1) (.int .i64 (s.young.length : Int)) := by
        rw [← hW]; exact ((((pair_new w _ _ _ _).drewN q).s0 _).s1 _).s2 _ |>.s3 _
      clear hW
      obtain ⟨c0, c1, c2, c3⟩ := hT.cells
      obtain ⟨f0, f1, f2, f3⟩ := hT.free
      have HT := keep ((((hT.s0 (.int .i64 0)).s1 (.int .i64 (s.old.length : Int))).s2 (.int .i64 1)).s3 (.int .i64 (s.young.length : Int))).drew
      clear hT
      go_region
      go_wp2
      refine bodyPost_ret (results_rrt rfl _ _ _ _ _ _ _ _ _ rfl HT.out.1 rfl HT.out.2.1 Tryz.underlying146 rfl (by kernel_rfl) (by kernel_rfl)) rfl ?_
      exact ⟨rfl, HT.out.2.2⟩
  · have q0' : ¬ (0 : Int) < (s.young.length : Int) := by omega
    rw [decide_eq_false q0]
    have e : smN s = 0 := by unfold smN; rw [if_neg (fun h => q0 h.1)]
    rw [e]
    go_enter Tryz.func107, Tryz.ntmps107
    go_wp2_with fail
    refine (KS.out _ (((Below.refl w.heap.size w).alloc (Nat.le_refl _) _).alloc (by simp) _)).mono ?_
    rintro _ w' ⟨rfl, q, hw'⟩
    subst hw'
    clear KS
    go_wp2_with fail
    generalize hW : World.setCell _ _ _ = Wz
    have hT : Two w Wz (.int .i64 0) (.int .i64 (s.old.length : Int)) (.int .i64 1) (.int .i64 (s.young.length : Int)) := by
      rw [← hW]; exact ((((pair_new w _ _ _ _).drewN q).s0 _).s1 _).s2 _ |>.s3 _
    clear hW
    obtain ⟨c0, c1, c2, c3⟩ := hT.cells
    obtain ⟨f0, f1, f2, f3⟩ := hT.free
    have HT := keep ((((hT.s0 (.int .i64 0)).s1 (.int .i64 (s.old.length : Int))).s2 (.int .i64 1)).s3 (.int .i64 (s.young.length : Int))).drew
    clear hT
    go_region
    go_wp2
    refine bodyPost_ret (results_rrt rfl _ _ _ _ _ _ _ _ _ rfl HT.out.1 rfl HT.out.2.1 Tryz.underlying146 rfl (by kernel_rfl) (by kernel_rfl)) rfl ?_
    exact ⟨rfl, HT.out.2.2⟩
theorem Ks.more {B B' : Nat} {w : World} {v : Value} {xs : List ByteArray} (h : Ks B w v xs) (hB : B' ≤ B) : Ks B' w v xs := by
  unfold Ks at h ⊢
  obtain ⟨h1, h2⟩ := h
  refine ⟨h1, ?_⟩
  rcases h2 with h2 | ⟨g, cap, cur, e, hg, h3⟩
  · exact .inl h2
  · exact .inr ⟨g, cap, cur, e, Nat.le_trans hB hg, h3⟩
/-- what the contracts ask of a dict's sizes -/
def Few (s : Sd) : Prop := s.old.length ≤ 5400000000000 ∧ s.young.length ≤ 5400000000000 ∧ ∀ (t i : Nat) (c : List Ent), (tbl s t)[i]? = some c → c.length ≤ 2600000000000
theorem bucket_any (w : World) (r : Roles) (b seed n : Nat) (s : Sd) (hD : Dct w r b seed n s) (hF : Few s) (t : Nat) (ht : t < 2) (i : Nat) (c : List Ent) (hc : (tbl s t)[i]? = some c) :
    Calls Tryz.prog 122 #[.pointer (some ⟨b, 0, none⟩), .int .i64 t, .int .i64 i] w fun x w' => (∃ v, x = .returned v ∧ There v ∧ Ks w.heap.size w' v (c.map (·.1))) ∧ Below w.heap.size w w' := by
  have hl := hF.2.2 t i c hc
  have h2 : t = 0 ∨ t = 1 := by omega
  rcases h2 with rfl | rfl
  · exact bucket0_any w r b seed n s hD hF.1 i c hc hl
  · exact bucket1_any w r b seed n s hD hF.2.1 i c hc hl
set_option maxRecDepth 100000 in
set_option maxHeartbeats 1000000 in
theorem skeys_any (w : World) (r : Roles) (b seed n : Nat) (s : Sd) (hD : Dct w r b seed n s) (hF : Few s) (t : Nat) (ht : t < 2) (c : Nat) (hc0 : c < 2 ^ 64) (ch : List Ent) (hc : (tbl s t)[c % (tbl s t).length]? = some ch) :
    Calls Tryz.prog 108 #[.pointer (some ⟨b, 0, none⟩), tbV s t, .int .u64 c] w fun x w' => (∃ v, x = .returned v ∧ There v ∧ Ks w.heap.size w' v (ch.map (·.1))) ∧ Below w.heap.size w w' := by
  have hL : (tbl s t).length ≤ 5400000000000 := by unfold tbl; split; exact hF.1; exact hF.2.1
  have hil := (List.getElem?_eq_some_iff.1 hc).1
  have KB := keep fun W (h : Below w.heap.size w W) => bucket_any W r b seed n s (hD.below h) hF t ht _ ch hc
  clear hD hF hc
  unfold tbV
  generalize (tbl s t).length = L at *
  have hL0 : ¬ (L : Int) = 0 := by omega
  have hLn : ¬ L = 0 := by omega
  have hm : (c : Int).tmod (L : Int) = ((c % L : Nat) : Int) := by rw [Int.tmod_eq_emod_of_nonneg (by omega)]; simp
  have hm2 : (c : Int) % (L : Int) = ((c % L : Nat) : Int) := by simp
  have hlt : c % L < L := hil
  generalize c % L = i at *
  have hw1 : IntKind.u64.wrap (L : Int) = (L : Int) := by rw [IntKind.wrap_u64]; omega
  have hw2 : IntKind.i64.wrap (i : Int) = (i : Int) := by rw [IntKind.wrap_i64]; omega
  have KM := keep hm
  have KM2 := keep hm2
  clear hm hm2
  go_enter Tryz.func108, Tryz.ntmps108
  go_wp2_with fail
  have hb0 : Below w.heap.size w ((w.alloc (.cells #[.int .i64 (t : Int), .int .i64 (L : Int)] 146)).drew) := ((Below.refl w.heap.size w).alloc (Nat.le_refl _) _).drew
  have hc1 : ((w.alloc (.cells #[.int .i64 (t : Int), .int .i64 (L : Int)] 146)).drew).cell? ⟨w.heap.size, 0, none⟩ = some (.int .i64 (t : Int)) := by simp
  have hc2 : ((w.alloc (.cells #[.int .i64 (t : Int), .int .i64 (L : Int)] 146)).drew).cell? ⟨w.heap.size, 1, none⟩ = some (.int .i64 (L : Int)) := by simp
  refine wp_region_held_drew (S := fun W => W.cell? ⟨w.heap.size, 0, none⟩ = some (.int .i64 (t : Int)) ∧ W.cell? ⟨w.heap.size, 1, none⟩ = some (.int .i64 (L : Int))) (by kernel_rfl) ⟨hc1, hc2⟩ (fun hHeld => ?_)
  refine wpAnyH_take (i := 0) (oi := { dst := some 7, op := _, type := _, pos := _, after := _, guard := _ }) (v := ?v1) rfl (by kernel_rfl) (by kernel_rfl) (by kernel_rfl) (fun _ _ _ h => h) (Or.inl ⟨by rfl, ?hy1⟩) (by assumption) ?rest1
  case hy1 => (intro w hSw; obtain ⟨q1,q2⟩ := hSw; go_simp; try with_reducible rfl)
  try simp only [Act.put, List.setIfInBounds_toArray, List.set_cons_zero, List.set_cons_succ]
  refine wpAnyH_take (i := 1) (oi := { dst := some 8, op := _, type := _, pos := _, after := _, guard := _ }) (v := ?v2) rfl (by kernel_rfl) (by kernel_rfl) (by kernel_rfl) (fun _ _ _ h => h) (Or.inl ⟨by rfl, ?hy2⟩) (by assumption) ?rest2
  case hy2 => (intro w hSw; obtain ⟨q1,q2⟩ := hSw; go_simp; try with_reducible rfl)
  try simp only [Act.put, List.setIfInBounds_toArray, List.set_cons_zero, List.set_cons_succ]
  refine wpAnyH_take (i := 2) (oi := { dst := some 9, op := _, type := _, pos := _, after := _, guard := _ }) (v := ?v3) rfl (by kernel_rfl) (by kernel_rfl) (by kernel_rfl) (fun _ _ _ h => h) (Or.inl ⟨by rfl, ?hy3⟩) (by assumption) ?rest3
  case hy3 => (intro w hSw; obtain ⟨q1,q2⟩ := hSw; go_simp; try with_reducible rfl)
  try simp only [Act.put, List.setIfInBounds_toArray, List.set_cons_zero, List.set_cons_succ]
  refine wpAnyH_take (i := 3) (oi := { dst := some 10, op := _, type := _, pos := _, after := _, guard := _ }) (v := ?v4) rfl (by kernel_rfl) (by kernel_rfl) (by kernel_rfl) (fun _ _ _ h => h) (Or.inl ⟨by rfl, ?hy4⟩) (by assumption) ?rest4
  case hy4 => (intro w hSw; obtain ⟨q1,q2⟩ := hSw; go_simp; try with_reducible rfl)
  try simp only [Act.put, List.setIfInBounds_toArray, List.set_cons_zero, List.set_cons_succ]
  refine wpAnyH_take (i := 4) (oi := { dst := some 11, op := _, type := _, pos := _, after := _, guard := _ }) (v := ?v5) rfl (by kernel_rfl) (by kernel_rfl) (by kernel_rfl) (fun _ _ _ h => h) (Or.inl ⟨by rfl, ?hy5⟩) (by assumption) ?rest5
  case hy5 => (intro w hSw; obtain ⟨q1,q2⟩ := hSw; go_simp; try with_reducible rfl)
  try simp only [Act.put, List.setIfInBounds_toArray, List.set_cons_zero, List.set_cons_succ]
  refine wpAnyH_take (i := 5) (oi := { dst := some 12, op := _, type := _, pos := _, after := _, guard := _ }) (v := ?v6) rfl (by kernel_rfl) (by kernel_rfl) (by kernel_rfl) (fun _ _ _ h => h) (Or.inl ⟨by rfl, ?hy6⟩) (by assumption) ?rest6
  case hy6 => (intro w hSw; obtain ⟨q1,q2⟩ := hSw; go_simp; try with_reducible rfl)
  try simp only [Act.put, List.setIfInBounds_toArray, List.set_cons_zero, List.set_cons_succ]
  refine wpAnyH_take (i := 6) (oi := { dst := some 13, op := _, type := _, pos := _, after := _, guard := _ }) (v := ?v7) rfl (by kernel_rfl) (by kernel_rfl) (by kernel_rfl) (fun _ _ _ h => h) (Or.inl ⟨by rfl, ?hy7⟩) (by assumption) ?rest7
  case hy7 => (intro w hSw; obtain ⟨q1,q2⟩ := hSw; go_simp; try with_reducible rfl)
  try simp only [Act.put, List.setIfInBounds_toArray, List.set_cons_zero, List.set_cons_succ]
  have hm := KM.out
  have hm2 := KM2.out
  refine wpAnyH_take (i := 7) (oi := { dst := some 14, op := _, type := _, pos := _, after := _, guard := _ }) (v := (.int .u64 (i : Int))) rfl (by kernel_rfl) (by kernel_rfl) (by kernel_rfl) (fun _ _ _ h => h) (Or.inl ⟨by rfl, ?hy8⟩) (by assumption) ?rest8
  case hy8 => (intro w hSw; obtain ⟨q1,q2⟩ := hSw; first | (go_simp; done) | (go_simp; simp [*]; done) | (simp [*]; go_simp; done))
  try simp only [Act.put, List.setIfInBounds_toArray, List.set_cons_zero, List.set_cons_succ]
  clear hm hm2
  refine wpAnyH_take (i := 8) (oi := { dst := some 15, op := _, type := _, pos := _, after := _, guard := _ }) (v := (.int .i64 (i : Int))) rfl (by kernel_rfl) (by kernel_rfl) (by kernel_rfl) (fun _ _ _ h => h) (Or.inl ⟨by rfl, ?hy9⟩) (by assumption) ?rest9
  case hy9 => (intro w hSw; obtain ⟨q1,q2⟩ := hSw; first | (go_simp; done) | (go_simp; simp [*]; done) | (simp [*]; go_simp; done))
  try simp only [Act.put, List.setIfInBounds_toArray, List.set_cons_zero, List.set_cons_succ]
  refine wpAnyH_ready (rs := [9]) (by kernel_rfl) (by simp) ?_
  refine AllReadyH.cons (o := { dst := some 16, op := _, type := _, pos := _, after := _, guard := _ }) rfl (fun K hK => ?_) AllReadyH.nil
  go_simp
  refine (KB.out _ hb0).mono ?_
  rintro _ w' ⟨⟨v, rfl, hth, hv⟩, hb⟩
  have HTH := keep hth
  have hb1 := hb0.trans (hb.mono hb0.size)
  have HV := keep hv
  have HB1 := keep hb1
  refine hK.out _ _ ⟨(hb.cell (p := ⟨w.heap.size, 0, none⟩) (by simp)).trans hc1, (hb.cell (p := ⟨w.heap.size, 1, none⟩) (by simp)).trans hc2⟩ (fun hHeld => ?_)
  try simp only [Act.put, List.setIfInBounds_toArray, List.set_cons_zero, List.set_cons_succ]
  clear hK KB hb0 hc1 hc2 hv hb hb1 hth
  refine wpAnyH_take (i := 10) (oi := { dst := some 6, op := _, type := _, pos := _, after := _, guard := _ }) (v := ?v10) rfl (by kernel_rfl) (by kernel_rfl) (by kernel_rfl) (fun _ _ _ h => h) (Or.inl ⟨by rfl, ?hy10⟩) (by assumption) ?rest10
  case hy10 => (intro w hSw; go_simp; try with_reducible rfl)
  try simp only [Act.put, List.setIfInBounds_toArray, List.set_cons_zero, List.set_cons_succ]
  refine wpAnyH_done (by kernel_rfl) ?_ _
  clear hHeld
  go_wp2
  go_ret
  exact ⟨⟨v, rfl, HTH.out, HV.out.more (by simp)⟩, HB1.out⟩
end Go.Proofs.YtlfpkbjiofelkaaGreat
