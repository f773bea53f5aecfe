/-
  Contracts over this program: Each tells each entry of the list once, and nothing else (once).
-/
import Derived.Test.YtcdcdodhpnmhpaaDictEach
import Derived.Test.YtcdcdodhpnmhpaaDictBoth
import Derived.Laws.MakeOwn
namespace Go.Proofs.Ytcdcdodhpnmhpaa
open Go.RowKit Go.Shelf
attribute [local go_sem] Oper.semAt_some
theorem results_cell1 {P : Program} {fn : Func} {p : Tmp} {ty : TypeId} (h : fn.results = #[.cell p ty]) (tmps : Array Value) (w : World) (a : Addr) (v : Value) (hp : tmps.getD p undef = .pointer (some a)) (hl : (loadVar ty a).run P w = .ok v w) : (results fn tmps).run P w = .ok v w := by
  have hp' : tmps[p]?.getD undef = .pointer (some a) := by simpa using hp
  simp [results, h, hp', asAddr, hl]
/-- how often an entry comes up -/
def cntE (e : Ent) (l : List Ent) : Nat := (l.filter (fun x => decide (x = e))).length
theorem cntE_snoc (e x : Ent) (l : List Ent) : cntE e (l ++ [x]) = cntE e l + (if x = e then 1 else 0) := by
  unfold cntE
  rw [List.filter_append, List.length_append]
  by_cases h : x = e <;> simp [h]
theorem cntE_none {e : Ent} : ∀ {l : List Ent}, e ∉ l → cntE e l = 0 := by
  intro l
  induction l with
  | nil => intro _; rfl
  | cons x l ih =>
    intro h
    rw [List.mem_cons, not_or] at h
    have := ih h.2
    unfold cntE at this ⊢
    rw [List.filter_cons_of_neg (by simpa using fun e' => h.1 e'.symm)]
    exact this
theorem cntE_one {e : Ent} : ∀ {l : List Ent}, l.Nodup → e ∈ l → cntE e l = 1 := by
  intro l
  induction l with
  | nil => intro _ h; cases h
  | cons x l ih =>
    intro hn h
    rw [List.nodup_cons] at hn
    by_cases he : x = e
    · subst he
      have := cntE_none hn.1
      unfold cntE at this ⊢
      rw [List.filter_cons_of_pos (by simp), List.length_cons, this]
    · have h' : e ∈ l := by
        rcases List.mem_cons.1 h with h | h
        · exact absurd h.symm he
        · exact h
      have := ih hn.2 h'
      unfold cntE at this ⊢
      rw [List.filter_cons_of_neg (by simpa using he)]
      exact this
theorem cntE_le (e : Ent) (l : List Ent) : cntE e l ≤ l.length := List.length_filter_le _ _
theorem cntE_take {e x : Ent} {l : List Ent} {k : Nat} (h : l[k]? = some x) : cntE e (l.take (k + 1)) = cntE e (l.take k) + (if x = e then 1 else 0) := by
  obtain ⟨hk, e'⟩ := List.getElem?_eq_some_iff.1 h
  rw [List.take_succ_eq_append_getElem hk, cntE_snoc, e']
theorem nodup_of_keys {l : List Ent} (h : (Dc.keys l).Nodup) : l.Nodup := by
  unfold Dc.keys at h
  induction l with
  | nil => exact List.nodup_nil
  | cons x l ih =>
    rw [List.map_cons, List.nodup_cons] at h
    exact List.nodup_cons.2 ⟨fun hm => h.1 (List.mem_map_of_mem hm), ih h.2⟩
/-- each entry of the list comes up once among all -/
theorem once_each {h : ByteArray → Nat} {N : Nat} {s : Dc.St ByteArray Int} {l : List Ent} (hO : Okd h N s) (hL : Lst s l) : ∀ e ∈ l, cntE e (Dc.all s) = 1 := by
  intro e he
  have hn : (Dc.keys (Dc.all s)).Nodup := by rw [Dc.all_eq hO.1]; exact hO.1.nodup
  have h1 := (Dc.look_mem hL.1 e.1 e.2).2 he
  rw [hL.2.1] at h1
  exact cntE_one (nodup_of_keys hn) ((Dc.look_mem hn e.1 e.2).1 h1)
theorem info_entry5 : (Try.prog.info? 51).map (fun i => (i.zero, i.size, i.bytes)) = some (some (.agg #[.string .empty, .int .i64 0]), 2, 24) := by kernel_rfl
theorem make_ents (w : World) (n : Nat) (hn : n ≤ 2600000000000) :
    ∃ w', (Instr.makeSlice 40 (.int .i64 0) (.int .i64 (n : Int))).run Try.prog w = .ok (.slice (some ⟨w.heap.size, 0, none⟩) 0 n) w' ∧ w'.ownsRow w.heap.size 51 2 (.slice (some ⟨w.heap.size, 0, none⟩) 0 n) 0 [] ∧ w.grownBy w' none ∧ w.heap.size < w'.heap.size := by
  obtain ⟨i0, hi0, hz0, hz1, hz2⟩ := info_parts info_entry5
  obtain ⟨w', h1, h2, h3⟩ := run_make_own (P := Try.prog) w w.heap.size 40 51 i0 _ 2 Try.underlying40 hi0 hz0 hz1 .i64 .i64 n (by rw [hz2]; omega) (by unfold maxLen; omega) (Nat.le_refl _)
  exact ⟨w', h1, h2, h3, own_lt h2 rfl⟩
/-- while the entries come: Lb, Rc the boxes of the list and of the answer, Sg, Sb the slice of those that came and its box -/
def OnI (W : World) (Lb Rc Sg Sb L : Nat) (lv : Value) (es : List Ent) (M : Nat → Prop) (m : Nat) (w : World) : Prop :=
  (¬ M Sb ∧ w.heap[Sb]? = some (.cells #[.slice (some ⟨Sg, 0, none⟩) m L] 40 (0, 0))) ∧ (¬ M Sg ∧ w.ownsRow W.heap.size 51 2 (.slice (some ⟨Sg, 0, none⟩) m L) m (enL (es.take m))) ∧
    (¬ M Lb ∧ w.heap[Lb]? = some (.cells #[lv] 40 (0, 0))) ∧ (¬ M Rc ∧ w.heap[Rc]? = some (.cells #[.bool false] 4 (0, 0))) ∧ Below W.heap.size W w ∧ ∀ k, M k → W.heap.size ≤ k
theorem OnI.abd {W : World} {Lb Rc Sg Sb L : Nat} {lv : Value} {es : List Ent} : Abd (OnI W Lb Rc Sg Sb L lv es) := by
  rintro M M' m A B ⟨⟨h1, h1'⟩, ⟨h2, h2'⟩, ⟨h3, h3'⟩, ⟨h4, h4'⟩, h5, h6⟩ hs hx
  have keepB : ∀ k o, ¬ M k → A.heap[k]? = some o → ¬ M' k ∧ B.heap[k]? = some o := fun k o hn ho => by
    have hl := (Array.getElem?_eq_some_iff.1 ho).1
    exact ⟨hx.lt hl hn, (hs.2.2 k hl hn).trans ho⟩
  have hSl := own_lt h2' (k := Sg) rfl
  exact ⟨keepB _ _ h1 h1', ⟨hx.lt hSl h2, own_kept h2' (fun k hk => by cases hk; exact hs.2.2 _ hSl h2)⟩, keepB _ _ h3 h3', keepB _ _ h4 h4', h5.trans (hs.below h5.size h6), hx.ge h5.size h6⟩
set_option maxRecDepth 100000 in
set_option maxHeartbeats 2000000 in
theorem once_any {h : ByteArray → Nat} {seed N : Nat} (W : World) (r : Roles) (b : Nat) (s : Dc.St ByteArray Int) (lv : Value) (l : List Ent) (hd : Dd h N W r b seed s) (hN : N ≤ 2600000000000) (hL : Lst s l) (hY : Lie W lv l) :
    Calls Try.prog 19 #[.pointer (some ⟨b, 0, none⟩), lv] W fun e w' => e = .returned (.bool true) ∧ Below W.heap.size W w' := by
  obtain ⟨ao, cap, rfl, _, _, hao⟩ := hY.form
  have h1x := once_each hd.2 hL
  obtain ⟨es, hes⟩ : ∃ es, Dc.all s = es := ⟨_, rfl⟩
  have hll : es.length = l.length := by rw [← hes]; exact hL.2.2.symm
  obtain ⟨L, hLn⟩ : ∃ L, l.length = L := ⟨_, rfl⟩
  have hLN : L ≤ 2600000000000 := by rw [← hLn, hL.2.2]; unfold ln; have := hd.2.2.2.1; omega
  have hp : s.pos ≤ s.old.length := by
    by_cases hy : s.young = []
    · rw [hd.2.1.rest hy]; omega
    · have := hd.2.1.move hy; omega
  have hm0 : s.old.length ≤ 5400000000000 := by have := hd.2.2.2.2.1; omega
  have hm1 : s.young.length ≤ 5400000000000 := by have := hd.2.2.2.2.2; omega
  rw [hLn] at hll ⊢
  rw [hes] at h1x
  have bb : ∀ w' : World, Below W.heap.size W w' → w'.heap.size = w'.heap.size := fun _ _ => rfl
  obtain ⟨w1, hw1⟩ : ∃ w1, (W.alloc (.cells #[.slice ao L cap] 40)).alloc (.cells #[.bool false] 4) = w1 := ⟨_, rfl⟩
  have hz1 : w1.heap.size = W.heap.size + 2 := by rw [← hw1]; simp
  have hb1 : Below W.heap.size W w1 := by rw [← hw1]; exact ((Below.refl _ W).alloc (Nat.le_refl _) _).alloc (by simp) _
  have h1L : w1.heap[W.heap.size]? = some (.cells #[.slice ao L cap] 40 (0, 0)) := by rw [← hw1, Below.heap_alloc _ _ _ (by simp)]; exact heap_alloc_new _ _
  have h1R : w1.heap[W.heap.size + 1]? = some (.cells #[.bool false] 4 (0, 0)) := by
    rw [← hw1]
    have := heap_alloc_new (W.alloc (.cells #[.slice ao L cap] 40)) (.cells #[.bool false] 4)
    rwa [World.size_alloc] at this
  obtain ⟨w2, mk, hS2, hg2, hlt2⟩ := make_ents w1 L hLN
  rw [hz1] at hS2
  have c1L : w1.cell? ⟨W.heap.size, 0, none⟩ = some (.slice ao L cap) := by rw [cell_of_row _ _ _ _ _ _ h1L]; rfl
  have HD := keep hd
  have HY := keep hY
  have HL := keep hLn
  have HES := keep hes
  have HLL := keep hll
  have H1X := keep h1x
  clear hd hY hLn hes hll h1x hL bb
  refine callsIn_wide (n := 9) |>.1 (callsIn_of_wp_marks Try.func19 rfl trivial (wpIn_wide.2 ?_) rfl)
  simp only [Try.ntmps19, List.size_toArray, List.length_cons, List.length_nil, Nat.reduceAdd, Nat.reduceSub, Array.replicate_succ, Array.replicate_zero, List.push_toArray, List.append_toArray, List.nil_append, List.cons_append]
  go_wp2_with fail
  refine (each_any _ _ (.inr ⟨b, rfl⟩)).mono ?_
  rintro _ w4 ⟨rfl, hw4⟩
  have hb2 : Below w1.heap.size w1 w2 := (Below.refl _ w1).grown hg2 (Nat.le_refl _) (fun k h => by cases h)
  have hz4 : w4.heap.size = w2.heap.size + 2 := by rw [hw4]; simp
  have hb24 : Below w2.heap.size w2 w4 := by rw [hw4]; exact ((Below.refl _ w2).alloc (Nat.le_refl _) _).alloc (by simp) _
  have h4S : w4.heap[w2.heap.size]? = some (.cells #[.slice (some ⟨W.heap.size + 2, 0, none⟩) 0 L] 40 (0, 0)) := by rw [hw4, Below.heap_alloc _ _ _ (by simp)]; exact heap_alloc_new _ _
  have h4B : w4.heap[w2.heap.size + 1]? = some (.cells #[.pointer (some ⟨b, 0, none⟩)] 24 (0, 0)) := by
    rw [hw4]
    have := heap_alloc_new (w2.alloc (.cells #[.slice (some ⟨W.heap.size + 2, 0, none⟩) 0 L] 40)) (.cells #[.pointer (some ⟨b, 0, none⟩)] 24)
    rwa [World.size_alloc] at this
  have hb4 : Below W.heap.size W w4 := (hb1.trans (hb2.mono hb1.size)).trans (hb24.mono (by omega))
  have h4L : w4.heap[W.heap.size]? = some (.cells #[.slice ao L cap] 40 (0, 0)) := by rw [hb24.block _ (by omega), hb2.block _ (by omega)]; exact h1L
  have h4R : w4.heap[W.heap.size + 1]? = some (.cells #[.bool false] 4 (0, 0)) := by rw [hb24.block _ (by omega), hb2.block _ (by omega)]; exact h1R
  have c4B : w4.cell? ⟨w2.heap.size + 1, 0, none⟩ = some (.pointer (some ⟨b, 0, none⟩)) := by rw [cell_of_row _ _ _ _ _ _ h4B]; rfl
  have hI0 : OnI W W.heap.size (W.heap.size + 1) (W.heap.size + 2) w2.heap.size L (.slice ao L cap) es (fun _ => False) 0 w4 := by
    obtain ⟨p1, p2⟩ := hS2
    refine ⟨⟨id, h4S⟩, ⟨id, own_kept (w := w2) ⟨p1, ?_⟩ (fun k hk => by cases hk; exact hb24.block (W.heap.size + 2) (by omega))⟩, ⟨id, h4L⟩, ⟨id, h4R⟩, hb4, fun _ h => h.elim⟩
    rcases p2 with ⟨h', _⟩ | ⟨g', cap', cur, h', hbse, rest⟩
    · cases h'
    · cases h'
      exact .inr ⟨_, _, cur, rfl, by omega, rest⟩
  have HI0 := keep hI0
  have HB4 := keep hb4
  have C4B := keep c4B
  rw [World.size_alloc]
  clear hw4 hb2 hb24 h4S h4B hb4 h4L h4R c4B hI0 mk hS2 hg2 h1L h1R c1L hw1 hb1
  go_wp2
  obtain ⟨i0, hi0, hze, hzs, hzb⟩ := info_parts info_entry5
  refine (wpIn_wide (n := 9)).1 (range_own (α := Ent) (gf := 52) (lb := #[.pointer (some ⟨w2.heap.size + 1, 0, none⟩)]) (by simp [Act.eval]) (enters_of Try.func52 (by kernel_rfl) rfl) (encs := eachV) (L := es) (fun _ => rfl)
    (fun W1 hb => by
      have := each_iter (w2.heap.size + 1) b seed _ r s W1 (HD.out.1.below (HB4.out.trans (hb.mono HB4.out.size))) ((hb.cell (p := ⟨w2.heap.size + 1, 0, none⟩) (by show w2.heap.size + 1 < w4.heap.size; omega)).trans C4B.out) hp hm0 hm1 (by rw [HES.out, HLL.out]; exact hLN)
      rwa [HES.out] at this)
    (OnI W W.heap.size (W.heap.size + 1) (W.heap.size + 2) w2.heap.size L (.slice ao L cap) es) (fun _ _ _ _ => False) OnI.abd (fun _ _ _ _ _ _ h _ _ => h) HI0.out (fun _ _ _ _ => trivial) ?round ?done ?stop)
  case stop => exact fun _ _ _ _ _ _ h => h.elim
  case round =>
    intro M' l' m x W1 hI hx hl hrec hM'
    obtain ⟨r0, hr0'⟩ := hrec
    obtain ⟨e1, e2⟩ := x
    have HI := keep hI
    have HX := keep hx
    have HM' := keep hM'
    clear hI hx hM' HI0 hr0'
    unfold eachV
    gi_wp2
    refine ⟨Mk.refl _ _, fun rl => ?_⟩
    obtain ⟨W2, hW2⟩ : ∃ W2, W1.putObj l' (.loop rl) = W2 := ⟨_, rfl⟩
    rw [hW2]
    have hz2' : W2.heap.size = W1.heap.size := by rw [← hW2]; simp
    have hI2 : OnI W W.heap.size (W.heap.size + 1) (W.heap.size + 2) w2.heap.size L (.slice ao L cap) es M' m W2 := OnI.abd _ _ _ _ _ HI.out (by rw [← hW2]; exact Sep.put _ _ hl) (Ext.refl _ _ _)
    obtain ⟨⟨j1, j1'⟩, ⟨j2, j2'⟩, ⟨j3, j3'⟩, ⟨j4, j4'⟩, j5, j6⟩ := hI2
    have hml : m < L := by rw [← HLL.out]; exact (List.getElem?_eq_some_iff.1 HX.out).1
    have cS : W2.cell? ⟨w2.heap.size, 0, none⟩ = some (.slice (some ⟨W.heap.size + 2, 0, none⟩) m L) := by rw [cell_of_row _ _ _ _ _ _ j1']; rfl
    have hSl := own_lt j2' (k := W.heap.size + 2) rfl
    have hBl2 : w2.heap.size < W2.heap.size := (Array.getElem?_eq_some_iff.1 j1').1
    obtain ⟨W3, hrun, hown, hgr⟩ := run_append_fits (P := Try.prog) (W2.alloc (.cells #[.string e1, .int .i64 e2] 51)) W.heap.size 40 40 51 i0 2 Try.underlying40 hi0 hzs (W.heap.size + 2) m L (enL (es.take m)) (j2'.alloc _) ⟨W2.heap.size, 0, none⟩ 1 1 [.string e1, .int .i64 e2] rfl (World.news_of_block (cs := #[.string e1, .int .i64 e2]) (t := 51) (fr := (0, 0)) (heap_alloc_new W2 _)) (by simp [Value.oneCell']) (by omega)
    have MA := keep hrun
    have hs3 : W2.heap.size + 1 ≤ W3.heap.size := by have := hgr.size; simpa using this
    have same : ∀ k, k < W2.heap.size → k ≠ W.heap.size + 2 → W3.heap[k]? = W2.heap[k]? := fun k hk hn => by
      rw [hgr.block k (by simp; omega) (fun e => hn (Option.some.inj e)), Below.heap_alloc _ _ _ hk]
    have hLl : W.heap.size + 1 < W2.heap.size := (Array.getElem?_eq_some_iff.1 j4').1
    have h3S := (same w2.heap.size hBl2 (by omega)).trans j1'
    have c3S : W3.cell? ⟨w2.heap.size, 0, none⟩ = some (.slice (some ⟨W.heap.size + 2, 0, none⟩) m L) := by rw [cell_of_row _ _ _ _ _ _ h3S]; rfl
    have f3S : W3.frozen? ⟨w2.heap.size, 0, none⟩ = false := by simp [World.frozen?, h3S]
    have sameS : ∀ k, k ≠ w2.heap.size → (W3.setCell ⟨w2.heap.size, 0, none⟩ (.slice (some ⟨W.heap.size + 2, 0, none⟩) (m + 1) L)).heap[k]? = W3.heap[k]? := fun k hk => Below.heap_setCell _ _ _ _ hk
    have c4L : (W3.setCell ⟨w2.heap.size, 0, none⟩ (.slice (some ⟨W.heap.size + 2, 0, none⟩) (m + 1) L)).cell? ⟨W.heap.size, 0, none⟩ = some (.slice ao L cap) := by
      rw [cell_of_row _ _ _ _ _ _ (((sameS _ (by omega)).trans (same W.heap.size (by omega) (by omega))).trans j3')]; rfl
    have fin : Kept (rdPost (OnI W W.heap.size (W.heap.size + 1) (W.heap.size + 2) w2.heap.size L (.slice ao L cap) es) (fun _ _ _ _ => False) M' (m + 1) W2 .normal { tmps := #[], defers := [] } (W3.setCell ⟨w2.heap.size, 0, none⟩ (.slice (some ⟨W.heap.size + 2, 0, none⟩) (m + 1) L))) := by
      have hss : (W3.setCell ⟨w2.heap.size, 0, none⟩ (.slice (some ⟨W.heap.size + 2, 0, none⟩) (m + 1) L)).heap.size = W3.heap.size := by simp [World.setCell]
      refine ⟨⟨by rw [hss]; omega, fun k hk => ?_⟩, ⟨j1, cells_setCell h3S⟩, ⟨j2, ?_⟩, ⟨j3, ?_⟩, ⟨j4, ?_⟩, ?_, j6⟩
      · have hkb := HM'.out k hk
        rw [sameS k (fun e => j1 (e ▸ hk)), same k (by omega) (fun e => j2 (e ▸ hk))]
      · have e : enL (es.take (m + 1)) = enL (es.take m) ++ [.string e1, .int .i64 e2] := by
          obtain ⟨hml', this⟩ := List.getElem?_eq_some_iff.1 HX.out
          rw [List.take_succ_eq_append_getElem hml', this]
          unfold enL
          rw [List.flatMap_append]
          rfl
        rw [e]
        exact own_kept hown (fun k hk => by cases hk; exact sameS (W.heap.size + 2) (by omega))
      · rw [sameS _ (by omega), same _ (by omega) (by omega)]; exact j3'
      · rw [sameS _ (by omega), same _ (by omega) (by omega)]; exact j4'
      · refine j5.trans ⟨hgr.os, hgr.tape, hgr.output, by rw [hss]; omega, fun k hk => ?_⟩
        rw [sameS k (by omega), same k (by omega) (by omega)]
    have hgt : decide ((L : Int) < (m : Int) + 1) = false := decide_eq_false (by omega)
    clear hrun hown hgr same h3S sameS j1 j1' j2 j2' j3 j3' j4 j4' j5 j6 hW2 hz2' hz4 hz1 hs3
    gi_wp2_with (first | (show wpListIn _ _ _ _ _ ({ dst := some 25, op := Op.call { callee := Callee.builtin Builtin.append, args := _, argTypes := _ }, type := _, pos := _, after := _, guard := _ } :: _) _ _; refine wpListIn_app_run rfl (.tmp 20) (.tmp 24) 40 rfl _ _ _ rfl rfl MA.out ?_))
    exact fin.out
  case done =>
    intro M' D W5 hI hD hDk hM'
    obtain ⟨⟨j1, j1'⟩, ⟨j2, j2'⟩, ⟨j3, j3'⟩, ⟨j4, j4'⟩, j5, j6⟩ := hI
    rw [HLL.out] at j1' j2'
    rw [List.take_of_length_le (by rw [HLL.out]; exact Nat.le_refl _)] at j2'
    have hsW : W.heap.size + 1 < W5.heap.size := (Array.getElem?_eq_some_iff.1 j4').1
    have hsS : w2.heap.size < W5.heap.size := (Array.getElem?_eq_some_iff.1 j1').1
    have hsG : W.heap.size + 2 < W5.heap.size := own_lt j2' (k := W.heap.size + 2) rfl
    have hDW : W.heap.size ≤ D := j6 D hD
    have hsD : D < W5.heap.size := (Array.getElem?_eq_some_iff.1 hDk).1
    have c5L : W5.cell? ⟨W.heap.size, 0, none⟩ = some (.slice ao L cap) := by rw [cell_of_row _ _ _ _ _ _ j3']; rfl
    have LIN : Kept (∀ w', Below W5.heap.size W5 w' → w'.cell? ⟨W.heap.size, 0, none⟩ = some (.slice ao L cap) ∧ w'.cell? ⟨w2.heap.size, 0, none⟩ = some (.slice (some ⟨W.heap.size + 2, 0, none⟩) L L) ∧ w'.heap[W.heap.size + 1]? = some (.cells #[.bool false] 4 (0, 0)) ∧ w'.heap[D]? = some (.deferred (some [])) ∧ Below W.heap.size W w' ∧
        (∀ k e, l[k]? = some e → ∃ g, ao = some ⟨g, 0, none⟩ ∧ w'.cell? ⟨g, k * 2, none⟩ = some (.string e.1) ∧ w'.cell? ⟨g, k * 2 + 1, none⟩ = some (.int .i64 e.2)) ∧ (∀ k e, es[k]? = some e → w'.cell? ⟨W.heap.size + 2, k * 2, none⟩ = some (.string e.1) ∧ w'.cell? ⟨W.heap.size + 2, k * 2 + 1, none⟩ = some (.int .i64 e.2))) := fun w' hb => by
      have hbW : Below W.heap.size W w' := j5.trans (hb.mono j5.size)
      refine ⟨(hb.cell (p := ⟨W.heap.size, 0, none⟩) (by show W.heap.size < W5.heap.size; omega)).trans c5L, ?_, (hb.block _ hsW).trans j4', (hb.block _ hsD).trans hDk, hbW, fun k e he => ?_, fun k e he => ?_⟩
      · rw [cell_of_row _ _ _ _ _ _ ((hb.block _ hsS).trans j1')]; rfl
      · rcases hao with rfl | ⟨g, hg, hgl⟩
        · simp at he
        · have hYw := HY.out.kept (w' := w') (fun k hk => hbW.block k (own_lt HY.out hk))
          rw [hg] at hYw
          exact ⟨g, hg, hYw.at he⟩
      · have hw : w'.ownsRow W.heap.size 51 2 (.slice (some ⟨W.heap.size + 2, 0, none⟩) L L) L (enL es) := own_kept j2' (fun k hk => by cases hk; exact hb.block (W.heap.size + 2) hsG)
        obtain ⟨c0, c1⟩ := enL_at he
        have add : ∀ i, (⟨W.heap.size + 2, 0, none⟩ : Addr).add i = ⟨W.heap.size + 2, i, none⟩ := by intro i; unfold Addr.add; split <;> simp_all
        replace c0 := hw.cells (g := W.heap.size + 2) rfl _ _ c0
        replace c1 := hw.cells (g := W.heap.size + 2) rfl _ _ c1
        rw [add] at c0 c1
        exact ⟨c0, c1⟩
    clear j1 j1' j2 j2' j3 j3' j4 j4' j5 j6 hM' hDk HI0 HB4 C4B hz1 hz4
    go_wp2
    go_loopw [33] (fun i wr => ∃ k : Nat, k ≤ L ∧ i = .int .i64 k ∧ Kept (Below W5.heap.size W5 wr)) (fun i _ => L - (intOf i).toNat)
    case atStart => exact ⟨0, Nat.zero_le _, rfl, Below.refl _ _⟩
    case round =>
      obtain ⟨k, hk, rfl, KB⟩ := hrel
      obtain ⟨q1, q2, q3, q4, q5, q6, q7⟩ := LIN.out wr KB.out
      by_cases hlt : k < L
      · have hltz : (k : Int) < (L : Int) := by omega
        have hz0 : (0 : Int) ≤ (k : Int) := by omega
        obtain ⟨e, he⟩ : ∃ e, l[k]? = some e := ⟨_, List.getElem?_eq_getElem (by rw [HL.out]; exact hlt)⟩
        obtain ⟨g, rfl, d0, d1⟩ := q6 k e he
        have hone := H1X.out e (List.mem_of_getElem? he)
        obtain ⟨e1, e2⟩ := e
        dsimp only at d0 d1
        have hbx := KB.out.alloc KB.out.size (.cells #[.string e1, .int .i64 e2] 51)
        have hnx : (wr.alloc (.cells #[.string e1, .int .i64 e2] 51)).heap[wr.heap.size]? = some (.cells #[.string e1, .int .i64 e2] 51 (0, 0)) := heap_alloc_new _ _
        have c1S := (LIN.out _ hbx).2.1
        obtain ⟨W6, hW6⟩ : ∃ W6, wr.alloc (.cells #[.string e1, .int .i64 e2] 51) = W6 := ⟨_, rfl⟩
        have hX6 : wr.heap.size < W6.heap.size := by rw [← hW6]; simp
        rw [hW6] at hbx hnx c1S
        have HBX := keep hbx
        have HNX := keep hnx
        have HONE := keep hone
        obtain ⟨X, hX⟩ : ∃ x, wr.heap.size = x := ⟨_, rfl⟩
        rw [hX] at HNX hX6
        clear q1 q2 q3 q4 q5 q6 q7 hbx hnx he hone
        obtain ⟨wo, hwo⟩ : ∃ x, x = wr := ⟨_, rfl⟩
        subst hwo
        go_wp2
        clear hW6 hX c1S
        go_loopw [10, 39] (fun n i wr => ∃ j : Nat, j ≤ L ∧ i = .int .i64 j ∧ n = .int .i64 (cntE (e1, e2) (es.take j) : Nat) ∧ Kept (Below W6.heap.size W6 wr)) (fun _ i _ => L - (intOf i).toNat)
        case atStart => exact ⟨0, Nat.zero_le _, rfl, rfl, Below.refl _ _⟩
        case round =>
          obtain ⟨j, hj, rfl, rfl, KB2⟩ := hrel
          by_cases hjl : j < L
          · have hjz : (j : Int) < (L : Int) := by omega
            have hj0 : (0 : Int) ≤ (j : Int) := by omega
            obtain ⟨z, hz⟩ : ∃ z, es[j]? = some z := ⟨_, List.getElem?_eq_getElem (by rw [HLL.out]; exact hjl)⟩
            have hbw := HBX.out.trans (KB2.out.mono HBX.out.size)
            obtain ⟨z0, z1⟩ := (LIN.out wr hbw).2.2.2.2.2.2 j z hz
            have hct := cntE_take (e := (e1, e2)) hz
            have hcl := cntE_le (e1, e2) (es.take j)
            have hbx2 := KB2.out.alloc KB2.out.size (.cells #[.string z.1, .int .i64 z.2] 51)
            have hcx : ∀ i v, #[Value.string e1, .int .i64 e2][i]? = some v → (wr.alloc (.cells #[.string z.1, .int .i64 z.2] 51)).cell? ⟨X, i, none⟩ = some v := fun i v hv => by
              rw [cell_of_row _ _ _ _ _ _ ((hbx2.block X hX6).trans HNX.out)]; exact hv
            have x0 := hcx 0 _ rfl
            have x1 := hcx 1 _ rfl
            have HBX2 := keep hbx2
            rw [List.length_take] at hcl
            have hcl' : cntE (e1, e2) (es.take j) ≤ 2600000000000 := by omega
            have HCT := keep hct
            obtain ⟨C, hC⟩ : ∃ C, cntE (e1, e2) (es.take j) = C := ⟨_, rfl⟩
            rw [hC] at hcl' HCT ⊢
            clear hz hbw hct hcl hbx2 hcx hC
            obtain ⟨zk, zv⟩ := z
            dsimp only at z0 z1 x0 x1 HBX2 HCT
            by_cases hze : (zk, zv) = (e1, e2)
            · injection hze with h1 h2
              subst h1 h2
              rw [if_pos rfl] at HCT
              go_wp2
              go_roundw
              case measure => simp [intOf]; omega
              case rel => exact ⟨j + 1, by omega, by go_num, by rw [HCT.out]; go_num, HBX2⟩
            · rw [if_neg hze] at HCT
              by_cases hzk : zk = e1
              · subst hzk
                have hzv : zv ≠ e2 := fun e => hze (by rw [e])
                have hzb : (zv == e2) = false := beq_eq_false_iff_ne.2 hzv
                clear hze
                go_wp2
                go_roundw
                case measure => simp [intOf]; omega
                case rel => exact ⟨j + 1, by omega, by go_num, by rw [HCT.out]; rfl, HBX2⟩
              · have hzb : (zk.toList == e1.toList) = false := beq_eq_false_iff_ne.2 (fun e => hzk (bytes_eq e))
                clear hze
                go_wp2
                go_roundw
                case measure => simp [intOf]; omega
                case rel => exact ⟨j + 1, by omega, by go_num, by rw [HCT.out]; rfl, HBX2⟩
          · have hjz : ¬ (j : Int) < (L : Int) := by omega
            obtain rfl : j = L := by omega
            have hcc : cntE (e1, e2) (es.take j) = 1 := by rw [List.take_of_length_le (by rw [HLL.out]; exact Nat.le_refl _)]; exact HONE.out
            rw [hcc]
            clear hcc
            go_wp2
            go_roundw
            case measure => simp [intOf]; omega
            case rel => exact ⟨k + 1, by omega, by go_num, HBX.out.trans (KB2.out.mono HBX.out.size)⟩
      · have hltz : ¬ (k : Int) < (L : Int) := by omega
        have f3 : wr.frozen? ⟨W.heap.size + 1, 0, none⟩ = false := by simp [World.frozen?, q3]
        have c3 : wr.cell? ⟨W.heap.size + 1, 0, none⟩ = some (.bool false) := by rw [cell_of_row _ _ _ _ _ _ q3]; rfl
        have hRD : D ≠ W.heap.size + 1 := fun e => by rw [e, q3] at q4; cases q4
        have q3' := cells_setCell (u := .bool true) q3 (i := 0)
        have Q3 := keep q3'
        have Q4 := keep q4
        have Q5 := keep q5
        clear q3 q4 q5 q6 q7 q3'
        go_wp2
        have hbR : W.heap.size + 1 < wr.heap.size := by have := KB.out.size; omega
        have hcR : ((wr.setCell ⟨W.heap.size + 1, 0, none⟩ (.bool true)).putObj D (.deferred none)).cell? ⟨W.heap.size + 1, 0, none⟩ = some (.bool true) := by
          rw [cell_of_row _ _ _ _ _ _ ((World.putObj_heap_other (Ne.symm hRD)).trans Q3.out)]; rfl
        have hbS := Q5.out.setCell (p := ⟨W.heap.size + 1, 0, none⟩) (by show W.heap.size ≤ W.heap.size + 1; omega) (.bool true)
        refine leave_mark (by rw [Below.heap_setCell _ _ _ _ hRD]; exact Q4.out) ?_
        refine ⟨.bool true, results_cell1 rfl _ _ ⟨W.heap.size + 1, 0, none⟩ _ rfl ?_, rfl, hbS.grown (grownBy_putObj' _ D _) hbS.size (fun k e => by cases e; exact hDW)⟩
        go_simp
end Go.Proofs.Ytcdcdodhpnmhpaa
