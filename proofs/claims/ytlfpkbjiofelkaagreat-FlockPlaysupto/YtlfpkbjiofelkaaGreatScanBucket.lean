/-
  Contracts over this program: the keys of a bucket.
-/
import Derived.Test.YtlfpkbjiofelkaaGreatDictTale
import Derived.Laws.MakeOwn
namespace Go.Proofs.YtlfpkbjiofelkaaGreat
open Go.RowKit Go.Shelf
attribute [local go_sem] Oper.semAt_some
theorem info_strK : (Tryz.prog.info? 9).map (fun i => (i.zero, i.size, i.bytes)) = some (some (.string .empty), 1, 16) := by kernel_rfl
/-- a slice that is not nil -/
def There (v : Value) : Prop := ∃ g n cap, v = .slice (some ⟨g, 0, none⟩) n cap
/-- keys in a slice of strings, in a block from B on -/
def Ks (B : Nat) (w : World) (v : Value) (xs : List ByteArray) : Prop := w.ownsRow B 9 1 v xs.length (xs.map Value.string)
theorem Ks.at {B : Nat} {w : World} {g n cap m : Nat} {xs : List ByteArray} {y : ByteArray} (h : Ks B w (.slice (some ⟨g, 0, none⟩) n cap) xs) (hm : xs[m]? = some y) : w.cell? ⟨g, m, none⟩ = some (.string y) := by
  have add : ∀ i, (⟨g, 0, none⟩ : Addr).add i = ⟨g, i, none⟩ := by intro i; unfold Addr.add; split <;> simp_all
  unfold Ks at h
  have h1 := h.cells (g := g) rfl m (.string y) (by rw [List.getElem?_map, hm]; rfl)
  rw [add] at h1
  exact h1
theorem Ks.form {B : Nat} {w : World} {v : Value} {xs : List ByteArray} (h : Ks B w v xs) (h0 : 0 < xs.length) : ∃ g cap, v = .slice (some ⟨g, 0, none⟩) xs.length cap ∧ B ≤ g ∧ g < w.heap.size := by
  unfold Ks at h
  obtain ⟨g, cap, rfl, h1, h2⟩ := h.form h0
  exact ⟨g, cap, rfl, h1, h2⟩
/-- between two rounds: the keys that came lie in a slice, which lies in a box -/
def BuI (w : World) (H : Nat) (c : List Ent) (pre : List (Bk c)) (W : World) : Prop :=
  W.heap[H]? = some (.cells #[.slice (some ⟨w.heap.size, 0, none⟩) pre.length c.length] 43 (0, 0)) ∧ W.ownsRow w.heap.size 9 1 (.slice (some ⟨w.heap.size, 0, none⟩) pre.length c.length) pre.length ((bks pre).map fun e => Value.string e.1) ∧ Below w.heap.size w W ∧ H + 2 ≤ W.heap.size
theorem BuI_own {w : World} {B H : Nat} {c : List Ent} (hB : w.heap.size ≤ B) : OwnFrom B (BuI w H c) := by
  rintro pre W W' row ⟨h1, h2, h3, h6⟩ hg hr
  refine ⟨?_, own_turn h2 hg (fun k e => (hr k e).2), h3.grown hg h3.size (fun k e => Nat.le_trans hB (hr k e).1), Nat.le_trans h6 hg.size⟩
  rw [hg.block H (Array.getElem?_eq_some_iff.1 h1).1 (fun e => ?_)]
  · exact h1
  · obtain ⟨_, o, h4, h5⟩ := hr H e.symm
    rw [h1] at h4
    cases h4
    cases h5
def BuX1 (b i g tl H co0 n1 n2 : Nat) (tv cv kv : Value) {c : List Ent} (x : Bk c) (a : Act) (W : World) : Prop :=
  ∃ Bx, W.heap[Bx]? = some (.cells #[.string x.1.2.1] 105 (0, 0)) ∧ a = { tmps := #[.pointer (some ⟨b, 0, none⟩), .int .i64 1, .int .i64 i, undef, undef, undef, .slice none 0 0, tv, .pointer (some ⟨H, 0, none⟩), undef, .pointer (some ⟨Bx, 0, none⟩), .pointer (some ⟨b, 0, none⟩), .bool false, .int .i64 1, .bool false, .bool false, undef, undef, undef, undef, .bool true, .bool true, .pointer (some ⟨b, 0, none⟩), .pointer (some ⟨b, 0, none⟩), .pointer (some ⟨b, 3, none⟩), tv, .int .i64 i, .bool false, .bool false, .int .i64 i, tv, .int .i64 tl, .bool false, .bool false, tv, .int .i64 i, .pointer (some ⟨g, i, none⟩), cv, .int .i64 co0, kv, tv, .int .i64 i, .pointer (some ⟨g, i, none⟩), cv, .func (.func n1) #[] #[.pointer (some ⟨n2, 0, none⟩)], .int .i64 (x.1.1 : Int), .agg #[.string x.1.2.1], undef, undef, undef, undef, undef, undef], defers := [] }
theorem BuX1_own {B b i g tl H co0 n1 n2 : Nat} {tv cv kv : Value} {c : List Ent} (x : Bk c) (a : Act) : OwnFrom B (fun (_ : Unit) W => BuX1 b i g tl H co0 n1 n2 tv cv kv x a W) := by
  rintro _ W W' row ⟨Bx, h1, h2⟩ hg hr
  refine ⟨Bx, ?_, h2⟩
  rw [hg.block Bx (Array.getElem?_eq_some_iff.1 h1).1 (fun e => ?_)]
  · exact h1
  · obtain ⟨_, o, h3, h4⟩ := hr Bx e.symm
    rw [h1] at h3
    cases h3
    cases h4
def BuX0 (b i g tl H co0 n1 n2 : Nat) (tv cv kv : Value) {c : List Ent} (x : Bk c) (a : Act) (W : World) : Prop :=
  ∃ Bx, W.heap[Bx]? = some (.cells #[.string x.1.2.1] 105 (0, 0)) ∧ a = { tmps := #[.pointer (some ⟨b, 0, none⟩), .int .i64 0, .int .i64 i, undef, undef, undef, .slice none 0 0, tv, .pointer (some ⟨H, 0, none⟩), undef, .pointer (some ⟨Bx, 0, none⟩), .pointer (some ⟨b, 0, none⟩), .bool false, .int .i64 0, .bool true, .bool true, .pointer (some ⟨b, 0, none⟩), .pointer (some ⟨b, 0, none⟩), .pointer (some ⟨b, 2, none⟩), tv, undef, undef, undef, undef, undef, undef, .int .i64 i, .bool false, .bool false, .int .i64 i, tv, .int .i64 tl, .bool false, .bool false, tv, .int .i64 i, .pointer (some ⟨g, i, none⟩), cv, .int .i64 co0, kv, tv, .int .i64 i, .pointer (some ⟨g, i, none⟩), cv, .func (.func n1) #[] #[.pointer (some ⟨n2, 0, none⟩)], .int .i64 (x.1.1 : Int), .agg #[.string x.1.2.1], undef, undef, undef, undef, undef, undef], defers := [] }
theorem BuX0_own {B b i g tl H co0 n1 n2 : Nat} {tv cv kv : Value} {c : List Ent} (x : Bk c) (a : Act) : OwnFrom B (fun (_ : Unit) W => BuX0 b i g tl H co0 n1 n2 tv cv kv x a W) := by
  rintro _ W W' row ⟨Bx, h1, h2⟩ hg hr
  refine ⟨Bx, ?_, h2⟩
  rw [hg.block Bx (Array.getElem?_eq_some_iff.1 h1).1 (fun e => ?_)]
  · exact h1
  · obtain ⟨_, o, h3, h4⟩ := hr Bx e.symm
    rw [h1] at h3
    cases h3
    cases h4
theorem make_keys (w : World) (n : Nat) (hn : n ≤ 2600000000000) :
    ∃ w', (Instr.makeSlice 43 (.int .i64 0) (.int .i64 (n : Int))).run Tryz.prog w = .ok (.slice (some ⟨w.heap.size, 0, none⟩) 0 n) w' ∧ Ks w.heap.size w' (.slice (some ⟨w.heap.size, 0, none⟩) 0 n) [] ∧ w.grownBy w' none ∧ w.heap.size < w'.heap.size := by
  obtain ⟨i0, hi0, hz0, hz1, hz2⟩ := info_parts info_strK
  obtain ⟨w', h1, h2, h3⟩ := run_make_own (P := Tryz.prog) w w.heap.size 43 9 i0 _ 1 Tryz.underlying43 hi0 hz0 hz1 .i64 .i64 n (by rw [hz2]; omega) (by unfold maxLen; omega) (Nat.le_refl _)
  exact ⟨w', h1, h2, h3, own_lt h2 rfl⟩
set_option maxRecDepth 100000 in
set_option maxHeartbeats 2000000 in
theorem bucket1_any (w : World) (r : Roles) (b seed n : Nat) (s : Dc.St ByteArray Unit) (hD : Dct w r b seed n s) (hm : s.young.length ≤ 5400000000000) (i : Nat) (c : List Ent) (hc : s.young[i]? = some c) (hcl : c.length ≤ 2600000000000) :
    Calls Tryz.prog 122 #[.pointer (some ⟨b, 0, none⟩), .int .i64 1, .int .i64 i] w fun x w' => (∃ v, x = .returned v ∧ There v ∧ Ks w.heap.size w' v (c.map (·.1))) ∧ Below w.heap.size w w' := by
  obtain ⟨ao, ca, bo, cb, h4, h5, h3⟩ := hD.cells
  have hil : i < s.young.length := (List.getElem?_eq_some_iff.1 hc).1
  obtain ⟨g, ca', e4, hrg, hgl⟩ := h5.form (by omega)
  have e5 : bo = some ⟨g, 0, none⟩ := by injection e4
  subst e5
  clear e4
  obtain ⟨v, hv1, hv2, hv3⟩ := h5.at hc
  obtain ⟨co, cc, rfl⟩ := chn_len hv2
  obtain ⟨c0, c1, c2, c3, c4, cf⟩ := five h3
  have hbl : b < w.heap.size := hD.1 b (by rw [hD.2.1]; simp)
  have hp0 : (0 : Int) ≤ (i : Int) := by omega
  have hp1 : (i : Int) < (s.young.length : Int) := by omega
  have hl1 : ¬ (i : Int) < 0 := by omega
  have hd1 : decide ((i : Int) < 0) = false := decide_eq_false hl1
  have hd2 : decide ((s.young.length : Int) ≤ (i : Int)) = false := decide_eq_false (by omega)
  obtain ⟨w1, mk, hS1, hg1, hlt1⟩ := make_keys w c.length hcl
  have hb1 : Below w.heap.size w w1 := (Below.refl _ w).grown hg1 (Nat.le_refl _) (fun k h => by cases h)
  have hcb : w1.cell? ⟨g, i, none⟩ = some (.slice co c.length cc) := (hb1.cell (p := ⟨g, i, none⟩) hgl).trans hv1
  have hcb2 : (w1.alloc (.cells #[.slice (some ⟨w.heap.size, 0, none⟩) 0 c.length] 43)).cell? ⟨g, i, none⟩ = some (.slice co c.length cc) := ((hb1.alloc hb1.size _).cell (p := ⟨g, i, none⟩) hgl).trans hv1
  have HD := keep hD
  have HV := keep hv2
  have HS1 := keep hS1
  clear hD h4 h5 h3 hc hv2 hS1
  refine callsIn_wide (n := 5) |>.1 (callsIn_of_wp_marks Tryz.func122 rfl trivial (wpIn_wide.2 ?_) rfl)
  simp only [Tryz.ntmps122, List.size_toArray, List.length_cons, List.length_nil, Nat.reduceAdd, Nat.reduceSub, Array.replicate_succ, Array.replicate_zero, List.push_toArray, List.append_toArray, List.nil_append, List.cons_append]
  go_wp2_with fail
  refine (back_any _ _ _ _).mono ?_
  rintro _ w' ⟨rfl, rfl⟩
  go_wp2
  obtain ⟨W0, hW0⟩ : ∃ W0, (w1.alloc (.cells #[.slice (some ⟨w.heap.size, 0, none⟩) 0 c.length] 43)).alloc (.cells #[.slice co c.length cc] 107) = W0 := ⟨_, rfl⟩
  have hB0 : Below w.heap.size w W0 := by rw [← hW0]; exact (hb1.alloc hb1.size _).alloc (by simp; omega) _
  have hsz : W0.heap.size = w1.heap.size + 2 := by rw [← hW0]; simp
  have hn1 : W0.cell? ⟨w1.heap.size + 1, 0, none⟩ = some (.slice co c.length cc) := by rw [← hW0]; simp
  have hI0 : BuI w w1.heap.size c [] W0 := by
    refine ⟨?_, own_kept HS1.out (fun k hk => ?_), hB0, by omega⟩
    · rw [← hW0, Below.heap_alloc _ _ _ (by simp)]; exact heap_alloc_new _ _
    · cases hk; rw [← hW0, Below.heap_alloc _ _ _ (by simp; omega), Below.heap_alloc _ _ _ hlt1]
  have hv2' : Chn W0 (.slice co c.length cc) c := own_kept HV.out (fun k hk => hB0.block k (own_lt HV.out hk))
  have hvk : ∀ k, (Value.slice co c.length cc).ownBlock = some k → k < w.heap.size := fun k hk => own_lt HV.out hk
  rw [hW0]
  obtain ⟨i0, hi0, hz0, hz1, hz2⟩ := info_parts info_strK
  refine wpIn_wide (n := 5).1 (wpIn_rangeFunc_ownH (α := Bk c) rfl (by decide) (gf := 115) (lb := #[.pointer (some ⟨w1.heap.size + 1, 0, none⟩)]) rfl trivial (enters_of Tryz.func115 (by kernel_rfl) rfl)
    (back_stops 4 (w1.heap.size + 1) (.slice co c.length cc) c W0 (by omega) hn1 hv2') (fun h k => h.trans k) (kpB_b (by omega) (fun k hk => by have := hvk k hk; omega)) (Below.refl _ _) (fun _ => rfl)
    (BuI w w1.heap.size c) (fun _ _ _ => False) (BuI_own (by omega)) (fun _ _ _ _ _ hs _ _ => hs) hI0
    (BuX1 b i g s.young.length w1.heap.size c.length 115 (w1.heap.size + 1) (.slice (some ⟨g, 0, none⟩) s.young.length cb) (.slice co c.length cc) (.slice (some ⟨w.heap.size, 0, none⟩) 0 c.length)) (fun x a => BuX1_own x a) ?assign ?body ?done ?stop)
  case assign =>
    rintro l pre ⟨⟨m, e1, e2⟩, hx⟩ W K ⟨j1, j2, j3, j4⟩ hK
    have HK := keep hK
    clear hK
    have hHl := (Array.getElem?_eq_some_iff.1 j1).1
    have hWs := j3.size
    unfold bkE
    gi_wp2
    exact HK.out _ _ ((KeepsOthers.alloc _ _).from _) ⟨Below.heap_alloc _ _ _ (by omega), fun k hk => Below.heap_alloc _ _ _ (by have := hvk k hk; omega)⟩
      ⟨(Below.heap_alloc _ _ _ hHl).trans j1, own_kept j2 (fun k hk => Below.heap_alloc _ _ _ (own_lt j2 hk)), j3.alloc j3.size _, by simp; omega⟩ ⟨W.heap.size, heap_alloc_new _ _, rfl⟩
  case body =>
    rintro l pre ⟨⟨m, e1, e2⟩, hx⟩ a' W hl' ⟨rc, hrc⟩ ⟨j1, j2, j3, j4⟩ ⟨Bx, hBx, rfl⟩ hlt
    have b0 : W.cell? ⟨Bx, 0, none⟩ = some (.string e1) := by rw [cell_of_row _ _ _ _ _ _ hBx]; rfl
    have hH : W.cell? ⟨w1.heap.size, 0, none⟩ = some (.slice (some ⟨w.heap.size, 0, none⟩) pre.length c.length) := by rw [cell_of_row _ _ _ _ _ _ j1]; rfl
    have hfit : pre.length + 1 ≤ c.length := hlt
    have J1 := keep j1
    have J2 := keep j2
    have J3 := keep j3
    have hHW : w1.heap.size < (W.alloc (.cells #[.string e1] 9)).heap.size := by simp; omega
    have hHne : ¬ w1.heap.size = w.heap.size := by omega
    dsimp only
    clear j1 j2 j3 HD HV HS1 hn1 hI0 hv2' c0 c1 c2 c3 c4 cf hv1 hcb hcb2 mk hBx
    gi_wp2_with (first | (refine wpListIn_append_fits _ rfl (.tmp 47) (.tmp 50) 43 rfl w.heap.size 9 i0 1 Tryz.underlying43 hi0 hz1 w.heap.size pre.length c.length _ rfl (J2.out.alloc _) ⟨W.heap.size, 0, none⟩ 1 1 [.string e1] rfl rfl (World.news_of_block (cs := #[.string e1]) (t := 9) (fr := (0, 0)) (heap_alloc_new W _)) (by simp [Value.oneCell']) hfit ?_; intro W2 hown hgr; have hH2 : W2.heap[w1.heap.size]? = some (.cells #[.slice (some ⟨w.heap.size, 0, none⟩) pre.length c.length] 43 (0, 0)) := ((hgr.block _ hHW (fun e => hHne (Option.some.inj e))).trans (Below.heap_alloc _ _ _ (by omega))).trans J1.out; have hfz : W2.frozen? ⟨w1.heap.size, 0, none⟩ = false := (by simp [World.frozen?, hH2]); have hce : W2.cell? ⟨w1.heap.size, 0, none⟩ = some (.slice (some ⟨w.heap.size, 0, none⟩) pre.length c.length) := (by rw [cell_of_row _ _ _ _ _ _ hH2]; rfl)))
    have hrow : ∃ cur, W.heap[w.heap.size]? = some (.cells cur 9 (0, 0)) := by
      rcases J2.out.2 with ⟨e', _⟩ | ⟨g', cap', cur, e', _, hh, _⟩
      · cases e'
      · cases e'; exact ⟨cur, hh⟩
    have hs2 : W.heap.size + 1 ≤ W2.heap.size := by have := hgr.size; simpa using this
    have same : ∀ k, k < W.heap.size → k ≠ w.heap.size → k ≠ w1.heap.size → (W2.setCell ⟨w1.heap.size, 0, none⟩ (.slice (some ⟨w.heap.size, 0, none⟩) (pre.length + 1) c.length)).heap[k]? = W.heap[k]? := fun k q1 q2 q3 => by
      rw [Below.heap_setCell _ _ _ _ q3, hgr.block k (by simp; omega) (fun e' => q2 (Option.some.inj e')), Below.heap_alloc _ _ _ q1]
    have hss : (W2.setCell ⟨w1.heap.size, 0, none⟩ (.slice (some ⟨w.heap.size, 0, none⟩) (pre.length + 1) c.length)).heap.size = W2.heap.size := by simp [World.setCell]
    have hWs := J3.out.size
    refine ⟨⟨by rw [hss]; omega, fun k o _ h1 h2 => ?_⟩, ⟨same _ (by omega) (by omega) (by omega), fun k hk => same k (by have := hvk k hk; omega) (by have := hvk k hk; omega) (by have := hvk k hk; omega)⟩, ?_, ?_, ?_, by rw [hss]; omega⟩
    · rw [same k (Array.getElem?_eq_some_iff.1 h1).1 (fun e' => ?_) (fun e' => ?_)]
      · exact h1
      · obtain ⟨cur, hcur⟩ := hrow
        rw [e', hcur] at h1
        cases h1
        cases h2
      · rw [e', J1.out] at h1
        cases h1
        cases h2
    · rw [List.length_append]
      exact cells_setCell hH2
    · rw [bks_snoc rfl, List.map_append, List.length_append]
      exact own_kept hown (fun k hk => by cases hk; exact Below.heap_setCell _ _ _ _ (Ne.symm hHne))
    · exact ((J3.out.alloc J3.out.size _).grown hgr (by simp; omega) (fun k e' => by cases e'; exact Nat.le_refl _)).setCell (p := ⟨w1.heap.size, 0, none⟩) (by show w.heap.size ≤ w1.heap.size; omega) _
  case done =>
    rintro D xs W hD' hS ⟨j1, j2, j3, j4⟩ hK
    have hH : W.cell? ⟨w1.heap.size, 0, none⟩ = some (.slice (some ⟨w.heap.size, 0, none⟩) xs.length c.length) := by rw [cell_of_row _ _ _ _ _ _ j1]; rfl
    have J2 := keep j2
    have J3 := keep j3
    have HK := keep hK
    clear j1 j2 j3 hK HD HV HS1 hn1 hI0 hv2' c0 c1 c2 c3 c4 cf hv1 hcb hcb2 mk
    go_wp2
    refine ⟨by simp, .inl ⟨_, _, rfl, run_takeDeferred HK.out, ?_⟩⟩
    refine ⟨_, results_tmp rfl _ _ _, ?_⟩
    refine ⟨⟨_, rfl, ⟨_, _, _, rfl⟩, ?_⟩, J3.out.grown (grownBy_putObj' _ D _) J3.out.size (fun k e' => by cases e'; omega)⟩
    have e1 : (c.map (·.1)).map Value.string = (bks xs).map (fun e => Value.string e.1) := by rw [hS, List.map_map]; rfl
    have e2 : (c.map (·.1)).length = xs.length := by have h := congrArg List.length hS; unfold bks at h; rw [List.length_map] at h; rw [List.length_map]; exact h.symm
    unfold Ks
    rw [e1, e2]
    exact own_turn J2.out (grownBy_putObj' _ D _) (fun k e' => by cases e'; exact ⟨_, HK.out, rfl⟩)
  case stop =>
    rintro D c pre W _ _ h _
    exact h.elim
set_option maxRecDepth 100000 in
set_option maxHeartbeats 2000000 in
theorem bucket0_any (w : World) (r : Roles) (b seed n : Nat) (s : Dc.St ByteArray Unit) (hD : Dct w r b seed n s) (hm : s.old.length ≤ 5400000000000) (i : Nat) (c : List Ent) (hc : s.old[i]? = some c) (hcl : c.length ≤ 2600000000000) :
    Calls Tryz.prog 122 #[.pointer (some ⟨b, 0, none⟩), .int .i64 0, .int .i64 i] w fun x w' => (∃ v, x = .returned v ∧ There v ∧ Ks w.heap.size w' v (c.map (·.1))) ∧ Below w.heap.size w w' := by
  obtain ⟨ao, ca, bo, cb, h4, h5, h3⟩ := hD.cells
  have hil : i < s.old.length := (List.getElem?_eq_some_iff.1 hc).1
  obtain ⟨g, ca', e4, hrg, hgl⟩ := h4.form (by omega)
  have e5 : ao = some ⟨g, 0, none⟩ := by injection e4
  subst e5
  clear e4
  obtain ⟨v, hv1, hv2, hv3⟩ := h4.at hc
  obtain ⟨co, cc, rfl⟩ := chn_len hv2
  obtain ⟨c0, c1, c2, c3, c4, cf⟩ := five h3
  have hbl : b < w.heap.size := hD.1 b (by rw [hD.2.1]; simp)
  have hp0 : (0 : Int) ≤ (i : Int) := by omega
  have hp1 : (i : Int) < (s.old.length : Int) := by omega
  have hl1 : ¬ (i : Int) < 0 := by omega
  have hd1 : decide ((i : Int) < 0) = false := decide_eq_false hl1
  have hd2 : decide ((s.old.length : Int) ≤ (i : Int)) = false := decide_eq_false (by omega)
  obtain ⟨w1, mk, hS1, hg1, hlt1⟩ := make_keys w c.length hcl
  have hb1 : Below w.heap.size w w1 := (Below.refl _ w).grown hg1 (Nat.le_refl _) (fun k h => by cases h)
  have hcb : w1.cell? ⟨g, i, none⟩ = some (.slice co c.length cc) := (hb1.cell (p := ⟨g, i, none⟩) hgl).trans hv1
  have hcb2 : (w1.alloc (.cells #[.slice (some ⟨w.heap.size, 0, none⟩) 0 c.length] 43)).cell? ⟨g, i, none⟩ = some (.slice co c.length cc) := ((hb1.alloc hb1.size _).cell (p := ⟨g, i, none⟩) hgl).trans hv1
  have HD := keep hD
  have HV := keep hv2
  have HS1 := keep hS1
  clear hD h4 h5 h3 hc hv2 hS1
  refine callsIn_wide (n := 5) |>.1 (callsIn_of_wp_marks Tryz.func122 rfl trivial (wpIn_wide.2 ?_) rfl)
  simp only [Tryz.ntmps122, List.size_toArray, List.length_cons, List.length_nil, Nat.reduceAdd, Nat.reduceSub, Array.replicate_succ, Array.replicate_zero, List.push_toArray, List.append_toArray, List.nil_append, List.cons_append]
  go_wp2_with fail
  refine (back_any _ _ _ _).mono ?_
  rintro _ w' ⟨rfl, rfl⟩
  go_wp2
  obtain ⟨W0, hW0⟩ : ∃ W0, (w1.alloc (.cells #[.slice (some ⟨w.heap.size, 0, none⟩) 0 c.length] 43)).alloc (.cells #[.slice co c.length cc] 107) = W0 := ⟨_, rfl⟩
  have hB0 : Below w.heap.size w W0 := by rw [← hW0]; exact (hb1.alloc hb1.size _).alloc (by simp; omega) _
  have hsz : W0.heap.size = w1.heap.size + 2 := by rw [← hW0]; simp
  have hn1 : W0.cell? ⟨w1.heap.size + 1, 0, none⟩ = some (.slice co c.length cc) := by rw [← hW0]; simp
  have hI0 : BuI w w1.heap.size c [] W0 := by
    refine ⟨?_, own_kept HS1.out (fun k hk => ?_), hB0, by omega⟩
    · rw [← hW0, Below.heap_alloc _ _ _ (by simp)]; exact heap_alloc_new _ _
    · cases hk; rw [← hW0, Below.heap_alloc _ _ _ (by simp; omega), Below.heap_alloc _ _ _ hlt1]
  have hv2' : Chn W0 (.slice co c.length cc) c := own_kept HV.out (fun k hk => hB0.block k (own_lt HV.out hk))
  have hvk : ∀ k, (Value.slice co c.length cc).ownBlock = some k → k < w.heap.size := fun k hk => own_lt HV.out hk
  rw [hW0]
  obtain ⟨i0, hi0, hz0, hz1, hz2⟩ := info_parts info_strK
  refine wpIn_wide (n := 5).1 (wpIn_rangeFunc_ownH (α := Bk c) rfl (by decide) (gf := 115) (lb := #[.pointer (some ⟨w1.heap.size + 1, 0, none⟩)]) rfl trivial (enters_of Tryz.func115 (by kernel_rfl) rfl)
    (back_stops 4 (w1.heap.size + 1) (.slice co c.length cc) c W0 (by omega) hn1 hv2') (fun h k => h.trans k) (kpB_b (by omega) (fun k hk => by have := hvk k hk; omega)) (Below.refl _ _) (fun _ => rfl)
    (BuI w w1.heap.size c) (fun _ _ _ => False) (BuI_own (by omega)) (fun _ _ _ _ _ hs _ _ => hs) hI0
    (BuX0 b i g s.old.length w1.heap.size c.length 115 (w1.heap.size + 1) (.slice (some ⟨g, 0, none⟩) s.old.length ca) (.slice co c.length cc) (.slice (some ⟨w.heap.size, 0, none⟩) 0 c.length)) (fun x a => BuX0_own x a) ?assign ?body ?done ?stop)
  case assign =>
    rintro l pre ⟨⟨m, e1, e2⟩, hx⟩ W K ⟨j1, j2, j3, j4⟩ hK
    have HK := keep hK
    clear hK
    have hHl := (Array.getElem?_eq_some_iff.1 j1).1
    have hWs := j3.size
    unfold bkE
    gi_wp2
    exact HK.out _ _ ((KeepsOthers.alloc _ _).from _) ⟨Below.heap_alloc _ _ _ (by omega), fun k hk => Below.heap_alloc _ _ _ (by have := hvk k hk; omega)⟩
      ⟨(Below.heap_alloc _ _ _ hHl).trans j1, own_kept j2 (fun k hk => Below.heap_alloc _ _ _ (own_lt j2 hk)), j3.alloc j3.size _, by simp; omega⟩ ⟨W.heap.size, heap_alloc_new _ _, rfl⟩
  case body =>
    rintro l pre ⟨⟨m, e1, e2⟩, hx⟩ a' W hl' ⟨rc, hrc⟩ ⟨j1, j2, j3, j4⟩ ⟨Bx, hBx, rfl⟩ hlt
    have b0 : W.cell? ⟨Bx, 0, none⟩ = some (.string e1) := by rw [cell_of_row _ _ _ _ _ _ hBx]; rfl
    have hH : W.cell? ⟨w1.heap.size, 0, none⟩ = some (.slice (some ⟨w.heap.size, 0, none⟩) pre.length c.length) := by rw [cell_of_row _ _ _ _ _ _ j1]; rfl
    have hfit : pre.length + 1 ≤ c.length := hlt
    have J1 := keep j1
    have J2 := keep j2
    have J3 := keep j3
    have hHW : w1.heap.size < (W.alloc (.cells #[.string e1] 9)).heap.size := by simp; omega
    have hHne : ¬ w1.heap.size = w.heap.size := by omega
    dsimp only
    clear j1 j2 j3 HD HV HS1 hn1 hI0 hv2' c0 c1 c2 c3 c4 cf hv1 hcb hcb2 mk hBx
    gi_wp2_with (first | (refine wpListIn_append_fits _ rfl (.tmp 47) (.tmp 50) 43 rfl w.heap.size 9 i0 1 Tryz.underlying43 hi0 hz1 w.heap.size pre.length c.length _ rfl (J2.out.alloc _) ⟨W.heap.size, 0, none⟩ 1 1 [.string e1] rfl rfl (World.news_of_block (cs := #[.string e1]) (t := 9) (fr := (0, 0)) (heap_alloc_new W _)) (by simp [Value.oneCell']) hfit ?_; intro W2 hown hgr; have hH2 : W2.heap[w1.heap.size]? = some (.cells #[.slice (some ⟨w.heap.size, 0, none⟩) pre.length c.length] 43 (0, 0)) := ((hgr.block _ hHW (fun e => hHne (Option.some.inj e))).trans (Below.heap_alloc _ _ _ (by omega))).trans J1.out; have hfz : W2.frozen? ⟨w1.heap.size, 0, none⟩ = false := (by simp [World.frozen?, hH2]); have hce : W2.cell? ⟨w1.heap.size, 0, none⟩ = some (.slice (some ⟨w.heap.size, 0, none⟩) pre.length c.length) := (by rw [cell_of_row _ _ _ _ _ _ hH2]; rfl)))
    have hrow : ∃ cur, W.heap[w.heap.size]? = some (.cells cur 9 (0, 0)) := by
      rcases J2.out.2 with ⟨e', _⟩ | ⟨g', cap', cur, e', _, hh, _⟩
      · cases e'
      · cases e'; exact ⟨cur, hh⟩
    have hs2 : W.heap.size + 1 ≤ W2.heap.size := by have := hgr.size; simpa using this
    have same : ∀ k, k < W.heap.size → k ≠ w.heap.size → k ≠ w1.heap.size → (W2.setCell ⟨w1.heap.size, 0, none⟩ (.slice (some ⟨w.heap.size, 0, none⟩) (pre.length + 1) c.length)).heap[k]? = W.heap[k]? := fun k q1 q2 q3 => by
      rw [Below.heap_setCell _ _ _ _ q3, hgr.block k (by simp; omega) (fun e' => q2 (Option.some.inj e')), Below.heap_alloc _ _ _ q1]
    have hss : (W2.setCell ⟨w1.heap.size, 0, none⟩ (.slice (some ⟨w.heap.size, 0, none⟩) (pre.length + 1) c.length)).heap.size = W2.heap.size := by simp [World.setCell]
    have hWs := J3.out.size
    refine ⟨⟨by rw [hss]; omega, fun k o _ h1 h2 => ?_⟩, ⟨same _ (by omega) (by omega) (by omega), fun k hk => same k (by have := hvk k hk; omega) (by have := hvk k hk; omega) (by have := hvk k hk; omega)⟩, ?_, ?_, ?_, by rw [hss]; omega⟩
    · rw [same k (Array.getElem?_eq_some_iff.1 h1).1 (fun e' => ?_) (fun e' => ?_)]
      · exact h1
      · obtain ⟨cur, hcur⟩ := hrow
        rw [e', hcur] at h1
        cases h1
        cases h2
      · rw [e', J1.out] at h1
        cases h1
        cases h2
    · rw [List.length_append]
      exact cells_setCell hH2
    · rw [bks_snoc rfl, List.map_append, List.length_append]
      exact own_kept hown (fun k hk => by cases hk; exact Below.heap_setCell _ _ _ _ (Ne.symm hHne))
    · exact ((J3.out.alloc J3.out.size _).grown hgr (by simp; omega) (fun k e' => by cases e'; exact Nat.le_refl _)).setCell (p := ⟨w1.heap.size, 0, none⟩) (by show w.heap.size ≤ w1.heap.size; omega) _
  case done =>
    rintro D xs W hD' hS ⟨j1, j2, j3, j4⟩ hK
    have hH : W.cell? ⟨w1.heap.size, 0, none⟩ = some (.slice (some ⟨w.heap.size, 0, none⟩) xs.length c.length) := by rw [cell_of_row _ _ _ _ _ _ j1]; rfl
    have J2 := keep j2
    have J3 := keep j3
    have HK := keep hK
    clear j1 j2 j3 hK HD HV HS1 hn1 hI0 hv2' c0 c1 c2 c3 c4 cf hv1 hcb hcb2 mk
    go_wp2
    refine ⟨by simp, .inl ⟨_, _, rfl, run_takeDeferred HK.out, ?_⟩⟩
    refine ⟨_, results_tmp rfl _ _ _, ?_⟩
    refine ⟨⟨_, rfl, ⟨_, _, _, rfl⟩, ?_⟩, J3.out.grown (grownBy_putObj' _ D _) J3.out.size (fun k e' => by cases e'; omega)⟩
    have e1 : (c.map (·.1)).map Value.string = (bks xs).map (fun e => Value.string e.1) := by rw [hS, List.map_map]; rfl
    have e2 : (c.map (·.1)).length = xs.length := by have h := congrArg List.length hS; unfold bks at h; rw [List.length_map] at h; rw [List.length_map]; exact h.symm
    unfold Ks
    rw [e1, e2]
    exact own_turn J2.out (grownBy_putObj' _ D _) (fun k e' => by cases e'; exact ⟨_, HK.out, rfl⟩)
  case stop =>
    rintro D c pre W _ _ h _
    exact h.elim
end Go.Proofs.YtlfpkbjiofelkaaGreat
