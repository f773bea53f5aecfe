/-
  Contracts over this program: Each tells all entries, as they stood when it was called.
-/
import Derived.Test.YthmmblohfjmbcaaGreatPDictAll
import Derived.Test.YthmmblohfjmbcaaGreatPDictList
namespace Go.Proofs.YthmmblohfjmbcaaGreat.DP
open Go.RowKit Go.Shelf
attribute [local go_sem] Oper.semAt_some
def eachV (e : Ent) : Array Value := #[.string e.1, .pointer e.2]
set_option maxHeartbeats 400000 in
theorem all_any (w : World) (b : Value) (hb : b = .pointer none ∨ ∃ x, b = .pointer (some ⟨x, 0, none⟩)) :
    Calls Tryz.prog 75 #[b] w fun e w' => e = .returned (.func (.func 91) #[] #[.pointer (some ⟨w.heap.size, 0, none⟩)]) ∧ w' = w.alloc (.cells #[b] 41) := by
  have hmf : ∀ (fn : Fn) (first cap : Array Value) (w : World), (Instr.makeFunc fn first cap).run Tryz.prog w = .ok (.func fn first cap) w := fun _ _ _ _ => rfl
  rcases hb with rfl | ⟨x, rfl⟩
  · go_enter Tryz.func75, Tryz.ntmps75
    go_wp2
    go_ret
    exact ⟨rfl, rfl⟩
  · go_enter Tryz.func75, Tryz.ntmps75
    go_wp2
    go_ret
    exact ⟨rfl, rfl⟩
set_option maxHeartbeats 400000 in
theorem each_any (w : World) (b : Value) (hb : b = .pointer none ∨ ∃ x, b = .pointer (some ⟨x, 0, none⟩)) :
    Calls Tryz.prog 50 #[b] w fun e w' => e = .returned (.func (.func 74) #[] #[.pointer (some ⟨w.heap.size, 0, none⟩)]) ∧ w' = w.alloc (.cells #[b] 41) := by
  have hmf : ∀ (fn : Fn) (first cap : Array Value) (w : World), (Instr.makeFunc fn first cap).run Tryz.prog w = .ok (.func fn first cap) w := fun _ _ _ _ => rfl
  rcases hb with rfl | ⟨x, rfl⟩
  · go_enter Tryz.func50, Tryz.ntmps50
    go_wp2
    go_ret
    exact ⟨rfl, rfl⟩
  · go_enter Tryz.func50, Tryz.ntmps50
    go_wp2
    go_ret
    exact ⟨rfl, rfl⟩
/-- while the entries are taken down; H: the box of the slice that they lie in, Bd: the box of the dict -/
def EchI (W : World) (H Bd : Nat) (dv : Value) (es : List Ent) (M : Nat → Prop) (m : Nat) (w : World) : Prop :=
  (∃ v, (¬ M H ∧ w.heap[H]? = some (.cells #[v] 135 (0, 0))) ∧ w.ownsRow W.heap.size 139 2 v m (enL (es.take m)) ∧ ∀ k, v.ownBlock = some k → ¬ M k ∧ k ≠ H ∧ k ≠ Bd) ∧
    (¬ M Bd ∧ w.heap[Bd]? = some (.cells #[dv] 41 (0, 0))) ∧ Below W.heap.size W w ∧ ∀ k, M k → W.heap.size ≤ k
theorem EchI.abd {W : World} {H Bd : Nat} {dv : Value} {es : List Ent} : Abd (EchI W H Bd dv es) := by
  rintro M M' m A B ⟨⟨v, ⟨h1, h1'⟩, h2, h3⟩, ⟨h4, h4'⟩, h5, h6⟩ hs hx
  have keepB : ∀ k o, ¬ M k → A.heap[k]? = some o → ¬ M' k ∧ B.heap[k]? = some o := fun k o hn ho => by
    have hl := (Array.getElem?_eq_some_iff.1 ho).1
    exact ⟨hx.lt hl hn, (hs.2.2 k hl hn).trans ho⟩
  refine ⟨⟨v, keepB _ _ h1 h1', own_kept h2 (fun k hk => hs.2.2 k (own_lt h2 hk) (h3 k hk).1), fun k hk => ⟨hx.lt (own_lt h2 hk) (h3 k hk).1, (h3 k hk).2⟩⟩, keepB _ _ h4 h4', h5.trans (hs.below h5.size h6), hx.ge h5.size h6⟩
theorem enL_at {es : List Ent} : ∀ {k : Nat} {e : Ent}, es[k]? = some e → (enL es)[k * 2]? = some (.string e.1) ∧ (enL es)[k * 2 + 1]? = some (.pointer e.2) := by
  induction es with
  | nil => intro k e h; simp at h
  | cons d es ih =>
    intro k e h
    cases k with
    | zero => simp at h; subst h; exact ⟨rfl, rfl⟩
    | succ k =>
      rw [List.getElem?_cons_succ] at h
      have := ih h
      rw [show (k + 1) * 2 = k * 2 + 1 + 1 by omega]
      exact this
/-- while they are told; v: the slice, D: what is taken at the return -/
def EchS (J : (Nat → Prop) → Nat → World → Prop) (W : World) (v : Value) (D : Nat) (es : List Ent) (m : Nat) (w : World) : Prop :=
  ∃ M : Nat → Prop, J M m w ∧ (∀ k, v.ownBlock = some k → M k) ∧ w.ownsRow W.heap.size 139 2 v es.length (enL es) ∧ (M D ∧ w.heap[D]? = some (.deferred (some []))) ∧ (∀ k, M k → W.heap.size ≤ k ∧ k < w.heap.size) ∧ W.heap.size ≤ w.heap.size
set_option maxRecDepth 100000 in
set_option maxHeartbeats 600000 in
theorem each_iter (Bd b seed n : Nat) (r : Roles) (s : Dc.St ByteArray (Option Addr)) (W : World) (hD : Dct W r b seed n s) (hBd : W.cell? ⟨Bd, 0, none⟩ = some (.pointer (some ⟨b, 0, none⟩))) (hp : s.pos ≤ s.old.length) (hm0 : s.old.length ≤ 5400000000000) (hm1 : s.young.length ≤ 5400000000000) (hal : (Dc.all s).length ≤ 2600000000000) :
    Iter Tryz.prog 74 #[.pointer (some ⟨Bd, 0, none⟩)] eachV (fun _ _ => True) (Dc.all s) W := by
  intro l J Jx hJ hJx _ hY h0
  have hBl : Bd < W.heap.size := World.block_lt_of_cell? _ _ hBd
  have hc1 : (W.alloc (.cells #[.slice none 0 0] 135)).cell? ⟨Bd, 0, none⟩ = some (.pointer (some ⟨b, 0, none⟩)) := (((Below.refl _ W).alloc (Nat.le_refl _) _).cell (p := ⟨Bd, 0, none⟩) hBl).trans hBd
  have HY := keep hY
  have HD := keep hD
  have H0 := keep h0
  clear hY hD h0 hBd
  refine callsIn_wide (n := 9) |>.1 (callsIn_of_wp_marks Tryz.func74 rfl trivial (wpIn_wide.2 ?_) rfl)
  simp only [Tryz.ntmps74, List.size_toArray, List.length_cons, List.length_nil, Nat.reduceAdd, Nat.reduceSub, Array.replicate_succ, Array.replicate_zero, List.push_toArray, List.append_toArray, List.nil_append, List.cons_append]
  go_wp2_with fail
  refine (all_any _ _ (.inr ⟨b, rfl⟩)).mono ?_
  rintro _ w2 ⟨rfl, hw2⟩
  have hz2 : w2.heap.size = W.heap.size + 2 := by rw [hw2]; simp
  have hb2 : Below W.heap.size W w2 := by rw [hw2]; exact ((Below.refl _ W).alloc (Nat.le_refl _) _).alloc (by simp) _
  have h2H : w2.heap[W.heap.size]? = some (.cells #[.slice none 0 0] 135 (0, 0)) := by rw [hw2, Below.heap_alloc _ _ _ (by simp)]; exact heap_alloc_new _ _
  have h2B : w2.heap[W.heap.size + 1]? = some (.cells #[.pointer (some ⟨b, 0, none⟩)] 41 (0, 0)) := by
    rw [hw2]
    have := heap_alloc_new (W.alloc (.cells #[.slice none 0 0] 135)) (.cells #[.pointer (some ⟨b, 0, none⟩)] 41)
    rwa [World.size_alloc] at this
  have hI0 : EchI W W.heap.size (W.heap.size + 1) (.pointer (some ⟨b, 0, none⟩)) (Dc.all s) (fun _ => False) 0 w2 :=
    ⟨⟨.slice none 0 0, ⟨id, h2H⟩, ⟨rfl, .inl ⟨rfl, rfl⟩⟩, fun k hk => by cases hk⟩, ⟨id, h2B⟩, hb2, fun _ h => h.elim⟩
  clear hw2 hc1 hb2 h2H h2B
  go_wp2
  obtain ⟨i0, hi0, hz0, hz1, hzb⟩ := info_parts info_ent
  have HI0 := keep hI0
  clear hI0
  refine (wpIn_wide (n := 9)).1 (range_own (α := Ent) (gf := 91) (lb := #[.pointer (some ⟨W.heap.size + 1, 0, none⟩)]) (by simp [Act.eval]) (enters_of Tryz.func91 (by kernel_rfl) rfl) (encs := allV) (L := Dc.all s) (fun _ => rfl)
    (fun W1 _ => all_iter (W.heap.size + 1) b seed n r s W W1 HD.out hp hm0 hm1)
    (EchI W W.heap.size (W.heap.size + 1) (.pointer (some ⟨b, 0, none⟩)) (Dc.all s)) (fun _ _ _ _ => False) EchI.abd (fun _ _ _ _ _ _ h _ _ => h) HI0.out ?rd ?round ?done ?stop)
  case rd =>
    rintro M m W1 ⟨_, ⟨_, h4⟩, h5, _⟩
    exact ⟨h5, by rw [cell_of_row _ _ _ _ _ _ h4]; rfl⟩
  case stop => exact fun _ _ _ _ _ _ h => h.elim
  case round =>
    intro M' l' m x W1 hI hx hl hrec hM'
    obtain ⟨r0, hr0'⟩ := hrec
    obtain ⟨e1, e2⟩ := x
    have HI := keep hI
    have HX := keep hx
    have HM' := keep hM'
    have HREC := keep hr0'
    clear hI hx hM' hr0' HI0
    unfold allV
    gi_wp2
    refine ⟨Mk.alloc _ (fun k hk => (HM'.out k hk).2), fun rl => ?_⟩
    obtain ⟨W2, hW2⟩ : ∃ W2, (W1.alloc (.cells #[.string e1, .pointer e2] 139)).putObj l' (.loop rl) = W2 := ⟨_, rfl⟩
    rw [hW2]
    have hll : l' < W1.heap.size := (HM'.out l' hl).2
    have hz2' : W2.heap.size = W1.heap.size + 1 := by rw [← hW2]; simp
    have h2n : W2.heap[W1.heap.size]? = some (.cells #[.string e1, .pointer e2] 139 (0, 0)) := by rw [← hW2, World.putObj_heap_other (by omega)]; exact heap_alloc_new _ _
    have hI2 : EchI W W.heap.size (W.heap.size + 1) (.pointer (some ⟨b, 0, none⟩)) (Dc.all s) M' m W2 := EchI.abd _ _ _ _ _ HI.out (by rw [← hW2]; exact (Sep.alloc _ _ _).trans (Sep.put _ _ hl)) (Ext.refl _ _ _)
    obtain ⟨⟨v, ⟨j1, j1'⟩, j2, j3⟩, ⟨j4, j4'⟩, j5, j6⟩ := hI2
    have hml : m < (Dc.all s).length := (List.getElem?_eq_some_iff.1 HX.out).1
    obtain ⟨ao, cp, rfl⟩ : ∃ ao cp, v = .slice ao m cp := by
      rcases j2.2 with ⟨rfl, h0⟩ | ⟨g, cap, cur, rfl, _⟩
      · exact ⟨none, 0, by rw [h0]⟩
      · exact ⟨_, _, rfl⟩
    have hHl : W.heap.size < W2.heap.size := (Array.getElem?_eq_some_iff.1 j1').1
    have hBl2 : W.heap.size + 1 < W2.heap.size := (Array.getElem?_eq_some_iff.1 j4').1
    have cH : W2.cell? ⟨W.heap.size, 0, none⟩ = some (.slice ao m cp) := by rw [cell_of_row _ _ _ _ _ _ j1']; rfl
    have ce0 : W2.cell? ⟨W1.heap.size, 0, none⟩ = some (.string e1) := by rw [cell_of_row _ _ _ _ _ _ h2n]; rfl
    have ce1 : W2.cell? ⟨W1.heap.size, 1, none⟩ = some (.pointer e2) := by rw [cell_of_row _ _ _ _ _ _ h2n]; rfl
    obtain ⟨g, cap, W3, hrun, hown, hgr, hat, hg3⟩ := run_append_lies (P := Tryz.prog) (w := W2.alloc (.cells #[.string e1, .pointer e2] 139)) 135 135 W.heap.size 139 i0 _ 2 24 Tryz.underlying135 hi0 hz0 hz1 hzb rfl (by omega) (.slice ao m cp) m (enL ((Dc.all s).take m)) (j2.alloc _) ⟨W2.heap.size, 0, none⟩ 1 1 [.string e1, .pointer e2] rfl (World.news_of_block (cs := #[.string e1, .pointer e2]) (t := 139) (fr := (0, 0)) (heap_alloc_new W2 _)) (by simp [Value.oneCell']) (by omega) (by unfold maxLen; omega) (by omega) (by simp; omega) (W2.heap.size + 1) (by simp)
    have MA := keep hrun
    have hs3 : W2.heap.size + 1 ≤ W3.heap.size := by have := hgr.size; simpa using this
    have same : ∀ k, k < W2.heap.size → (Value.slice ao m cp).ownBlock ≠ some k → W3.heap[k]? = W2.heap[k]? := fun k hk hn => by
      rw [hgr.block k (by simp; omega) (fun e => hn e.symm), Below.heap_alloc _ _ _ hk]
    have h3H : W3.heap[W.heap.size]? = some (.cells #[.slice ao m cp] 135 (0, 0)) := (same _ hHl (fun e => (j3 _ e).2.1 rfl)).trans j1'
    have c3H : W3.cell? ⟨W.heap.size, 0, none⟩ = some (.slice ao m cp) := by rw [cell_of_row _ _ _ _ _ _ h3H]; rfl
    have f3H : W3.frozen? ⟨W.heap.size, 0, none⟩ = false := by simp [World.frozen?, h3H]
    have fin : Kept (rdPost (EchI W W.heap.size (W.heap.size + 1) (.pointer (some ⟨b, 0, none⟩)) (Dc.all s)) (fun _ _ _ _ => False) M' (m + 1) W2 .normal { tmps := #[], defers := [] } (W3.setCell ⟨W.heap.size, 0, none⟩ (.slice (some ⟨g, 0, none⟩) (m + 1) cap))) := by
      have hgW : g ≠ W.heap.size := fun e => by
        rcases hat with h | h
        · exact (j3 _ h).2.1 e
        · omega
      have hgB : g ≠ W.heap.size + 1 := fun e => by
        rcases hat with h | h
        · exact (j3 _ h).2.2 e
        · omega
      have hgM : ¬ M' g := fun e => by
        rcases hat with h | h
        · exact (j3 _ h).1 e
        · have := HM'.out g e; omega
      have sameS : ∀ k, k ≠ W.heap.size → (W3.setCell ⟨W.heap.size, 0, none⟩ (.slice (some ⟨g, 0, none⟩) (m + 1) cap)).heap[k]? = W3.heap[k]? := fun k hk => Below.heap_setCell _ _ _ _ hk
      have hss : (W3.setCell ⟨W.heap.size, 0, none⟩ (.slice (some ⟨g, 0, none⟩) (m + 1) cap)).heap.size = W3.heap.size := by simp [World.setCell]
      refine ⟨⟨by rw [hss]; omega, fun k hk => ?_⟩, ⟨_, ⟨j1, cells_setCell h3H⟩, ?_, fun k hk => ?_⟩, ⟨j4, ?_⟩, ?_, j6⟩
      · have hkb := HM'.out k hk
        rw [sameS k (fun e => j1 (e ▸ hk)), same k (by omega) (fun e => (j3 k e).1 hk)]
      · have e : enL ((Dc.all s).take (m + 1)) = enL ((Dc.all s).take m) ++ [.string e1, .pointer e2] := by
          rw [List.take_succ_eq_append_getElem hml]
          have := (List.getElem?_eq_some_iff.1 HX.out).2
          rw [this]
          unfold enL
          rw [List.flatMap_append]
          rfl
        rw [e]
        exact own_kept hown (fun k hk => by cases hk; exact sameS g hgW)
      · cases hk
        exact ⟨hgM, hgW, hgB⟩
      · rw [sameS _ (by omega), same _ hBl2 (fun e => (j3 _ e).2.2 rfl)]
        exact j4'
      · refine j5.trans ⟨hgr.os, hgr.tape, hgr.output, by rw [hss]; omega, fun k hk => ?_⟩
        rw [sameS k (by omega), same k (by omega) (fun e => ?_)]
        have := (j2.lt k e).1
        omega
    clear hrun hown hgr hat same h3H j1 j1' j2 j3 j4 j4' j5 j6 h2n hW2
    clear hz2'
    gi_wp2_with (first | (show wpListIn _ _ _ _ _ ({ dst := some 13, op := Op.call { callee := Callee.builtin Builtin.append, args := _, argTypes := _ }, type := _, pos := _, after := _, guard := _ } :: _) _ _; refine wpListIn_app_run rfl (.tmp 10) (.tmp 12) 135 rfl _ _ _ rfl rfl MA.out ?_))
    exact fin.out
  case done =>
    intro M' D W5 hI hD hDk hM'
    obtain ⟨⟨v, ⟨j1, j1'⟩, j2, j3⟩, ⟨j4, j4'⟩, j5, j6⟩ := hI
    rw [List.take_length] at j2
    obtain ⟨es, hes⟩ : ∃ es, Dc.all s = es := ⟨_, rfl⟩
    rw [hes] at j2 hal HY
    have HES := keep hes
    obtain ⟨L, hL⟩ : ∃ L, es.length = L := ⟨_, rfl⟩
    obtain ⟨ao, cp, rfl, hao⟩ : ∃ ao cp, v = .slice ao L cp ∧ (L = 0 ∨ ∃ g, ao = some ⟨g, 0, none⟩) := by
      rcases j2.2 with ⟨rfl, h0⟩ | ⟨g, cap, cur, rfl, _⟩
      · exact ⟨none, 0, by rw [← hL, h0], .inl (by rw [← hL]; exact h0)⟩
      · exact ⟨_, _, by rw [hL], .inr ⟨g, rfl⟩⟩
    have cH : W5.cell? ⟨W.heap.size, 0, none⟩ = some (.slice ao L cp) := by rw [cell_of_row _ _ _ _ _ _ j1']; rfl
    have HS : Kept (EchS J W (.slice ao L cp) D es 0 W5) :=
      ⟨fun k => W.heap.size ≤ k ∧ k < W5.heap.size, hJ _ _ _ _ _ H0.out (Sep.of_below j5) (fun k hk => .inr hk), fun k hk => ⟨(j2.lt k hk).1, (j2.lt k hk).2⟩, j2, ⟨⟨j6 D hD, (Array.getElem?_eq_some_iff.1 hDk).1⟩, hDk⟩, fun k hk => hk, j5.size⟩
    rw [hL] at hal
    have HL := keep hL
    clear j1 j1' j2 j3 j4 j4' j5 j6 hL hes hDk hM' HI0 H0
    go_wp2
    refine (wpIn_wide (n := 9)).1 ?_
    gi_loopw [16] (fun i wr => ∃ m : Nat, m ≤ L ∧ i = .int .i64 m ∧ Kept (EchS J W (.slice ao L cp) D es m wr)) (fun i _ => L - (intOf i).toNat)
    case atStart => exact ⟨0, Nat.zero_le _, rfl, HS⟩
    case round =>
      obtain ⟨m, hm, rfl, KS⟩ := hrel
      obtain ⟨M, q1, q2, q3, ⟨q4, q4'⟩, q5, q6⟩ := KS.out
      by_cases hlt : m < L
      · have hltz : (m : Int) < (L : Int) := by omega
        have hz0 : (0 : Int) ≤ (m : Int) := by omega
        obtain ⟨g, rfl⟩ : ∃ g, ao = some ⟨g, 0, none⟩ := by
          rcases hao with h | h
          · omega
          · exact h
        obtain ⟨e, he⟩ : ∃ e, es[m]? = some e := ⟨_, List.getElem?_eq_getElem (by rw [HL.out]; exact hlt)⟩
        obtain ⟨c0, c1⟩ := enL_at he
        have add : ∀ i, (⟨g, 0, none⟩ : Addr).add i = ⟨g, i, none⟩ := by intro i; unfold Addr.add; split <;> simp_all
        replace c0 := q3.cells (g := g) rfl _ _ c0
        replace c1 := q3.cells (g := g) rfl _ _ c1
        rw [add] at c0 c1
        obtain ⟨e1, e2⟩ := e
        dsimp only at c0 c1
        obtain ⟨W6, hW6⟩ : ∃ W6, wr.alloc (.cells #[.string e1, .pointer e2] 139) = W6 := ⟨_, rfl⟩
        have hb6 : Below wr.heap.size wr W6 := by rw [← hW6]; exact (Below.refl _ _).alloc (Nat.le_refl _) _
        have hz6 : W6.heap.size = wr.heap.size + 1 := by rw [← hW6]; simp
        have h6n : W6.heap[wr.heap.size]? = some (.cells #[.string e1, .pointer e2] 139 (0, 0)) := by rw [← hW6]; exact heap_alloc_new _ _
        have hj6 : J (fun k => M k ∨ k = wr.heap.size) m W6 := hJ _ _ _ _ _ q1 (Sep.of_below hb6) (fun k hk => by
          rcases hk with hk | hk
          · exact .inl hk
          · exact .inr (by omega))
        have b0 : W6.cell? ⟨wr.heap.size, 0, none⟩ = some (.string e1) := by rw [cell_of_row _ _ _ _ _ _ h6n]; rfl
        have b1 : W6.cell? ⟨wr.heap.size, 1, none⟩ = some (.pointer e2) := by rw [cell_of_row _ _ _ _ _ _ h6n]; rfl
        obtain ⟨fn, tmps, assign, body, hy, hR⟩ := (HY.out _ _ _ W6 hj6 he (fun k hk => by
          rcases hk with hk | hk
          · have := q5 k hk; omega
          · omega)).at 8
        unfold eachV at hy
        dsimp only at hy
        have HR := keep hR
        have fin : Kept (∀ W7, Mk (fun k => M k ∨ k = wr.heap.size) W6 W7 → ∀ J', Abd J' → J' (fun k => M k ∨ k = wr.heap.size) (m + 1) W7 → EchS J' W (.slice (some ⟨g, 0, none⟩) L cp) D es (m + 1) W7) := fun W7 hk J' hJ' h7 => by
          have kb : ∀ k o, M k → wr.heap[k]? = some o → W7.heap[k]? = some o := fun k o h1 h2 => by
            rw [hk.2 k (.inl h1), hb6.block k (q5 k h1).2]; exact h2
          have hs := hk.1
          exact ⟨M, hJ' _ _ _ _ _ h7 (Sep.refl _ _) (fun k h => .inl (.inl h)), q2, own_kept q3 (fun k hk' => by rw [hk.2 k (.inl (q2 k hk')), hb6.block k (q5 k (q2 k hk')).2]), ⟨q4, kb _ _ q4 q4'⟩, fun k h => by have := q5 k h; omega, by omega⟩
        have hW6' : wr.alloc (.cells #[.string e1, .pointer e2] 139) = W6 := hW6
        clear q1 q2 q3 q4 q4' q5 q6 he hR hj6 h6n hb6 hz6 hW6 KS add
        gi_wp2
        refine RoundIn.mono HR.out ?_
        rintro e W7 ⟨hk7, (⟨rfl, hJ7⟩ | ⟨rfl, hJx7⟩)⟩
        · have F7 := keep (fin.out W7 hk7 J hJ hJ7)
          clear hk7 hJ7 fin HR
          gi_wp2
          go_roundw
          case rel => exact ⟨m + 1, by omega, by go_num, F7⟩
          case measure => simp [intOf]; omega
        · have F7 := keep (fin.out W7 hk7 Jx hJx hJx7)
          clear hk7 hJx7 fin HR
          gi_wp2
          obtain ⟨M7, p1, p2, p3, ⟨p4, p4'⟩, p5, p6⟩ := F7.out
          refine leave_mark p4' ?_
          refine ⟨_, results_none rfl _ _ _, ⟨_, rfl⟩, M7, fun k hk => ?_, .inr ⟨m, by rw [HES.out, HL.out]; exact hlt, hJx _ _ _ _ _ p1 (Sep.put _ _ p4) (Ext.refl _ _ _)⟩⟩
          have := p5 k hk
          simp; omega
      · have hltz : ¬ (m : Int) < (L : Int) := by omega
        obtain rfl : m = L := by omega
        clear KS
        gi_wp2
        refine leave_mark q4' ?_
        refine ⟨_, results_none rfl _ _ _, ⟨_, rfl⟩, M, fun k hk => ?_, .inl (by rw [HES.out, HL.out]; exact hJ _ _ _ _ _ q1 (Sep.put _ _ q4) (Ext.refl _ _ _))⟩
        have := q5 k hk
        simp; omega
end Go.Proofs.YthmmblohfjmbcaaGreat.DP
