/-
  Contracts over this program: the calls of a dict as those of a table; what each statement asks first (wakes).
-/
import Derived.Test.YthmmblohfjmbcaaGreatPDictStep
import Derived.Laws.OwnMore
import Derived.Deep.QuietTactic
import Derived.BigQuiet
import Derived.WalkSmall
import Derived.Test.YthmmblohfjmbcaaGreatPDictMove
import Derived.Laws.CopyOwn
import Derived.Test.YthmmblohfjmbcaaGreatPDictOk
/-
  Contracts over this program: a table grows, a table shrinks.
-/
namespace Go.Proofs.YthmmblohfjmbcaaGreat.DP
open Go.RowKit Go.Shelf
theorem info_chn : (Tryz.prog.info? 136).map (fun i => (i.zero, i.size, i.bytes)) = some (some (.slice none 0 0), 1, 24) := by kernel_rfl
theorem made_at {z : Value} {n i : Nat} (h : i < n) : ((madeCells #[z] n).toList)[i]? = some z := by
  have hl : i < (madeCells #[z] n).toList.length := by rw [Array.length_toList, size_madeCells]; exact h
  rw [List.getElem?_eq_getElem hl]
  simp [madeCells, Nat.mod_one]
theorem make_tab (w : World) (r : Roles) (t n : Nat) (hn : n ≤ 5400000000000) :
    ∃ w', (Instr.makeSlice 75 (.int .i64 (n : Int)) (.int .i64 (n : Int))).run Tryz.prog w = .ok (.slice (some ⟨w.heap.size, 0, none⟩) n n) w' ∧ Tb w' (role r (.slice (some ⟨w.heap.size, 0, none⟩) n n) (1 + t, 0)) t (.slice (some ⟨w.heap.size, 0, none⟩) n n) (List.replicate n []) ∧ w.grownBy w' none ∧ w.heap.size < w'.heap.size := by
  obtain ⟨i0, hi0, hz0, hz1, hz2⟩ := info_parts info_chn
  obtain ⟨w', h1, h2, h3⟩ := run_make_full (P := Tryz.prog) w 0 75 136 i0 (.slice none 0 0) 1 Tryz.underlying75 hi0 hz0 hz1 .i64 .i64 n (by rw [hz2]; omega) (by unfold maxLen; omega) (Nat.zero_le _)
  refine ⟨w', h1, ⟨_, by rw [List.length_replicate]; exact h2, fun k e => ?_, fun i c hc => ?_⟩, h3, own_lt h2 rfl⟩
  · unfold role; rw [if_pos e]
  · obtain ⟨hi, rfl⟩ : i < n ∧ c = [] := by
      rw [List.getElem?_replicate] at hc
      split at hc
      · cases hc; exact ⟨by assumption, rfl⟩
      · cases hc
    refine ⟨.slice none 0 0, ?_, ⟨rfl, .inl ⟨rfl, rfl⟩⟩, fun k e => by cases e⟩
    rw [Nat.mul_one]
    exact made_at hi
theorem role_same {r : Roles} {v : Value} {x : Nat × Nat} {k : Nat} (h : v.ownBlock ≠ some k) : role r v x k = r k := by unfold role; rw [if_neg h]
/-- a new row of buckets for old -/
theorem new_old {w w1 : World} {r : Roles} {b seed n : Nat} {s : Dc.St ByteArray (Option Addr)} {tv yv ov : Value} {T : Dc.Tab ByteArray (Option Addr)} (hD : Dct w r b seed n s) (hb : w.heap[b]? = some (.cells #[.int .u64 seed, .int .i64 n, ov, yv, .int .i64 s.pos] 77 (0, 0))) (hy : Tb w r 1 yv s.young)
    (hg : w.grownBy w1 none) (hT : Tb w1 (role r tv (1 + 0, 0)) 0 tv T) (htv : tv.ownBlock = some w.heap.size) (hlt : w.heap.size < w1.heap.size) :
    Dct (w1.setCell ⟨b, 2, none⟩ tv) (role r tv (1 + 0, 0)) b seed n { s with old := T } ∧ Fr w r (w1.setCell ⟨b, 2, none⟩ tv) (role r tv (1 + 0, 0)) := by
  have hrb := hD.2.1
  have hbl := hD.1 b (by rw [hrb]; simp)
  have hold : ∀ k, k < w.heap.size → role r tv (1 + 0, 0) k = r k := fun k hk => role_same (by rw [htv]; intro e; cases e; omega)
  have hsz : (w1.setCell ⟨b, 2, none⟩ tv).heap.size = w1.heap.size := by simp [World.setCell]
  refine ⟨⟨fun k hk => ?_, by rw [hold b hbl]; exact hrb, tv, yv, cells_setCell ((hg.block b hbl (by simp)).trans hb), ?_, ?_⟩, ⟨hg.os, hg.tape, hg.output⟩, by rw [hsz]; omega, fun k hk hr => ⟨?_, by rw [hold k hk]; exact hr⟩⟩
  · rw [hsz]
    by_cases e : tv.ownBlock = some k
    · rw [htv] at e; cases e; exact hlt
    · rw [role_same e] at hk; have := hD.1 k hk; omega
  · refine hT.kept (fun k _ hr => ⟨Below.heap_setCell _ _ _ _ (fun e => ?_), rfl⟩)
    have e : k = b := e
    rw [e, hold b hbl, hrb] at hr; simp at hr
  · refine hy.kept (fun k hk hr => ⟨?_, hold k hk⟩)
    rw [Below.heap_setCell _ _ _ _ (fun e => by have e : k = b := e; rw [e, hrb] at hr; simp at hr)]
    exact hg.block k hk (by simp)
  · rw [Below.heap_setCell _ _ _ _ (fun e => by have e : k = b := e; rw [e, hrb] at hr; simp at hr)]
    exact hg.block k hk (by simp)
/-- a new row of buckets for young -/
theorem new_young {w w1 : World} {r : Roles} {b seed n : Nat} {s : Dc.St ByteArray (Option Addr)} {tv yv ov : Value} {T : Dc.Tab ByteArray (Option Addr)} (hD : Dct w r b seed n s) (hb : w.heap[b]? = some (.cells #[.int .u64 seed, .int .i64 n, ov, yv, .int .i64 s.pos] 77 (0, 0))) (ho : Tb w r 0 ov s.old)
    (hg : w.grownBy w1 none) (hT : Tb w1 (role r tv (1 + 1, 0)) 1 tv T) (htv : tv.ownBlock = some w.heap.size) (hlt : w.heap.size < w1.heap.size) :
    Dct (w1.setCell ⟨b, 3, none⟩ tv) (role r tv (1 + 1, 0)) b seed n { s with young := T } ∧ Fr w r (w1.setCell ⟨b, 3, none⟩ tv) (role r tv (1 + 1, 0)) := by
  have hrb := hD.2.1
  have hbl := hD.1 b (by rw [hrb]; simp)
  have hold : ∀ k, k < w.heap.size → role r tv (1 + 1, 0) k = r k := fun k hk => role_same (by rw [htv]; intro e; cases e; omega)
  have hsz : (w1.setCell ⟨b, 3, none⟩ tv).heap.size = w1.heap.size := by simp [World.setCell]
  refine ⟨⟨fun k hk => ?_, by rw [hold b hbl]; exact hrb, ov, tv, cells_setCell ((hg.block b hbl (by simp)).trans hb), ?_, ?_⟩, ⟨hg.os, hg.tape, hg.output⟩, by rw [hsz]; omega, fun k hk hr => ⟨?_, by rw [hold k hk]; exact hr⟩⟩
  · rw [hsz]
    by_cases e : tv.ownBlock = some k
    · rw [htv] at e; cases e; exact hlt
    · rw [role_same e] at hk; have := hD.1 k hk; omega
  · refine ho.kept (fun k hk hr => ⟨?_, hold k hk⟩)
    rw [Below.heap_setCell _ _ _ _ (fun e => by have e : k = b := e; rw [e, hrb] at hr; simp at hr)]
    exact hg.block k hk (by simp)
  · refine hT.kept (fun k _ hr => ⟨Below.heap_setCell _ _ _ _ (fun e => ?_), rfl⟩)
    have e : k = b := e
    rw [e, hold b hbl, hrb] at hr; simp at hr
  · rw [Below.heap_setCell _ _ _ _ (fun e => by have e : k = b := e; rw [e, hrb] at hr; simp at hr)]
    exact hg.block k hk (by simp)
theorem movingT (w : World) (b : Nat) (bo : Option Addr) (n cb : Nat) (h : w.cell? ⟨b, 3, none⟩ = some (.slice bo n cb)) (hn : 0 < n) :
    Calls Tryz.prog 83 #[.pointer (some ⟨b, 0, none⟩)] w fun e w' => e = .returned (.bool true) ∧ w' = w := by
  have := moving_any w b bo n cb h
  rw [decide_eq_true hn] at this
  exact this
set_option maxRecDepth 100000 in
set_option maxHeartbeats 2000000 in
theorem grow_any {h : ByteArray → Nat} {seed : Nat} (w : World) (r : Roles) (b n : Nat) (s : Dc.St ByteArray (Option Addr)) (hD : Dct w r b seed n s) (hI : Dc.Inv h s) (hn : s.old = [] → n = 0) (hm0 : n ≤ 2600000000000) :
    Calls Tryz.prog 82 #[.pointer (some ⟨b, 0, none⟩)] w fun x w' => x = .returned (.tuple #[]) ∧ ∃ r', Dct w' r' b seed n (Dc.grow n s) ∧ Fr w r w' r' := by
  obtain ⟨ao, ca, bo, cb, h4, h5, h3⟩ := hD.cells
  obtain ⟨c0, c1, c2, c3, c4, cf⟩ := five h3
  have hbl := hD.1 b (by rw [hD.2.1]; simp)
  have hneb : ¬ b = w.heap.size := by omega
  have HD := keep hD
  have H3 := keep h3
  have H4 := keep h4
  have H5 := keep h5
  by_cases ho : s.old = []
  · have hy : s.young = [] := Classical.byContradiction fun hh => by have := hI.move hh; rw [ho] at this; simp at this
    have hp := hI.rest hy
    have hn0 := hn ho
    subst hn0
    have hg : Dc.grow 0 s = { s with old := List.replicate 4 [] } := by
      unfold Dc.grow; rw [if_pos (by rw [ho]; rfl)]; cases s; simp only at hy hp; rw [hy, hp]
    have ol : s.old.length = 0 := by rw [ho]; rfl
    have yl : s.young.length = 0 := by rw [hy]; rfl
    rw [ol] at c2
    rw [yl] at c3
    obtain ⟨w1, m1, m2, m3, m4⟩ := make_tab w r 0 4 (by omega)
    have m1 : (Instr.makeSlice 75 (.int .i64 4) (.int .i64 4)).run Tryz.prog w = .ok (.slice (some ⟨w.heap.size, 0, none⟩) 4 4) w1 := m1
    obtain ⟨q1, q2⟩ := new_old HD.out H3.out H5.out m3 m2 rfl m4
    have Q1 := keep q1
    have Q2 := keep q2
    have d2 : (w1.setCell ⟨b, 2, none⟩ (.slice (some ⟨w.heap.size, 0, none⟩) 4 4)).heap[b]? = _ := cells_setCell ((m3.block b hbl (by simp)).trans h3)
    obtain ⟨k0, k1, k2, k3, k4, kf⟩ := five (v2 := .slice (some ⟨w.heap.size, 0, none⟩) 4 4) d2
    rw [yl] at k3
    have m0 : w1.cell? ⟨b, 2, none⟩ = some (.slice ao 0 ca) := (m3.cell (a := ⟨b, 2, none⟩) c2 (by simp))
    have f0 : w1.frozen? ⟨b, 2, none⟩ = false := by rw [World.frozen?_of_block (w := w) (a := ⟨b, 2, none⟩) (m3.block b hbl (by simp))]; exact cf 2
    clear hD hI h3 h4 h5 c0 c1 c3 c4 cf q1 q2 m2 m3 m4 d2 k0 k4 kf ho hy hp hn ol yl hm0
    generalize hW : w1.setCell ⟨b, 2, none⟩ (.slice (some ⟨w.heap.size, 0, none⟩) 4 4) = W at *
    go_enter Tryz.func82, Tryz.ntmps82
    go_wp2_with fail
    clear hW m0 f0 m1 c2
    have k1 : W.cell? ⟨b, 1, none⟩ = some (.int .i64 0) := k1
    go_quiet (first | (go_at_call 83; refine Calls.quiet_of_same (moving_any _ b bo 0 cb (by simpa using k3))))
    go_wp2
    go_end0
    exact ⟨rfl, _, by rw [hg]; exact Q1.out.below (below_drewN (Below.refl _ _) _), Q2.out.trans (Fr.of_below (below_drewN (Below.refl _ _) _))⟩
  · have hol : 0 < s.old.length := by cases hs : s.old with | nil => exact absurd hs ho | cons _ _ => simp
    have e0 : ((s.old.length : Int) == 0) = false := beq_eq_false_iff_ne.2 (by omega)
    by_cases hy : s.young = []
    · have yl : s.young.length = 0 := by rw [hy]; rfl
      have hp := hI.rest hy
      rw [yl] at c3
      by_cases hge : s.old.length ≤ n
      · have hg : Dc.grow n s = { s with young := List.replicate (2 * s.old.length) [] } := by
          unfold Dc.grow
          rw [if_neg (by rw [Dc.empty_iff]; exact ho), if_pos (by rw [hy]; simp; exact hge)]
          cases s; simp only at hp; rw [hp]
        obtain ⟨L, hL⟩ : ∃ L, s.old.length = L := ⟨_, rfl⟩
        rw [hL] at c2 hol e0 hge hg
        have HL := keep hL
        have f3 := cf 3
        have hge' : (L : Int) ≤ (n : Int) := by omega
        have hw2 : IntKind.i64.wrap (2 * (L : Int)) = 2 * (L : Int) := by rw [IntKind.wrap_i64]; omega
        have hm2 : L ≤ 2600000000000 := by omega
        clear hD hI h3 h4 h5 c0 c4 cf ho hy hp hn yl hL hge hm0
        go_enter Tryz.func82, Tryz.ntmps82
        go_wp2_with fail
        go_quiet (first | (go_at_call 83; refine Calls.quiet_of_same (moving_any _ b bo 0 cb (by simpa using c3))))
        obtain ⟨w1, m1, m2, m3, m4⟩ := make_tab (w.drewN nq) r 1 (2 * L) (by omega)
        have d3 : w1.cell? ⟨b, 3, none⟩ = some (.slice bo 0 cb) := m3.cell (a := ⟨b, 3, none⟩) (by exact c3) (by simp)
        have g3 : w1.frozen? ⟨b, 3, none⟩ = false := by rw [World.frozen?_of_block (w := w.drewN nq) (a := ⟨b, 3, none⟩) (m3.block b hbl (by simp))]; exact f3
        have HM2 := keep m2
        have HM3 := keep m3
        clear m2 m3 f3
        have m1' : (Instr.makeSlice 75 (.int .i64 (2 * (L : Int))) (.int .i64 (2 * (L : Int)))).run Tryz.prog (w.drewN nq) = .ok (.slice (some ⟨w.heap.size, 0, none⟩) (2 * L) (2 * L)) w1 := by
          have := m1
          rw [Int.natCast_mul] at this
          exact this
        clear m1
        go_wp2
        go_end0
        obtain ⟨q1, q2⟩ := new_young (HD.out.below (below_drewN (Below.refl _ _) nq)) H3.out (H4.out.kept (fun k _ _ => ⟨rfl, rfl⟩)) HM3.out HM2.out rfl m4
        rw [← hg] at q1
        exact ⟨rfl, _, q1, (Fr.of_below (below_drewN (Below.refl _ _) nq)).trans q2⟩
      · have hg : Dc.grow n s = s := by
          unfold Dc.grow
          rw [if_neg (by rw [Dc.empty_iff]; exact ho), if_neg (by rw [hy]; simp; omega)]
        obtain ⟨L, hL⟩ : ∃ L, s.old.length = L := ⟨_, rfl⟩
        rw [hL] at c2 hol e0 hge
        have hge' : ¬ (L : Int) ≤ (n : Int) := by omega
        clear hD hI h3 h4 h5 c0 c4 cf ho hy hp hn yl hL
        go_enter Tryz.func82, Tryz.ntmps82
        go_wp2_with fail
        go_quiet (first | (go_at_call 83; refine Calls.quiet_of_same (moving_any _ b bo 0 cb (by simpa using c3))))
        go_wp2
        go_end0
        exact ⟨rfl, _, by rw [hg]; exact HD.out.below (below_drewN (Below.refl _ _) _), Fr.of_below (below_drewN (Below.refl _ _) _)⟩
    · have hyl : 0 < s.young.length := by cases hs : s.young with | nil => exact absurd hs hy | cons _ _ => simp
      have hg : Dc.grow n s = s := by
        unfold Dc.grow
        rw [if_neg (by rw [Dc.empty_iff]; exact ho), if_neg (by rw [Bool.and_eq_true, Dc.empty_iff]; exact fun hh => hy hh.1)]
      obtain ⟨L, hL⟩ : ∃ L, s.old.length = L := ⟨_, rfl⟩
      rw [hL] at c2 hol e0
      obtain ⟨Y, hY⟩ : ∃ Y, s.young.length = Y := ⟨_, rfl⟩
      rw [hY] at c3 hyl
      have hd : decide (0 < Y) = true := decide_eq_true hyl
      clear hD hI h3 h4 h5 c0 c4 cf ho hy hn hL hY
      go_enter Tryz.func82, Tryz.ntmps82
      go_wp2_with fail
      go_quiet (first | (go_at_call 83; refine Calls.quiet_of_same (movingT _ b bo Y cb (by simpa using c3) hyl)))
      go_wp2
      go_end0
      exact ⟨rfl, _, by rw [hg]; exact HD.out.below (below_drewN (Below.refl _ _) _), Fr.of_below (below_drewN (Below.refl _ _) _)⟩
end Go.Proofs.YthmmblohfjmbcaaGreat.DP

/-
  Contracts over this program: a table shrinks; an entry is taken out of its chain.
-/
namespace Go.Proofs.YthmmblohfjmbcaaGreat.DP
open Go.RowKit Go.Shelf
theorem fit_end {f m n : Nat} (h : n ≤ m) : Dc.fitF f m n = m := by
  cases f with
  | zero => rfl
  | succ f => simp only [Dc.fitF]; rw [if_neg (by omega)]
theorem fit_on {f m n : Nat} (h : m < n) : Dc.fitF (f + 1) m n = Dc.fitF f (2 * m) n := by
  simp only [Dc.fitF]; rw [if_pos h]
def heldS (b n : Nat) (ao bo : Option Addr) (L ca cb : Nat) (w : World) : Prop := w.cell? ⟨b, 1, none⟩ = some (.int .i64 n) ∧ w.cell? ⟨b, 2, none⟩ = some (.slice ao L ca) ∧ w.cell? ⟨b, 3, none⟩ = some (.slice bo 0 cb)
set_option maxRecDepth 100000 in
set_option maxHeartbeats 1000000 in
theorem shrink_any {h : ByteArray → Nat} {seed : Nat} (w : World) (r : Roles) (b n : Nat) (s : Dc.St ByteArray (Option Addr)) (hD : Dct w r b seed n s) (hI : Dc.Inv h s) (hm0 : s.old.length ≤ 5400000000000) (hm1 : n ≤ 2600000000000) :
    Calls Tryz.prog 87 #[.pointer (some ⟨b, 0, none⟩)] w fun x w' => x = .returned (.tuple #[]) ∧ ∃ r', Dct w' r' b seed n (Dc.shrink n s) ∧ Fr w r w' r' := by
  obtain ⟨ao, ca, bo, cb, h4, h5, h3⟩ := hD.cells
  obtain ⟨c0, c1, c2, c3, c4, cf⟩ := five h3
  have hbl := hD.1 b (by rw [hD.2.1]; simp)
  have hneb : ¬ b = w.heap.size := by omega
  have HD := keep hD
  have H3 := keep h3
  have H4 := keep h4
  have f3 := cf 3
  obtain ⟨L, hL⟩ : ∃ L, s.old.length = L := ⟨_, rfl⟩
  rw [hL] at c2 hm0
  have HM0 := keep hm0
  have HM1 := keep hm1
  clear hm0 hm1
  by_cases hy : s.young = []
  · have yl : s.young.length = 0 := by rw [hy]; rfl
    have hp := hI.rest hy
    rw [yl] at c3
    by_cases h4 : L ≤ 4
    · have hg : Dc.shrink n s = s := by
        unfold Dc.shrink
        rw [hL, if_neg (by simp; omega)]
      have e4 : (L : Int) ≤ 4 := by omega
      have d4 : decide (L ≤ 4) = true := decide_eq_true h4
      clear hD hI h3 h5 c0 c4 cf hy hp yl hL
      go_enter Tryz.func87, Tryz.ntmps87
      go_wp2_with fail
      refine wp_region_held_drew (S := heldS b n ao bo L ca cb) (by kernel_rfl) ⟨c1, c2, c3⟩ (fun hHeld => ?_)
      refine wpAnyH_take (i := 0) (oi := { dst := some 3, op := _, type := _, pos := _, after := _, guard := _ }) (v := ?v1) rfl (by kernel_rfl) (by kernel_rfl) (by kernel_rfl) (fun _ _ _ h => h) (Or.inl ⟨by rfl, ?hy1⟩) (by assumption) ?rest1
      case hy1 => (intro w hSw; go_simp; try with_reducible rfl)
      try simp only [Act.put, List.setIfInBounds_toArray, List.set_cons_zero, List.set_cons_succ]
      refine wpAnyH_ready (rs := [1]) (by kernel_rfl) (by simp) ?_
      refine AllReadyH.cons (o := { dst := some 4, op := _, type := _, pos := _, after := _, guard := _ }) rfl (fun K hK => ?_) AllReadyH.nil
      go_simp
      refine (moving_any _ b bo 0 cb (by simpa using c3)).mono ?_
      rintro _ w' ⟨rfl, hw'⟩
      subst hw'
      refine hK.out _ _ hHeld (fun hHeld => ?_)
      try simp only [Act.put, List.setIfInBounds_toArray, List.set_cons_zero, List.set_cons_succ]
      clear hK
      refine wpAnyH_take (i := 2) (oi := { dst := some 5, op := _, type := _, pos := _, after := _, guard := _ }) (v := (.bool false)) rfl (by kernel_rfl) (by kernel_rfl) (by kernel_rfl) (fun _ _ _ h => h) (Or.inl ⟨by rfl, ?hy2⟩) (by assumption) ?rest2
      case hy2 => (intro w hSw; obtain ⟨q1, q2, q3⟩ := hSw; first | (go_simp; done) | (go_simp; simp [*]; done) | (simp [*]; go_simp; done))
      try simp only [Act.put, List.setIfInBounds_toArray, List.set_cons_zero, List.set_cons_succ]
      refine wpAnyH_take (i := 3) (oi := { dst := some 6, op := _, type := _, pos := _, after := _, guard := _ }) (v := ?v3) rfl (by kernel_rfl) (by kernel_rfl) (by kernel_rfl) (fun _ _ _ h => h) (Or.inl ⟨by rfl, ?hy3⟩) (by assumption) ?rest3
      case hy3 => (intro w hSw; obtain ⟨q1, q2, q3⟩ := hSw; go_simp; try with_reducible rfl)
      try simp only [Act.put, List.setIfInBounds_toArray, List.set_cons_zero, List.set_cons_succ]
      refine wpAnyH_take (i := 4) (oi := { dst := some 7, op := _, type := _, pos := _, after := _, guard := _ }) (v := ?v4) rfl (by kernel_rfl) (by kernel_rfl) (by kernel_rfl) (fun _ _ _ h => h) (Or.inl ⟨by rfl, ?hy4⟩) (by assumption) ?rest4
      case hy4 => (intro w hSw; obtain ⟨q1, q2, q3⟩ := hSw; go_simp; try with_reducible rfl)
      try simp only [Act.put, List.setIfInBounds_toArray, List.set_cons_zero, List.set_cons_succ]
      refine wpAnyH_take (i := 5) (oi := { dst := some 8, op := _, type := _, pos := _, after := _, guard := _ }) (v := ?v5) rfl (by kernel_rfl) (by kernel_rfl) (by kernel_rfl) (fun _ _ _ h => h) (Or.inl ⟨by rfl, ?hy5⟩) (by assumption) ?rest5
      case hy5 => (intro w hSw; obtain ⟨q1, q2, q3⟩ := hSw; go_simp; try with_reducible rfl)
      try simp only [Act.put, List.setIfInBounds_toArray, List.set_cons_zero, List.set_cons_succ]
      refine wpAnyH_take (i := 6) (oi := { dst := some 9, op := _, type := _, pos := _, after := _, guard := _ }) (v := ?v6) rfl (by kernel_rfl) (by kernel_rfl) (by kernel_rfl) (fun _ _ _ h => h) (Or.inl ⟨by rfl, ?hy6⟩) (by assumption) ?rest6
      case hy6 => (intro w hSw; obtain ⟨q1, q2, q3⟩ := hSw; go_simp; try with_reducible rfl)
      try simp only [Act.put, List.setIfInBounds_toArray, List.set_cons_zero, List.set_cons_succ]
      refine wpAnyH_take (i := 7) (oi := { dst := some 10, op := _, type := _, pos := _, after := _, guard := _ }) (v := ?v7) rfl (by kernel_rfl) (by kernel_rfl) (by kernel_rfl) (fun _ _ _ h => h) (Or.inl ⟨by rfl, ?hy7⟩) (by assumption) ?rest7
      case hy7 => (intro w hSw; obtain ⟨q1, q2, q3⟩ := hSw; go_simp; try with_reducible rfl)
      try simp only [Act.put, List.setIfInBounds_toArray, List.set_cons_zero, List.set_cons_succ]
      refine wpAnyH_take (i := 8) (oi := { dst := some 11, op := _, type := _, pos := _, after := _, guard := _ }) (v := (.bool true)) rfl (by kernel_rfl) (by kernel_rfl) (by kernel_rfl) (fun _ _ _ h => h) (Or.inl ⟨by rfl, ?hy8⟩) (by assumption) ?rest8
      case hy8 => (intro w hSw; obtain ⟨q1, q2, q3⟩ := hSw; first | (go_simp; done) | (go_simp; simp [*]; done) | (simp [*]; go_simp; done))
      try simp only [Act.put, List.setIfInBounds_toArray, List.set_cons_zero, List.set_cons_succ]
      refine wpAnyH_take (i := 9) (oi := { dst := some 12, op := _, type := _, pos := _, after := _, guard := _ }) (v := (.bool true)) rfl (by kernel_rfl) (by kernel_rfl) (by kernel_rfl) (fun _ _ _ h => h) (Or.inl ⟨by rfl, ?hy9⟩) (by assumption) ?rest9
      case hy9 => (intro w hSw; obtain ⟨q1, q2, q3⟩ := hSw; first | (go_simp; done) | (go_simp; simp [*]; done) | (simp [*]; go_simp; done))
      try simp only [Act.put, List.setIfInBounds_toArray, List.set_cons_zero, List.set_cons_succ]
      refine wpAnyH_take (i := 10) (oi := { dst := some 13, op := _, type := _, pos := _, after := _, guard := _ }) (v := (.bool true)) rfl (by kernel_rfl) (by kernel_rfl) (by kernel_rfl) (fun _ _ _ h => h) (Or.inl ⟨by rfl, ?hy10⟩) (by assumption) ?rest10
      case hy10 => (intro w hSw; obtain ⟨q1, q2, q3⟩ := hSw; first | (go_simp; done) | (go_simp; simp [*]; done) | (simp [*]; go_simp; done))
      try simp only [Act.put, List.setIfInBounds_toArray, List.set_cons_zero, List.set_cons_succ]
      refine wpAnyH_take (i := 11) (oi := { dst := some 14, op := _, type := _, pos := _, after := _, guard := _ }) (v := _) rfl (by kernel_rfl) (by kernel_rfl) (by kernel_rfl) (fun _ _ _ h => h) (Or.inr ⟨by rfl, rfl⟩) (by assumption) ?_
      try simp only [Act.put, List.setIfInBounds_toArray, List.set_cons_zero, List.set_cons_succ]
      refine wpAnyH_take (i := 12) (oi := { dst := some 15, op := _, type := _, pos := _, after := _, guard := _ }) (v := _) rfl (by kernel_rfl) (by kernel_rfl) (by kernel_rfl) (fun _ _ _ h => h) (Or.inr ⟨by rfl, rfl⟩) (by assumption) ?_
      try simp only [Act.put, List.setIfInBounds_toArray, List.set_cons_zero, List.set_cons_succ]
      refine wpAnyH_take (i := 13) (oi := { dst := some 16, op := _, type := _, pos := _, after := _, guard := _ }) (v := _) rfl (by kernel_rfl) (by kernel_rfl) (by kernel_rfl) (fun _ _ _ h => h) (Or.inr ⟨by rfl, rfl⟩) (by assumption) ?_
      try simp only [Act.put, List.setIfInBounds_toArray, List.set_cons_zero, List.set_cons_succ]
      refine wpAnyH_take (i := 14) (oi := { dst := some 17, op := _, type := _, pos := _, after := _, guard := _ }) (v := _) rfl (by kernel_rfl) (by kernel_rfl) (by kernel_rfl) (fun _ _ _ h => h) (Or.inr ⟨by rfl, rfl⟩) (by assumption) ?_
      try simp only [Act.put, List.setIfInBounds_toArray, List.set_cons_zero, List.set_cons_succ]
      refine wpAnyH_take (i := 15) (oi := { dst := some 18, op := _, type := _, pos := _, after := _, guard := _ }) (v := _) rfl (by kernel_rfl) (by kernel_rfl) (by kernel_rfl) (fun _ _ _ h => h) (Or.inr ⟨by rfl, rfl⟩) (by assumption) ?_
      try simp only [Act.put, List.setIfInBounds_toArray, List.set_cons_zero, List.set_cons_succ]
      refine wpAnyH_take (i := 16) (oi := { dst := some 19, op := _, type := _, pos := _, after := _, guard := _ }) (v := _) rfl (by kernel_rfl) (by kernel_rfl) (by kernel_rfl) (fun _ _ _ h => h) (Or.inr ⟨by rfl, rfl⟩) (by assumption) ?_
      try simp only [Act.put, List.setIfInBounds_toArray, List.set_cons_zero, List.set_cons_succ]
      refine wpAnyH_take (i := 17) (oi := { dst := some 20, op := _, type := _, pos := _, after := _, guard := _ }) (v := _) rfl (by kernel_rfl) (by kernel_rfl) (by kernel_rfl) (fun _ _ _ h => h) (Or.inr ⟨by rfl, rfl⟩) (by assumption) ?_
      try simp only [Act.put, List.setIfInBounds_toArray, List.set_cons_zero, List.set_cons_succ]
      refine wpAnyH_take (i := 18) (oi := { dst := some 21, op := _, type := _, pos := _, after := _, guard := _ }) (v := _) rfl (by kernel_rfl) (by kernel_rfl) (by kernel_rfl) (fun _ _ _ h => h) (Or.inr ⟨by rfl, rfl⟩) (by assumption) ?_
      try simp only [Act.put, List.setIfInBounds_toArray, List.set_cons_zero, List.set_cons_succ]
      refine wpAnyH_take (i := 19) (oi := { dst := some 22, op := _, type := _, pos := _, after := _, guard := _ }) (v := _) rfl (by kernel_rfl) (by kernel_rfl) (by kernel_rfl) (fun _ _ _ h => h) (Or.inr ⟨by rfl, rfl⟩) (by assumption) ?_
      try simp only [Act.put, List.setIfInBounds_toArray, List.set_cons_zero, List.set_cons_succ]
      refine wpAnyH_take (i := 20) (oi := { dst := some 23, op := _, type := _, pos := _, after := _, guard := _ }) (v := _) rfl (by kernel_rfl) (by kernel_rfl) (by kernel_rfl) (fun _ _ _ h => h) (Or.inr ⟨by rfl, rfl⟩) (by assumption) ?_
      try simp only [Act.put, List.setIfInBounds_toArray, List.set_cons_zero, List.set_cons_succ]
      refine wpAnyH_take (i := 21) (oi := { dst := some 24, op := _, type := _, pos := _, after := _, guard := _ }) (v := _) rfl (by kernel_rfl) (by kernel_rfl) (by kernel_rfl) (fun _ _ _ h => h) (Or.inr ⟨by rfl, rfl⟩) (by assumption) ?_
      try simp only [Act.put, List.setIfInBounds_toArray, List.set_cons_zero, List.set_cons_succ]
      refine wpAnyH_take (i := 22) (oi := { dst := some 25, op := _, type := _, pos := _, after := _, guard := _ }) (v := (.bool true)) rfl (by kernel_rfl) (by kernel_rfl) (by kernel_rfl) (fun _ _ _ h => h) (Or.inl ⟨by rfl, ?hy11⟩) (by assumption) ?rest11
      case hy11 => (intro w hSw; first | (go_simp; done) | (go_simp; simp [*]; done) | (simp [*]; go_simp; done))
      try simp only [Act.put, List.setIfInBounds_toArray, List.set_cons_zero, List.set_cons_succ]
      refine wpAnyH_done (by kernel_rfl) ?_ _
      clear hHeld
      go_wp2
      refine bodyPost_ret (results_none rfl _ _ _) rfl ?_
      exact ⟨rfl, _, by rw [hg]; exact HD.out.below ((Below.refl _ _).drew), Fr.of_below ((Below.refl _ _).drew)⟩
    · have e4 : ¬ (L : Int) ≤ 4 := by omega
      have d4 : decide (L ≤ 4) = false := decide_eq_false h4
      have hqw : IntKind.i64.wrap ((L : Int) / 8) = (L : Int) / 8 := by have := HM0.out; rw [IntKind.wrap_i64]; omega
      by_cases h8 : 8 * n ≤ L
      · have hg : Dc.shrink n s = { s with young := List.replicate (Dc.fit n) [] } := by
          unfold Dc.shrink
          rw [hL, if_pos (by rw [hy]; simp; omega)]
          cases s; simp only at hp; rw [hp]
        have HG := keep hg
        clear hg
        have e8 : ¬ (L : Int) / 8 < (n : Int) := by omega
        have d8 : decide ((L : Int) / 8 < (n : Int)) = false := decide_eq_false (by omega)
        clear hD hI h3 h5 c0 c4 cf hy hp yl hL
        go_enter Tryz.func87, Tryz.ntmps87
        go_wp2_with fail
        refine wp_region_held_drew (S := heldS b n ao bo L ca cb) (by kernel_rfl) ⟨c1, c2, c3⟩ (fun hHeld => ?_)
        refine wpAnyH_take (i := 0) (oi := { dst := some 3, op := _, type := _, pos := _, after := _, guard := _ }) (v := ?v12) rfl (by kernel_rfl) (by kernel_rfl) (by kernel_rfl) (fun _ _ _ h => h) (Or.inl ⟨by rfl, ?hy12⟩) (by assumption) ?rest12
        case hy12 => (intro w hSw; go_simp; try with_reducible rfl)
        try simp only [Act.put, List.setIfInBounds_toArray, List.set_cons_zero, List.set_cons_succ]
        refine wpAnyH_ready (rs := [1]) (by kernel_rfl) (by simp) ?_
        refine AllReadyH.cons (o := { dst := some 4, op := _, type := _, pos := _, after := _, guard := _ }) rfl (fun K hK => ?_) AllReadyH.nil
        go_simp
        refine (moving_any _ b bo 0 cb (by simpa using c3)).mono ?_
        rintro _ w' ⟨rfl, hw'⟩
        subst hw'
        refine hK.out _ _ hHeld (fun hHeld => ?_)
        try simp only [Act.put, List.setIfInBounds_toArray, List.set_cons_zero, List.set_cons_succ]
        clear hK
        refine wpAnyH_take (i := 2) (oi := { dst := some 5, op := _, type := _, pos := _, after := _, guard := _ }) (v := (.bool false)) rfl (by kernel_rfl) (by kernel_rfl) (by kernel_rfl) (fun _ _ _ h => h) (Or.inl ⟨by rfl, ?hy13⟩) (by assumption) ?rest13
        case hy13 => (intro w hSw; obtain ⟨q1, q2, q3⟩ := hSw; first | (go_simp; done) | (go_simp; simp [*]; done) | (simp [*]; go_simp; done))
        try simp only [Act.put, List.setIfInBounds_toArray, List.set_cons_zero, List.set_cons_succ]
        refine wpAnyH_take (i := 3) (oi := { dst := some 6, op := _, type := _, pos := _, after := _, guard := _ }) (v := ?v14) rfl (by kernel_rfl) (by kernel_rfl) (by kernel_rfl) (fun _ _ _ h => h) (Or.inl ⟨by rfl, ?hy14⟩) (by assumption) ?rest14
        case hy14 => (intro w hSw; obtain ⟨q1, q2, q3⟩ := hSw; go_simp; try with_reducible rfl)
        try simp only [Act.put, List.setIfInBounds_toArray, List.set_cons_zero, List.set_cons_succ]
        refine wpAnyH_take (i := 4) (oi := { dst := some 7, op := _, type := _, pos := _, after := _, guard := _ }) (v := ?v15) rfl (by kernel_rfl) (by kernel_rfl) (by kernel_rfl) (fun _ _ _ h => h) (Or.inl ⟨by rfl, ?hy15⟩) (by assumption) ?rest15
        case hy15 => (intro w hSw; obtain ⟨q1, q2, q3⟩ := hSw; go_simp; try with_reducible rfl)
        try simp only [Act.put, List.setIfInBounds_toArray, List.set_cons_zero, List.set_cons_succ]
        refine wpAnyH_take (i := 5) (oi := { dst := some 8, op := _, type := _, pos := _, after := _, guard := _ }) (v := ?v16) rfl (by kernel_rfl) (by kernel_rfl) (by kernel_rfl) (fun _ _ _ h => h) (Or.inl ⟨by rfl, ?hy16⟩) (by assumption) ?rest16
        case hy16 => (intro w hSw; obtain ⟨q1, q2, q3⟩ := hSw; go_simp; try with_reducible rfl)
        try simp only [Act.put, List.setIfInBounds_toArray, List.set_cons_zero, List.set_cons_succ]
        refine wpAnyH_take (i := 6) (oi := { dst := some 9, op := _, type := _, pos := _, after := _, guard := _ }) (v := ?v17) rfl (by kernel_rfl) (by kernel_rfl) (by kernel_rfl) (fun _ _ _ h => h) (Or.inl ⟨by rfl, ?hy17⟩) (by assumption) ?rest17
        case hy17 => (intro w hSw; obtain ⟨q1, q2, q3⟩ := hSw; go_simp; try with_reducible rfl)
        try simp only [Act.put, List.setIfInBounds_toArray, List.set_cons_zero, List.set_cons_succ]
        refine wpAnyH_take (i := 7) (oi := { dst := some 10, op := _, type := _, pos := _, after := _, guard := _ }) (v := ?v18) rfl (by kernel_rfl) (by kernel_rfl) (by kernel_rfl) (fun _ _ _ h => h) (Or.inl ⟨by rfl, ?hy18⟩) (by assumption) ?rest18
        case hy18 => (intro w hSw; obtain ⟨q1, q2, q3⟩ := hSw; go_simp; try with_reducible rfl)
        try simp only [Act.put, List.setIfInBounds_toArray, List.set_cons_zero, List.set_cons_succ]
        refine wpAnyH_take (i := 8) (oi := { dst := some 11, op := _, type := _, pos := _, after := _, guard := _ }) (v := (.bool false)) rfl (by kernel_rfl) (by kernel_rfl) (by kernel_rfl) (fun _ _ _ h => h) (Or.inl ⟨by rfl, ?hy19⟩) (by assumption) ?rest19
        case hy19 => (intro w hSw; obtain ⟨q1, q2, q3⟩ := hSw; first | (go_simp; done) | (go_simp; simp [*]; done) | (simp [*]; go_simp; done))
        try simp only [Act.put, List.setIfInBounds_toArray, List.set_cons_zero, List.set_cons_succ]
        refine wpAnyH_take (i := 9) (oi := { dst := some 12, op := _, type := _, pos := _, after := _, guard := _ }) (v := (.bool false)) rfl (by kernel_rfl) (by kernel_rfl) (by kernel_rfl) (fun _ _ _ h => h) (Or.inl ⟨by rfl, ?hy20⟩) (by assumption) ?rest20
        case hy20 => (intro w hSw; obtain ⟨q1, q2, q3⟩ := hSw; first | (go_simp; done) | (go_simp; simp [*]; done) | (simp [*]; go_simp; done))
        try simp only [Act.put, List.setIfInBounds_toArray, List.set_cons_zero, List.set_cons_succ]
        refine wpAnyH_take (i := 10) (oi := { dst := some 13, op := _, type := _, pos := _, after := _, guard := _ }) (v := (.bool false)) rfl (by kernel_rfl) (by kernel_rfl) (by kernel_rfl) (fun _ _ _ h => h) (Or.inl ⟨by rfl, ?hy21⟩) (by assumption) ?rest21
        case hy21 => (intro w hSw; obtain ⟨q1, q2, q3⟩ := hSw; first | (go_simp; done) | (go_simp; simp [*]; done) | (simp [*]; go_simp; done))
        try simp only [Act.put, List.setIfInBounds_toArray, List.set_cons_zero, List.set_cons_succ]
        refine wpAnyH_take (i := 11) (oi := { dst := some 14, op := _, type := _, pos := _, after := _, guard := _ }) (v := ?v22) rfl (by kernel_rfl) (by kernel_rfl) (by kernel_rfl) (fun _ _ _ h => h) (Or.inl ⟨by rfl, ?hy22⟩) (by assumption) ?rest22
        case hy22 => (intro w hSw; obtain ⟨q1, q2, q3⟩ := hSw; go_simp; try with_reducible rfl)
        try simp only [Act.put, List.setIfInBounds_toArray, List.set_cons_zero, List.set_cons_succ]
        refine wpAnyH_take (i := 12) (oi := { dst := some 15, op := _, type := _, pos := _, after := _, guard := _ }) (v := ?v23) rfl (by kernel_rfl) (by kernel_rfl) (by kernel_rfl) (fun _ _ _ h => h) (Or.inl ⟨by rfl, ?hy23⟩) (by assumption) ?rest23
        case hy23 => (intro w hSw; obtain ⟨q1, q2, q3⟩ := hSw; go_simp; try with_reducible rfl)
        try simp only [Act.put, List.setIfInBounds_toArray, List.set_cons_zero, List.set_cons_succ]
        refine wpAnyH_take (i := 13) (oi := { dst := some 16, op := _, type := _, pos := _, after := _, guard := _ }) (v := ?v24) rfl (by kernel_rfl) (by kernel_rfl) (by kernel_rfl) (fun _ _ _ h => h) (Or.inl ⟨by rfl, ?hy24⟩) (by assumption) ?rest24
        case hy24 => (intro w hSw; obtain ⟨q1, q2, q3⟩ := hSw; go_simp; try with_reducible rfl)
        try simp only [Act.put, List.setIfInBounds_toArray, List.set_cons_zero, List.set_cons_succ]
        refine wpAnyH_take (i := 14) (oi := { dst := some 17, op := _, type := _, pos := _, after := _, guard := _ }) (v := ?v25) rfl (by kernel_rfl) (by kernel_rfl) (by kernel_rfl) (fun _ _ _ h => h) (Or.inl ⟨by rfl, ?hy25⟩) (by assumption) ?rest25
        case hy25 => (intro w hSw; obtain ⟨q1, q2, q3⟩ := hSw; go_simp; try with_reducible rfl)
        try simp only [Act.put, List.setIfInBounds_toArray, List.set_cons_zero, List.set_cons_succ]
        refine wpAnyH_take (i := 15) (oi := { dst := some 18, op := _, type := _, pos := _, after := _, guard := _ }) (v := ?v26) rfl (by kernel_rfl) (by kernel_rfl) (by kernel_rfl) (fun _ _ _ h => h) (Or.inl ⟨by rfl, ?hy26⟩) (by assumption) ?rest26
        case hy26 => (intro w hSw; obtain ⟨q1, q2, q3⟩ := hSw; go_simp; try with_reducible rfl)
        try simp only [Act.put, List.setIfInBounds_toArray, List.set_cons_zero, List.set_cons_succ]
        refine wpAnyH_take (i := 16) (oi := { dst := some 19, op := _, type := _, pos := _, after := _, guard := _ }) (v := ?v27) rfl (by kernel_rfl) (by kernel_rfl) (by kernel_rfl) (fun _ _ _ h => h) (Or.inl ⟨by rfl, ?hy27⟩) (by assumption) ?rest27
        case hy27 => (intro w hSw; obtain ⟨q1, q2, q3⟩ := hSw; go_simp; try with_reducible rfl)
        try simp only [Act.put, List.setIfInBounds_toArray, List.set_cons_zero, List.set_cons_succ]
        refine wpAnyH_take (i := 17) (oi := { dst := some 20, op := _, type := _, pos := _, after := _, guard := _ }) (v := ?v28) rfl (by kernel_rfl) (by kernel_rfl) (by kernel_rfl) (fun _ _ _ h => h) (Or.inl ⟨by rfl, ?hy28⟩) (by assumption) ?rest28
        case hy28 => (intro w hSw; obtain ⟨q1, q2, q3⟩ := hSw; go_simp; try with_reducible rfl)
        try simp only [Act.put, List.setIfInBounds_toArray, List.set_cons_zero, List.set_cons_succ]
        refine wpAnyH_take (i := 18) (oi := { dst := some 21, op := _, type := _, pos := _, after := _, guard := _ }) (v := ?v29) rfl (by kernel_rfl) (by kernel_rfl) (by kernel_rfl) (fun _ _ _ h => h) (Or.inl ⟨by rfl, ?hy29⟩) (by assumption) ?rest29
        case hy29 => (intro w hSw; obtain ⟨q1, q2, q3⟩ := hSw; go_simp; try with_reducible rfl)
        try simp only [Act.put, List.setIfInBounds_toArray, List.set_cons_zero, List.set_cons_succ]
        refine wpAnyH_take (i := 19) (oi := { dst := some 22, op := _, type := _, pos := _, after := _, guard := _ }) (v := ?v30) rfl (by kernel_rfl) (by kernel_rfl) (by kernel_rfl) (fun _ _ _ h => h) (Or.inl ⟨by rfl, ?hy30⟩) (by assumption) ?rest30
        case hy30 => (intro w hSw; obtain ⟨q1, q2, q3⟩ := hSw; go_simp; try with_reducible rfl)
        try simp only [Act.put, List.setIfInBounds_toArray, List.set_cons_zero, List.set_cons_succ]
        refine wpAnyH_take (i := 20) (oi := { dst := some 23, op := _, type := _, pos := _, after := _, guard := _ }) (v := (.int .i64 ((L : Int) / 8))) rfl (by kernel_rfl) (by kernel_rfl) (by kernel_rfl) (fun _ _ _ h => h) (Or.inl ⟨by rfl, ?hy31⟩) (by assumption) ?rest31
        case hy31 => (intro w hSw; obtain ⟨q1, q2, q3⟩ := hSw; first | (go_simp; done) | (go_simp; simp [*]; done) | (simp [*]; go_simp; done))
        try simp only [Act.put, List.setIfInBounds_toArray, List.set_cons_zero, List.set_cons_succ]
        refine wpAnyH_take (i := 21) (oi := { dst := some 24, op := _, type := _, pos := _, after := _, guard := _ }) (v := (.bool false)) rfl (by kernel_rfl) (by kernel_rfl) (by kernel_rfl) (fun _ _ _ h => h) (Or.inl ⟨by rfl, ?hy32⟩) (by assumption) ?rest32
        case hy32 => (intro w hSw; obtain ⟨q1, q2, q3⟩ := hSw; first | (go_simp; done) | (go_simp; simp [*]; done) | (simp [*]; go_simp; done))
        try simp only [Act.put, List.setIfInBounds_toArray, List.set_cons_zero, List.set_cons_succ]
        refine wpAnyH_take (i := 22) (oi := { dst := some 25, op := _, type := _, pos := _, after := _, guard := _ }) (v := (.bool false)) rfl (by kernel_rfl) (by kernel_rfl) (by kernel_rfl) (fun _ _ _ h => h) (Or.inl ⟨by rfl, ?hy33⟩) (by assumption) ?rest33
        case hy33 => (intro w hSw; obtain ⟨q1, q2, q3⟩ := hSw; first | (go_simp; done) | (go_simp; simp [*]; done) | (simp [*]; go_simp; done))
        try simp only [Act.put, List.setIfInBounds_toArray, List.set_cons_zero, List.set_cons_succ]
        refine wpAnyH_done (by kernel_rfl) ?_ _
        clear hHeld
        go_wp2
        go_loopw [2] (fun i wr => ∃ f m : Nat, i = .int .i64 m ∧ wr = w.drew ∧ 0 < m ∧ m ≤ 2 * n + 4 ∧ n ≤ m + f ∧ Kept (Dc.fitF f m n = Dc.fit n)) (fun i _ => n - (intOf i).toNat)
        case atStart => exact ⟨n, 4, rfl, rfl, by omega, by omega, by omega, rfl⟩
        case round =>
          obtain ⟨f, m, rfl, rfl, h0, h1, h2, KF⟩ := hrel
          by_cases hlt : m < n
          · have hlt' : (m : Int) < (n : Int) := by omega
            obtain ⟨f, rfl⟩ : ∃ f', f = f' + 1 := ⟨f - 1, by omega⟩
            have hw2 : IntKind.i64.wrap ((m : Int) * 2) = ((2 * m : Nat) : Int) := by have := HM1.out; rw [IntKind.wrap_i64]; omega
            go_wp2
            go_roundw
            case measure => simp [intOf]; omega
            case rel => exact ⟨f, 2 * m, by simp, trivial, by omega, by omega, by omega, by show _ = _; rw [← fit_on hlt]; exact KF.out⟩
          · have hlt' : ¬ (m : Int) < (n : Int) := by omega
            have hfit : Dc.fit n = m := by rw [← KF.out, fit_end (by omega)]
            have hg := HG.out
            rw [hfit] at hg
            have HG2 := keep hg
            clear hg
            obtain ⟨w1, m1, m2, m3, m4⟩ := make_tab (w.drew) r 1 m (by have := HM1.out; omega)
            have d3 : w1.cell? ⟨b, 3, none⟩ = some (.slice bo 0 cb) := m3.cell (a := ⟨b, 3, none⟩) (by exact c3) (by simp)
            have g3 : w1.frozen? ⟨b, 3, none⟩ = false := by rw [World.frozen?_of_block (w := w.drew) (a := ⟨b, 3, none⟩) (m3.block b hbl (by simp))]; exact f3
            have HM2 := keep m2
            have HM3 := keep m3
            clear m2 m3 f3 hfit
            go_wp2
            go_end0
            obtain ⟨q1, q2⟩ := new_young (HD.out.below (Below.refl _ _).drew) H3.out (H4.out.kept (fun k _ _ => ⟨rfl, rfl⟩)) HM3.out HM2.out rfl m4
            rw [← HG2.out] at q1
            exact ⟨rfl, _, q1, (Fr.of_below (Below.refl _ _).drew).trans q2⟩
      · have hg : Dc.shrink n s = s := by
          unfold Dc.shrink
          rw [hL, if_neg (by simp; omega)]
        have e8 : (L : Int) / 8 < (n : Int) := by omega
        have d8 : decide ((L : Int) / 8 < (n : Int)) = true := decide_eq_true (by omega)
        clear hD hI h3 h5 c0 c4 cf hy hp yl hL
        go_enter Tryz.func87, Tryz.ntmps87
        go_wp2_with fail
        refine wp_region_held_drew (S := heldS b n ao bo L ca cb) (by kernel_rfl) ⟨c1, c2, c3⟩ (fun hHeld => ?_)
        refine wpAnyH_take (i := 0) (oi := { dst := some 3, op := _, type := _, pos := _, after := _, guard := _ }) (v := ?v34) rfl (by kernel_rfl) (by kernel_rfl) (by kernel_rfl) (fun _ _ _ h => h) (Or.inl ⟨by rfl, ?hy34⟩) (by assumption) ?rest34
        case hy34 => (intro w hSw; go_simp; try with_reducible rfl)
        try simp only [Act.put, List.setIfInBounds_toArray, List.set_cons_zero, List.set_cons_succ]
        refine wpAnyH_ready (rs := [1]) (by kernel_rfl) (by simp) ?_
        refine AllReadyH.cons (o := { dst := some 4, op := _, type := _, pos := _, after := _, guard := _ }) rfl (fun K hK => ?_) AllReadyH.nil
        go_simp
        refine (moving_any _ b bo 0 cb (by simpa using c3)).mono ?_
        rintro _ w' ⟨rfl, hw'⟩
        subst hw'
        refine hK.out _ _ hHeld (fun hHeld => ?_)
        try simp only [Act.put, List.setIfInBounds_toArray, List.set_cons_zero, List.set_cons_succ]
        clear hK
        refine wpAnyH_take (i := 2) (oi := { dst := some 5, op := _, type := _, pos := _, after := _, guard := _ }) (v := (.bool false)) rfl (by kernel_rfl) (by kernel_rfl) (by kernel_rfl) (fun _ _ _ h => h) (Or.inl ⟨by rfl, ?hy35⟩) (by assumption) ?rest35
        case hy35 => (intro w hSw; obtain ⟨q1, q2, q3⟩ := hSw; first | (go_simp; done) | (go_simp; simp [*]; done) | (simp [*]; go_simp; done))
        try simp only [Act.put, List.setIfInBounds_toArray, List.set_cons_zero, List.set_cons_succ]
        refine wpAnyH_take (i := 3) (oi := { dst := some 6, op := _, type := _, pos := _, after := _, guard := _ }) (v := ?v36) rfl (by kernel_rfl) (by kernel_rfl) (by kernel_rfl) (fun _ _ _ h => h) (Or.inl ⟨by rfl, ?hy36⟩) (by assumption) ?rest36
        case hy36 => (intro w hSw; obtain ⟨q1, q2, q3⟩ := hSw; go_simp; try with_reducible rfl)
        try simp only [Act.put, List.setIfInBounds_toArray, List.set_cons_zero, List.set_cons_succ]
        refine wpAnyH_take (i := 4) (oi := { dst := some 7, op := _, type := _, pos := _, after := _, guard := _ }) (v := ?v37) rfl (by kernel_rfl) (by kernel_rfl) (by kernel_rfl) (fun _ _ _ h => h) (Or.inl ⟨by rfl, ?hy37⟩) (by assumption) ?rest37
        case hy37 => (intro w hSw; obtain ⟨q1, q2, q3⟩ := hSw; go_simp; try with_reducible rfl)
        try simp only [Act.put, List.setIfInBounds_toArray, List.set_cons_zero, List.set_cons_succ]
        refine wpAnyH_take (i := 5) (oi := { dst := some 8, op := _, type := _, pos := _, after := _, guard := _ }) (v := ?v38) rfl (by kernel_rfl) (by kernel_rfl) (by kernel_rfl) (fun _ _ _ h => h) (Or.inl ⟨by rfl, ?hy38⟩) (by assumption) ?rest38
        case hy38 => (intro w hSw; obtain ⟨q1, q2, q3⟩ := hSw; go_simp; try with_reducible rfl)
        try simp only [Act.put, List.setIfInBounds_toArray, List.set_cons_zero, List.set_cons_succ]
        refine wpAnyH_take (i := 6) (oi := { dst := some 9, op := _, type := _, pos := _, after := _, guard := _ }) (v := ?v39) rfl (by kernel_rfl) (by kernel_rfl) (by kernel_rfl) (fun _ _ _ h => h) (Or.inl ⟨by rfl, ?hy39⟩) (by assumption) ?rest39
        case hy39 => (intro w hSw; obtain ⟨q1, q2, q3⟩ := hSw; go_simp; try with_reducible rfl)
        try simp only [Act.put, List.setIfInBounds_toArray, List.set_cons_zero, List.set_cons_succ]
        refine wpAnyH_take (i := 7) (oi := { dst := some 10, op := _, type := _, pos := _, after := _, guard := _ }) (v := ?v40) rfl (by kernel_rfl) (by kernel_rfl) (by kernel_rfl) (fun _ _ _ h => h) (Or.inl ⟨by rfl, ?hy40⟩) (by assumption) ?rest40
        case hy40 => (intro w hSw; obtain ⟨q1, q2, q3⟩ := hSw; go_simp; try with_reducible rfl)
        try simp only [Act.put, List.setIfInBounds_toArray, List.set_cons_zero, List.set_cons_succ]
        refine wpAnyH_take (i := 8) (oi := { dst := some 11, op := _, type := _, pos := _, after := _, guard := _ }) (v := (.bool false)) rfl (by kernel_rfl) (by kernel_rfl) (by kernel_rfl) (fun _ _ _ h => h) (Or.inl ⟨by rfl, ?hy41⟩) (by assumption) ?rest41
        case hy41 => (intro w hSw; obtain ⟨q1, q2, q3⟩ := hSw; first | (go_simp; done) | (go_simp; simp [*]; done) | (simp [*]; go_simp; done))
        try simp only [Act.put, List.setIfInBounds_toArray, List.set_cons_zero, List.set_cons_succ]
        refine wpAnyH_take (i := 9) (oi := { dst := some 12, op := _, type := _, pos := _, after := _, guard := _ }) (v := (.bool false)) rfl (by kernel_rfl) (by kernel_rfl) (by kernel_rfl) (fun _ _ _ h => h) (Or.inl ⟨by rfl, ?hy42⟩) (by assumption) ?rest42
        case hy42 => (intro w hSw; obtain ⟨q1, q2, q3⟩ := hSw; first | (go_simp; done) | (go_simp; simp [*]; done) | (simp [*]; go_simp; done))
        try simp only [Act.put, List.setIfInBounds_toArray, List.set_cons_zero, List.set_cons_succ]
        refine wpAnyH_take (i := 10) (oi := { dst := some 13, op := _, type := _, pos := _, after := _, guard := _ }) (v := (.bool false)) rfl (by kernel_rfl) (by kernel_rfl) (by kernel_rfl) (fun _ _ _ h => h) (Or.inl ⟨by rfl, ?hy43⟩) (by assumption) ?rest43
        case hy43 => (intro w hSw; obtain ⟨q1, q2, q3⟩ := hSw; first | (go_simp; done) | (go_simp; simp [*]; done) | (simp [*]; go_simp; done))
        try simp only [Act.put, List.setIfInBounds_toArray, List.set_cons_zero, List.set_cons_succ]
        refine wpAnyH_take (i := 11) (oi := { dst := some 14, op := _, type := _, pos := _, after := _, guard := _ }) (v := ?v44) rfl (by kernel_rfl) (by kernel_rfl) (by kernel_rfl) (fun _ _ _ h => h) (Or.inl ⟨by rfl, ?hy44⟩) (by assumption) ?rest44
        case hy44 => (intro w hSw; obtain ⟨q1, q2, q3⟩ := hSw; go_simp; try with_reducible rfl)
        try simp only [Act.put, List.setIfInBounds_toArray, List.set_cons_zero, List.set_cons_succ]
        refine wpAnyH_take (i := 12) (oi := { dst := some 15, op := _, type := _, pos := _, after := _, guard := _ }) (v := ?v45) rfl (by kernel_rfl) (by kernel_rfl) (by kernel_rfl) (fun _ _ _ h => h) (Or.inl ⟨by rfl, ?hy45⟩) (by assumption) ?rest45
        case hy45 => (intro w hSw; obtain ⟨q1, q2, q3⟩ := hSw; go_simp; try with_reducible rfl)
        try simp only [Act.put, List.setIfInBounds_toArray, List.set_cons_zero, List.set_cons_succ]
        refine wpAnyH_take (i := 13) (oi := { dst := some 16, op := _, type := _, pos := _, after := _, guard := _ }) (v := ?v46) rfl (by kernel_rfl) (by kernel_rfl) (by kernel_rfl) (fun _ _ _ h => h) (Or.inl ⟨by rfl, ?hy46⟩) (by assumption) ?rest46
        case hy46 => (intro w hSw; obtain ⟨q1, q2, q3⟩ := hSw; go_simp; try with_reducible rfl)
        try simp only [Act.put, List.setIfInBounds_toArray, List.set_cons_zero, List.set_cons_succ]
        refine wpAnyH_take (i := 14) (oi := { dst := some 17, op := _, type := _, pos := _, after := _, guard := _ }) (v := ?v47) rfl (by kernel_rfl) (by kernel_rfl) (by kernel_rfl) (fun _ _ _ h => h) (Or.inl ⟨by rfl, ?hy47⟩) (by assumption) ?rest47
        case hy47 => (intro w hSw; obtain ⟨q1, q2, q3⟩ := hSw; go_simp; try with_reducible rfl)
        try simp only [Act.put, List.setIfInBounds_toArray, List.set_cons_zero, List.set_cons_succ]
        refine wpAnyH_take (i := 15) (oi := { dst := some 18, op := _, type := _, pos := _, after := _, guard := _ }) (v := ?v48) rfl (by kernel_rfl) (by kernel_rfl) (by kernel_rfl) (fun _ _ _ h => h) (Or.inl ⟨by rfl, ?hy48⟩) (by assumption) ?rest48
        case hy48 => (intro w hSw; obtain ⟨q1, q2, q3⟩ := hSw; go_simp; try with_reducible rfl)
        try simp only [Act.put, List.setIfInBounds_toArray, List.set_cons_zero, List.set_cons_succ]
        refine wpAnyH_take (i := 16) (oi := { dst := some 19, op := _, type := _, pos := _, after := _, guard := _ }) (v := ?v49) rfl (by kernel_rfl) (by kernel_rfl) (by kernel_rfl) (fun _ _ _ h => h) (Or.inl ⟨by rfl, ?hy49⟩) (by assumption) ?rest49
        case hy49 => (intro w hSw; obtain ⟨q1, q2, q3⟩ := hSw; go_simp; try with_reducible rfl)
        try simp only [Act.put, List.setIfInBounds_toArray, List.set_cons_zero, List.set_cons_succ]
        refine wpAnyH_take (i := 17) (oi := { dst := some 20, op := _, type := _, pos := _, after := _, guard := _ }) (v := ?v50) rfl (by kernel_rfl) (by kernel_rfl) (by kernel_rfl) (fun _ _ _ h => h) (Or.inl ⟨by rfl, ?hy50⟩) (by assumption) ?rest50
        case hy50 => (intro w hSw; obtain ⟨q1, q2, q3⟩ := hSw; go_simp; try with_reducible rfl)
        try simp only [Act.put, List.setIfInBounds_toArray, List.set_cons_zero, List.set_cons_succ]
        refine wpAnyH_take (i := 18) (oi := { dst := some 21, op := _, type := _, pos := _, after := _, guard := _ }) (v := ?v51) rfl (by kernel_rfl) (by kernel_rfl) (by kernel_rfl) (fun _ _ _ h => h) (Or.inl ⟨by rfl, ?hy51⟩) (by assumption) ?rest51
        case hy51 => (intro w hSw; obtain ⟨q1, q2, q3⟩ := hSw; go_simp; try with_reducible rfl)
        try simp only [Act.put, List.setIfInBounds_toArray, List.set_cons_zero, List.set_cons_succ]
        refine wpAnyH_take (i := 19) (oi := { dst := some 22, op := _, type := _, pos := _, after := _, guard := _ }) (v := ?v52) rfl (by kernel_rfl) (by kernel_rfl) (by kernel_rfl) (fun _ _ _ h => h) (Or.inl ⟨by rfl, ?hy52⟩) (by assumption) ?rest52
        case hy52 => (intro w hSw; obtain ⟨q1, q2, q3⟩ := hSw; go_simp; try with_reducible rfl)
        try simp only [Act.put, List.setIfInBounds_toArray, List.set_cons_zero, List.set_cons_succ]
        refine wpAnyH_take (i := 20) (oi := { dst := some 23, op := _, type := _, pos := _, after := _, guard := _ }) (v := (.int .i64 ((L : Int) / 8))) rfl (by kernel_rfl) (by kernel_rfl) (by kernel_rfl) (fun _ _ _ h => h) (Or.inl ⟨by rfl, ?hy53⟩) (by assumption) ?rest53
        case hy53 => (intro w hSw; obtain ⟨q1, q2, q3⟩ := hSw; first | (go_simp; done) | (go_simp; simp [*]; done) | (simp [*]; go_simp; done))
        try simp only [Act.put, List.setIfInBounds_toArray, List.set_cons_zero, List.set_cons_succ]
        refine wpAnyH_take (i := 21) (oi := { dst := some 24, op := _, type := _, pos := _, after := _, guard := _ }) (v := (.bool true)) rfl (by kernel_rfl) (by kernel_rfl) (by kernel_rfl) (fun _ _ _ h => h) (Or.inl ⟨by rfl, ?hy54⟩) (by assumption) ?rest54
        case hy54 => (intro w hSw; obtain ⟨q1, q2, q3⟩ := hSw; first | (go_simp; done) | (go_simp; simp [*]; done) | (simp [*]; go_simp; done))
        try simp only [Act.put, List.setIfInBounds_toArray, List.set_cons_zero, List.set_cons_succ]
        refine wpAnyH_take (i := 22) (oi := { dst := some 25, op := _, type := _, pos := _, after := _, guard := _ }) (v := (.bool true)) rfl (by kernel_rfl) (by kernel_rfl) (by kernel_rfl) (fun _ _ _ h => h) (Or.inl ⟨by rfl, ?hy55⟩) (by assumption) ?rest55
        case hy55 => (intro w hSw; obtain ⟨q1, q2, q3⟩ := hSw; first | (go_simp; done) | (go_simp; simp [*]; done) | (simp [*]; go_simp; done))
        try simp only [Act.put, List.setIfInBounds_toArray, List.set_cons_zero, List.set_cons_succ]
        refine wpAnyH_done (by kernel_rfl) ?_ _
        clear hHeld
        go_wp2
        refine bodyPost_ret (results_none rfl _ _ _) rfl ?_
        exact ⟨rfl, _, by rw [hg]; exact HD.out.below ((Below.refl _ _).drew), Fr.of_below ((Below.refl _ _).drew)⟩
  · have hyl : 0 < s.young.length := by cases hs : s.young with | nil => exact absurd hs hy | cons _ _ => simp
    have hg : Dc.shrink n s = s := by
      unfold Dc.shrink
      rw [if_neg (by rw [Bool.and_eq_true, Dc.empty_iff]; exact fun hh => hy hh.1)]
    obtain ⟨Y, hY⟩ : ∃ Y, s.young.length = Y := ⟨_, rfl⟩
    rw [hY] at c3 hyl
    have hd : decide (0 < Y) = true := decide_eq_true hyl
    clear hD hI h3 h4 h5 c0 c4 cf hy hL hY
    go_enter Tryz.func87, Tryz.ntmps87
    go_wp2_with fail
    go_quiet (first | (go_at_call 83; refine Calls.quiet_of_same (movingT _ b bo Y cb (by simpa using c3) hyl)))
    go_wp2
    refine bodyPost_ret (results_none rfl _ _ _) rfl ?_
    exact ⟨rfl, _, by rw [hg]; exact HD.out.below (below_drewN (Below.refl _ _) _), Fr.of_below (below_drewN (Below.refl _ _) _)⟩
end Go.Proofs.YthmmblohfjmbcaaGreat.DP

/-
  Contracts over this program: an entry is taken out of its chain.
-/
namespace Go.Proofs.YthmmblohfjmbcaaGreat.DP
open Go.RowKit Go.Shelf
/-- copy within one block -/
theorem copy_run {P : Program} (w : World) (t e ty et : TypeId) (ht : P.underlying t = some (.slice e)) (i : TypeInfo) (hi : P.info? e = some i) (g d o n m cd cs : Nat) (so : Option Addr) (cur : Array Value)
    (hg : w.heap[g]? = some (.cells cur et (0, 0))) (hso : so = some ⟨g, o, none⟩ ∨ m = 0) (hm : m ≤ n) (ho : o + m * i.size ≤ cur.size) (hd : d + m * i.size ≤ cur.size) (h1 : ∀ u ∈ (cur.toList.drop o).take (m * i.size), u.oneCell' = true) :
    (Builtin.copy_ #[t, t] ty #[.slice (some ⟨g, d, none⟩) n cd, .slice so m cs]).run P w = .ok (.int .i64 (m : Int)) (w.setRow g (cur.toList.take d ++ (cur.toList.drop o).take (m * i.size) ++ cur.toList.drop (d + m * i.size)).toArray) := by
  have hl : ((cur.toList.drop o).take (m * i.size)).length = m * i.size := by
    rw [List.length_take, List.length_drop, Array.length_toList]; omega
  have hmin : min m n = m := Nat.min_eq_left hm
  have hst := run_storeCells_at P g d et ((cur.toList.drop o).take (m * i.size)) 0 cur w hg (by rw [hl]; omega) h1
  rw [hl] at hst
  simp only [Nat.add_zero] at hst
  rcases hso with rfl | rfl
  · have hf := run_firstCells_some (P := P) w i.size m ⟨g, o, none⟩ m cs ((cur.toList.drop o).take (m * i.size)) hl (fun j u hu => by
      rw [List.getElem?_take] at hu
      split at hu
      · rw [List.getElem?_drop] at hu
        rw [Addr.add_lit, cell_of_row w g (o + j) cur et (0, 0) hg]
        simpa using hu
      · cases hu)
    simp [Builtin.copy_, run_underlying ht, sizeOf, typeInfo, hi, Builtin.lenOf, hmin, hf, hst, goInt]
  · have hf : (Builtin.firstCells i.size 0 (.slice so 0 cs)).run P w = .ok #[] w := by
      cases so with
      | none => exact run_firstCells_none (P := P) w _ _ _ _
      | some a => exact run_firstCells_some (P := P) w i.size 0 a 0 cs [] (by simp) (by simp)
    rw [Nat.zero_mul, List.take_zero] at hst ⊢
    simp [Builtin.copy_, run_underlying ht, sizeOf, typeInfo, hi, Builtin.lenOf, goInt, hf, hst]
theorem size_run {P : Program} (w : World) (e : TypeId) (i : TypeInfo) (hi : P.info? e = some i) : (sizeOf e).run P w = .ok i.size w := by simp [sizeOf, typeInfo, hi]
theorem slice_low {P : Program} (w : World) (t e : TypeId) (ht : P.underlying t = some (.slice e)) (i : TypeInfo) (hi : P.info? e = some i) (a : Addr) (n cap l : Nat) (x : Int) (hx : x = (l : Int)) (hl : l ≤ n) :
    (Instr.slice t (.slice (some a) n cap) (some (.int .i64 x)) none none).run P w = .ok (.slice (some (if cap = l then a else a.add (l * i.size))) (n - l) (cap - l)) w := by
  subst hx
  have hb := fun code => run_sliceBound (P := P) (w := w) .i64 (l : Int) n code (by omega) (by omega)
  have hz := size_run w e i hi
  simp only [Instr.slice, Instr.sliceBounds, run_underlying ht, Sem.run_bind, Sem.run_pure, Result.andThen_ok, hb, hz, Int.toNat_natCast]
  split <;> rfl
theorem slice_high {P : Program} (w : World) (t e : TypeId) (ht : P.underlying t = some (.slice e)) (i : TypeInfo) (hi : P.info? e = some i) (g n cap l : Nat) (x : Int) (hx : x = (l : Int)) (hl : l ≤ cap) :
    (Instr.slice t (.slice (some ⟨g, 0, none⟩) n cap) none (some (.int .i64 x)) none).run P w = .ok (.slice (some ⟨g, 0, none⟩) l cap) w := by
  subst hx
  have hb := fun code => run_sliceBound (P := P) (w := w) .i64 (l : Int) cap code (by omega) (by omega)
  have hz := size_run w e i hi
  simp only [Instr.slice, Instr.sliceBounds, run_underlying ht, Sem.run_bind, Sem.run_pure, Result.andThen_ok, hb, hz, Int.toNat_natCast]
  split <;> simp [Addr.add_lit]
theorem flat_take (l : List Ent) (p : Nat) : (l.take p).flatMap enE = (l.flatMap enE).take (p * 2) := by
  induction l generalizing p with
  | nil => simp
  | cons a l ih =>
    cases p with
    | zero => simp
    | succ p =>
      rw [List.take_succ_cons, List.flatMap_cons, List.flatMap_cons, ih, show (p + 1) * 2 = (enE a).length + p * 2 by simp [enE]; omega, List.take_length_add_append]
theorem flat_drop (l : List Ent) (p : Nat) : (l.drop p).flatMap enE = (l.flatMap enE).drop (p * 2) := by
  induction l generalizing p with
  | nil => simp
  | cons a l ih =>
    cases p with
    | zero => simp
    | succ p =>
      rw [List.drop_succ_cons, List.flatMap_cons, ih, show (p + 1) * 2 = (enE a).length + p * 2 by simp [enE]; omega, List.drop_length_add_append]
theorem enC_erase (c : List Ent) (p : Nat) : enC (c.reverse.eraseIdx p).reverse = (enC c).take (p * 2) ++ (enC c).drop ((p + 1) * 2) := by
  unfold enC
  rw [List.reverse_reverse, List.eraseIdx_eq_take_drop_succ, List.flatMap_append, flat_take, flat_drop]
theorem enC_one {c : List Ent} {u : Value} (h : u ∈ enC c) : u.oneCell' = true := by
  unfold enC at h
  obtain ⟨e, _, he⟩ := List.mem_flatMap.1 h
  simp only [enE, List.mem_cons, List.not_mem_nil, or_false] at he
  rcases he with rfl | rfl <;> rfl
theorem mid_take {l : List Value} {p m n : Nat} (h : p + m = n) : ((l.drop p).take m) = (l.take n).drop p := by
  rw [List.drop_take, show n - p = m by omega]
set_option maxRecDepth 100000 in
set_option maxHeartbeats 1000000 in
theorem without_any (w : World) (g cap p : Nat) (c : List Ent) (hC : Chn w (.slice (some ⟨g, 0, none⟩) c.length cap) c) (hp : p < c.length) :
    Calls Tryz.prog 86 #[.slice (some ⟨g, 0, none⟩) c.length cap, .int .i64 p] w fun e w' => e = .returned (.slice (some ⟨g, 0, none⟩) (c.length - 1) cap) ∧ Chn w' (.slice (some ⟨g, 0, none⟩) (c.length - 1) cap) (c.reverse.eraseIdx p).reverse ∧ Only g w w' := by
  obtain ⟨i0, hi0, hz0, hz1, hz2⟩ := info_parts info_ent
  obtain ⟨cur, hcur, hcc, hcm, hsz, htk⟩ : ∃ cur, w.heap[g]? = some (.cells cur 139 (0, 0)) ∧ c.length ≤ cap ∧ cap ≤ maxLen ∧ cur.size = cap * 2 ∧ cur.toList.take (c.length * 2) = enC c := by
    rcases hC.2 with ⟨h', _⟩ | ⟨g', cap', cur, h', _, hh, q1, q2, q3, q4⟩
    · cases h'
    · cases h'
      exact ⟨cur, hh, q1, q2, q3, q4⟩
  obtain ⟨n, hn⟩ : ∃ n, c.length = n := ⟨_, rfl⟩
  rw [hn] at hp hcc
  have HN := keep hn
  rw [hn]
  unfold maxLen at hcm
  have hw1 : IntKind.i64.wrap ((n : Int) - 1) = (n : Int) - 1 := by rw [IntKind.wrap_i64]; omega
  have hw2 : IntKind.i64.wrap ((p : Int) + 1) = (p : Int) + 1 := by rw [IntKind.wrap_i64]; omega
  have l1 : (p : Int) < (n : Int) := by omega
  have l2 : (n : Int) ≤ (cap : Int) := by omega
  have l3 : (p : Int) + 1 ≤ (n : Int) := by omega
  have u88 := Tryz.underlying136
  have hs1 : ∀ w, (Instr.slice 136 (.slice (some ⟨g, 0, none⟩) n cap) (some (.int .i64 (p : Int))) none none).run Tryz.prog w = .ok (.slice (some ⟨g, p * 2, none⟩) (n - p) (cap - p)) w := fun w => by
    rw [slice_low w _ _ u88 i0 hi0 _ n cap p _ rfl (by omega), if_neg (by omega), hz1, Addr.add_lit, Nat.zero_add]
  have hs2 : ∃ so, (so = some ⟨g, (p + 1) * 2, none⟩ ∨ n - (p + 1) = 0) ∧ ∀ w, (Instr.slice 136 (.slice (some ⟨g, 0, none⟩) n cap) (some (.int .i64 ((p : Int) + 1))) none none).run Tryz.prog w = .ok (.slice so (n - (p + 1)) (cap - (p + 1))) w := by
    refine ⟨_, ?_, fun w => slice_low w _ _ u88 i0 hi0 _ n cap (p + 1) _ (by omega) (by omega)⟩
    by_cases hcp : cap = p + 1
    · exact .inr (by omega)
    · rw [if_neg hcp, hz1, Addr.add_lit, Nat.zero_add]; exact .inl rfl
  obtain ⟨so, hso, hs2⟩ := hs2
  have hs3 : ∀ w, (Instr.slice 136 (.slice (some ⟨g, 0, none⟩) n cap) (some (.int .i64 ((n : Int) - 1))) none none).run Tryz.prog w = .ok (.slice (some ⟨g, (n - 1) * 2, none⟩) 1 (cap - (n - 1))) w := fun w => by
    rw [slice_low w _ _ u88 i0 hi0 _ n cap (n - 1) _ (by omega) (by omega), if_neg (by omega), hz1, Addr.add_lit, Nat.zero_add, show n - (n - 1) = 1 by omega]
  have hs4 : ∀ w, (Instr.slice 136 (.slice (some ⟨g, 0, none⟩) n cap) none (some (.int .i64 ((n : Int) - 1))) none).run Tryz.prog w = .ok (.slice (some ⟨g, 0, none⟩) (n - 1) cap) w := fun w => slice_high w _ _ u88 i0 hi0 g n cap (n - 1) _ (by omega) (by omega)
  have hon : ∀ u ∈ (cur.toList.drop ((p + 1) * 2)).take ((n - (p + 1)) * 2), u.oneCell' = true := fun u hu => by
    rw [mid_take (n := n * 2) (by omega), ← HN.out, htk] at hu
    exact enC_one (List.mem_of_mem_drop hu)
  have hcp := copy_run (P := Tryz.prog) w.drew 136 139 3 139 u88 i0 hi0 g (p * 2) ((p + 1) * 2) (n - p) (n - (p + 1)) (cap - p) (cap - (p + 1)) so cur hcur hso (by omega) (by rw [hz1, hsz]; omega) (by rw [hz1, hsz]; omega) (by rw [hz1]; exact hon)
  rw [hz1] at hcp
  have hsz1 : (cur.toList.take (p * 2) ++ (cur.toList.drop ((p + 1) * 2)).take ((n - (p + 1)) * 2) ++ cur.toList.drop (p * 2 + (n - (p + 1)) * 2)).length = cap * 2 := by
    rw [List.length_append, List.length_append, List.length_take, List.length_take, List.length_drop, List.length_drop, Array.length_toList, hsz]; omega
  have htk1 : (cur.toList.take (p * 2) ++ (cur.toList.drop ((p + 1) * 2)).take ((n - (p + 1)) * 2) ++ cur.toList.drop (p * 2 + (n - (p + 1)) * 2)).take ((n - 1) * 2) = enC (c.reverse.eraseIdx p).reverse := by
    rw [enC_erase, ← htk, HN.out, mid_take (n := n * 2) (by omega), List.take_take, Nat.min_eq_left (by omega), List.append_assoc, ← List.append_assoc, List.take_append_of_le_length, List.take_of_length_le]
    · rw [List.length_append, List.length_take, List.length_drop, List.length_take, Array.length_toList, hsz]; omega
    · rw [List.length_append, List.length_take, List.length_drop, List.length_take, Array.length_toList, hsz]; omega
  generalize (cur.toList.take (p * 2) ++ (cur.toList.drop ((p + 1) * 2)).take ((n - (p + 1)) * 2) ++ cur.toList.drop (p * 2 + (n - (p + 1)) * 2)) = L1 at hcp hsz1 htk1
  obtain ⟨w1, hw1'⟩ : ∃ w1, w1 = w.drew.setRow g L1.toArray := ⟨_, rfl⟩
  rw [← hw1'] at hcp
  have hg1 : w1.heap[g]? = some (.cells L1.toArray 139 (0, 0)) := by rw [hw1']; exact setRow_heap w.drew g cur _ _ _ hcur
  have ho1 : Only g w w1 := by rw [hw1']; exact ⟨⟨rfl, rfl, rfl⟩, by simp, fun k hk => setRow_other w.drew g k _ hk⟩
  obtain ⟨cur2, hcl, hs2', htk2⟩ := clear_run (P := Tryz.prog) w1 136 139 0 139 _ u88 Tryz.zeroValue139 (by simp [Value.cells, Value.oneCell']) g ((n - 1) * 2) 1 (cap - (n - 1)) L1.toArray hg1 (by simp [Value.cells, hsz1]; omega)
  have hfin : Chn (w1.setRow g cur2) (.slice (some ⟨g, 0, none⟩) (n - 1) cap) (c.reverse.eraseIdx p).reverse := by
    have hl : (c.reverse.eraseIdx p).reverse.length = n - 1 := by
      rw [List.length_reverse, List.length_eraseIdx_of_lt (by rw [List.length_reverse, HN.out]; exact hp), List.length_reverse, HN.out]
    unfold Chn
    rw [hl]
    refine ⟨by rw [enC_len, hl], .inr ⟨g, cap, cur2, rfl, Nat.zero_le _, setRow_heap w1 g _ _ _ _ hg1, by omega, by unfold maxLen; omega, by rw [hs2']; simpa using hsz1, ?_⟩⟩
    rw [htk2]
    simpa using htk1
  have ho2 : Only g w (w1.setRow g cur2) := ho1.trans ⟨⟨rfl, rfl, rfl⟩, by simp, fun k hk => setRow_other w1 g k _ hk⟩
  have HF := keep hfin
  have HO := keep ho2
  clear hC hn hcur hsz htk hon hsz1 htk1 hw1' hg1 ho1 hs2' htk2 hfin ho2 hso
  generalize w1.setRow g cur2 = w2 at *
  go_enter Tryz.func86, Tryz.ntmps86
  go_wp2_with fail
  refine wp_region_held_drew (S := fun _ => True) (by kernel_rfl) trivial (fun hHeld => ?_)
  refine wpAnyH_take (i := 0) (oi := { dst := some 9, op := _, type := _, pos := _, after := _, guard := _ }) (v := ?v1) rfl (by kernel_rfl) (by kernel_rfl) (by kernel_rfl) (fun _ _ _ h => h) (Or.inl ⟨by rfl, ?hy1⟩) (by assumption) ?rest1
  case hy1 => (intro w hSw; go_simp; try with_reducible rfl)
  try simp only [Act.put, List.setIfInBounds_toArray, List.set_cons_zero, List.set_cons_succ]
  refine wpAnyH_take (i := 1) (oi := { dst := some 10, op := _, type := _, pos := _, after := _, guard := _ }) (v := ?v2) rfl (by kernel_rfl) (by kernel_rfl) (by kernel_rfl) (fun _ _ _ h => h) (Or.inl ⟨by rfl, ?hy2⟩) (by assumption) ?rest2
  case hy2 => (intro w hSw; go_simp; try with_reducible rfl)
  try simp only [Act.put, List.setIfInBounds_toArray, List.set_cons_zero, List.set_cons_succ]
  refine wpAnyH_take (i := 2) (oi := { dst := some 11, op := _, type := _, pos := _, after := _, guard := _ }) (v := (.slice (some ⟨g, p * 2, none⟩) (n - p) (cap - p))) rfl (by kernel_rfl) (by kernel_rfl) (by kernel_rfl) (fun _ _ _ h => h) (Or.inl ⟨by rfl, ?hy3⟩) (by assumption) ?rest3
  case hy3 => (intro w hSw; first | (go_simp; done) | (go_simp; simp [*]; done) | (simp [*]; go_simp; done))
  try simp only [Act.put, List.setIfInBounds_toArray, List.set_cons_zero, List.set_cons_succ]
  refine wpAnyH_take (i := 3) (oi := { dst := some 12, op := _, type := _, pos := _, after := _, guard := _ }) (v := ?v4) rfl (by kernel_rfl) (by kernel_rfl) (by kernel_rfl) (fun _ _ _ h => h) (Or.inl ⟨by rfl, ?hy4⟩) (by assumption) ?rest4
  case hy4 => (intro w hSw; go_simp; try with_reducible rfl)
  try simp only [Act.put, List.setIfInBounds_toArray, List.set_cons_zero, List.set_cons_succ]
  refine wpAnyH_take (i := 4) (oi := { dst := some 13, op := _, type := _, pos := _, after := _, guard := _ }) (v := ?v5) rfl (by kernel_rfl) (by kernel_rfl) (by kernel_rfl) (fun _ _ _ h => h) (Or.inl ⟨by rfl, ?hy5⟩) (by assumption) ?rest5
  case hy5 => (intro w hSw; go_simp; try with_reducible rfl)
  try simp only [Act.put, List.setIfInBounds_toArray, List.set_cons_zero, List.set_cons_succ]
  refine wpAnyH_take (i := 5) (oi := { dst := some 14, op := _, type := _, pos := _, after := _, guard := _ }) (v := (.int .i64 ((p : Int) + 1))) rfl (by kernel_rfl) (by kernel_rfl) (by kernel_rfl) (fun _ _ _ h => h) (Or.inl ⟨by rfl, ?hy6⟩) (by assumption) ?rest6
  case hy6 => (intro w hSw; first | (go_simp; done) | (go_simp; simp [*]; done) | (simp [*]; go_simp; done))
  try simp only [Act.put, List.setIfInBounds_toArray, List.set_cons_zero, List.set_cons_succ]
  refine wpAnyH_take (i := 6) (oi := { dst := some 15, op := _, type := _, pos := _, after := _, guard := _ }) (v := (.slice so (n - (p + 1)) (cap - (p + 1)))) rfl (by kernel_rfl) (by kernel_rfl) (by kernel_rfl) (fun _ _ _ h => h) (Or.inl ⟨by rfl, ?hy7⟩) (by assumption) ?rest7
  case hy7 => (intro w hSw; first | (go_simp; done) | (go_simp; simp [*]; done) | (simp [*]; go_simp; done))
  try simp only [Act.put, List.setIfInBounds_toArray, List.set_cons_zero, List.set_cons_succ]
  refine wpAnyH_ready (rs := [7]) (by kernel_rfl) (by simp) ?_
  refine AllReadyH.cons (o := { dst := some 16, op := _, type := _, pos := _, after := _, guard := _ }) rfl (fun K hK => ?_) AllReadyH.nil
  go_simp
  refine hK.out _ _ trivial (fun hHeld => ?_)
  refine wpAnyH_done (by kernel_rfl) ?_ _
  go_wp2
  go_ret
  exact ⟨rfl, HF.out, HO.out⟩
end Go.Proofs.YthmmblohfjmbcaaGreat.DP

/-
  Contracts over this program: what the calls of a dict tell, and what they leave.
-/
namespace Go.Proofs.YthmmblohfjmbcaaGreat.DP
open Go.RowKit Go.Shelf
/-- a dict between two calls -/
def Dd (h : ByteArray → Nat) (N : Nat) (w : World) (r : Roles) (b seed : Nat) (s : Dc.St ByteArray (Option Addr)) : Prop := Dct w r b seed (Dc.all s).length s ∧ Okd h N s
theorem Dd.kept {h : ByteArray → Nat} {N : Nat} {w w' : World} {r : Roles} {b seed : Nat} {s : Dc.St ByteArray (Option Addr)} (hd : Dd h N w r b seed s) (hs : w.heap.size ≤ w'.heap.size) (hk : ∀ k, k < w.heap.size → r k ≠ (0, 0) → w'.heap[k]? = w.heap[k]?) : Dd h N w' r b seed s := ⟨hd.1.kept hs hk, hd.2⟩
theorem Dd.more {h : ByteArray → Nat} {N N' : Nat} {w : World} {r : Roles} {b seed : Nat} {s : Dc.St ByteArray (Option Addr)} (hd : Dd h N w r b seed s) (hN : N ≤ N') : Dd h N' w r b seed s := ⟨hd.1, hd.2.more hN⟩
theorem Dd.below {h : ByteArray → Nat} {N : Nat} {w w' : World} {r : Roles} {b seed : Nat} {s : Dc.St ByteArray (Option Addr)} (hd : Dd h N w r b seed s) (hb : Below w.heap.size w w') : Dd h N w' r b seed s := ⟨hd.1.below hb, hd.2⟩
set_option maxHeartbeats 400000 in
theorem new_any (h : ByteArray → Nat) (w : World) (seed N : Nat) :
    Calls Tryz.prog 11 #[.int .u64 seed] w fun e w' => e = .returned (.pointer (some ⟨w.heap.size, 0, none⟩)) ∧ Below w.heap.size w w' ∧ w'.heap.size = w.heap.size + 1 ∧ Dd h N w' (fun k => if k = w.heap.size then (5, 0) else (0, 0)) w.heap.size seed Dc.none0 := by
  go_enter Tryz.func11, Tryz.ntmps11
  go_wp2
  go_ret
  refine ⟨rfl, (Below.refl _ w).alloc (Nat.le_refl _) _, by simp, ⟨fun k hk => ?_, by simp, .slice none 0 0, .slice none 0 0, heap_alloc_new _ _, Tb.new, Tb.new⟩, okd_none h N⟩
  by_cases e : k = w.heap.size
  · rw [e]; simp
  · simp [e] at hk
set_option maxHeartbeats 400000 in
theorem len_any (w : World) (r : Roles) (b seed n : Nat) (s : Dc.St ByteArray (Option Addr)) (hD : Dct w r b seed n s) :
    Calls Tryz.prog 71 #[.pointer (some ⟨b, 0, none⟩)] w fun e w' => e = .returned (.int .i64 n) ∧ w' = w := by
  obtain ⟨ao, ca, bo, cb, h4, h5, h3⟩ := hD.cells
  obtain ⟨c0, c1, c2, c3, c4, cf⟩ := five h3
  clear hD h4 h5 h3 c0 c2 c3 c4 cf
  go_enter Tryz.func71, Tryz.ntmps71
  go_wp2
  go_ret
  exact ⟨rfl, rfl⟩
theorem set5 {a0 a1 a2 a3 a4 u0 u1 u2 u3 u4 : Value} {w : World} {b : Nat} {t : TypeId} {fr : Nat × Nat} (h : w.heap[b]? = some (.cells #[a0, a1, a2, a3, a4] t fr)) : (((((w.setCell ⟨b, 0, none⟩ u0).setCell ⟨b, 1, none⟩ u1).setCell ⟨b, 2, none⟩ u2).setCell ⟨b, 3, none⟩ u3).setCell ⟨b, 4, none⟩ u4).heap[b]? = some (.cells #[u0, u1, u2, u3, u4] t fr) :=
  cells_setCell (cells_setCell (cells_setCell (cells_setCell (cells_setCell h))))
end Go.Proofs.YthmmblohfjmbcaaGreat.DP

/-
  Contracts over this program: Get, Set, Delete.
-/
namespace Go.Proofs.YthmmblohfjmbcaaGreat.DP
open Go.RowKit Go.Shelf
/-- what a step may ask -/
theorem Dd.step {h : ByteArray → Nat} {seed N : Nat} (hH : HashIs seed h) {w : World} {r : Roles} {b : Nat} {s : Dc.St ByteArray (Option Addr)} (hd : Dd h N w r b seed s) (hN : N ≤ 2600000000000) :
    Calls Tryz.prog 80 #[.pointer (some ⟨b, 0, none⟩)] w fun x w' => x = .returned (.tuple #[]) ∧ ∃ r', Dd h N w' r' b seed (Dc.step h s) ∧ Fr w r w' r' := by
  obtain ⟨h1, h2, h3, h4, h5⟩ := id hd.2
  have ha := Dc.all_eq h1
  refine (step_any hH w r b _ s hd.1 h1 (by unfold maxLen; omega) (by unfold maxLen; omega) (fun x hx => h2 x (by rw [ha]; exact List.mem_append.2 (.inl hx))) (by rw [ha, List.length_append] at h3; omega)).mono ?_
  rintro _ w' ⟨rfl, r', q1, q2⟩
  obtain ⟨o1, o2⟩ := okd_step hd.2
  exact ⟨rfl, r', ⟨by rw [o2]; exact q1, o1⟩, q2⟩
theorem Dd.seek {h : ByteArray → Nat} {seed N : Nat} (hH : HashIs seed h) {w : World} {r : Roles} {b : Nat} {s : Dc.St ByteArray (Option Addr)} (hd : Dd h N w r b seed s) (hN : N ≤ 2600000000000) {key : ByteArray} (hk : key.size ≤ maxLen) :
    Calls Tryz.prog 81 #[.pointer (some ⟨b, 0, none⟩), .string key] w fun e w' => Sought w r b s h key e ∧ Below w.heap.size w w' := by
  obtain ⟨h1, h2, h3, h4, h5⟩ := id hd.2
  exact seek_any hH w r b _ s key hd.1 hk (by unfold maxLen; omega) (by unfold maxLen; omega)
/-- where a key was found: its chain in the memory -/
theorem found_at {h : ByteArray → Nat} {w w2 : World} {r : Roles} {key : ByteArray} {t g cap p : Nat} {T : Dc.Tab ByteArray (Option Addr)} {x : Option Addr} (hT0 : 0 < T.length) (hTb : Tb w r t (.slice (some ⟨g, 0, none⟩) T.length cap) T) (hp : (Dc.chain h T key).reverse[p]? = some (key, x)) (hb : Below w.heap.size w w2) :
    ∃ c gc cc, T[h key % T.length]? = some c ∧ c.reverse[p]? = some (key, x) ∧ p < c.length ∧ w2.cell? ⟨g, h key % T.length, none⟩ = some (.slice (some ⟨gc, 0, none⟩) c.length cc) ∧ Chn w2 (.slice (some ⟨gc, 0, none⟩) c.length cc) c ∧ r gc = (3 + t, h key % T.length) ∧ w2.cell? ⟨gc, p * 2 + 1, none⟩ = some (.pointer x) ∧ w2.frozen? ⟨gc, p * 2 + 1, none⟩ = false ∧ w2.frozen? ⟨g, h key % T.length, none⟩ = false ∧ gc < w.heap.size ∧ g < w.heap.size ∧ h key % T.length < T.length := by
  have hlt : h key % T.length < T.length := Nat.mod_lt _ hT0
  obtain ⟨c, hc⟩ : ∃ c, T[h key % T.length]? = some c := ⟨_, List.getElem?_eq_getElem hlt⟩
  have hch : Dc.chain h T key = c := by unfold Dc.chain; rw [hc]; rfl
  rw [hch] at hp
  have hpl : p < c.length := by have := (List.getElem?_eq_some_iff.1 hp).1; simpa using this
  obtain ⟨v, hv1, hv2, hv3⟩ := hTb.at hc
  have hgl : g < w.heap.size := by obtain ⟨_, a1, _, _⟩ := hTb; exact own_lt a1 rfl
  rcases hv2.form with ⟨_, hh⟩ | ⟨gc, cc, rfl, hgc, _, _⟩
  · rw [hh] at hpl; simp at hpl
  · have hC2 : Chn w2 (.slice (some ⟨gc, 0, none⟩) c.length cc) c := own_kept hv2 (fun k hk => hb.block k (own_lt hv2 hk))
    refine ⟨c, gc, cc, hc, hp, hpl, (hb.cell (p := ⟨g, h key % T.length, none⟩) hgl).trans hv1, hC2, hv3 gc rfl, (hC2.at hp).2, ?_, ?_, hgc, hgl, hlt⟩
    · rcases hC2.2 with ⟨e, _⟩ | ⟨g', cap', cur, e, _, hh, _⟩
      · cases e
      · cases e; simp [World.frozen?, hh]
    · rw [World.frozen?_of_block (w := w) (a := ⟨g, h key % T.length, none⟩) (hb.block g hgl)]; exact hTb.free _
/-- how a table tells what lies under a key -/
def got (o : Option (Option Addr)) : Value := .tuple #[.pointer (o.getD none), .bool o.isSome]
set_option maxRecDepth 100000 in
set_option maxHeartbeats 1000000 in
theorem get_any {h : ByteArray → Nat} {seed N : Nat} (hH : HashIs seed h) (w : World) (r : Roles) (b : Nat) (s : Dc.St ByteArray (Option Addr)) (key : ByteArray) (hd : Dd h N w r b seed s) (hN : N ≤ 2600000000000) (hk : key.size ≤ maxLen) :
    Calls Tryz.prog 59 #[.pointer (some ⟨b, 0, none⟩), .string key] w fun e w' => e = .returned (got (Dc.look key (Dc.all s))) ∧ ∃ r', Dd h N w' r' b seed (Dc.step h s) ∧ Fr w r w' r' := by
  have mS := hd.step hH hN
  have hl : Dc.look key (Dc.all (Dc.step h s)) = Dc.look key (Dc.all s) := by
    obtain ⟨q1, q2⟩ := Dc.step_inv hd.2.1
    exact Dc.look_perm (by rw [Dc.all_eq q1]; exact q1.nodup) q2 key
  have HL := keep hl
  clear hd hl
  go_enter Tryz.func59, Tryz.ntmps59
  go_wp2_with fail
  refine mS.mono ?_
  rintro _ w1 ⟨rfl, r1, hd1, hf1⟩
  have mF := hd1.seek hH hN hk
  have HD := keep hd1
  have HF := keep hf1
  clear mS hd1 hf1
  go_wp2_with fail
  refine mF.mono ?_
  rintro _ w2 ⟨hs, hb⟩
  have HB := keep hb
  clear mF
  rcases hs with ⟨rfl, h0, h1⟩ | ⟨t, g, cap, p, T, x, hT, hT0, hTb, hfc, hp, rfl⟩
  · have hn := look_missed HD.out.2.1 h0 h1
    rw [HL.out] at hn
    have HN := keep hn
    clear h0 h1 hb hn
    go_wp2
    refine bodyPost_ret (results_tmp2 rfl _ _ _) rfl ?_
    exact ⟨by rw [HN.out]; rfl, r1, HD.out.below HB.out, HF.out.trans (Fr.of_below HB.out)⟩
  · obtain ⟨c, gc, cc, q1, q2, q3, q4, q5, q6, q7, _, _, _, _, q8⟩ := found_at hT0 hTb hp hb
    have hn := look_found HD.out.2.1 (T := T) (hT.imp (fun h => h.2) (fun h => h.2)) (List.mem_of_getElem? q1) (List.mem_reverse.1 (List.mem_of_getElem? q2))
    rw [HL.out] at hn
    have HN := keep hn
    clear hT hT0 hTb hfc hp hb q1 q2 q5 q6 hn
    generalize h key % T.length = i at *
    have i0 : (0 : Int) ≤ (i : Int) := by omega
    have i1 : (i : Int) < (T.length : Int) := by omega
    have p0 : (0 : Int) ≤ (p : Int) := by omega
    have p1 : (p : Int) < (c.length : Int) := by omega
    go_wp2
    refine bodyPost_ret (results_tmp2 rfl _ _ _) rfl ?_
    exact ⟨by rw [HN.out]; rfl, r1, HD.out.below HB.out, HF.out.trans (Fr.of_below HB.out)⟩
theorem set_some {h : ByteArray → Nat} {s : Dc.St ByteArray (Option Addr)} {key : ByteArray} {x v : Option Addr} (hl : Dc.look key (Dc.all (Dc.step h s)) = some x) : Dc.set h s key v = (Dc.every (Dc.alter key v) (Dc.step h s), false) := by unfold Dc.set; rw [hl]
theorem set_none {h : ByteArray → Nat} {s : Dc.St ByteArray (Option Addr)} {key : ByteArray} {v : Option Addr} (hl : Dc.look key (Dc.all (Dc.step h s)) = none) : Dc.set h s key v = (Dc.lay h (Dc.grow (Dc.all (Dc.step h s)).length (Dc.step h s)) (key, v), true) := by unfold Dc.set; rw [hl]
theorem all_none {h : ByteArray → Nat} {s : Dc.St ByteArray (Option Addr)} (hI : Dc.Inv h s) (ho : s.old = []) : (Dc.all s).length = 0 := by
  have hy : s.young = [] := Classical.byContradiction fun hh => by have := hI.move hh; rw [ho] at this; simp at this
  rw [Dc.all_eq hI, ho, hy]; rfl
/-- an entry is pushed into a table of a dict -/
theorem dct_push {h : ByteArray → Nat} {seed : Nat} (hH : HashIs seed h) {w : World} {r : Roles} {b n t g cap : Nat} {s : Dc.St ByteArray (Option Addr)} {T : Dc.Tab ByteArray (Option Addr)} {e : Ent} (hD : Dct w r b seed n s) (hT : (t = 0 ∧ T = s.old) ∨ (t = 1 ∧ T = s.young)) (hTb : Tb w r t (.slice (some ⟨g, 0, none⟩) T.length cap) T) (hfc : w.cell? ⟨b, 2 + t, none⟩ = some (.slice (some ⟨g, 0, none⟩) T.length cap))
    (hT0 : 0 < T.length) (hm : T.length ≤ maxLen) (hk : e.1.size ≤ maxLen) (hlen : ∀ c ∈ T, c.length ≤ 2600000000000) :
    Calls Tryz.prog 84 #[.slice (some ⟨g, 0, none⟩) T.length cap, .int .u64 seed, .agg #[.string e.1, .pointer e.2]] w fun x w' => x = .returned (.tuple #[]) ∧ w'.cell? ⟨b, 1, none⟩ = some (.int .i64 n) ∧ w'.frozen? ⟨b, 1, none⟩ = false ∧
      ∃ r', Dct (w'.setCell ⟨b, 1, none⟩ (.int .i64 ((n + 1 : Nat) : Int))) r' b seed (n + 1) (if t = 0 then { s with old := Dc.push h s.old e } else { s with young := Dc.push h s.young e }) ∧ Fr w r (w'.setCell ⟨b, 1, none⟩ (.int .i64 ((n + 1 : Nat) : Int))) r' := by
  refine (push_any hH w r t g cap T e hTb hT0 hm hk hD.1 hlen).mono ?_
  rintro _ w' ⟨rfl, r', q1, q2⟩
  obtain ⟨ao, ca, bo, cb, h4, h5, h3⟩ := hD.cells
  have ht : t ≤ 1 := by rcases hT with ⟨rfl, _⟩ | ⟨rfl, _⟩ <;> omega
  have hb : w'.heap[b]? = _ := (q2.2.2.1 b (hD.1 b (by rw [hD.2.1]; simp)) (by rw [hD.2.1]; simp; omega) (by rw [hD.2.1]; simp; omega)).1.trans h3
  obtain ⟨_, c1, _, _, _, cf⟩ := five hb
  exact ⟨rfl, c1, cf 1, r', push_mem hD hT hfc q1 q2⟩
theorem set_len {h : ByteArray → Nat} {s : Dc.St ByteArray (Option Addr)} {key : ByteArray} {v : Option Addr} (_ : Dc.Inv h (Dc.step h s)) (hI : Dc.Inv h s) (hn : Dc.look key (Dc.all (Dc.step h s)) = none) : (Dc.all (Dc.set h s key v).1).length = (Dc.all (Dc.step h s)).length + 1 := by
  obtain ⟨q1, q2⟩ := Dc.step_inv hI
  rw [(Dc.set_inv hI key v).2.2.2, q2.length_eq, ← Dc.look_perm (by rw [Dc.all_eq q1]; exact q1.nodup) q2 key, hn]
  rfl
theorem set_end {h : ByteArray → Nat} {N n b seed : Nat} {s s3 : Dc.St ByteArray (Option Addr)} {key : ByteArray} {v : Option Addr} {w W : World} {r r4 : Roles} (e1 : Dc.set h s key v = (Dc.lay h s3 (key, v), true)) (e3 : (Dc.set h s key v).2 = (Dc.look key (Dc.all s)).isNone) (e2 : Okd h (N + 1) (Dc.set h s key v).1) (e5 : (Dc.all (Dc.set h s key v).1).length = n + 1) (hq : Dct W r4 b seed (n + 1) (Dc.lay h s3 (key, v))) (hF : Fr w r W r4) :
    Ending.returned (.bool true) = .returned (.bool (Dc.look key (Dc.all s)).isNone) ∧ ∃ r', Dd h (N + 1) W r' b seed (Dc.set h s key v).1 ∧ Fr w r W r' := by
  refine ⟨by rw [← e3, e1], r4, ⟨?_, e2⟩, hF⟩
  rw [e5, e1]
  exact hq
set_option maxRecDepth 100000 in
set_option maxHeartbeats 1000000 in
theorem set_any {h : ByteArray → Nat} {seed N : Nat} (hH : HashIs seed h) (w : World) (r : Roles) (b : Nat) (s : Dc.St ByteArray (Option Addr)) (key : ByteArray) (v : Option Addr) (hd : Dd h N w r b seed s) (hN : N + 1 ≤ 2600000000000) (hk : key.size ≤ maxLen) :
    Calls Tryz.prog 62 #[.pointer (some ⟨b, 0, none⟩), .string key, .pointer v] w fun e w' => e = .returned (.bool (Dc.look key (Dc.all s)).isNone) ∧ ∃ r', Dd h (N + 1) w' r' b seed (Dc.set h s key v).1 ∧ Fr w r w' r' := by
  have mS := hd.step hH (by omega)
  have hset := (Dc.set_inv hd.2.1 key v).2.1
  have hO := okd_set hd.2 hk v
  have HST := keep hset
  have HO := keep hO
  have HI := keep hd.2.1
  clear hd hset hO
  go_enter Tryz.func62, Tryz.ntmps62
  go_wp2_with fail
  refine mS.mono ?_
  rintro _ w1 ⟨rfl, r1, hd1, hf1⟩
  have mF := hd1.seek hH (by omega) hk
  have HD := keep hd1
  have HF := keep hf1
  clear mS hd1 hf1
  go_wp2_with fail
  refine mF.mono ?_
  rintro _ w2 ⟨hs, hb⟩
  have HB := keep hb
  clear mF
  rcases hs with ⟨rfl, h0, h1⟩ | ⟨t, g, cap, p, T, x, hT, hT0, hTb, hfc, hp, rfl⟩
  · have hn := look_missed HD.out.2.1 h0 h1
    have HSN := keep (set_none (v := v) hn)
    have hlen := set_len (v := v) HD.out.2.1 HI.out hn
    have HLEN := keep hlen
    clear h0 h1 hb hn hlen
    have hD2 := HD.out.below HB.out
    obtain ⟨i1, i2, i3, i4, i5⟩ := id hD2.2
    have mG := grow_any w2 r1 b _ _ hD2.1 i1 (all_none i1) (by omega)
    obtain ⟨g1, g2, g3⟩ := Dc.grow_inv i1 (Dc.all (Dc.step h s)).length
    have gl := grow_len (n := (Dc.all (Dc.step h s)).length) (N := N) (s := Dc.step h s) (by omega) i4 i5
    have hcl : ∀ T : Dc.Tab ByteArray (Option Addr), T = (Dc.grow (Dc.all (Dc.step h s)).length (Dc.step h s)).old ∨ T = (Dc.grow (Dc.all (Dc.step h s)).length (Dc.step h s)).young → ∀ c ∈ T, c.length ≤ 2600000000000 := fun T hT c hc => by
      have a1 := (List.sublist_flatten_of_mem hc).length_le
      have a2 : (Dc.all (Dc.grow (Dc.all (Dc.step h s)).length (Dc.step h s))).length ≤ N := by rw [g2]; omega
      rw [Dc.all_eq g1, List.length_append] at a2
      rcases hT with rfl | rfl <;> omega
    have HS3 := keep (show ∃ s3, s3 = Dc.grow (Dc.all (Dc.step h s)).length (Dc.step h s) from ⟨_, rfl⟩)
    have HNL := keep i3
    obtain ⟨s3, hs3⟩ := HS3.out
    obtain ⟨n, hn⟩ : ∃ n, n = (Dc.all (Dc.step h s)).length := ⟨_, rfl⟩
    rw [← hn] at hs3 mG gl g3 hcl HSN HNL HLEN
    rw [← hs3] at mG gl g3 hcl HSN
    have hol : 0 < s3.old.length := by cases hh : s3.old with | nil => exact absurd hh g3 | cons _ _ => simp
    have hdn : n ≤ N := HNL.out
    clear hs3 hn HS3 hD2 i1 i2 i3 i4 i5 g1 g2 g3 HD
    go_wp2_with fail
    refine mG.mono ?_
    rintro _ w3 ⟨rfl, r3, hD3, hF3⟩
    have HF3 := keep hF3
    obtain ⟨ao, ca, bo, cb, h4, h5, h3⟩ := hD3.cells
    obtain ⟨c0, c1, c2, c3, c4, cf⟩ := five h3
    clear mG hF3 cf h3 c1 c4
    have mM := moving_any w3 b bo _ cb c3
    have hww : IntKind.i64.wrap ((n : Int) + 1) = ((n + 1 : Nat) : Int) := by rw [IntKind.wrap_i64]; omega
    by_cases hy : s3.young = []
    · obtain ⟨g, ca', e4, hrg, hgl⟩ := h4.form hol
      have e5 : ao = some ⟨g, 0, none⟩ := by injection e4
      subst e5
      clear e4
      have mP := dct_push hH (e := (key, v)) hD3 (.inl ⟨rfl, rfl⟩) h4 c2 hol (by unfold maxLen; omega) hk (hcl _ (.inl rfl))
      have hlay : Dc.lay h s3 (key, v) = { s3 with old := Dc.push h s3.old (key, v) } := by unfold Dc.lay; rw [if_pos (by rw [hy]; rfl)]
      have HLAY := keep hlay
      have hyl : decide (0 < s3.young.length) = false := by rw [hy]; rfl
      rw [hyl] at mM
      clear hD3 h4 h5 hcl hlay hyl c3 hy
      dsimp only at mP
      go_wp2_with fail
      refine mM.mono ?_
      rintro _ w' ⟨rfl, hw'⟩
      subst hw'
      go_wp2_with fail
      refine mP.mono ?_
      rintro _ w4 ⟨rfl, c1, f1, r4, q1, q2⟩
      have Q1 := keep q1
      have Q2 := keep q2
      clear mP mM q1 q2 c0 c2
      go_wp2
      go_ret
      have e4 : Dct _ r4 b seed (n + 1) { s3 with old := Dc.push h s3.old (key, v) } := Q1.out
      rw [← HLAY.out] at e4
      exact set_end HSN.out HST.out HO.out HLEN.out e4 (((HF.out.trans (Fr.of_below HB.out)).trans HF3.out).trans Q2.out)
    · have hyl : 0 < s3.young.length := by cases hh : s3.young with | nil => exact absurd hh hy | cons _ _ => simp
      obtain ⟨g, ca', e4, hrg, hgl⟩ := h5.form hyl
      have e5 : bo = some ⟨g, 0, none⟩ := by injection e4
      subst e5
      clear e4
      have mP := dct_push hH (e := (key, v)) hD3 (.inr ⟨rfl, rfl⟩) h5 c3 hyl (by unfold maxLen; omega) hk (hcl _ (.inr rfl))
      have hlay : Dc.lay h s3 (key, v) = { s3 with young := Dc.push h s3.young (key, v) } := by unfold Dc.lay; rw [if_neg (by rw [Dc.empty_iff]; exact hy)]
      have HLAY := keep hlay
      rw [decide_eq_true hyl] at mM
      clear hD3 h4 h5 hcl hlay hy
      dsimp only at mP
      go_wp2_with fail
      refine mM.mono ?_
      rintro _ w' ⟨rfl, hw'⟩
      subst hw'
      go_wp2_with fail
      refine mP.mono ?_
      rintro _ w4 ⟨rfl, c1, f1, r4, q1, q2⟩
      have Q1 := keep q1
      have Q2 := keep q2
      clear mP mM q1 q2 c0 c2 c3
      go_wp2
      go_ret
      have e4 : Dct _ r4 b seed (n + 1) { s3 with young := Dc.push h s3.young (key, v) } := Q1.out
      rw [← HLAY.out] at e4
      exact set_end HSN.out HST.out HO.out HLEN.out e4 (((HF.out.trans (Fr.of_below HB.out)).trans HF3.out).trans Q2.out)
  · obtain ⟨c, gc, cc, q1, q2, q3, q4, q5, q6, q7, q9, _, _, _, q8⟩ := found_at hT0 hTb hp hb
    have hn := look_found HD.out.2.1 (T := T) (hT.imp (fun h => h.2) (fun h => h.2)) (List.mem_of_getElem? q1) (List.mem_reverse.1 (List.mem_of_getElem? q2))
    have hD2 := HD.out.below HB.out
    have hTb2 : Tb w2 r1 t (.slice (some ⟨g, 0, none⟩) T.length cap) T := hTb.kept (fun k hk _ => ⟨HB.out.block k hk, rfl⟩)
    have hbl := HD.out.1.1 b (by rw [HD.out.1.2.1]; simp)
    have hM := keep (set_mem (v := v) hD2.2.1 hD2.1 hT hTb2 ((HB.out.cell (p := ⟨b, 2 + t, none⟩) hbl).trans hfc) q1 q2 q4 q5 q6)
    have HSS := keep (set_some (v := v) hn)
    clear hT hT0 hTb hfc hp hb q1 q2 q5 q6 hn hD2 hTb2 hbl
    generalize h key % T.length = i at *
    have i0 : (0 : Int) ≤ (i : Int) := by omega
    have i1 : (i : Int) < (T.length : Int) := by omega
    have p0 : (0 : Int) ≤ (p : Int) := by omega
    have p1 : (p : Int) < (c.length : Int) := by omega
    go_wp2
    go_ret
    have e1 := HSS.out
    have e2 := HO.out
    have e3 := HST.out
    rw [e1] at e2 e3
    have e3 : false = (Dc.look key (Dc.all s)).isNone := e3
    refine ⟨by rw [← e3]; rfl, r1, ?_, (HF.out.trans (Fr.of_below HB.out)).trans hM.out.2⟩
    rw [e1]
    refine ⟨?_, e2⟩
    have e5 : (Dc.all (Dc.every (Dc.alter key v) (Dc.step h s))).length = (Dc.all (Dc.step h s)).length := by
      rw [(Dc.alter_inv HD.out.2.1 key v).2]; unfold Dc.alter; rw [List.length_map]
    show Dct _ _ _ _ (Dc.all (Dc.every (Dc.alter key v) (Dc.step h s))).length _
    rw [e5]
    exact hM.out.1
end Go.Proofs.YthmmblohfjmbcaaGreat.DP

/-
  Contracts over this program: Delete.
-/
namespace Go.Proofs.YthmmblohfjmbcaaGreat.DP
open Go.RowKit Go.Shelf
theorem del_some {h : ByteArray → Nat} {s : Dc.St ByteArray (Option Addr)} {key : ByteArray} {x : Option Addr} (hl : Dc.look key (Dc.all (Dc.step h s)) = some x) : Dc.delete h s key = (Dc.shrink ((Dc.all (Dc.step h s)).length - 1) (Dc.every (Dc.without key) (Dc.step h s)), true) := by unfold Dc.delete; rw [hl]
theorem del_none {h : ByteArray → Nat} {s : Dc.St ByteArray (Option Addr)} {key : ByteArray} (hl : Dc.look key (Dc.all (Dc.step h s)) = none) : Dc.delete h s key = (Dc.step h s, false) := by unfold Dc.delete; rw [hl]
theorem del_len {h : ByteArray → Nat} {s : Dc.St ByteArray (Option Addr)} {key : ByteArray} {x : Option Addr} (hI : Dc.Inv h s) (hn : Dc.look key (Dc.all (Dc.step h s)) = some x) : (Dc.all (Dc.delete h s key).1).length = (Dc.all (Dc.step h s)).length - 1 ∧ 0 < (Dc.all (Dc.step h s)).length := by
  obtain ⟨q1, q2⟩ := Dc.step_inv hI
  have hnd : (Dc.keys (Dc.all (Dc.step h s))).Nodup := by rw [Dc.all_eq q1]; exact q1.nodup
  refine ⟨?_, List.length_pos_of_mem ((Dc.look_mem hnd key x).1 hn)⟩
  rw [(Dc.delete_inv hI key).2.2.2, q2.length_eq, ← Dc.look_perm hnd q2 key, hn]
  rfl
theorem del_end {h : ByteArray → Nat} {N n b seed : Nat} {s s3 : Dc.St ByteArray (Option Addr)} {key : ByteArray} {w W : World} {r r4 : Roles} {o : Bool} (e1 : Dc.delete h s key = (s3, o)) (e3 : (Dc.delete h s key).2 = (Dc.look key (Dc.all s)).isSome) (e2 : Okd h N (Dc.delete h s key).1) (e5 : (Dc.all (Dc.delete h s key).1).length = n) (hq : Dct W r4 b seed n s3) (hF : Fr w r W r4) :
    Ending.returned (.bool o) = .returned (.bool (Dc.look key (Dc.all s)).isSome) ∧ ∃ r', Dd h N W r' b seed (Dc.delete h s key).1 ∧ Fr w r W r' := by
  refine ⟨by rw [← e3, e1], r4, ⟨?_, e2⟩, hF⟩
  rw [e5, e1]
  exact hq
set_option maxRecDepth 100000 in
set_option maxHeartbeats 1000000 in
theorem delete_any {h : ByteArray → Nat} {seed N : Nat} (hH : HashIs seed h) (w : World) (r : Roles) (b : Nat) (s : Dc.St ByteArray (Option Addr)) (key : ByteArray) (hd : Dd h N w r b seed s) (hN : N + 1 ≤ 2600000000000) (hk : key.size ≤ maxLen) :
    Calls Tryz.prog 66 #[.pointer (some ⟨b, 0, none⟩), .string key] w fun e w' => e = .returned (.bool (Dc.look key (Dc.all s)).isSome) ∧ ∃ r', Dd h N w' r' b seed (Dc.delete h s key).1 ∧ Fr w r w' r' := by
  have mS := hd.step hH (by omega)
  have hset := (Dc.delete_inv hd.2.1 key).2.1
  have hO := okd_delete hd.2 key
  have HST := keep hset
  have HO := keep hO
  have HI := keep hd.2.1
  clear hd hset hO
  go_enter Tryz.func66, Tryz.ntmps66
  go_wp2_with fail
  refine mS.mono ?_
  rintro _ w1 ⟨rfl, r1, hd1, hf1⟩
  have mF := hd1.seek hH (by omega) hk
  have HD := keep hd1
  have HF := keep hf1
  clear mS hd1 hf1
  go_wp2_with fail
  refine mF.mono ?_
  rintro _ w2 ⟨hs, hb⟩
  have HB := keep hb
  clear mF
  rcases hs with ⟨rfl, h0, h1⟩ | ⟨t, g, cap, p, T, x, hT, hT0, hTb, hfc, hp, rfl⟩
  · have hn := look_missed HD.out.2.1 h0 h1
    have HSN := keep (del_none hn)
    clear h0 h1 hb hn
    go_wp2
    go_ret
    exact del_end HSN.out HST.out HO.out (by rw [HSN.out]) (HD.out.below HB.out).1 (HF.out.trans (Fr.of_below HB.out))
  · obtain ⟨c, gc, cc, q1, q2, q3, q4, q5, q6, _, _, q9, q10, q11, q8⟩ := found_at hT0 hTb hp hb
    have hn := look_found HD.out.2.1 (T := T) (hT.imp (fun h => h.2) (fun h => h.2)) (List.mem_of_getElem? q1) (List.mem_reverse.1 (List.mem_of_getElem? q2))
    have hD2 := HD.out.below HB.out
    have hTb2 : Tb w2 r1 t (.slice (some ⟨g, 0, none⟩) T.length cap) T := hTb.kept (fun k hk _ => ⟨HB.out.block k hk, rfl⟩)
    have hbl := HD.out.1.1 b (by rw [HD.out.1.2.1]; simp)
    obtain ⟨dl1, dl2⟩ := del_len HI.out hn
    have HDL := keep dl1
    have mW := without_any w2 gc cc p c q5 q3
    have hM := keep (fun (w3 : World) (ho : Only gc w2 w3) (hC : Chn w3 (.slice (some ⟨gc, 0, none⟩) (c.length - 1) cc) (c.reverse.eraseIdx p).reverse) => del_mem hD2.2.1 hD2.1 hT hTb2 ((HB.out.cell (p := ⟨b, 2 + t, none⟩) hbl).trans hfc) q1 q2 q6 ho hC)
    obtain ⟨i1, i2, i3, i4, i5⟩ := id hD2.2
    have hEI := keep (Dc.without_inv i1 key).1
    have hel : (Dc.every (Dc.without key) (Dc.step h s)).old.length ≤ 5400000000000 := by unfold Dc.every; rw [List.length_map]; omega
    have HSS := keep (del_some hn)
    have hrg : r1 g = (1 + t, 0) := by obtain ⟨_, _, a2, _⟩ := hTb; exact a2 g rfl
    have hgg : g ≠ gc := fun e => by rw [← e, hrg] at q6; simp at q6
    have hrb := HD.out.1.2.1
    have ht : t ≤ 1 := by rcases hT with ⟨rfl, _⟩ | ⟨rfl, _⟩ <;> omega
    have hbg : ¬ b = g := fun e => by rw [← e, hrb] at hrg; simp at hrg; omega
    have hbc : b ≠ gc := fun e => by rw [← e, hrb] at q6; simp at q6; omega
    obtain ⟨_, _, _, _, _, _, d3⟩ := hD2.1.cells
    obtain ⟨_, k1, _, _, _, kf⟩ := five d3
    have kf1 := kf 1
    obtain ⟨n, hnn⟩ : ∃ n, n = (Dc.all (Dc.step h s)).length := ⟨_, rfl⟩
    rw [← hnn] at HDL dl2 hM HSS k1 i3
    have hww : IntKind.i64.wrap ((n : Int) - 1) = ((n - 1 : Nat) : Int) := by rw [IntKind.wrap_i64]; omega
    clear hT hT0 hTb hfc hp hb q1 q2 q5 q6 hn hD2 hTb2 hbl dl1 i1 i2 i4 i5 d3 kf hrg hrb ht hnn
    generalize h key % T.length = i at *
    have i0 : (0 : Int) ≤ (i : Int) := by omega
    have i1 : (i : Int) < (T.length : Int) := by omega
    go_wp2_with fail
    refine mW.mono ?_
    rintro _ w3 ⟨rfl, hC3, ho3⟩
    have hM3 := hM.out w3 ho3 hC3
    have mK := shrink_any _ r1 b _ _ hM3.1 hEI.out hel (by omega)
    have u1 : w3.cell? ⟨g, i, none⟩ = some (.slice (some ⟨gc, 0, none⟩) c.length cc) := (World.cell?_of_block (w := w2) (a := ⟨g, i, none⟩) (ho3.2.2 g hgg)).trans q4
    have u2 : w3.frozen? ⟨g, i, none⟩ = false := (World.frozen?_of_block (w := w2) (a := ⟨g, i, none⟩) (ho3.2.2 g hgg)).trans q9
    have u3 : w3.cell? ⟨b, 1, none⟩ = some (.int .i64 n) := (World.cell?_of_block (w := w2) (a := ⟨b, 1, none⟩) (ho3.2.2 b hbc)).trans k1
    have u4 : w3.frozen? ⟨b, 1, none⟩ = false := (World.frozen?_of_block (w := w2) (a := ⟨b, 1, none⟩) (ho3.2.2 b hbc)).trans kf1
    have HF3 := keep hM3.2
    clear mW hM hM3 hC3 ho3 q4 q9 k1 kf1
    have hgb : ¬ g = b := fun e => hbg e.symm
    go_wp2_with fail
    refine mK.mono ?_
    rintro _ w6 ⟨rfl, r6, v1, v2⟩
    have V1 := keep v1
    have V2 := keep v2
    clear v1 v2 mK
    go_wp2
    go_ret
    exact del_end HSS.out HST.out HO.out HDL.out V1.out (((HF.out.trans (Fr.of_below HB.out)).trans HF3.out).trans V2.out)
end Go.Proofs.YthmmblohfjmbcaaGreat.DP

namespace Go.Proofs.YthmmblohfjmbcaaGreat.DP
open Go.RowKit Go.Shelf
/-- what lies under a key -/
def lk (s : Dc.St ByteArray (Option Addr)) (k : ByteArray) : Option (Option Addr) := Dc.look k (Dc.all s)
def ln (s : Dc.St ByteArray (Option Addr)) : Nat := (Dc.all s).length
def Setd (s s' : Dc.St ByteArray (Option Addr)) (key : ByteArray) (v : Option Addr) : Prop := (∀ k, lk s' k = if k = key then some v else lk s k) ∧ ln s' = ln s + (if (lk s key).isNone then 1 else 0)
def Deld (s s' : Dc.St ByteArray (Option Addr)) (key : ByteArray) : Prop := (∀ k, lk s' k = if k = key then none else lk s k) ∧ ln s' = ln s - (if (lk s key).isSome then 1 else 0)
def Samd (s s' : Dc.St ByteArray (Option Addr)) : Prop := (∀ k, lk s' k = lk s k) ∧ ln s' = ln s
theorem samd_step {h : ByteArray → Nat} {s : Dc.St ByteArray (Option Addr)} (hI : Dc.Inv h s) : Samd s (Dc.step h s) := by
  obtain ⟨q1, q2⟩ := Dc.step_inv hI
  exact ⟨fun k => Dc.look_perm (by rw [Dc.all_eq q1]; exact q1.nodup) q2 k, q2.length_eq⟩
theorem setd_of {h : ByteArray → Nat} {s : Dc.St ByteArray (Option Addr)} (hI : Dc.Inv h s) (key : ByteArray) (v : Option Addr) : Setd s (Dc.set h s key v).1 key v := ⟨(Dc.set_inv hI key v).2.2.1, (Dc.set_inv hI key v).2.2.2⟩
theorem deld_of {h : ByteArray → Nat} {s : Dc.St ByteArray (Option Addr)} (hI : Dc.Inv h s) (key : ByteArray) : Deld s (Dc.delete h s key).1 key := ⟨(Dc.delete_inv hI key).2.2.1, (Dc.delete_inv hI key).2.2.2⟩
theorem set_t {h : ByteArray → Nat} {seed N : Nat} (hH : HashIs seed h) (w : World) (r : Roles) (b : Nat) (s : Dc.St ByteArray (Option Addr)) (key : ByteArray) (v : Option Addr) (hd : Dd h N w r b seed s) (hN : N + 1 ≤ 2600000000000) (hk : key.size ≤ maxLen) :
    Calls Tryz.prog 62 #[.pointer (some ⟨b, 0, none⟩), .string key, .pointer v] w fun e w' => e = .returned (.bool (lk s key).isNone) ∧ ∃ r' s', Dd h (N + 1) w' r' b seed s' ∧ Setd s s' key v ∧ Fr w r w' r' := by
  refine (set_any hH w r b s key v hd hN hk).mono ?_
  rintro _ w' ⟨rfl, r', q1, q2⟩
  exact ⟨rfl, r', _, q1, setd_of hd.2.1 key v, q2⟩
theorem get_t {h : ByteArray → Nat} {seed N : Nat} (hH : HashIs seed h) (w : World) (r : Roles) (b : Nat) (s : Dc.St ByteArray (Option Addr)) (key : ByteArray) (hd : Dd h N w r b seed s) (hN : N ≤ 2600000000000) (hk : key.size ≤ maxLen) :
    Calls Tryz.prog 59 #[.pointer (some ⟨b, 0, none⟩), .string key] w fun e w' => e = .returned (got (lk s key)) ∧ ∃ r' s', Dd h N w' r' b seed s' ∧ Samd s s' ∧ Fr w r w' r' := by
  refine (get_any hH w r b s key hd hN hk).mono ?_
  rintro _ w' ⟨rfl, r', q1, q2⟩
  exact ⟨rfl, r', _, q1, samd_step hd.2.1, q2⟩
theorem del_t {h : ByteArray → Nat} {seed N : Nat} (hH : HashIs seed h) (w : World) (r : Roles) (b : Nat) (s : Dc.St ByteArray (Option Addr)) (key : ByteArray) (hd : Dd h N w r b seed s) (hN : N + 1 ≤ 2600000000000) (hk : key.size ≤ maxLen) :
    Calls Tryz.prog 66 #[.pointer (some ⟨b, 0, none⟩), .string key] w fun e w' => e = .returned (.bool (lk s key).isSome) ∧ ∃ r' s', Dd h N w' r' b seed s' ∧ Deld s s' key ∧ Fr w r w' r' := by
  refine (delete_any hH w r b s key hd hN hk).mono ?_
  rintro _ w' ⟨rfl, r', q1, q2⟩
  exact ⟨rfl, r', _, q1, deld_of hd.2.1 key, q2⟩
theorem len_t {h : ByteArray → Nat} {seed N : Nat} (w : World) (r : Roles) (b : Nat) (s : Dc.St ByteArray (Option Addr)) (hd : Dd h N w r b seed s) :
    Calls Tryz.prog 71 #[.pointer (some ⟨b, 0, none⟩)] w fun e w' => e = .returned (.int .i64 (ln s)) ∧ w' = w := len_any w r b seed _ s hd.1
theorem ln_none : ln Dc.none0 = 0 := rfl
theorem lk_none (k : ByteArray) : lk Dc.none0 k = none := rfl
def aa : ByteArray := { data := #[97] }
theorem aa_size : aa.size ≤ maxLen := by decide
end Go.Proofs.YthmmblohfjmbcaaGreat.DP
