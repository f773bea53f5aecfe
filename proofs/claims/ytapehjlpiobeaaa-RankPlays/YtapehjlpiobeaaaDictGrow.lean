/-
  Contracts over this program: a table grows, a table shrinks.
-/
import Derived.Test.YtapehjlpiobeaaaDictStep
import Derived.Laws.OwnMore
import Derived.Deep.QuietTactic
import Derived.BigQuiet
import Derived.WalkSmall
namespace Go.Proofs.Ytapehjlpiobeaaa
open Go.RowKit Go.Shelf
theorem info_chn : (Try.prog.info? 93).map (fun i => (i.zero, i.size, i.bytes)) = some (some (.slice none 0 0), 1, 24) := by kernel_rfl
theorem made_at {z : Value} {n i : Nat} (h : i < n) : ((madeCells #[z] n).toList)[i]? = some z := by
  have hl : i < (madeCells #[z] n).toList.length := by rw [Array.length_toList, size_madeCells]; exact h
  rw [List.getElem?_eq_getElem hl]
  simp [madeCells, Nat.mod_one]
theorem make_tab (w : World) (r : Roles) (t n : Nat) (hn : n ≤ 5400000000000) :
    ∃ w', (Instr.makeSlice 85 (.int .i64 (n : Int)) (.int .i64 (n : Int))).run Try.prog w = .ok (.slice (some ⟨w.heap.size, 0, none⟩) n n) w' ∧ Tb w' (role r (.slice (some ⟨w.heap.size, 0, none⟩) n n) (1 + t, 0)) t (.slice (some ⟨w.heap.size, 0, none⟩) n n) (List.replicate n []) ∧ w.grownBy w' none ∧ w.heap.size < w'.heap.size := by
  obtain ⟨i0, hi0, hz0, hz1, hz2⟩ := info_parts info_chn
  obtain ⟨w', h1, h2, h3⟩ := run_make_full (P := Try.prog) w 0 85 93 i0 (.slice none 0 0) 1 Try.underlying85 hi0 hz0 hz1 .i64 .i64 n (by rw [hz2]; omega) (by unfold maxLen; omega) (Nat.zero_le _)
  refine ⟨w', h1, ⟨_, by rw [List.length_replicate]; exact h2, fun k e => ?_, fun i c hc => ?_⟩, h3, own_lt h2 rfl⟩
  · unfold role; rw [if_pos e]
  · obtain ⟨hi, rfl⟩ : i < n ∧ c = [] := by
      rw [List.getElem?_replicate] at hc
      split at hc
      · cases hc; exact ⟨by assumption, rfl⟩
      · cases hc
    refine ⟨.slice none 0 0, ?_, ⟨rfl, .inl ⟨rfl, rfl⟩⟩, fun k e => by cases e⟩
    rw [Nat.mul_one]
    exact made_at hi
theorem role_same {r : Roles} {v : Value} {x : Nat × Nat} {k : Nat} (h : v.ownBlock ≠ some k) : role r v x k = r k := by unfold role; rw [if_neg h]
/-- a new row of buckets for old -/
theorem new_old {w w1 : World} {r : Roles} {b seed n : Nat} {s : Dc.St ByteArray Nat} {tv yv ov : Value} {T : Dc.Tab ByteArray Nat} (hD : Dct w r b seed n s) (hb : w.heap[b]? = some (.cells #[.int .u64 seed, .int .i64 n, ov, yv, .int .i64 s.pos] 87 (0, 0))) (hy : Tb w r 1 yv s.young)
    (hg : w.grownBy w1 none) (hT : Tb w1 (role r tv (1 + 0, 0)) 0 tv T) (htv : tv.ownBlock = some w.heap.size) (hlt : w.heap.size < w1.heap.size) :
    Dct (w1.setCell ⟨b, 2, none⟩ tv) (role r tv (1 + 0, 0)) b seed n { s with old := T } ∧ Fr w r (w1.setCell ⟨b, 2, none⟩ tv) (role r tv (1 + 0, 0)) := by
  have hrb := hD.2.1
  have hbl := hD.1 b (by rw [hrb]; simp)
  have hold : ∀ k, k < w.heap.size → role r tv (1 + 0, 0) k = r k := fun k hk => role_same (by rw [htv]; intro e; cases e; omega)
  have hsz : (w1.setCell ⟨b, 2, none⟩ tv).heap.size = w1.heap.size := by simp [World.setCell]
  refine ⟨⟨fun k hk => ?_, by rw [hold b hbl]; exact hrb, tv, yv, cells_setCell ((hg.block b hbl (by simp)).trans hb), ?_, ?_⟩, ⟨hg.os, hg.tape, hg.output⟩, by rw [hsz]; omega, fun k hk hr => ⟨?_, by rw [hold k hk]; exact hr⟩⟩
  · rw [hsz]
    by_cases e : tv.ownBlock = some k
    · rw [htv] at e; cases e; exact hlt
    · rw [role_same e] at hk; have := hD.1 k hk; omega
  · refine hT.kept (fun k _ hr => ⟨Below.heap_setCell _ _ _ _ (fun e => ?_), rfl⟩)
    have e : k = b := e
    rw [e, hold b hbl, hrb] at hr; simp at hr
  · refine hy.kept (fun k hk hr => ⟨?_, hold k hk⟩)
    rw [Below.heap_setCell _ _ _ _ (fun e => by have e : k = b := e; rw [e, hrb] at hr; simp at hr)]
    exact hg.block k hk (by simp)
  · rw [Below.heap_setCell _ _ _ _ (fun e => by have e : k = b := e; rw [e, hrb] at hr; simp at hr)]
    exact hg.block k hk (by simp)
/-- a new row of buckets for young -/
theorem new_young {w w1 : World} {r : Roles} {b seed n : Nat} {s : Dc.St ByteArray Nat} {tv yv ov : Value} {T : Dc.Tab ByteArray Nat} (hD : Dct w r b seed n s) (hb : w.heap[b]? = some (.cells #[.int .u64 seed, .int .i64 n, ov, yv, .int .i64 s.pos] 87 (0, 0))) (ho : Tb w r 0 ov s.old)
    (hg : w.grownBy w1 none) (hT : Tb w1 (role r tv (1 + 1, 0)) 1 tv T) (htv : tv.ownBlock = some w.heap.size) (hlt : w.heap.size < w1.heap.size) :
    Dct (w1.setCell ⟨b, 3, none⟩ tv) (role r tv (1 + 1, 0)) b seed n { s with young := T } ∧ Fr w r (w1.setCell ⟨b, 3, none⟩ tv) (role r tv (1 + 1, 0)) := by
  have hrb := hD.2.1
  have hbl := hD.1 b (by rw [hrb]; simp)
  have hold : ∀ k, k < w.heap.size → role r tv (1 + 1, 0) k = r k := fun k hk => role_same (by rw [htv]; intro e; cases e; omega)
  have hsz : (w1.setCell ⟨b, 3, none⟩ tv).heap.size = w1.heap.size := by simp [World.setCell]
  refine ⟨⟨fun k hk => ?_, by rw [hold b hbl]; exact hrb, ov, tv, cells_setCell ((hg.block b hbl (by simp)).trans hb), ?_, ?_⟩, ⟨hg.os, hg.tape, hg.output⟩, by rw [hsz]; omega, fun k hk hr => ⟨?_, by rw [hold k hk]; exact hr⟩⟩
  · rw [hsz]
    by_cases e : tv.ownBlock = some k
    · rw [htv] at e; cases e; exact hlt
    · rw [role_same e] at hk; have := hD.1 k hk; omega
  · refine ho.kept (fun k hk hr => ⟨?_, hold k hk⟩)
    rw [Below.heap_setCell _ _ _ _ (fun e => by have e : k = b := e; rw [e, hrb] at hr; simp at hr)]
    exact hg.block k hk (by simp)
  · refine hT.kept (fun k _ hr => ⟨Below.heap_setCell _ _ _ _ (fun e => ?_), rfl⟩)
    have e : k = b := e
    rw [e, hold b hbl, hrb] at hr; simp at hr
  · rw [Below.heap_setCell _ _ _ _ (fun e => by have e : k = b := e; rw [e, hrb] at hr; simp at hr)]
    exact hg.block k hk (by simp)
theorem movingT (w : World) (b : Nat) (bo : Option Addr) (n cb : Nat) (h : w.cell? ⟨b, 3, none⟩ = some (.slice bo n cb)) (hn : 0 < n) :
    Calls Try.prog 48 #[.pointer (some ⟨b, 0, none⟩)] w fun e w' => e = .returned (.bool true) ∧ w' = w := by
  have := moving_any w b bo n cb h
  rw [decide_eq_true hn] at this
  exact this
set_option maxRecDepth 100000 in
set_option maxHeartbeats 2000000 in
theorem grow_any {h : ByteArray → Nat} {seed : Nat} (w : World) (r : Roles) (b n : Nat) (s : Dc.St ByteArray Nat) (hD : Dct w r b seed n s) (hI : Dc.Inv h s) (hn : s.old = [] → n = 0) (hm0 : n ≤ 2600000000000) :
    Calls Try.prog 47 #[.pointer (some ⟨b, 0, none⟩)] w fun x w' => x = .returned (.tuple #[]) ∧ ∃ r', Dct w' r' b seed n (Dc.grow n s) ∧ Fr w r w' r' := by
  obtain ⟨ao, ca, bo, cb, h4, h5, h3⟩ := hD.cells
  obtain ⟨c0, c1, c2, c3, c4, cf⟩ := five h3
  have hbl := hD.1 b (by rw [hD.2.1]; simp)
  have hneb : ¬ b = w.heap.size := by omega
  have HD := keep hD
  have H3 := keep h3
  have H4 := keep h4
  have H5 := keep h5
  by_cases ho : s.old = []
  · have hy : s.young = [] := Classical.byContradiction fun hh => by have := hI.move hh; rw [ho] at this; simp at this
    have hp := hI.rest hy
    have hn0 := hn ho
    subst hn0
    have hg : Dc.grow 0 s = { s with old := List.replicate 4 [] } := by
      unfold Dc.grow; rw [if_pos (by rw [ho]; rfl)]; cases s; simp only at hy hp; rw [hy, hp]
    have ol : s.old.length = 0 := by rw [ho]; rfl
    have yl : s.young.length = 0 := by rw [hy]; rfl
    rw [ol] at c2
    rw [yl] at c3
    obtain ⟨w1, m1, m2, m3, m4⟩ := make_tab w r 0 4 (by omega)
    have m1 : (Instr.makeSlice 85 (.int .i64 4) (.int .i64 4)).run Try.prog w = .ok (.slice (some ⟨w.heap.size, 0, none⟩) 4 4) w1 := m1
    obtain ⟨q1, q2⟩ := new_old HD.out H3.out H5.out m3 m2 rfl m4
    have Q1 := keep q1
    have Q2 := keep q2
    have d2 : (w1.setCell ⟨b, 2, none⟩ (.slice (some ⟨w.heap.size, 0, none⟩) 4 4)).heap[b]? = _ := cells_setCell ((m3.block b hbl (by simp)).trans h3)
    obtain ⟨k0, k1, k2, k3, k4, kf⟩ := five (v2 := .slice (some ⟨w.heap.size, 0, none⟩) 4 4) d2
    rw [yl] at k3
    have m0 : w1.cell? ⟨b, 2, none⟩ = some (.slice ao 0 ca) := (m3.cell (a := ⟨b, 2, none⟩) c2 (by simp))
    have f0 : w1.frozen? ⟨b, 2, none⟩ = false := by rw [World.frozen?_of_block (w := w) (a := ⟨b, 2, none⟩) (m3.block b hbl (by simp))]; exact cf 2
    clear hD hI h3 h4 h5 c0 c1 c3 c4 cf q1 q2 m2 m3 m4 d2 k0 k4 kf ho hy hp hn ol yl hm0
    generalize hW : w1.setCell ⟨b, 2, none⟩ (.slice (some ⟨w.heap.size, 0, none⟩) 4 4) = W at *
    go_enter Try.func47, Try.ntmps47
    go_wp2_with fail
    clear hW m0 f0 m1 c2
    have k1 : W.cell? ⟨b, 1, none⟩ = some (.int .i64 0) := k1
    go_quiet (first | (go_at_call 48; refine Calls.quiet_of_same (moving_any _ b bo 0 cb (by simpa using k3))))
    go_wp2
    go_end0
    exact ⟨rfl, _, by rw [hg]; exact Q1.out.below (below_drewN (Below.refl _ _) _), Q2.out.trans (Fr.of_below (below_drewN (Below.refl _ _) _))⟩
  · have hol : 0 < s.old.length := by cases hs : s.old with | nil => exact absurd hs ho | cons _ _ => simp
    have e0 : ((s.old.length : Int) == 0) = false := beq_eq_false_iff_ne.2 (by omega)
    by_cases hy : s.young = []
    · have yl : s.young.length = 0 := by rw [hy]; rfl
      have hp := hI.rest hy
      rw [yl] at c3
      by_cases hge : s.old.length ≤ n
      · have hg : Dc.grow n s = { s with young := List.replicate (2 * s.old.length) [] } := by
          unfold Dc.grow
          rw [if_neg (by rw [Dc.empty_iff]; exact ho), if_pos (by rw [hy]; simp; exact hge)]
          cases s; simp only at hp; rw [hp]
        obtain ⟨L, hL⟩ : ∃ L, s.old.length = L := ⟨_, rfl⟩
        rw [hL] at c2 hol e0 hge hg
        have HL := keep hL
        have f3 := cf 3
        have hge' : (L : Int) ≤ (n : Int) := by omega
        have hw2 : IntKind.i64.wrap (2 * (L : Int)) = 2 * (L : Int) := by rw [IntKind.wrap_i64]; omega
        have hm2 : L ≤ 2600000000000 := by omega
        clear hD hI h3 h4 h5 c0 c4 cf ho hy hp hn yl hL hge hm0
        go_enter Try.func47, Try.ntmps47
        go_wp2_with fail
        go_quiet (first | (go_at_call 48; refine Calls.quiet_of_same (moving_any _ b bo 0 cb (by simpa using c3))))
        obtain ⟨w1, m1, m2, m3, m4⟩ := make_tab (w.drewN nq) r 1 (2 * L) (by omega)
        have d3 : w1.cell? ⟨b, 3, none⟩ = some (.slice bo 0 cb) := m3.cell (a := ⟨b, 3, none⟩) (by exact c3) (by simp)
        have g3 : w1.frozen? ⟨b, 3, none⟩ = false := by rw [World.frozen?_of_block (w := w.drewN nq) (a := ⟨b, 3, none⟩) (m3.block b hbl (by simp))]; exact f3
        have HM2 := keep m2
        have HM3 := keep m3
        clear m2 m3 f3
        have m1' : (Instr.makeSlice 85 (.int .i64 (2 * (L : Int))) (.int .i64 (2 * (L : Int)))).run Try.prog (w.drewN nq) = .ok (.slice (some ⟨w.heap.size, 0, none⟩) (2 * L) (2 * L)) w1 := by
          have := m1
          rw [Int.natCast_mul] at this
          exact this
        clear m1
        go_wp2
        go_end0
        obtain ⟨q1, q2⟩ := new_young (HD.out.below (below_drewN (Below.refl _ _) nq)) H3.out (H4.out.kept (fun k _ _ => ⟨rfl, rfl⟩)) HM3.out HM2.out rfl m4
        rw [← hg] at q1
        exact ⟨rfl, _, q1, (Fr.of_below (below_drewN (Below.refl _ _) nq)).trans q2⟩
      · have hg : Dc.grow n s = s := by
          unfold Dc.grow
          rw [if_neg (by rw [Dc.empty_iff]; exact ho), if_neg (by rw [hy]; simp; omega)]
        obtain ⟨L, hL⟩ : ∃ L, s.old.length = L := ⟨_, rfl⟩
        rw [hL] at c2 hol e0 hge
        have hge' : ¬ (L : Int) ≤ (n : Int) := by omega
        clear hD hI h3 h4 h5 c0 c4 cf ho hy hp hn yl hL
        go_enter Try.func47, Try.ntmps47
        go_wp2_with fail
        go_quiet (first | (go_at_call 48; refine Calls.quiet_of_same (moving_any _ b bo 0 cb (by simpa using c3))))
        go_wp2
        go_end0
        exact ⟨rfl, _, by rw [hg]; exact HD.out.below (below_drewN (Below.refl _ _) _), Fr.of_below (below_drewN (Below.refl _ _) _)⟩
    · have hyl : 0 < s.young.length := by cases hs : s.young with | nil => exact absurd hs hy | cons _ _ => simp
      have hg : Dc.grow n s = s := by
        unfold Dc.grow
        rw [if_neg (by rw [Dc.empty_iff]; exact ho), if_neg (by rw [Bool.and_eq_true, Dc.empty_iff]; exact fun hh => hy hh.1)]
      obtain ⟨L, hL⟩ : ∃ L, s.old.length = L := ⟨_, rfl⟩
      rw [hL] at c2 hol e0
      obtain ⟨Y, hY⟩ : ∃ Y, s.young.length = Y := ⟨_, rfl⟩
      rw [hY] at c3 hyl
      have hd : decide (0 < Y) = true := decide_eq_true hyl
      clear hD hI h3 h4 h5 c0 c4 cf ho hy hn hL hY
      go_enter Try.func47, Try.ntmps47
      go_wp2_with fail
      go_quiet (first | (go_at_call 48; refine Calls.quiet_of_same (movingT _ b bo Y cb (by simpa using c3) hyl)))
      go_wp2
      go_end0
      exact ⟨rfl, _, by rw [hg]; exact HD.out.below (below_drewN (Below.refl _ _) _), Fr.of_below (below_drewN (Below.refl _ _) _)⟩
end Go.Proofs.Ytapehjlpiobeaaa
