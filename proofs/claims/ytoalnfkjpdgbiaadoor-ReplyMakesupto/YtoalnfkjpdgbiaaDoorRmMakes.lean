/-
  The walk of ReplyMakes.
-/
import Derived.Test.YtoalnfkjpdgbiaaDoorRwTwin
import Derived.Test.YtoalnfkjpdgbiaaDoorRwLikes
import Derived.Test.YtoalnfkjpdgbiaaDoorRwSpoB
import Derived.Test.YtoalnfkjpdgbiaaDoorRmMade
import Derived.Test.YtoalnfkjpdgbiaaDoorRmBks
import Derived.Test.YtoalnfkjpdgbiaaDoorRmReq
import Derived.Test.YtoalnfkjpdgbiaaDoorRpBks
import Derived.BigQuiet
import Derived.Deep.QuietTactic
namespace Go.Proofs.YtoalnfkjpdgbiaaDoor
open Go.RowKit
set_option linter.unusedVariables false
theorem info_tx : (Tryd.prog.info? 9).map (fun i => (i.zero, i.size, i.bytes)) = some (some (.string .empty), 1, 16) := by kernel_rfl
theorem words_made (so : Option Addr) (cap : Nat) (S : List ByteArray) (w : World) (hT : Txs w so S) (hl : S.length ≤ 1048576) :
    ∃ (w2 w3 : World) (g c : Nat), (Instr.makeSlice 42 (.int .i64 0) (.int .i64 ((S.length + 3 : Nat) : Int))).run Tryd.prog w = .ok (.slice (some ⟨w.heap.size, 0, none⟩) 0 (S.length + 3)) w2 ∧
      (Builtin.append_ #[42, 42] 42 #[.slice (some ⟨w.heap.size, 0, none⟩) 0 (S.length + 3), .slice so S.length cap]).run Tryd.prog w2 = .ok (.slice (some ⟨g, 0, none⟩) S.length c) w3 ∧
      Kept (Below w.heap.size w w3) ∧ Kept (w.heap.size ≤ g) ∧ Kept (Wx w3 g S) := by
  obtain ⟨i0, hi0, hz0, hz1, hz2⟩ := parts_of info_tx
  obtain ⟨w2, r2, k2, g2⟩ := run_make_own (P := Tryd.prog) w w.heap.size 42 9 i0 _ 1 Tryd.underlying42 hi0 hz0 hz1 .i64 .i64 (S.length + 3) (by rw [hz2]; omega) (by unfold maxLen; omega) (Nat.le_refl _)
  have b2 : Below w.heap.size w w2 := (Below.refl _ w).grown g2 (Nat.le_refl _) (fun k hk => by cases hk)
  by_cases hS : S = []
  · subst hS
    rcases k2.2 with ⟨e, _⟩ | ⟨g', cap', cu', ev', hb', hg', q1, q2, q3, q4⟩
    · cases e
    injection ev' with e1 _ e3
    injection e1 with e1
    injection e1 with e1
    subst e1
    exact ⟨w2, w2, w.heap.size, 3, r2, app_zero (P := Tryd.prog) w2 42 42 9 Tryd.underlying42 i0 hi0 ⟨w.heap.size, 0, none⟩ 0 3 (by decide) so cap, keep b2, keep (Nat.le_refl _), keep ⟨cu', hg', Nat.zero_le _, fun j s h => by simp at h⟩⟩
  · obtain ⟨a, rfl⟩ : ∃ a, so = some a := by
      obtain ⟨a, ha, _⟩ := hT 0 (by cases S with | nil => exact absurd rfl hS | cons x S => simp)
      exact ⟨a, ha⟩
    obtain ⟨v', w', r1, r2', r3, r4, _⟩ := app_gen w2 w.heap.size 42 42 42 9 i0 _ 1 16 Tryd.underlying42 hi0 hz0 hz1 hz2 rfl (by decide) _ 0 [] k2 (.slice (some a) S.length cap) S.length (S.map Value.string) (Src.ofSlice _ Tryd.underlying42 a S.length cap _ (by rw [List.length_map, Nat.mul_one]) (fun j u hu => by
      rw [List.getElem?_map] at hu
      obtain ⟨x, hx, rfl⟩ := Option.map_eq_some_iff.1 hu
      obtain ⟨h1, h2⟩ := List.getElem?_eq_some_iff.1 hx
      obtain ⟨a', ha, hab, _, hc⟩ := hT j h1
      obtain rfl := (Option.some.inj ha).symm
      rw [h2] at hc
      exact (World.cell?_of_block (b2.block _ (by rw [ad_block]; exact hab))).trans hc) (fun u hu => by
      obtain ⟨x, _, rfl⟩ := List.mem_map.1 hu
      rfl)) (by unfold maxLen; omega) (by omega) b2.size
    rw [Nat.zero_add, List.nil_append] at r2'
    have b3 : Below w.heap.size w w' := b2.trans ⟨r3.os, r3.tape, r3.output, r3.size, fun k hk => r3.block k (Nat.lt_of_lt_of_le hk b2.size) (fun e => by
      have : w.heap.size = k := (Option.some.inj e).symm
      omega)⟩
    have hlt := r2'.lt
    rcases r2'.2 with ⟨_, e⟩ | ⟨g3, c3, cu, rfl, hg3, q3', q4', q5, q6, q7⟩
    · exact absurd (List.length_eq_zero_iff.1 e) hS
    · refine ⟨w2, w', g3, c3, r2, r1, keep b3, keep (hlt g3 rfl).1, keep ⟨cu, q3', by rw [q6]; omega, fun j s hs => ?_⟩⟩
      have hj := (List.getElem?_eq_some_iff.1 hs).1
      have e1 := congrArg (fun l => l[j]?) q7
      simp only [List.getElem?_take, List.getElem?_map, hs, Option.map_some] at e1
      rw [if_pos (by omega)] at e1
      rw [← Array.getElem?_toList]
      exact e1
theorem tl_leaf (Q : Nat → Prop) (w : World) (n : Nat) (k i : Int) (s : ByteArray) (hk : I64 k) (hi : I64 i) (hs : s.size < 4294967281) : Tel Q w (n + 1) [.int .i64 k, .string s, .int .i64 i, .slice none 0 0] ((k, s, i, []) : Rp.T (n + 1)) :=
  ⟨_, rfl, .inl ⟨rfl, _, rfl⟩, hk, hi, hs⟩
theorem i64t {k : Int} (h0 : -100 ≤ k) (h : k ≤ 100) : I64 k := ⟨by omega, by omega⟩
theorem i6 : I64 6 := i64t (by decide) (by decide)
theorem i0' : I64 0 := i64t (by decide) (by decide)
theorem fld3 (p0 : Int) (p1 : ByteArray) (p2 : Int) (p3 : Option Addr) (p4 p5 : Nat) (w : World) : (Instr.field 25 (.agg #[.int .i64 p0, .string p1, .int .i64 p2, .slice p3 p4 p5]) 3).run Tryd.prog w = .ok (.slice p3 p4 p5) w := by kernel_rfl
theorem tel_list2 {P : Nat → Prop} {w : World} {n : Nat} {a b c v : Value} {R : Rp.T (n + 1)} (h : Tel P w (n + 1) [a, b, c, v] R) : Lst P w (Tel P w n) v (Rp.ls R) := by
  obtain ⟨lv, elv, hlst, _⟩ := h
  have elv' : v = lv := by
    injection elv with _ h2
    injection h2 with _ h3
    injection h3 with _ h4
    injection h4
  rw [elv']
  exact hlst
theorem not_same (a : Int) : (a != a) = false := by simp
set_option maxRecDepth 100000 in
set_option maxHeartbeats 16000000 in
theorem makes_walk (s : ByteArray) (n : Int) (so : Option Addr) (cap : Nat) (S : List ByteArray) (no : Option Addr) (ncap : Nat) (N : List Nd) (w : World) (hs : s.size ≤ 1048576) (hn : I64 n)
    (hT : Txs w so S) (hS : ∀ s ∈ S, s.size ≤ 1048576) (hl : S.length ≤ 1048576) (hz : (Rp.enc 2 (rqR S)).length ≤ 16777216)
    (hN : Nds w no N) (hNl : N.length ≤ 1048576) (hNr : rest N 0 ≤ 1048576) (hv : Vars w) (ht : Tab w) :
    Calls Tryd.prog 5 #[.string s, .int .i64 n, .slice so S.length cap, .slice no N.length ncap] w fun e w' => e = .returned (.bool true) ∧ Below w.heap.size w w' := by
  obtain ⟨PP, hPP⟩ : ∃ PP : Ending → World → Prop, PP = fun e w' => e = .returned (.bool true) ∧ Below w.heap.size w w' := ⟨_, rfl⟩
  rw [← hPP]
  have HP := keep hPP
  clear hPP
  have hwt := top_wt N
  have TR := keep (tree_top no ncap N hNl w hN)
  obtain ⟨R, hR⟩ : ∃ R : Rp.T 13, R = (tre N 12 0).1 := ⟨_, rfl⟩
  obtain ⟨at', hat⟩ : ∃ a, a = (tre N 12 0).2 := ⟨_, rfl⟩
  rw [← hR, ← hat] at TR
  have hw2 : Rp.wt 13 R ≤ 2000000 := by rw [hR]; omega
  have TW := keep (fun cs w' (hT : Tel (· < w'.heap.size) w' 13 cs R) => twin_any 13 R cs w' hT hw2)
  obtain ⟨L, hL⟩ : ∃ L : List (Rp.T 12), L = Rp.ls R := ⟨_, rfl⟩
  have hLl : L.length ≤ 2000000 := by
    have h1 := Rp.sum_len (Rp.wt 12) (Rp.wt_pos 12) L
    have h2 : Rp.wt 13 R = 4 + (Rp.tx R).size + ((Rp.ls R).map (Rp.wt 12)).sum := rfl
    rw [← hL] at h2
    omega
  have HLL := keep hLl
  have HLR := keep hL
  have SA := keep (fun ca cb w' (ha : Tel (· < w'.heap.size) w' 13 ca (Rp.mk 6 .empty 0 L)) (hb : Tel (· < w'.heap.size) w' 13 cb (Rp.mk 6 .empty 0 L)) => rsame_any 13 _ _ ca cb w' ha hb)
  have SB := keep (fun ca cb w' (ha : Tel (· < w'.heap.size) w' 2 ca (rqR S)) (hb : Tel (· < w'.heap.size) w' 2 cb (rqR S)) => rsame_any 2 _ _ ca cb w' ha hb)
  have S1 := keep (fun (k i : Int) (t : ByteArray) (w' : World) (hk : I64 k) (hi : I64 i) (ht : t.size < 4294967281) => rsame_any 1 _ _ _ _ w' (tl_leaf (· < w'.heap.size) w' 0 k i t hk hi ht) (tl_leaf (· < w'.heap.size) w' 0 k i t hk hi ht))
  have ER := keep (fun w' (hb : Below w.heap.size w w') => error_any s w' (hv.below hb) (by omega))
  have RE := keep (fun w' => rerror_any s w' hs)
  have WM := keep (fun w' (hb : Below w.heap.size w w') => words_made so cap S w' (hT.bel hb) hl)
  have BW := keep (fun g c w' (h : Wx w' g S) => bulks_any 0 (some ⟨g, 0, none⟩) c S w' (h.txs hS) (by omega))
  have RW := keep (fun g c w' (h : Wx w' g S) (hb : Below w.heap.size w w') => request_any (some ⟨g, 0, none⟩) c S w' (h.txs hS) (tab_below ht hb (tab_lt ht)) hz)
  have BR := keep (fun w' (hb : Below w.heap.size w w') => rbulks_any 0 so cap S w' (hT.bel hb) (by omega))
  have RR := keep (fun w' (hb : Below w.heap.size w w') => rrequest_any so cap S w' (hT.bel hb) hl hS hz)
  have RD := keep (fun w' (hb : Below w.heap.size w w') => request_any so cap S w' (hT.bel hb) (tab_below ht hb (tab_lt ht)) hz)
  obtain ⟨Z, hZ⟩ : ∃ Z, Z = Rp.enc 2 (rqR S) := ⟨_, rfl⟩
  rw [← hZ] at RW RR RD
  have SM := keep (fun va vb w' (ha : Kb w' va Z) (hb : Kb w' vb Z) => same_any va vb Z Z w' ha.bs hb.bs (by rw [hZ]; omega))
  have SP := keep (fun v w' (B : Nat) (h : Kb w' v Z) (ho : ∀ k, v.ownBlock = some k → B ≤ k) (hB : B ≤ w'.heap.size) => bspoil_any B v Z w' h ho hB (by rw [hZ]; omega))
  have HTX := keep (fun w' (hb : Below w.heap.size w w') => hT.bel hb)
  obtain ⟨ns, hns⟩ : ∃ ns, S.length = ns := ⟨_, rfl⟩
  rw [hns] at BW RW BR RR RD WM ⊢
  have HNS := keep hns
  have HL := keep hl
  have HS := keep hs
  have HN := keep hn
  have HSS := keep hS
  clear hR hat hwt hw2 hN hNl hNr hv ht hL hLl hs hn hT hS hl hz hZ hns
  generalize N.length = nn at *
  go_enter Tryd.func5, Tryd.ntmps5
  go_wp2_with fail
  refine TR.out.mono ?_
  rintro e w1 ⟨cs1, rfl, t1, b1⟩
  obtain ⟨q0, q1, q2, q3, q4, q5, rfl, _⟩ := t1.six
  obtain ⟨W1, hW1⟩ : ∃ x, x = w1.alloc (.cells #[.int .i64 q0, .string q1, .int .i64 q2, .slice q3 q4 q5] 25) := ⟨_, rfl⟩
  have a1 : Below w1.heap.size w1 W1 := hW1 ▸ (Below.refl _ _).alloc (Nat.le_refl _) _
  have X1 := keep (show Box W1 w1.heap.size (.int .i64 q0) (.string q1) (.int .i64 q2) (.slice q3 q4 q5) from hW1 ▸ Box.new w1 _ _ _ _)
  obtain ⟨P0, hP0⟩ : ∃ P0 : Nat → Prop, P0 = fun b => w.heap.size ≤ b ∧ b < w1.heap.size := ⟨_, rfl⟩
  have HP0 := keep (show ∀ b, P0 b → w.heap.size ≤ b ∧ b < w1.heap.size from fun b hb => by rw [hP0] at hb; exact hb)
  have B1 := keep (b1.trans (a1.mono b1.size))
  obtain ⟨WD, hWD⟩ : ∃ x, x = W1.drew := ⟨_, rfl⟩
  have bD : Below W1.heap.size W1 WD := hWD ▸ (Below.refl _ W1).drew
  have zD : WD.heap.size = W1.heap.size := by rw [hWD]; rfl
  have BDD := keep bD
  have aD : Below w1.heap.size w1 WD := a1.trans (bD.mono a1.size)
  have tD : Tel P0 WD 13 [.int .i64 q0, .string q1, .int .i64 q2, .slice q3 q4 q5] R := Tel.mono (fun b h => by rw [hP0]; exact h) (fun b h => aD.block b h.2) _ _ _ t1
  have lD := tel_list2 tD
  rw [← HLR.out] at lD
  have TD := keep tD
  have XD := keep (X1.out.below bD X1.out.lt)
  have BD := keep (B1.out.trans (bD.mono B1.out.size))
  obtain ⟨ao', c', ev, _, _⟩ := lD.form
  injection ev with e1 e2 e3
  subst e1
  subst e3
  obtain ⟨ln, hln⟩ : ∃ ln, L.length = ln := ⟨_, rfl⟩
  have HLN := keep hln
  rw [hln] at e2
  subst e2
  obtain ⟨w2, w3, g, c, mk, run, B22, B23, GG, LS, ROW⟩ := list_made 12 P0 L q3 q5 WD (fun b hb => by have := HP0.out b hb; have := a1.size; omega) (by rw [hln]; exact lD) (by have := HLL.out; omega)
  rw [hln] at mk run
  have S1D := keep (show w1.heap.size < W1.heap.size ∧ W1.heap.size = WD.heap.size from ⟨X1.out.lt, zD.symm⟩)
  have hw3 : IntKind.i64.wrap ((q4 : Int) + 3) = ((q4 + 3 : Nat) : Int) := by have := HLL.out; rw [IntKind.wrap_i64]; omega
  obtain ⟨M, hM⟩ : ∃ M, q4 + 3 = M := ⟨_, rfl⟩
  rw [hM] at mk run hw3
  have RUN := keep run
  have H2 := keep ((XD.out.below B22.out XD.out.lt).cells).2.2.2
  have H3 := keep ((XD.out.below B23.out XD.out.lt).cells).2.2.2
  have hD3 := XD.out.cells.2.2.2
  obtain ⟨d0, d1, d2, d3⟩ := X1.out.cells
  have hq1 := hW1.symm
  clear hW1 a1 b1 t1 hP0 bD zD aD tD lD run hln hM
  go_upto_region 2 with fail
  clear d0 d1 d2 d3 hq1
  refine wp_region_held_drew (S := fun W => W.cell? ⟨w1.heap.size, 3, none⟩ = some (.slice q3 q4 q5)) (by kernel_rfl) (by rw [← hWD]; exact hD3) (fun hHeld => ?_)
  rw [← hWD] at hHeld ⊢
  clear hWD
  refine wpAnyH_take (i := 0) (oi := { dst := some 27, op := _, type := _, pos := _, after := _, guard := _ }) (v := ?v1) rfl (by kernel_rfl) (by kernel_rfl) (by kernel_rfl) (fun _ _ _ h => h) (Or.inl ⟨by rfl, ?hy1⟩) (by assumption) ?rest1
  case hy1 => (intro w hSw; obtain c3 := hSw; go_simp; try with_reducible rfl)
  try simp only [Act.put, List.setIfInBounds_toArray, List.set_cons_zero, List.set_cons_succ]
  refine wpAnyH_take (i := 1) (oi := { dst := some 28, op := _, type := _, pos := _, after := _, guard := _ }) (v := ?v2) rfl (by kernel_rfl) (by kernel_rfl) (by kernel_rfl) (fun _ _ _ h => h) (Or.inl ⟨by rfl, ?hy2⟩) (by assumption) ?rest2
  case hy2 => (intro w hSw; obtain c3 := hSw; go_simp; try with_reducible rfl)
  try simp only [Act.put, List.setIfInBounds_toArray, List.set_cons_zero, List.set_cons_succ]
  refine wpAnyH_take (i := 2) (oi := { dst := some 29, op := _, type := _, pos := _, after := _, guard := _ }) (v := ?v3) rfl (by kernel_rfl) (by kernel_rfl) (by kernel_rfl) (fun _ _ _ h => h) (Or.inl ⟨by rfl, ?hy3⟩) (by assumption) ?rest3
  case hy3 => (intro w hSw; obtain c3 := hSw; go_simp; try with_reducible rfl)
  try simp only [Act.put, List.setIfInBounds_toArray, List.set_cons_zero, List.set_cons_succ]
  refine wpAnyH_take (i := 3) (oi := { dst := some 30, op := _, type := _, pos := _, after := _, guard := _ }) (v := (.int .i64 (M : Int))) rfl (by kernel_rfl) (by kernel_rfl) (by kernel_rfl) (fun _ _ _ h => h) (Or.inl ⟨by rfl, ?hy4⟩) (by assumption) ?rest4
  case hy4 => (intro w hSw; obtain c3 := hSw; first | (go_simp; done) | (go_simp; simp [*]; done) | (simp [*]; go_simp; done))
  try simp only [Act.put, List.setIfInBounds_toArray, List.set_cons_zero, List.set_cons_succ]
  refine wpAnyH_take (i := 5) (oi := { dst := some 32, op := _, type := _, pos := _, after := _, guard := _ }) (v := ?v5) rfl (by kernel_rfl) (by kernel_rfl) (by kernel_rfl) (fun _ _ _ h => h) (Or.inl ⟨by rfl, ?hy5⟩) (by assumption) ?rest5
  case hy5 => (intro w hSw; obtain c3 := hSw; go_simp; try with_reducible rfl)
  try simp only [Act.put, List.setIfInBounds_toArray, List.set_cons_zero, List.set_cons_succ]
  refine wpAnyH_take (i := 6) (oi := { dst := some 33, op := _, type := _, pos := _, after := _, guard := _ }) (v := ?v6) rfl (by kernel_rfl) (by kernel_rfl) (by kernel_rfl) (fun _ _ _ h => h) (Or.inl ⟨by rfl, ?hy6⟩) (by assumption) ?rest6
  case hy6 => (intro w hSw; obtain c3 := hSw; go_simp; try with_reducible rfl)
  try simp only [Act.put, List.setIfInBounds_toArray, List.set_cons_zero, List.set_cons_succ]
  refine wpAnyH_ready (rs := [4]) (by kernel_rfl) (by simp) ?_
  refine AllReadyH.cons (o := { dst := some 31, op := _, type := _, pos := _, after := _, guard := _ }) rfl (fun K hK => ?_) AllReadyH.nil
  go_simp
  refine hK.out _ _ H2.out (fun hHeld => ?_)
  try simp only [Act.put, List.setIfInBounds_toArray, List.set_cons_zero, List.set_cons_succ]
  clear hK
  refine wpAnyH_ready (rs := [7]) (by kernel_rfl) (by simp) ?_
  refine AllReadyH.cons (o := { dst := some 34, op := _, type := _, pos := _, after := _, guard := _ }) rfl (fun K hK => ?_) AllReadyH.nil
  refine wp_app_run (.tmp 31) (.tmp 33) 23 23 rfl _ _ _ rfl rfl RUN.out ?_
  refine hK.out _ _ H3.out (fun hHeld => ?_)
  try simp only [Act.put, List.setIfInBounds_toArray, List.set_cons_zero, List.set_cons_succ]
  clear hK
  refine wpAnyH_take (i := 8) (oi := { dst := some 11, op := _, type := _, pos := _, after := _, guard := _ }) (v := ?v7) rfl (by kernel_rfl) (by kernel_rfl) (by kernel_rfl) (fun _ _ _ h => h) (Or.inl ⟨by rfl, ?hy7⟩) (by assumption) ?rest7
  case hy7 => (intro w hSw; go_simp; try with_reducible rfl)
  try simp only [Act.put, List.setIfInBounds_toArray, List.set_cons_zero, List.set_cons_succ]
  refine wpAnyH_done (by kernel_rfl) ?_ _
  clear hHeld mk RUN H2 H3 hD3
  have h0D := fun b (hb : P0 b) => (show b < w3.heap.size by have := HP0.out b hb; have := B23.out.size; have := S1D.out; omega)
  have AR := keep (array_laid 12 P0 L g c w3 h0D LS.out (by have := HLL.out; omega))
  have B3 := keep (BD.out.trans (B23.out.mono BD.out.size))
  have X3 := keep (XD.out.below B23.out XD.out.lt)
  rw [HLN.out] at AR
  clear h0D
  go_wp2_with fail
  refine AR.out.mono ?_
  rintro e w4 ⟨⟨av, rfl, la⟩, b4⟩
  obtain ⟨ao4, c4, rfl, _, _⟩ := la.form
  rw [HLN.out] at la ⊢
  obtain ⟨W4, hW4⟩ : ∃ x, x = w4.alloc (.cells #[.int .i64 6, .string ⟨#[]⟩, .int .i64 0, .slice ao4 q4 c4] 25) := ⟨_, rfl⟩
  have a4 : Below w4.heap.size w4 W4 := hW4 ▸ (Below.refl _ _).alloc (Nat.le_refl _) _
  have X4 := keep (show Box W4 w4.heap.size (.int .i64 6) (.string ⟨#[]⟩) (.int .i64 0) (.slice ao4 q4 c4) from hW4 ▸ Box.new w4 _ _ _ _)
  have C4 := keep (b4.trans (a4.mono b4.size))
  have B4 := keep (B3.out.trans (C4.out.mono B3.out.size))
  have T4 := keep (show Tel (fun b => b ≠ g ∧ b < w4.heap.size) W4 13 [.int .i64 6, .string ⟨#[]⟩, .int .i64 0, .slice ao4 q4 c4] (Rp.mk 6 .empty 0 L) from
    ⟨_, rfl, la.mono (fun b h => ⟨by rcases h.1 with q | q; exact (by have := HP0.out b q; have := S1D.out; have := GG.out; omega); exact (by have := GG.out; omega), h.2⟩) (fun b h => a4.block b h.2) (fun cs x hx => Tel.mono (fun b h => ⟨by rcases h.1 with q | q; exact (by have := HP0.out b q; have := S1D.out; have := GG.out; omega); exact (by have := GG.out; omega), h.2⟩) (fun b h => a4.block b h.2) _ _ _ hx), i6, i0', by show (0 : Nat) < 4294967281; decide⟩)
  have S4 := keep (show w3.heap.size ≤ w4.heap.size ∧ w4.heap.size < W4.heap.size from ⟨b4.size, X4.out.lt⟩)
  have X14 := keep (X3.out.below C4.out X3.out.lt)
  have CT := keep (TW.out _ W4 (Tel.mono (fun b h => by have := HP0.out b h; have := S1D.out; have := B23.out.size; have := S4.out; omega) (fun b h => ((C4.out.block b (by have := HP0.out b h; have := S1D.out; have := B23.out.size; omega)).trans (B23.out.block b (by have := HP0.out b h; have := S1D.out; omega)))) _ _ _ TD.out))
  obtain ⟨d0, d1, d2, d3⟩ := X14.out.cells
  have hq4 := hW4.symm
  clear hW4 a4 b4 la AR
  go_wp2_with fail
  refine CT.out.mono ?_
  rintro e w5 ⟨cs2, rfl, t5, b5⟩
  obtain ⟨p0, p1, p2, p3, p4, p5, rfl, _⟩ := t5.six
  have l5 := tel_list2 t5
  rw [← HLR.out] at l5
  have RA := keep (rarray_any 12 (fun b => W4.heap.size ≤ b ∧ b < w5.heap.size) L _ w5 (fun b h => h.2) (l5.mono (fun b h => h.2) (fun b h => rfl) (fun cs x hx => hx)) (by have := HLL.out; omega))
  have B5 := keep b5
  have hfd : (Instr.field 25 (.agg #[.int .i64 p0, .string p1, .int .i64 p2, .slice p3 p4 p5]) 3).run Tryd.prog w5 = .ok (.slice p3 p4 p5) w5 := fld3 _ _ _ _ _ _ w5
  clear d0 d1 d2 d3 hq4 t5 b5 l5 CT
  go_wp2_with fail
  refine RA.out.mono ?_
  rintro e w6 ⟨⟨wv, rfl, lw⟩, b6⟩
  obtain ⟨ao6, c6, rfl, _, _⟩ := lw.form
  rw [HLN.out] at lw ⊢
  obtain ⟨W6, hW6⟩ : ∃ x, x = w6.alloc (.cells #[.int .i64 6, .string ⟨#[]⟩, .int .i64 0, .slice ao6 q4 c6] 25) := ⟨_, rfl⟩
  have a6 : Below w6.heap.size w6 W6 := hW6 ▸ (Below.refl _ _).alloc (Nat.le_refl _) _
  have X6 := keep (show Box W6 w6.heap.size (.int .i64 6) (.string ⟨#[]⟩) (.int .i64 0) (.slice ao6 q4 c6) from hW6 ▸ Box.new w6 _ _ _ _)
  have C6 := keep ((B5.out.trans (b6.mono B5.out.size)).trans (a6.mono (Nat.le_trans B5.out.size b6.size)))
  have B6 := keep (B4.out.trans (C6.out.mono B4.out.size))
  have hz45 := B5.out.size
  have hz56 := b6.size
  have T6 := keep (show Tel (fun b => b ≠ g ∧ b < W6.heap.size) W6 13 [.int .i64 6, .string ⟨#[]⟩, .int .i64 0, .slice ao6 q4 c6] (Rp.mk 6 .empty 0 L) from
    ⟨_, rfl, lw.mono (fun b h => ⟨by have := GG.out; have := S4.out; rcases h.1 with q | q <;> omega, Nat.lt_of_lt_of_le h.2 a6.size⟩) (fun b h => a6.block b h.2) (fun cs x hx => Tel.mono (fun b h => ⟨by have := GG.out; have := S4.out; rcases h.1 with q | q <;> omega, Nat.lt_of_lt_of_le h.2 a6.size⟩) (fun b h => a6.block b h.2) _ _ _ hx), i6, i0', by show (0 : Nat) < 4294967281; decide⟩)
  have XA := keep (X4.out.below C6.out X4.out.lt)
  have TA := keep (show Tel (fun b => b ≠ g ∧ b < W6.heap.size) W6 13 [.int .i64 6, .string ⟨#[]⟩, .int .i64 0, .slice ao4 q4 c4] (Rp.mk 6 .empty 0 L) from Tel.mono (fun b h => ⟨h.1, by have := S4.out; have := C6.out.size; omega⟩) (fun b h => C6.out.block b (by have := S4.out; omega)) _ _ _ T4.out)
  have S6 := keep (show g < w4.heap.size ∧ w4.heap.size < W4.heap.size ∧ W4.heap.size ≤ w6.heap.size ∧ w6.heap.size < W6.heap.size from ⟨by have := GG.out; have := S4.out; omega, S4.out.2, by omega, X6.out.lt⟩)
  have ROW6 : Kept (∃ cur, W6.heap[g]? = some (.cells cur 25 (0, 0)) ∧ q4 * 4 ≤ cur.size) := keep (by
    obtain ⟨cur, h1, h2⟩ := ROW.out
    rw [HLN.out] at h2
    exact ⟨cur, ((C6.out.block g (by have := S6.out; omega)).trans (C4.out.block g GG.out.2)).trans h1, h2⟩)
  have CS := keep (SA.out _ _ W6 (Tel.mono (fun b h => h.2) (fun b h => rfl) _ _ _ TA.out) (Tel.mono (fun b h => h.2) (fun b h => rfl) _ _ _ T6.out))
  obtain ⟨d0, d1, d2, d3⟩ := XA.out.cells
  obtain ⟨e0, e1, e2, e3⟩ := X6.out.cells
  have hq6 := hW6.symm
  clear hfd hW6 a6 b6 lw RA hz45 hz56 T4 X14 X3 XD LS TD X1 ROW
  go_wp2_with fail
  refine CS.out.mono ?_
  rintro e w7 ⟨⟨z, rfl, hz⟩, b7⟩
  obtain rfl : z = true := hz.2 (by trivial)
  have F7 := keep b7
  clear b7 hz CS d0 d1 d2 d3 e0 e1 e2 e3 hq6
  go_wp2_with fail
  refine (simple1_any s w7).mono ?_
  rintro e w8 ⟨rfl, bx⟩
  have F8 := keep (F7.out.trans (bx.mono F7.out.size))
  clear bx
  go_wp2_with fail
  refine (rsimple_any s w8).mono ?_
  rintro e w9 ⟨rfl, bx⟩
  have F9 := keep (F8.out.trans (bx.mono F8.out.size))
  clear bx
  go_wp2_with fail
  refine (S1.out 1 0 s w9 (i64t (by decide) (by decide)) i0' (by have := HS.out; omega)).mono ?_
  rintro e w10 ⟨⟨z, rfl, hz⟩, bx⟩
  obtain rfl : z = true := hz.2 (by trivial)
  have F10 := keep (F9.out.trans (bx.mono F9.out.size))
  clear bx hz
  go_wp2_with fail
  refine (ER.out w10 (B6.out.trans (F10.out.mono B6.out.size))).mono ?_
  rintro e w11 ⟨rfl, bx⟩
  have F11 := keep (F10.out.trans (bx.mono F10.out.size))
  clear bx
  go_wp2_with fail
  refine (RE.out w11).mono ?_
  rintro e w12 ⟨rfl, bx⟩
  have F12 := keep (F11.out.trans (bx.mono F11.out.size))
  clear bx
  go_wp2_with fail
  refine (S1.out 2 0 (errT s) w12 (i64t (by decide) (by decide)) i0' (by rw [errT_size]; have := HS.out; omega)).mono ?_
  rintro e w13 ⟨⟨z, rfl, hz⟩, bx⟩
  obtain rfl : z = true := hz.2 (by trivial)
  have F13 := keep (F12.out.trans (bx.mono F12.out.size))
  clear bx hz
  go_wp2_with fail
  refine (int1_any n w13).mono ?_
  rintro e w14 ⟨rfl, bx⟩
  have F14 := keep (F13.out.trans (bx.mono F13.out.size))
  clear bx
  go_wp2_with fail
  refine (rint1_any n w14).mono ?_
  rintro e w15 ⟨rfl, bx⟩
  have F15 := keep (F14.out.trans (bx.mono F14.out.size))
  clear bx
  go_wp2_with fail
  refine (S1.out 3 n ⟨#[]⟩ w15 (i64t (by decide) (by decide)) HN.out (by show (0 : Nat) < 4294967281; decide)).mono ?_
  rintro e w16 ⟨⟨z, rfl, hz⟩, bx⟩
  obtain rfl : z = true := hz.2 (by trivial)
  have F16 := keep (F15.out.trans (bx.mono F15.out.size))
  clear bx hz
  go_wp2_with fail
  refine (bulk1_any s w16).mono ?_
  rintro e w17 ⟨rfl, bx⟩
  have F17 := keep (F16.out.trans (bx.mono F16.out.size))
  clear bx
  go_wp2_with fail
  refine (rbulk1_any s w17).mono ?_
  rintro e w18 ⟨rfl, bx⟩
  have F18 := keep (F17.out.trans (bx.mono F17.out.size))
  clear bx
  go_wp2_with fail
  refine (S1.out 4 0 s w18 (i64t (by decide) (by decide)) i0' (by have := HS.out; omega)).mono ?_
  rintro e w19 ⟨⟨z, rfl, hz⟩, bx⟩
  obtain rfl : z = true := hz.2 (by trivial)
  have F19 := keep (F18.out.trans (bx.mono F18.out.size))
  clear bx hz
  go_wp2_with fail
  refine (null_any w19).mono ?_
  rintro e w20 ⟨rfl, bx⟩
  have F20 := keep (F19.out.trans (bx.mono F19.out.size))
  clear bx
  go_wp2_with fail
  refine (rnull1_any w20).mono ?_
  rintro e w21 ⟨rfl, bx⟩
  have F21 := keep (F20.out.trans (bx.mono F20.out.size))
  clear bx
  go_wp2_with fail
  refine (S1.out 5 0 ⟨#[]⟩ w21 (i64t (by decide) (by decide)) i0' (by show (0 : Nat) < 4294967281; decide)).mono ?_
  rintro e w22 ⟨⟨z, rfl, hz⟩, bx⟩
  obtain rfl : z = true := hz.2 (by trivial)
  have F22 := keep (F21.out.trans (bx.mono F21.out.size))
  clear bx hz
  go_wp2_with fail
  have ROWK : Kept (∃ cur, w22.heap[g]? = some (.cells cur 25 (0, 0)) ∧ q4 * 4 ≤ cur.size) := keep (by
    obtain ⟨cur, h1, h2⟩ := ROW6.out
    exact ⟨cur, (F22.out.block g (by have := S6.out; omega)).trans h1, h2⟩)
  have BK := keep (B6.out.trans (F22.out.mono B6.out.size))
  have SZK := keep F22.out.size
  have hgw : Kept (w.heap.size ≤ g) := keep (by have := GG.out; have := BD.out.size; omega)
  go_loopw [85] (fun v85 wr => ∃ j : Nat, j ≤ q4 ∧ v85 = .int .i64 (j : Nat) ∧ Kept (wr.heap.size = w22.heap.size) ∧ Kept (∀ b, b ≠ g → wr.heap[b]? = w22.heap[b]?) ∧ Kept (∃ cur, wr.heap[g]? = some (.cells cur 25 (0, 0)) ∧ q4 * 4 ≤ cur.size) ∧ Kept (Below w.heap.size w wr)) (fun v85 _ => q4 - (intOf v85).toNat)
  case atStart => exact ⟨0, Nat.zero_le _, rfl, keep rfl, keep (fun _ _ => rfl), ROWK, BK⟩
  case round =>
    obtain ⟨j, hj, rfl, ZR, OR, CR, BRR⟩ := hrel
    by_cases hlt : j < q4
    · have h0 : (0 : Int) ≤ (j : Int) := by omega
      have h1 : (j : Int) < (q4 : Int) := by omega
      have nw : IntKind.i64.wrap ((j : Int) + 1) = ((j + 1 : Nat) : Int) := by have := HLN.out; have := HLL.out; rw [IntKind.wrap_i64]; omega
      obtain ⟨cur, hcu, hcs⟩ := CR.out
      have at4 : ∀ i, i < 4 → ∃ v, wr.cell? ⟨g, j * 4 + i, none⟩ = some v := fun i hi => ⟨_, by rw [cell_of_row _ _ _ _ _ _ hcu]; exact Array.getElem?_eq_getElem (by omega)⟩
      obtain ⟨v0, m0⟩ := at4 0 (by omega)
      obtain ⟨v1, m1⟩ := at4 1 (by omega)
      obtain ⟨v2, m2⟩ := at4 2 (by omega)
      obtain ⟨v3, m3⟩ := at4 3 (by omega)
      rw [Nat.add_zero] at m0
      have fz : ∀ i, wr.frozen? ⟨g, i, none⟩ = false := fun i => frozen_of_row _ _ _ _ _ hcu
      have f0 := fz (j * 4)
      have f1 := fz (j * 4 + 1)
      have f2 := fz (j * 4 + 2)
      have f3 := fz (j * 4 + 3)
      have HCU := keep hcu
      have HCS := keep hcs
      have HLT := keep hlt
      clear at4 fz hcu hcs hlt hj
      go_wp2_with fail
      go_roundw
      case measure => have := HLT.out; simp [intOf]; omega
      case rel => exact ⟨j + 1, HLT.out, by rfl, keep (by rw [← ZR.out]; simp [World.setCell]), keep (fun b hb => by rw [one_other hb, one_other hb, one_other hb, one_other hb]; exact OR.out b hb), keep ⟨_, set_row HCU.out _ _ _ _ _, by simpa [put4] using HCS.out⟩, keep ((((BRR.out.setCell (p := ⟨g, _, none⟩) hgw.out _).setCell (p := ⟨g, _, none⟩) hgw.out _).setCell (p := ⟨g, _, none⟩) hgw.out _).setCell (p := ⟨g, _, none⟩) hgw.out _)⟩
    · obtain rfl : j = q4 := by omega
      have h1 : ¬ (j : Int) < (j : Int) := by omega
      have xa := keep (show Box wr w4.heap.size (.int .i64 6) (.string ⟨#[]⟩) (.int .i64 0) (.slice ao4 j c4) from (OR.out _ (by have := S6.out; omega)).trans (XA.out.below F22.out XA.out.lt))
      have xw := keep (show Box wr w6.heap.size (.int .i64 6) (.string ⟨#[]⟩) (.int .i64 0) (.slice ao6 j c6) from (OR.out _ (by have := S6.out; omega)).trans (X6.out.below F22.out X6.out.lt))
      have CS := keep (SA.out _ _ wr (Tel.mono (fun b h => by rw [ZR.out]; have := SZK.out; omega) (fun b h => (OR.out b h.1).trans (F22.out.block b h.2)) _ _ _ TA.out) (Tel.mono (fun b h => by rw [ZR.out]; have := SZK.out; omega) (fun b h => (OR.out b h.1).trans (F22.out.block b h.2)) _ _ _ T6.out))
      obtain ⟨d0, d1, d2, d3⟩ := xa.out.cells
      obtain ⟨e0, e1, e2, e3⟩ := xw.out.cells
      clear hlt hj xa xw CR
      go_wp2_with fail
      refine CS.out.mono ?_
      rintro e y0 ⟨⟨z, rfl, hz⟩, bx⟩
      obtain rfl : z = true := hz.2 (by trivial)
      have BY := keep (BRR.out.trans (bx.mono BRR.out.size))
      obtain ⟨x2, x3, gw, cw, mkw, runw, BX, GW, WX⟩ := WM.out y0 BY.out
      have hwn : IntKind.i64.wrap ((ns : Int) + 3) = ((ns + 3 : Nat) : Int) := by have := HNS.out; have := HL.out; rw [IntKind.wrap_i64]; omega
      obtain ⟨M2, hM2⟩ : ∃ M2, ns + 3 = M2 := ⟨_, rfl⟩
      rw [hM2] at mkw runw hwn
      have RUNW := keep runw
      have B3X := keep (BY.out.trans (BX.out.mono BY.out.size))
      have GWL := keep (show w.heap.size ≤ gw from Nat.le_trans BY.out.size GW.out)
      have BC := keep (BW.out gw cw x3 WX.out)
      clear bx hz CS d0 d1 d2 d3 e0 e1 e2 e3 runw hM2
      go_wp2_with (first | (at_builtin; refine wpList_app_run rfl _ _ _ _ rfl _ _ _ rfl rfl RUNW.out ?_; clear RUNW))
      clear mkw hwn
      refine BC.out.mono ?_
      rintro e y1 ⟨⟨bv, rfl, tb⟩, b1⟩
      obtain ⟨r0, r1, r2, r3, r4, r5, ebv, _⟩ := tb.six
      obtain rfl : bv = .slice r3 r4 r5 := by
        injection ebv with _ h2
        injection h2 with _ h3
        injection h3 with _ h4
        injection h4
      obtain ⟨Y1, hY1⟩ : ∃ x, x = y1.alloc (.cells #[.int .i64 6, .string ⟨#[]⟩, .int .i64 0, .slice r3 r4 r5] 25) := ⟨_, rfl⟩
      have a1 : Below y1.heap.size y1 Y1 := hY1 ▸ (Below.refl _ _).alloc (Nat.le_refl _) _
      have XB := keep (show Box Y1 y1.heap.size (.int .i64 6) (.string ⟨#[]⟩) (.int .i64 0) (.slice r3 r4 r5) from hY1 ▸ Box.new y1 _ _ _ _)
      have C1 := keep (b1.trans (a1.mono b1.size))
      have TB := keep (show Tel (fun b => x3.heap.size ≤ b ∧ b < y1.heap.size) Y1 2 [.int .i64 6, .string ⟨#[]⟩, .int .i64 0, .slice r3 r4 r5] (rqR S) from Tel.mono (fun b h => h) (fun b h => a1.block b h.2) _ _ _ tb)
      have BY1 := keep (B3X.out.trans (C1.out.mono B3X.out.size))
      have O1 := keep (show x3.heap.size ≤ y1.heap.size ∧ y1.heap.size < Y1.heap.size from ⟨b1.size, XB.out.lt⟩)
      have WX1 := keep (WX.out.same (C1.out.block gw WX.out.lt))
      have CC := keep (RW.out gw cw Y1 WX1.out BY1.out)
      have hy1 := hY1.symm
      clear hY1 a1 b1 tb ebv BC
      go_wp2_with fail
      refine CC.out.mono ?_
      rintro e y2 ⟨⟨aoc, mc, cc, rfl, nc⟩, b2⟩
      have NC := keep nc
      have D2 := keep b2
      have BY2 := keep (BY1.out.trans (b2.mono BY1.out.size))
      have CB := keep (BR.out y2 BY2.out)
      clear nc b2 CC hy1
      go_wp2_with fail
      refine CB.out.mono ?_
      rintro e y3 ⟨⟨wv, rfl, tw⟩, b3⟩
      obtain ⟨u0, u1, u2, u3, u4, u5, ewv, _⟩ := tw.six
      obtain rfl : wv = .slice u3 u4 u5 := by
        injection ewv with _ h2
        injection h2 with _ h3
        injection h3 with _ h4
        injection h4
      obtain ⟨Y3, hY3⟩ : ∃ x, x = y3.alloc (.cells #[.int .i64 6, .string ⟨#[]⟩, .int .i64 0, .slice u3 u4 u5] 25) := ⟨_, rfl⟩
      have a3 : Below y3.heap.size y3 Y3 := hY3 ▸ (Below.refl _ _).alloc (Nat.le_refl _) _
      have XE := keep (show Box Y3 y3.heap.size (.int .i64 6) (.string ⟨#[]⟩) (.int .i64 0) (.slice u3 u4 u5) from hY3 ▸ Box.new y3 _ _ _ _)
      have D3 := keep (b3.trans (a3.mono b3.size))
      have TE := keep (show Tel (fun b => y2.heap.size ≤ b ∧ b < y3.heap.size) Y3 2 [.int .i64 6, .string ⟨#[]⟩, .int .i64 0, .slice u3 u4 u5] (rqR S) from Tel.mono (fun b h => h) (fun b h => a3.block b h.2) _ _ _ tw)
      have BY3 := keep (BY2.out.trans (D3.out.mono BY2.out.size))
      have O3 := keep (show y2.heap.size ≤ y3.heap.size ∧ y3.heap.size < Y3.heap.size from ⟨b3.size, XE.out.lt⟩)
      have CR2 := keep (RR.out Y3 BY3.out)
      have hy3 := hY3.symm
      clear hY3 a3 b3 tw ewv CB
      go_wp2_with fail
      refine CR2.out.mono ?_
      rintro e y4 ⟨⟨aow, mw, cw2, rfl, nw4⟩, b4⟩
      have NW := keep nw4
      have D4 := keep b4
      have BY4 := keep (BY3.out.trans (b4.mono BY3.out.size))
      have D24 := keep (D3.out.trans (b4.mono D3.out.size))
      have D14 := keep (D2.out.trans (D24.out.mono D2.out.size))
      have xb4 := XB.out.below D14.out XB.out.lt
      have xe4 := XE.out.below D4.out XE.out.lt
      have TB4 := keep (show Tel (fun b => x3.heap.size ≤ b ∧ b < y1.heap.size) y4 2 [.int .i64 6, .string ⟨#[]⟩, .int .i64 0, .slice r3 r4 r5] (rqR S) from Tel.mono (fun b h => h) (fun b h => D14.out.block b (by have := O1.out; omega)) _ _ _ TB.out)
      have TE4 := keep (show Tel (fun b => y2.heap.size ≤ b ∧ b < y3.heap.size) y4 2 [.int .i64 6, .string ⟨#[]⟩, .int .i64 0, .slice u3 u4 u5] (rqR S) from Tel.mono (fun b h => h) (fun b h => D4.out.block b (by have := O3.out; omega)) _ _ _ TE.out)
      have KC4 := keep (NC.out.1.later D24.out)
      have KW4 := keep NW.out.1
      have XB4 := keep xb4
      have XE4 := keep xe4
      have WX4 := keep (WX1.out.same (D14.out.block gw WX1.out.lt))
      have OZ := keep (show y1.heap.size < Y1.heap.size ∧ Y1.heap.size ≤ y2.heap.size ∧ y2.heap.size ≤ y3.heap.size ∧ y3.heap.size < Y3.heap.size ∧ Y3.heap.size ≤ y4.heap.size from ⟨O1.out.2, D2.out.size, O3.out.1, O3.out.2, D4.out.size⟩)
      have GWX := keep (show gw < x3.heap.size from WX.out.lt)
      have CS2 := keep (SB.out _ _ y4 (Tel.mono (fun b h => by have := OZ.out; omega) (fun b h => rfl) _ _ _ TB4.out) (Tel.mono (fun b h => by have := OZ.out; omega) (fun b h => rfl) _ _ _ TE4.out))
      obtain ⟨d0, d1, d2, d3⟩ := xb4.cells
      obtain ⟨e0, e1, e2, e3⟩ := xe4.cells
      have hnn := not_same (ns : Int)
      clear xb4 xe4 nw4 b4 hy3 CR2 XB XE TB TE WX1
      go_wp2_with fail
      refine CS2.out.mono ?_
      rintro e y5 ⟨⟨z, rfl, hz⟩, bx⟩
      obtain rfl : z = true := hz.2 (by trivial)
      have G5 := keep bx
      clear bx hz d0 d1 d2 d3 e0 e1 e2 e3 CS2
      go_wp2_with fail
      refine (SM.out _ _ y5 (KC4.out.later G5.out) (KW4.out.later G5.out)).mono ?_
      rintro e y6 ⟨⟨z, rfl, hz⟩, bx⟩
      obtain rfl : z = true := hz.2 (by trivial)
      have G6 := keep (G5.out.trans (bx.mono G5.out.size))
      have BY6 := keep (BY4.out.trans (G6.out.mono BY4.out.size))
      have WX6 := keep (WX4.out.same (G6.out.block gw WX4.out.lt))
      have SZ6 := keep G6.out.size
      clear bx hz
      go_wp2_with fail
      generalize wr = wq at *
      go_loopw [130] (fun v130 wz => ∃ (j : Nat) (S2 : List ByteArray), j ≤ ns ∧ v130 = .int .i64 (j : Nat) ∧ Kept (wz.heap.size = y6.heap.size) ∧ Kept (∀ b, b ≠ gw → wz.heap[b]? = y6.heap[b]?) ∧ Kept (Wx wz gw S2) ∧ Kept (∀ k, j ≤ k → S2[k]? = S[k]?) ∧ Kept (Below w.heap.size w wz)) (fun v130 _ => ns - (intOf v130).toNat)
      case atStart => exact ⟨0, S, Nat.zero_le _, rfl, keep rfl, keep (fun _ _ => rfl), WX6, keep (fun _ _ => rfl), BY6⟩
      case round =>
        obtain ⟨j, S2, hj, rfl, ZZ, OO, WW, SS, BB⟩ := hrel
        by_cases hlt : j < ns
        · have h0 : (0 : Int) ≤ (j : Int) := by omega
          have h1 : (j : Int) < (ns : Int) := by omega
          have nw : IntKind.i64.wrap ((j : Int) + 1) = ((j + 1 : Nat) : Int) := by have := HNS.out; have := HL.out; rw [IntKind.wrap_i64]; omega
          have hjS : j < S.length := by rw [HNS.out]; exact hlt
          obtain ⟨a, rfl, hab, hsz, hcs⟩ := HTX.out wr BB.out j hjS
          obtain ⟨t, ht⟩ : ∃ t, S[j]'hjS = t := ⟨_, rfl⟩
          have ht2 : S[j]? = some t := by rw [List.getElem?_eq_getElem hjS, ht]
          rw [ht] at hcs
          have hc2 : wr.cell? ⟨gw, j, none⟩ = some (.string t) := WW.out.cell ((SS.out j (Nat.le_refl _)).trans ht2)
          have hfr := WW.out.free j
          have HLT := keep hlt
          clear ht ht2 hsz hab hlt hj
          go_upto_region 24 with fail
          go_quiet (fail)
          go_wp2_with fail
          go_roundw
          case measure => have := HLT.out; simp [intOf]; omega
          case rel => exact ⟨j + 1, S2.set j ⟨#[111, 116, 104, 101, 114]⟩, HLT.out, by rfl, keep (by rw [← ZZ.out]; simp [World.setCell]), keep (fun b hb => (one_other hb _).trans (OO.out b hb)), keep (Wx.set (show Wx _ gw S2 from WW.out) j _), keep (fun k hk => by rw [List.getElem?_set_ne (by omega)]; exact SS.out k (by omega)), keep (by
            refine Below.setCell (p := ⟨gw, j, none⟩) ?_ GWL.out _
            exact ⟨BB.out.os, BB.out.tape, BB.out.output, BB.out.size, BB.out.block⟩)⟩
        · obtain rfl : j = ns := by omega
          have h1 : ¬ (j : Int) < (j : Int) := by omega
          have CD := keep (RD.out wr BB.out)
          clear hlt hj
          go_wp2_with fail
          refine CD.out.mono ?_
          rintro e y7 ⟨⟨aod, md, cd, rfl, nd⟩, b7⟩
          have ND := keep nd
          have D7 := keep b7
          have BY7 := keep (BB.out.trans (b7.mono BB.out.size))
          have hin : ∀ b, b ≠ gw → b < y4.heap.size → y7.heap[b]? = y4.heap[b]? := fun b h1 h2 => (b7.block b (by rw [ZZ.out]; have := SZ6.out; omega)).trans ((OO.out b h1).trans (G6.out.block b h2))
          have KC7 := keep (show Kb y7 (.slice aoc mc cc) Z from own_kept KC4.out (fun k hk => hin k (by have := NC.out.2 k hk; have := GWX.out; have := O1.out; have := OZ.out; omega) (by have := NC.out.1.lt k hk; have := OZ.out; omega)))
          have HIN := keep hin
          have CP := keep (SP.out _ y7 Y1.heap.size KC7.out NC.out.2 (by have := D7.out.size; have := ZZ.out; have := SZ6.out; have := OZ.out; omega))
          clear nd b7 CD hin
          go_wp2_with fail
          refine CP.out.mono ?_
          rintro e y8 ⟨rfl, b8, f8⟩
          have BY8 := keep (BY7.out.trans (b8.mono (Nat.le_trans BY1.out.size (Nat.le_refl _))))
          have hz74 : y4.heap.size ≤ y7.heap.size := by have := D7.out.size; have := ZZ.out; have := SZ6.out; omega
          have hin8 : ∀ b, b ≠ gw → b < y4.heap.size → (b < Y1.heap.size ∨ y2.heap.size ≤ b) → y8.heap[b]? = y4.heap[b]? := fun b h1 h2 h3 => (f8 b (by omega) (fun e => by have g1 := NC.out.2 b e; have g2 := NC.out.1.lt b e; omega)).trans (HIN.out b h1 h2)
          have xb8 : Box y8 y1.heap.size (.int .i64 6) (.string ⟨#[]⟩) (.int .i64 0) (.slice r3 r4 r5) := (hin8 _ (by have := GWX.out; have := O1.out; omega) (by have := OZ.out; omega) (.inl O1.out.2)).trans XB4.out
          have xe8 : Box y8 y3.heap.size (.int .i64 6) (.string ⟨#[]⟩) (.int .i64 0) (.slice u3 u4 u5) := (hin8 _ (by have := GWX.out; have := O1.out; have := OZ.out; omega) (by have := OZ.out; omega) (.inr (by have := OZ.out; omega))).trans XE4.out
          have hz78 := b8.size
          have CS3 := keep (SB.out _ _ y8 (Tel.mono (fun b h => by have := OZ.out; omega) (fun b h => hin8 b (by have := GWX.out; omega) (by have := OZ.out; omega) (.inl (by have := OZ.out; omega))) _ _ _ TB4.out) (Tel.mono (fun b h => by have := OZ.out; omega) (fun b h => hin8 b (by have := GWX.out; have := O1.out; have := OZ.out; omega) (by have := OZ.out; omega) (.inr h.1)) _ _ _ TE4.out))
          have KW8 := keep (show Kb y8 (.slice aow mw cw2) Z from own_kept KW4.out (fun k hk => hin8 k (by have := NW.out.2 k hk; have := GWX.out; have := O1.out; have := OZ.out; omega) (KW4.out.lt k hk) (.inr (by have := NW.out.2 k hk; have := OZ.out; omega))))
          have KD8 := keep (show Kb y8 (.slice aod md cd) Z from own_kept ND.out.1 (fun k hk => f8 k (ND.out.1.lt k hk) (fun e => by have g1 := ND.out.2 k hk; have g2 := NC.out.1.lt k e; have := ZZ.out; have := SZ6.out; have := OZ.out; omega)))
          obtain ⟨d0, d1, d2, d3⟩ := xb8.cells
          obtain ⟨e0, e1, e2, e3⟩ := xe8.cells
          clear b8 f8 hz74 hin8 xb8 xe8 hz78 CP
          go_wp2_with fail
          refine CS3.out.mono ?_
          rintro e y9 ⟨⟨z, rfl, hz⟩, bx⟩
          obtain rfl : z = true := hz.2 (by trivial)
          have G9 := keep bx
          have BY9 := keep (BY8.out.trans (bx.mono BY8.out.size))
          clear bx hz d0 d1 d2 d3 e0 e1 e2 e3 CS3
          go_wp2_with fail
          refine (SM.out _ _ y9 (KD8.out.later G9.out) (KW8.out.later G9.out)).mono ?_
          rintro e y10 ⟨⟨z, rfl, hz⟩, bx⟩
          obtain rfl : z = true := hz.2 (by trivial)
          have BYE := keep (BY9.out.trans (bx.mono BY9.out.size))
          clear bx hz
          go_wp2_with fail
          rw [HP.out]
          exact ⟨rfl, BYE.out⟩
end Go.Proofs.YtoalnfkjpdgbiaaDoor
