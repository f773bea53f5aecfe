/-
  Contracts over this program: Within of ranks.
-/
import Derived.Test.YtapehjlpiobeaaaRkWithin
namespace Go.Proofs.Ytapehjlpiobeaaa
open Go.RowKit Go.Shelf
set_option linter.unusedVariables false
set_option linter.unusedSimpArgs false
set_option maxRecDepth 100000 in
set_option maxHeartbeats 1000000 in
theorem place_nil (w : World) (R : Nat) (u0 u1 u3 rv : Value) (hL : Lay w R u0 u1 u3 rv []) :
    Calls Try.prog 40 #[.pointer (some ⟨R, 0, none⟩), .int .i64 0, .int .i64 0] w fun e w' => e = .returned (.int .i64 0) ∧ w' = w := by
  obtain ⟨c0, c1, c2, c3, cf⟩ := four hL.1
  obtain ⟨o, c, hrv⟩ := hL.2.1.len
  subst hrv
  have hs : ∃ o' c', ∀ w, (Instr.slice 61 (.slice o ([] : List Rw).length c) none (some (.int .i64 0)) none).run Try.prog w = .ok (.slice o' 0 c') w := by
    have hb : ∀ (y : Nat) code (w : World), (Instr.sliceBound (.int .i64 0) y code).run Try.prog w = .ok 0 w := fun y code w => by
      have := run_sliceBound (P := Try.prog) (w := w) .i64 0 y code (by omega) (by omega)
      simpa using this
    obtain ⟨i0, hi0, hz0, hz1, hz2⟩ := info_parts info_rw
    cases o with
    | none =>
      refine ⟨none, c, fun w => ?_⟩
      have hz := size_run w _ i0 hi0
      simp only [Instr.slice, Instr.sliceBounds, run_underlying Try.underlying61, Sem.run_bind, Sem.run_pure, Result.andThen_ok, hb, hz]
      split <;> rfl
    | some a =>
      refine ⟨some (if c = 0 then a else a.add (0 * i0.size)), c, fun w => ?_⟩
      exact slice_run w _ _ Try.underlying61 i0 hi0 a 0 c 0 0 c _ _ _ (Or.inl ⟨rfl, rfl⟩) (Or.inr ⟨rfl, by omega⟩) (Or.inl ⟨rfl, rfl⟩)
  obtain ⟨o', c', hs⟩ := hs
  have lz : ([] : List Rw).length = 0 := rfl
  rw [lz] at c2 hs
  clear hL c0 c1 c3 cf
  go_enter Try.func40, Try.ntmps40
  go_wp2
  go_loopg [2, 8, 16] 0 (fun kx s2 s8 s16 wr => s2 = .int .i64 0 ∧ s16 = .int .i64 0 ∧ wr = w)
  case atStart => exact ⟨rfl, rfl, rfl⟩
  case round =>
    obtain ⟨rfl, rfl, hw⟩ := hrel
    obtain rfl := hw.symm
    go_wp2
    go_ret
    exact ⟨rfl, rfl⟩
theorem place_all (w : World) (R : Nat) (u0 u1 u3 rv : Value) (T : List Rw) (i p : Nat) (hL : Lay w R u0 u1 u3 rv T) (hi : i ≤ T.length) (hb : (flat T).length ≤ 2000000) (hp : p ≤ 2000000) (h0 : T = [] → p = 0) :
    Calls Try.prog 40 #[.pointer (some ⟨R, 0, none⟩), .int .i64 i, .int .i64 p] w fun e w' => e = .returned (.int .i64 ((cntA T i + p : Nat) : Int)) ∧ w' = w := by
  cases T with
  | nil =>
    have hz := h0 rfl
    subst hz
    obtain rfl : i = 0 := by simpa using hi
    exact place_nil w R u0 u1 u3 rv hL
  | cons x T => exact place_any w R u0 u1 u3 rv (x :: T) i p hL hi hb hp (by simp)
theorem two_c {w : World} {b : Nat} {v0 v1 : Value} {t : TypeId} (h : w.heap[b]? = some (.cells #[v0, v1] t (0, 0))) : w.cell? ⟨b, 0, none⟩ = some v0 ∧ w.cell? ⟨b, 1, none⟩ = some v1 := by
  constructor <;> simp [World.cell?, h]
set_option maxHeartbeats 1000000 in
theorem clo1_any (e : Ent) (B1 B2 a b : Nat) (p q : Bool) (W : World) (h1 : W.cell? ⟨B1, 0, none⟩ = some (.float .f64 a) ∧ W.cell? ⟨B1, 1, none⟩ = some (.bool p)) (h2 : W.cell? ⟨B2, 0, none⟩ = some (.float .f64 b) ∧ W.cell? ⟨B2, 1, none⟩ = some (.bool q)) :
    Calls Try.prog 58 (#[agE e] ++ #[.pointer (some ⟨B1, 0, none⟩), .pointer (some ⟨B2, 0, none⟩)]) W fun en w' => en = .returned (.bool (wi e.2 a p b q)) ∧ Below W.heap.size W w' := by
  have sf : ∀ (x : Nat) (w : World) (a : Addr), (store a (.float .f64 x)).run Try.prog w = stored Try.prog w a (.float .f64 x) .plain := fun x w a => run_store _ w a _ _ rfl
  obtain ⟨e1, e2⟩ := e
  obtain ⟨W1, hW1⟩ : ∃ W1, W.alloc (.cells #[.string e1, .float .f64 e2] 46) = W1 := ⟨_, rfl⟩
  have hb1 : Below W.heap.size W W1 := by rw [← hW1]; exact (Below.refl _ W).alloc (Nat.le_refl _) _
  have kp : ∀ {p : Addr} {v : Value}, W.cell? p = some v → W1.cell? p = some v := fun {p v} h => (hb1.cell (p := p) (World.block_lt_of_cell? _ _ h)).trans h
  have a0 := kp h1.1
  have a1 := kp h1.2
  have b0 := kp h2.1
  have b1 := kp h2.2
  have n1 : W1.cell? ⟨W.heap.size, 1, none⟩ = some (.float .f64 e2) := by rw [← hW1]; simp
  have mW := within_any e2 a b p q W1
  have HB := keep hb1
  clear h1 h2 hb1 kp
  unfold agE
  dsimp only
  go_enter Try.func58, Try.ntmps58
  go_wp2_with fail
  try rw [hW1]
  refine mW.mono ?_
  rintro _ w' ⟨rfl, hb2⟩
  have HB2 := keep hb2
  clear mW hb2
  go_wp2
  go_ret
  exact ⟨rfl, Below.up HB.out HB2.out⟩
set_option maxHeartbeats 1000000 in
theorem clo2_any (e : Ent) (B1 B2 a b : Nat) (p q : Bool) (W : World) (h1 : W.cell? ⟨B1, 0, none⟩ = some (.float .f64 a) ∧ W.cell? ⟨B1, 1, none⟩ = some (.bool p)) (h2 : W.cell? ⟨B2, 0, none⟩ = some (.float .f64 b) ∧ W.cell? ⟨B2, 1, none⟩ = some (.bool q)) :
    Calls Try.prog 60 (#[agE e] ++ #[.pointer (some ⟨B1, 0, none⟩), .pointer (some ⟨B2, 0, none⟩)]) W fun en w' => en = .returned (.bool (!wi e.2 a p b q)) ∧ Below W.heap.size W w' := by
  have sf : ∀ (x : Nat) (w : World) (a : Addr), (store a (.float .f64 x)).run Try.prog w = stored Try.prog w a (.float .f64 x) .plain := fun x w a => run_store _ w a _ _ rfl
  obtain ⟨e1, e2⟩ := e
  obtain ⟨W1, hW1⟩ : ∃ W1, W.alloc (.cells #[.string e1, .float .f64 e2] 46) = W1 := ⟨_, rfl⟩
  have hb1 : Below W.heap.size W W1 := by rw [← hW1]; exact (Below.refl _ W).alloc (Nat.le_refl _) _
  have kp : ∀ {p : Addr} {v : Value}, W.cell? p = some v → W1.cell? p = some v := fun {p v} h => (hb1.cell (p := p) (World.block_lt_of_cell? _ _ h)).trans h
  have a0 := kp h1.1
  have a1 := kp h1.2
  have b0 := kp h2.1
  have b1 := kp h2.2
  have n1 : W1.cell? ⟨W.heap.size, 1, none⟩ = some (.float .f64 e2) := by rw [← hW1]; simp
  have mW := within_any e2 a b p q W1
  have HB := keep hb1
  clear h1 h2 hb1 kp
  unfold agE
  dsimp only
  go_enter Try.func60, Try.ntmps60
  go_wp2_with fail
  try rw [hW1]
  refine mW.mono ?_
  rintro _ w' ⟨rfl, hb2⟩
  have HB2 := keep hb2
  clear mW hb2
  go_wp2
  go_ret
  exact ⟨rfl, Below.up HB.out HB2.out⟩
/-- how many stand ahead of the lower end, and of the upper one -/
def cnt1 (L : List Ent) (a : Nat) (p : Bool) : Nat := L.countP (q1 a p)
def cnt2 (L : List Ent) (b : Nat) (q : Bool) : Nat := L.countP (q2 b q)
theorem mo_cong {q q' : Ent → Bool} {l : List Ent} (h : ∀ e ∈ l, q e = q' e) (hm : Mo q' l) : Mo q l := by
  refine List.Pairwise.imp_of_mem ?_ hm
  intro a b ha hb hab
  rw [h a ha, h b hb]; exact hab
theorem count_cong {q q' : Ent → Bool} {l : List Ent} (h : ∀ e ∈ l, q e = q' e) : l.countP q = l.countP q' := by
  refine List.countP_congr (fun e he => ?_)
  rw [h e he]
/-- the world with both ends laid anew, and the two infinities -/
def wends (w : World) (a b : Nat) (p q : Bool) : World :=
  (((w.alloc (.cells #[.float .f64 a, .bool p] 74)).alloc (.cells #[.float .f64 b, .bool q] 74)).alloc (.cells #[.float .f64 ninfB, .bool false] 74)).alloc (.cells #[.float .f64 infB, .bool false] 74)
set_option maxRecDepth 100000 in
set_option maxHeartbeats 4000000 in
theorem kwithin_num {w : World} {O : Nat → Prop} {R seed : Nat} {L : List Ent} (hK : RK w O R seed L) (a b : Nat) (p q : Bool) (ha : isNan a = false) (hb : isNan b = false) :
    Calls Try.prog 33 #[.pointer (some ⟨R, 0, none⟩), .agg #[.float .f64 a, .bool p], .agg #[.float .f64 b, .bool q]] w fun e w' => e = .returned (.tuple #[.int .i64 ((cnt1 L a p : Nat) : Int), .int .i64 ((max (cnt1 L a p) (cnt2 L b q) : Nat) : Int)]) ∧ Below w.heap.size w w' := by
  have sf : ∀ (x : Nat) (w : World) (a : Addr), (store a (.float .f64 x)).run Try.prog w = stored Try.prog w a (.float .f64 x) .plain := fun x w a => run_store _ w a _ _ rfl
  have hmath := hK.math
  obtain ⟨h, r, bb, rv, T, s, hH, hR, rfl, hO⟩ := hK
  have hL := hR.2.2.1
  have hG := hR.2.2.2.1
  have hne : ∀ x ∈ T, x.2.2 ≠ [] := fun x hx => (hG x hx).1
  have hlen := hmath.2.2.1
  obtain ⟨W0, hW0⟩ : ∃ W0, (w.alloc (.cells #[.float .f64 a, .bool p] 74)).alloc (.cells #[.float .f64 b, .bool q] 74) = W0 := ⟨_, rfl⟩
  obtain ⟨W4, hW4⟩ : ∃ W4, (W0.alloc (.cells #[.float .f64 ninfB, .bool false] 74)).alloc (.cells #[.float .f64 infB, .bool false] 74) = W4 := ⟨_, rfl⟩
  have hb0 : Below w.heap.size w W0 := by rw [← hW0]; exact ((Below.refl _ w).alloc (Nat.le_refl _) _).alloc (by simp) _
  have hb4 : Below W0.heap.size W0 W4 := by rw [← hW4]; exact ((Below.refl _ W0).alloc (Nat.le_refl _) _).alloc (by simp) _
  have s0 : W0.heap.size = w.heap.size + 2 := by rw [← hW0]; simp
  have s4 : W4.heap.size = w.heap.size + 4 := by rw [← hW4]; simp; omega
  have hh0 : W0.heap[w.heap.size]? = some (.cells #[.float .f64 a, .bool p] 74 (0, 0)) := by rw [← hW0, Below.heap_alloc _ _ _ (by simp)]; exact heap_alloc_new _ _
  have hh1 : W0.heap[w.heap.size + 1]? = some (.cells #[.float .f64 b, .bool q] 74 (0, 0)) := by
    have := heap_alloc_new (w.alloc (.cells #[.float .f64 a, .bool p] 74)) (.cells #[.float .f64 b, .bool q] 74)
    rw [hW0] at this
    simpa using this
  have hh2 : W4.heap[W0.heap.size]? = some (.cells #[.float .f64 ninfB, .bool false] 74 (0, 0)) := by rw [← hW4, Below.heap_alloc _ _ _ (by simp)]; exact heap_alloc_new _ _
  have hh3 : W4.heap[W0.heap.size + 1]? = some (.cells #[.float .f64 infB, .bool false] 74 (0, 0)) := by
    have := heap_alloc_new (W0.alloc (.cells #[.float .f64 ninfB, .bool false] 74)) (.cells #[.float .f64 infB, .bool false] 74)
    rw [hW4] at this
    simpa using this
  have bw4 : Below w.heap.size w W4 := Below.up hb0 hb4
  have hcell : ∀ W, Below W4.heap.size W4 W → (W.cell? ⟨w.heap.size, 0, none⟩ = some (.float .f64 a) ∧ W.cell? ⟨w.heap.size, 1, none⟩ = some (.bool p)) ∧ (W.cell? ⟨w.heap.size + 1, 0, none⟩ = some (.float .f64 b) ∧ W.cell? ⟨w.heap.size + 1, 1, none⟩ = some (.bool q)) ∧ (W.cell? ⟨W0.heap.size, 0, none⟩ = some (.float .f64 ninfB) ∧ W.cell? ⟨W0.heap.size, 1, none⟩ = some (.bool false)) ∧ (W.cell? ⟨W0.heap.size + 1, 0, none⟩ = some (.float .f64 infB) ∧ W.cell? ⟨W0.heap.size + 1, 1, none⟩ = some (.bool false)) := fun W hW => by
    refine ⟨two_c (t := 74) ?_, two_c (t := 74) ?_, two_c (t := 74) ?_, two_c (t := 74) ?_⟩
    · rw [hW.block _ (by omega), hb4.block _ (by omega)]; exact hh0
    · rw [hW.block _ (by omega), hb4.block _ (by omega)]; exact hh1
    · rw [hW.block _ (by omega)]; exact hh2
    · rw [hW.block _ (by omega)]; exact hh3
  have rch1 : ∀ W, Below W4.heap.size W4 W → Rch 58 #[.pointer (some ⟨w.heap.size, 0, none⟩), .pointer (some ⟨W0.heap.size + 1, 0, none⟩)] (fun e => !wi e.2 a p infB false) W := fun W hW =>
    ⟨enters_of Try.func58 (by kernel_rfl) rfl, fun e W' hW' => by
      obtain ⟨q1, q2, q3, q4⟩ := hcell W' (Below.up hW hW')
      rw [Bool.not_not]
      exact clo1_any e _ _ _ _ _ _ W' q1 q4⟩
  have rch2 : ∀ W, Below W4.heap.size W4 W → Rch 60 #[.pointer (some ⟨W0.heap.size, 0, none⟩), .pointer (some ⟨w.heap.size + 1, 0, none⟩)] (fun e => wi e.2 ninfB false b q) W := fun W hW =>
    ⟨enters_of Try.func60 (by kernel_rfl) rfl, fun e W' hW' => by
      obtain ⟨q1, q2, q3, q4⟩ := hcell W' (Below.up hW hW')
      exact clo2_any e _ _ _ _ _ _ W' q3 q2⟩
  have c1 : ∀ e ∈ flat T, (!wi e.2 a p infB false) = q1 a p e := fun e he => by rw [wi_low (hmath.1.2 e he) ha, Bool.not_not]; rfl
  have c2 : ∀ e ∈ flat T, wi e.2 ninfB false b q = q2 b q e := fun e he => by rw [wi_high (hmath.1.2 e he) hb]; rfl
  have SK : ∀ (W : World) (g : Nat) (cb : Array Value) (qq q' : Ent → Bool), Below W4.heap.size W4 W → Rch g cb qq W → (∀ e ∈ flat T, qq e = q' e) → Mo q' (flat T) → Kept (Calls Try.prog 41 #[.pointer (some ⟨R, 0, none⟩), .func (.func g) #[] cb] W fun e w3 => ∃ i p : Nat, e = .returned (.tuple #[.int .i64 i, .int .i64 p]) ∧ Kept (
      Calls Try.prog 40 #[.pointer (some ⟨R, 0, none⟩), .int .i64 i, .int .i64 p] w3 fun e w4 => e = .returned (.int .i64 (((flat T).countP q' : Nat) : Int)) ∧ Kept (Below W4.heap.size W4 w4))) := by
    intro W g cb qq q' hW hr hcg hmo
    have hLW := hL.below (Below.up bw4 hW)
    refine (rseek_any W R _ _ _ rv T _ _ _ hLW hne (fun y hy => by have := (hG y hy).2; omega) (by have := gd_len hne; omega) hr (mo_cong hcg hmo)).mono ?_
    rintro _ w3 ⟨⟨i, p, rfl, hsk⟩, hb3⟩
    refine ⟨i, p, rfl, ?_⟩
    obtain ⟨z1, z2, z3⟩ := sk_count hsk (fun y hy => (hG y hy).2)
    refine (place_all w3 R _ _ _ rv T i p (hLW.below hb3) z2 (by omega) (by omega) (fun hT => ?_)).mono ?_
    · subst hT
      rcases hsk with ⟨_, h, _⟩ | ⟨x, hx, _⟩
      · exact h
      · simp at hx
    · rintro _ w4 ⟨rfl, rfl⟩
      exact ⟨by rw [z1, count_cong hcg], Below.up hW hb3⟩
  have RC1 := keep rch1
  have RC2 := keep rch2
  have C1 := keep c1
  have C2 := keep c2
  have KS := keep SK
  have M1 := keep (mo_q1 hmath.1 ha p)
  have M2 := keep (mo_q2 hmath.1 hb q)
  have BW4 := keep bw4
  have hx0 := (two_c hh0).1
  have hx1 := (two_c hh1).1
  have mI1 := isnan_any a W0
  have mI2 := isnan_any b W0
  rw [ha] at mI1
  rw [hb] at mI2
  have mF1 := ninf_any W0
  have mF2 := inf_any W0
  have hs0 := keep s0
  have HW4 := keep hW4
  obtain ⟨n1, hn1⟩ : ∃ n1, cnt1 (flat T) a p = n1 := ⟨_, rfl⟩
  obtain ⟨n2, hn2⟩ : ∃ n2, cnt2 (flat T) b q = n2 := ⟨_, rfl⟩
  rw [hn1, hn2]
  have N1 := keep (show (flat T).countP (q1 a p) = n1 from hn1)
  have N2 := keep (show (flat T).countP (q2 b q) = n2 from hn2)
  obtain ⟨nm, hnm⟩ : ∃ nm, max n1 n2 = nm := ⟨_, rfl⟩
  rw [hnm]
  have NM := keep hnm
  clear hn1 hn2 hnm
  have nn : ∀ (x : Nat), x = x := fun _ => rfl
  clear hR hO hL hG hne hlen hb0 hb4 s0 s4 hh0 hh1 hh2 hh3 bw4 hcell rch1 rch2 c1 c2 SK hmath nn hW4
  go_enter Try.func33, Try.ntmps33
  go_wp2_with fail
  try rw [hW0]
  refine mI1.mono ?_
  rintro _ _ ⟨rfl, hw⟩
  obtain rfl := hw.symm
  clear mI1
  go_wp2_with fail
  refine mI2.mono ?_
  rintro _ _ ⟨rfl, hw⟩
  obtain rfl := hw.symm
  clear mI2
  go_wp2_with fail
  refine mF1.mono ?_
  rintro _ _ ⟨rfl, hw⟩
  obtain rfl := hw.symm
  clear mF1
  go_wp2_with fail
  refine mF2.mono ?_
  rintro _ _ ⟨rfl, hw⟩
  obtain rfl := hw.symm
  clear mF2
  have mK1 := KS.out W4 _ _ _ _ (Below.refl _ _) (RC1.out W4 (Below.refl _ _)) C1.out M1.out
  go_wp2_with fail
  try rw [HW4.out]
  refine mK1.out.mono ?_
  rintro _ w3 ⟨i, pp, rfl, m3⟩
  clear mK1
  go_wp2_with fail
  refine m3.out.mono ?_
  rintro _ w4 ⟨rfl, hb4⟩
  clear m3
  have mK2 := KS.out w4 _ _ _ _ hb4.out (RC2.out w4 hb4.out) C2.out M2.out
  go_wp2_with fail
  refine mK2.out.mono ?_
  rintro _ w5 ⟨i2, p2, rfl, m5⟩
  clear mK2
  go_wp2_with fail
  refine m5.out.mono ?_
  rintro _ w6 ⟨rfl, hb6⟩
  clear m5
  have HF := keep (Below.up BW4.out hb6.out)
  rw [N1.out, N2.out]
  rcases Nat.lt_or_ge n1 n2 with hl | hl
  · have hmx : max n1 n2 = n2 := by omega
    have HM := keep (NM.out.symm.trans hmx)
    have hi : (n1 : Int) < n2 := by omega
    have hd : decide ((n1 : Int) < n2) = true := decide_eq_true hi
    clear hmx
    go_wp2
    refine bodyPost_ret (results_tmp2 rfl _ _ _) rfl ?_
    rw [HM.out]
    exact ⟨rfl, HF.out⟩
  · have hmx : max n1 n2 = n1 := by omega
    have HM := keep (NM.out.symm.trans hmx)
    have hi : ¬ (n1 : Int) < n2 := by omega
    have hd : decide ((n1 : Int) < n2) = false := decide_eq_false hi
    clear hmx
    go_wp2
    refine bodyPost_ret (results_tmp2 rfl _ _ _) rfl ?_
    rw [HM.out]
    exact ⟨rfl, HF.out⟩
set_option maxRecDepth 100000 in
set_option maxHeartbeats 4000000 in
theorem kwithin_nan (w : World) (R a b : Nat) (p q : Bool) (hn : isNan a = true ∨ isNan b = true) :
    Calls Try.prog 33 #[.pointer (some ⟨R, 0, none⟩), .agg #[.float .f64 a, .bool p], .agg #[.float .f64 b, .bool q]] w fun e w' => e = .returned (.tuple #[.int .i64 0, .int .i64 0]) ∧ Below w.heap.size w w' := by
  have sf : ∀ (x : Nat) (w : World) (a : Addr), (store a (.float .f64 x)).run Try.prog w = stored Try.prog w a (.float .f64 x) .plain := fun x w a => run_store _ w a _ _ rfl
  obtain ⟨W0, hW0⟩ : ∃ W0, (w.alloc (.cells #[.float .f64 a, .bool p] 74)).alloc (.cells #[.float .f64 b, .bool q] 74) = W0 := ⟨_, rfl⟩
  have hb0 : Below w.heap.size w W0 := by rw [← hW0]; exact ((Below.refl _ w).alloc (Nat.le_refl _) _).alloc (by simp) _
  have hh0 : W0.heap[w.heap.size]? = some (.cells #[.float .f64 a, .bool p] 74 (0, 0)) := by rw [← hW0, Below.heap_alloc _ _ _ (by simp)]; exact heap_alloc_new _ _
  have hh1 : W0.heap[w.heap.size + 1]? = some (.cells #[.float .f64 b, .bool q] 74 (0, 0)) := by
    have := heap_alloc_new (w.alloc (.cells #[.float .f64 a, .bool p] 74)) (.cells #[.float .f64 b, .bool q] 74)
    rw [hW0] at this
    simpa using this
  have hx0 := (two_c hh0).1
  have hx1 := (two_c hh1).1
  have HB := keep hb0
  have mI1 := isnan_any a W0
  have mI2 := isnan_any b W0
  clear hh0 hh1 hb0
  cases hna : isNan a
  · have hnb : isNan b = true := by rcases hn with h | h; · rw [hna] at h; cases h
                                    · exact h
    rw [hna] at mI1
    rw [hnb] at mI2
    clear hn hna hnb
    go_enter Try.func33, Try.ntmps33
    go_wp2_with fail
    try rw [hW0]
    refine mI1.mono ?_
    rintro _ _ ⟨rfl, hw⟩
    obtain rfl := hw.symm
    clear mI1
    go_wp2_with fail
    refine mI2.mono ?_
    rintro _ _ ⟨rfl, hw⟩
    obtain rfl := hw.symm
    clear mI2
    go_wp2
    refine bodyPost_ret (results_tmp2 rfl _ _ _) rfl ?_
    exact ⟨rfl, HB.out⟩
  · rw [hna] at mI1
    clear hn hna mI2
    go_enter Try.func33, Try.ntmps33
    go_wp2_with fail
    try rw [hW0]
    refine mI1.mono ?_
    rintro _ _ ⟨rfl, hw⟩
    obtain rfl := hw.symm
    clear mI1
    go_wp2
    refine bodyPost_ret (results_tmp2 rfl _ _ _) rfl ?_
    exact ⟨rfl, HB.out⟩
end Go.Proofs.Ytapehjlpiobeaaa
