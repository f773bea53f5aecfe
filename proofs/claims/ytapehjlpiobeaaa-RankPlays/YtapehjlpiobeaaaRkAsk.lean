/-
  Contracts over this program: Rank and Range of ranks.
-/
import Derived.Test.YtapehjlpiobeaaaRkSet2
namespace Go.Proofs.Ytapehjlpiobeaaa
open Go.RowKit Go.Shelf
set_option linter.unusedVariables false
set_option linter.unusedSimpArgs false
theorem sk_count {T : List Rw} {q : Ent → Bool} {i p : Nat} (h : Sk T q i p) (hm : ∀ x ∈ T, x.2.2.length ≤ 1024) : cntA T i + p = (flat T).countP q ∧ i ≤ T.length ∧ p ≤ 1024 := by
  rcases h with ⟨rfl, rfl, h⟩ | ⟨x, hx, hp, s1, s2, s3, s4⟩
  · refine ⟨?_, Nat.le_refl _, by omega⟩
    unfold cntA
    rw [List.take_length, List.countP_eq_length.2 h, Nat.add_zero]
  · have hl := (List.getElem?_eq_some_iff.1 hx).1
    refine ⟨?_, by omega, by have := hm x (List.mem_of_getElem? hx); omega⟩
    have e1 : flat T = (flat (T.take i) ++ x.2.2.take p) ++ (x.2.2.drop p ++ flat (T.drop (i + 1))) := by
      rw [flat_at hx]
      conv => lhs; rw [← List.take_append_drop p x.2.2]
      simp only [List.append_assoc]
    rw [e1, pre_count (fun a ha => by rcases List.mem_append.1 ha with h | h; exact s1 a h; exact s2 a h) (fun a ha => by rcases List.mem_append.1 ha with h | h; exact s3 a h; exact s4 a h)]
    unfold cntA
    rw [List.length_append, List.length_take]
    omega
/-- how many stand ahead -/
def rnk (L : List Ent) (e : Ent) : Nat := L.countP (fun a => ahd a e)
theorem rnk_at {L l1 l2 : List Ent} {e : Ent} (hR : Ris L) (hL : L = l1 ++ e :: l2) : rnk L e = l1.length := by
  subst hL
  obtain ⟨a1, a2⟩ := ris_at hR
  have he : Num e := hR.2 e (by simp)
  unfold rnk
  refine pre_count a1 (fun a ha => ?_)
  rcases List.mem_cons.1 ha with rfl | ha
  · exact ahd_irr he
  · exact ahd_asym he (hR.2 a (by simp [ha])) (a2 a ha)
set_option maxHeartbeats 1000000 in
theorem krank_none {w : World} {O : Nat → Prop} {R seed : Nat} {L : List Ent} (h : RK w O R seed L) (key : ByteArray) (hk : key.size ≤ maxLen) (hs : sco L key = none) :
    Calls Try.prog 16 #[.pointer (some ⟨R, 0, none⟩), .string key] w fun e w' => e = .returned (.tuple #[.int .i64 0, .bool false]) ∧ ∃ O', RK w' O' R seed L ∧ FO O w O' w' := by
  have mS := kscore_any h key hk
  rw [hs] at mS
  unfold got at mS
  clear hk hs h
  go_enter Try.func16, Try.ntmps16
  go_wp2_with fail
  refine mS.mono ?_
  rintro _ w1 ⟨rfl, O', q1, q2⟩
  have Q1 := keep q1
  have Q2 := keep q2
  clear q1 q2 mS
  go_wp2
  refine bodyPost_ret (results_tmp2 rfl _ _ _) rfl ?_
  exact ⟨rfl, O', Q1.out, Q2.out⟩
theorem FO.then {w w1 w2 : World} {O O1 : Nat → Prop} (h : FO O w O1 w1) (g : Below w1.heap.size w1 w2) : FO O w O1 w2 := h.trans (FO.below g)
set_option maxRecDepth 100000 in
set_option maxHeartbeats 2000000 in
theorem krank_some {w : World} {O : Nat → Prop} {R seed : Nat} {L : List Ent} (hK : RK w O R seed L) (key : ByteArray) (x : Nat) (hs : sco L key = some x) :
    Calls Try.prog 16 #[.pointer (some ⟨R, 0, none⟩), .string key] w fun e w' => e = .returned (.tuple #[.int .i64 ((rnk L (key, x) : Nat) : Int), .bool true]) ∧ ∃ O', RK w' O' R seed L ∧ FO O w O' w' := by
  have hmath := hK.math
  have hmem := sco_mem hmath.2.2.2 hs
  have hk : key.size ≤ 1048576 := hmath.2.1 _ hmem
  have mS := kscore_any hK key (by unfold maxLen; omega)
  rw [hs] at mS
  unfold got at mS
  have TAIL : ∀ (w1 : World) (O' : Nat → Prop), RK w1 O' R seed L → FO O w O' w1 → Kept (Calls Try.prog 42 #[agE (key, x)] w1 fun e w2 => ∃ g cb, e = .returned (.func (.func g) #[] cb) ∧ Kept (
      Calls Try.prog 41 #[.pointer (some ⟨R, 0, none⟩), .func (.func g) #[] cb] w2 fun e w3 => ∃ i p : Nat, e = .returned (.tuple #[.int .i64 i, .int .i64 p]) ∧ Kept (
      Calls Try.prog 40 #[.pointer (some ⟨R, 0, none⟩), .int .i64 i, .int .i64 p] w3 fun e w4 => e = .returned (.int .i64 ((rnk L (key, x) : Nat) : Int)) ∧ Kept (∃ O', RK w4 O' R seed L ∧ FO O w O' w4)))) := by
    intro w1 O' hK1 hF1
    have hK1' := hK1
    obtain ⟨h, r, b, rv, T, s, hH, hR, rfl, hO⟩ := hK1'
    have hne : ∀ x ∈ T, x.2.2 ≠ [] := fun x hx => (hR.2.2.2.1 x hx).1
    have hlen := hR.2.2.2.2.2.2.2
    have hT0 : 0 < T.length := by
      cases T with
      | nil => simp [flat_nil] at hmem
      | cons a T => simp
    refine (notAhead_any (key, x) w1).mono ?_
    rintro _ w2 ⟨rfl, hb2, hr2⟩
    refine ⟨_, _, rfl, ?_⟩
    have hL2 := hR.2.2.1.below hb2
    refine (rseek_any w2 R _ _ _ rv T _ _ _ hL2 hne (fun y hy => by have := (hR.2.2.2.1 y hy).2; omega) (by have := gd_len hne; omega) hr2 (mo_ahd hmath.1 (hmath.1.2 _ hmem))).mono ?_
    rintro _ w3 ⟨⟨i, p, rfl, hsk⟩, hb3⟩
    refine ⟨i, p, rfl, ?_⟩
    obtain ⟨q1, q2, q3⟩ := sk_count hsk (fun y hy => (hR.2.2.2.1 y hy).2)
    refine (place_any w3 R _ _ _ rv T i p (hL2.below hb3) q2 (by omega) (by omega) hT0).mono ?_
    rintro _ w4 ⟨rfl, rfl⟩
    have hb13 := Below.up hb2 hb3
    exact ⟨by rw [q1]; rfl, O', hK1.below hb13, hF1.then hb13⟩
  have TL := keep TAIL
  clear hk hs hK TAIL hmath hmem
  go_enter Try.func16, Try.ntmps16
  go_wp2_with fail
  refine mS.mono ?_
  rintro _ w1 ⟨rfl, O', q1, q2⟩
  have tl := (TL.out w1 O' q1 q2).out
  unfold agE at tl
  dsimp only at tl
  clear q1 q2 mS TL
  go_wp2_with fail
  refine tl.mono ?_
  rintro _ w2 ⟨g, cb, rfl, m2⟩
  clear tl
  go_wp2_with fail
  refine m2.out.mono ?_
  rintro _ w3 ⟨i, p, rfl, m3⟩
  clear m2
  go_wp2_with fail
  refine m3.out.mono ?_
  rintro _ w4 ⟨rfl, Z⟩
  clear m3
  go_wp2
  refine bodyPost_ret (results_tmp2 rfl _ _ _) rfl ?_
  exact ⟨rfl, Z.out⟩
/-- a stretch of a row -/
def seg (L : List Ent) (a b : Nat) : List Ent := (L.take b).drop a
theorem seg_len (L : List Ent) (a b : Nat) : (seg L a b).length = min b L.length - a := by unfold seg; rw [List.length_drop, List.length_take]
theorem seg_app (L M : List Ent) (a b : Nat) : seg (L ++ M) a b = seg L a b ++ seg M (a - L.length) (b - L.length) := by
  unfold seg
  rw [List.take_append, List.drop_append, List.length_take]
  rcases Nat.le_total b L.length with h | h
  · rw [show b - L.length = 0 by omega]; simp
  · rw [Nat.min_eq_right h]
/-- a row of members of one's own -/
def Mr (B : Nat) (w : World) (v : Value) (M : List Ent) : Prop := w.ownsRow B 46 2 v M.length (enR M)
set_option maxHeartbeats 1000000 in
theorem krange_out {w : World} {O : Nat → Prop} {R seed : Nat} {L : List Ent} (hK : RK w O R seed L) (a b : Int) (h : min b (L.length : Int) ≤ max a 0) :
    Calls Try.prog 14 #[.pointer (some ⟨R, 0, none⟩), .int .i64 a, .int .i64 b] w fun e w' => e = .returned (.slice none 0 0) ∧ w' = w := by
  have mL := klen_any hK
  obtain ⟨n, hn⟩ : ∃ n, L.length = n := ⟨_, rfl⟩
  rw [hn] at mL h
  clear hK hn
  by_cases ha : 0 ≤ a <;> by_cases hb : b ≤ (n : Int)
  · have h1 : b ≤ a := by omega
    clear h
    go_enter Try.func14, Try.ntmps14
    go_wp2_with fail
    refine mL.mono ?_
    rintro _ _ ⟨rfl, hw⟩
    obtain rfl := hw.symm
    clear mL
    go_wp2
    go_ret
    exact ⟨rfl, rfl⟩
  · have h1 : (n : Int) ≤ a := by omega
    clear h
    go_enter Try.func14, Try.ntmps14
    go_wp2_with fail
    refine mL.mono ?_
    rintro _ _ ⟨rfl, hw⟩
    obtain rfl := hw.symm
    clear mL
    go_wp2
    go_ret
    exact ⟨rfl, rfl⟩
  · have h1 : b ≤ 0 := by omega
    clear h
    go_enter Try.func14, Try.ntmps14
    go_wp2_with fail
    refine mL.mono ?_
    rintro _ _ ⟨rfl, hw⟩
    obtain rfl := hw.symm
    clear mL
    go_wp2
    go_ret
    exact ⟨rfl, rfl⟩
  · have h1 : (n : Int) ≤ 0 := by omega
    have h2 : n = 0 := by omega
    subst h2
    clear h
    go_enter Try.func14, Try.ntmps14
    go_wp2_with fail
    refine mL.mono ?_
    rintro _ _ ⟨rfl, hw⟩
    obtain rfl := hw.symm
    clear mL
    go_wp2
    go_ret
    exact ⟨rfl, rfl⟩
/-- one row's part is told -/
theorem range_round {wr : World} {B g n c lx cx m1 m2 : Nat} {tv : Value} {M mx : List Ent} {gx : Nat} (hb : B ≤ wr.heap.size) (ht : Mr B wr tv M) (hx : Row wr (gx, cx, mx)) (hl : mx.length = lx) (h12 : m1 ≤ m2) (h2 : m2 ≤ lx) (hM : M.length + lx ≤ 5000000) (hgx : gx < B) :
    ∃ so cc v' w' o' c', (∀ w, (Instr.slice 41 (.slice (some ⟨gx, 0, none⟩) lx cx) (some (.int .i64 (m1 : Int))) (some (.int .i64 (m2 : Int))) none).run Try.prog w = .ok (.slice (some so) (m2 - m1) cc) w) ∧
      (Builtin.append_ #[41, 41] 41 #[tv, .slice (some so) (m2 - m1) cc]).run Try.prog wr = .ok v' w' ∧ v' = .slice o' (M ++ seg mx m1 m2).length c' ∧ Mr B w' v' (M ++ seg mx m1 m2) ∧ Below B wr w' := by
  obtain ⟨i0, hi0, hz0, hz1, hz2⟩ := info_parts info_rk
  have uT := Try.underlying41
  obtain ⟨cur, hcur, hcc, hcm, hsz, htk, hxl⟩ := own_cur hx
  dsimp only at hcur hcc hcm hsz htk hxl
  rw [hl] at hcc htk hxl
  have hsl : ∀ w, (Instr.slice 41 (.slice (some ⟨gx, 0, none⟩) lx cx) (some (.int .i64 (m1 : Int))) (some (.int .i64 (m2 : Int))) none).run Try.prog w = .ok (.slice (some (if cx = m1 then ⟨gx, 0, none⟩ else ⟨gx, m1 * 2, none⟩)) (m2 - m1) (cx - m1)) w := fun w => by
    rw [slice_run w _ _ uT i0 hi0 ⟨gx, 0, none⟩ lx cx m1 m2 cx _ _ _ (.inl ⟨rfl, rfl⟩) (.inr ⟨rfl, by omega⟩) (.inr ⟨rfl, by omega⟩), hz1, add_at, Nat.zero_add]
  have hsegl : (enR (seg mx m1 m2)).length = (m2 - m1) * 2 := by rw [enR_len, seg_len, hl, Nat.min_eq_left h2]
  obtain ⟨v', w', r1, r2, r3, _⟩ := run_append_own (P := Try.prog) wr B 41 41 46 i0 _ 2 24 uT hi0 hz0 hz1 hz2 (by simp [Value.cells]) (by decide) tv M.length _ ht (if cx = m1 then ⟨gx, 0, none⟩ else ⟨gx, m1 * 2, none⟩) (m2 - m1) (cx - m1) (enR (seg mx m1 m2)) hsegl (fun j u hj => by
    have hjl := (List.getElem?_eq_some_iff.1 hj).1
    rw [hsegl] at hjl
    rw [if_neg (by omega)]
    unfold seg at hj
    rw [enR_drop, enR_take] at hj
    refine row_cells (a := m1 * 2) hcur htk j u ?_
    rw [List.getElem?_drop, List.getElem?_take] at hj
    split at hj
    · rw [List.getElem?_drop]; exact hj
    · cases hj) enR_one (by unfold maxLen; omega) (by omega) hb
  have r2' : Mr B w' v' (M ++ seg mx m1 m2) := by
    unfold Mr
    rw [enR_app, List.length_append, seg_len, hl, Nat.min_eq_left h2]
    exact r2
  have hform : ∃ o' c', v' = .slice o' (M ++ seg mx m1 m2).length c' := by
    rcases r2'.2 with ⟨e, h0⟩ | ⟨g', c', cur', e, _⟩
    · exact ⟨none, 0, by rw [e, h0]⟩
    · exact ⟨_, _, e⟩
  obtain ⟨o', c', hv⟩ := hform
  exact ⟨_, _, v', w', o', c', hsl, r1, hv, r2', (Below.refl B wr).grown r3 hb (fun k hk => (ht.lt k hk).1)⟩
set_option maxRecDepth 100000 in
set_option maxHeartbeats 4000000 in
theorem krange_at {w : World} {O : Nat → Prop} {R seed : Nat} {L : List Ent} (hK : RK w O R seed L) (lo hi : Nat) (hhi : hi ≤ L.length) (hlh : lo < hi) :
    Calls Try.prog 14 #[.pointer (some ⟨R, 0, none⟩), .int .i64 (lo : Int), .int .i64 (hi : Int)] w fun e w' => (∃ v, e = .returned v ∧ Mr w.heap.size w' v (seg L lo hi)) ∧ Below w.heap.size w w' := by
  have mL := klen_any hK
  have hmath := hK.math
  obtain ⟨h, r, bb, rv, T, s, hH, hR, rfl, hO⟩ := hK
  have hL := hR.2.2.1
  have hG := hR.2.2.2.1
  have hne : ∀ x ∈ T, x.2.2 ≠ [] := fun x hx => (hG x hx).1
  have hlen := hmath.2.2.1
  have hhl : hi ≤ (flat T).length := hhi
  have hT0 : 0 < T.length := by
    cases T with
    | nil => simp [flat_nil] at hhl; omega
    | cons y T => simp
  obtain ⟨gt, c, hrv, hc1, hc2⟩ := hL.2.1.form hT0
  subst hrv
  obtain ⟨n, hn'⟩ : ∃ n, T.length = n := ⟨_, rfl⟩
  have hnl : n ≤ 1048576 := by have := gd_len hne; omega
  obtain ⟨m, hm⟩ : ∃ m, m = hi - lo := ⟨_, rfl⟩
  obtain ⟨i0, hi0, hz0, hz1, hz2⟩ := info_parts info_rk
  obtain ⟨w1, k1, k2, k3⟩ := run_make_own (P := Try.prog) w w.heap.size 41 46 i0 _ 2 Try.underlying41 hi0 hz0 hz1 .i64 .i64 m (by rw [hz2]; omega) (by unfold maxLen; omega) (Nat.le_refl _)
  have hb1 : Below w.heap.size w w1 := (Below.refl _ w).grown k3 (Nat.le_refl _) (fun k hk => by cases hk)
  have d2 := (four (hL.below hb1).1).2.2.1
  rw [hn'] at d2
  have hwm : IntKind.i64.wrap ((hi : Int) - (lo : Int)) = (m : Int) := by rw [IntKind.wrap_i64]; omega
  have HL := keep hL
  have HG := keep hG
  have HK2 : Kept (Mr w.heap.size w1 (.slice (some ⟨w.heap.size, 0, none⟩) 0 m) []) := k2
  have HB1 := keep hb1
  have HN := keep hn'
  have HNL := keep hnl
  have HLEN := keep hlen
  have HHL := keep hhl
  have HLH := keep hlh
  have hlt : ¬ (hi : Int) ≤ (lo : Int) := by omega
  have hltd : decide ((hi : Int) ≤ (lo : Int)) = false := decide_eq_false hlt
  have hltn : ¬ hi ≤ lo := by omega
  have hltm : lo < hi := by omega
  have LOOP : Kept (∀ (k f t : Nat) (tv : Value) (M : List Ent) (wr : World), k < n → f = lo - cntA T k → t = hi - cntA T k → M = seg (flat (T.take k)) lo hi → Mr w.heap.size wr tv M → Below w.heap.size w wr → ∃ gx cx mx lx, wr.cell? ⟨gt, k, none⟩ = some (.slice (some ⟨gx, 0, none⟩) lx cx) ∧ lx ≤ 1024 ∧ f ≤ t ∧ t ≤ 1048576 ∧ Kept (∀ m1 m2, m1 = min f lx → m2 = min t lx → ∃ so cc v' w' o' c', (∀ w, (Instr.slice 41 (.slice (some ⟨gx, 0, none⟩) lx cx) (some (.int .i64 (m1 : Int))) (some (.int .i64 (m2 : Int))) none).run Try.prog w = .ok (.slice (some so) (m2 - m1) cc) w) ∧
      (Builtin.append_ #[41, 41] 41 #[tv, .slice (some so) (m2 - m1) cc]).run Try.prog wr = .ok v' w' ∧ v' = .slice o' (M ++ seg mx m1 m2).length c' ∧ Mr w.heap.size w' v' (seg (flat (T.take (k + 1))) lo hi) ∧ Below w.heap.size w w') ∧ f - lx = lo - cntA T (k + 1) ∧ t - lx = hi - cntA T (k + 1)) := by
    intro k f t tv M wr hk hf ht hM hMr hB
    have hLr := hL.below hB
    obtain ⟨x, hx⟩ : ∃ x, T[k]? = some x := ⟨_, List.getElem?_eq_getElem (by omega)⟩
    have hcell := hLr.2.1.at hx
    have hrow := hLr.2.1.2.1 x (List.mem_of_getElem? hx)
    have hxl := hL.lt x.1 (by rw [bl_some]; exact List.mem_cons.2 (.inr (List.mem_cons.2 (.inr (List.mem_map.2 ⟨x, List.mem_of_getElem? hx, rfl⟩)))))
    have hgd := hG x (List.mem_of_getElem? hx)
    have hcnt := cntA_succ hx
    have hcl := flat_take_le T (k + 1)
    obtain ⟨gx, cx, mx⟩ := x
    unfold rwV at hcell
    dsimp only at hcell hgd hcnt hxl
    refine ⟨gx, cx, mx, mx.length, hcell, hgd.2, by omega, by omega, ?_, by omega, by omega⟩
    intro m1 m2 e1 e2
    have hMl : M.length ≤ 1048576 := by
      rw [hM, seg_len]
      have := flat_take_le T k
      unfold cntA at this
      omega
    obtain ⟨so, cc, v', w', o', c', q1, q2, q3, q4, q5⟩ := range_round (m1 := m1) (m2 := m2) (n := 0) (g := 0) (c := 0) hB.size hMr hrow rfl (by omega) (by omega) (by have := hgd.2; omega) hxl
    refine ⟨so, cc, v', w', o', c', q1, q2, q3, ?_, hB.trans q5⟩
    have e3 : seg (flat (T.take (k + 1))) lo hi = M ++ seg mx m1 m2 := by
      have e4 : flat (T.take (k + 1)) = flat (T.take k) ++ mx := by
        rw [List.take_add_one, hx, flat_app]
        show _ ++ flat [(gx, cx, mx)] = _
        rw [flat_cons, flat_nil, List.append_nil]
      rw [e4, seg_app, hM]
      congr 1
      have hc' : (flat (T.take k)).length = cntA T k := rfl
      rw [hc', ← hf, ← ht]
      unfold seg
      rw [e1, e2]
      rcases Nat.le_total t mx.length with h1 | h1
      · rw [Nat.min_eq_left h1, Nat.min_eq_left (by omega)]
      · rw [Nat.min_eq_right h1, List.take_of_length_le h1, List.take_of_length_le (Nat.le_refl _)]
        rcases Nat.le_total f mx.length with h2 | h2
        · rw [Nat.min_eq_left h2]
        · rw [Nat.min_eq_right h2, List.drop_of_length_le h2, List.drop_of_length_le (Nat.le_refl _)]
    rw [e3]
    exact q4
  clear hR hO hL hG hne hlen hhl hT0 hc1 hc2 hmath hm k2 k3 hb1 hnl hlh hn'
  have ha0 : (0 : Int) ≤ (lo : Int) := by omega
  have hb0 : (hi : Int) ≤ ((flat T).length : Int) := by omega
  go_enter Try.func14, Try.ntmps14
  go_wp2_with fail
  refine mL.mono ?_
  rintro _ _ ⟨rfl, hw⟩
  obtain rfl := hw.symm
  clear mL
  go_wp2
  go_loopg [1, 2, 7, 9, 10, 29] n (fun kx s1 s2 s7 s9 s10 s29 wr => ∃ (k f t : Nat) (o : Option Addr) (l c7 : Nat), s1 = .int .i64 f ∧ s2 = .int .i64 t ∧ s7 = .slice o l c7 ∧ s29 = .int .i64 k ∧ k ≤ n ∧ n - k ≤ kx ∧ Kept (f = lo - cntA T k ∧ t = hi - cntA T k ∧ Mr w.heap.size wr (.slice o l c7) (seg (flat (T.take k)) lo hi) ∧ Below w.heap.size w wr))
  case atStart => exact ⟨0, lo, hi, some ⟨w.heap.size, 0, none⟩, 0, m, rfl, rfl, rfl, rfl, Nat.zero_le _, by omega, ⟨by simp [cntA, flat_nil], by simp [cntA, flat_nil], by simpa [seg, flat_nil] using HK2.out, HB1.out⟩⟩
  case round =>
    obtain ⟨k, f, t, o, l, c7, rfl, rfl, rfl, rfl, hk, hg, I⟩ := hrel
    obtain ⟨I1, I2, I3, I4⟩ := I.out
    by_cases hkn : k < n
    · obtain ⟨gx, cx, mx, lx, hcell, hlx, hft, htl, RN, e1, e2⟩ := LOOP.out k f t _ _ wr hkn I1 I2 rfl I3 I4
      have E1 := keep e1
      have E2 := keep e2
      have k0 : (0 : Int) ≤ (k : Int) := by omega
      have k1' : (k : Int) < (n : Int) := by omega
      have kw : IntKind.i64.wrap ((k : Int) + 1) = ((k + 1 : Nat) : Int) := by have := HNL.out; rw [IntKind.wrap_i64]; omega
      have HKN := keep hkn
      have HK := keep hk
      clear I1 I2 I3 I4 I e1 e2
      obtain ⟨d1, hd1⟩ : ∃ d1 : Int, (f : Int) - (lx : Int) = d1 := ⟨_, rfl⟩
      obtain ⟨d2', hd2⟩ : ∃ d2' : Int, (t : Int) - (lx : Int) = d2' := ⟨_, rfl⟩
      have w1' : IntKind.i64.wrap ((f : Int) - (lx : Int)) = d1 := by rw [IntKind.wrap_i64]; omega
      have w2' : IntKind.i64.wrap ((t : Int) - (lx : Int)) = d2' := by rw [IntKind.wrap_i64]; omega
      have HX := keep hlx
      have HT := keep htl
      clear hlx htl
      rcases Nat.lt_trichotomy f lx with hf1 | hf1 | hf1
      · rcases Nat.lt_trichotomy t lx with ht1 | ht1 | ht1
        · have a1 : (f : Int) ≤ (lx : Int) := by omega
          have a2 : ¬ (0 : Int) ≤ d1 := by omega
          have b1 : (t : Int) ≤ (lx : Int) := by omega
          have b2 : ¬ (0 : Int) ≤ d2' := by omega
          have hra := keep (RN.out f t (by omega) (by omega))
          obtain ⟨so, cc, v', w', o', c', q1, q2, q3, q4, q5⟩ := hra.out
          subst q3
          obtain ⟨l', hl'⟩ : ∃ l', l' = (seg (flat (T.take k)) lo hi ++ seg mx f t).length := ⟨_, rfl⟩
          rw [← hl'] at q2 q4
          have Q2 := keep q2
          have Q4 := keep q4
          have Q5 := keep q5
          have HD1 := keep hd1
          have HD2 := keep hd2
          have HFT := keep hft
          clear hra q2 q4 q5 RN hl' hd1 hd2 hft
          go_wp2_with (at_builtin; refine wpList_app_run rfl _ _ _ _ rfl _ _ _ rfl rfl Q2.out ?_)
          go_roundg (n - (k + 1))
          case measure => have := HKN.out; omega
          case rel => exact ⟨k + 1, 0, 0, o', l', c', by first | rfl | (have := HD1.out; congr 1; omega), by first | rfl | (have := HD2.out; congr 1; omega), rfl, by first | rfl | simp, HKN.out, by have := HKN.out; omega, ⟨by have := E1.out; have := HD1.out; omega, by have := E2.out; have := HD2.out; omega, Q4.out, Q5.out⟩⟩
        · subst ht1
          have a1 : (f : Int) ≤ (t : Int) := by omega
          have a2 : ¬ (0 : Int) ≤ d1 := by omega
          have b1 : (t : Int) ≤ (t : Int) := by omega
          have b2 : (0 : Int) ≤ d2' := by omega
          have hra := keep (RN.out f t (by omega) (by omega))
          obtain ⟨so, cc, v', w', o', c', q1, q2, q3, q4, q5⟩ := hra.out
          subst q3
          obtain ⟨l', hl'⟩ : ∃ l', l' = (seg (flat (T.take k)) lo hi ++ seg mx f t).length := ⟨_, rfl⟩
          rw [← hl'] at q2 q4
          have Q2 := keep q2
          have Q4 := keep q4
          have Q5 := keep q5
          have HD1 := keep hd1
          have HD2 := keep hd2
          have HFT := keep hft
          clear hra q2 q4 q5 RN hl' hd1 hd2 hft
          go_wp2_with (at_builtin; refine wpList_app_run rfl _ _ _ _ rfl _ _ _ rfl rfl Q2.out ?_)
          go_roundg (n - (k + 1))
          case measure => have := HKN.out; omega
          case rel => exact ⟨k + 1, 0, 0, o', l', c', by first | rfl | (have := HD1.out; congr 1; omega), by first | rfl | (have := HD2.out; congr 1; omega), rfl, by first | rfl | simp, HKN.out, by have := HKN.out; omega, ⟨by have := E1.out; have := HD1.out; omega, by have := E2.out; have := HD2.out; omega, Q4.out, Q5.out⟩⟩
        · have a1 : (f : Int) ≤ (lx : Int) := by omega
          have a2 : ¬ (0 : Int) ≤ d1 := by omega
          have b1 : ¬ (t : Int) ≤ (lx : Int) := by omega
          have b2 : (0 : Int) ≤ d2' := by omega
          have hra := keep (RN.out f lx (by omega) (by omega))
          obtain ⟨so, cc, v', w', o', c', q1, q2, q3, q4, q5⟩ := hra.out
          subst q3
          obtain ⟨l', hl'⟩ : ∃ l', l' = (seg (flat (T.take k)) lo hi ++ seg mx f lx).length := ⟨_, rfl⟩
          rw [← hl'] at q2 q4
          have Q2 := keep q2
          have Q4 := keep q4
          have Q5 := keep q5
          have HD1 := keep hd1
          have HD2 := keep hd2
          have HFT := keep hft
          clear hra q2 q4 q5 RN hl' hd1 hd2 hft
          go_wp2_with (at_builtin; refine wpList_app_run rfl _ _ _ _ rfl _ _ _ rfl rfl Q2.out ?_)
          go_roundg (n - (k + 1))
          case measure => have := HKN.out; omega
          case rel => exact ⟨k + 1, 0, (t - lx), o', l', c', by first | rfl | (have := HD1.out; congr 1; omega), by first | rfl | (have := HD2.out; congr 1; omega), rfl, by first | rfl | simp, HKN.out, by have := HKN.out; omega, ⟨by have := E1.out; have := HD1.out; omega, by have := E2.out; have := HD2.out; omega, Q4.out, Q5.out⟩⟩
      · subst hf1
        rcases Nat.lt_or_eq_of_le hft with ht1 | ht1
        · have a1 : (f : Int) ≤ (f : Int) := by omega
          have a2 : (0 : Int) ≤ d1 := by omega
          have b1 : ¬ (t : Int) ≤ (f : Int) := by omega
          have b2 : (0 : Int) ≤ d2' := by omega
          have hra := keep (RN.out f f (by omega) (by omega))
          obtain ⟨so, cc, v', w', o', c', q1, q2, q3, q4, q5⟩ := hra.out
          subst q3
          simp only [Nat.sub_self] at q1 q2
          obtain ⟨l', hl'⟩ : ∃ l', l' = (seg (flat (T.take k)) lo hi ++ seg mx f f).length := ⟨_, rfl⟩
          rw [← hl'] at q2 q4
          have Q2 := keep q2
          have Q4 := keep q4
          have Q5 := keep q5
          have HD1 := keep hd1
          have HD2 := keep hd2
          have HFT := keep hft
          clear hra q2 q4 q5 RN hl' hd1 hd2 hft
          go_wp2_with (at_builtin; refine wpList_app_run rfl _ _ _ _ rfl _ _ _ rfl rfl Q2.out ?_)
          go_roundg (n - (k + 1))
          case measure => have := HKN.out; omega
          case rel => exact ⟨k + 1, 0, (t - f), o', l', c', by first | rfl | (have := HD1.out; congr 1; omega), by first | rfl | (have := HD2.out; congr 1; omega), rfl, by first | rfl | simp, HKN.out, by have := HKN.out; omega, ⟨by have := E1.out; have := HD1.out; omega, by have := E2.out; have := HD2.out; omega, Q4.out, Q5.out⟩⟩
        · subst ht1
          have a1 : (f : Int) ≤ (f : Int) := by omega
          have a2 : (0 : Int) ≤ d1 := by omega
          have b2 : (0 : Int) ≤ d2' := by omega
          have hra := keep (RN.out f f (by omega) (by omega))
          obtain ⟨so, cc, v', w', o', c', q1, q2, q3, q4, q5⟩ := hra.out
          subst q3
          simp only [Nat.sub_self] at q1 q2
          obtain ⟨l', hl'⟩ : ∃ l', l' = (seg (flat (T.take k)) lo hi ++ seg mx f f).length := ⟨_, rfl⟩
          rw [← hl'] at q2 q4
          have Q2 := keep q2
          have Q4 := keep q4
          have Q5 := keep q5
          have HD1 := keep hd1
          have HD2 := keep hd2
          have HFT := keep hft
          clear hra q2 q4 q5 RN hl' hd1 hd2 hft
          go_wp2_with (at_builtin; refine wpList_app_run rfl _ _ _ _ rfl _ _ _ rfl rfl Q2.out ?_)
          go_roundg (n - (k + 1))
          case measure => have := HKN.out; omega
          case rel => exact ⟨k + 1, 0, 0, o', l', c', by first | rfl | (have := HD1.out; congr 1; omega), by first | rfl | (have := HD2.out; congr 1; omega), rfl, by first | rfl | simp, HKN.out, by have := HKN.out; omega, ⟨by have := E1.out; have := HD1.out; omega, by have := E2.out; have := HD2.out; omega, Q4.out, Q5.out⟩⟩
      · have a1 : ¬ (f : Int) ≤ (lx : Int) := by omega
        have a2 : (0 : Int) ≤ d1 := by omega
        have b1 : ¬ (t : Int) ≤ (lx : Int) := by omega
        have b2 : (0 : Int) ≤ d2' := by omega
        have hra := keep (RN.out lx lx (by omega) (by omega))
        obtain ⟨so, cc, v', w', o', c', q1, q2, q3, q4, q5⟩ := hra.out
        subst q3
        simp only [Nat.sub_self] at q1 q2
        obtain ⟨l', hl'⟩ : ∃ l', l' = (seg (flat (T.take k)) lo hi ++ seg mx lx lx).length := ⟨_, rfl⟩
        rw [← hl'] at q2 q4
        have Q2 := keep q2
        have Q4 := keep q4
        have Q5 := keep q5
        have HD1 := keep hd1
        have HD2 := keep hd2
        have HFT := keep hft
        clear hra q2 q4 q5 RN hl' hd1 hd2 hft
        go_wp2_with (at_builtin; refine wpList_app_run rfl _ _ _ _ rfl _ _ _ rfl rfl Q2.out ?_)
        go_roundg (n - (k + 1))
        case measure => have := HKN.out; omega
        case rel => exact ⟨k + 1, (f - lx), (t - lx), o', l', c', by first | rfl | (have := HD1.out; congr 1; omega), by first | rfl | (have := HD2.out; congr 1; omega), rfl, by first | rfl | simp, HKN.out, by have := HKN.out; omega, ⟨by have := E1.out; have := HD1.out; omega, by have := E2.out; have := HD2.out; omega, Q4.out, Q5.out⟩⟩
    · obtain rfl : k = n := by omega
      rw [← HN.out] at I3
      rw [List.take_length] at I3
      have Z := keep I3
      have Z4 := keep I4
      clear I1 I2 I3 I4 I LOOP
      go_wp2
      go_ret
      exact ⟨⟨_, rfl, Z.out⟩, Z4.out⟩

end Go.Proofs.Ytapehjlpiobeaaa
