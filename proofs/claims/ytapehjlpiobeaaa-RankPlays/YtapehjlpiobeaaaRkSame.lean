/-
  Contracts over this program: the statements' own same.
-/
import Derived.Test.YtapehjlpiobeaaaRkOpen
/-
  Contracts over this program: what each statement asks first; ranks and a plain list behind a script.
-/
namespace Go.Proofs.Ytapehjlpiobeaaa
open Go.RowKit Go.Shelf
set_option linter.unusedVariables false
set_option linter.unusedSimpArgs false
theorem ris_eq : ∀ {l m : List Ent}, Ris l → Ris m → l.Perm m → l = m := by
  intro l
  induction l with
  | nil => intro m _ _ h; exact (List.nil_perm.1 h).symm
  | cons a l ih =>
    intro m hl hm h
    cases m with
    | nil => exact absurd h.length_eq (by simp)
    | cons b m =>
      have na : Num a := hl.2 a (by simp)
      have nb : Num b := hm.2 b (by simp)
      have hl1 := List.pairwise_cons.1 hl.1
      have hm1 := List.pairwise_cons.1 hm.1
      have hab : a = b := by
        have ha : a ∈ b :: m := h.subset (by simp)
        have hb : b ∈ a :: l := h.symm.subset (by simp)
        rcases List.mem_cons.1 ha with e | e
        · exact e
        · rcases List.mem_cons.1 hb with e' | e'
          · exact e'.symm
          · have := ahd_asym nb na (hm1.1 a e)
            rw [hl1.1 b e'] at this; cases this
      subst hab
      rw [ih ⟨hl1.2, fun e he => hl.2 e (by simp [he])⟩ ⟨hm1.2, fun e he => hm.2 e (by simp [he])⟩ ((List.perm_cons a).1 h)]
theorem FO.bel {O O' : Nat → Prop} {w w' : World} {B : Nat} (h : FO O w O' w') (hO : ∀ k, O k → B ≤ k) (hB : B ≤ w.heap.size) : Below B w w' ∧ ∀ k, O' k → B ≤ k := by
  have hn : ∀ k, k < B → ¬ O k := fun k hk hh => by have := hO k hh; omega
  refine ⟨⟨h.1.1, h.1.2.1, h.1.2.2, h.2.1, fun k hk => (h.2.2 k (by omega) (hn k hk)).1⟩, fun k hk => ?_⟩
  rcases Nat.lt_or_ge k B with hlt | hge
  · exact absurd hk (h.2.2 k (by omega) (hn k hlt)).2
  · exact hge
def kA : ByteArray := { data := #[97] }
def kB : ByteArray := { data := #[98] }
def fOne : Nat := 4607182418800017408
def fTwo : Nat := 4611686018427387904
theorem nan_one : isNan fOne = false := by decide +kernel
theorem nan_two : isNan fTwo = false := by decide +kernel
theorem ab_ne : kA ≠ kB := by decide
theorem ris_ba : Ris [(kB, fOne), (kA, fTwo)] := by
  refine ⟨?_, fun e he => ?_⟩
  · rw [List.pairwise_cons]
    refine ⟨fun e he => ?_, List.pairwise_singleton _ _⟩
    simp at he; subst he
    unfold ahd
    rw [show flt fOne fTwo = true by decide +kernel]; rfl
  · simp at he
    rcases he with rfl | rfl
    · exact nan_one
    · exact nan_two
theorem one_eq {L : List Ent} {k : ByteArray} {x : Nat} (hn : (Dc.keys L).Nodup) (h : Sets [] k x L) : L = [(k, x)] := by
  have hp : L.Perm [(k, x)] := perm_mem hn (by simp [Dc.keys]) (fun e => by rw [h e]; simp)
  exact List.perm_singleton.1 hp
theorem two_eq {L : List Ent} (hR : Ris L) (hn : (Dc.keys L).Nodup) (h : Sets [(kA, fTwo)] kB fOne L) : L = [(kB, fOne), (kA, fTwo)] := by
  refine ris_eq hR ris_ba (perm_mem hn ?_ (fun e => ?_))
  · simp [Dc.keys]; exact fun e => ab_ne e.symm
  · rw [h e]
    simp only [List.mem_cons, List.not_mem_nil, or_false]
    constructor
    · rintro (h | ⟨h, _⟩)
      · exact .inl h
      · exact .inr h
    · rintro (h | h)
      · exact .inl h
      · exact .inr ⟨h, by rw [h]; exact ab_ne⟩
set_option maxRecDepth 100000 in
set_option maxHeartbeats 2000000 in
theorem kwakes_any (w : World) : Calls Try.prog 12 #[] w fun e w' => e = .returned (.bool true) ∧ Below w.heap.size w w' := by
  have mN := knew_any w 3 (by decide)
  go_enter Try.func12, Try.ntmps12
  go_wp2_with fail
  refine mN.mono ?_
  rintro _ w1 ⟨⟨R, O, rfl, hK, hO⟩, hb1⟩
  clear mN
  have mS := kset_new hK kA fTwo (by decide) nan_two rfl (by simp)
  have HO := keep hO
  have HB1 := keep hb1
  clear hO hb1 hK
  go_wp2_with fail
  refine mS.mono ?_
  rintro _ w2 ⟨rfl, O2, L2, s2, k2, f2⟩
  obtain rfl := one_eq k2.math.2.2.2 s2
  obtain ⟨b2, o2⟩ := f2.bel HO.out HB1.out.size
  have HB2 := keep (HB1.out.trans b2)
  have mS' := kset_new k2 kB fOne (by decide) nan_one (by unfold sco Dc.look; rw [if_neg ab_ne]; rfl) (by simp)
  have HO2 := keep o2
  clear mS s2 k2 f2 b2 o2 HO HB1
  go_wp2_with fail
  refine mS'.mono ?_
  rintro _ w3 ⟨rfl, O3, L3, s3, k3, f3⟩
  obtain rfl := two_eq k3.math.1 k3.math.2.2.2 s3
  obtain ⟨b3, o3⟩ := f3.bel HO2.out HB2.out.size
  have HB3 := keep (HB2.out.trans b3)
  have mR := krank_some k3 kA fTwo (by unfold sco Dc.look; rw [if_neg (fun e => ab_ne e.symm)]; unfold Dc.look; rw [if_pos rfl])
  rw [rnk_at ris_ba (l1 := [(kB, fOne)]) (l2 := []) rfl] at mR
  have HO3 := keep o3
  clear mS' s3 k3 f3 b3 o3 HO2 HB2
  go_wp2_with fail
  refine mR.mono ?_
  rintro _ w4 ⟨rfl, O4, k4, f4⟩
  obtain ⟨b4, o4⟩ := f4.bel HO3.out HB3.out.size
  have HB4 := keep (HB3.out.trans b4)
  have mL := klen_any k4
  have mC := kcost_any k4
  rw [show rcst [(kB, fOne), (kA, fTwo)] = 82 from rfl] at mC
  clear mR k4 f4 b4 o4 HO3 HB3
  go_wp2_with fail
  refine mL.mono ?_
  rintro _ _ ⟨rfl, hw⟩
  obtain rfl := hw.symm
  clear mL
  go_wp2_with fail
  refine mC.mono ?_
  rintro _ _ ⟨rfl, hw⟩
  obtain rfl := hw.symm
  clear mC
  go_wp2
  go_ret
  exact ⟨rfl, HB4.out⟩
set_option maxRecDepth 100000 in
set_option maxHeartbeats 4000000 in
theorem built_any (w : World) (seed : Nat) (hseed : seed < Dw.M) (so : Option Addr) (cap : Nat) (S : List Stp) (hS : Steps w so S) (hl : S.length ≤ maxLen) :
    Calls Try.prog 13 #[.int .u64 seed, .slice so S.length cap] w fun e w' => (∃ R lv, e = .returned (.tuple #[.pointer (some ⟨R, 0, none⟩), lv, .bool true]) ∧ ∃ O L M, Bt w' O R seed L lv M ∧ ∀ k, OB O lv k → w.heap.size ≤ k) ∧ Below w.heap.size w w' := by
  have mN := knew_any w seed hseed
  obtain ⟨n, hn⟩ : ∃ n, S.length = n := ⟨_, rfl⟩
  rw [hn]
  have HS := keep hS
  have HN := keep hn
  have HL := keep hl
  clear hS hn hl
  go_enter Try.func13, Try.ntmps13
  go_wp2_with fail
  refine mN.mono ?_
  rintro _ w1 ⟨⟨R, O1, rfl, hK1, hO1⟩, hb1⟩
  clear mN
  have H0 : Kept (∃ O L M, Bt w1 O R seed L (.slice none 0 0) M ∧ (∀ k, OB O (.slice none 0 0) k → w.heap.size ≤ k) ∧ Below w.heap.size w w1) :=
    ⟨O1, [], [], ⟨hK1, World.ownsRow_nil _ _ _ _, fun k hk => (by cases hk), fun e => Iff.rfl, (by simp [Dc.keys])⟩, fun k hk => hk.elim (hO1 k) (fun h => by cases h), hb1⟩
  clear hK1 hO1 hb1
  go_wp2
  go_loopg [8, 10, 11, 12, 17] n (fun kx s8 s10 s11 s12 s17 wr => ∃ (k : Nat) (o : Option Addr) (l c : Nat), s8 = .slice o l c ∧ s17 = .int .i64 k ∧ k ≤ n ∧ n - k ≤ kx ∧ Kept (∃ O L M, Bt wr O R seed L (.slice o l c) M ∧ (∀ k, OB O (.slice o l c) k → w.heap.size ≤ k) ∧ Below w.heap.size w wr))
  case atStart => exact ⟨0, none, 0, 0, rfl, rfl, Nat.zero_le _, by omega, H0.out⟩
  case round =>
    obtain ⟨k, o, l, c, rfl, rfl, hk1, hg1, KI⟩ := hrel
    by_cases hlt : k < n
    · have k0 : (0 : Int) ≤ (k : Int) := by omega
      have k1 : (k : Int) < (n : Int) := by omega
      have kw : IntKind.i64.wrap ((k : Int) + 1) = ((k + 1 : Nat) : Int) := by have := HL.out; have := HN.out; unfold maxLen at *; rw [IntKind.wrap_i64]; omega
      obtain ⟨O, L, M, hB, hOB, hbw⟩ := KI.out
      have hkS : k < S.length := by rw [HN.out]; exact hlt
      obtain ⟨a, rfl, hab, hsz, hst0⟩ := HS.out k hkS
      have hst := hst0.bel hbw (by rw [add_block]; exact hab)
      obtain ⟨st, ho⟩ : ∃ o, S[k]'hkS = o := ⟨_, rfl⟩
      rw [ho] at hst hsz
      obtain ⟨who, act, sa, sb, key, x, y, ox, oy⟩ := st
      obtain ⟨t0, t1, t2, t3, t4, t5, t6, t7, t8⟩ := hst
      dsimp only at t0 t1 t2 t3 t4 t5 t6 t7 t8 hsz
      obtain ⟨W5, hW5⟩ : ∃ W5, wr.alloc (.cells #[.int .i64 who, .int .i64 act, .int .i64 sa, .int .i64 sb, .string key, .int .u64 (x : Int), .int .u64 (y : Int), .bool ox, .bool oy] 31) = W5 := ⟨_, rfl⟩
      have hb5 : Below wr.heap.size wr W5 := by rw [← hW5]; exact (Below.refl _ wr).alloc (Nat.le_refl _) _
      have mD := done_any W5 O R seed L M _ who act sa sb key x y ox oy (hB.below hb5) hsz.1
      unfold stV at mD
      have hh5 : W5.heap[wr.heap.size]? = some (.cells #[.int .i64 who, .int .i64 act, .int .i64 sa, .int .i64 sb, .string key, .int .u64 (x : Int), .int .u64 (y : Int), .bool ox, .bool oy] 31 (0, 0)) := by rw [← hW5]; exact heap_alloc_new _ _
      have y0 : W5.cell? ⟨wr.heap.size, 0, none⟩ = some (.int .i64 who) := by simp [World.cell?, hh5]
      have y1 : W5.cell? ⟨wr.heap.size, 1, none⟩ = some (.int .i64 act) := by simp [World.cell?, hh5]
      have y2 : W5.cell? ⟨wr.heap.size, 2, none⟩ = some (.int .i64 sa) := by simp [World.cell?, hh5]
      have y3 : W5.cell? ⟨wr.heap.size, 3, none⟩ = some (.int .i64 sb) := by simp [World.cell?, hh5]
      have y4 : W5.cell? ⟨wr.heap.size, 4, none⟩ = some (.string key) := by simp [World.cell?, hh5]
      have y5 : W5.cell? ⟨wr.heap.size, 5, none⟩ = some (.int .u64 (x : Int)) := by simp [World.cell?, hh5]
      have y6 : W5.cell? ⟨wr.heap.size, 6, none⟩ = some (.int .u64 (y : Int)) := by simp [World.cell?, hh5]
      have y7 : W5.cell? ⟨wr.heap.size, 7, none⟩ = some (.bool ox) := by simp [World.cell?, hh5]
      have y8 : W5.cell? ⟨wr.heap.size, 8, none⟩ = some (.bool oy) := by simp [World.cell?, hh5]
      have HX : Kept (∀ e w', Dn W5 O R seed (.slice o l c) e w' → ∃ o' l' c', e = .returned (.tuple #[.slice o' l' c', .bool true]) ∧ Kept (∃ O L M, Bt w' O R seed L (.slice o' l' c') M ∧ (∀ k, OB O (.slice o' l' c') k → w.heap.size ≤ k) ∧ Below w.heap.size w w')) := by
        rintro e w' ⟨lv', rfl, O', L', M', hB', hF⟩
        obtain ⟨o', c', hlv⟩ := hB'.2.1.form
        subst hlv
        have hb05 := Below.up hbw hb5
        obtain ⟨b', o''⟩ := hF.bel hOB hb05.size
        exact ⟨o', _, c', rfl, O', L', M', hB', o'', hb05.trans b'⟩
      have HLT := keep hlt
      clear hB hOB hbw hst0 hab hsz ho hb5 hh5 KI
      go_wp2_with fail
      try rw [hW5]
      refine mD.mono ?_
      rintro e w' hdn
      obtain ⟨o', l', c', rfl, KI'⟩ := HX.out e w' hdn
      clear hdn mD HX t0 t1 t2 t3 t4 t5 t6 t7 t8 y0 y1 y2 y3 y4 y5 y6 y7 y8
      go_wp2
      go_roundg (n - (k + 1))
      case measure => have := HLT.out; omega
      case rel => exact ⟨k + 1, o', l', c', rfl, by first | rfl | simp, HLT.out, by have := HLT.out; omega, KI'.out⟩
    · obtain rfl : k = n := by omega
      go_wp2
      refine bodyPost_ret (results_tmp3 rfl _ _ _) rfl ?_
      obtain ⟨O, L, M, hB, hOB, hbw⟩ := KI.out
      exact ⟨⟨R, _, rfl, O, L, M, hB, hOB⟩, hbw⟩
end Go.Proofs.Ytapehjlpiobeaaa

/-
  Contracts over this program: the statement RankOrders.
-/
namespace Go.Proofs.Ytapehjlpiobeaaa
open Go.RowKit Go.Shelf
set_option linter.unusedVariables false
set_option linter.unusedSimpArgs false
theorem seg_all (L : List Ent) : seg L 0 L.length = L := by unfold seg; rw [List.take_length, List.drop_zero]
theorem krange_all {w : World} {O : Nat → Prop} {R seed : Nat} {L : List Ent} (hK : RK w O R seed L) :
    Calls Try.prog 14 #[.pointer (some ⟨R, 0, none⟩), .int .i64 0, .int .i64 (L.length : Int)] w fun e w' => (∃ o c, e = .returned (.slice o L.length c) ∧ Mr w.heap.size w' (.slice o L.length c) L) ∧ Below w.heap.size w w' := by
  rcases Nat.eq_zero_or_pos L.length with h | h
  · refine (krange_out hK 0 (L.length : Int) (by omega)).mono ?_
    rintro _ w' ⟨rfl, rfl⟩
    obtain rfl := List.length_eq_zero_iff.1 h
    exact ⟨⟨none, 0, rfl, World.ownsRow_nil _ _ _ _⟩, Below.refl _ _⟩
  · refine (krange_at hK 0 L.length (Nat.le_refl _) h).mono ?_
    rintro _ w' ⟨⟨v, rfl, hM⟩, hb⟩
    rw [seg_all] at hM
    have hf : ∃ o c, v = .slice o L.length c := by
      rcases hM.2 with ⟨e, h0⟩ | ⟨g', c', cur', e, _⟩
      · exact ⟨none, 0, by rw [e, h0]⟩
      · exact ⟨_, _, e⟩
    obtain ⟨o, c, rfl⟩ := hf
    exact ⟨⟨o, c, rfl, hM⟩, hb⟩
/-- ranks, a row that was told of them, a plain list: all apart -/
def Tri (B : Nat) (w0 w : World) (O : Nat → Prop) (R seed : Nat) (L : List Ent) (rv : Value) (N : List Ent) (lv : Value) (M : List Ent) : Prop :=
  RK w O R seed L ∧ Mr 0 w rv N ∧ En w lv M ∧ (∀ k, rv.ownBlock = some k → ¬ O k) ∧ (∀ k, lv.ownBlock = some k → ¬ O k) ∧ (∀ k, O k → B ≤ k) ∧ Below B w0 w ∧ B ≤ w0.heap.size
theorem Tri.turn {B : Nat} {w0 w w' : World} {O O' : Nat → Prop} {R seed : Nat} {L L' : List Ent} {rv lv : Value} {N M : List Ent} (h : Tri B w0 w O R seed L rv N lv M) (hK : RK w' O' R seed L') (hf : FO O w O' w') : Tri B w0 w' O' R seed L' rv N lv M := by
  obtain ⟨h1, h2, h3, h4, h5, h6, h7, h8⟩ := h
  obtain ⟨b1, b2⟩ := hf.bel h6 (Nat.le_trans h8 h7.size)
  exact ⟨hK, own_kept h2 (fun k hk => (hf.2.2 k (own_lt h2 hk) (h4 k hk)).1), own_kept h3 (fun k hk => (hf.2.2 k (own_lt h3 hk) (h5 k hk)).1), fun k hk => (hf.2.2 k (own_lt h2 hk) (h4 k hk)).2, fun k hk => (hf.2.2 k (own_lt h3 hk) (h5 k hk)).2, b2, h7.trans b1, h8⟩
theorem Tri.below {B : Nat} {w0 w w' : World} {O : Nat → Prop} {R seed : Nat} {L : List Ent} {rv lv : Value} {N M : List Ent} (h : Tri B w0 w O R seed L rv N lv M) (hb : Below w.heap.size w w') : Tri B w0 w' O R seed L rv N lv M :=
  h.turn (h.1.below hb) (FO.below hb)
theorem Mr.at {B : Nat} {w : World} {g n c : Nat} {M : List Ent} {j : Nat} {e : Ent} (h : Mr B w (.slice (some ⟨g, 0, none⟩) n c) M) (hj : M[j]? = some e) : w.cell? ⟨g, j * 2, none⟩ = some (.string e.1) ∧ w.cell? ⟨g, j * 2 + 1, none⟩ = some (.float .f64 e.2) := by
  obtain ⟨h1, h2⟩ := enR_at hj
  have c1 := World.ownsRow.cells h (g := g) rfl _ _ h1
  have c2 := World.ownsRow.cells h (g := g) rfl _ _ h2
  rw [add_at, Nat.zero_add] at c1 c2
  exact ⟨c1, c2⟩
theorem Mr.some {B : Nat} {w : World} {o : Option Addr} {n c : Nat} {M : List Ent} (h : Mr B w (.slice o n c) M) (hn : 0 < M.length) : ∃ g, o = some ⟨g, 0, none⟩ := by
  rcases h.2 with ⟨_, h'⟩ | ⟨g, c', cur, h', _⟩
  · omega
  · injection h' with h1; exact ⟨g, h1⟩
theorem Mr.zero {B : Nat} {w : World} {v : Value} {M : List Ent} (h : Mr B w v M) : Mr 0 w v M := by
  refine ⟨h.1, ?_⟩
  rcases h.2 with h | ⟨g, c, cur, e, _, r⟩
  · exact .inl h
  · exact .inr ⟨g, c, cur, e, Nat.zero_le _, r⟩
theorem ahd_cases {a b : Ent} (h : ahd a b = true) : FloatKind.f64.format.order a.2 b.2 = some .lt ∨ (FloatKind.f64.format.order a.2 b.2 = some .eq ∧ Op.bytesLess a.1.toList b.1.toList = true) := by
  unfold ahd flt feq tls at h
  rw [Bool.or_eq_true, Bool.and_eq_true] at h
  rcases h with h | ⟨h1, h2⟩
  · exact .inl (of_decide_eq_true h)
  · exact .inr ⟨of_decide_eq_true h1, h2⟩
theorem rcst_take {L : List Ent} {k : Nat} {e : Ent} (h : L[k]? = some e) : rcst (L.take (k + 1)) = rcst (L.take k) + (40 + e.1.size) := by
  rw [List.take_add_one, h]
  unfold rcst
  simp
theorem rcst_take_le (L : List Ent) (k : Nat) : rcst (L.take k) ≤ rcst L := by
  conv => rhs; rw [← List.take_append_drop k L]
  unfold rcst
  rw [List.map_append, List.sum_append]
  omega
theorem at_split {L : List Ent} {k : Nat} {e : Ent} (h : L[k]? = some e) : L = L.take k ++ e :: L.drop (k + 1) ∧ (L.take k).length = k := by
  have hl := (List.getElem?_eq_some_iff.1 h).1
  exact ⟨by rw [← (List.getElem?_eq_some_iff.1 h).2, ← List.drop_eq_getElem_cons hl, List.take_append_drop], by rw [List.length_take]; omega⟩
set_option maxRecDepth 100000 in
set_option maxHeartbeats 8000000 in
theorem orders_walk (W : World) (seed : Nat) (hseed : seed < Dw.M) (so : Option Addr) (cap : Nat) (S : List Stp) (hS : Steps W so S) (hl : S.length ≤ maxLen) :
    Calls Try.prog 4 #[.int .u64 seed, .slice so S.length cap] W fun e w' => e = .returned (.bool true) ∧ Below W.heap.size W w' := by
  have sf : ∀ (x : Nat) (w : World) (a : Addr), (store a (.float .f64 x)).run Try.prog w = stored Try.prog w a (.float .f64 x) .plain := fun x w a => run_store _ w a _ _ rfl
  have mW := kwakes_any W
  have MB := keep (fun w1 (hb : Below W.heap.size W w1) => built_any w1 seed hseed so cap S (hS.bel hb) hl)
  clear hS hl hseed
  go_enter Try.func4, Try.ntmps4
  go_wp2_with fail
  refine mW.mono ?_
  rintro _ w1 ⟨rfl, hb1⟩
  have mB := MB.out w1 hb1
  have HB1 := keep hb1
  clear mW MB hb1
  go_wp2_with fail
  refine mB.mono ?_
  rintro _ w2 ⟨⟨R, lv, rfl, O, L, M, hBt, hOB⟩, hb2⟩
  have hmath := hBt.1.math
  have hlen := hBt.2.2.2.len hmath.2.2.2
  obtain ⟨lo, lc, hlv⟩ := hBt.2.1.form
  subst hlv
  rw [← hlen] at hBt hOB ⊢
  obtain ⟨n, hn⟩ : ∃ n, L.length = n := ⟨_, rfl⟩
  have mL := klen_any hBt.1
  have mR := krange_all hBt.1
  rw [hn] at mL mR hBt hOB ⊢
  have HBt := keep hBt
  have HOB := keep hOB
  have HB2 := keep hb2
  have HM := keep hmath
  have HN := keep hn
  have HLN := keep hlen
  clear mB hBt hOB hb2 hmath hlen hn
  go_wp2_with fail
  refine mL.mono ?_
  rintro _ _ ⟨rfl, hw⟩
  obtain rfl := hw.symm
  clear mL
  go_wp2_with fail
  refine mR.mono ?_
  rintro _ w3 ⟨⟨ro, rc, rfl, hMr⟩, hb3⟩
  have hT : Tri W.heap.size W w3 O R seed L (.slice ro n rc) L (.slice lo n lc) M := by
    have hbW : Below W.heap.size W w2 := Below.up HB1.out HB2.out
    have hlt := HBt.out.1.lt
    refine ⟨HBt.out.1.below hb3, hMr.zero, HBt.out.2.1.kept (fun k hk => hb3.block k (own_lt HBt.out.2.1 hk)), fun k hk hO => ?_, HBt.out.2.2.1, fun k hk => Nat.le_trans HB1.out.size (HOB.out k (.inl hk)), Below.up hbW hb3, Nat.le_refl _⟩
    have h1 := (hMr.lt k hk).1
    have h2 := hlt k hO
    omega
  have mL := klen_any hT.1
  rw [HN.out] at mL
  have HT := keep hT
  clear mR hMr hb3 hT
  go_wp2_with fail
  refine mL.mono ?_
  rintro _ _ ⟨rfl, hw⟩
  obtain rfl := hw.symm
  clear mL
  go_wp2
  go_loopg [9, 10, 11, 12, 13, 14, 15, 16, 50] n (fun kx s9 s10 s11 s12 s13 s14 s15 s16 s50 wr => ∃ (k cc : Nat), s9 = .int .i64 cc ∧ s50 = .int .i64 k ∧ k ≤ n ∧ n - k ≤ kx ∧ Kept (cc = rcst (L.take k) ∧ ∃ O, Tri W.heap.size W wr O R seed L (.slice ro n rc) L (.slice lo n lc) M))
  case atStart => exact ⟨0, 0, rfl, rfl, Nat.zero_le _, by omega, ⟨by simp [rcst], O, HT.out⟩⟩
  case round =>
    obtain ⟨k, cc, rfl, rfl, hk1, hg1, KI⟩ := hrel
    obtain ⟨hcc, O2, hT⟩ := KI.out
    by_cases hlt : k < n
    · have k0 : (0 : Int) ≤ (k : Int) := by omega
      have k1 : (k : Int) < (n : Int) := by omega
      have hn1 : n ≤ 1048576 := by have := HM.out.2.2.1; have := HN.out; omega
      have kw : IntKind.i64.wrap ((k : Int) + 1) = ((k + 1 : Nat) : Int) := by rw [IntKind.wrap_i64]; omega
      obtain ⟨e, he⟩ : ∃ e, L[k]? = some e := ⟨_, List.getElem?_eq_getElem (by rw [HN.out]; exact hlt)⟩
      obtain ⟨g, hg⟩ := hT.2.1.some (by rw [HN.out]; omega)
      subst hg
      obtain ⟨l1, l2⟩ := hT.2.1.at he
      have hsc : sco L e.1 = some e.2 := (Dc.look_mem HM.out.2.2.2 e.1 e.2).2 (List.mem_of_getElem? he)
      obtain ⟨hsp, hspl⟩ := at_split he
      have hrk : rnk L e = k := by rw [rnk_at HM.out.1 hsp]; exact hspl
      have hct := rcst_take he
      have hcl : rcst (L.take (k + 1)) ≤ 1200000000000 := by
        have h1 := rcst_take_le L (k + 1)
        have h2 := rcst_le HM.out.2.1
        have h3 : L.length * 1048616 ≤ 1048576 * 1048616 := Nat.mul_le_mul_right _ HM.out.2.2.1
        omega
      have hes : e.1.size ≤ 1048576 := HM.out.2.1 e (List.mem_of_getElem? he)
      obtain ⟨c2, hc2⟩ : ∃ c2, c2 = rcst (L.take (k + 1)) := ⟨_, rfl⟩
      have hwa : IntKind.i64.wrap (40 + (e.1.size : Int)) = 40 + (e.1.size : Int) := by rw [IntKind.wrap_i64]; omega
      have hwb : IntKind.i64.wrap ((cc : Int) + (40 + (e.1.size : Int))) = (c2 : Int) := by rw [IntKind.wrap_i64]; omega
      obtain ⟨W5, hW5⟩ : ∃ W5, wr.alloc (.cells #[.string e.1, .float .f64 e.2] 46) = W5 := ⟨_, rfl⟩
      have hb5 : Below wr.heap.size wr W5 := by rw [← hW5]; exact (Below.refl _ wr).alloc (Nat.le_refl _) _
      have hh5 : W5.heap[wr.heap.size]? = some (.cells #[.string e.1, .float .f64 e.2] 46 (0, 0)) := by rw [← hW5]; exact heap_alloc_new _ _
      have hs5 : W5.heap.size = wr.heap.size + 1 := by rw [← hW5]; simp
      have HLT := keep hlt
      have HC2 := keep hc2
      -- behind the questions
      have QQ : Kept (∀ W6 : World, Below W5.heap.size W5 W6 → (W6.cell? ⟨wr.heap.size, 0, none⟩ = some (.string e.1)) ∧ Kept (Calls Try.prog 16 #[.pointer (some ⟨R, 0, none⟩), .string e.1] W6 fun en w7 => en = .returned (.tuple #[.int .i64 (k : Int), .bool true]) ∧ (w7.cell? ⟨wr.heap.size, 0, none⟩ = some (.string e.1)) ∧ Kept (
          Calls Try.prog 17 #[.pointer (some ⟨R, 0, none⟩), .string e.1] w7 fun en w8 => en = .returned (.tuple #[.float .f64 e.2, .bool true]) ∧ (w8.cell? ⟨wr.heap.size, 0, none⟩ = some (.string e.1)) ∧ (w8.cell? ⟨wr.heap.size, 1, none⟩ = some (.float .f64 e.2)) ∧ Kept (∃ O, Tri W.heap.size W w8 O R seed L (.slice (some ⟨g, 0, none⟩) n rc) L (.slice lo n lc) M)))) := by
        intro W6 hb6
        have hT6 := hT.below (Below.up hb5 hb6)
        have hh6 : W6.heap[wr.heap.size]? = some (.cells #[.string e.1, .float .f64 e.2] 46 (0, 0)) := by rw [hb6.block _ (by omega)]; exact hh5
        have hbl : wr.heap.size < W6.heap.size := (Array.getElem?_eq_some_iff.1 hh6).1
        have hnO : ¬ O2 wr.heap.size := fun h => by have := hT.1.lt _ h; omega
        refine ⟨by simp [World.cell?, hh6], ?_⟩
        refine (krank_some hT6.1 e.1 e.2 hsc).mono ?_
        rintro _ w7 ⟨rfl, O7, k7, f7⟩
        have hh7 := (f7.2.2 _ hbl hnO)
        have hh7' := hh7.1.trans hh6
        have hT7 := hT6.turn k7 f7
        refine ⟨by rw [show rnk L (e.1, e.2) = k from hrk], by simp [World.cell?, hh7'], ?_⟩
        refine (kscore_any k7 e.1 (by unfold maxLen; omega)).mono ?_
        rintro _ w8 ⟨rfl, O8, k8, f8⟩
        have hh8 := ((f8.2.2 _ (Array.getElem?_eq_some_iff.1 hh7').1 hh7.2).1).trans hh7'
        refine ⟨by rw [hsc]; rfl, by simp [World.cell?, hh8], by simp [World.cell?, hh8], O8, hT7.turn k8 f8⟩
      have PREV : Kept (0 < k → ∃ d m, L[m]? = some d ∧ m + 1 = k ∧ ahd d e = true) := fun hk0 => by
        obtain ⟨d, hd⟩ : ∃ d, L[k - 1]? = some d := ⟨_, List.getElem?_eq_getElem (by rw [HN.out]; omega)⟩
        refine ⟨d, k - 1, hd, by omega, ?_⟩
        have hp := HM.out.1.1
        rw [List.pairwise_iff_getElem] at hp
        obtain ⟨q1, q2⟩ := List.getElem?_eq_some_iff.1 hd
        obtain ⟨q3, q4⟩ := List.getElem?_eq_some_iff.1 he
        have := hp (k - 1) k q1 q3 (by omega)
        rw [q2, q4] at this
        exact this
      have AT : Kept (∀ m d, L[m]? = some d → wr.cell? ⟨g, m * 2, none⟩ = some (.string d.1) ∧ wr.cell? ⟨g, m * 2 + 1, none⟩ = some (.float .f64 d.2)) := fun m d hd => hT.2.1.at hd
      have HB5 := keep hb5
      have HS5 := keep hs5
      obtain ⟨e1, e2⟩ := e
      dsimp only at *
      have ak := alk_self e2
      have hyy : W5.cell? ⟨wr.heap.size, 0, none⟩ = some (.string e1) ∧ W5.cell? ⟨wr.heap.size, 1, none⟩ = some (.float .f64 e2) := by constructor <;> simp [World.cell?, hh5]
      have HYY := keep hyy
      have HH5 := keep hh5
      clear hT hcc KI he hsc hsp hspl hrk hct hcl hes hc2 hb5 hh5 hs5 hn1 hyy
      by_cases hk0 : k = 0
      · subst hk0
        have gz : decide ((0 : Int) < ((0 : Nat) : Int)) = false := by decide
        obtain ⟨cz, mK⟩ := QQ.out W5 (Below.refl _ _)
        go_wp2_with fail
        try rw [hW5]
        refine mK.out.mono ?_
        rintro _ w7 ⟨rfl, cA, mS⟩
        clear mK
        go_wp2_with fail
        refine mS.out.mono ?_
        rintro _ w8 ⟨rfl, cB, cC, KT⟩
        clear mS
        go_wp2_with fail
        refine (alike_any _ _ _).mono ?_
        rintro _ _ ⟨rfl, hw⟩
        obtain rfl := hw.symm
        rw [ak]
        go_wp2
        go_roundg (n - (0 + 1))
        case measure => have := HLT.out; omega
        case rel => exact ⟨0 + 1, c2, rfl, by first | rfl | simp, HLT.out, by have := HLT.out; omega, ⟨HC2.out, KT.out⟩⟩
      · obtain ⟨d, m, hd, hm, hah⟩ := PREV.out (by omega)
        have gz : decide ((0 : Int) < (k : Int)) = true := decide_eq_true (by omega)
        have gz' : 0 < k := by omega
        obtain ⟨dl1, dl2⟩ := AT.out m d hd
        have hmw : IntKind.i64.wrap ((k : Int) - 1) = (m : Int) := by have := HLT.out; have := HM.out.2.2.1; have := HN.out; rw [IntKind.wrap_i64]; omega
        have m0 : (0 : Int) ≤ (m : Int) := by omega
        have m1 : (m : Int) < (n : Int) := by omega
        obtain ⟨d1, d2⟩ := d
        dsimp only at dl1 dl2
        have hgl : g < wr.heap.size := World.block_lt_of_cell? _ _ dl1
        have dm1 : W5.cell? ⟨g, m * 2, none⟩ = some (.string d1) := (HB5.out.cell (p := ⟨g, m * 2, none⟩) hgl).trans dl1
        have dm2 : W5.cell? ⟨g, m * 2 + 1, none⟩ = some (.float .f64 d2) := (HB5.out.cell (p := ⟨g, m * 2 + 1, none⟩) hgl).trans dl2
        obtain ⟨W6, hW6⟩ : ∃ W6, W5.alloc (.cells #[.string d1, .float .f64 d2] 46) = W6 := ⟨_, rfl⟩
        have hb6 : Below W5.heap.size W5 W6 := by rw [← hW6]; exact (Below.refl _ W5).alloc (Nat.le_refl _) _
        have hh6 : W6.heap[W5.heap.size]? = some (.cells #[.string d1, .float .f64 d2] 46 (0, 0)) := by rw [← hW6]; exact heap_alloc_new _ _
        have z0 : W6.cell? ⟨W5.heap.size, 0, none⟩ = some (.string d1) := by simp [World.cell?, hh6]
        have z1 : W6.cell? ⟨W5.heap.size, 1, none⟩ = some (.float .f64 d2) := by simp [World.cell?, hh6]
        have z2 : W6.cell? ⟨wr.heap.size, 0, none⟩ = some (.string e1) := (hb6.cell (p := ⟨wr.heap.size, 0, none⟩) (World.block_lt_of_cell? _ _ HYY.out.1)).trans HYY.out.1
        have z3 : W6.cell? ⟨wr.heap.size, 1, none⟩ = some (.float .f64 e2) := (hb6.cell (p := ⟨wr.heap.size, 1, none⟩) (World.block_lt_of_cell? _ _ HYY.out.2)).trans HYY.out.2
        have z0' := z0
        have z1' := z1
        rw [HS5.out] at z0' z1'
        have HB6 := keep hb6
        have HM1 := keep hm
        have hca := ahd_cases hah
        dsimp only at hca
        clear hd hm hah PREV AT dl1 dl2 hgl hb6 hh6
        rcases hca with oq | ⟨oq, bq⟩
        · obtain ⟨cz, mK⟩ := QQ.out W6 HB6.out
          go_wp2_with fail
          try rw [hW5]
          go_wp2_with fail
          try rw [hW6]
          go_wp2_with fail
          refine mK.out.mono ?_
          rintro _ w7 ⟨rfl, cA, mS⟩
          clear mK
          go_wp2_with fail
          refine mS.out.mono ?_
          rintro _ w8 ⟨rfl, cB, cC, KT⟩
          clear mS
          go_wp2_with fail
          refine (alike_any _ _ _).mono ?_
          rintro _ _ ⟨rfl, hw⟩
          obtain rfl := hw.symm
          rw [ak]
          go_wp2
          go_roundg (n - (k + 1))
          case measure => have := HLT.out; omega
          case rel => exact ⟨k + 1, c2, rfl, by first | rfl | simp, HLT.out, by have := HLT.out; omega, ⟨HC2.out, KT.out⟩⟩
        · obtain ⟨cz, mK⟩ := QQ.out W6 HB6.out
          go_wp2_with fail
          try rw [hW5]
          go_wp2_with fail
          try rw [hW6]
          go_wp2_with fail
          refine mK.out.mono ?_
          rintro _ w7 ⟨rfl, cA, mS⟩
          clear mK
          go_wp2_with fail
          refine mS.out.mono ?_
          rintro _ w8 ⟨rfl, cB, cC, KT⟩
          clear mS
          go_wp2_with fail
          refine (alike_any _ _ _).mono ?_
          rintro _ _ ⟨rfl, hw⟩
          obtain rfl := hw.symm
          rw [ak]
          go_wp2
          go_roundg (n - (k + 1))
          case measure => have := HLT.out; omega
          case rel => exact ⟨k + 1, c2, rfl, by first | rfl | simp, HLT.out, by have := HLT.out; omega, ⟨HC2.out, KT.out⟩⟩
    · obtain rfl : k = n := by omega
      have hcc' : cc = rcst L := by rw [hcc, ← HN.out, List.take_length]
      have HCC := keep hcc'
      have HT2 : Kept (∃ O, Tri W.heap.size W wr O R seed L (.slice ro k rc) L (.slice lo k lc) M) := ⟨O2, hT⟩
      obtain ⟨wA, hwA⟩ : ∃ wA, wr = wA := ⟨_, rfl⟩
      subst hwA
      clear hcc O2 hT KI hcc'
      go_wp2
      go_loopg [18, 19, 20, 123] k (fun kx s18 s19 s20 s123 wx => ∃ j : Nat, s123 = .int .i64 j ∧ j ≤ k ∧ k - j ≤ kx ∧ Kept (∃ O, Tri W.heap.size W wx O R seed L (.slice ro k rc) L (.slice lo k lc) M))
      case atStart => exact ⟨0, rfl, Nat.zero_le _, by omega, HT2.out⟩
      case round =>
        obtain ⟨j, rfl, hj1, hj2, KJ⟩ := hrel
        obtain ⟨O3, hT⟩ := KJ.out
        by_cases hjn : j < k
        · have j0 : (0 : Int) ≤ (j : Int) := by omega
          have j1 : (j : Int) < (k : Int) := by omega
          have hn1 : k ≤ 1048576 := by have := HM.out.2.2.1; have := HN.out; omega
          have jw : IntKind.i64.wrap ((j : Int) + 1) = ((j + 1 : Nat) : Int) := by rw [IntKind.wrap_i64]; omega
          have hMl : M.length = k := by rw [← HLN.out]; exact HN.out
          obtain ⟨e, he⟩ : ∃ e, M[j]? = some e := ⟨_, List.getElem?_eq_getElem (by omega)⟩
          have hlos : ∃ g, lo = some ⟨g, 0, none⟩ := by obtain ⟨g, c', hlv⟩ := hT.2.2.1.some (by omega); injection hlv with h1 h2 h3; exact ⟨g, h1⟩
          obtain ⟨g, rfl⟩ := hlos
          obtain ⟨l1, l2⟩ := hT.2.2.1.at he
          have heL : e ∈ L := (HBt.out.2.2.2.1 e).2 (List.mem_of_getElem? he)
          have hsc : sco L e.1 = some e.2 := (Dc.look_mem HM.out.2.2.2 e.1 e.2).2 heL
          have hes : e.1.size ≤ 1048576 := HM.out.2.1 e heL
          obtain ⟨W5, hW5⟩ : ∃ W5, wr.alloc (.cells #[.string e.1, .float .f64 e.2] 53) = W5 := ⟨_, rfl⟩
          have hb5 : Below wr.heap.size wr W5 := by rw [← hW5]; exact (Below.refl _ wr).alloc (Nat.le_refl _) _
          have hh5 : W5.heap[wr.heap.size]? = some (.cells #[.string e.1, .float .f64 e.2] 53 (0, 0)) := by rw [← hW5]; exact heap_alloc_new _ _
          have c0 : W5.cell? ⟨wr.heap.size, 0, none⟩ = some (.string e.1) := by simp [World.cell?, hh5]
          have mK : Kept (Calls Try.prog 17 #[.pointer (some ⟨R, 0, none⟩), .string e.1] W5 fun en w8 => en = .returned (.tuple #[.float .f64 e.2, .bool true]) ∧ (w8.cell? ⟨wr.heap.size, 1, none⟩ = some (.float .f64 e.2)) ∧ Kept (∃ O, Tri W.heap.size W w8 O R seed L (.slice ro k rc) L (.slice (some ⟨g, 0, none⟩) k lc) M)) := by
            have hT6 := hT.below hb5
            have hnO : ¬ O3 wr.heap.size := fun h => by have := hT.1.lt _ h; omega
            refine (kscore_any hT6.1 e.1 (by unfold maxLen; omega)).mono ?_
            rintro _ w8 ⟨rfl, O8, k8, f8⟩
            have hh8 := ((f8.2.2 _ (Array.getElem?_eq_some_iff.1 hh5).1 hnO).1).trans hh5
            refine ⟨by rw [hsc]; rfl, by simp [World.cell?, hh8], O8, hT6.turn k8 f8⟩
          obtain ⟨e1, e2⟩ := e
          dsimp only at *
          have ak := alk_self e2
          have HJN := keep hjn
          clear hT KJ he heL hsc hes hb5 hh5 hn1 hMl
          go_wp2_with fail
          try rw [hW5]
          refine mK.out.mono ?_
          rintro _ w8 ⟨rfl, cC, KT⟩
          clear mK
          go_wp2_with fail
          refine (alike_any _ _ _).mono ?_
          rintro _ _ ⟨rfl, hw⟩
          obtain rfl := hw.symm
          rw [ak]
          go_wp2
          go_roundg (k - (j + 1))
          case measure => have := HJN.out; omega
          case rel => exact ⟨j + 1, by first | rfl | simp, HJN.out, by have := HJN.out; omega, KT.out⟩
        · obtain rfl : j = k := by omega
          have mC := kcost_any hT.1
          have HTT := keep hT
          clear hT KJ
          have hce := HCC.out
          subst hce
          go_wp2_with fail
          refine mC.mono ?_
          rintro _ _ ⟨rfl, hw⟩
          obtain rfl := hw.symm
          go_wp2
          go_ret
          exact ⟨by simp, HTT.out.2.2.2.2.2.2.1⟩
end Go.Proofs.Ytapehjlpiobeaaa

namespace Go.Proofs.Ytapehjlpiobeaaa
open Go.RowKit Go.Shelf
set_option linter.unusedVariables false
set_option linter.unusedSimpArgs false
set_option maxRecDepth 100000 in
set_option maxHeartbeats 2000000 in
theorem rsame_any (w : World) (B1 B2 n c1 c2 : Nat) (o1 o2 : Option Addr) (N : List Ent) (h1 : Mr B1 w (.slice o1 n c1) N) (h2 : Mr B2 w (.slice o2 n c2) N) (hn : N.length = n) (hl : n ≤ 2000000) :
    Calls Try.prog 20 #[.slice o1 n c1, .slice o2 n c2] w fun e w' => e = .returned (.bool true) ∧ Below w.heap.size w w' := by
  have H1 := keep h1
  have H2 := keep h2
  have HN := keep hn
  have HL := keep hl
  clear h1 h2 hn hl
  go_enter Try.func20, Try.ntmps20
  go_wp2
  go_loopg [5, 13] n (fun kx s5 s13 wr => ∃ k : Nat, s13 = .int .i64 k ∧ k ≤ n ∧ n - k ≤ kx ∧ Kept (Below w.heap.size w wr))
  case atStart => exact ⟨0, rfl, Nat.zero_le _, by omega, Below.refl _ _⟩
  case round =>
    obtain ⟨k, rfl, hk1, hg1, BW⟩ := hrel
    by_cases hlt : k < n
    · have k0 : (0 : Int) ≤ (k : Int) := by omega
      have k1 : (k : Int) < (n : Int) := by omega
      have kw : IntKind.i64.wrap ((k : Int) + 1) = ((k + 1 : Nat) : Int) := by have := HL.out; rw [IntKind.wrap_i64]; omega
      obtain ⟨e, he⟩ : ∃ e, N[k]? = some e := ⟨_, List.getElem?_eq_getElem (by rw [HN.out]; exact hlt)⟩
      obtain ⟨g1, hg⟩ := H1.out.some (by rw [HN.out]; omega)
      subst hg
      obtain ⟨g2, hg⟩ := H2.out.some (by rw [HN.out]; omega)
      subst hg
      obtain ⟨a1, a2⟩ := H1.out.at he
      obtain ⟨b1, b2⟩ := H2.out.at he
      have kp : ∀ {p : Addr} {v : Value}, w.cell? p = some v → wr.drew.cell? p = some v := fun {p v} h => (BW.out.cell (p := p) (World.block_lt_of_cell? _ _ h)).trans h
      obtain ⟨e1, e2⟩ := e
      dsimp only at a1 a2 b1 b2
      obtain ⟨ok, hok⟩ : ∃ ok, k * 2 = ok := ⟨_, rfl⟩
      have HS : Kept (wr.drew.cell? ⟨g1, ok, none⟩ = some (.string e1) ∧ wr.drew.cell? ⟨g1, ok + 1, none⟩ = some (.float .f64 e2) ∧ wr.drew.cell? ⟨g2, ok, none⟩ = some (.string e1) ∧ wr.drew.cell? ⟨g2, ok + 1, none⟩ = some (.float .f64 e2)) := by rw [← hok]; exact ⟨kp a1, kp a2, kp b1, kp b2⟩
      have hqq : (e1.toList == e1.toList) = true := beq_self_eq_true _
      have hqn : (e1.toList != e1.toList) = false := by simp
      have ak := alk_self e2
      have HLT := keep hlt
      clear he a1 a2 b1 b2 kp
      go_wp2_with fail
      refine wp_region_held_drew (S := fun W => W.cell? ⟨g1, ok, none⟩ = some (.string e1) ∧ W.cell? ⟨g1, ok + 1, none⟩ = some (.float .f64 e2) ∧ W.cell? ⟨g2, ok, none⟩ = some (.string e1) ∧ W.cell? ⟨g2, ok + 1, none⟩ = some (.float .f64 e2)) (by kernel_rfl) HS.out (fun hHeld => ?_)
      refine wpAnyH_take (i := 0) (oi := { dst := some 16, op := _, type := _, pos := _, after := _, guard := _ }) (v := ?v392) rfl (by kernel_rfl) (by kernel_rfl) (by kernel_rfl) (fun _ _ _ h => h) (Or.inl ⟨by rfl, ?hy392⟩) (by assumption) ?rest392
      case hy392 => (intro w hSw; obtain ⟨p0,p1,p2,p3⟩ := hSw; go_simp; try with_reducible rfl)
      try simp only [Act.put, List.setIfInBounds_toArray, List.set_cons_zero, List.set_cons_succ]
      refine wpAnyH_take (i := 1) (oi := { dst := some 17, op := _, type := _, pos := _, after := _, guard := _ }) (v := ?v393) rfl (by kernel_rfl) (by kernel_rfl) (by kernel_rfl) (fun _ _ _ h => h) (Or.inl ⟨by rfl, ?hy393⟩) (by assumption) ?rest393
      case hy393 => (intro w hSw; obtain ⟨p0,p1,p2,p3⟩ := hSw; go_simp; try with_reducible rfl)
      try simp only [Act.put, List.setIfInBounds_toArray, List.set_cons_zero, List.set_cons_succ]
      refine wpAnyH_take (i := 2) (oi := { dst := some 18, op := _, type := _, pos := _, after := _, guard := _ }) (v := (.pointer (some ⟨g1, ok, none⟩))) rfl (by kernel_rfl) (by kernel_rfl) (by kernel_rfl) (fun _ _ _ h => h) (Or.inl ⟨by rfl, ?hy394⟩) (by assumption) ?rest394
      case hy394 => (intro w hSw; obtain ⟨p0,p1,p2,p3⟩ := hSw; first | (go_simp; done) | (go_simp; simp [*]; done) | (simp [*]; go_simp; done))
      try simp only [Act.put, List.setIfInBounds_toArray, List.set_cons_zero, List.set_cons_succ]
      refine wpAnyH_take (i := 3) (oi := { dst := some 19, op := _, type := _, pos := _, after := _, guard := _ }) (v := (.pointer (some ⟨g1, ok, none⟩))) rfl (by kernel_rfl) (by kernel_rfl) (by kernel_rfl) (fun _ _ _ h => h) (Or.inl ⟨by rfl, ?hy395⟩) (by assumption) ?rest395
      case hy395 => (intro w hSw; obtain ⟨p0,p1,p2,p3⟩ := hSw; first | (go_simp; done) | (go_simp; simp [*]; done) | (simp [*]; go_simp; done))
      try simp only [Act.put, List.setIfInBounds_toArray, List.set_cons_zero, List.set_cons_succ]
      refine wpAnyH_take (i := 4) (oi := { dst := some 20, op := _, type := _, pos := _, after := _, guard := _ }) (v := ?v396) rfl (by kernel_rfl) (by kernel_rfl) (by kernel_rfl) (fun _ _ _ h => h) (Or.inl ⟨by rfl, ?hy396⟩) (by assumption) ?rest396
      case hy396 => (intro w hSw; obtain ⟨p0,p1,p2,p3⟩ := hSw; go_simp; try with_reducible rfl)
      try simp only [Act.put, List.setIfInBounds_toArray, List.set_cons_zero, List.set_cons_succ]
      refine wpAnyH_take (i := 5) (oi := { dst := some 21, op := _, type := _, pos := _, after := _, guard := _ }) (v := ?v397) rfl (by kernel_rfl) (by kernel_rfl) (by kernel_rfl) (fun _ _ _ h => h) (Or.inl ⟨by rfl, ?hy397⟩) (by assumption) ?rest397
      case hy397 => (intro w hSw; obtain ⟨p0,p1,p2,p3⟩ := hSw; go_simp; try with_reducible rfl)
      try simp only [Act.put, List.setIfInBounds_toArray, List.set_cons_zero, List.set_cons_succ]
      refine wpAnyH_take (i := 6) (oi := { dst := some 22, op := _, type := _, pos := _, after := _, guard := _ }) (v := ?v398) rfl (by kernel_rfl) (by kernel_rfl) (by kernel_rfl) (fun _ _ _ h => h) (Or.inl ⟨by rfl, ?hy398⟩) (by assumption) ?rest398
      case hy398 => (intro w hSw; obtain ⟨p0,p1,p2,p3⟩ := hSw; go_simp; try with_reducible rfl)
      try simp only [Act.put, List.setIfInBounds_toArray, List.set_cons_zero, List.set_cons_succ]
      refine wpAnyH_take (i := 7) (oi := { dst := some 23, op := _, type := _, pos := _, after := _, guard := _ }) (v := (.pointer (some ⟨g2, ok, none⟩))) rfl (by kernel_rfl) (by kernel_rfl) (by kernel_rfl) (fun _ _ _ h => h) (Or.inl ⟨by rfl, ?hy399⟩) (by assumption) ?rest399
      case hy399 => (intro w hSw; obtain ⟨p0,p1,p2,p3⟩ := hSw; first | (go_simp; done) | (go_simp; simp [*]; done) | (simp [*]; go_simp; done))
      try simp only [Act.put, List.setIfInBounds_toArray, List.set_cons_zero, List.set_cons_succ]
      refine wpAnyH_take (i := 8) (oi := { dst := some 24, op := _, type := _, pos := _, after := _, guard := _ }) (v := (.pointer (some ⟨g2, ok, none⟩))) rfl (by kernel_rfl) (by kernel_rfl) (by kernel_rfl) (fun _ _ _ h => h) (Or.inl ⟨by rfl, ?hy400⟩) (by assumption) ?rest400
      case hy400 => (intro w hSw; obtain ⟨p0,p1,p2,p3⟩ := hSw; first | (go_simp; done) | (go_simp; simp [*]; done) | (simp [*]; go_simp; done))
      try simp only [Act.put, List.setIfInBounds_toArray, List.set_cons_zero, List.set_cons_succ]
      refine wpAnyH_take (i := 9) (oi := { dst := some 25, op := _, type := _, pos := _, after := _, guard := _ }) (v := ?v401) rfl (by kernel_rfl) (by kernel_rfl) (by kernel_rfl) (fun _ _ _ h => h) (Or.inl ⟨by rfl, ?hy401⟩) (by assumption) ?rest401
      case hy401 => (intro w hSw; obtain ⟨p0,p1,p2,p3⟩ := hSw; go_simp; try with_reducible rfl)
      try simp only [Act.put, List.setIfInBounds_toArray, List.set_cons_zero, List.set_cons_succ]
      refine wpAnyH_take (i := 10) (oi := { dst := some 26, op := _, type := _, pos := _, after := _, guard := _ }) (v := (.bool false)) rfl (by kernel_rfl) (by kernel_rfl) (by kernel_rfl) (fun _ _ _ h => h) (Or.inl ⟨by rfl, ?hy402⟩) (by assumption) ?rest402
      case hy402 => (intro w hSw; obtain ⟨p0,p1,p2,p3⟩ := hSw; first | (go_simp; done) | (go_simp; simp [*]; done) | (simp [*]; go_simp; done))
      try simp only [Act.put, List.setIfInBounds_toArray, List.set_cons_zero, List.set_cons_succ]
      refine wpAnyH_take (i := 11) (oi := { dst := some 27, op := _, type := _, pos := _, after := _, guard := _ }) (v := ?v403) rfl (by kernel_rfl) (by kernel_rfl) (by kernel_rfl) (fun _ _ _ h => h) (Or.inl ⟨by rfl, ?hy403⟩) (by assumption) ?rest403
      case hy403 => (intro w hSw; obtain ⟨p0,p1,p2,p3⟩ := hSw; go_simp; try with_reducible rfl)
      try simp only [Act.put, List.setIfInBounds_toArray, List.set_cons_zero, List.set_cons_succ]
      refine wpAnyH_take (i := 12) (oi := { dst := some 28, op := _, type := _, pos := _, after := _, guard := _ }) (v := ?v404) rfl (by kernel_rfl) (by kernel_rfl) (by kernel_rfl) (fun _ _ _ h => h) (Or.inl ⟨by rfl, ?hy404⟩) (by assumption) ?rest404
      case hy404 => (intro w hSw; obtain ⟨p0,p1,p2,p3⟩ := hSw; go_simp; try with_reducible rfl)
      try simp only [Act.put, List.setIfInBounds_toArray, List.set_cons_zero, List.set_cons_succ]
      refine wpAnyH_take (i := 13) (oi := { dst := some 29, op := _, type := _, pos := _, after := _, guard := _ }) (v := ?v405) rfl (by kernel_rfl) (by kernel_rfl) (by kernel_rfl) (fun _ _ _ h => h) (Or.inl ⟨by rfl, ?hy405⟩) (by assumption) ?rest405
      case hy405 => (intro w hSw; obtain ⟨p0,p1,p2,p3⟩ := hSw; go_simp; try with_reducible rfl)
      try simp only [Act.put, List.setIfInBounds_toArray, List.set_cons_zero, List.set_cons_succ]
      refine wpAnyH_take (i := 14) (oi := { dst := some 30, op := _, type := _, pos := _, after := _, guard := _ }) (v := (.pointer (some ⟨g1, ok, none⟩))) rfl (by kernel_rfl) (by kernel_rfl) (by kernel_rfl) (fun _ _ _ h => h) (Or.inl ⟨by rfl, ?hy406⟩) (by assumption) ?rest406
      case hy406 => (intro w hSw; obtain ⟨p0,p1,p2,p3⟩ := hSw; first | (go_simp; done) | (go_simp; simp [*]; done) | (simp [*]; go_simp; done))
      try simp only [Act.put, List.setIfInBounds_toArray, List.set_cons_zero, List.set_cons_succ]
      refine wpAnyH_take (i := 15) (oi := { dst := some 31, op := _, type := _, pos := _, after := _, guard := _ }) (v := (.pointer (some ⟨g1, ok + 1, none⟩))) rfl (by kernel_rfl) (by kernel_rfl) (by kernel_rfl) (fun _ _ _ h => h) (Or.inl ⟨by rfl, ?hy407⟩) (by assumption) ?rest407
      case hy407 => (intro w hSw; obtain ⟨p0,p1,p2,p3⟩ := hSw; first | (go_simp; done) | (go_simp; simp [*]; done) | (simp [*]; go_simp; done))
      try simp only [Act.put, List.setIfInBounds_toArray, List.set_cons_zero, List.set_cons_succ]
      refine wpAnyH_take (i := 16) (oi := { dst := some 32, op := _, type := _, pos := _, after := _, guard := _ }) (v := ?v408) rfl (by kernel_rfl) (by kernel_rfl) (by kernel_rfl) (fun _ _ _ h => h) (Or.inl ⟨by rfl, ?hy408⟩) (by assumption) ?rest408
      case hy408 => (intro w hSw; obtain ⟨p0,p1,p2,p3⟩ := hSw; go_simp; try with_reducible rfl)
      try simp only [Act.put, List.setIfInBounds_toArray, List.set_cons_zero, List.set_cons_succ]
      refine wpAnyH_take (i := 17) (oi := { dst := some 33, op := _, type := _, pos := _, after := _, guard := _ }) (v := ?v409) rfl (by kernel_rfl) (by kernel_rfl) (by kernel_rfl) (fun _ _ _ h => h) (Or.inl ⟨by rfl, ?hy409⟩) (by assumption) ?rest409
      case hy409 => (intro w hSw; obtain ⟨p0,p1,p2,p3⟩ := hSw; go_simp; try with_reducible rfl)
      try simp only [Act.put, List.setIfInBounds_toArray, List.set_cons_zero, List.set_cons_succ]
      refine wpAnyH_take (i := 18) (oi := { dst := some 34, op := _, type := _, pos := _, after := _, guard := _ }) (v := ?v410) rfl (by kernel_rfl) (by kernel_rfl) (by kernel_rfl) (fun _ _ _ h => h) (Or.inl ⟨by rfl, ?hy410⟩) (by assumption) ?rest410
      case hy410 => (intro w hSw; obtain ⟨p0,p1,p2,p3⟩ := hSw; go_simp; try with_reducible rfl)
      try simp only [Act.put, List.setIfInBounds_toArray, List.set_cons_zero, List.set_cons_succ]
      refine wpAnyH_take (i := 19) (oi := { dst := some 35, op := _, type := _, pos := _, after := _, guard := _ }) (v := (.pointer (some ⟨g2, ok, none⟩))) rfl (by kernel_rfl) (by kernel_rfl) (by kernel_rfl) (fun _ _ _ h => h) (Or.inl ⟨by rfl, ?hy411⟩) (by assumption) ?rest411
      case hy411 => (intro w hSw; obtain ⟨p0,p1,p2,p3⟩ := hSw; first | (go_simp; done) | (go_simp; simp [*]; done) | (simp [*]; go_simp; done))
      try simp only [Act.put, List.setIfInBounds_toArray, List.set_cons_zero, List.set_cons_succ]
      refine wpAnyH_take (i := 20) (oi := { dst := some 36, op := _, type := _, pos := _, after := _, guard := _ }) (v := (.pointer (some ⟨g2, ok + 1, none⟩))) rfl (by kernel_rfl) (by kernel_rfl) (by kernel_rfl) (fun _ _ _ h => h) (Or.inl ⟨by rfl, ?hy412⟩) (by assumption) ?rest412
      case hy412 => (intro w hSw; obtain ⟨p0,p1,p2,p3⟩ := hSw; first | (go_simp; done) | (go_simp; simp [*]; done) | (simp [*]; go_simp; done))
      try simp only [Act.put, List.setIfInBounds_toArray, List.set_cons_zero, List.set_cons_succ]
      refine wpAnyH_take (i := 21) (oi := { dst := some 37, op := _, type := _, pos := _, after := _, guard := _ }) (v := ?v413) rfl (by kernel_rfl) (by kernel_rfl) (by kernel_rfl) (fun _ _ _ h => h) (Or.inl ⟨by rfl, ?hy413⟩) (by assumption) ?rest413
      case hy413 => (intro w hSw; obtain ⟨p0,p1,p2,p3⟩ := hSw; go_simp; try with_reducible rfl)
      try simp only [Act.put, List.setIfInBounds_toArray, List.set_cons_zero, List.set_cons_succ]
      refine wpAnyH_ready (rs := [22]) (by kernel_rfl) (by simp) ?_
      refine AllReadyH.cons (o := { dst := some 38, op := _, type := _, pos := _, after := _, guard := _ }) rfl (fun K hK => ?_) AllReadyH.nil
      go_simp
      refine (alike_any _ _ _).mono ?_
      rintro _ _ ⟨rfl, hw⟩
      obtain rfl := hw.symm
      rw [ak]
      refine hK.out _ _ HS.out (fun hHeld => ?_)
      try simp only [Act.put, List.setIfInBounds_toArray, List.set_cons_zero, List.set_cons_succ]
      clear hK
      refine wpAnyH_take (i := 23) (oi := { dst := some 39, op := _, type := _, pos := _, after := _, guard := _ }) (v := (.bool false)) rfl (by kernel_rfl) (by kernel_rfl) (by kernel_rfl) (fun _ _ _ h => h) (Or.inl ⟨by rfl, ?hy414⟩) (by assumption) ?rest414
      case hy414 => (intro w hSw; first | (go_simp; done) | (go_simp; simp [*]; done) | (simp [*]; go_simp; done))
      try simp only [Act.put, List.setIfInBounds_toArray, List.set_cons_zero, List.set_cons_succ]
      refine wpAnyH_take (i := 24) (oi := { dst := some 40, op := _, type := _, pos := _, after := _, guard := _ }) (v := (.bool false)) rfl (by kernel_rfl) (by kernel_rfl) (by kernel_rfl) (fun _ _ _ h => h) (Or.inl ⟨by rfl, ?hy415⟩) (by assumption) ?rest415
      case hy415 => (intro w hSw; first | (go_simp; done) | (go_simp; simp [*]; done) | (simp [*]; go_simp; done))
      try simp only [Act.put, List.setIfInBounds_toArray, List.set_cons_zero, List.set_cons_succ]
      refine wpAnyH_done (by kernel_rfl) ?_ _
      clear hHeld HS
      go_wp2
      go_roundg (n - (k + 1))
      case measure => have := HLT.out; omega
      case rel => exact ⟨k + 1, by first | rfl | simp, HLT.out, by have := HLT.out; omega, BW.out.drew⟩
    · obtain rfl : k = n := by omega
      go_wp2
      go_ret
      exact ⟨rfl, BW.out⟩
end Go.Proofs.Ytapehjlpiobeaaa
