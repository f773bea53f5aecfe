/-
  Contracts over this program: what each statement asks first; ranks and a plain list behind a script.
-/
import Derived.Test.YtapehjlpiobeaaaRkOpen
namespace Go.Proofs.Ytapehjlpiobeaaa
open Go.RowKit Go.Shelf
set_option linter.unusedVariables false
set_option linter.unusedSimpArgs false
theorem ris_eq : ∀ {l m : List Ent}, Ris l → Ris m → l.Perm m → l = m := by
  intro l
  induction l with
  | nil => intro m _ _ h; exact (List.nil_perm.1 h).symm
  | cons a l ih =>
    intro m hl hm h
    cases m with
    | nil => exact absurd h.length_eq (by simp)
    | cons b m =>
      have na : Num a := hl.2 a (by simp)
      have nb : Num b := hm.2 b (by simp)
      have hl1 := List.pairwise_cons.1 hl.1
      have hm1 := List.pairwise_cons.1 hm.1
      have hab : a = b := by
        have ha : a ∈ b :: m := h.subset (by simp)
        have hb : b ∈ a :: l := h.symm.subset (by simp)
        rcases List.mem_cons.1 ha with e | e
        · exact e
        · rcases List.mem_cons.1 hb with e' | e'
          · exact e'.symm
          · have := ahd_asym nb na (hm1.1 a e)
            rw [hl1.1 b e'] at this; cases this
      subst hab
      rw [ih ⟨hl1.2, fun e he => hl.2 e (by simp [he])⟩ ⟨hm1.2, fun e he => hm.2 e (by simp [he])⟩ ((List.perm_cons a).1 h)]
theorem FO.bel {O O' : Nat → Prop} {w w' : World} {B : Nat} (h : FO O w O' w') (hO : ∀ k, O k → B ≤ k) (hB : B ≤ w.heap.size) : Below B w w' ∧ ∀ k, O' k → B ≤ k := by
  have hn : ∀ k, k < B → ¬ O k := fun k hk hh => by have := hO k hh; omega
  refine ⟨⟨h.1.1, h.1.2.1, h.1.2.2, h.2.1, fun k hk => (h.2.2 k (by omega) (hn k hk)).1⟩, fun k hk => ?_⟩
  rcases Nat.lt_or_ge k B with hlt | hge
  · exact absurd hk (h.2.2 k (by omega) (hn k hlt)).2
  · exact hge
def kA : ByteArray := { data := #[97] }
def kB : ByteArray := { data := #[98] }
def fOne : Nat := 4607182418800017408
def fTwo : Nat := 4611686018427387904
theorem nan_one : isNan fOne = false := by decide +kernel
theorem nan_two : isNan fTwo = false := by decide +kernel
theorem ab_ne : kA ≠ kB := by decide
theorem ris_ba : Ris [(kB, fOne), (kA, fTwo)] := by
  refine ⟨?_, fun e he => ?_⟩
  · rw [List.pairwise_cons]
    refine ⟨fun e he => ?_, List.pairwise_singleton _ _⟩
    simp at he; subst he
    unfold ahd
    rw [show flt fOne fTwo = true by decide +kernel]; rfl
  · simp at he
    rcases he with rfl | rfl
    · exact nan_one
    · exact nan_two
theorem one_eq {L : List Ent} {k : ByteArray} {x : Nat} (hn : (Dc.keys L).Nodup) (h : Sets [] k x L) : L = [(k, x)] := by
  have hp : L.Perm [(k, x)] := perm_mem hn (by simp [Dc.keys]) (fun e => by rw [h e]; simp)
  exact List.perm_singleton.1 hp
theorem two_eq {L : List Ent} (hR : Ris L) (hn : (Dc.keys L).Nodup) (h : Sets [(kA, fTwo)] kB fOne L) : L = [(kB, fOne), (kA, fTwo)] := by
  refine ris_eq hR ris_ba (perm_mem hn ?_ (fun e => ?_))
  · simp [Dc.keys]; exact fun e => ab_ne e.symm
  · rw [h e]
    simp only [List.mem_cons, List.not_mem_nil, or_false]
    constructor
    · rintro (h | ⟨h, _⟩)
      · exact .inl h
      · exact .inr h
    · rintro (h | h)
      · exact .inl h
      · exact .inr ⟨h, by rw [h]; exact ab_ne⟩
set_option maxRecDepth 100000 in
set_option maxHeartbeats 2000000 in
theorem kwakes_any (w : World) : Calls Try.prog 12 #[] w fun e w' => e = .returned (.bool true) ∧ Below w.heap.size w w' := by
  have mN := knew_any w 3 (by decide)
  go_enter Try.func12, Try.ntmps12
  go_wp2_with fail
  refine mN.mono ?_
  rintro _ w1 ⟨⟨R, O, rfl, hK, hO⟩, hb1⟩
  clear mN
  have mS := kset_new hK kA fTwo (by decide) nan_two rfl (by simp)
  have HO := keep hO
  have HB1 := keep hb1
  clear hO hb1 hK
  go_wp2_with fail
  refine mS.mono ?_
  rintro _ w2 ⟨rfl, O2, L2, s2, k2, f2⟩
  obtain rfl := one_eq k2.math.2.2.2 s2
  obtain ⟨b2, o2⟩ := f2.bel HO.out HB1.out.size
  have HB2 := keep (HB1.out.trans b2)
  have mS' := kset_new k2 kB fOne (by decide) nan_one (by unfold sco Dc.look; rw [if_neg ab_ne]; rfl) (by simp)
  have HO2 := keep o2
  clear mS s2 k2 f2 b2 o2 HO HB1
  go_wp2_with fail
  refine mS'.mono ?_
  rintro _ w3 ⟨rfl, O3, L3, s3, k3, f3⟩
  obtain rfl := two_eq k3.math.1 k3.math.2.2.2 s3
  obtain ⟨b3, o3⟩ := f3.bel HO2.out HB2.out.size
  have HB3 := keep (HB2.out.trans b3)
  have mR := krank_some k3 kA fTwo (by unfold sco Dc.look; rw [if_neg (fun e => ab_ne e.symm)]; unfold Dc.look; rw [if_pos rfl])
  rw [rnk_at ris_ba (l1 := [(kB, fOne)]) (l2 := []) rfl] at mR
  have HO3 := keep o3
  clear mS' s3 k3 f3 b3 o3 HO2 HB2
  go_wp2_with fail
  refine mR.mono ?_
  rintro _ w4 ⟨rfl, O4, k4, f4⟩
  obtain ⟨b4, o4⟩ := f4.bel HO3.out HB3.out.size
  have HB4 := keep (HB3.out.trans b4)
  have mL := klen_any k4
  have mC := kcost_any k4
  rw [show rcst [(kB, fOne), (kA, fTwo)] = 82 from rfl] at mC
  clear mR k4 f4 b4 o4 HO3 HB3
  go_wp2_with fail
  refine mL.mono ?_
  rintro _ _ ⟨rfl, hw⟩
  obtain rfl := hw.symm
  clear mL
  go_wp2_with fail
  refine mC.mono ?_
  rintro _ _ ⟨rfl, hw⟩
  obtain rfl := hw.symm
  clear mC
  go_wp2
  go_ret
  exact ⟨rfl, HB4.out⟩
set_option maxRecDepth 100000 in
set_option maxHeartbeats 4000000 in
theorem built_any (w : World) (seed : Nat) (hseed : seed < Dw.M) (so : Option Addr) (cap : Nat) (S : List Stp) (hS : Steps w so S) (hl : S.length ≤ maxLen) :
    Calls Try.prog 13 #[.int .u64 seed, .slice so S.length cap] w fun e w' => (∃ R lv, e = .returned (.tuple #[.pointer (some ⟨R, 0, none⟩), lv, .bool true]) ∧ ∃ O L M, Bt w' O R seed L lv M ∧ ∀ k, OB O lv k → w.heap.size ≤ k) ∧ Below w.heap.size w w' := by
  have mN := knew_any w seed hseed
  obtain ⟨n, hn⟩ : ∃ n, S.length = n := ⟨_, rfl⟩
  rw [hn]
  have HS := keep hS
  have HN := keep hn
  have HL := keep hl
  clear hS hn hl
  go_enter Try.func13, Try.ntmps13
  go_wp2_with fail
  refine mN.mono ?_
  rintro _ w1 ⟨⟨R, O1, rfl, hK1, hO1⟩, hb1⟩
  clear mN
  have H0 : Kept (∃ O L M, Bt w1 O R seed L (.slice none 0 0) M ∧ (∀ k, OB O (.slice none 0 0) k → w.heap.size ≤ k) ∧ Below w.heap.size w w1) :=
    ⟨O1, [], [], ⟨hK1, World.ownsRow_nil _ _ _ _, fun k hk => (by cases hk), fun e => Iff.rfl, (by simp [Dc.keys])⟩, fun k hk => hk.elim (hO1 k) (fun h => by cases h), hb1⟩
  clear hK1 hO1 hb1
  go_wp2
  go_loopg [8, 10, 11, 12, 17] n (fun kx s8 s10 s11 s12 s17 wr => ∃ (k : Nat) (o : Option Addr) (l c : Nat), s8 = .slice o l c ∧ s17 = .int .i64 k ∧ k ≤ n ∧ n - k ≤ kx ∧ Kept (∃ O L M, Bt wr O R seed L (.slice o l c) M ∧ (∀ k, OB O (.slice o l c) k → w.heap.size ≤ k) ∧ Below w.heap.size w wr))
  case atStart => exact ⟨0, none, 0, 0, rfl, rfl, Nat.zero_le _, by omega, H0.out⟩
  case round =>
    obtain ⟨k, o, l, c, rfl, rfl, hk1, hg1, KI⟩ := hrel
    by_cases hlt : k < n
    · have k0 : (0 : Int) ≤ (k : Int) := by omega
      have k1 : (k : Int) < (n : Int) := by omega
      have kw : IntKind.i64.wrap ((k : Int) + 1) = ((k + 1 : Nat) : Int) := by have := HL.out; have := HN.out; unfold maxLen at *; rw [IntKind.wrap_i64]; omega
      obtain ⟨O, L, M, hB, hOB, hbw⟩ := KI.out
      have hkS : k < S.length := by rw [HN.out]; exact hlt
      obtain ⟨a, rfl, hab, hsz, hst0⟩ := HS.out k hkS
      have hst := hst0.bel hbw (by rw [add_block]; exact hab)
      obtain ⟨st, ho⟩ : ∃ o, S[k]'hkS = o := ⟨_, rfl⟩
      rw [ho] at hst hsz
      obtain ⟨who, act, sa, sb, key, x, y, ox, oy⟩ := st
      obtain ⟨t0, t1, t2, t3, t4, t5, t6, t7, t8⟩ := hst
      dsimp only at t0 t1 t2 t3 t4 t5 t6 t7 t8 hsz
      obtain ⟨W5, hW5⟩ : ∃ W5, wr.alloc (.cells #[.int .i64 who, .int .i64 act, .int .i64 sa, .int .i64 sb, .string key, .int .u64 (x : Int), .int .u64 (y : Int), .bool ox, .bool oy] 31) = W5 := ⟨_, rfl⟩
      have hb5 : Below wr.heap.size wr W5 := by rw [← hW5]; exact (Below.refl _ wr).alloc (Nat.le_refl _) _
      have mD := done_any W5 O R seed L M _ who act sa sb key x y ox oy (hB.below hb5) hsz.1
      unfold stV at mD
      have hh5 : W5.heap[wr.heap.size]? = some (.cells #[.int .i64 who, .int .i64 act, .int .i64 sa, .int .i64 sb, .string key, .int .u64 (x : Int), .int .u64 (y : Int), .bool ox, .bool oy] 31 (0, 0)) := by rw [← hW5]; exact heap_alloc_new _ _
      have y0 : W5.cell? ⟨wr.heap.size, 0, none⟩ = some (.int .i64 who) := by simp [World.cell?, hh5]
      have y1 : W5.cell? ⟨wr.heap.size, 1, none⟩ = some (.int .i64 act) := by simp [World.cell?, hh5]
      have y2 : W5.cell? ⟨wr.heap.size, 2, none⟩ = some (.int .i64 sa) := by simp [World.cell?, hh5]
      have y3 : W5.cell? ⟨wr.heap.size, 3, none⟩ = some (.int .i64 sb) := by simp [World.cell?, hh5]
      have y4 : W5.cell? ⟨wr.heap.size, 4, none⟩ = some (.string key) := by simp [World.cell?, hh5]
      have y5 : W5.cell? ⟨wr.heap.size, 5, none⟩ = some (.int .u64 (x : Int)) := by simp [World.cell?, hh5]
      have y6 : W5.cell? ⟨wr.heap.size, 6, none⟩ = some (.int .u64 (y : Int)) := by simp [World.cell?, hh5]
      have y7 : W5.cell? ⟨wr.heap.size, 7, none⟩ = some (.bool ox) := by simp [World.cell?, hh5]
      have y8 : W5.cell? ⟨wr.heap.size, 8, none⟩ = some (.bool oy) := by simp [World.cell?, hh5]
      have HX : Kept (∀ e w', Dn W5 O R seed (.slice o l c) e w' → ∃ o' l' c', e = .returned (.tuple #[.slice o' l' c', .bool true]) ∧ Kept (∃ O L M, Bt w' O R seed L (.slice o' l' c') M ∧ (∀ k, OB O (.slice o' l' c') k → w.heap.size ≤ k) ∧ Below w.heap.size w w')) := by
        rintro e w' ⟨lv', rfl, O', L', M', hB', hF⟩
        obtain ⟨o', c', hlv⟩ := hB'.2.1.form
        subst hlv
        have hb05 := Below.up hbw hb5
        obtain ⟨b', o''⟩ := hF.bel hOB hb05.size
        exact ⟨o', _, c', rfl, O', L', M', hB', o'', hb05.trans b'⟩
      have HLT := keep hlt
      clear hB hOB hbw hst0 hab hsz ho hb5 hh5 KI
      go_wp2_with fail
      try rw [hW5]
      refine mD.mono ?_
      rintro e w' hdn
      obtain ⟨o', l', c', rfl, KI'⟩ := HX.out e w' hdn
      clear hdn mD HX t0 t1 t2 t3 t4 t5 t6 t7 t8 y0 y1 y2 y3 y4 y5 y6 y7 y8
      go_wp2
      go_roundg (n - (k + 1))
      case measure => have := HLT.out; omega
      case rel => exact ⟨k + 1, o', l', c', rfl, by first | rfl | simp, HLT.out, by have := HLT.out; omega, KI'.out⟩
    · obtain rfl : k = n := by omega
      go_wp2
      refine bodyPost_ret (results_tmp3 rfl _ _ _) rfl ?_
      obtain ⟨O, L, M, hB, hOB, hbw⟩ := KI.out
      exact ⟨⟨R, _, rfl, O, L, M, hB, hOB⟩, hbw⟩
end Go.Proofs.Ytapehjlpiobeaaa
