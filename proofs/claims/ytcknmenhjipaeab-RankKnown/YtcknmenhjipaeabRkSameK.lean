/-
  Contracts over this program: what each statement asks first; the statements' own same.
-/
import Derived.Test.YtcknmenhjipaeabRkAsk2
import Derived.Test.YtcknmenhjipaeabRkNone0
namespace Go.Proofs.Ytcknmenhjipaeab
open Go.RowKit Go.Shelf
set_option linter.unusedVariables false
set_option linter.unusedSimpArgs false
theorem ris_eq : ∀ {l m : List Ent}, Ris l → Ris m → l.Perm m → l = m := by
  intro l
  induction l with
  | nil => intro m _ _ h; exact (List.nil_perm.1 h).symm
  | cons a l ih =>
    intro m hl hm h
    cases m with
    | nil => exact absurd h.length_eq (by simp)
    | cons b m =>
      have na : Num a := hl.2 a (by simp)
      have nb : Num b := hm.2 b (by simp)
      have hl1 := List.pairwise_cons.1 hl.1
      have hm1 := List.pairwise_cons.1 hm.1
      have hab : a = b := by
        have ha : a ∈ b :: m := h.subset (by simp)
        have hb : b ∈ a :: l := h.symm.subset (by simp)
        rcases List.mem_cons.1 ha with e | e
        · exact e
        · rcases List.mem_cons.1 hb with e' | e'
          · exact e'.symm
          · have := ahd_asym nb na (hm1.1 a e)
            rw [hl1.1 b e'] at this; cases this
      subst hab
      rw [ih ⟨hl1.2, fun e he => hl.2 e (by simp [he])⟩ ⟨hm1.2, fun e he => hm.2 e (by simp [he])⟩ ((List.perm_cons a).1 h)]
theorem FO.bel {O O' : Nat → Prop} {w w' : World} {B : Nat} (h : FO O w O' w') (hO : ∀ k, O k → B ≤ k) (hB : B ≤ w.heap.size) : Below B w w' ∧ ∀ k, O' k → B ≤ k := by
  have hn : ∀ k, k < B → ¬ O k := fun k hk hh => by have := hO k hh; omega
  refine ⟨⟨h.1.1, h.1.2.1, h.1.2.2, h.2.1, fun k hk => (h.2.2 k (by omega) (hn k hk)).1⟩, fun k hk => ?_⟩
  rcases Nat.lt_or_ge k B with hlt | hge
  · exact absurd hk (h.2.2 k (by omega) (hn k hlt)).2
  · exact hge
def kA : ByteArray := { data := #[97] }
def kB : ByteArray := { data := #[98] }
def fOne : Nat := 4607182418800017408
def fTwo : Nat := 4611686018427387904
theorem nan_one : isNan fOne = false := by decide +kernel
theorem nan_two : isNan fTwo = false := by decide +kernel
theorem ab_ne : kA ≠ kB := by decide
theorem ris_ba : Ris [(kB, fOne), (kA, fTwo)] := by
  refine ⟨?_, fun e he => ?_⟩
  · rw [List.pairwise_cons]
    refine ⟨fun e he => ?_, List.pairwise_singleton _ _⟩
    simp at he; subst he
    unfold ahd
    rw [show flt fOne fTwo = true by decide +kernel]; rfl
  · simp at he
    rcases he with rfl | rfl
    · exact nan_one
    · exact nan_two
theorem one_eq {L : List Ent} {k : ByteArray} {x : Nat} (hn : (Dc.keys L).Nodup) (h : Sets [] k x L) : L = [(k, x)] := by
  have hp : L.Perm [(k, x)] := perm_mem hn (by simp [Dc.keys]) (fun e => by rw [h e]; simp)
  exact List.perm_singleton.1 hp
theorem two_eq {L : List Ent} (hR : Ris L) (hn : (Dc.keys L).Nodup) (h : Sets [(kA, fTwo)] kB fOne L) : L = [(kB, fOne), (kA, fTwo)] := by
  refine ris_eq hR ris_ba (perm_mem hn ?_ (fun e => ?_))
  · simp [Dc.keys]; exact fun e => ab_ne e.symm
  · rw [h e]
    simp only [List.mem_cons, List.not_mem_nil, or_false]
    constructor
    · rintro (h | ⟨h, _⟩)
      · exact .inl h
      · exact .inr h
    · rintro (h | h)
      · exact .inl h
      · exact .inr ⟨h, by rw [h]; exact ab_ne⟩
set_option maxRecDepth 100000 in
set_option maxHeartbeats 2000000 in
theorem kwakes_any (w : World) : Calls Try.prog 4 #[] w fun e w' => e = .returned (.bool true) ∧ Below w.heap.size w w' := by
  have mN := knew_any w 3 (by decide)
  go_enter Try.func4, Try.ntmps4
  go_wp2_with fail
  refine mN.mono ?_
  rintro _ w1 ⟨⟨R, O, rfl, hK, hO⟩, hb1⟩
  clear mN
  have mS := kset_new hK kA fTwo (by decide) nan_two rfl (by simp)
  have HO := keep hO
  have HB1 := keep hb1
  clear hO hb1 hK
  go_wp2_with fail
  refine mS.mono ?_
  rintro _ w2 ⟨rfl, O2, L2, s2, k2, f2⟩
  obtain rfl := one_eq k2.math.2.2.2 s2
  obtain ⟨b2, o2⟩ := f2.bel HO.out HB1.out.size
  have HB2 := keep (HB1.out.trans b2)
  have mS' := kset_new k2 kB fOne (by decide) nan_one (by unfold sco Dc.look; rw [if_neg ab_ne]; rfl) (by simp)
  have HO2 := keep o2
  clear mS s2 k2 f2 b2 o2 HO HB1
  go_wp2_with fail
  refine mS'.mono ?_
  rintro _ w3 ⟨rfl, O3, L3, s3, k3, f3⟩
  obtain rfl := two_eq k3.math.1 k3.math.2.2.2 s3
  obtain ⟨b3, o3⟩ := f3.bel HO2.out HB2.out.size
  have HB3 := keep (HB2.out.trans b3)
  have mR := krank_some k3 kA fTwo (by unfold sco Dc.look; rw [if_neg (fun e => ab_ne e.symm)]; unfold Dc.look; rw [if_pos rfl])
  rw [rnk_at ris_ba (l1 := [(kB, fOne)]) (l2 := []) rfl] at mR
  have HO3 := keep o3
  clear mS' s3 k3 f3 b3 o3 HO2 HB2
  go_wp2_with fail
  refine mR.mono ?_
  rintro _ w4 ⟨rfl, O4, k4, f4⟩
  obtain ⟨b4, o4⟩ := f4.bel HO3.out HB3.out.size
  have HB4 := keep (HB3.out.trans b4)
  have mL := klen_any k4
  have mC := kcost_any k4
  rw [show rcst [(kB, fOne), (kA, fTwo)] = 82 from rfl] at mC
  clear mR k4 f4 b4 o4 HO3 HB3
  go_wp2_with fail
  refine mL.mono ?_
  rintro _ _ ⟨rfl, hw⟩
  obtain rfl := hw.symm
  clear mL
  go_wp2_with fail
  refine mC.mono ?_
  rintro _ _ ⟨rfl, hw⟩
  obtain rfl := hw.symm
  clear mC
  go_wp2
  go_ret
  exact ⟨rfl, HB4.out⟩
theorem Mr.at {B : Nat} {w : World} {g n c : Nat} {M : List Ent} {j : Nat} {e : Ent} (h : Mr B w (.slice (some ⟨g, 0, none⟩) n c) M) (hj : M[j]? = some e) : w.cell? ⟨g, j * 2, none⟩ = some (.string e.1) ∧ w.cell? ⟨g, j * 2 + 1, none⟩ = some (.float .f64 e.2) := by
  obtain ⟨h1, h2⟩ := enR_at hj
  have c1 := World.ownsRow.cells h (g := g) rfl _ _ h1
  have c2 := World.ownsRow.cells h (g := g) rfl _ _ h2
  rw [add_at, Nat.zero_add] at c1 c2
  exact ⟨c1, c2⟩
theorem Mr.some {B : Nat} {w : World} {o : Option Addr} {n c : Nat} {M : List Ent} (h : Mr B w (.slice o n c) M) (hn : 0 < M.length) : ∃ g, o = some ⟨g, 0, none⟩ := by
  rcases h.2 with ⟨_, h'⟩ | ⟨g, c', cur, h', _⟩
  · omega
  · injection h' with h1; exact ⟨g, h1⟩
theorem Mr.zero {B : Nat} {w : World} {v : Value} {M : List Ent} (h : Mr B w v M) : Mr 0 w v M := by
  refine ⟨h.1, ?_⟩
  rcases h.2 with h | ⟨g, c, cur, e, _, r⟩
  · exact .inl h
  · exact .inr ⟨g, c, cur, e, Nat.zero_le _, r⟩
set_option maxRecDepth 100000 in
set_option maxHeartbeats 2000000 in
theorem rsame_any (w : World) (B1 B2 n c1 c2 : Nat) (o1 o2 : Option Addr) (N : List Ent) (h1 : Mr B1 w (.slice o1 n c1) N) (h2 : Mr B2 w (.slice o2 n c2) N) (hn : N.length = n) (hl : n ≤ 2000000) :
    Calls Try.prog 9 #[.slice o1 n c1, .slice o2 n c2] w fun e w' => e = .returned (.bool true) ∧ Below w.heap.size w w' := by
  have H1 := keep h1
  have H2 := keep h2
  have HN := keep hn
  have HL := keep hl
  clear h1 h2 hn hl
  go_enter Try.func9, Try.ntmps9
  go_wp2
  go_loopg [5, 13] n (fun kx s5 s13 wr => ∃ k : Nat, s13 = .int .i64 k ∧ k ≤ n ∧ n - k ≤ kx ∧ Kept (Below w.heap.size w wr))
  case atStart => exact ⟨0, rfl, Nat.zero_le _, by omega, Below.refl _ _⟩
  case round =>
    obtain ⟨k, rfl, hk1, hg1, BW⟩ := hrel
    by_cases hlt : k < n
    · have k0 : (0 : Int) ≤ (k : Int) := by omega
      have k1 : (k : Int) < (n : Int) := by omega
      have kw : IntKind.i64.wrap ((k : Int) + 1) = ((k + 1 : Nat) : Int) := by have := HL.out; rw [IntKind.wrap_i64]; omega
      obtain ⟨e, he⟩ : ∃ e, N[k]? = some e := ⟨_, List.getElem?_eq_getElem (by rw [HN.out]; exact hlt)⟩
      obtain ⟨g1, hg⟩ := H1.out.some (by rw [HN.out]; omega)
      subst hg
      obtain ⟨g2, hg⟩ := H2.out.some (by rw [HN.out]; omega)
      subst hg
      obtain ⟨a1, a2⟩ := H1.out.at he
      obtain ⟨b1, b2⟩ := H2.out.at he
      have kp : ∀ {p : Addr} {v : Value}, w.cell? p = some v → wr.drew.cell? p = some v := fun {p v} h => (BW.out.cell (p := p) (World.block_lt_of_cell? _ _ h)).trans h
      obtain ⟨e1, e2⟩ := e
      dsimp only at a1 a2 b1 b2
      obtain ⟨ok, hok⟩ : ∃ ok, k * 2 = ok := ⟨_, rfl⟩
      have HS : Kept (wr.drew.cell? ⟨g1, ok, none⟩ = some (.string e1) ∧ wr.drew.cell? ⟨g1, ok + 1, none⟩ = some (.float .f64 e2) ∧ wr.drew.cell? ⟨g2, ok, none⟩ = some (.string e1) ∧ wr.drew.cell? ⟨g2, ok + 1, none⟩ = some (.float .f64 e2)) := by rw [← hok]; exact ⟨kp a1, kp a2, kp b1, kp b2⟩
      have hqq : (e1.toList == e1.toList) = true := beq_self_eq_true _
      have hqn : (e1.toList != e1.toList) = false := by simp
      have ak := alk_self e2
      have HLT := keep hlt
      clear he a1 a2 b1 b2 kp
      go_wp2_with fail
      refine wp_region_held_drew (S := fun W => W.cell? ⟨g1, ok, none⟩ = some (.string e1) ∧ W.cell? ⟨g1, ok + 1, none⟩ = some (.float .f64 e2) ∧ W.cell? ⟨g2, ok, none⟩ = some (.string e1) ∧ W.cell? ⟨g2, ok + 1, none⟩ = some (.float .f64 e2)) (by kernel_rfl) HS.out (fun hHeld => ?_)
      refine wpAnyH_take (i := 0) (oi := { dst := some 16, op := _, type := _, pos := _, after := _, guard := _ }) (v := ?v1) rfl (by kernel_rfl) (by kernel_rfl) (by kernel_rfl) (fun _ _ _ h => h) (Or.inl ⟨by rfl, ?hy1⟩) (by assumption) ?rest1
      case hy1 => (intro w hSw; obtain ⟨p0,p1,p2,p3⟩ := hSw; go_simp; try with_reducible rfl)
      try simp only [Act.put, List.setIfInBounds_toArray, List.set_cons_zero, List.set_cons_succ]
      refine wpAnyH_take (i := 1) (oi := { dst := some 17, op := _, type := _, pos := _, after := _, guard := _ }) (v := ?v2) rfl (by kernel_rfl) (by kernel_rfl) (by kernel_rfl) (fun _ _ _ h => h) (Or.inl ⟨by rfl, ?hy2⟩) (by assumption) ?rest2
      case hy2 => (intro w hSw; obtain ⟨p0,p1,p2,p3⟩ := hSw; go_simp; try with_reducible rfl)
      try simp only [Act.put, List.setIfInBounds_toArray, List.set_cons_zero, List.set_cons_succ]
      refine wpAnyH_take (i := 2) (oi := { dst := some 18, op := _, type := _, pos := _, after := _, guard := _ }) (v := (.pointer (some ⟨g1, ok, none⟩))) rfl (by kernel_rfl) (by kernel_rfl) (by kernel_rfl) (fun _ _ _ h => h) (Or.inl ⟨by rfl, ?hy3⟩) (by assumption) ?rest3
      case hy3 => (intro w hSw; obtain ⟨p0,p1,p2,p3⟩ := hSw; first | (go_simp; done) | (go_simp; simp [*]; done) | (simp [*]; go_simp; done))
      try simp only [Act.put, List.setIfInBounds_toArray, List.set_cons_zero, List.set_cons_succ]
      refine wpAnyH_take (i := 3) (oi := { dst := some 19, op := _, type := _, pos := _, after := _, guard := _ }) (v := (.pointer (some ⟨g1, ok, none⟩))) rfl (by kernel_rfl) (by kernel_rfl) (by kernel_rfl) (fun _ _ _ h => h) (Or.inl ⟨by rfl, ?hy4⟩) (by assumption) ?rest4
      case hy4 => (intro w hSw; obtain ⟨p0,p1,p2,p3⟩ := hSw; first | (go_simp; done) | (go_simp; simp [*]; done) | (simp [*]; go_simp; done))
      try simp only [Act.put, List.setIfInBounds_toArray, List.set_cons_zero, List.set_cons_succ]
      refine wpAnyH_take (i := 4) (oi := { dst := some 20, op := _, type := _, pos := _, after := _, guard := _ }) (v := ?v5) rfl (by kernel_rfl) (by kernel_rfl) (by kernel_rfl) (fun _ _ _ h => h) (Or.inl ⟨by rfl, ?hy5⟩) (by assumption) ?rest5
      case hy5 => (intro w hSw; obtain ⟨p0,p1,p2,p3⟩ := hSw; go_simp; try with_reducible rfl)
      try simp only [Act.put, List.setIfInBounds_toArray, List.set_cons_zero, List.set_cons_succ]
      refine wpAnyH_take (i := 5) (oi := { dst := some 21, op := _, type := _, pos := _, after := _, guard := _ }) (v := ?v6) rfl (by kernel_rfl) (by kernel_rfl) (by kernel_rfl) (fun _ _ _ h => h) (Or.inl ⟨by rfl, ?hy6⟩) (by assumption) ?rest6
      case hy6 => (intro w hSw; obtain ⟨p0,p1,p2,p3⟩ := hSw; go_simp; try with_reducible rfl)
      try simp only [Act.put, List.setIfInBounds_toArray, List.set_cons_zero, List.set_cons_succ]
      refine wpAnyH_take (i := 6) (oi := { dst := some 22, op := _, type := _, pos := _, after := _, guard := _ }) (v := ?v7) rfl (by kernel_rfl) (by kernel_rfl) (by kernel_rfl) (fun _ _ _ h => h) (Or.inl ⟨by rfl, ?hy7⟩) (by assumption) ?rest7
      case hy7 => (intro w hSw; obtain ⟨p0,p1,p2,p3⟩ := hSw; go_simp; try with_reducible rfl)
      try simp only [Act.put, List.setIfInBounds_toArray, List.set_cons_zero, List.set_cons_succ]
      refine wpAnyH_take (i := 7) (oi := { dst := some 23, op := _, type := _, pos := _, after := _, guard := _ }) (v := (.pointer (some ⟨g2, ok, none⟩))) rfl (by kernel_rfl) (by kernel_rfl) (by kernel_rfl) (fun _ _ _ h => h) (Or.inl ⟨by rfl, ?hy8⟩) (by assumption) ?rest8
      case hy8 => (intro w hSw; obtain ⟨p0,p1,p2,p3⟩ := hSw; first | (go_simp; done) | (go_simp; simp [*]; done) | (simp [*]; go_simp; done))
      try simp only [Act.put, List.setIfInBounds_toArray, List.set_cons_zero, List.set_cons_succ]
      refine wpAnyH_take (i := 8) (oi := { dst := some 24, op := _, type := _, pos := _, after := _, guard := _ }) (v := (.pointer (some ⟨g2, ok, none⟩))) rfl (by kernel_rfl) (by kernel_rfl) (by kernel_rfl) (fun _ _ _ h => h) (Or.inl ⟨by rfl, ?hy9⟩) (by assumption) ?rest9
      case hy9 => (intro w hSw; obtain ⟨p0,p1,p2,p3⟩ := hSw; first | (go_simp; done) | (go_simp; simp [*]; done) | (simp [*]; go_simp; done))
      try simp only [Act.put, List.setIfInBounds_toArray, List.set_cons_zero, List.set_cons_succ]
      refine wpAnyH_take (i := 9) (oi := { dst := some 25, op := _, type := _, pos := _, after := _, guard := _ }) (v := ?v10) rfl (by kernel_rfl) (by kernel_rfl) (by kernel_rfl) (fun _ _ _ h => h) (Or.inl ⟨by rfl, ?hy10⟩) (by assumption) ?rest10
      case hy10 => (intro w hSw; obtain ⟨p0,p1,p2,p3⟩ := hSw; go_simp; try with_reducible rfl)
      try simp only [Act.put, List.setIfInBounds_toArray, List.set_cons_zero, List.set_cons_succ]
      refine wpAnyH_take (i := 10) (oi := { dst := some 26, op := _, type := _, pos := _, after := _, guard := _ }) (v := (.bool false)) rfl (by kernel_rfl) (by kernel_rfl) (by kernel_rfl) (fun _ _ _ h => h) (Or.inl ⟨by rfl, ?hy11⟩) (by assumption) ?rest11
      case hy11 => (intro w hSw; obtain ⟨p0,p1,p2,p3⟩ := hSw; first | (go_simp; done) | (go_simp; simp [*]; done) | (simp [*]; go_simp; done))
      try simp only [Act.put, List.setIfInBounds_toArray, List.set_cons_zero, List.set_cons_succ]
      refine wpAnyH_take (i := 11) (oi := { dst := some 27, op := _, type := _, pos := _, after := _, guard := _ }) (v := ?v12) rfl (by kernel_rfl) (by kernel_rfl) (by kernel_rfl) (fun _ _ _ h => h) (Or.inl ⟨by rfl, ?hy12⟩) (by assumption) ?rest12
      case hy12 => (intro w hSw; obtain ⟨p0,p1,p2,p3⟩ := hSw; go_simp; try with_reducible rfl)
      try simp only [Act.put, List.setIfInBounds_toArray, List.set_cons_zero, List.set_cons_succ]
      refine wpAnyH_take (i := 12) (oi := { dst := some 28, op := _, type := _, pos := _, after := _, guard := _ }) (v := ?v13) rfl (by kernel_rfl) (by kernel_rfl) (by kernel_rfl) (fun _ _ _ h => h) (Or.inl ⟨by rfl, ?hy13⟩) (by assumption) ?rest13
      case hy13 => (intro w hSw; obtain ⟨p0,p1,p2,p3⟩ := hSw; go_simp; try with_reducible rfl)
      try simp only [Act.put, List.setIfInBounds_toArray, List.set_cons_zero, List.set_cons_succ]
      refine wpAnyH_take (i := 13) (oi := { dst := some 29, op := _, type := _, pos := _, after := _, guard := _ }) (v := ?v14) rfl (by kernel_rfl) (by kernel_rfl) (by kernel_rfl) (fun _ _ _ h => h) (Or.inl ⟨by rfl, ?hy14⟩) (by assumption) ?rest14
      case hy14 => (intro w hSw; obtain ⟨p0,p1,p2,p3⟩ := hSw; go_simp; try with_reducible rfl)
      try simp only [Act.put, List.setIfInBounds_toArray, List.set_cons_zero, List.set_cons_succ]
      refine wpAnyH_take (i := 14) (oi := { dst := some 30, op := _, type := _, pos := _, after := _, guard := _ }) (v := (.pointer (some ⟨g1, ok, none⟩))) rfl (by kernel_rfl) (by kernel_rfl) (by kernel_rfl) (fun _ _ _ h => h) (Or.inl ⟨by rfl, ?hy15⟩) (by assumption) ?rest15
      case hy15 => (intro w hSw; obtain ⟨p0,p1,p2,p3⟩ := hSw; first | (go_simp; done) | (go_simp; simp [*]; done) | (simp [*]; go_simp; done))
      try simp only [Act.put, List.setIfInBounds_toArray, List.set_cons_zero, List.set_cons_succ]
      refine wpAnyH_take (i := 15) (oi := { dst := some 31, op := _, type := _, pos := _, after := _, guard := _ }) (v := (.pointer (some ⟨g1, ok + 1, none⟩))) rfl (by kernel_rfl) (by kernel_rfl) (by kernel_rfl) (fun _ _ _ h => h) (Or.inl ⟨by rfl, ?hy16⟩) (by assumption) ?rest16
      case hy16 => (intro w hSw; obtain ⟨p0,p1,p2,p3⟩ := hSw; first | (go_simp; done) | (go_simp; simp [*]; done) | (simp [*]; go_simp; done))
      try simp only [Act.put, List.setIfInBounds_toArray, List.set_cons_zero, List.set_cons_succ]
      refine wpAnyH_take (i := 16) (oi := { dst := some 32, op := _, type := _, pos := _, after := _, guard := _ }) (v := ?v17) rfl (by kernel_rfl) (by kernel_rfl) (by kernel_rfl) (fun _ _ _ h => h) (Or.inl ⟨by rfl, ?hy17⟩) (by assumption) ?rest17
      case hy17 => (intro w hSw; obtain ⟨p0,p1,p2,p3⟩ := hSw; go_simp; try with_reducible rfl)
      try simp only [Act.put, List.setIfInBounds_toArray, List.set_cons_zero, List.set_cons_succ]
      refine wpAnyH_take (i := 17) (oi := { dst := some 33, op := _, type := _, pos := _, after := _, guard := _ }) (v := ?v18) rfl (by kernel_rfl) (by kernel_rfl) (by kernel_rfl) (fun _ _ _ h => h) (Or.inl ⟨by rfl, ?hy18⟩) (by assumption) ?rest18
      case hy18 => (intro w hSw; obtain ⟨p0,p1,p2,p3⟩ := hSw; go_simp; try with_reducible rfl)
      try simp only [Act.put, List.setIfInBounds_toArray, List.set_cons_zero, List.set_cons_succ]
      refine wpAnyH_take (i := 18) (oi := { dst := some 34, op := _, type := _, pos := _, after := _, guard := _ }) (v := ?v19) rfl (by kernel_rfl) (by kernel_rfl) (by kernel_rfl) (fun _ _ _ h => h) (Or.inl ⟨by rfl, ?hy19⟩) (by assumption) ?rest19
      case hy19 => (intro w hSw; obtain ⟨p0,p1,p2,p3⟩ := hSw; go_simp; try with_reducible rfl)
      try simp only [Act.put, List.setIfInBounds_toArray, List.set_cons_zero, List.set_cons_succ]
      refine wpAnyH_take (i := 19) (oi := { dst := some 35, op := _, type := _, pos := _, after := _, guard := _ }) (v := (.pointer (some ⟨g2, ok, none⟩))) rfl (by kernel_rfl) (by kernel_rfl) (by kernel_rfl) (fun _ _ _ h => h) (Or.inl ⟨by rfl, ?hy20⟩) (by assumption) ?rest20
      case hy20 => (intro w hSw; obtain ⟨p0,p1,p2,p3⟩ := hSw; first | (go_simp; done) | (go_simp; simp [*]; done) | (simp [*]; go_simp; done))
      try simp only [Act.put, List.setIfInBounds_toArray, List.set_cons_zero, List.set_cons_succ]
      refine wpAnyH_take (i := 20) (oi := { dst := some 36, op := _, type := _, pos := _, after := _, guard := _ }) (v := (.pointer (some ⟨g2, ok + 1, none⟩))) rfl (by kernel_rfl) (by kernel_rfl) (by kernel_rfl) (fun _ _ _ h => h) (Or.inl ⟨by rfl, ?hy21⟩) (by assumption) ?rest21
      case hy21 => (intro w hSw; obtain ⟨p0,p1,p2,p3⟩ := hSw; first | (go_simp; done) | (go_simp; simp [*]; done) | (simp [*]; go_simp; done))
      try simp only [Act.put, List.setIfInBounds_toArray, List.set_cons_zero, List.set_cons_succ]
      refine wpAnyH_take (i := 21) (oi := { dst := some 37, op := _, type := _, pos := _, after := _, guard := _ }) (v := ?v22) rfl (by kernel_rfl) (by kernel_rfl) (by kernel_rfl) (fun _ _ _ h => h) (Or.inl ⟨by rfl, ?hy22⟩) (by assumption) ?rest22
      case hy22 => (intro w hSw; obtain ⟨p0,p1,p2,p3⟩ := hSw; go_simp; try with_reducible rfl)
      try simp only [Act.put, List.setIfInBounds_toArray, List.set_cons_zero, List.set_cons_succ]
      refine wpAnyH_ready (rs := [22]) (by kernel_rfl) (by simp) ?_
      refine AllReadyH.cons (o := { dst := some 38, op := _, type := _, pos := _, after := _, guard := _ }) rfl (fun K hK => ?_) AllReadyH.nil
      go_simp
      refine (alike_any _ _ _).mono ?_
      rintro _ _ ⟨rfl, hw⟩
      obtain rfl := hw.symm
      rw [ak]
      refine hK.out _ _ HS.out (fun hHeld => ?_)
      try simp only [Act.put, List.setIfInBounds_toArray, List.set_cons_zero, List.set_cons_succ]
      clear hK
      refine wpAnyH_take (i := 23) (oi := { dst := some 39, op := _, type := _, pos := _, after := _, guard := _ }) (v := (.bool false)) rfl (by kernel_rfl) (by kernel_rfl) (by kernel_rfl) (fun _ _ _ h => h) (Or.inl ⟨by rfl, ?hy23⟩) (by assumption) ?rest23
      case hy23 => (intro w hSw; first | (go_simp; done) | (go_simp; simp [*]; done) | (simp [*]; go_simp; done))
      try simp only [Act.put, List.setIfInBounds_toArray, List.set_cons_zero, List.set_cons_succ]
      refine wpAnyH_take (i := 24) (oi := { dst := some 40, op := _, type := _, pos := _, after := _, guard := _ }) (v := (.bool false)) rfl (by kernel_rfl) (by kernel_rfl) (by kernel_rfl) (fun _ _ _ h => h) (Or.inl ⟨by rfl, ?hy24⟩) (by assumption) ?rest24
      case hy24 => (intro w hSw; first | (go_simp; done) | (go_simp; simp [*]; done) | (simp [*]; go_simp; done))
      try simp only [Act.put, List.setIfInBounds_toArray, List.set_cons_zero, List.set_cons_succ]
      refine wpAnyH_done (by kernel_rfl) ?_ _
      clear hHeld HS
      go_wp2
      go_roundg (n - (k + 1))
      case measure => have := HLT.out; omega
      case rel => exact ⟨k + 1, by first | rfl | simp, HLT.out, by have := HLT.out; omega, BW.out.drew⟩
    · obtain rfl : k = n := by omega
      go_wp2
      go_ret
      exact ⟨rfl, BW.out⟩
end Go.Proofs.Ytcknmenhjipaeab
