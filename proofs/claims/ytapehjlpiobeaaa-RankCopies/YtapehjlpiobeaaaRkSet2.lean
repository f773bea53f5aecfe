/-
  Contracts over this program: Set of a member that is there; Delete; Rank.
-/
import Derived.Test.YtapehjlpiobeaaaRkSet
namespace Go.Proofs.Ytapehjlpiobeaaa
open Go.RowKit Go.Shelf
set_option linter.unusedVariables false
set_option linter.unusedSimpArgs false
theorem feq_not {a b : Nat} (ha : isNan a = false) (hb : isNan b = false) (h : feq a b = false) : FloatKind.f64.format.order a b = some .lt ∨ FloatKind.f64.format.order a b = some .gt := by
  obtain ⟨o, ho⟩ := order_of_num ha hb
  unfold feq at h
  rw [ho] at h
  cases o with
  | lt => exact .inl ho
  | eq => simp at h
  | gt => exact .inr ho
theorem alter_sets {L l1 l2 L' : List Ent} {k : ByteArray} {was x : Nat} (hL : L = l1 ++ (k, was) :: l2) (hn : (Dc.keys L).Nodup) (h : Sets (l1 ++ l2) k x L') : Sets L k x L' := by
  obtain ⟨d1, _⟩ := out_dels hL hn
  intro e
  rw [h e]
  constructor
  · rintro (h | ⟨h, hne⟩)
    · exact .inl h
    · exact .inr ⟨((d1 e).1 h).1, hne⟩
  · rintro (h | ⟨h, hne⟩)
    · exact .inl h
    · exact .inr ⟨(d1 e).2 ⟨h, hne⟩, hne⟩
set_option maxRecDepth 100000 in
set_option maxHeartbeats 2000000 in
theorem kset_alter {w : World} {O : Nat → Prop} {R seed : Nat} {L : List Ent} (hK : RK w O R seed L) (key : ByteArray) (x was : Nat) (hk : key.size ≤ 1048576) (hx : isNan x = false) (hs : sco L key = some was) (hq : feq was x = false) :
    Calls Try.prog 27 #[.pointer (some ⟨R, 0, none⟩), .string key, .float .f64 x] w fun e w' => e = .returned (.tuple #[.bool false, .int .i64 0]) ∧ ∃ O' L', Sets L key x L' ∧ RK w' O' R seed L' ∧ FO O w O' w' := by
  have hmath := hK.math
  obtain ⟨h, r, b, rv, T, s, hH, hR, rfl, hO⟩ := hK
  have hkm : key.size ≤ maxLen := by unfold maxLen; omega
  have h1 : decide ((1048576 : Int) < (key.size : Int)) = false := decide_eq_false (by omega)
  have mI := isnan_any x w
  rw [hx] at mI
  have mS := kscore0_any hH hR.1 hR.2.2.1 hR.2.2.2.2 hR.2.1 key hkm
  rw [hs] at mS
  unfold got at mS
  have hmem := sco_mem hmath.2.2.2 hs
  have hwas : isNan was = false := hmath.1.2 _ hmem
  have ho := feq_not hwas hx hq
  obtain ⟨l1, l2, hsplit⟩ := List.append_of_mem hmem
  obtain ⟨C1, hC1⟩ : ∃ C1 : Int, ((rcst (flat T) : Nat) : Int) = C1 := ⟨_, rfl⟩
  rw [hC1] at mS
  have hm1 := hR.2.2.2.2.step hR.1.2.1
  obtain ⟨od, op⟩ := out_dels hsplit hmath.2.2.2
  have TAIL : ∀ (w1 : World) (r1 : Roles), Dd h 1048576 w1 r1 b seed (Dc.step h s) → (∀ k ∈ R :: bl rv T, r1 k = (0, 0)) → FO (rq r (R :: bl rv T)) w (rq r1 (R :: bl rv T)) w1 → Lay w1 R (.int .u64 seed) (.pointer (some ⟨b, 0, none⟩)) (.int .i64 C1) rv T →
      Calls Try.prog 52 #[.pointer (some ⟨R, 0, none⟩), agE (key, was)] w1 fun en w2 => en = .returned (.tuple #[]) ∧ Kept (
      Calls Try.prog 54 #[.pointer (some ⟨R, 0, none⟩), agE (key, x)] w2 fun en w3 => en = .returned (.tuple #[]) ∧ w3.cell? ⟨R, 1, none⟩ = some (.pointer (some ⟨b, 0, none⟩)) ∧ Kept (Calls Try.prog 24 #[.pointer (some ⟨b, 0, none⟩), .string key, .float .f64 x] w3 fun en w4 => en = .returned (.bool false) ∧ ∃ O' L', Sets (flat T) key x L' ∧ RK w4 O' R seed L' ∧ FO O w O' w4)) := by
    intro w1 r1 d1 m1 f1 la1
    refine (takeOut_any w1 R _ _ _ rv T (key, was) l1 l2 la1 hR.2.2.2.1 hmath.1 hsplit (by have := hmath.2.2.1; omega)).mono ?_
    rintro _ w2 ⟨rfl, rv2, T2, la2, e2, g2, f2⟩
    refine ⟨rfl, ?_⟩
    have hris2 : Ris (flat T2) := by rw [e2]; rw [hsplit] at hmath; exact ris_cut hmath.1
    have hlen2 : (flat T2).length ≤ 1500000 := by rw [e2]; have := hmath.2.2.1; rw [hsplit] at this; simp at this ⊢; omega
    have hno : ∀ e ∈ flat T2, e.1 ≠ key := fun e he => by rw [e2] at he; exact ((od e).1 he).2
    refine (putIn_any w2 R _ _ _ rv2 T2 (key, x) la2 g2 hris2 hx hlen2).mono ?_
    rintro _ w3 ⟨rfl, L', hPl, rv3, T3, la3, e3, g3, f3⟩
    obtain ⟨s1, s2, s3⟩ := pl_sets hPl hris2 hx hno
    rw [e2] at s1 s3
    have s1' := alter_sets hsplit hmath.2.2.2 s1
    have f23 : Fm (R :: bl rv T) w1 (R :: bl rv3 T3) w3 := f2.trans f3
    obtain ⟨a1, a2, a3⟩ := rk_rows d1 f23 m1
    refine ⟨rfl, (four la3.1).2.1, ?_⟩
    refine (set_any hH w3 r1 b _ key x a3 (by omega) hkm).mono ?_
    rintro _ w4 ⟨rfl, r4, q1, q2⟩
    refine ⟨by rw [hm1.look d1.2.1, show Dc.look key (flat T) = some was from hs]; rfl, ?_⟩
    obtain ⟨O', z1, z2⟩ := kset_end hH hO f1 d1 m1 hm1 f23 la3 g3 e3 s2 s1' (by rw [← hC1, rcst_perm s3, rcst_perm op, rcst_cons, rcst_cons]) hk (fun hn => by rw [hs] at hn; cases hn) q1 q2
    exact ⟨O', L', s1', z1, z2⟩
  have TL := keep TAIL
  clear hR hO hkm hx hs hk hC1 TAIL hm1 hmath hmem hwas hsplit od op hq
  rcases ho with ho | ho
  all_goals
    go_enter Try.func27, Try.ntmps27
    go_wp2_with fail
    refine mI.mono ?_
    rintro _ _ ⟨rfl, hw0⟩
    obtain rfl := hw0.symm
    go_wp2_with fail
    refine mS.mono ?_
    rintro _ w1 ⟨rfl, r1, q1, q2, q3, q4⟩
    have tl := TL.out w1 r1 q1 q3 q4 q2
    unfold agE at tl
    dsimp only at tl
    clear mS mI q1 q2 q3 q4 TL
    go_wp2_with fail
    refine tl.mono ?_
    rintro _ w2 ⟨rfl, mP⟩
    clear tl
    go_wp2_with fail
    refine mP.out.mono ?_
    rintro _ w3 ⟨rfl, cb, mD⟩
    clear mP
    go_wp2_with fail
    refine mD.out.mono ?_
    rintro _ w4 ⟨rfl, hz⟩
    have Z := keep hz
    clear hz mD
    go_wp2
    refine bodyPost_ret (results_tmp2 rfl _ _ _) rfl ?_
    exact ⟨rfl, Z.out⟩
set_option maxHeartbeats 1000000 in
theorem kdel_none {w : World} {O : Nat → Prop} {R seed : Nat} {L : List Ent} (h : RK w O R seed L) (key : ByteArray) (hk : key.size ≤ maxLen) (hs : sco L key = none) :
    Calls Try.prog 29 #[.pointer (some ⟨R, 0, none⟩), .string key] w fun e w' => e = .returned (.bool false) ∧ ∃ O', RK w' O' R seed L ∧ FO O w O' w' := by
  have mS := kscore_any h key hk
  rw [hs] at mS
  unfold got at mS
  clear hk hs h
  go_enter Try.func29, Try.ntmps29
  go_wp2_with fail
  refine mS.mono ?_
  rintro _ w1 ⟨rfl, O', q1, q2⟩
  have Q1 := keep q1
  have Q2 := keep q2
  clear q1 q2 mS
  go_wp2
  go_ret
  exact ⟨rfl, O', Q1.out, Q2.out⟩
set_option maxRecDepth 100000 in
set_option maxHeartbeats 2000000 in
theorem kdel_some {w : World} {O : Nat → Prop} {R seed : Nat} {L : List Ent} (hK : RK w O R seed L) (key : ByteArray) (was : Nat) (hs : sco L key = some was) :
    Calls Try.prog 29 #[.pointer (some ⟨R, 0, none⟩), .string key] w fun e w' => e = .returned (.bool true) ∧ ∃ O' L', Dels L key L' ∧ RK w' O' R seed L' ∧ FO O w O' w' := by
  have hmath := hK.math
  obtain ⟨h, r, b, rv, T, s, hH, hR, rfl, hO⟩ := hK
  have hmem := sco_mem hmath.2.2.2 hs
  have hk : key.size ≤ 1048576 := hmath.2.1 _ hmem
  have hkm : key.size ≤ maxLen := by unfold maxLen; omega
  have mS := kscore0_any hH hR.1 hR.2.2.1 hR.2.2.2.2 hR.2.1 key hkm
  rw [hs] at mS
  unfold got at mS
  obtain ⟨l1, l2, hsplit⟩ := List.append_of_mem hmem
  obtain ⟨od, op⟩ := out_dels hsplit hmath.2.2.2
  have hcost := hR.2.2.2.2.cost
  have hc2 := rcst_perm op
  rw [rcst_cons] at hc2
  obtain ⟨C1, hC1⟩ : ∃ C1 : Int, ((rcst (flat T) : Nat) : Int) = C1 := ⟨_, rfl⟩
  obtain ⟨C2, hC2⟩ : ∃ C2 : Int, ((40 + key.size : Nat) : Int) = C2 := ⟨_, rfl⟩
  obtain ⟨C3, hC3⟩ : ∃ C3 : Int, ((rcst (l1 ++ l2) : Nat) : Int) = C3 := ⟨_, rfl⟩
  have hw : IntKind.i64.wrap (C1 - C2) = C3 := by dsimp only at hc2; rw [IntKind.wrap_i64]; omega
  have MC := keep (fun W => costOf_any key W hk)
  rw [hC2] at MC
  rw [hC1] at mS
  have hm1 := hR.2.2.2.2.step hR.1.2.1
  have TAIL : ∀ (w1 : World) (r1 : Roles), Dd h 1048576 w1 r1 b seed (Dc.step h s) → (∀ k ∈ R :: bl rv T, r1 k = (0, 0)) → FO (rq r (R :: bl rv T)) w (rq r1 (R :: bl rv T)) w1 → Lay w1 R (.int .u64 seed) (.pointer (some ⟨b, 0, none⟩)) (.int .i64 C1) rv T →
      Calls Try.prog 52 #[.pointer (some ⟨R, 0, none⟩), agE (key, was)] w1 fun en w2 => en = .returned (.tuple #[]) ∧ w2.cell? ⟨R, 3, none⟩ = some (.int .i64 C1) ∧ w2.frozen? ⟨R, 3, none⟩ = false ∧ Kept (∀ W3, W3 = (w2.setCell ⟨R, 3, none⟩ (.int .i64 C3)).drew → (w2.setCell ⟨R, 3, none⟩ (.int .i64 C3)).cell? ⟨R, 1, none⟩ = some (.pointer (some ⟨b, 0, none⟩)) ∧
        Calls Try.prog 55 #[.pointer (some ⟨b, 0, none⟩), .string key] W3 fun en w4 => en = .returned (.bool true) ∧ ∃ O' L', Dels (flat T) key L' ∧ RK w4 O' R seed L' ∧ FO O w O' w4) := by
    intro w1 r1 d1 m1 f1 la1
    refine (takeOut_any w1 R _ _ _ rv T (key, was) l1 l2 la1 hR.2.2.2.1 hmath.1 hsplit (by have := hmath.2.2.1; omega)).mono ?_
    rintro _ w2 ⟨rfl, rv2, T2, la2, e2, g2, f2⟩
    obtain ⟨c0, c1, c2, c3, cf⟩ := four la2.1
    refine ⟨rfl, c3, cf 3, ?_⟩
    intro W3 hW3
    have hris2 : Ris (flat T2) := by rw [e2]; rw [hsplit] at hmath; exact ris_cut hmath.1
    obtain ⟨la3', f3⟩ := la2.cost (.int .i64 C3)
    have la3 : Lay W3 R (.int .u64 seed) (.pointer (some ⟨b, 0, none⟩)) (.int .i64 C3) rv2 T2 := by rw [hW3]; exact Lay.drew la3'
    have f23 : Fm (R :: bl rv T) w1 (R :: bl rv2 T2) W3 := by rw [hW3]; exact (f2.trans f3).trans (Fm.below (Below.refl _ _).drew)
    obtain ⟨a1, a2, a3⟩ := rk_rows d1 f23 m1
    refine ⟨(four la3'.1).2.1, ?_⟩
    refine (delete_any hH W3 r1 b _ key a3 (by omega) hkm).mono ?_
    rintro _ w4 ⟨rfl, r4, q1, q2⟩
    refine ⟨by rw [hm1.look d1.2.1, show Dc.look key (flat T) = some was from hs]; rfl, ?_⟩
    obtain ⟨t1, t2, t3⟩ := rk_dict q2 a2 la3.lt
    refine ⟨rq r4 (R :: bl rv2 T2), l1 ++ l2, od, ⟨h, r4, b, rv2, T2, _, hH, ⟨q1, t2, ?_, g2, ?_⟩, e2, fun k => Iff.rfl⟩, ?_⟩
    · have := la3.kept t3
      rw [← hC3, ← e2] at this
      exact this
    · rw [e2]; rw [e2] at hris2; exact mi_del hm1 d1.2.1 hris2 od
    · have := (f1.trans a1).trans t1
      exact ⟨this.1, this.2.1, fun k hk hn => this.2.2 k hk (fun hh => hn ((hO k).2 hh))⟩
  have TL := keep TAIL
  clear hR hO hkm hs hk hC1 hC2 hC3 TAIL hm1 hmath hmem hsplit od op hcost hc2
  go_enter Try.func29, Try.ntmps29
  go_wp2_with fail
  refine mS.mono ?_
  rintro _ w1 ⟨rfl, r1, q1, q2, q3, q4⟩
  have tl := TL.out w1 r1 q1 q3 q4 q2
  unfold agE at tl
  dsimp only at tl
  clear mS q1 q2 q3 q4 TL
  go_wp2_with fail
  refine tl.mono ?_
  rintro _ w2 ⟨rfl, c3, cf3, HD⟩
  clear tl
  go_wp2
  go_region_with (first | (go_at_call 53; refine (MC.out _).mono ?_; rintro _ _ ⟨rfl, rfl⟩))
  all_goals
    obtain ⟨cb, mD⟩ := HD.out _ rfl
    go_wp2_with fail
    refine mD.mono ?_
    rintro _ w4 ⟨rfl, hz⟩
    have Z := keep hz
    clear hz mD HD
    go_wp2
    go_ret
    exact ⟨rfl, Z.out⟩
end Go.Proofs.Ytapehjlpiobeaaa
