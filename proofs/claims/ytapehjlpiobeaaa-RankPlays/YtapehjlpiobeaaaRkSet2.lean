/-
  Contracts over this program: Set of a member that is there; Delete; Rank.
-/
import Derived.Test.YtapehjlpiobeaaaRkCalls
import Derived.BigRegion
/-
  Contracts over this program: Set and Delete of ranks.
-/
namespace Go.Proofs.Ytapehjlpiobeaaa
open Go.RowKit Go.Shelf
set_option linter.unusedVariables false
set_option linter.unusedSimpArgs false
theorem putIn_any (w : World) (R : Nat) (u0 u1 u3 rv : Value) (T : List Rw) (e : Ent) (hL : Lay w R u0 u1 u3 rv T) (hG : Gd T) (hRis : Ris (flat T)) (hnum : Num e) (hb : (flat T).length ≤ 1500000) :
    Calls Try.prog 54 #[.pointer (some ⟨R, 0, none⟩), agE e] w fun en w' => en = .returned (.tuple #[]) ∧ Putd R u0 u1 u3 rv T e w w' := by
  cases T with
  | nil => exact putIn_nil w R u0 u1 u3 rv e hL
  | cons x T => exact putIn_some w R u0 u1 u3 rv (x :: T) e hL hG hRis hnum hb (by simp)
theorem okd_set_le {h : ByteArray → Nat} {N : Nat} {s : Sf} (hO : Okd h N s) {key : ByteArray} (hk : key.size ≤ maxLen) (v : Nat) (hn : Dc.look key (Dc.all s) = none → (Dc.all s).length < N) : Okd h N (Dc.set h s key v).1 := by
  have hO1 := okd_set hO hk v
  obtain ⟨h1, h2, h3, h4, h5⟩ := hO
  obtain ⟨q1, q2, q3, q4⟩ := Dc.set_inv h1 key v
  have hS := (okd_step ⟨h1, h2, h3, h4, h5⟩).1
  have hS2 := (okd_step ⟨h1, h2, h3, h4, h5⟩).2
  refine ⟨hO1.1, hO1.2.1, ?_, ?_⟩
  · rw [q4]
    cases hl : Dc.look key (Dc.all s) with
    | none => have := hn hl; simp; omega
    | some x => simp; exact h3
  · obtain ⟨_, _, s3, s4, s5⟩ := hS
    unfold Dc.set
    split
    · unfold Dc.every
      simp only [List.length_map]
      omega
    · have := grow_len (n := (Dc.all (Dc.step h s)).length) (N := N) (s := Dc.step h s) (by omega) (by omega) (by omega)
      exact lay_len this
/-- a member has this score, the others have theirs -/
def Sets (L : List Ent) (k : ByteArray) (x : Nat) (L' : List Ent) : Prop := ∀ e, e ∈ L' ↔ e = (k, x) ∨ (e ∈ L ∧ e.1 ≠ k)
def Dels (L : List Ent) (k : ByteArray) (L' : List Ent) : Prop := ∀ e, e ∈ L' ↔ e ∈ L ∧ e.1 ≠ k
theorem keys_of {L : List Ent} (hR : Ris L) (hu : ∀ a ∈ L, ∀ b ∈ L, a.1 = b.1 → a = b) : (Dc.keys L).Nodup := by
  unfold Dc.keys List.Nodup
  rw [List.pairwise_map]
  refine List.Pairwise.imp_of_mem ?_ hR.1
  intro a b ha hb hab e
  have := hu a ha b hb e
  rw [this, ahd_irr (hR.2 b hb)] at hab
  cases hab
theorem keys_uniq {L : List Ent} (hn : (Dc.keys L).Nodup) : ∀ a ∈ L, ∀ b ∈ L, a.1 = b.1 → a = b := by
  intro a ha b hb e
  have h1 := (Dc.look_mem hn a.1 a.2).2 ha
  have h2 := (Dc.look_mem hn b.1 b.2).2 hb
  rw [e, h2] at h1
  exact Prod.ext e (Option.some.inj h1).symm
theorem sets_keys {L L' : List Ent} {k : ByteArray} {x : Nat} (hn : (Dc.keys L).Nodup) (hs : Sets L k x L') (hR : Ris L') : (Dc.keys L').Nodup := by
  refine keys_of hR (fun a ha b hb e => ?_)
  rcases (hs a).1 ha with rfl | ⟨h1, h2⟩ <;> rcases (hs b).1 hb with rfl | ⟨g1, g2⟩
  · rfl
  · exact absurd e.symm g2
  · exact absurd e h2
  · exact keys_uniq hn a h1 b g1 e
theorem mi_set {h : ByteArray → Nat} {s : Sf} {L L' : List Ent} {k : ByteArray} {x : Nat} (hm : Mi s L) (hI : Dc.Inv h s) (hR : Ris L') (hs : Sets L k x L') (hk : k.size ≤ 1048576) (hf : sco L k = none → L.length < 1048576) : Mi (Dc.set h s k x).1 L' := by
  obtain ⟨q1, q2, q3, q4⟩ := Dc.set_inv hI k x
  have hkL := hm.keys hI
  have hkL' := sets_keys hkL hs hR
  have hp : (Dc.all (Dc.set h s k x).1).Perm L' := by
    refine perm_mem (all_nodup q1) hkL' (fun e => ?_)
    rw [← Dc.look_mem (all_nodup q1) e.1 e.2, q3, hs e]
    by_cases he : e.1 = k
    · rw [if_pos he]
      constructor
      · intro hx; left; exact Prod.ext he (Option.some.inj hx).symm
      · rintro (rfl | ⟨_, hne⟩)
        · rfl
        · exact absurd he hne
    · rw [if_neg he, hm.look hI, Dc.look_mem hkL]
      constructor
      · intro hh; exact .inr ⟨hh, he⟩
      · rintro (rfl | ⟨hh, _⟩)
        · exact absurd rfl he
        · exact hh
  refine ⟨hp, hR, fun e he => ?_, ?_⟩
  · rcases (hs e).1 he with rfl | ⟨h1, _⟩
    · exact hk
    · exact hm.2.2.1 e h1
  · rw [← hp.length_eq, q4, hm.look hI]
    have h1 := hm.1.length_eq
    have h2 := hm.2.2.2
    cases hl : Dc.look k L with
    | none => have := hf hl; simp; omega
    | some y => simp; omega
theorem mi_del {h : ByteArray → Nat} {s : Sf} {L L' : List Ent} {k : ByteArray} (hm : Mi s L) (hI : Dc.Inv h s) (hR : Ris L') (hs : Dels L k L') : Mi (Dc.delete h s k).1 L' := by
  obtain ⟨q1, q2, q3, q4⟩ := Dc.delete_inv hI k
  have hkL := hm.keys hI
  have hkL' : (Dc.keys L').Nodup := keys_of hR (fun a ha b hb e => keys_uniq hkL a ((hs a).1 ha).1 b ((hs b).1 hb).1 e)
  have hp : (Dc.all (Dc.delete h s k).1).Perm L' := by
    refine perm_mem (all_nodup q1) hkL' (fun e => ?_)
    rw [← Dc.look_mem (all_nodup q1) e.1 e.2, q3, hs e]
    by_cases he : e.1 = k
    · rw [if_pos he]; simp [he]
    · rw [if_neg he, hm.look hI, Dc.look_mem hkL]; simp [he]
  refine ⟨hp, hR, fun e he => hm.2.2.1 e ((hs e).1 he).1, ?_⟩
  rw [← hp.length_eq, q4]
  have h1 := hm.1.length_eq
  have h2 := hm.2.2.2
  omega
/-- a new member's place, as members -/
theorem pl_sets {L L' : List Ent} {k : ByteArray} {x : Nat} (h : Pl L (k, x) L') (hR : Ris L) (hx : isNan x = false) (hn : ∀ e ∈ L, e.1 ≠ k) : Sets L k x L' ∧ Ris L' ∧ L'.Perm ((k, x) :: L) := by
  obtain ⟨l1, l2, rfl, rfl, h1, h2⟩ := h
  refine ⟨fun e => ?_, ris_put hR hx h1 h2 hn, List.perm_middle⟩
  simp only [List.mem_append, List.mem_cons]
  constructor
  · rintro (h | h | h)
    · exact .inr ⟨.inl h, hn e (by simp [h])⟩
    · exact .inl h
    · exact .inr ⟨.inr h, hn e (by simp [h])⟩
  · rintro (h | ⟨h | h, _⟩)
    · exact .inr (.inl h)
    · exact .inl h
    · exact .inr (.inr h)
theorem sco_mem {L : List Ent} (hn : (Dc.keys L).Nodup) {k : ByteArray} {x : Nat} (h : sco L k = some x) : (k, x) ∈ L := (Dc.look_mem hn k x).1 h
theorem sco_none {L : List Ent} {k : ByteArray} (h : sco L k = none) : ∀ e ∈ L, e.1 ≠ k := fun e he hk => (Dc.look_none k).1 h (List.mem_map.2 ⟨e, he, hk⟩)
/-- a member goes out -/
theorem out_dels {L l1 l2 : List Ent} {k : ByteArray} {x : Nat} (hL : L = l1 ++ (k, x) :: l2) (hn : (Dc.keys L).Nodup) : Dels L k (l1 ++ l2) ∧ L.Perm ((k, x) :: (l1 ++ l2)) := by
  subst hL
  refine ⟨fun e => ?_, List.perm_middle⟩
  have hu := keys_uniq hn
  have hnd : (Dc.keys (l1 ++ (k, x) :: l2)).Nodup := hn
  rw [((Dc.keys_perm (List.perm_middle (a := (k, x)) (l₁ := l1) (l₂ := l2))).nodup_iff)] at hnd
  have hk : k ∉ Dc.keys (l1 ++ l2) := (List.nodup_cons.1 hnd).1
  constructor
  · intro h
    refine ⟨?_, fun e' => hk (List.mem_map.2 ⟨e, h, e'⟩)⟩
    rcases List.mem_append.1 h with h | h <;> simp [h]
  · rintro ⟨h, hne⟩
    rcases List.mem_append.1 h with h | h
    · simp [h]
    · rcases List.mem_cons.1 h with rfl | h
      · exact absurd rfl hne
      · simp [h]
theorem costOf_any (a : ByteArray) (w : World) (ha : a.size ≤ 1048576) :
    Calls Try.prog 53 #[.string a] w fun e w' => e = .returned (.int .i64 ((40 + a.size : Nat) : Int)) ∧ w' = w := by
  have w1 : IntKind.i64.wrap (40 + (a.size : Int)) = 40 + (a.size : Int) := by rw [IntKind.wrap_i64]; omega
  clear ha
  go_enter Try.func53, Try.ntmps53
  go_wp2
  go_ret
  exact ⟨by simp [Int.natCast_add], rfl⟩
set_option maxHeartbeats 400000 in
theorem kset_long {w : World} {R : Nat} (key : ByteArray) (x : Nat) (hk : 1048576 < key.size) :
    Calls Try.prog 27 #[.pointer (some ⟨R, 0, none⟩), .string key, .float .f64 x] w fun e w' => e = .returned (.tuple #[.bool false, .int .i64 2]) ∧ w' = w := by
  have h1 : decide ((1048576 : Int) < (key.size : Int)) = true := decide_eq_true (by omega)
  clear hk
  go_enter Try.func27, Try.ntmps27
  go_wp2
  refine bodyPost_ret (results_tmp2 rfl _ _ _) rfl ?_
  exact ⟨rfl, rfl⟩
set_option maxHeartbeats 400000 in
theorem kset_nan {w : World} {R : Nat} (key : ByteArray) (x : Nat) (hk : key.size ≤ 1048576) (hx : isNan x = true) :
    Calls Try.prog 27 #[.pointer (some ⟨R, 0, none⟩), .string key, .float .f64 x] w fun e w' => e = .returned (.tuple #[.bool false, .int .i64 20]) ∧ w' = w := by
  have h1 : decide ((1048576 : Int) < (key.size : Int)) = false := decide_eq_false (by omega)
  have mI := isnan_any x w
  rw [hx] at mI
  clear hk hx
  go_enter Try.func27, Try.ntmps27
  go_wp2_with fail
  refine mI.mono ?_
  rintro _ _ ⟨rfl, hw⟩
  obtain rfl := hw.symm
  go_wp2
  refine bodyPost_ret (results_tmp2 rfl _ _ _) rfl ?_
  exact ⟨rfl, rfl⟩
set_option maxHeartbeats 1000000 in
theorem kset_same {w : World} {O : Nat → Prop} {R seed : Nat} {L : List Ent} (h : RK w O R seed L) (key : ByteArray) (x was : Nat) (hk : key.size ≤ 1048576) (hx : isNan x = false) (hs : sco L key = some was) (hq : feq was x = true) :
    Calls Try.prog 27 #[.pointer (some ⟨R, 0, none⟩), .string key, .float .f64 x] w fun e w' => e = .returned (.tuple #[.bool false, .int .i64 0]) ∧ ∃ O', RK w' O' R seed L ∧ FO O w O' w' := by
  have h1 : decide ((1048576 : Int) < (key.size : Int)) = false := decide_eq_false (by omega)
  have mI := isnan_any x w
  rw [hx] at mI
  have mS := kscore_any h key (by unfold maxLen; omega)
  rw [hs] at mS
  unfold got at mS
  have ho : FloatKind.f64.format.order was x = some .eq := by unfold feq at hq; exact of_decide_eq_true hq
  clear hk hx hs hq h
  go_enter Try.func27, Try.ntmps27
  go_wp2_with fail
  refine mI.mono ?_
  rintro _ _ ⟨rfl, hw⟩
  obtain rfl := hw.symm
  go_wp2_with fail
  refine mS.mono ?_
  rintro _ w1 ⟨rfl, O', q1, q2⟩
  have Q1 := keep q1
  have Q2 := keep q2
  clear q1 q2 mS mI
  go_wp2
  refine bodyPost_ret (results_tmp2 rfl _ _ _) rfl ?_
  exact ⟨rfl, O', Q1.out, Q2.out⟩
set_option maxHeartbeats 1000000 in
theorem kset_full {w : World} {O : Nat → Prop} {R seed : Nat} {L : List Ent} (h : RK w O R seed L) (key : ByteArray) (x : Nat) (hk : key.size ≤ 1048576) (hx : isNan x = false) (hs : sco L key = none) (hl : 1048576 ≤ L.length) :
    Calls Try.prog 27 #[.pointer (some ⟨R, 0, none⟩), .string key, .float .f64 x] w fun e w' => e = .returned (.tuple #[.bool false, .int .i64 4]) ∧ ∃ O', RK w' O' R seed L ∧ FO O w O' w' := by
  have h1 : decide ((1048576 : Int) < (key.size : Int)) = false := decide_eq_false (by omega)
  have mI := isnan_any x w
  rw [hx] at mI
  have mS := kscore_any h key (by unfold maxLen; omega)
  rw [hs] at mS
  unfold got at mS
  have h2 : decide ((1048576 : Int) ≤ (L.length : Int)) = true := decide_eq_true (by omega)
  clear hk hx hs hl h
  go_enter Try.func27, Try.ntmps27
  go_wp2_with fail
  refine mI.mono ?_
  rintro _ _ ⟨rfl, hw⟩
  obtain rfl := hw.symm
  go_wp2_with fail
  refine mS.mono ?_
  rintro _ w1 ⟨rfl, O', q1, q2⟩
  have mL := klen_any q1
  have Q1 := keep q1
  have Q2 := keep q2
  clear q1 q2 mS mI
  go_wp2_with fail
  refine mL.mono ?_
  rintro _ _ ⟨rfl, hw⟩
  obtain rfl := hw.symm
  clear mL
  go_wp2
  refine bodyPost_ret (results_tmp2 rfl _ _ _) rfl ?_
  exact ⟨rfl, O', Q1.out, Q2.out⟩
/-- behind all: the dict is told too -/
theorem kset_end {h : ByteArray → Nat} {seed : Nat} {w w1 w3 w4 : World} {r r1 r4 : Roles} {O : Nat → Prop} {R b : Nat} {rv rv3 : Value} {T T3 : List Rw} {s1 : Sf} {L L' : List Ent} {key : ByteArray} {x : Nat} {U : Int} (hH : HashIs seed h) (hO : ∀ k, O k ↔ rq r (R :: bl rv T) k) (f1 : FO (rq r (R :: bl rv T)) w (rq r1 (R :: bl rv T)) w1) (d1 : Dd h 1048576 w1 r1 b seed s1) (m1 : ∀ k ∈ R :: bl rv T, r1 k = (0, 0))
    (hm : Mi s1 L) (hF : Fm (R :: bl rv T) w1 (R :: bl rv3 T3) w3) (hL3 : Lay w3 R (.int .u64 seed) (.pointer (some ⟨b, 0, none⟩)) (.int .i64 U) rv3 T3) (hG3 : Gd T3) (hfl : flat T3 = L') (hR' : Ris L') (hS : Sets L key x L') (hU : U = ((rcst L' : Nat) : Int)) (hk : key.size ≤ 1048576) (hroom : sco L key = none → L.length < 1048576)
    (dS : Dd h (1048576 + 1) w4 r4 b seed (Dc.set h s1 key x).1) (fS : Fr w3 r1 w4 r4) : ∃ O', RK w4 O' R seed L' ∧ FO O w O' w4 := by
  obtain ⟨a1, a2, a3⟩ := rk_rows d1 hF m1
  obtain ⟨t1, t2, t3⟩ := rk_dict fS a2 hL3.lt
  have hkm : key.size ≤ maxLen := by unfold maxLen; omega
  have ok := okd_set_le d1.2 hkm x (fun hn => by
    have h1 := hm.1.length_eq
    have h2 := hm.look d1.2.1 key
    rw [hn] at h2
    have := hroom h2.symm
    omega)
  refine ⟨rq r4 (R :: bl rv3 T3), ⟨h, r4, b, rv3, T3, _, hH, ⟨⟨dS.1, ok⟩, t2, ?_, hG3, ?_⟩, hfl, fun k => Iff.rfl⟩, ?_⟩
  · have := hL3.kept t3
    rw [hU, ← hfl] at this
    exact this
  · rw [hfl]; exact mi_set hm d1.2.1 hR' hS hk hroom
  · have := (f1.trans a1).trans t1
    exact ⟨this.1, this.2.1, fun k hk hn => this.2.2 k hk (fun hh => hn ((hO k).2 hh))⟩
set_option maxRecDepth 100000 in
set_option maxHeartbeats 2000000 in
theorem kset_new {w : World} {O : Nat → Prop} {R seed : Nat} {L : List Ent} (hK : RK w O R seed L) (key : ByteArray) (x : Nat) (hk : key.size ≤ 1048576) (hx : isNan x = false) (hs : sco L key = none) (hl : L.length < 1048576) :
    Calls Try.prog 27 #[.pointer (some ⟨R, 0, none⟩), .string key, .float .f64 x] w fun e w' => e = .returned (.tuple #[.bool true, .int .i64 0]) ∧ ∃ O' L', Sets L key x L' ∧ RK w' O' R seed L' ∧ FO O w O' w' := by
  have sf : ∀ (x : Nat) (w : World) (a : Addr), (store a (.float .f64 x)).run Try.prog w = stored Try.prog w a (.float .f64 x) .plain := fun x w a => run_store _ w a _ _ rfl
  obtain ⟨h, r, b, rv, T, s, hH, hR, rfl, hO⟩ := hK
  have hkm : key.size ≤ maxLen := by unfold maxLen; omega
  have h1 : decide ((1048576 : Int) < (key.size : Int)) = false := decide_eq_false (by omega)
  have mI := isnan_any x w
  rw [hx] at mI
  have mS := kscore0_any hH hR.1 hR.2.2.1 hR.2.2.2.2 hR.2.1 key hkm
  rw [hs] at mS
  unfold got at mS
  have h2 : decide ((1048576 : Int) ≤ ((flat T).length : Int)) = false := decide_eq_false (by omega)
  have h2' : ¬ 1048576 ≤ (flat T).length := by omega
  have hcost := hR.2.2.2.2.cost
  obtain ⟨C1, hC1⟩ : ∃ C1 : Int, ((rcst (flat T) : Nat) : Int) = C1 := ⟨_, rfl⟩
  obtain ⟨C2, hC2⟩ : ∃ C2 : Int, ((40 + key.size : Nat) : Int) = C2 := ⟨_, rfl⟩
  obtain ⟨C3, hC3⟩ : ∃ C3 : Int, ((40 + key.size + rcst (flat T) : Nat) : Int) = C3 := ⟨_, rfl⟩
  have hw : IntKind.i64.wrap (C1 + C2) = C3 := by rw [IntKind.wrap_i64]; omega
  have MC := keep (fun W => costOf_any key W hk)
  rw [hC2] at MC
  rw [hC1] at mS
  have hm1 := hR.2.2.2.2.step hR.1.2.1
  have TAIL : ∀ (w1 w2 : World) (r1 : Roles), Dd h 1048576 w1 r1 b seed (Dc.step h s) → (∀ k ∈ R :: bl rv T, r1 k = (0, 0)) → FO (rq r (R :: bl rv T)) w (rq r1 (R :: bl rv T)) w1 → Lay w1 R (.int .u64 seed) (.pointer (some ⟨b, 0, none⟩)) (.int .i64 C1) rv T → w2 = w1.drew.setCell ⟨R, 3, none⟩ (.int .i64 C3) →
      Calls Try.prog 54 #[.pointer (some ⟨R, 0, none⟩), agE (key, x)] w2 fun en w3 => en = .returned (.tuple #[]) ∧ w3.cell? ⟨R, 1, none⟩ = some (.pointer (some ⟨b, 0, none⟩)) ∧ Kept (Calls Try.prog 24 #[.pointer (some ⟨b, 0, none⟩), .string key, .float .f64 x] w3 fun en w4 => en = .returned (.bool true) ∧ ∃ O' L', Sets (flat T) key x L' ∧ RK w4 O' R seed L' ∧ FO O w O' w4) := by
    intro w1 w2 r1 d1 m1 f1 l1 hw2
    obtain ⟨l2, f2⟩ := (Lay.drew l1).cost (.int .i64 C3)
    rw [← hw2] at l2 f2
    refine (putIn_any w2 R _ _ _ rv T (key, x) l2 hR.2.2.2.1 hR.2.2.2.2.2.1 hx (by have := hR.2.2.2.2.2.2.2; omega)).mono ?_
    rintro _ w3 ⟨rfl, L', hPl, rv3, T3, l3, e3, g3, f3⟩
    obtain ⟨s1, s2, s3⟩ := pl_sets hPl hR.2.2.2.2.2.1 hx (sco_none hs)
    have f23 : Fm (R :: bl rv T) w1 (R :: bl rv3 T3) w3 := ((Fm.below (Below.refl _ w1).drew).trans f2).trans f3
    obtain ⟨a1, a2, a3⟩ := rk_rows d1 f23 m1
    refine ⟨rfl, (four l3.1).2.1, ?_⟩
    refine (set_any hH w3 r1 b _ key x a3 (by omega) hkm).mono ?_
    rintro _ w4 ⟨rfl, r4, q1, q2⟩
    refine ⟨by rw [hm1.look d1.2.1, show Dc.look key (flat T) = none from hs]; rfl, ?_⟩
    obtain ⟨O', z1, z2⟩ := kset_end hH hO f1 d1 m1 hm1 f23 l3 g3 e3 s2 s1 (by rw [← hC3, rcst_perm s3, rcst_cons]) hk (fun _ => hl) q1 q2
    exact ⟨O', L', s1, z1, z2⟩
  have TL := keep TAIL
  have HM1 := keep hm1
  clear hR hO hkm hx hs hl hk hcost hC1 hC2 hC3 TAIL hm1
  go_enter Try.func27, Try.ntmps27
  go_wp2_with fail
  refine mI.mono ?_
  rintro _ _ ⟨rfl, hw0⟩
  obtain rfl := hw0.symm
  go_wp2_with fail
  refine mS.mono ?_
  rintro _ w1 ⟨rfl, r1, q1, q2, q3, q4⟩
  have mL := klen0_any q1 q2 HM1.out.1
  obtain ⟨c0, c1, c2, c3, cf⟩ := four q2.1
  have cf3 := cf 3
  have TL1 := keep (TL.out w1 _ r1 q1 q3 q4 q2 rfl)
  clear mS mI q1 q2 q3 q4 TL c0 c1 c2 cf
  go_wp2_with fail
  refine mL.mono ?_
  rintro _ _ ⟨rfl, hw0⟩
  obtain rfl := hw0.symm
  clear mL
  go_wp2
  go_region_with (first | (go_at_call 53; refine (MC.out _).mono ?_; rintro _ _ ⟨rfl, rfl⟩))
  all_goals
    have tl := TL1.out
    unfold agE at tl
    dsimp only at tl
    go_wp2_with fail
    refine tl.mono ?_
    rintro _ w3 ⟨rfl, cb, mD⟩
    clear tl TL1
    go_wp2_with fail
    refine mD.out.mono ?_
    rintro _ w4 ⟨rfl, hz⟩
    have Z := keep hz
    clear hz mD
    go_wp2
    refine bodyPost_ret (results_tmp2 rfl _ _ _) rfl ?_
    exact ⟨rfl, Z.out⟩
end Go.Proofs.Ytapehjlpiobeaaa

namespace Go.Proofs.Ytapehjlpiobeaaa
open Go.RowKit Go.Shelf
set_option linter.unusedVariables false
set_option linter.unusedSimpArgs false
theorem feq_not {a b : Nat} (ha : isNan a = false) (hb : isNan b = false) (h : feq a b = false) : FloatKind.f64.format.order a b = some .lt ∨ FloatKind.f64.format.order a b = some .gt := by
  obtain ⟨o, ho⟩ := order_of_num ha hb
  unfold feq at h
  rw [ho] at h
  cases o with
  | lt => exact .inl ho
  | eq => simp at h
  | gt => exact .inr ho
theorem alter_sets {L l1 l2 L' : List Ent} {k : ByteArray} {was x : Nat} (hL : L = l1 ++ (k, was) :: l2) (hn : (Dc.keys L).Nodup) (h : Sets (l1 ++ l2) k x L') : Sets L k x L' := by
  obtain ⟨d1, _⟩ := out_dels hL hn
  intro e
  rw [h e]
  constructor
  · rintro (h | ⟨h, hne⟩)
    · exact .inl h
    · exact .inr ⟨((d1 e).1 h).1, hne⟩
  · rintro (h | ⟨h, hne⟩)
    · exact .inl h
    · exact .inr ⟨(d1 e).2 ⟨h, hne⟩, hne⟩
set_option maxRecDepth 100000 in
set_option maxHeartbeats 2000000 in
theorem kset_alter {w : World} {O : Nat → Prop} {R seed : Nat} {L : List Ent} (hK : RK w O R seed L) (key : ByteArray) (x was : Nat) (hk : key.size ≤ 1048576) (hx : isNan x = false) (hs : sco L key = some was) (hq : feq was x = false) :
    Calls Try.prog 27 #[.pointer (some ⟨R, 0, none⟩), .string key, .float .f64 x] w fun e w' => e = .returned (.tuple #[.bool false, .int .i64 0]) ∧ ∃ O' L', Sets L key x L' ∧ RK w' O' R seed L' ∧ FO O w O' w' := by
  have hmath := hK.math
  obtain ⟨h, r, b, rv, T, s, hH, hR, rfl, hO⟩ := hK
  have hkm : key.size ≤ maxLen := by unfold maxLen; omega
  have h1 : decide ((1048576 : Int) < (key.size : Int)) = false := decide_eq_false (by omega)
  have mI := isnan_any x w
  rw [hx] at mI
  have mS := kscore0_any hH hR.1 hR.2.2.1 hR.2.2.2.2 hR.2.1 key hkm
  rw [hs] at mS
  unfold got at mS
  have hmem := sco_mem hmath.2.2.2 hs
  have hwas : isNan was = false := hmath.1.2 _ hmem
  have ho := feq_not hwas hx hq
  obtain ⟨l1, l2, hsplit⟩ := List.append_of_mem hmem
  obtain ⟨C1, hC1⟩ : ∃ C1 : Int, ((rcst (flat T) : Nat) : Int) = C1 := ⟨_, rfl⟩
  rw [hC1] at mS
  have hm1 := hR.2.2.2.2.step hR.1.2.1
  obtain ⟨od, op⟩ := out_dels hsplit hmath.2.2.2
  have TAIL : ∀ (w1 : World) (r1 : Roles), Dd h 1048576 w1 r1 b seed (Dc.step h s) → (∀ k ∈ R :: bl rv T, r1 k = (0, 0)) → FO (rq r (R :: bl rv T)) w (rq r1 (R :: bl rv T)) w1 → Lay w1 R (.int .u64 seed) (.pointer (some ⟨b, 0, none⟩)) (.int .i64 C1) rv T →
      Calls Try.prog 52 #[.pointer (some ⟨R, 0, none⟩), agE (key, was)] w1 fun en w2 => en = .returned (.tuple #[]) ∧ Kept (
      Calls Try.prog 54 #[.pointer (some ⟨R, 0, none⟩), agE (key, x)] w2 fun en w3 => en = .returned (.tuple #[]) ∧ w3.cell? ⟨R, 1, none⟩ = some (.pointer (some ⟨b, 0, none⟩)) ∧ Kept (Calls Try.prog 24 #[.pointer (some ⟨b, 0, none⟩), .string key, .float .f64 x] w3 fun en w4 => en = .returned (.bool false) ∧ ∃ O' L', Sets (flat T) key x L' ∧ RK w4 O' R seed L' ∧ FO O w O' w4)) := by
    intro w1 r1 d1 m1 f1 la1
    refine (takeOut_any w1 R _ _ _ rv T (key, was) l1 l2 la1 hR.2.2.2.1 hmath.1 hsplit (by have := hmath.2.2.1; omega)).mono ?_
    rintro _ w2 ⟨rfl, rv2, T2, la2, e2, g2, f2⟩
    refine ⟨rfl, ?_⟩
    have hris2 : Ris (flat T2) := by rw [e2]; rw [hsplit] at hmath; exact ris_cut hmath.1
    have hlen2 : (flat T2).length ≤ 1500000 := by rw [e2]; have := hmath.2.2.1; rw [hsplit] at this; simp at this ⊢; omega
    have hno : ∀ e ∈ flat T2, e.1 ≠ key := fun e he => by rw [e2] at he; exact ((od e).1 he).2
    refine (putIn_any w2 R _ _ _ rv2 T2 (key, x) la2 g2 hris2 hx hlen2).mono ?_
    rintro _ w3 ⟨rfl, L', hPl, rv3, T3, la3, e3, g3, f3⟩
    obtain ⟨s1, s2, s3⟩ := pl_sets hPl hris2 hx hno
    rw [e2] at s1 s3
    have s1' := alter_sets hsplit hmath.2.2.2 s1
    have f23 : Fm (R :: bl rv T) w1 (R :: bl rv3 T3) w3 := f2.trans f3
    obtain ⟨a1, a2, a3⟩ := rk_rows d1 f23 m1
    refine ⟨rfl, (four la3.1).2.1, ?_⟩
    refine (set_any hH w3 r1 b _ key x a3 (by omega) hkm).mono ?_
    rintro _ w4 ⟨rfl, r4, q1, q2⟩
    refine ⟨by rw [hm1.look d1.2.1, show Dc.look key (flat T) = some was from hs]; rfl, ?_⟩
    obtain ⟨O', z1, z2⟩ := kset_end hH hO f1 d1 m1 hm1 f23 la3 g3 e3 s2 s1' (by rw [← hC1, rcst_perm s3, rcst_perm op, rcst_cons, rcst_cons]) hk (fun hn => by rw [hs] at hn; cases hn) q1 q2
    exact ⟨O', L', s1', z1, z2⟩
  have TL := keep TAIL
  clear hR hO hkm hx hs hk hC1 TAIL hm1 hmath hmem hwas hsplit od op hq
  rcases ho with ho | ho
  all_goals
    go_enter Try.func27, Try.ntmps27
    go_wp2_with fail
    refine mI.mono ?_
    rintro _ _ ⟨rfl, hw0⟩
    obtain rfl := hw0.symm
    go_wp2_with fail
    refine mS.mono ?_
    rintro _ w1 ⟨rfl, r1, q1, q2, q3, q4⟩
    have tl := TL.out w1 r1 q1 q3 q4 q2
    unfold agE at tl
    dsimp only at tl
    clear mS mI q1 q2 q3 q4 TL
    go_wp2_with fail
    refine tl.mono ?_
    rintro _ w2 ⟨rfl, mP⟩
    clear tl
    go_wp2_with fail
    refine mP.out.mono ?_
    rintro _ w3 ⟨rfl, cb, mD⟩
    clear mP
    go_wp2_with fail
    refine mD.out.mono ?_
    rintro _ w4 ⟨rfl, hz⟩
    have Z := keep hz
    clear hz mD
    go_wp2
    refine bodyPost_ret (results_tmp2 rfl _ _ _) rfl ?_
    exact ⟨rfl, Z.out⟩
set_option maxHeartbeats 1000000 in
theorem kdel_none {w : World} {O : Nat → Prop} {R seed : Nat} {L : List Ent} (h : RK w O R seed L) (key : ByteArray) (hk : key.size ≤ maxLen) (hs : sco L key = none) :
    Calls Try.prog 29 #[.pointer (some ⟨R, 0, none⟩), .string key] w fun e w' => e = .returned (.bool false) ∧ ∃ O', RK w' O' R seed L ∧ FO O w O' w' := by
  have mS := kscore_any h key hk
  rw [hs] at mS
  unfold got at mS
  clear hk hs h
  go_enter Try.func29, Try.ntmps29
  go_wp2_with fail
  refine mS.mono ?_
  rintro _ w1 ⟨rfl, O', q1, q2⟩
  have Q1 := keep q1
  have Q2 := keep q2
  clear q1 q2 mS
  go_wp2
  go_ret
  exact ⟨rfl, O', Q1.out, Q2.out⟩
set_option maxRecDepth 100000 in
set_option maxHeartbeats 2000000 in
theorem kdel_some {w : World} {O : Nat → Prop} {R seed : Nat} {L : List Ent} (hK : RK w O R seed L) (key : ByteArray) (was : Nat) (hs : sco L key = some was) :
    Calls Try.prog 29 #[.pointer (some ⟨R, 0, none⟩), .string key] w fun e w' => e = .returned (.bool true) ∧ ∃ O' L', Dels L key L' ∧ RK w' O' R seed L' ∧ FO O w O' w' := by
  have hmath := hK.math
  obtain ⟨h, r, b, rv, T, s, hH, hR, rfl, hO⟩ := hK
  have hmem := sco_mem hmath.2.2.2 hs
  have hk : key.size ≤ 1048576 := hmath.2.1 _ hmem
  have hkm : key.size ≤ maxLen := by unfold maxLen; omega
  have mS := kscore0_any hH hR.1 hR.2.2.1 hR.2.2.2.2 hR.2.1 key hkm
  rw [hs] at mS
  unfold got at mS
  obtain ⟨l1, l2, hsplit⟩ := List.append_of_mem hmem
  obtain ⟨od, op⟩ := out_dels hsplit hmath.2.2.2
  have hcost := hR.2.2.2.2.cost
  have hc2 := rcst_perm op
  rw [rcst_cons] at hc2
  obtain ⟨C1, hC1⟩ : ∃ C1 : Int, ((rcst (flat T) : Nat) : Int) = C1 := ⟨_, rfl⟩
  obtain ⟨C2, hC2⟩ : ∃ C2 : Int, ((40 + key.size : Nat) : Int) = C2 := ⟨_, rfl⟩
  obtain ⟨C3, hC3⟩ : ∃ C3 : Int, ((rcst (l1 ++ l2) : Nat) : Int) = C3 := ⟨_, rfl⟩
  have hw : IntKind.i64.wrap (C1 - C2) = C3 := by dsimp only at hc2; rw [IntKind.wrap_i64]; omega
  have MC := keep (fun W => costOf_any key W hk)
  rw [hC2] at MC
  rw [hC1] at mS
  have hm1 := hR.2.2.2.2.step hR.1.2.1
  have TAIL : ∀ (w1 : World) (r1 : Roles), Dd h 1048576 w1 r1 b seed (Dc.step h s) → (∀ k ∈ R :: bl rv T, r1 k = (0, 0)) → FO (rq r (R :: bl rv T)) w (rq r1 (R :: bl rv T)) w1 → Lay w1 R (.int .u64 seed) (.pointer (some ⟨b, 0, none⟩)) (.int .i64 C1) rv T →
      Calls Try.prog 52 #[.pointer (some ⟨R, 0, none⟩), agE (key, was)] w1 fun en w2 => en = .returned (.tuple #[]) ∧ w2.cell? ⟨R, 3, none⟩ = some (.int .i64 C1) ∧ w2.frozen? ⟨R, 3, none⟩ = false ∧ Kept (∀ W3, W3 = (w2.setCell ⟨R, 3, none⟩ (.int .i64 C3)).drew → (w2.setCell ⟨R, 3, none⟩ (.int .i64 C3)).cell? ⟨R, 1, none⟩ = some (.pointer (some ⟨b, 0, none⟩)) ∧
        Calls Try.prog 55 #[.pointer (some ⟨b, 0, none⟩), .string key] W3 fun en w4 => en = .returned (.bool true) ∧ ∃ O' L', Dels (flat T) key L' ∧ RK w4 O' R seed L' ∧ FO O w O' w4) := by
    intro w1 r1 d1 m1 f1 la1
    refine (takeOut_any w1 R _ _ _ rv T (key, was) l1 l2 la1 hR.2.2.2.1 hmath.1 hsplit (by have := hmath.2.2.1; omega)).mono ?_
    rintro _ w2 ⟨rfl, rv2, T2, la2, e2, g2, f2⟩
    obtain ⟨c0, c1, c2, c3, cf⟩ := four la2.1
    refine ⟨rfl, c3, cf 3, ?_⟩
    intro W3 hW3
    have hris2 : Ris (flat T2) := by rw [e2]; rw [hsplit] at hmath; exact ris_cut hmath.1
    obtain ⟨la3', f3⟩ := la2.cost (.int .i64 C3)
    have la3 : Lay W3 R (.int .u64 seed) (.pointer (some ⟨b, 0, none⟩)) (.int .i64 C3) rv2 T2 := by rw [hW3]; exact Lay.drew la3'
    have f23 : Fm (R :: bl rv T) w1 (R :: bl rv2 T2) W3 := by rw [hW3]; exact (f2.trans f3).trans (Fm.below (Below.refl _ _).drew)
    obtain ⟨a1, a2, a3⟩ := rk_rows d1 f23 m1
    refine ⟨(four la3'.1).2.1, ?_⟩
    refine (delete_any hH W3 r1 b _ key a3 (by omega) hkm).mono ?_
    rintro _ w4 ⟨rfl, r4, q1, q2⟩
    refine ⟨by rw [hm1.look d1.2.1, show Dc.look key (flat T) = some was from hs]; rfl, ?_⟩
    obtain ⟨t1, t2, t3⟩ := rk_dict q2 a2 la3.lt
    refine ⟨rq r4 (R :: bl rv2 T2), l1 ++ l2, od, ⟨h, r4, b, rv2, T2, _, hH, ⟨q1, t2, ?_, g2, ?_⟩, e2, fun k => Iff.rfl⟩, ?_⟩
    · have := la3.kept t3
      rw [← hC3, ← e2] at this
      exact this
    · rw [e2]; rw [e2] at hris2; exact mi_del hm1 d1.2.1 hris2 od
    · have := (f1.trans a1).trans t1
      exact ⟨this.1, this.2.1, fun k hk hn => this.2.2 k hk (fun hh => hn ((hO k).2 hh))⟩
  have TL := keep TAIL
  clear hR hO hkm hs hk hC1 hC2 hC3 TAIL hm1 hmath hmem hsplit od op hcost hc2
  go_enter Try.func29, Try.ntmps29
  go_wp2_with fail
  refine mS.mono ?_
  rintro _ w1 ⟨rfl, r1, q1, q2, q3, q4⟩
  have tl := TL.out w1 r1 q1 q3 q4 q2
  unfold agE at tl
  dsimp only at tl
  clear mS q1 q2 q3 q4 TL
  go_wp2_with fail
  refine tl.mono ?_
  rintro _ w2 ⟨rfl, c3, cf3, HD⟩
  clear tl
  go_wp2
  go_region_with (first | (go_at_call 53; refine (MC.out _).mono ?_; rintro _ _ ⟨rfl, rfl⟩))
  all_goals
    obtain ⟨cb, mD⟩ := HD.out _ rfl
    go_wp2_with fail
    refine mD.mono ?_
    rintro _ w4 ⟨rfl, hz⟩
    have Z := keep hz
    clear hz mD HD
    go_wp2
    go_ret
    exact ⟨rfl, Z.out⟩
end Go.Proofs.Ytapehjlpiobeaaa
