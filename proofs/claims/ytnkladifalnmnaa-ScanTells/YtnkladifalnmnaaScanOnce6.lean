/-
  Contracts over this program: the document's own once: a table as rows of buckets is scanned from a cursor.
-/
import Derived.Test.YtnkladifalnmnaaScanAt
namespace Go.Proofs.Ytnkladifalnmnaa
open Go.RowKit Go.Shelf
attribute [local go_sem] Oper.semAt_some
theorem ks_empty (w : World) : Ks w.heap.size (w.alloc (.cells #[] 9)) (.slice (some ⟨w.heap.size, 0, none⟩) 0 0) [] := by
  refine ⟨rfl, .inr ⟨w.heap.size, 0, #[], rfl, Nat.le_refl _, heap_alloc_new _ _, Nat.le_refl _, by unfold maxLen; omega, rfl, rfl⟩⟩
set_option maxRecDepth 100000 in
set_option maxHeartbeats 1000000 in
theorem ronce_still (w : World) (B : Nat) (v1 : Value) (bo : Option Addr) (cb : Nat) (X : List (List ByteArray)) (h1 : Rr B w v1 X) (L c z : Nat) (hL : X.length = L) (hL0 : 0 < L) (hLm : L ≤ 4398046511104) (xs : List ByteArray) (hx : X[c % L]? = some xs) (hl : xs.length ≤ 8000000000000)
    (mA : ∀ W, Calls Try.prog 45 #[.int .u64 c, .int .i64 (L : Int)] W fun e w' => e = .returned (.int .u64 (z : Int)) ∧ w' = W) :
    Calls Try.prog 30 #[v1, .slice bo 0 cb, .int .u64 c] w fun e w' => (∃ v, e = .returned (.tuple #[.int .u64 (z : Int), v]) ∧ Ks w.heap.size w' v xs) ∧ Below w.heap.size w w' := by
  have hb0 : Below w.heap.size w (w.alloc (.cells #[] 9)) := (Below.refl _ w).alloc (Nat.le_refl _) _
  have mT := rat_any (w.alloc (.cells #[] 9)) B v1 X (h1.kept hb0) L c hL hL0 hLm xs hx
  have hke := ks_empty w
  obtain ⟨ao, ca, rfl⟩ := h1.form
  rw [hL] at mT ⊢
  have MA := keep mA
  have HB := keep hb0
  have HKE := keep hke
  clear h1 hx hb0 hke mA
  go_enter Try.func30, Try.ntmps30
  go_wp2_with fail
  refine (MA.out w).mono ?_
  rintro _ w1 ⟨rfl, hw⟩
  subst hw
  clear MA
  go_wp2_with fail
  refine mT.mono ?_
  rintro _ w2 ⟨⟨_, rfl, ⟨ug, un, uc, rfl⟩, hk⟩, hw⟩
  subst hw
  obtain ⟨v', w3, r1, r2, r3, _⟩ := app_all w1.heap.size _ _ _ [] xs _ HKE.out hk (by simp) (by simpa using hl)
  have R1 := keep r1
  have R2 := keep r2
  have R3 := keep (HB.out.trans r3)
  clear mT hk r1 r2 r3 HKE HB
  go_wp2_with (at_builtin; refine wpList_app_run rfl _ _ _ rfl _ _ _ rfl rfl R1.out ?_)
  go_ret2
  exact ⟨⟨_, rfl, R2.out⟩, R3.out⟩
set_option maxRecDepth 100000 in
set_option maxHeartbeats 2000000 in
theorem ronce_move1 (w : World) (B : Nat) (v1 v2 : Value) (X Y : List (List ByteArray)) (h1 : Rr B w v1 X) (h2 : Rr B w v2 Y) (XL YL : Nat) (hX : X.length = XL) (hY : Y.length = YL) (hX0 : 0 < XL) (hY0 : 0 < YL) (hXm : XL ≤ 4398046511104) (hYm : YL ≤ 4398046511104) (hcase : YL < XL)
    (c res f0 : Nat) (hc : c < 2 ^ 64) (tkS all : List ByteArray) (tkG : Nat → List ByteArray) (nxt R : Nat → Nat) (gr : Nat → List ByteArray → Nat → Prop)
    (hS : Y[c % YL]? = some tkS) (hG : ∀ x, X[x % XL]? = some (tkG x)) (hall : all.length ≤ 8000000000000) (hSl : tkS.length ≤ 8000000000000)
    (mA : ∀ x, x < 2 ^ 64 → ∀ W, Calls Try.prog 45 #[.int .u64 (x : Nat), .int .i64 (XL : Nat)] W fun e w' => e = .returned (.int .u64 (nxt x : Nat)) ∧ w' = W) (hN : ∀ x, nxt x < XL)
    (KG : Kept (∀ x f ys, gr x ys (f + 1) → nxt x < YL → ys ++ tkG x = all ∧ nxt x = res))
    (KH : Kept (∀ x f ys, gr x ys (f + 1) → ¬ nxt x < YL → gr (nxt x) (ys ++ tkG x) f ∧ R x < R (nxt x) ∧ R (nxt x) < f0))
    (KI : Kept (∀ x f ys, gr x ys f → ∃ f', f = f' + 1)) (KJ : Kept (∀ x f ys, gr x ys (f + 1) → ys.length + (tkG x).length ≤ all.length)) (KS : Kept (gr c tkS f0)) :
    Calls Try.prog 30 #[v1, v2, .int .u64 c] w fun e w' => (∃ v, e = .returned (.tuple #[.int .u64 (res : Int), v]) ∧ Ks w.heap.size w' v all) ∧ Below w.heap.size w w' := by
  have hb0 : Below w.heap.size w (w.alloc (.cells #[] 9)) := (Below.refl _ w).alloc (Nat.le_refl _) _
  have mT := rat_any (w.alloc (.cells #[] 9)) B _ Y (h2.kept hb0) YL c hY hY0 hYm tkS hS
  have KT := keep fun (W : World) (hb : Below w.heap.size w W) (x : Nat) => rat_any W B _ X (h1.kept hb) XL x hX hX0 hXm (tkG x) (hG x)
  have hke := ks_empty w
  obtain ⟨ao, ca, rfl⟩ := h1.form
  obtain ⟨bo, cb, rfl⟩ := h2.form
  rw [hX, hY]
  rw [hY] at mT
  rw [hX] at KT
  have MA := keep mA
  have HN := keep hN
  have HB := keep hb0
  have HKE := keep hke
  have hYz : ¬ (YL : Int) = 0 := by omega
  have hcz : (YL : Int) < (XL : Int) := by omega
  have hsz : ¬ (YL : Int) = 0 := by omega
  have hgz : ¬ (XL : Int) = 0 := by omega
  have hsn : ¬ YL = 0 := by omega
  have hgn : ¬ XL = 0 := by omega
  have hw1 : IntKind.u64.wrap (YL : Int) = (YL : Int) := by rw [IntKind.wrap_u64]; omega
  have hw2 : IntKind.u64.wrap (XL : Int) = (XL : Int) := by rw [IntKind.wrap_u64]; omega
  clear h1 h2 hS hG hb0 hke mA hN
  go_enter Try.func30, Try.ntmps30
  go_wp2_with fail
  refine mT.mono ?_
  rintro _ w2 ⟨⟨_, rfl, ⟨ug, un, uc, rfl⟩, hk⟩, hw⟩
  subst hw
  obtain ⟨v', w3, r1, r2, r3, _⟩ := app_all w.heap.size _ _ _ [] tkS _ HKE.out hk (by simp) (by simpa using hSl)
  have R1 := keep r1
  have R2 := keep r2
  have R3 := keep (HB.out.trans r3)
  clear mT hk r1 r2 r3 HKE HB
  go_wp2_with (at_builtin; refine wpList_app_run rfl _ _ _ rfl _ _ _ rfl rfl R1.out ?_)
  go_loopw [2, 10] (fun cv u wr => ∃ (x f : Nat) (l : List ByteArray), x < 2 ^ 64 ∧ cv = .int .u64 (x : Int) ∧ Kept (Ks w.heap.size wr u l) ∧ Kept (Below w.heap.size w wr) ∧ Kept (gr x l f)) (fun cv _ _ => lag f0 R cv)
  case atStart => exact ⟨c, f0, tkS, hc, rfl, R2, R3, KS⟩
  case round =>
    clear R1 R2 R3 KS
    obtain ⟨x, f, l, hx, rfl, KK, KB, KV⟩ := hrel
    obtain ⟨f', rfl⟩ := KI.out x f l KV.out
    have hlen := KJ.out x f' l KV.out
    have mT := KT.out wr KB.out x
    have mA := MA.out x hx
    have hzl := HN.out x
    have KX := keep (KG.out x f' l KV.out)
    have KY := keep (KH.out x f' l KV.out)
    have MA2 := keep mA
    clear mA
    go_wp2_with fail
    refine mT.mono ?_
    rintro _ w4 ⟨⟨_, rfl, ⟨ug, un, uc, rfl⟩, hk⟩, hw⟩
    subst hw
    obtain ⟨v5, w5, r1, r2, r3, _⟩ := app_all w.heap.size _ _ _ l (tkG x) _ KK.out hk KB.out.size (by omega)
    have R1 := keep r1
    have R2 := keep r2
    have R3 := keep (KB.out.trans r3)
    clear mT hk r1 r2 r3 KK KB KV hlen
    go_wp2_with (at_builtin; refine wpList_app_run rfl _ _ _ rfl _ _ _ rfl rfl R1.out ?_)
    refine (MA2.out _).mono ?_
    rintro _ w6 ⟨rfl, hw⟩
    subst hw
    clear MA2
    generalize l ++ tkG x = l2 at *
    generalize nxt x = z at *
    have hm : (z : Int).tmod (XL : Int) = (z : Int) := by rw [Int.tmod_eq_emod_of_nonneg (by omega)]; exact Int.emod_eq_of_lt (by omega) (by omega)
    have hm2 : (z : Int) % (XL : Int) = (z : Int) := Int.emod_eq_of_lt (by omega) (by omega)
    by_cases q0 : z < YL
    · have hq : (z : Int).tdiv (YL : Int) = 0 := by rw [Int.tdiv_eq_ediv_of_nonneg (by omega)]; exact Int.ediv_eq_zero_of_lt (by omega) (by omega)
      have hq2 : (z : Int) / (YL : Int) = 0 := Int.ediv_eq_zero_of_lt (by omega) (by omega)
      have KE := keep (KX.out q0)
      have hw0 : IntKind.u64.wrap 0 = 0 := by decide
      clear KX KY q0
      go_wp2
      go_ret2
      obtain ⟨e1, e2⟩ := KE.out
      subst e1 e2
      exact ⟨⟨_, rfl, R2.out⟩, R3.out⟩
    · obtain ⟨p, hp⟩ : ∃ p, z / YL = p := ⟨_, rfl⟩
      have hp0 : p ≠ 0 := by
        intro e
        rw [e] at hp
        rcases Nat.div_eq_zero_iff.1 hp with q | q
        · omega
        · exact q0 q
      have hq2 : (z : Int) / (YL : Int) = (p : Int) := by rw [← hp]; simp
      have hq : (z : Int).tdiv (YL : Int) = (p : Int) := by rw [Int.tdiv_eq_ediv_of_nonneg (by omega)]; exact hq2
      have hpz : ¬ (p : Int) = 0 := by omega
      have hple : p ≤ z := by rw [← hp]; exact Nat.div_le_self _ _
      have hwp : IntKind.u64.wrap (p : Int) = (p : Int) := by rw [IntKind.wrap_u64]; omega
      have hpb : ((p : Int) == 0) = false := beq_eq_false_iff_ne.2 hpz
      have hz64 : z < 2 ^ 64 := by omega
      have KZ := keep (KY.out q0)
      have HZ := keep hz64
      clear hz64 hp KX KY hple q0 hp0 hpz
      go_wp2
      go_roundw
      case rel => exact ⟨z, f', l2, HZ.out, rfl, R2, R3, KZ.out.1⟩
      case measure =>
        have h := KZ.out.2
        show lag f0 R (.int .u64 (z : Int)) < lag f0 R (.int .u64 (x : Int))
        rw [lag_int, lag_int]
        omega
set_option maxRecDepth 100000 in
set_option maxHeartbeats 2000000 in
theorem ronce_move2 (w : World) (B : Nat) (v1 v2 : Value) (X Y : List (List ByteArray)) (h1 : Rr B w v1 X) (h2 : Rr B w v2 Y) (XL YL : Nat) (hX : X.length = XL) (hY : Y.length = YL) (hX0 : 0 < XL) (hY0 : 0 < YL) (hXm : XL ≤ 4398046511104) (hYm : YL ≤ 4398046511104) (hcase : ¬ YL < XL)
    (c res f0 : Nat) (hc : c < 2 ^ 64) (tkS all : List ByteArray) (tkG : Nat → List ByteArray) (nxt R : Nat → Nat) (gr : Nat → List ByteArray → Nat → Prop)
    (hS : X[c % XL]? = some tkS) (hG : ∀ x, Y[x % YL]? = some (tkG x)) (hall : all.length ≤ 8000000000000) (hSl : tkS.length ≤ 8000000000000)
    (mA : ∀ x, x < 2 ^ 64 → ∀ W, Calls Try.prog 45 #[.int .u64 (x : Nat), .int .i64 (YL : Nat)] W fun e w' => e = .returned (.int .u64 (nxt x : Nat)) ∧ w' = W) (hN : ∀ x, nxt x < YL)
    (KG : Kept (∀ x f ys, gr x ys (f + 1) → nxt x < XL → ys ++ tkG x = all ∧ nxt x = res))
    (KH : Kept (∀ x f ys, gr x ys (f + 1) → ¬ nxt x < XL → gr (nxt x) (ys ++ tkG x) f ∧ R x < R (nxt x) ∧ R (nxt x) < f0))
    (KI : Kept (∀ x f ys, gr x ys f → ∃ f', f = f' + 1)) (KJ : Kept (∀ x f ys, gr x ys (f + 1) → ys.length + (tkG x).length ≤ all.length)) (KS : Kept (gr c tkS f0)) :
    Calls Try.prog 30 #[v1, v2, .int .u64 c] w fun e w' => (∃ v, e = .returned (.tuple #[.int .u64 (res : Int), v]) ∧ Ks w.heap.size w' v all) ∧ Below w.heap.size w w' := by
  have hb0 : Below w.heap.size w (w.alloc (.cells #[] 9)) := (Below.refl _ w).alloc (Nat.le_refl _) _
  have mT := rat_any (w.alloc (.cells #[] 9)) B _ X (h1.kept hb0) XL c hX hX0 hXm tkS hS
  have KT := keep fun (W : World) (hb : Below w.heap.size w W) (x : Nat) => rat_any W B _ Y (h2.kept hb) YL x hY hY0 hYm (tkG x) (hG x)
  have hke := ks_empty w
  obtain ⟨ao, ca, rfl⟩ := h1.form
  obtain ⟨bo, cb, rfl⟩ := h2.form
  rw [hX, hY]
  rw [hX] at mT
  rw [hY] at KT
  have MA := keep mA
  have HN := keep hN
  have HB := keep hb0
  have HKE := keep hke
  have hYz : ¬ (YL : Int) = 0 := by omega
  have hcz : ¬ (YL : Int) < (XL : Int) := by omega
  have hsz : ¬ (XL : Int) = 0 := by omega
  have hgz : ¬ (YL : Int) = 0 := by omega
  have hsn : ¬ XL = 0 := by omega
  have hgn : ¬ YL = 0 := by omega
  have hw1 : IntKind.u64.wrap (XL : Int) = (XL : Int) := by rw [IntKind.wrap_u64]; omega
  have hw2 : IntKind.u64.wrap (YL : Int) = (YL : Int) := by rw [IntKind.wrap_u64]; omega
  clear h1 h2 hS hG hb0 hke mA hN
  go_enter Try.func30, Try.ntmps30
  go_wp2_with fail
  refine mT.mono ?_
  rintro _ w2 ⟨⟨_, rfl, ⟨ug, un, uc, rfl⟩, hk⟩, hw⟩
  subst hw
  obtain ⟨v', w3, r1, r2, r3, _⟩ := app_all w.heap.size _ _ _ [] tkS _ HKE.out hk (by simp) (by simpa using hSl)
  have R1 := keep r1
  have R2 := keep r2
  have R3 := keep (HB.out.trans r3)
  clear mT hk r1 r2 r3 HKE HB
  go_wp2_with (at_builtin; refine wpList_app_run rfl _ _ _ rfl _ _ _ rfl rfl R1.out ?_)
  go_loopw [2, 10] (fun cv u wr => ∃ (x f : Nat) (l : List ByteArray), x < 2 ^ 64 ∧ cv = .int .u64 (x : Int) ∧ Kept (Ks w.heap.size wr u l) ∧ Kept (Below w.heap.size w wr) ∧ Kept (gr x l f)) (fun cv _ _ => lag f0 R cv)
  case atStart => exact ⟨c, f0, tkS, hc, rfl, R2, R3, KS⟩
  case round =>
    clear R1 R2 R3 KS
    obtain ⟨x, f, l, hx, rfl, KK, KB, KV⟩ := hrel
    obtain ⟨f', rfl⟩ := KI.out x f l KV.out
    have hlen := KJ.out x f' l KV.out
    have mT := KT.out wr KB.out x
    have mA := MA.out x hx
    have hzl := HN.out x
    have KX := keep (KG.out x f' l KV.out)
    have KY := keep (KH.out x f' l KV.out)
    have MA2 := keep mA
    clear mA
    go_wp2_with fail
    refine mT.mono ?_
    rintro _ w4 ⟨⟨_, rfl, ⟨ug, un, uc, rfl⟩, hk⟩, hw⟩
    subst hw
    obtain ⟨v5, w5, r1, r2, r3, _⟩ := app_all w.heap.size _ _ _ l (tkG x) _ KK.out hk KB.out.size (by omega)
    have R1 := keep r1
    have R2 := keep r2
    have R3 := keep (KB.out.trans r3)
    clear mT hk r1 r2 r3 KK KB KV hlen
    go_wp2_with (at_builtin; refine wpList_app_run rfl _ _ _ rfl _ _ _ rfl rfl R1.out ?_)
    refine (MA2.out _).mono ?_
    rintro _ w6 ⟨rfl, hw⟩
    subst hw
    clear MA2
    generalize l ++ tkG x = l2 at *
    generalize nxt x = z at *
    have hm : (z : Int).tmod (YL : Int) = (z : Int) := by rw [Int.tmod_eq_emod_of_nonneg (by omega)]; exact Int.emod_eq_of_lt (by omega) (by omega)
    have hm2 : (z : Int) % (YL : Int) = (z : Int) := Int.emod_eq_of_lt (by omega) (by omega)
    by_cases q0 : z < XL
    · have hq : (z : Int).tdiv (XL : Int) = 0 := by rw [Int.tdiv_eq_ediv_of_nonneg (by omega)]; exact Int.ediv_eq_zero_of_lt (by omega) (by omega)
      have hq2 : (z : Int) / (XL : Int) = 0 := Int.ediv_eq_zero_of_lt (by omega) (by omega)
      have KE := keep (KX.out q0)
      have hw0 : IntKind.u64.wrap 0 = 0 := by decide
      clear KX KY q0
      go_wp2
      go_ret2
      obtain ⟨e1, e2⟩ := KE.out
      subst e1 e2
      exact ⟨⟨_, rfl, R2.out⟩, R3.out⟩
    · obtain ⟨p, hp⟩ : ∃ p, z / XL = p := ⟨_, rfl⟩
      have hp0 : p ≠ 0 := by
        intro e
        rw [e] at hp
        rcases Nat.div_eq_zero_iff.1 hp with q | q
        · omega
        · exact q0 q
      have hq2 : (z : Int) / (XL : Int) = (p : Int) := by rw [← hp]; simp
      have hq : (z : Int).tdiv (XL : Int) = (p : Int) := by rw [Int.tdiv_eq_ediv_of_nonneg (by omega)]; exact hq2
      have hpz : ¬ (p : Int) = 0 := by omega
      have hple : p ≤ z := by rw [← hp]; exact Nat.div_le_self _ _
      have hwp : IntKind.u64.wrap (p : Int) = (p : Int) := by rw [IntKind.wrap_u64]; omega
      have hpb : ((p : Int) == 0) = false := beq_eq_false_iff_ne.2 hpz
      have hz64 : z < 2 ^ 64 := by omega
      have KZ := keep (KY.out q0)
      have HZ := keep hz64
      clear hz64 hp KX KY hple q0 hp0 hpz
      go_wp2
      go_roundw
      case rel => exact ⟨z, f', l2, HZ.out, rfl, R2, R3, KZ.out.1⟩
      case measure =>
        have h := KZ.out.2
        show lag f0 R (.int .u64 (z : Int)) < lag f0 R (.int .u64 (x : Int))
        rw [lag_int, lag_int]
        omega
end Go.Proofs.Ytnkladifalnmnaa
