/-
  Contracts over this program: the document's own scan (at, once, Next) over rows of buckets of which some are nil.
-/
import Derived.Test.YtlfpkbjiofelkaaGreatRd10
import Derived.Test.YtlfpkbjiofelkaaGreatFlScan
namespace Go.Proofs.YtlfpkbjiofelkaaGreat
open Go.RowKit Go.Shelf
set_option linter.unusedVariables false
set_option linter.unusedSimpArgs false
attribute [local go_sem] Oper.semAt_some
/-- append of any slice of texts -/
theorem app_all (B : Nat) (w : World) (v v2 : Value) (xs ys : List ByteArray) (B2 : Nat) (h1 : Ks B w v xs) (h2 : Ks B2 w v2 ys) (hb : B ≤ w.heap.size) (hl : xs.length + ys.length ≤ 8000000000000) :
    ∃ v' w', (Builtin.append_ #[43, 43] 43 #[v, v2]).run Tryz.prog w = .ok v' w' ∧ Ks B w' v' (xs ++ ys) ∧ Below B w w' ∧ w.grownBy w' v.ownBlock := by
  obtain ⟨i0, hi0, hz0, hz1, hz2⟩ := info_parts info_strK
  have h2' := h2
  unfold Ks at h2'
  rcases h2'.2 with ⟨rfl, h0⟩ | ⟨g', cap', cur, rfl, _⟩
  · have e : ys = [] := List.length_eq_zero_iff.1 h0
    subst e
    rw [List.append_nil]
    unfold Ks at h1
    exact ⟨v, w, run_append_owned_none (P := Tryz.prog) (w := w) B _ _ 9 i0 1 Tryz.underlying43 hi0 _ xs.length _ h1, h1, Below.refl _ _, ⟨rfl, rfl, rfl, Nat.le_refl _, fun _ _ _ => rfl⟩⟩
  · exact app_any B w v _ xs ys B2 h1 h2 ⟨_, _, _, rfl⟩ hb hl
/-- a row of rows of texts; they may be nil -/
def Rz (w : World) (v : Value) (xss : List (List ByteArray)) : Prop := ∃ vs : List Value, w.ownsRow 0 43 1 v xss.length vs ∧ ∀ (i : Nat) (xs : List ByteArray), xss[i]? = some xs → ∃ u, vs[i]? = some u ∧ Ks 0 w u xs
def Sl (u : Value) : Prop := ∃ (o : Option Addr) (n c : Nat), u = .slice o n c
theorem Rz.kept {w w' : World} {v : Value} {xss : List (List ByteArray)} (h : Rz w v xss) (hb : Below w.heap.size w w') : Rz w' v xss := by
  obtain ⟨vs, h1, h3⟩ := h
  refine ⟨vs, own_kept h1 (fun k e => hb.block k (own_lt h1 e)), fun i c hc => ?_⟩
  obtain ⟨v, e1, e2⟩ := h3 i c hc
  exact ⟨v, e1, own_kept e2 (fun k e => hb.block k (own_lt e2 e))⟩
theorem Rz.form {w : World} {v : Value} {xss : List (List ByteArray)} (h : Rz w v xss) : ∃ ao cap, v = .slice ao xss.length cap := by
  obtain ⟨vs, h1, h3⟩ := h
  rcases h1.2 with ⟨rfl, h0⟩ | ⟨g, cap, cur, rfl, _⟩
  · exact ⟨none, 0, by rw [h0]⟩
  · exact ⟨_, _, rfl⟩
theorem Rz.at {w : World} {ao : Option Addr} {n cap k : Nat} {xss : List (List ByteArray)} {xs : List ByteArray} (h : Rz w (.slice ao n cap) xss) (hk : xss[k]? = some xs) :
    ∃ g ug un uc, ao = some ⟨g, 0, none⟩ ∧ w.cell? ⟨g, k, none⟩ = some (.slice ug un uc) ∧ Ks 0 w (.slice ug un uc) xs := by
  obtain ⟨vs, h1, h3⟩ := h
  have hkl := (List.getElem?_eq_some_iff.1 hk).1
  obtain ⟨v, e1, e2⟩ := h3 k xs hk
  obtain ⟨uo, uc, rfl⟩ := e2.len
  rcases h1.2 with ⟨e, h0⟩ | ⟨g, cap', cur, e, _⟩
  · omega
  · injection e with e3 e4 e5
    subst e3
    refine ⟨g, uo, _, uc, rfl, ?_, e2⟩
    have := h1.cells (g := g) rfl k _ e1
    rwa [show (⟨g, 0, none⟩ : Addr).add k = ⟨g, k, none⟩ by unfold Addr.add; split <;> simp_all] at this
set_option maxRecDepth 100000 in
set_option maxHeartbeats 1000000 in
theorem rat_any (w : World) (v : Value) (xss : List (List ByteArray)) (h : Rz w v xss) (L c : Nat) (hL : xss.length = L) (hL0 : 0 < L) (hLm : L ≤ 4398046511104) (xs : List ByteArray) (hx : xss[c % L]? = some xs) :
    Calls Tryz.prog 111 #[v, .int .u64 c] w fun e w' => (∃ u, e = .returned u ∧ Sl u ∧ Ks 0 w u xs) ∧ w' = w := by
  obtain ⟨ao, ca, rfl⟩ := h.form
  rw [hL] at h ⊢
  obtain ⟨g, ug, un, uc, rfl, c0, hks⟩ := h.at hx
  have HK := keep hks
  clear h hx hks
  have hLz : ¬ (L : Int) = 0 := by omega
  have hLn : ¬ L = 0 := by omega
  have hm : (c : Int).tmod (L : Int) = ((c % L : Nat) : Int) := by rw [Int.tmod_eq_emod_of_nonneg (by omega)]; simp
  have hm2 : (c : Int) % (L : Int) = ((c % L : Nat) : Int) := by simp
  have hlt : c % L < L := Nat.mod_lt _ hL0
  generalize c % L = i at *
  have hw1 : IntKind.u64.wrap (L : Int) = (L : Int) := by rw [IntKind.wrap_u64]; omega
  have hw2 : IntKind.i64.wrap (i : Int) = (i : Int) := by rw [IntKind.wrap_i64]; omega
  have hiz : (i : Int) < (L : Int) := by omega
  go_enter Tryz.func111, Tryz.ntmps111
  go_wp2
  go_ret
  exact ⟨⟨_, rfl, ⟨_, _, _, rfl⟩, HK.out⟩, rfl⟩
theorem ks_empty (w : World) : Ks w.heap.size (w.alloc (.cells #[] 9)) (.slice (some ⟨w.heap.size, 0, none⟩) 0 0) [] := by
  refine ⟨rfl, .inr ⟨w.heap.size, 0, #[], rfl, Nat.le_refl _, heap_alloc_new _ _, Nat.le_refl _, by unfold maxLen; omega, rfl, rfl⟩⟩
set_option maxRecDepth 100000 in
set_option maxHeartbeats 1000000 in
theorem ronce_still (w : World) (v1 : Value) (bo : Option Addr) (cb : Nat) (X : List (List ByteArray)) (h1 : Rz w v1 X) (L c z : Nat) (hL : X.length = L) (hL0 : 0 < L) (hLm : L ≤ 4398046511104) (xs : List ByteArray) (hx : X[c % L]? = some xs) (hl : xs.length ≤ 8000000000000)
    (mA : ∀ W, Calls Tryz.prog 110 #[.int .u64 c, .int .i64 (L : Int)] W fun e w' => e = .returned (.int .u64 (z : Int)) ∧ w' = W) :
    Calls Tryz.prog 83 #[v1, .slice bo 0 cb, .int .u64 c] w fun e w' => (∃ v, e = .returned (.tuple #[.int .u64 (z : Int), v]) ∧ Ks w.heap.size w' v xs) ∧ Below w.heap.size w w' := by
  have hb0 : Below w.heap.size w (w.alloc (.cells #[] 9)) := (Below.refl _ w).alloc (Nat.le_refl _) _
  have mT := rat_any (w.alloc (.cells #[] 9)) v1 X (h1.kept hb0) L c hL hL0 hLm xs hx
  have hke := ks_empty w
  obtain ⟨ao, ca, rfl⟩ := h1.form
  rw [hL] at mT ⊢
  have MA := keep mA
  have HB := keep hb0
  have HKE := keep hke
  clear h1 hx hb0 hke mA
  go_enter Tryz.func83, Tryz.ntmps83
  go_wp2_with fail
  refine (MA.out w).mono ?_
  rintro _ w1 ⟨rfl, hw⟩
  subst hw
  clear MA
  go_wp2_with fail
  refine mT.mono ?_
  rintro _ w2 ⟨⟨_, rfl, ⟨ug, un, uc, rfl⟩, hk⟩, hw⟩
  subst hw
  obtain ⟨v', w3, r1, r2, r3, _⟩ := app_all w1.heap.size _ _ _ [] xs _ HKE.out hk (by simp) (by simpa using hl)
  have R1 := keep r1
  have R2 := keep r2
  have R3 := keep (HB.out.trans r3)
  clear mT hk r1 r2 r3 HKE HB
  go_wp2_with (at_builtin; refine wpList_app_run rfl _ _ _ rfl _ _ _ rfl rfl R1.out ?_)
  go_ret2
  exact ⟨⟨_, rfl, R2.out⟩, R3.out⟩
set_option maxRecDepth 100000 in
set_option maxHeartbeats 2000000 in
theorem ronce_move1 (w : World) (v1 v2 : Value) (X Y : List (List ByteArray)) (h1 : Rz w v1 X) (h2 : Rz w v2 Y) (XL YL : Nat) (hX : X.length = XL) (hY : Y.length = YL) (hX0 : 0 < XL) (hY0 : 0 < YL) (hXm : XL ≤ 4398046511104) (hYm : YL ≤ 4398046511104) (hcase : YL < XL)
    (c res f0 : Nat) (hc : c < 2 ^ 64) (tkS all : List ByteArray) (tkG : Nat → List ByteArray) (nxt R : Nat → Nat) (gr : Nat → List ByteArray → Nat → Prop)
    (hS : Y[c % YL]? = some tkS) (hG : ∀ x, X[x % XL]? = some (tkG x)) (hall : all.length ≤ 8000000000000) (hSl : tkS.length ≤ 8000000000000)
    (mA : ∀ x, x < 2 ^ 64 → ∀ W, Calls Tryz.prog 110 #[.int .u64 (x : Nat), .int .i64 (XL : Nat)] W fun e w' => e = .returned (.int .u64 (nxt x : Nat)) ∧ w' = W) (hN : ∀ x, nxt x < XL)
    (KG : Kept (∀ x f ys, gr x ys (f + 1) → nxt x < YL → ys ++ tkG x = all ∧ nxt x = res))
    (KH : Kept (∀ x f ys, gr x ys (f + 1) → ¬ nxt x < YL → gr (nxt x) (ys ++ tkG x) f ∧ R x < R (nxt x) ∧ R (nxt x) < f0))
    (KI : Kept (∀ x f ys, gr x ys f → ∃ f', f = f' + 1)) (KJ : Kept (∀ x f ys, gr x ys (f + 1) → ys.length + (tkG x).length ≤ all.length)) (KS : Kept (gr c tkS f0)) :
    Calls Tryz.prog 83 #[v1, v2, .int .u64 c] w fun e w' => (∃ v, e = .returned (.tuple #[.int .u64 (res : Int), v]) ∧ Ks w.heap.size w' v all) ∧ Below w.heap.size w w' := by
  have hb0 : Below w.heap.size w (w.alloc (.cells #[] 9)) := (Below.refl _ w).alloc (Nat.le_refl _) _
  have mT := rat_any (w.alloc (.cells #[] 9)) _ Y (h2.kept hb0) YL c hY hY0 hYm tkS hS
  have KT := keep fun (W : World) (hb : Below w.heap.size w W) (x : Nat) => rat_any W _ X (h1.kept hb) XL x hX hX0 hXm (tkG x) (hG x)
  have hke := ks_empty w
  obtain ⟨ao, ca, rfl⟩ := h1.form
  obtain ⟨bo, cb, rfl⟩ := h2.form
  rw [hX, hY]
  rw [hY] at mT
  rw [hX] at KT
  have MA := keep mA
  have HN := keep hN
  have HB := keep hb0
  have HKE := keep hke
  have hYz : ¬ (YL : Int) = 0 := by omega
  have hcz : (YL : Int) < (XL : Int) := by omega
  have hsz : ¬ (YL : Int) = 0 := by omega
  have hgz : ¬ (XL : Int) = 0 := by omega
  have hsn : ¬ YL = 0 := by omega
  have hgn : ¬ XL = 0 := by omega
  have hw1 : IntKind.u64.wrap (YL : Int) = (YL : Int) := by rw [IntKind.wrap_u64]; omega
  have hw2 : IntKind.u64.wrap (XL : Int) = (XL : Int) := by rw [IntKind.wrap_u64]; omega
  clear h1 h2 hS hG hb0 hke mA hN
  go_enter Tryz.func83, Tryz.ntmps83
  go_wp2_with fail
  refine mT.mono ?_
  rintro _ w2 ⟨⟨_, rfl, ⟨ug, un, uc, rfl⟩, hk⟩, hw⟩
  subst hw
  obtain ⟨v', w3, r1, r2, r3, _⟩ := app_all w.heap.size _ _ _ [] tkS _ HKE.out hk (by simp) (by simpa using hSl)
  have R1 := keep r1
  have R2 := keep r2
  have R3 := keep (HB.out.trans r3)
  clear mT hk r1 r2 r3 HKE HB
  go_wp2_with (at_builtin; refine wpList_app_run rfl _ _ _ rfl _ _ _ rfl rfl R1.out ?_)
  go_loopw [2, 10] (fun cv u wr => ∃ (x f : Nat) (l : List ByteArray), x < 2 ^ 64 ∧ cv = .int .u64 (x : Int) ∧ Kept (Ks w.heap.size wr u l) ∧ Kept (Below w.heap.size w wr) ∧ Kept (gr x l f)) (fun cv _ _ => lag f0 R cv)
  case atStart => exact ⟨c, f0, tkS, hc, rfl, R2, R3, KS⟩
  case round =>
    clear R1 R2 R3 KS
    obtain ⟨x, f, l, hx, rfl, KK, KB, KV⟩ := hrel
    obtain ⟨f', rfl⟩ := KI.out x f l KV.out
    have hlen := KJ.out x f' l KV.out
    have mT := KT.out wr KB.out x
    have mA := MA.out x hx
    have hzl := HN.out x
    have KX := keep (KG.out x f' l KV.out)
    have KY := keep (KH.out x f' l KV.out)
    have MA2 := keep mA
    clear mA
    go_wp2_with fail
    refine mT.mono ?_
    rintro _ w4 ⟨⟨_, rfl, ⟨ug, un, uc, rfl⟩, hk⟩, hw⟩
    subst hw
    obtain ⟨v5, w5, r1, r2, r3, _⟩ := app_all w.heap.size _ _ _ l (tkG x) _ KK.out hk KB.out.size (by omega)
    have R1 := keep r1
    have R2 := keep r2
    have R3 := keep (KB.out.trans r3)
    clear mT hk r1 r2 r3 KK KB KV hlen
    go_wp2_with (at_builtin; refine wpList_app_run rfl _ _ _ rfl _ _ _ rfl rfl R1.out ?_)
    refine (MA2.out _).mono ?_
    rintro _ w6 ⟨rfl, hw⟩
    subst hw
    clear MA2
    generalize l ++ tkG x = l2 at *
    generalize nxt x = z at *
    have hm : (z : Int).tmod (XL : Int) = (z : Int) := by rw [Int.tmod_eq_emod_of_nonneg (by omega)]; exact Int.emod_eq_of_lt (by omega) (by omega)
    have hm2 : (z : Int) % (XL : Int) = (z : Int) := Int.emod_eq_of_lt (by omega) (by omega)
    by_cases q0 : z < YL
    · have hq : (z : Int).tdiv (YL : Int) = 0 := by rw [Int.tdiv_eq_ediv_of_nonneg (by omega)]; exact Int.ediv_eq_zero_of_lt (by omega) (by omega)
      have hq2 : (z : Int) / (YL : Int) = 0 := Int.ediv_eq_zero_of_lt (by omega) (by omega)
      have KE := keep (KX.out q0)
      have hw0 : IntKind.u64.wrap 0 = 0 := by decide
      clear KX KY q0
      go_wp2
      go_ret2
      obtain ⟨e1, e2⟩ := KE.out
      subst e1 e2
      exact ⟨⟨_, rfl, R2.out⟩, R3.out⟩
    · obtain ⟨p, hp⟩ : ∃ p, z / YL = p := ⟨_, rfl⟩
      have hp0 : p ≠ 0 := by
        intro e
        rw [e] at hp
        rcases Nat.div_eq_zero_iff.1 hp with q | q
        · omega
        · exact q0 q
      have hq2 : (z : Int) / (YL : Int) = (p : Int) := by rw [← hp]; simp
      have hq : (z : Int).tdiv (YL : Int) = (p : Int) := by rw [Int.tdiv_eq_ediv_of_nonneg (by omega)]; exact hq2
      have hpz : ¬ (p : Int) = 0 := by omega
      have hple : p ≤ z := by rw [← hp]; exact Nat.div_le_self _ _
      have hwp : IntKind.u64.wrap (p : Int) = (p : Int) := by rw [IntKind.wrap_u64]; omega
      have hpb : ((p : Int) == 0) = false := beq_eq_false_iff_ne.2 hpz
      have hz64 : z < 2 ^ 64 := by omega
      have KZ := keep (KY.out q0)
      have HZ := keep hz64
      clear hz64 hp KX KY hple q0 hp0 hpz
      go_wp2
      go_roundw
      case rel => exact ⟨z, f', l2, HZ.out, rfl, R2, R3, KZ.out.1⟩
      case measure =>
        have h := KZ.out.2
        show lag f0 R (.int .u64 (z : Int)) < lag f0 R (.int .u64 (x : Int))
        rw [lag_int, lag_int]
        omega
set_option maxRecDepth 100000 in
set_option maxHeartbeats 2000000 in
theorem ronce_move2 (w : World) (v1 v2 : Value) (X Y : List (List ByteArray)) (h1 : Rz w v1 X) (h2 : Rz w v2 Y) (XL YL : Nat) (hX : X.length = XL) (hY : Y.length = YL) (hX0 : 0 < XL) (hY0 : 0 < YL) (hXm : XL ≤ 4398046511104) (hYm : YL ≤ 4398046511104) (hcase : ¬ YL < XL)
    (c res f0 : Nat) (hc : c < 2 ^ 64) (tkS all : List ByteArray) (tkG : Nat → List ByteArray) (nxt R : Nat → Nat) (gr : Nat → List ByteArray → Nat → Prop)
    (hS : X[c % XL]? = some tkS) (hG : ∀ x, Y[x % YL]? = some (tkG x)) (hall : all.length ≤ 8000000000000) (hSl : tkS.length ≤ 8000000000000)
    (mA : ∀ x, x < 2 ^ 64 → ∀ W, Calls Tryz.prog 110 #[.int .u64 (x : Nat), .int .i64 (YL : Nat)] W fun e w' => e = .returned (.int .u64 (nxt x : Nat)) ∧ w' = W) (hN : ∀ x, nxt x < YL)
    (KG : Kept (∀ x f ys, gr x ys (f + 1) → nxt x < XL → ys ++ tkG x = all ∧ nxt x = res))
    (KH : Kept (∀ x f ys, gr x ys (f + 1) → ¬ nxt x < XL → gr (nxt x) (ys ++ tkG x) f ∧ R x < R (nxt x) ∧ R (nxt x) < f0))
    (KI : Kept (∀ x f ys, gr x ys f → ∃ f', f = f' + 1)) (KJ : Kept (∀ x f ys, gr x ys (f + 1) → ys.length + (tkG x).length ≤ all.length)) (KS : Kept (gr c tkS f0)) :
    Calls Tryz.prog 83 #[v1, v2, .int .u64 c] w fun e w' => (∃ v, e = .returned (.tuple #[.int .u64 (res : Int), v]) ∧ Ks w.heap.size w' v all) ∧ Below w.heap.size w w' := by
  have hb0 : Below w.heap.size w (w.alloc (.cells #[] 9)) := (Below.refl _ w).alloc (Nat.le_refl _) _
  have mT := rat_any (w.alloc (.cells #[] 9)) _ X (h1.kept hb0) XL c hX hX0 hXm tkS hS
  have KT := keep fun (W : World) (hb : Below w.heap.size w W) (x : Nat) => rat_any W _ Y (h2.kept hb) YL x hY hY0 hYm (tkG x) (hG x)
  have hke := ks_empty w
  obtain ⟨ao, ca, rfl⟩ := h1.form
  obtain ⟨bo, cb, rfl⟩ := h2.form
  rw [hX, hY]
  rw [hX] at mT
  rw [hY] at KT
  have MA := keep mA
  have HN := keep hN
  have HB := keep hb0
  have HKE := keep hke
  have hYz : ¬ (YL : Int) = 0 := by omega
  have hcz : ¬ (YL : Int) < (XL : Int) := by omega
  have hsz : ¬ (XL : Int) = 0 := by omega
  have hgz : ¬ (YL : Int) = 0 := by omega
  have hsn : ¬ XL = 0 := by omega
  have hgn : ¬ YL = 0 := by omega
  have hw1 : IntKind.u64.wrap (XL : Int) = (XL : Int) := by rw [IntKind.wrap_u64]; omega
  have hw2 : IntKind.u64.wrap (YL : Int) = (YL : Int) := by rw [IntKind.wrap_u64]; omega
  clear h1 h2 hS hG hb0 hke mA hN
  go_enter Tryz.func83, Tryz.ntmps83
  go_wp2_with fail
  refine mT.mono ?_
  rintro _ w2 ⟨⟨_, rfl, ⟨ug, un, uc, rfl⟩, hk⟩, hw⟩
  subst hw
  obtain ⟨v', w3, r1, r2, r3, _⟩ := app_all w.heap.size _ _ _ [] tkS _ HKE.out hk (by simp) (by simpa using hSl)
  have R1 := keep r1
  have R2 := keep r2
  have R3 := keep (HB.out.trans r3)
  clear mT hk r1 r2 r3 HKE HB
  go_wp2_with (at_builtin; refine wpList_app_run rfl _ _ _ rfl _ _ _ rfl rfl R1.out ?_)
  go_loopw [2, 10] (fun cv u wr => ∃ (x f : Nat) (l : List ByteArray), x < 2 ^ 64 ∧ cv = .int .u64 (x : Int) ∧ Kept (Ks w.heap.size wr u l) ∧ Kept (Below w.heap.size w wr) ∧ Kept (gr x l f)) (fun cv _ _ => lag f0 R cv)
  case atStart => exact ⟨c, f0, tkS, hc, rfl, R2, R3, KS⟩
  case round =>
    clear R1 R2 R3 KS
    obtain ⟨x, f, l, hx, rfl, KK, KB, KV⟩ := hrel
    obtain ⟨f', rfl⟩ := KI.out x f l KV.out
    have hlen := KJ.out x f' l KV.out
    have mT := KT.out wr KB.out x
    have mA := MA.out x hx
    have hzl := HN.out x
    have KX := keep (KG.out x f' l KV.out)
    have KY := keep (KH.out x f' l KV.out)
    have MA2 := keep mA
    clear mA
    go_wp2_with fail
    refine mT.mono ?_
    rintro _ w4 ⟨⟨_, rfl, ⟨ug, un, uc, rfl⟩, hk⟩, hw⟩
    subst hw
    obtain ⟨v5, w5, r1, r2, r3, _⟩ := app_all w.heap.size _ _ _ l (tkG x) _ KK.out hk KB.out.size (by omega)
    have R1 := keep r1
    have R2 := keep r2
    have R3 := keep (KB.out.trans r3)
    clear mT hk r1 r2 r3 KK KB KV hlen
    go_wp2_with (at_builtin; refine wpList_app_run rfl _ _ _ rfl _ _ _ rfl rfl R1.out ?_)
    refine (MA2.out _).mono ?_
    rintro _ w6 ⟨rfl, hw⟩
    subst hw
    clear MA2
    generalize l ++ tkG x = l2 at *
    generalize nxt x = z at *
    have hm : (z : Int).tmod (YL : Int) = (z : Int) := by rw [Int.tmod_eq_emod_of_nonneg (by omega)]; exact Int.emod_eq_of_lt (by omega) (by omega)
    have hm2 : (z : Int) % (YL : Int) = (z : Int) := Int.emod_eq_of_lt (by omega) (by omega)
    by_cases q0 : z < XL
    · have hq : (z : Int).tdiv (XL : Int) = 0 := by rw [Int.tdiv_eq_ediv_of_nonneg (by omega)]; exact Int.ediv_eq_zero_of_lt (by omega) (by omega)
      have hq2 : (z : Int) / (XL : Int) = 0 := Int.ediv_eq_zero_of_lt (by omega) (by omega)
      have KE := keep (KX.out q0)
      have hw0 : IntKind.u64.wrap 0 = 0 := by decide
      clear KX KY q0
      go_wp2
      go_ret2
      obtain ⟨e1, e2⟩ := KE.out
      subst e1 e2
      exact ⟨⟨_, rfl, R2.out⟩, R3.out⟩
    · obtain ⟨p, hp⟩ : ∃ p, z / XL = p := ⟨_, rfl⟩
      have hp0 : p ≠ 0 := by
        intro e
        rw [e] at hp
        rcases Nat.div_eq_zero_iff.1 hp with q | q
        · omega
        · exact q0 q
      have hq2 : (z : Int) / (XL : Int) = (p : Int) := by rw [← hp]; simp
      have hq : (z : Int).tdiv (XL : Int) = (p : Int) := by rw [Int.tdiv_eq_ediv_of_nonneg (by omega)]; exact hq2
      have hpz : ¬ (p : Int) = 0 := by omega
      have hple : p ≤ z := by rw [← hp]; exact Nat.div_le_self _ _
      have hwp : IntKind.u64.wrap (p : Int) = (p : Int) := by rw [IntKind.wrap_u64]; omega
      have hpb : ((p : Int) == 0) = false := beq_eq_false_iff_ne.2 hpz
      have hz64 : z < 2 ^ 64 := by omega
      have KZ := keep (KY.out q0)
      have HZ := keep hz64
      clear hz64 hp KX KY hple q0 hp0 hpz
      go_wp2
      go_roundw
      case rel => exact ⟨z, f', l2, HZ.out, rfl, R2, R3, KZ.out.1⟩
      case measure =>
        have h := KZ.out.2
        show lag f0 R (.int .u64 (z : Int)) < lag f0 R (.int .u64 (x : Int))
        rw [lag_int, lag_int]
        omega
def lenV : Value → Nat
  | .slice _ n _ => n
  | _ => 0
def lag2 (P : Nat) (R : Nat → Nat) (m : Nat) (v u : Value) : Nat := if (intOf v).toNat = 0 ∨ m ≤ lenV u then 0 else P - R (intOf v).toNat
theorem lag2_less {P m x z n' n : Nat} {R : Nat → Nat} {v u v' u' : Value} (hv : v = .int .u64 (z : Int)) (hu : lenV u = n) (hv' : v' = .int .u64 (x : Int)) (hu' : lenV u' = n') (h0 : ¬ z = 0) (hn : ¬ m ≤ n) (hz : R z < P) (hg : ¬ x = 0 → ¬ m ≤ n' → R z < R x ∧ R x < P) : lag2 P R m v' u' < lag2 P R m v u := by
  subst hv hv' hu hu'
  have e1 : (intOf (.int .u64 (z : Int))).toNat = z := by simp [intOf]
  have e2 : (intOf (.int .u64 (x : Int))).toNat = x := by simp [intOf]
  unfold lag2
  have hz' : ¬ (z = 0 ∨ m ≤ lenV u) := fun e => e.elim h0 hn
  rw [e1, e2, if_neg hz']
  split
  · omega
  · rename_i q
    have := hg (fun e => q (.inl e)) (fun e => q (.inr e))
    omega
theorem Ks.lenV {B : Nat} {w : World} {v : Value} {xs : List ByteArray} (h : Ks B w v xs) : lenV v = xs.length := by
  obtain ⟨ao, cap, rfl⟩ := h.len
  rfl
set_option maxRecDepth 100000 in
set_option maxHeartbeats 2000000 in
theorem rnext_walk (W0 : World) (ao bo : Option Addr) (XL YL ca cb c m : Nat) (cnt : Int) (pf : Nat → List ByteArray) (nxt R : Nat → Nat) (gr : Nat → List ByteArray → Nat → Prop) (Res : Nat → List ByteArray → Prop) (f0 : Nat)
    (hc0 : c < 2 ^ 64) (hm : max cnt 1 = (m : Int)) (hX : XL ≠ 0)
    (KP : Kept (∀ (x : Nat) (w : World), x < 2 ^ 64 → Below W0.heap.size W0 w → Calls Tryz.prog 83 #[.slice ao XL ca, .slice bo YL cb, .int .u64 (x : Int)] w fun z w' => (∃ v', z = .returned (.tuple #[.int .u64 ((nxt x : Nat) : Int), v']) ∧ Ks w.heap.size w' v' (pf x)) ∧ Below w.heap.size w w'))
    (KG : Kept (∀ x f l, gr x l (f + 1) → (nxt x = 0 ∨ m ≤ (l ++ pf x).length) → Res (nxt x) (l ++ pf x)))
    (KH : Kept (∀ x f l, gr x l (f + 1) → ¬ nxt x = 0 → ¬ m ≤ (l ++ pf x).length → gr (nxt x) (l ++ pf x) f ∧ R x < R (nxt x) ∧ R (nxt x) < f0))
    (KI : Kept (∀ x f l, gr x l f → ∃ f', f = f' + 1)) (KJ : Kept (∀ x f l, gr x l (f + 1) → l.length + (pf x).length ≤ 8000000000000))
    (KS : Kept (gr c [] f0)) (KL : Kept (∀ x, nxt x < 2 ^ 64)) :
    Calls Tryz.prog 59 #[.slice ao XL ca, .slice bo YL cb, .int .u64 (c : Int), .int .i64 cnt] W0 fun x w' => (∃ (c' : Nat) (l' : List ByteArray) (v' : Value), x = .returned (.tuple #[.int .u64 (c' : Int), v']) ∧ Ks W0.heap.size w' v' l' ∧ Res c' l' ∧ c' < 2 ^ 64) ∧ Below W0.heap.size W0 w' := by
  have hXz : ¬ (XL : Int) = 0 := by omega
  have hXb : ((XL : Int) == 0) = false := beq_eq_false_iff_ne.2 hXz
  have m1 := KP.out c W0 hc0 (Below.refl _ _)
  obtain ⟨f1, hf1⟩ := KI.out c f0 [] KS.out
  have KS1 : Kept (gr c [] (f1 + 1)) := hf1 ▸ KS
  have KA := keep (KG.out c f1 [] KS1.out)
  have KB := keep (KH.out c f1 [] KS1.out)
  have KF := keep hf1
  have hl1 := KL.out c
  rw [List.nil_append] at KA KB
  clear hf1
  go_enter Tryz.func59, Tryz.ntmps59
  go_wp2_with fail
  refine m1.mono ?_
  rintro _ w1 ⟨⟨v1, rfl, hk1⟩, hb1⟩
  have HK1 := keep hk1
  have HB1 := keep hb1
  have HL1 := keep hl1
  clear m1 hk1 hb1 hl1 KS1 KS
  go_wp2
  go_loopw [10, 11, 12, 13] (fun cv u _ _ wr => ∃ (z f : Nat) (l : List ByteArray), cv = .int .u64 (z : Int) ∧ Kept (z < 2 ^ 64) ∧ Kept (Ks W0.heap.size wr u l) ∧ Kept (Below W0.heap.size W0 wr) ∧ Kept (z = 0 ∨ m ≤ l.length → Res z l) ∧ Kept (¬ z = 0 → ¬ m ≤ l.length → gr z l f ∧ R z < f0)) (fun cv u _ _ _ => lag2 f0 R m cv u)
  case atStart => exact ⟨nxt c, f1, pf c, rfl, HL1, HK1, HB1, KA, fun a b => ⟨(KB.out a b).1, (KB.out a b).2.2⟩⟩
  case round =>
    clear HL1 HK1 HB1 KA KB
    obtain ⟨z, f, l, rfl, KZ, KK, KW, KR, KC⟩ := hrel
    obtain ⟨ao', ca', hlv⟩ := KK.out.len
    subst hlv
    by_cases q0 : z = 0
    · have q0' : ((z : Int) != 0) = false := by subst q0; rfl
      have q0b : ((z : Int) == 0) = true := by subst q0; rfl
      have KR2 := keep (KR.out (.inl q0))
      clear q0
      go_wp2
      go_ret2
      exact ⟨⟨z, l, _, rfl, KK.out, KR2.out, KZ.out⟩, KW.out⟩
    · have q0' : ((z : Int) != 0) = true := by simp; omega
      have q0b : ((z : Int) == 0) = false := beq_eq_false_iff_ne.2 (by omega)
      by_cases q2 : m ≤ l.length
      · have q2' : ¬ (l.length : Int) < (m : Int) := by omega
        have KR2 := keep (KR.out (.inr q2))
        clear q0
        go_wp2
        go_ret2
        exact ⟨⟨z, l, _, rfl, KK.out, KR2.out, KZ.out⟩, KW.out⟩
      · have q2' : (l.length : Int) < (m : Int) := by omega
        obtain ⟨hg, hR⟩ := KC.out q0 q2
        obtain ⟨f', rfl⟩ := KI.out z f l hg
        have mP := KP.out z wr KZ.out KW.out
        have hj := KJ.out z f' l hg
        have HA := keep (KG.out z f' l hg)
        have HB := keep (KH.out z f' l hg)
        have HR := keep hR
        have Q0 := keep q0
        have Q2 := keep q2
        clear q0 q2 hg hR
        go_wp2_with fail
        refine mP.mono ?_
        rintro _ w3 ⟨⟨v3, rfl, hk3⟩, hb3⟩
        obtain ⟨v4, w4, r1, r2, r3, _⟩ := app_all W0.heap.size w3 _ v3 l (pf z) _ (own_kept KK.out (fun k hk => hb3.block k (own_lt KK.out hk))) hk3 (Nat.le_trans KW.out.size hb3.size) hj
        have R1 := keep r1
        have R2 := keep r2
        have R3 := keep ((KW.out.trans (hb3.mono KW.out.size)).trans r3)
        have HLZ := keep (KL.out z)
        clear mP hk3 hb3 r1 r2 r3 KK KW KR KC hj
        go_wp2_with (at_builtin; refine wpList_app_run rfl _ _ _ rfl _ _ _ rfl rfl R1.out ?_)
        go_roundw
        case rel => exact ⟨nxt z, f', l ++ pf z, rfl, HLZ, R2, R3, HA, fun a b => ⟨(HB.out a b).1, (HB.out a b).2.2⟩⟩
        case measure => exact lag2_less rfl rfl rfl R2.out.lenV Q0.out Q2.out HR.out (fun a b => ⟨(HB.out a b).2.1, (HB.out a b).2.2⟩)
theorem row_tk {s : Sd} {t n : Nat} (hn : (tbl s t).length = n) (h0 : 0 < n) (x : Nat) : ((tbl s t).map Dc.keys)[x % n]? = some (tk s t x) := by
  obtain ⟨ch, h1, h2⟩ := tk_at (c := x) hn h0
  rw [hn] at h1
  rw [List.getElem?_map, h1, ← h2]
  rfl
theorem ronce_any (w : World) (v1 v2 : Value) (s : Sd) (A d : Nat) (hL : Lay s A d) (h1 : Rz w v1 (s.old.map Dc.keys)) (h2 : Rz w v2 (s.young.map Dc.keys)) (c : Nat) (hc : c < 2 ^ 64) (hlen : (passF s A d c).length ≤ 8000000000000) :
    Calls Tryz.prog 83 #[v1, v2, .int .u64 c] w fun e w' => (∃ v, e = .returned (.tuple #[.int .u64 ((Rv.next A c : Nat) : Int), v]) ∧ Ks w.heap.size w' v (passF s A d c)) ∧ Below w.heap.size w w' := by
  have hA := pow_few (show A ≤ 42 by have := hL.few; omega)
  have hp := Rv.two_pos A
  by_cases hy : 0 < s.young.length
  · have hG := pow_few hL.few
    have hpG := Rv.two_pos (A + d)
    have hgr := hL.great hy
    have e : passF s A d c = tk s (smN s) c ++ grF s A d (2 ^ (A + d)) c := by unfold passF; rw [if_pos hy]
    rw [e] at hlen ⊢
    have a0 : -9223372036854775808 ≤ ((2 ^ (A + d) : Nat) : Int) := Int.le_trans (by decide) (Int.natCast_nonneg _)
    have a1 : ((2 ^ (A + d) : Nat) : Int) ≤ 9223372036854775807 := Int.ofNat_le.2 (Nat.le_trans hG (by decide))
    have hsl : (tk s (smN s) c).length ≤ 8000000000000 := by rw [List.length_append] at hlen; omega
    have mA := fun (x : Nat) (hx : x < 2 ^ 64) (W : World) => rafter_any x ((2 ^ (A + d) : Nat) : Int) (A + d) W hx a0 a1 (lg_pow (A + d))
    by_cases q : s.young.length < s.old.length
    · have hz : smN s = 1 := by unfold smN; rw [if_pos ⟨hy, q⟩]
      have hs := hL.small
      have hS := fun x => row_tk hs hp x
      have hGx := fun x => row_tk hgr hpG x
      rw [hz] at hs hgr hS hGx
      have hs : s.young.length = 2 ^ A := hs
      have hgr : s.old.length = 2 ^ (A + d) := hgr
      refine ronce_move1 w v1 v2 _ _ h1 h2 (2 ^ (A + d)) (2 ^ A) (by rw [List.length_map]; exact hgr) (by rw [List.length_map]; exact hs) hpG hp hG hA (by rw [← hs, ← hgr]; exact q) c _ (2 ^ (A + d)) hc (tk s (smN s) c) _ (tk s (1 - smN s)) (Rv.next (A + d)) (Rv.rv (A + d)) (Gr s A d c (tk s (smN s) c ++ grF s A d (2 ^ (A + d)) c)) ?_ ?_ hlen hsl mA (fun x => Rv.next_lt _ _) (fun x f ys h q => gr_stop h q) (fun x f ys h q => gr_go h q) (fun x f ys h => gr_fuel h) (fun x f ys h => gr_len h) ⟨rfl, Nat.le_add_left _ _, rfl⟩
      · rw [hz]; exact hS c
      · intro x; rw [hz]; exact hGx x
    · have hz : smN s = 0 := by unfold smN; rw [if_neg (fun e => q e.2)]
      have hs := hL.small
      have hS := fun x => row_tk hs hp x
      have hGx := fun x => row_tk hgr hpG x
      rw [hz] at hs hgr hS hGx
      have hs : s.old.length = 2 ^ A := hs
      have hgr : s.young.length = 2 ^ (A + d) := hgr
      refine ronce_move2 w v1 v2 _ _ h1 h2 (2 ^ A) (2 ^ (A + d)) (by rw [List.length_map]; exact hs) (by rw [List.length_map]; exact hgr) hp hpG hA hG (by rw [← hs, ← hgr]; exact q) c _ (2 ^ (A + d)) hc (tk s (smN s) c) _ (tk s (1 - smN s)) (Rv.next (A + d)) (Rv.rv (A + d)) (Gr s A d c (tk s (smN s) c ++ grF s A d (2 ^ (A + d)) c)) ?_ ?_ hlen hsl mA (fun x => Rv.next_lt _ _) (fun x f ys h q => gr_stop h q) (fun x f ys h q => gr_go h q) (fun x f ys h => gr_fuel h) (fun x f ys h => gr_len h) ⟨rfl, Nat.le_add_left _ _, rfl⟩
      · rw [hz]; exact hS c
      · intro x; rw [hz]; exact hGx x
  · have hz : smN s = 0 := by unfold smN; rw [if_neg (fun e => hy e.1)]
    have e : passF s A d c = tk s 0 c := by unfold passF; rw [if_neg hy, List.append_nil, hz]
    rw [e] at hlen ⊢
    have hs := hL.small
    have hS := fun x => row_tk hs hp x
    rw [hz] at hs hS
    have hs : s.old.length = 2 ^ A := hs
    obtain ⟨bo, cb, hv2⟩ := h2.form
    have hy0 : (s.young.map Dc.keys).length = 0 := by rw [List.length_map]; omega
    rw [hy0] at hv2
    subst hv2
    have b0 : -9223372036854775808 ≤ ((2 ^ A : Nat) : Int) := Int.le_trans (by decide) (Int.natCast_nonneg _)
    have b1 : ((2 ^ A : Nat) : Int) ≤ 9223372036854775807 := Int.ofNat_le.2 (Nat.le_trans hA (by decide))
    exact ronce_still w v1 bo cb _ h1 (2 ^ A) c _ (by rw [List.length_map]; exact hs) hp hA (tk s 0 c) (hS c) hlen (fun W => rafter_any c ((2 ^ A : Nat) : Int) A W hc b0 b1 (lg_pow A))
/-- the document's Next tells what the program's does -/
theorem rnext_more (W : World) (v1 v2 : Value) (h : ByteArray → Nat) (s : Sd) (hI : Dc.Inv h s) (A d : Nat) (hL : Lay s A d) (hk : (Dc.all s).length ≤ 8000000000000) (h0 : s.old.length ≠ 0) (h1 : Rz W v1 (s.old.map Dc.keys)) (h2 : Rz W v2 (s.young.map Dc.keys))
    (c : Nat) (hc : c < 2 ^ 64) (cnt : Int) (m : Nat) (hm : max cnt 1 = (m : Int)) :
    Calls Tryz.prog 59 #[v1, v2, .int .u64 c, .int .i64 cnt] W fun x w' => (∃ v' : Value, x = .returned (.tuple #[.int .u64 ((Rv.scanF s A d m (2 ^ A) c []).1 : Nat), v']) ∧ Ks W.heap.size w' v' (Rv.scanF s A d m (2 ^ A) c []).2) ∧ Below W.heap.size W w' := by
  have hak : (Rv.allk s).length ≤ 8000000000000 := by rw [(Rv.allk_perm hI).length_eq]; unfold Dc.keys; rw [List.length_map]; exact hk
  have p0 := Rv.put_tbl hI (smN s)
  have p1 := Rv.put_tbl hI (1 - smN s)
  have hA : 2 ^ A < 2 ^ 64 := Nat.pow_lt_pow_right (by omega) (by have := hL.few; omega)
  obtain ⟨ao, ca, hv1⟩ := h1.form
  obtain ⟨bo, cb, hv2⟩ := h2.form
  rw [List.length_map] at hv1 hv2
  have KP : Kept (∀ (x : Nat) (w : World), x < 2 ^ 64 → Below W.heap.size W w → Calls Tryz.prog 83 #[v1, v2, .int .u64 (x : Int)] w fun z w' => (∃ v', z = .returned (.tuple #[.int .u64 ((Rv.next A x : Nat) : Int), v']) ∧ Ks w.heap.size w' v' (passF s A d x)) ∧ Below w.heap.size w w') := fun x w hx hb => ronce_any w v1 v2 s A d hL (h1.kept hb) (h2.kept hb) x hx (by
    have hp := Rv.pass_len hL p0 p1 x
    have := Rv.left_all h s A (Rv.rv A x)
    omega)
  rw [hv1, hv2] at KP ⊢
  have M := rnext_walk W ao bo s.old.length s.young.length ca cb c m cnt (passF s A d) (Rv.next A) (Rv.rv A)
    (fun x l f => Rv.scanF s A d m f x l = Rv.scanF s A d m (2 ^ A) c [] ∧ 2 ^ A ≤ Rv.rv A x + f ∧ l.length + Rv.left h s A (Rv.rv A x) ≤ (Rv.allk s).length)
    (fun c' l' => (c', l') = Rv.scanF s A d m (2 ^ A) c []) (2 ^ A) hc hm h0 KP ?_ ?_ ?_ ?_ ⟨rfl, Nat.le_add_left _ _, by rw [List.length_nil, Nat.zero_add]; exact Rv.left_all h s A _⟩ (fun x => Nat.lt_trans (Rv.next_lt A x) hA)
  · refine M.mono ?_
    rintro _ w' ⟨⟨c', l', v', rfl, q1, q2, _⟩, q3⟩
    rw [← q2]
    exact ⟨⟨v', rfl, q1⟩, q3⟩
  · rintro x f l ⟨g1, g2, g3⟩ hs
    rw [← g1]
    show _ = (if _ then _ else _)
    rw [if_pos hs]
  · rintro x f l ⟨g1, g2, g3⟩ z hn
    have hu := Rv.next_up z
    have hb := Rv.rv_lt A (Rv.next A x)
    have hp := Rv.pass_len hL p0 p1 x
    refine ⟨⟨?_, ?_, ?_⟩, ?_, hb⟩
    · rw [← g1]
      show _ = (if _ then _ else _)
      rw [if_neg (fun e => e.elim z hn)]
    · rw [hu, Nat.add_assoc, Nat.add_comm 1 f]; exact g2
    · rw [hu, List.length_append]; omega
    · rw [hu]; exact Nat.lt_succ_self _
  · rintro x f l ⟨g1, g2, g3⟩
    have hb := Rv.rv_lt A x
    cases f with
    | zero => exact absurd g2 (Nat.not_le_of_lt hb)
    | succ f => exact ⟨f, rfl⟩
  · rintro x f l ⟨g1, g2, g3⟩
    have hp := Rv.pass_len hL p0 p1 x
    omega
/-- the document's own dict's buckets are such rows -/
theorem Rd.Tb.rz {w : World} {r : Roles} {t : Nat} {tv : Value} {T : Dc.Tab ByteArray Unit} (h : Rd.Tb w r t tv T) : Rz w tv (T.map Dc.keys) := by
  obtain ⟨vs, h1, _, h3⟩ := h
  refine ⟨vs, by rw [List.length_map]; exact h1, fun i xs hx => ?_⟩
  rw [List.getElem?_map] at hx
  obtain ⟨c, hc⟩ : ∃ c, T[i]? = some c := by cases e : T[i]? with | none => rw [e] at hx; cases hx | some c => exact ⟨c, rfl⟩
  rw [hc] at hx
  cases hx
  obtain ⟨v, e1, e2, _⟩ := h3 i c hc
  exact ⟨v, e1, e2.tx⟩
end Go.Proofs.YtlfpkbjiofelkaaGreat
