/-
  Contracts over this program: the document's own read.
-/
import Derived.Test.YtoalnfkjpdgbiaaDoorRwLine
import Derived.Test.YtoalnfkjpdgbiaaDoorRefInts2
import Derived.Test.YtoalnfkjpdgbiaaDoorRpPlain2
namespace Go.Proofs.YtoalnfkjpdgbiaaDoor
open Go.RowKit
set_option linter.unusedVariables false
/-- what read answers -/
def RdTold (n N : Nat) (w : World) (x : Except Int (Rp.T n × List UInt8)) (e : Ending) (w' : World) : Prop := match x with
  | .error c => e = .returned (.tuple #[nought, .int .i64 0, .int .i64 c]) ∧ Below w.heap.size w w'
  | .ok (t, r) => ∃ cs, e = .returned (.tuple #[.agg cs.toArray, .int .i64 ((N - r.length : Nat) : Int), .int .i64 0]) ∧ Tel (fun x => w.heap.size ≤ x ∧ x < w'.heap.size) w' n cs t ∧ Below w.heap.size w w'
theorem rd_err {n N : Nat} {w w' : World} {x : Except Int (Rp.T n × List UInt8)} {c : Int} {e : Ending} (hx : x = .error c) (he : e = .returned (.tuple #[nought, .int .i64 0, .int .i64 c])) (hb : Below w.heap.size w w') : RdTold n N w x e w' := by
  subst hx
  exact ⟨he, hb⟩
theorem rd_ok {n N : Nat} {w w' : World} {x : Except Int (Rp.T n × List UInt8)} {t : Rp.T n} {r : List UInt8} {e : Ending} (hx : x = .ok (t, r)) (cs : List Value) (he : e = .returned (.tuple #[.agg cs.toArray, .int .i64 ((N - r.length : Nat) : Int), .int .i64 0])) (ht : Tel (fun x => w.heap.size ≤ x ∧ x < w'.heap.size) w' n cs t) (hb : Below w.heap.size w w') : RdTold n N w x e w' := by
  subst hx
  exact ⟨cs, he, ht, hb⟩
namespace Rp
theorem decW_cons {α : Type} (D : Nat → List UInt8 → Except Int (List α × List UInt8)) (c : UInt8) (r : List UInt8) : decW D (c :: r) = if kindF c = 0 then .error 160 else match lineF r with | .error e => .error e | .ok (s, r') => lineK D (kindF c) s r' := rfl
theorem one_word {s : List UInt8} (h : Pl.ic s = 0) (h1 : Pl.iv s = -1) : s = [45, 49] := by
  rcases Pl.ways s with ⟨_, h2⟩ | ⟨v, _, _, h2, _, h3, _⟩ | ⟨v, _, h2, _⟩
  · rw [h] at h2; cases h2
  · rw [← h3, ← h2, h1, Pl.itoa_neg (by decide)]
    show 45 :: Lib.decDigits 1 = _
    rw [Pl.dd_small (by decide)]
    rfl
  · omega
theorem word_one : Pl.ic [45, 49] = 0 ∧ Pl.iv [45, 49] = -1 := by decide +kernel
theorem suffix_at {b r p : List UInt8} {k : Nat} (h : b.drop k = p ++ r) (hk : k ≤ b.length) : r = b.drop (b.length - r.length) ∧ k + p.length = b.length - r.length ∧ b.length - r.length ≤ b.length := by
  have hl := congrArg List.length h
  rw [List.length_drop, List.length_append] at hl
  have e : b.length - r.length = k + p.length := by omega
  refine ⟨?_, e.symm, Nat.sub_le _ _⟩
  rw [e, ← List.drop_drop, h, List.drop_left]
theorem many_more {α : Type} (d : List UInt8 → Except Int (α × List UInt8)) (k : Nat) (y : List UInt8) : many d (k + 1) y = match d y with | .error e => .error e | .ok (x, b1) => match many d k b1 with | .error e => .error e | .ok (xs, b2) => .ok (x :: xs, b2) := rfl
end Rp
theorem tel_leaf (Q : Nat → Prop) (w : World) (n : Nat) (k i : Int) (s : ByteArray) (hk : I64 k) (hi : I64 i) (hs : s.size < 4294967281) : Tel Q w (n + 1) [.int .i64 k, .string s, .int .i64 i, .slice none 0 0] ((k, s, i, []) : Rp.T (n + 1)) :=
  ⟨_, rfl, .inl ⟨rfl, _, rfl⟩, hk, hi, hs⟩
theorem i64s {k : Int} (h0 : -100 ≤ k) (h : k ≤ 100) : I64 k := ⟨by omega, by omega⟩
set_option maxRecDepth 100000 in
set_option maxHeartbeats 16000000 in
theorem read_go (n : Nat) (v : Value) (b : List UInt8) (wi : Int) (D : Nat → List UInt8 → Except Int (List (Rp.T n) × List UInt8)) (hwi : 0 ≤ wi ∧ wi ≤ 8)
    (hD : (wi = 8 ∧ ∀ m r, D m r = .error 161) ∨ (wi < 8 ∧ ∃ d : List UInt8 → Except Int (Rp.T n × List UInt8), D = Rp.many d ∧ (∀ y t r, d y = .ok (t, r) → ∃ p, y = p ++ r) ∧ (∀ y e, d y = .error e → e ≠ 0) ∧
      ∀ (w : World) (at' : Nat), at' ≤ b.length → Bs (· < w.heap.size) w v b → Calls Tryd.prog 45 #[v, .int .i64 (at' : Int), .int .i64 (wi + 1)] w (RdTold n b.length w (d (b.drop at')))))
    (w : World) (at' : Nat) (hat : at' ≤ b.length) (h : Bs (· < w.heap.size) w v b) (hb : b.length ≤ 1048576) :
    Calls Tryd.prog 45 #[v, .int .i64 (at' : Int), .int .i64 wi] w (RdTold (n + 1) b.length w (Rp.decW D (b.drop at'))) := by
  obtain ⟨X, hX⟩ : ∃ X : Except Int (Rp.T (n + 1) × List UInt8), X = Rp.decW D (b.drop at') := ⟨_, rfl⟩
  rw [← hX]
  have HX := keep hX
  clear hX
  obtain ⟨PP, hPP⟩ : ∃ PP : Ending → World → Prop, PP = RdTold (n + 1) b.length w X := ⟨_, rfl⟩
  rw [← hPP]
  have HP := keep hPP
  clear hPP
  have HBSV := keep (fun w' (hb' : Below w.heap.size w w') => (Bs.mono h (fun b hb => Nat.lt_of_lt_of_le hb hb'.size) (fun b hb => hb'.block b hb) : Bs (· < w'.heap.size) w' v b))
  have LN := keep (fun w' k (hb' : Below w.heap.size w w') (hk : k ≤ b.length) => rline_any v b k w' (HBSV.out w' hb') hb hk)
  obtain ⟨ao, c, rfl, hc, hbs⟩ := h
  obtain ⟨N, hN⟩ : ∃ N, b.length = N := ⟨_, rfl⟩
  rw [hN] at HP LN hat hc hb hD HBSV ⊢
  have HN := keep hN
  have HC := keep hc
  have HBS := keep hbs
  have HB := keep hb
  have HAT := keep hat
  have HD := keep hD
  have HWI := keep hwi
  clear hc hbs hb hat hN hD hwi
  obtain ⟨W1, hW1⟩ : ∃ x, x = w.alloc (.cells #[.int .i64 0, .string ⟨#[]⟩, .int .i64 0, .slice none 0 0] 25) := ⟨_, rfl⟩
  have x1 : Box W1 w.heap.size (.int .i64 0) (.string ⟨#[]⟩) (.int .i64 0) (.slice none 0 0) := hW1 ▸ Box.new w _ _ _ _
  have b1 : Below w.heap.size w W1 := hW1 ▸ (Below.refl _ _).alloc (Nat.le_refl _) _
  obtain ⟨W2, hW2⟩ : ∃ x, x = W1.alloc (.cells #[.int .i64 0, .string ⟨#[]⟩, .int .i64 0, .slice none 0 0] 25) := ⟨_, rfl⟩
  have x2 : Box W2 W1.heap.size (.int .i64 0) (.string ⟨#[]⟩) (.int .i64 0) (.slice none 0 0) := hW2 ▸ Box.new W1 _ _ _ _
  have b2 : Below W1.heap.size W1 W2 := hW2 ▸ (Below.refl _ _).alloc (Nat.le_refl _) _
  have z1 : W1.heap.size = w.heap.size + 1 := by rw [hW1]; show (w.heap.push _).size = _; simp
  obtain ⟨W3, hW3⟩ : ∃ x, x = set4 W2 W1.heap.size (.int .i64 0) (.string ⟨#[]⟩) (.int .i64 0) (.slice none 0 0) := ⟨_, rfl⟩
  have x3 : Box W3 W1.heap.size (.int .i64 0) (.string ⟨#[]⟩) (.int .i64 0) (.slice none 0 0) := hW3 ▸ Box.four x2 _ _ _ _
  have b3 : Below W1.heap.size W1 W3 := hW3 ▸ Below.four b2 (Nat.le_refl _) _ _ _ _
  have XA := keep (x1.below b3 x1.lt)
  have XB := keep x3
  have B3 := keep (b1.trans (b3.mono b1.size))
  have hW1' := hW1.symm
  have hW2' := hW2.symm
  have hW3' : (((W2.setCell ⟨W1.heap.size, 0, none⟩ (.int .i64 0)).setCell ⟨W1.heap.size, 1, none⟩ (.string ⟨#[]⟩)).setCell ⟨W1.heap.size, 2, none⟩ (.int .i64 0)).setCell ⟨W1.heap.size, 3, none⟩ (.slice none 0 0) = W3 := hW3.symm
  obtain ⟨y0, y1, y2, y3⟩ := x2.cells
  have v0 := x2.free 0
  have v1 := x2.free 1
  have v2 := x2.free 2
  have v3 := x2.free 3
  have Z1 := keep z1
  clear hW1 hW2 hW3 x1 x2 b1 b2 x3 b3 z1
  go_enter Tryd.func45, Tryd.ntmps45
  go_upto_region 2 with fail
  clear hW1' hW2' hW3' y0 y1 y2 y3 v0 v1 v2 v3
  obtain ⟨Bk, hBk⟩ : ∃ Bk, W1.heap.size = Bk := ⟨_, rfl⟩
  have HBK := keep (show Bk = w.heap.size + 1 by rw [← hBk]; exact Z1.out)
  rw [hBk] at XB ⊢
  clear hBk Z1
  obtain ⟨a0, a1, a2, a3⟩ := XA.out.cells
  have f0 := XA.out.free 0
  have f1 := XA.out.free 1
  have f2 := XA.out.free 2
  have f3 := XA.out.free 3
  obtain ⟨d0, d1, d2, d3⟩ := XB.out.cells
  have FB := keep (fun (k0 k1 k2 k3 : Value) => Below.four B3.out (Nat.le_refl _) k0 k1 k2 k3)
  by_cases hge : N ≤ at'
  · have hge1 : decide ((N : Int) ≤ (at' : Int)) = true := decide_eq_true (by omega)
    have hge2 : (N : Int) ≤ (at' : Int) := by omega
    have HE : Kept (X = .error 5) := keep (by rw [HX.out, List.drop_of_length_le (by rw [HN.out]; exact hge)]; rfl)
    clear hge
    go_wp2_with fail
    refine bodyPost_ret (res_rp3 rfl _ _ w.heap.size _ _ _ _ rfl (Box.four XA.out _ _ _ _)) rfl ?_
    rw [HP.out]
    exact rd_err HE.out rfl (FB.out _ _ _ _)
  · have hge1 : decide ((N : Int) ≤ (at' : Int)) = false := decide_eq_false (by omega)
    have hge2 : ¬ (N : Int) ≤ (at' : Int) := by omega
    have hlt : (at' : Int) < (N : Int) := by omega
    have hat0 : (0 : Int) ≤ (at' : Int) := by omega
    have hwa : IntKind.i64.wrap ((at' : Int) + 1) = ((at' + 1 : Nat) : Int) := by have := HB.out; have := HAT.out; rw [IntKind.wrap_i64]; omega
    obtain ⟨x, hx⟩ : ∃ x, b[at']? = some x := ⟨_, List.getElem?_eq_getElem (by rw [HN.out]; omega)⟩
    obtain ⟨g, o, rfl, hg, hcell⟩ := HBS.out.resolve_left (fun e => by rw [e] at hx; simp at hx)
    have CELL := keep (fun (w' : World) (hb' : Below w.heap.size w w') (j : Nat) (y : UInt8) (hy : b[j]? = some y) => (hb'.cell (p := ⟨g, o + j, none⟩) hg).trans (hcell j y hy))
    obtain ⟨z, hz⟩ : ∃ z : Int, z = (x.toNat : Int) := ⟨_, rfl⟩
    have cx : W3.cell? ⟨g, o + at', none⟩ = some (.int .u8 z) := by rw [hz]; exact CELL.out W3 B3.out at' x hx
    have hdr : b.drop at' = x :: b.drop (at' + 1) := by
      obtain ⟨h1, h2⟩ := List.getElem?_eq_some_iff.1 hx
      rw [List.drop_eq_getElem_cons h1, h2]
    have HXX : Kept (X = if Rp.kindF x = 0 then .error 160 else match Rp.lineF (b.drop (at' + 1)) with | .error e => .error e | .ok (s, r') => Rp.lineK D (Rp.kindF x) s r') := keep (by rw [HX.out, hdr, Rp.decW_cons])
    have z43 : (z == 43) = decide (x = 43) := by rw [hz]; exact beq_u8 x 43
    have z45 : (z == 45) = decide (x = 45) := by rw [hz]; exact beq_u8 x 45
    have z58 : (z == 58) = decide (x = 58) := by rw [hz]; exact beq_u8 x 58
    have z36 : (z == 36) = decide (x = 36) := by rw [hz]; exact beq_u8 x 36
    have z42 : (z == 42) = decide (x = 42) := by rw [hz]; exact beq_u8 x 42
    have ZS := keep (show (z == 43) = decide (x = 43) ∧ (z == 45) = decide (x = 45) ∧ (z == 58) = decide (x = 58) ∧ (z == 36) = decide (x = 36) ∧ (z == 42) = decide (x = 42) from ⟨z43, z45, z58, z36, z42⟩)
    have HATL := keep (show at' + 1 ≤ N by omega)
    clear hz hdr hx hcell z43 z45 z58 z36 z42 hge HX
    go_upto_region 5 with fail
    go_cut [46] from 29 to 46 (fun v wx => v = .bool (decide (Rp.kindF x = 0)) ∧ wx = W3)
    case first =>
      obtain ⟨z43, z45, z58, z36, z42⟩ := ZS.out
      have n43 : (z != 43) = !decide (x = 43) := by rw [bne, z43]
      have n45 : (z != 45) = !decide (x = 45) := by rw [bne, z45]
      have n58 : (z != 58) = !decide (x = 58) := by rw [bne, z58]
      have n36 : (z != 36) = !decide (x = 36) := by rw [bne, z36]
      have n42 : (z != 42) = !decide (x = 42) := by rw [bne, z42]
      clear HXX HP HD LN CELL ZS
      by_cases c1 : x = 43
      · have hk : decide (Rp.kindF x = 0) = false := by rw [c1]; rfl
        rw [decide_eq_true c1] at n43
        clear c1 z43 z45 z58 z36 z42 n45 n58 n36 n42
        go_wp2_with fail
        go_meet
        exact ⟨by rw [hk], rfl⟩
      · rw [decide_eq_false c1] at n43
        by_cases c2 : x = 45
        · have hk : decide (Rp.kindF x = 0) = false := by rw [c2]; rfl
          rw [decide_eq_true c2] at n45
          clear c1 c2 z43 z45 z58 z36 z42 n58 n36 n42
          go_wp2_with fail
          go_meet
          exact ⟨by rw [hk], rfl⟩
        · rw [decide_eq_false c2] at n45
          by_cases c3 : x = 58
          · have hk : decide (Rp.kindF x = 0) = false := by rw [c3]; rfl
            rw [decide_eq_true c3] at n58
            clear c1 c2 c3 z43 z45 z58 z36 z42 n36 n42
            go_wp2_with fail
            go_meet
            exact ⟨by rw [hk], rfl⟩
          · rw [decide_eq_false c3] at n58
            by_cases c4 : x = 36
            · have hk : decide (Rp.kindF x = 0) = false := by rw [c4]; rfl
              rw [decide_eq_true c4] at n36
              clear c1 c2 c3 c4 z43 z45 z58 z36 z42 n42
              go_wp2_with fail
              go_meet
              exact ⟨by rw [hk], rfl⟩
            · rw [decide_eq_false c4] at n36
              by_cases c5 : x = 42
              · have hk : decide (Rp.kindF x = 0) = false := by rw [c5]; rfl
                rw [decide_eq_true c5] at n42
                clear c1 c2 c3 c4 c5 z43 z45 z58 z36 z42
                go_wp2_with fail
                go_meet
                exact ⟨by rw [hk], rfl⟩
              · rw [decide_eq_false c5] at n42
                have hk : decide (Rp.kindF x = 0) = true := decide_eq_true (by unfold Rp.kindF; rw [if_neg c1, if_neg c2, if_neg c3, if_neg c4, if_neg c5])
                clear c1 c2 c3 c4 c5 z43 z45 z58 z36 z42
                go_wp2_with fail
                go_meet
                exact ⟨by rw [hk], rfl⟩
    case rest =>
    obtain ⟨rfl, hwc⟩ := hcut
    obtain rfl := hwc.symm
    clear hwc cx hge1 hge2
    by_cases hk : Rp.kindF x = 0
    · have hk' : decide (Rp.kindF x = 0) = true := decide_eq_true hk
      have HE : Kept (X = .error 160) := keep (by rw [HXX.out, if_pos hk])
      rw [hk']
      clear hk hk'
      go_wp2_with fail
      refine bodyPost_ret (res_rp3 rfl _ _ w.heap.size _ _ _ _ rfl (Box.four XA.out _ _ _ _)) rfl ?_
      rw [HP.out]
      exact rd_err HE.out rfl (FB.out _ _ _ _)
    · have hk' : decide (Rp.kindF x = 0) = false := decide_eq_false hk
      have HK := keep hk
      have HX2 : Kept (X = match Rp.lineF (b.drop (at' + 1)) with | .error e => .error e | .ok (s, r') => Rp.lineK D (Rp.kindF x) s r') := keep (by rw [HXX.out, if_neg hk])
      rw [hk']
      have LNC := keep (LN.out W3 (at' + 1) B3.out HATL.out)
      have LBK := keep (fun s r (hh : Rp.lineF (b.drop (at' + 1)) = .ok (s, r)) => Rp.lineF_back _ _ _ hh)
      have LCD := keep (fun e (hh : Rp.lineF (b.drop (at' + 1)) = .error e) => Rp.lineF_code _ _ hh)
      obtain ⟨LX, hLX⟩ : ∃ LX, LX = Rp.lineF (b.drop (at' + 1)) := ⟨_, rfl⟩
      rw [← hLX] at HX2 LNC LBK LCD
      clear hk hk' HXX LN hLX
      cases LX with
      | error ec =>
        have HE : Kept (X = .error ec) := keep (by rw [HX2.out])
        have hec : (ec != 0) = true := by rcases LCD.out ec rfl with e | e <;> (rw [e]; rfl)
        go_wp2_with fail
        refine LNC.out.mono ?_
        rintro _ w' ⟨rfl, hw'⟩
        obtain rfl := hw'.symm
        clear hw'
        unfold LnE
        go_wp2_with fail
        refine bodyPost_ret (res_rp3 rfl _ _ w.heap.size _ _ _ _ rfl (Box.four XA.out _ _ _ _)) rfl ?_
        rw [HP.out]
        exact rd_err HE.out rfl (FB.out _ _ _ _)
      | ok p =>
        obtain ⟨s, r⟩ := p
        have HX3 : Kept (X = Rp.lineK D (Rp.kindF x) s r) := keep (by rw [HX2.out])
        obtain ⟨hsp, _⟩ := LBK.out s r rfl
        obtain ⟨hr1, hr2, hr3⟩ := Rp.suffix_at hsp (by rw [HN.out]; exact HATL.out)
        rw [HN.out] at hr1 hr2 hr3
        obtain ⟨p1, hp1⟩ : ∃ p1, N - r.length = p1 := ⟨_, rfl⟩
        rw [hp1] at hr1 hr2 hr3
        have hsl : s.length ≤ 1048576 := by
          have := congrArg List.length hsp
          simp only [List.length_append, List.length_drop, HN.out] at this
          have := HB.out
          omega
        have HR := keep hr1
        have HP1 := keep hr3
        have HPL := keep hp1
        have HRL := keep (show r.length = N - p1 by rw [hr1, List.length_drop, HN.out])
        have HSL := keep hsl
        have IC := keep (rint_any (Rp.ofL s) W3 (by rw [Rp.ofL_size]; unfold maxLen; omega))
        clear hsp hr1 hr2 hr3 hsl LBK LCD HX2
        go_wp2_with fail
        refine LNC.out.mono ?_
        rintro _ w' ⟨rfl, hw'⟩
        obtain rfl := hw'.symm
        clear hw'
        unfold LnE
        dsimp only
        rw [hp1]
        clear hp1
        obtain ⟨z43, z45, z58, z36, z42⟩ := ZS.out
        by_cases c1 : x = 43
        · have HE : Kept (X = .ok ((1, Rp.ofL s, 0, []), r)) := keep (by rw [HX3.out, c1]; rfl)
          rw [decide_eq_true c1] at z43
          clear c1 z45 z58 z36 z42 IC
          go_wp2_with fail
          refine bodyPost_ret (res_rp3 rfl _ _ w.heap.size _ _ _ _ rfl (Box.four XA.out _ _ _ _)) rfl ?_
          rw [HP.out]
          exact rd_ok HE.out [.int .i64 1, .string (Rp.ofL s), .int .i64 0, .slice none 0 0] (by rw [HPL.out]; rfl) (tel_leaf _ _ _ _ _ _ (i64s (by decide) (by decide)) (i64s (by decide) (by decide)) (by rw [Rp.ofL_size]; have := HSL.out; omega)) (FB.out _ _ _ _)
        · rw [decide_eq_false c1] at z43
          by_cases c2 : x = 45
          · have HE : Kept (X = .ok ((2, Rp.ofL s, 0, []), r)) := keep (by rw [HX3.out, c2]; rfl)
            rw [decide_eq_true c2] at z45
            clear c1 c2 z58 z36 z42 IC
            go_wp2_with fail
            refine bodyPost_ret (res_rp3 rfl _ _ w.heap.size _ _ _ _ rfl (Box.four XA.out _ _ _ _)) rfl ?_
            rw [HP.out]
            exact rd_ok HE.out [.int .i64 2, .string (Rp.ofL s), .int .i64 0, .slice none 0 0] (by rw [HPL.out]; rfl) (tel_leaf _ _ _ _ _ _ (i64s (by decide) (by decide)) (i64s (by decide) (by decide)) (by rw [Rp.ofL_size]; have := HSL.out; omega)) (FB.out _ _ _ _)
          · rw [decide_eq_false c2] at z45
            have e1 : (Rp.ofL s).data.toList = s := rfl
            rw [e1] at IC
            have W1' := keep (fun h h1 => @Rp.one_word s h h1)
            have W2' : Kept (s = [45, 49] → Pl.ic s = 0 ∧ Pl.iv s = -1) := keep (fun e => by rw [e]; exact Rp.word_one)
            have IR : Kept (Pl.ic s = 0 → I64 (Pl.iv s)) := keep (fun hh => by
              rcases Pl.ways s with ⟨_, h2⟩ | ⟨q, _, h4, h2, _⟩ | ⟨q, h4, h2, _⟩
              · rw [hh] at h2; cases h2
              · exact ⟨by omega, by omega⟩
              · exact ⟨by omega, by omega⟩)
            have HCF : Kept (Rp.cntF s = if Pl.ic s = 0 ∧ 0 ≤ Pl.iv s then (if Pl.iv s ≤ 16777216 then .ok (Pl.iv s).toNat else .error 2) else .error 160) := keep rfl
            have H3 : Kept (x = 58 → X = if Pl.ic s = 0 then .ok ((3, .empty, Pl.iv s, []), r) else .error 160) := keep (fun e => by rw [HX3.out, e]; rfl)
            have H4 : Kept (x = 36 → X = Rp.bulkF s r) := keep (fun e => by rw [HX3.out, e]; rfl)
            have H6 : Kept (x = 42 → X = Rp.arrF D s r) := keep (fun e => by rw [HX3.out, e]; rfl)
            have KX : Kept (x = 58 ∨ x = 36 ∨ x = 42) := keep (by
              have hk := HK.out
              unfold Rp.kindF at hk
              rw [if_neg c1, if_neg c2] at hk
              by_cases c3 : x = 58
              · exact .inl c3
              · by_cases c4 : x = 36
                · exact .inr (.inl c4)
                · by_cases c5 : x = 42
                  · exact .inr (.inr c5)
                  · rw [if_neg c3, if_neg c4, if_neg c5] at hk
                    exact absurd rfl hk)
            obtain ⟨I, hI⟩ : ∃ I, I = Pl.iv s := ⟨_, rfl⟩
            obtain ⟨C, hC⟩ : ∃ C, C = Pl.ic s := ⟨_, rfl⟩
            rw [← hI, ← hC] at IC HCF H3 W1' W2' IR
            clear c1 c2 HX3 hI hC e1
            by_cases hc0 : C = 0
            · subst hc0
              obtain ⟨ir1, ir2⟩ := IR.out rfl
              have IRR := keep (And.intro ir1 ir2)
              by_cases c3 : x = 58
              · have HE : Kept (X = .ok ((3, .empty, I, []), r)) := keep (by rw [H3.out c3, if_pos rfl])
                rw [decide_eq_true c3] at z58
                clear c3 z36 z42 ir1 ir2
                go_wp2_with fail
                refine IC.out.mono ?_
                rintro _ w' ⟨rfl, hw'⟩
                obtain rfl := hw'.symm
                clear hw'
                go_wp2_with fail
                refine bodyPost_ret (res_rp3 rfl _ _ w.heap.size _ _ _ _ rfl (Box.four XA.out _ _ _ _)) rfl ?_
                rw [HP.out]
                exact rd_ok HE.out [.int .i64 3, .string ⟨#[]⟩, .int .i64 I, .slice none 0 0] (by rw [HPL.out]; rfl) (tel_leaf _ _ _ _ _ _ (i64s (by decide) (by decide)) IRR.out (by show (0 : Nat) < 4294967281; decide)) (FB.out _ _ _ _)
              · rw [decide_eq_false c3] at z58
                have KX2 := keep (KX.out.resolve_left c3)
                clear c3 KX H3
                by_cases hm1 : I = -1
                · have hs1 := W1'.out rfl hm1
                  have q1 : (I == -1) = true := by simp [hm1]
                  by_cases c4 : x = 36
                  · have HE : Kept (X = .ok ((5, .empty, 0, []), r)) := keep (by rw [H4.out c4]; unfold Rp.bulkF; rw [if_pos hs1])
                    rw [decide_eq_true c4] at z36
                    clear c4 z42 ir1 ir2 hs1 hm1
                    go_wp2_with fail
                    refine IC.out.mono ?_
                    rintro _ w' ⟨rfl, hw'⟩
                    obtain rfl := hw'.symm
                    clear hw'
                    go_wp2_with fail
                    refine bodyPost_ret (res_rp3 rfl _ _ w.heap.size _ _ _ _ rfl (Box.four XA.out _ _ _ _)) rfl ?_
                    rw [HP.out]
                    exact rd_ok HE.out [.int .i64 5, .string ⟨#[]⟩, .int .i64 0, .slice none 0 0] (by rw [HPL.out]; rfl) (tel_leaf _ _ _ _ _ _ (i64s (by decide) (by decide)) (i64s (by decide) (by decide)) (by show (0 : Nat) < 4294967281; decide)) (FB.out _ _ _ _)
                  · have HE : Kept (X = .ok ((7, .empty, 0, []), r)) := keep (by rw [H6.out (KX2.out.resolve_left c4)]; unfold Rp.arrF; rw [if_pos hs1])
                    rw [decide_eq_false c4] at z36
                    clear c4 z42 ir1 ir2 hs1 hm1
                    go_wp2_with fail
                    refine IC.out.mono ?_
                    rintro _ w' ⟨rfl, hw'⟩
                    obtain rfl := hw'.symm
                    clear hw'
                    go_wp2_with fail
                    refine bodyPost_ret (res_rp3 rfl _ _ w.heap.size _ _ _ _ rfl (Box.four XA.out _ _ _ _)) rfl ?_
                    rw [HP.out]
                    exact rd_ok HE.out [.int .i64 7, .string ⟨#[]⟩, .int .i64 0, .slice none 0 0] (by rw [HPL.out]; rfl) (tel_leaf _ _ _ _ _ _ (i64s (by decide) (by decide)) (i64s (by decide) (by decide)) (by show (0 : Nat) < 4294967281; decide)) (FB.out _ _ _ _)
                · have hs1 : ¬ s = [45, 49] := fun e => hm1 (W2'.out e).2
                  have q1 : (I == -1) = false := by simp [hm1]
                  have H4' : Kept (x = 36 → X = match Rp.cntF s with | .error e => .error e | .ok m => if r.length < m + 2 then .error 5 else if (r.drop m).take 2 = Rp.crlf then .ok ((4, Rp.ofL (r.take m), 0, []), r.drop (m + 2)) else .error 160) := keep (fun e => by rw [H4.out e]; unfold Rp.bulkF; rw [if_neg hs1]; rfl)
                  have H6' : Kept (x = 42 → X = match Rp.cntF s with | .error e => .error e | .ok m => match D m r with | .error e => .error e | .ok (l, r') => .ok ((6, .empty, 0, l), r')) := keep (fun e => by rw [H6.out e]; unfold Rp.arrF; rw [if_neg hs1]; cases Rp.cntF s with | error e => rfl | ok m => (dsimp only; cases D m r with | error e => rfl | ok q => rfl))
                  clear hs1 W1' W2' H4 H6 hm1
                  by_cases hneg : I < 0
                  · have HE : Kept (X = .error 160) := keep (by
                      have hcf : Rp.cntF s = .error 160 := by rw [HCF.out, if_neg (by omega)]
                      rcases KX2.out with e | e
                      · rw [H4'.out e, hcf]
                      · rw [H6'.out e, hcf])
                    clear ir1 ir2 z36 z42 HCF H4' H6'
                    go_wp2_with fail
                    refine IC.out.mono ?_
                    rintro _ w' ⟨rfl, hw'⟩
                    obtain rfl := hw'.symm
                    clear hw'
                    go_wp2_with fail
                    refine bodyPost_ret (res_rp3 rfl _ _ w.heap.size _ _ _ _ rfl (Box.four XA.out _ _ _ _)) rfl ?_
                    rw [HP.out]
                    exact rd_err HE.out rfl (FB.out _ _ _ _)
                  · obtain ⟨m, rfl⟩ : ∃ m : Nat, I = (m : Int) := ⟨I.toNat, by omega⟩
                    have hnn : ¬ (m : Int) < 0 := by omega
                    by_cases hbig : 16777216 < m
                    · have hbig' : (16777216 : Int) < (m : Int) := by omega
                      have HE : Kept (X = .error 2) := keep (by
                        have hcf : Rp.cntF s = .error 2 := by rw [HCF.out, if_pos ⟨rfl, by omega⟩, if_neg (by omega)]
                        rcases KX2.out with e | e
                        · rw [H4'.out e, hcf]
                        · rw [H6'.out e, hcf])
                      clear ir1 ir2 z36 z42 HCF H4' H6' hneg hbig
                      go_wp2_with fail
                      refine IC.out.mono ?_
                      rintro _ w' ⟨rfl, hw'⟩
                      obtain rfl := hw'.symm
                      clear hw'
                      go_wp2_with fail
                      refine bodyPost_ret (res_rp3 rfl _ _ w.heap.size _ _ _ _ rfl (Box.four XA.out _ _ _ _)) rfl ?_
                      rw [HP.out]
                      exact rd_err HE.out rfl (FB.out _ _ _ _)
                    · have hbig' : ¬ (16777216 : Int) < (m : Int) := by omega
                      have hcf : Rp.cntF s = .ok m := by rw [HCF.out, if_pos ⟨rfl, by omega⟩, if_pos (by omega), Int.toNat_natCast]
                      have HBIG := keep hbig
                      by_cases c4 : x = 36
                      · have HY : Kept (X = if r.length < m + 2 then .error 5 else if (r.drop m).take 2 = Rp.crlf then .ok ((4, Rp.ofL (r.take m), 0, []), r.drop (m + 2)) else .error 160) := keep (by rw [H4'.out c4, hcf])
                        rw [decide_eq_true c4] at z36
                        have hwl : IntKind.i64.wrap ((N : Int) - (p1 : Int)) = ((N - p1 : Nat) : Int) := by have := HB.out; have := HP1.out; rw [IntKind.wrap_i64]; omega
                        have hwm2 : IntKind.i64.wrap ((m : Int) + 2) = ((m + 2 : Nat) : Int) := by rw [IntKind.wrap_i64]; omega
                        have hwpm : IntKind.i64.wrap ((p1 : Int) + (m : Int)) = ((p1 + m : Nat) : Int) := by have := HB.out; have := HP1.out; rw [IntKind.wrap_i64]; omega
                        obtain ⟨rl, hrl⟩ : ∃ rl, N - p1 = rl := ⟨_, rfl⟩
                        obtain ⟨m2, hm2⟩ : ∃ m2, m + 2 = m2 := ⟨_, rfl⟩
                        rw [hrl] at hwl
                        rw [hm2] at hwm2
                        have HRLL := keep (show r.length = rl by rw [HRL.out]; exact hrl)
                        have HM2 := keep hm2
                        clear c4 z42 ir1 ir2 HCF H4' H6' hneg hbig hcf hm2
                        by_cases hsh : rl < m2
                        · have hsh' : (rl : Int) < (m2 : Int) := by omega
                          have HE : Kept (X = .error 5) := keep (by rw [HY.out, if_pos (by rw [HRLL.out, HM2.out]; exact hsh)])
                          clear hsh hrl
                          go_wp2_with fail
                          refine IC.out.mono ?_
                          rintro _ w' ⟨rfl, hw'⟩
                          obtain rfl := hw'.symm
                          clear hw'
                          go_wp2_with fail
                          refine bodyPost_ret (res_rp3 rfl _ _ w.heap.size _ _ _ _ rfl (Box.four XA.out _ _ _ _)) rfl ?_
                          rw [HP.out]
                          exact rd_err HE.out rfl (FB.out _ _ _ _)
                        · have hsh' : ¬ (rl : Int) < (m2 : Int) := by omega
                          have hle : p1 + m + 2 ≤ N := by have := HM2.out; have := HP1.out; omega
                          have HLE := keep hle
                          obtain ⟨y1, hy1⟩ : ∃ y, b[p1 + m]? = some y := ⟨_, List.getElem?_eq_getElem (by rw [HN.out]; omega)⟩
                          obtain ⟨y2, hy2⟩ : ∃ y, b[p1 + m + 1]? = some y := ⟨_, List.getElem?_eq_getElem (by rw [HN.out]; omega)⟩
                          have ct := CELL.out W3 B3.out _ _ hy1
                          have ct2 := CELL.out W3 B3.out _ _ hy2
                          have htk : (r.drop m).take 2 = [y1, y2] := by
                            rw [HR.out, List.drop_drop]
                            obtain ⟨h1, h2⟩ := List.getElem?_eq_some_iff.1 hy1
                            obtain ⟨h3, h4⟩ := List.getElem?_eq_some_iff.1 hy2
                            rw [List.drop_eq_getElem_cons h1, h2, List.drop_eq_getElem_cons h3, h4]
                            rfl
                          have HY2 : Kept (X = if [y1, y2] = Rp.crlf then .ok ((4, Rp.ofL (r.take m), 0, []), r.drop (m + 2)) else .error 160) := keep (by rw [HY.out, if_neg (by rw [HRLL.out, HM2.out]; exact hsh), htk])
                          have hwp1 : IntKind.i64.wrap (((p1 + m : Nat) : Int) + 1) = ((p1 + m + 1 : Nat) : Int) := by have := HB.out; rw [IntKind.wrap_i64]; omega
                          have hwp2 : IntKind.i64.wrap (((p1 + m : Nat) : Int) + 2) = ((p1 + m + 2 : Nat) : Int) := by have := HB.out; rw [IntKind.wrap_i64]; omega
                          have q13 : ((y1.toNat : Int) != 13) = !decide (y1 = 13) := by rw [bne, show ((y1.toNat : Int) == 13) = decide (y1 = 13) from beq_u8 y1 13]
                          have q10 : ((y2.toNat : Int) != 10) = !decide (y2 = 10) := by rw [bne, show ((y2.toNat : Int) == 10) = decide (y2 = 10) from beq_u8 y2 10]
                          obtain ⟨pm, hpm⟩ : ∃ pm, p1 + m = pm := ⟨_, rfl⟩
                          obtain ⟨pm1, hpm1⟩ : ∃ pm1, pm + 1 = pm1 := ⟨_, rfl⟩
                          obtain ⟨pm2, hpm2⟩ : ∃ pm2, pm + 2 = pm2 := ⟨_, rfl⟩
                          obtain ⟨sa, sd, sl, cv⟩ := cut_text (w := W3) (by rw [HN.out]; exact HC.out) (fun j y hy => CELL.out W3 B3.out j y hy) p1 pm (by omega) (by rw [HN.out]; omega)
                          rw [HN.out] at sl
                          rw [hpm] at ct ct2 hwpm hwp1 hwp2
                          rw [hpm1] at ct2 hwp1
                          rw [hpm2] at hwp2
                          have g0 : (0 : Int) ≤ (pm : Int) := by omega
                          have g1 : (pm : Int) < (N : Int) := by omega
                          have g2 : (0 : Int) ≤ (pm1 : Int) := by omega
                          have g3 : (pm1 : Int) < (N : Int) := by omega
                          have HPM := keep hpm
                          have HPM2 := keep hpm2
                          clear hsh hrl hle hy1 hy2 htk HY hpm hpm1 hpm2
                          by_cases h13 : y1 = 13
                          · rw [decide_eq_true h13] at q13
                            by_cases h10 : y2 = 10
                            · rw [decide_eq_true h10] at q10
                              have HE : Kept (X = .ok ((4, Rp.ofL (r.take m), 0, []), r.drop (m + 2))) := keep (by rw [HY2.out, if_pos (by rw [h13, h10]; rfl)])
                              have HTX : Kept (Rp.ofL ((b.drop p1).take (pm - p1)) = Rp.ofL (r.take m)) := keep (by rw [HR.out, show pm - p1 = m by have := HPM.out; omega])
                              have HLN : Kept (N - (r.drop (m + 2)).length = pm2) := keep (by rw [List.length_drop, HRL.out]; have := HLE.out; have := HPM.out; have := HPM2.out; omega)
                              have HTS : Kept ((Rp.ofL (r.take m)).size < 4294967281) := keep (by rw [Rp.ofL_size, List.length_take]; have := HBIG.out; omega)
                              clear h13 h10
                              go_wp2_with fail
                              refine IC.out.mono ?_
                              rintro _ w' ⟨rfl, hw'⟩
                              obtain rfl := hw'.symm
                              clear hw'
                              go_wp2_with fail
                              refine bodyPost_ret (res_rp3 rfl _ _ w.heap.size _ _ _ _ rfl (Box.four XA.out _ _ _ _)) rfl ?_
                              rw [HP.out]
                              refine rd_ok HE.out [.int .i64 4, .string (Rp.ofL (r.take m)), .int .i64 0, .slice none 0 0] (by rw [HLN.out, ← HTX.out]; rfl) ?_ (FB.out _ _ _ _)
                              exact tel_leaf _ _ _ _ _ _ (i64s (by decide) (by decide)) (i64s (by decide) (by decide)) HTS.out
                            · rw [decide_eq_false h10] at q10
                              have HE : Kept (X = .error 160) := keep (by rw [HY2.out, if_neg (fun e => h10 (by unfold Rp.crlf at e; injection e with _ e; injection e))])
                              clear h13 h10
                              go_wp2_with fail
                              refine IC.out.mono ?_
                              rintro _ w' ⟨rfl, hw'⟩
                              obtain rfl := hw'.symm
                              clear hw'
                              go_wp2_with fail
                              refine bodyPost_ret (res_rp3 rfl _ _ w.heap.size _ _ _ _ rfl (Box.four XA.out _ _ _ _)) rfl ?_
                              rw [HP.out]
                              exact rd_err HE.out rfl (FB.out _ _ _ _)
                          · rw [decide_eq_false h13] at q13
                            have HE : Kept (X = .error 160) := keep (by rw [HY2.out, if_neg (fun e => h13 (by unfold Rp.crlf at e; injection e))])
                            clear h13
                            go_wp2_with fail
                            refine IC.out.mono ?_
                            rintro _ w' ⟨rfl, hw'⟩
                            obtain rfl := hw'.symm
                            clear hw'
                            go_wp2_with fail
                            refine bodyPost_ret (res_rp3 rfl _ _ w.heap.size _ _ _ _ rfl (Box.four XA.out _ _ _ _)) rfl ?_
                            rw [HP.out]
                            exact rd_err HE.out rfl (FB.out _ _ _ _)
                      · have c5 := KX2.out.resolve_left c4
                        have HY : Kept (X = match D m r with | .error e => .error e | .ok (l, r') => .ok ((6, .empty, 0, l), r')) := keep (by rw [H6'.out c5, hcf])
                        rw [decide_eq_false c4] at z36
                        clear c4 c5 z42 ir1 ir2 HCF H4' H6' hneg hbig hcf
                        have hww : IntKind.i64.wrap (wi + 1) = wi + 1 := by have := HWI.out; rw [IntKind.wrap_i64]; omega
                        rcases HD.out with ⟨e8, hD0⟩ | ⟨hw8, d, hDm, hsuf, hcod, IHd⟩
                        · subst e8
                          have HE : Kept (X = .error 161) := keep (by rw [HY.out, hD0])
                          clear hD0
                          go_wp2_with fail
                          refine IC.out.mono ?_
                          rintro _ w' ⟨rfl, hw'⟩
                          obtain rfl := hw'.symm
                          clear hw'
                          go_wp2_with fail
                          refine bodyPost_ret (res_rp3 rfl _ _ w.heap.size _ _ _ _ rfl (Box.four XA.out _ _ _ _)) rfl ?_
                          rw [HP.out]
                          exact rd_err HE.out rfl (FB.out _ _ _ _)
                        · have h81 : ¬ 8 ≤ wi := by omega
                          have h82 : decide (8 ≤ wi) = false := decide_eq_false h81
                          have HSUF := keep hsuf
                          have HCOD := keep hcod
                          have IHK := keep IHd
                          have HY2 : Kept (X = match Rp.many d m r with | .error e => .error e | .ok (l, r') => .ok ((6, .empty, 0, l), r')) := keep (by rw [HY.out, hDm])
                          obtain ⟨W4, hW4⟩ : ∃ x, x = W3.alloc (.cells #[.int .i64 0, .string ⟨#[]⟩, .int .i64 0, .slice none 0 0] 25) := ⟨_, rfl⟩
                          have x4 : Box W4 W3.heap.size (.int .i64 0) (.string ⟨#[]⟩) (.int .i64 0) (.slice none 0 0) := hW4 ▸ Box.new W3 _ _ _ _
                          have b4 : Below W3.heap.size W3 W4 := hW4 ▸ (Below.refl _ _).alloc (Nat.le_refl _) _
                          obtain ⟨W5, hW5⟩ : ∃ x, x = set4 W4 W3.heap.size (.int .i64 6) (.string ⟨#[]⟩) (.int .i64 0) (.slice none 0 0) := ⟨_, rfl⟩
                          have x5 : Box W5 W3.heap.size (.int .i64 6) (.string ⟨#[]⟩) (.int .i64 0) (.slice none 0 0) := hW5 ▸ Box.four x4 _ _ _ _
                          have b5 : Below W3.heap.size W3 W5 := hW5 ▸ Below.four b4 (Nat.le_refl _) _ _ _ _
                          have XO := keep x5
                          have XA5 := keep (XA.out.below b5 XA.out.lt)
                          have XB5 := keep (XB.out.below b5 XB.out.lt)
                          have B5 := keep (B3.out.trans (b5.mono B3.out.size))
                          have SAO := keep (show w.heap.size < W3.heap.size from XA.out.lt)
                          have SBO := keep (show Bk < W3.heap.size from XB.out.lt)
                          have hW4' := hW4.symm
                          have hW5' : (((W4.setCell ⟨W3.heap.size, 0, none⟩ (.int .i64 6)).setCell ⟨W3.heap.size, 1, none⟩ (.string ⟨#[]⟩)).setCell ⟨W3.heap.size, 2, none⟩ (.int .i64 0)).setCell ⟨W3.heap.size, 3, none⟩ (.slice none 0 0) = W5 := hW5.symm
                          obtain ⟨y0, y1, y2, y3⟩ := x4.cells
                          have v0 := x4.free 0
                          have v1 := x4.free 1
                          have v2 := x4.free 2
                          have v3 := x4.free 3
                          have MS := keep (show m ≤ 16777216 by omega)
                          have HP1' := keep HP1.out
                          clear hW4 x4 b4 hW5 x5 b5 hsuf hcod IHd hDm HY HD
                          go_wp2_with fail
                          refine IC.out.mono ?_
                          rintro _ w' ⟨rfl, hw'⟩
                          obtain rfl := hw'.symm
                          clear hw'
                          go_wp2_with fail
                          obtain ⟨O, hO⟩ : ∃ O, W3.heap.size = O := ⟨_, rfl⟩
                          rw [hO] at XO SAO SBO
                          simp only [hO]
                          have HO5 : Kept (O < W5.heap.size) := XO.out.lt
                          clear hO hW4' hW5' y0 y1 y2 y3 v0 v1 v2 v3
                          go_loopw [1, 147] (fun v1 v147 wr => ∃ (j pos : Nat) (v : Value) (ts : List (Rp.T n)), j ≤ m ∧ v147 = .int .i64 (j : Nat) ∧ v1 = .int .i64 (pos : Nat) ∧ Kept (pos ≤ N) ∧ Kept (Box wr O (.int .i64 6) (.string ⟨#[]⟩) (.int .i64 0) v) ∧ Kept (Box wr w.heap.size (.int .i64 0) (.string ⟨#[]⟩) (.int .i64 0) (.slice none 0 0)) ∧ Kept (Box wr Bk (.int .i64 0) (.string ⟨#[]⟩) (.int .i64 0) (.slice none 0 0)) ∧ Kept (Row W5.heap.size wr n v ts) ∧ Kept (ts.length = j) ∧ Kept (Below w.heap.size w wr) ∧ Kept (W5.heap.size ≤ wr.heap.size) ∧ Kept (Rp.many d m r = match Rp.many d (m - j) (b.drop pos) with | .error e => .error e | .ok (l, r') => .ok (ts ++ l, r'))) (fun _ v147 _ => m - (intOf v147).toNat)
                          case atStart => exact ⟨0, p1, .slice none 0 0, [], Nat.zero_le _, rfl, rfl, HP1', XO, XA5, XB5, keep (Row.nil _ _ _), keep rfl, B5, keep (Nat.le_refl _), keep (by
                            rw [Nat.sub_zero, ← HR.out]
                            cases Rp.many d m r with
                            | error e => rfl
                            | ok q => rfl)⟩
                          case round =>
                            obtain ⟨j, pos, lv, ts, hj, rfl, rfl, KPOS, YO, YA, YB, RW, TL, BW, SZ, EQ⟩ := hrel
                            clear a0 a1 a2 a3 f0 f1 f2 f3 d0 d1 d2 d3
                            obtain ⟨a0, a1, a2, a3⟩ := YA.out.cells
                            have f0 := YA.out.free 0
                            have f1 := YA.out.free 1
                            have f2 := YA.out.free 2
                            have f3 := YA.out.free 3
                            obtain ⟨aoV, cV, hvV⟩ := RW.out.form
                            rw [TL.out] at hvV
                            subst hvV
                            by_cases hlj : j < m
                            · have h0 : (0 : Int) ≤ (j : Int) := by omega
                              have h1 : (j : Int) < (m : Int) := by omega
                              have nw : IntKind.i64.wrap ((j : Int) + 1) = ((j + 1 : Nat) : Int) := by have := MS.out; rw [IntKind.wrap_i64]; omega
                              have CALL := keep (IHK.out wr pos KPOS.out (HBSV.out wr BW.out))
                              obtain ⟨k1, hk1⟩ : ∃ k1, m - j = k1 + 1 := ⟨m - j - 1, by omega⟩
                              have EQ2 := EQ.out
                              rw [hk1, Rp.many_more] at EQ2
                              have SF := keep (fun t r1 (hh : d (b.drop pos) = .ok (t, r1)) => HSUF.out _ _ _ hh)
                              have CD := keep (fun e (hh : d (b.drop pos) = .error e) => HCOD.out _ _ hh)
                              obtain ⟨Y, hY⟩ : ∃ Y, Y = d (b.drop pos) := ⟨_, rfl⟩
                              rw [← hY] at EQ2 SF CD CALL
                              have HEQ2 := keep EQ2
                              have HK1 := keep hk1
                              have HLJ := keep hlj
                              clear EQ2 hY hk1 hlj IC
                              cases Y with
                              | error ec =>
                                have hec : (ec != 0) = true := by simpa using CD.out ec rfl
                                have HE : Kept (X = .error ec) := keep (by rw [HY2.out, HEQ2.out])
                                go_wp2_with fail
                                refine CALL.out.mono ?_
                                rintro e w2 ⟨rfl, b2⟩
                                obtain ⟨W6, hW6⟩ : ∃ x, x = w2.alloc (.cells #[.int .i64 0, .string ⟨#[]⟩, .int .i64 0, .slice none 0 0] 25) := ⟨_, rfl⟩
                                have b6 : Below wr.heap.size wr W6 := b2.trans ((hW6 ▸ (Below.refl _ _).alloc (Nat.le_refl _) _ : Below w2.heap.size w2 W6).mono b2.size)
                                have ya6 := YA.out.below b6 YA.out.lt
                                have YA6 := keep ya6
                                have yb6 := YB.out.below b6 YB.out.lt
                                have B6 := keep (BW.out.trans (b6.mono BW.out.size))
                                have hW6' := hW6.symm
                                obtain ⟨W7, hW7⟩ : ∃ x, x = set4 W6 w2.heap.size (.int .i64 0) (.string ⟨#[]⟩) (.int .i64 0) (.slice none 0 0) := ⟨_, rfl⟩
                                have x6 : Box W6 w2.heap.size (.int .i64 0) (.string ⟨#[]⟩) (.int .i64 0) (.slice none 0 0) := hW6 ▸ Box.new w2 _ _ _ _
                                have hlt6 : Bk < w2.heap.size := Nat.lt_of_lt_of_le YB.out.lt b2.size
                                have hlt7 : w.heap.size < w2.heap.size := Nat.lt_of_lt_of_le YA.out.lt b2.size
                                have ya7 : Box W7 w.heap.size (.int .i64 0) (.string ⟨#[]⟩) (.int .i64 0) (.slice none 0 0) := by rw [hW7]; exact (four_other (by omega) _ _ _ _).trans ya6
                                have yb7 : Box W7 Bk (.int .i64 0) (.string ⟨#[]⟩) (.int .i64 0) (.slice none 0 0) := by rw [hW7]; exact (four_other (by omega) _ _ _ _).trans yb6
                                have YA7 := keep ya7
                                have B7 : Kept (Below w.heap.size w W7) := by rw [hW7]; exact Below.four B6.out (Nat.le_of_lt hlt7) _ _ _ _
                                have hW7' : (((W6.setCell ⟨w2.heap.size, 0, none⟩ (.int .i64 0)).setCell ⟨w2.heap.size, 1, none⟩ (.string ⟨#[]⟩)).setCell ⟨w2.heap.size, 2, none⟩ (.int .i64 0)).setCell ⟨w2.heap.size, 3, none⟩ (.slice none 0 0) = W7 := hW7.symm
                                obtain ⟨y0, y1, y2, y3⟩ := x6.cells
                                have v0 := x6.free 0
                                have v1 := x6.free 1
                                have v2 := x6.free 2
                                have v3 := x6.free 3
                                clear a0 a1 a2 a3 f0 f1 f2 f3
                                obtain ⟨a0, a1, a2, a3⟩ := ya7.cells
                                have f0 := ya7.free 0
                                have f1 := ya7.free 1
                                have f2 := ya7.free 2
                                have f3 := ya7.free 3
                                obtain ⟨d0, d1, d2, d3⟩ := yb7.cells
                                clear hW6 b2 b6 ya6 yb6 hW7 ya7 yb7 x6 hlt6 hlt7
                                go_wp2_with fail
                                refine bodyPost_ret (res_rp3 rfl _ _ w.heap.size _ _ _ _ rfl (Box.four YA7.out _ _ _ _)) rfl ?_
                                rw [HP.out]
                                exact rd_err HE.out rfl (Below.four B7.out (Nat.le_refl _) _ _ _ _)
                              | ok q =>
                                obtain ⟨x, r1⟩ := q
                                obtain ⟨pp, hpp⟩ := SF.out x r1 rfl
                                obtain ⟨hr1, hr2, hr3⟩ := Rp.suffix_at hpp (by rw [HN.out]; exact KPOS.out)
                                rw [HN.out] at hr1 hr2 hr3
                                obtain ⟨p2, hp2⟩ : ∃ p2, N - r1.length = p2 := ⟨_, rfl⟩
                                rw [hp2] at hr1 hr3
                                have HR1 := keep hr1
                                have HP2 := keep hr3
                                have EQ3 : Kept (Rp.many d m r = match Rp.many d (m - (j + 1)) (b.drop p2) with | .error e => .error e | .ok (l, r') => .ok (ts ++ [x] ++ l, r')) := keep (by
                                  have h := HEQ2.out
                                  rw [h, ← HR1.out, show m - (j + 1) = k1 by have := HK1.out; omega]
                                  dsimp only
                                  cases Rp.many d k1 r1 with
                                  | error e => rfl
                                  | ok q => obtain ⟨l, r'⟩ := q; simp)
                                clear hpp hr1 hr2 hr3
                                go_wp2_with fail
                                refine CALL.out.mono ?_
                                rintro e w2 ⟨cs, rfl, tx, b2⟩
                                rw [hp2]
                                clear hp2
                                obtain ⟨q0, q1, q2, q3, q4, q5, rfl, _⟩ := tx.six
                                obtain ⟨W4, hW4⟩ : ∃ x, x = w2.alloc (.cells #[.int .i64 0, .string ⟨#[]⟩, .int .i64 0, .slice none 0 0] 25) := ⟨_, rfl⟩
                                have x4 : Box W4 w2.heap.size (.int .i64 0) (.string ⟨#[]⟩) (.int .i64 0) (.slice none 0 0) := hW4 ▸ Box.new w2 _ _ _ _
                                have b24 : Below w2.heap.size w2 W4 := hW4 ▸ (Below.refl _ _).alloc (Nat.le_refl _) _
                                have z24 : W4.heap.size = w2.heap.size + 1 := by rw [hW4]; show (w2.heap.push _).size = _; simp
                                obtain ⟨W6, hW6⟩ : ∃ x, x = set4 W4 w2.heap.size (.int .i64 q0) (.string q1) (.int .i64 q2) (.slice q3 q4 q5) := ⟨_, rfl⟩
                                have b26 : Below w2.heap.size w2 W6 := hW6 ▸ Below.four b24 (Nat.le_refl _) _ _ _ _
                                have z26 : W6.heap.size = w2.heap.size + 1 := by rw [hW6, ← z24]; simp [set4, World.setCell]
                                have b6 : Below wr.heap.size wr W6 := b2.trans (b26.mono b2.size)
                                have x6 : Box W6 w2.heap.size (.int .i64 q0) (.string q1) (.int .i64 q2) (.slice q3 q4 q5) := hW6 ▸ Box.four x4 _ _ _ _
                                have yo6 := YO.out.below b6 YO.out.lt
                                have row6 : Row W5.heap.size W6 n (.slice aoV j cV) ts := RW.out.later b6.size (fun b h1 h2 => b6.block b h2)
                                have tel6 : Tel (Mine W5.heap.size W6 (.slice aoV j cV)) W6 n [.int .i64 q0, .string q1, .int .i64 q2, .slice q3 q4 q5] x :=
                                  Tel.mono (fun b h => ⟨by have := SZ.out; omega, by omega, fun e => by have := (RW.out.own e).2; omega⟩) (fun b h => b26.block b h.2) _ _ _ tx
                                obtain ⟨v', w7, run7, row7, gr7⟩ := row_app row6 tel6 (by have := TL.out; have := MS.out; omega) (Nat.le_trans SZ.out b6.size) 23
                                obtain ⟨aoN, cN, hv7⟩ := row7.form
                                obtain ⟨q7, hq7⟩ : ∃ q, (ts ++ [x]).length = q := ⟨_, rfl⟩
                                rw [hq7] at hv7
                                have HQ7 := keep (show q7 = j + 1 by rw [← hq7, List.length_append, TL.out]; rfl)
                                subst hv7
                                have o6 : (Value.slice aoV j cV).ownBlock ≠ some O := fun e => by have := (RW.out.own e).1; have := HO5.out; omega
                                have oA : (Value.slice aoV j cV).ownBlock ≠ some w.heap.size := fun e => by have := (RW.out.own e).1; have := HO5.out; have := SAO.out; omega
                                have oB : (Value.slice aoV j cV).ownBlock ≠ some Bk := fun e => by have := (RW.out.own e).1; have := HO5.out; have := SBO.out; omega
                                have yo7 : Box w7 O (.int .i64 6) (.string ⟨#[]⟩) (.int .i64 0) (.slice aoV j cV) := (gr7.from yo6.lt o6).trans yo6
                                have ya7 : Box w7 w.heap.size (.int .i64 0) (.string ⟨#[]⟩) (.int .i64 0) (.slice none 0 0) := (gr7.from (YA.out.below b6 YA.out.lt).lt oA).trans (YA.out.below b6 YA.out.lt)
                                have yb7 : Box w7 Bk (.int .i64 0) (.string ⟨#[]⟩) (.int .i64 0) (.slice none 0 0) := (gr7.from (YB.out.below b6 YB.out.lt).lt oB).trans (YB.out.below b6 YB.out.lt)
                                have YO7 := keep yo7
                                have YA7 := keep ya7
                                have YB7 := keep yb7
                                have ROW7 := keep row7
                                have RUN7 := keep run7
                                have BW7 := keep ((BW.out.trans (b6.mono BW.out.size)).trans (gr7.below (Nat.le_trans BW.out.size b6.size) (fun k hk => by have := (RW.out.own hk).1; have := HO5.out; have := SAO.out; omega)))
                                have SZ7 := keep (Nat.le_trans SZ.out (Nat.le_trans b6.size gr7.size))
                                have hW4' := hW4.symm
                                have hW6' : (((W4.setCell ⟨w2.heap.size, 0, none⟩ (.int .i64 q0)).setCell ⟨w2.heap.size, 1, none⟩ (.string q1)).setCell ⟨w2.heap.size, 2, none⟩ (.int .i64 q2)).setCell ⟨w2.heap.size, 3, none⟩ (.slice q3 q4 q5) = W6 := hW6.symm
                                obtain ⟨y0, y1, y2, y3⟩ := x4.cells
                                have v0 := x4.free 0
                                have v1 := x4.free 1
                                have v2 := x4.free 2
                                have v3 := x4.free 3
                                obtain ⟨e0, e1, e2, e3⟩ := yo6.cells
                                obtain ⟨g0, g1, g2, g3⟩ := x6.cells
                                obtain ⟨i0, i1, i2, i3⟩ := yo7.cells
                                have u3 := yo7.free 3
                                clear hW4 x4 b24 z24 hW6 b2 b26 z26 b6 x6 row6 tel6 run7 row7 gr7 hq7 o6 oA oB yo7 ya7 yb7 yo6 tx a0 a1 a2 a3 f0 f1 f2 f3
                                go_wp2_with (first | (at_builtin; refine wpList_app_run rfl _ _ _ _ rfl _ _ _ rfl rfl RUN7.out ?_; clear RUN7))
                                go_roundw
                                case measure => have := HLJ.out; simp [intOf]; omega
                                case rel =>
                                  have hz7 : (w7.setCell ⟨O, 3, none⟩ (.slice aoN q7 cN)).heap.size = w7.heap.size := by simp [World.setCell]
                                  have h7 : ∀ b, b ≠ O → (w7.setCell ⟨O, 3, none⟩ (.slice aoN q7 cN)).heap[b]? = w7.heap[b]? := fun b hb => one_other hb _
                                  refine ⟨j + 1, p2, .slice aoN q7 cN, ts ++ [x], HLJ.out, by rfl, rfl, HP2, keep (YO7.out.three _), keep ((h7 _ (by have := SAO.out; omega)).trans YA7.out), keep ((h7 _ (by have := SBO.out; omega)).trans YB7.out), keep (ROW7.out.later (Nat.le_of_eq hz7.symm) (fun b h1 h2 => h7 b (by have := HO5.out; omega))), keep (by rw [List.length_append, TL.out]; rfl), keep (BW7.out.setCell (p := ⟨O, 3, none⟩) (by show w.heap.size ≤ O; have := SAO.out; omega) _), keep (by rw [hz7]; exact SZ7.out), EQ3⟩
                            · obtain rfl : j = m := by omega
                              have h1 : ¬ (j : Int) < (j : Int) := by omega
                              obtain ⟨e0, e1, e2, e3⟩ := YO.out.cells
                              have HE : Kept (X = .ok ((6, .empty, 0, ts), b.drop pos)) := keep (by
                                have h := EQ.out
                                rw [Nat.sub_self] at h
                                rw [HY2.out, h]
                                show (match (match (Except.ok ([], b.drop pos) : Except Int (List (Rp.T n) × List UInt8)) with | .error e => Except.error e | .ok (l, r') => Except.ok (ts ++ l, r') : Except Int (List (Rp.T n) × List UInt8)) with | .error e => Except.error e | .ok (l, r') => Except.ok ((6, ByteArray.empty, 0, l), r') : Except Int (Rp.T (n + 1) × List UInt8)) = _
                                dsimp only
                                rw [List.append_nil])
                              have HPO : Kept (N - (b.drop pos).length = pos) := keep (by rw [List.length_drop, HN.out]; have := KPOS.out; omega)
                              clear IC
                              go_wp2_with fail
                              refine bodyPost_ret (res_rp3 rfl _ _ w.heap.size _ _ _ _ rfl (Box.four YA.out _ _ _ _)) rfl ?_
                              rw [HP.out]
                              have fz : (set4 wr w.heap.size (.int .i64 6) (.string ⟨#[]⟩) (.int .i64 0) (.slice aoV j cV)).heap.size = wr.heap.size := by simp [set4, World.setCell]
                              have hlow : ∀ b, (W5.heap.size ≤ b ∧ b < wr.heap.size) → (w.heap.size ≤ b ∧ b < (set4 wr w.heap.size (.int .i64 6) (.string ⟨#[]⟩) (.int .i64 0) (.slice aoV j cV)).heap.size) := fun b h => ⟨by have := SAO.out; have := HO5.out; omega, by rw [fz]; exact h.2⟩
                              have hsm : ∀ b, (W5.heap.size ≤ b ∧ b < wr.heap.size) → (set4 wr w.heap.size (.int .i64 6) (.string ⟨#[]⟩) (.int .i64 0) (.slice aoV j cV)).heap[b]? = wr.heap[b]? := fun b h => four_other (by have := SAO.out; have := HO5.out; omega) _ _ _ _
                              refine rd_ok HE.out [.int .i64 6, .string ⟨#[]⟩, .int .i64 0, .slice aoV j cV] (by rw [HPO.out]; rfl) ⟨_, rfl, ?_, (show I64 6 from i64s (by decide) (by decide)), (show I64 0 from i64s (by decide) (by decide)), by show (0 : Nat) < 4294967281; decide⟩ (Below.four BW.out (Nat.le_refl _) _ _ _ _)
                              exact RW.out.lst.mono hlow hsm (fun cs x hx => Tel.mono hlow hsm _ _ _ hx)
            · have qc : (C != 0) = true := by simp [hc0]
              have HE : Kept (X = .error 160) := keep (by
                have hs1 : ¬ s = [45, 49] := fun e => hc0 (W2'.out e).1
                have hcf : Rp.cntF s = .error 160 := by rw [HCF.out, if_neg (fun hh => hc0 hh.1)]
                rcases KX.out with e | e | e
                · rw [H3.out e, if_neg hc0]
                · rw [H4.out e]; unfold Rp.bulkF; rw [if_neg hs1, hcf]
                · rw [H6.out e]; unfold Rp.arrF; rw [if_neg hs1, hcf])
              clear hc0 z58 z36 z42 HCF H3 H4 H6 W1' W2' IR KX
              go_wp2_with fail
              refine IC.out.mono ?_
              rintro _ w' ⟨rfl, hw'⟩
              obtain rfl := hw'.symm
              clear hw'
              go_wp2_with fail
              refine bodyPost_ret (res_rp3 rfl _ _ w.heap.size _ _ _ _ rfl (Box.four XA.out _ _ _ _)) rfl ?_
              rw [HP.out]
              exact rd_err HE.out rfl (FB.out _ _ _ _)
end Go.Proofs.YtoalnfkjpdgbiaaDoor
