/-
  Contracts over this program: one scan of a table from a cursor (pass), over all.
-/
import Derived.Test.YtmokahcjkokanaaScanPass1
namespace Go.Proofs.Ytmokahcjkokanaa
open Go.RowKit Go.Shelf
attribute [local go_sem] Oper.semAt_some
set_option maxRecDepth 100000 in
set_option maxHeartbeats 2000000 in
theorem spass_any (W0 w : World) (r : Roles) (b seed n : Nat) (s : Sd) (hD : Dct W0 r b seed n s) (hF : Few s) (A d : Nat) (hL : Lay s A d) (c : Nat) (hc0 : c < 2 ^ 64) (v : Value) (xs : List ByteArray)
    (hb : Below W0.heap.size W0 w) (hv : Ks W0.heap.size w v xs) (hlen : xs.length + (passF s A d c).length ≤ 8000000000000) :
    Calls Try.prog 54 #[.pointer (some ⟨b, 0, none⟩), .int .u64 c, v] w fun x w' => (∃ v', x = .returned (.tuple #[.int .u64 ((Rv.next A c : Nat) : Int), v']) ∧ Ks W0.heap.size w' v' (xs ++ passF s A d c)) ∧ Below W0.heap.size W0 w' := by
  have hA := pow_few (show A ≤ 42 by have := hL.few; omega)
  have hp := Rv.two_pos A
  have mT := tables_any w r b seed n s (hD.kept hb.size (fun k hk _ => hb.block k hk))
  unfold tbV at mT
  rw [hL.small] at mT
  obtain ⟨ch, hch, hcm⟩ := tk_at (c := c) hL.small hp
  have KK := keep fun W (h : Below W0.heap.size W0 W) => skeys_any W r b seed n s (hD.kept h.size (fun k hk _ => h.block k hk)) hF (smN s) (smN_lt s).1 c hc0 ch hch
  unfold tbV at KK
  rw [hL.small, hcm] at KK
  have b0 : -9223372036854775808 ≤ ((2 ^ A : Nat) : Int) := Int.le_trans (by decide) (Int.natCast_nonneg _)
  have b1 : ((2 ^ A : Nat) : Int) ≤ 9223372036854775807 := Int.ofNat_le.2 (Nat.le_trans hA (by decide))
  have hAf := fun W => after_any c ((2 ^ A : Nat) : Int) A W hc0 b0 b1 (lg_pow A)
  by_cases hy : 0 < s.young.length
  · rw [decide_eq_true hy, hL.great hy] at mT
    have hG := pow_few hL.few
    have hpG := Rv.two_pos (A + d)
    have e : passF s A d c = tk s (smN s) c ++ grF s A d (2 ^ (A + d)) c := by unfold passF; rw [if_pos hy]
    rw [e] at hlen ⊢
    have hal : ((xs ++ tk s (smN s) c) ++ grF s A d (2 ^ (A + d)) c).length ≤ 8000000000000 := by rw [List.append_assoc, List.length_append]; exact hlen
    have hl0 : xs.length + (tk s (smN s) c).length ≤ 8000000000000 := by rw [List.length_append] at hlen; exact Nat.le_trans (Nat.add_le_add_left (Nat.le_add_right _ _) _) hlen
    rw [← List.append_assoc]
    have K2 : Kept (∀ x : Nat, x < 2 ^ 64 → ∀ W, Below W0.heap.size W0 W → Calls Try.prog 78 #[.pointer (some ⟨b, 0, none⟩), .agg #[.int .i64 ((1 - smN s : Nat) : Int), .int .i64 ((2 ^ (A + d) : Nat) : Int)], .int .u64 (x : Int)] W fun y w' => (∃ v, y = .returned v ∧ There v ∧ Ks W.heap.size w' v (tk s (1 - smN s) x)) ∧ Below W.heap.size W w') := fun x hx W h => by
      obtain ⟨ch2, hch2, hcm2⟩ := tk_at (c := x) (hL.great hy) hpG
      have m := skeys_any W r b seed n s (hD.kept h.size (fun k hk _ => h.block k hk)) hF (1 - smN s) (smN_lt s).2 x hx ch2 hch2
      unfold tbV at m
      rw [hL.great hy, hcm2] at m
      exact m
    have a0 : -9223372036854775808 ≤ ((2 ^ (A + d) : Nat) : Int) := Int.le_trans (by decide) (Int.natCast_nonneg _)
    have a1 : ((2 ^ (A + d) : Nat) : Int) ≤ 9223372036854775807 := Int.ofNat_le.2 (Nat.le_trans hG (by decide))
    have A2 : Kept (∀ x : Nat, x < 2 ^ 64 → ∀ W, Calls Try.prog 79 #[.int .u64 (x : Int), .int .i64 ((2 ^ (A + d) : Nat) : Int)] W fun e w' => e = .returned (.int .u64 ((Rv.next (A + d) x : Nat) : Int)) ∧ w' = W) := fun x hx W => after_any x ((2 ^ (A + d) : Nat) : Int) (A + d) W hx a0 a1 (lg_pow (A + d))
    have KL : Kept (∀ x, Rv.next (A + d) x < 2 ^ 64) := fun x => Nat.lt_of_lt_of_le (Rv.next_lt (A + d) x) (Nat.pow_le_pow_right (n := 2) (by decide) (Nat.le_trans hL.few (by decide)))
    have KS : Kept (Gr s A d c ((xs ++ tk s (smN s) c) ++ grF s A d (2 ^ (A + d)) c) c (xs ++ tk s (smN s) c) (2 ^ (A + d))) := ⟨rfl, Nat.le_add_left _ _, rfl⟩
    have KG : Kept (∀ x f ys, Gr s A d c ((xs ++ tk s (smN s) c) ++ grF s A d (2 ^ (A + d)) c) x ys (f + 1) → Rv.next (A + d) x < 2 ^ A → ys ++ tk s (1 - smN s) x = ((xs ++ tk s (smN s) c) ++ grF s A d (2 ^ (A + d)) c) ∧ Rv.next (A + d) x = Rv.next A c) := fun x f ys h q => gr_stop h q
    have KH : Kept (∀ x f ys, Gr s A d c ((xs ++ tk s (smN s) c) ++ grF s A d (2 ^ (A + d)) c) x ys (f + 1) → ¬ Rv.next (A + d) x < 2 ^ A → Gr s A d c ((xs ++ tk s (smN s) c) ++ grF s A d (2 ^ (A + d)) c) (Rv.next (A + d) x) (ys ++ tk s (1 - smN s) x) f ∧ Rv.rv (A + d) x < Rv.rv (A + d) (Rv.next (A + d) x) ∧ Rv.rv (A + d) (Rv.next (A + d) x) < 2 ^ (A + d)) := fun x f ys h q => gr_go h q
    have KI : Kept (∀ x f ys, Gr s A d c ((xs ++ tk s (smN s) c) ++ grF s A d (2 ^ (A + d)) c) x ys f → ∃ f', f = f' + 1) := fun x f ys h => gr_fuel h
    have KJ : Kept (∀ x f ys, Gr s A d c ((xs ++ tk s (smN s) c) ++ grF s A d (2 ^ (A + d)) c) x ys (f + 1) → ys.length + (tk s (1 - smN s) x).length ≤ ((xs ++ tk s (smN s) c) ++ grF s A d (2 ^ (A + d)) c).length) := fun x f ys h => gr_len h
    exact pass_move W0 w b c (smN s) (2 ^ A) (2 ^ (A + d)) v xs (tk s (smN s) c) ((xs ++ tk s (smN s) c) ++ grF s A d (2 ^ (A + d)) c) (tk s (1 - smN s)) (Rv.next (A + d)) (Rv.rv (A + d)) (Gr s A d c ((xs ++ tk s (smN s) c) ++ grF s A d (2 ^ (A + d)) c)) (Rv.next A c) (2 ^ (A + d)) hc0 hA hb hv mT KK K2 A2 KG KH KI KJ KS KL hal hl0
  · rw [decide_eq_false hy] at mT
    have e : passF s A d c = tk s (smN s) c := by unfold passF; rw [if_neg hy, List.append_nil]
    rw [e] at hlen ⊢
    generalize (tbl s (1 - smN s)).length = n1 at *
    generalize 2 ^ A = n0 at *
    generalize tk s (smN s) c = ys at *
    generalize hN : Rv.next A c = nx at *
    generalize smN s = t0 at *
    have HB := keep hb
    have HV := keep hv
    have KA := keep hAf
    clear hb hv hD hF hL hch hcm hAf e hN ch
    go_enter Try.func54, Try.ntmps54
    go_wp2_with fail
    refine mT.mono ?_
    rintro _ w1 ⟨rfl, hb1⟩
    have HB1 := keep (HB.out.trans (hb1.mono HB.out.size))
    have HV1 := keep (own_kept HV.out (fun k hk => hb1.block k (own_lt HV.out hk)))
    clear mT hb1 HB HV
    go_wp2_with fail
    have hT := told_new (.int .i64 (t0 : Int)) (.int .i64 (n0 : Int)) (.int .i64 ((1 - t0 : Nat) : Int)) (.int .i64 (n1 : Int)) HB1.out HV1.out
    generalize World.alloc _ _ = Wz at *
    have HT := keep hT
    clear hT
    refine (KK.out Wz HT.out.base).mono ?_
    rintro _ w2 ⟨⟨v2, rfl, hth, hk2⟩, hb2⟩
    obtain ⟨v3, w3, mA, hT3⟩ := HT.out.add hb2 hk2 hth hlen
    obtain ⟨q0, q1, q2, q3⟩ := hT3.cells
    have HT3 := keep hT3
    have MA := keep mA
    clear hT3 hth hk2 hb2 HT KK q0 q2 q3 mA
    go_wp2_with (first | (at_builtin; refine wpList_app_run rfl _ _ _ rfl _ _ _ rfl rfl MA.out ?_))
    refine (KA.out w3).mono ?_
    rintro _ w4 ⟨rfl, hw4⟩
    subst hw4
    go_wp2
    go_ret2
    exact ⟨⟨v3, rfl, HT3.out.row⟩, HT3.out.base⟩
end Go.Proofs.Ytmokahcjkokanaa
