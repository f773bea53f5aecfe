/-
  Contracts over this program: Next, over any table.
-/
import Derived.Test.YtmokahcjkokanaaScanNext
import Derived.Test.YtmokahcjkokanaaScanAll
namespace Go.Proofs.Ytmokahcjkokanaa
open Go.RowKit Go.Shelf
attribute [local go_sem] Oper.semAt_some
theorem few_of {h : ByteArray → Nat} {N : Nat} {s : Sd} (hO : Okd h N s) (hN : N ≤ 2100000000000) : Few s := by
  obtain ⟨hI, _, h1, h2, h3⟩ := hO
  refine ⟨by omega, by omega, fun t i c hc => ?_⟩
  have hl : c.length ≤ (tbl s t).flatten.length := by
    obtain ⟨hi, rfl⟩ := List.getElem?_eq_some_iff.1 hc
    exact (List.sublist_flatten_of_mem (List.getElem_mem hi)).length_le
  have ha : (Dc.all s).length = s.old.flatten.length + s.young.flatten.length := by rw [Dc.all_eq hI, List.length_append]
  have hx : (tbl s t).flatten.length ≤ (Dc.all s).length := by unfold tbl; split <;> omega
  omega
set_option maxHeartbeats 400000 in
theorem next_zero (w : World) (r : Roles) (b seed n : Nat) (s : Sd) (hD : Dct w r b seed n s) (h0 : s.old.length = 0) (c : Nat) (cnt : Int) :
    Calls Try.prog 37 #[.pointer (some ⟨b, 0, none⟩), .int .u64 c, .int .i64 cnt] w fun e w' => e = .returned (.tuple #[.int .u64 0, .slice none 0 0]) ∧ Below w.heap.size w w' := by
  have m := sizes_any w r b seed n s hD
  rw [h0] at m
  go_enter Try.func37, Try.ntmps37
  go_wp2_with fail
  refine m.mono ?_
  rintro _ w1 ⟨rfl, q, hw⟩
  have HB : Kept (Below w.heap.size w w1) := by rw [hw]; exact below_drewN (Below.refl _ _) q
  clear hw m
  go_wp2
  go_ret2
  exact ⟨rfl, HB.out⟩
theorem next_more (W : World) (r : Roles) (b seed n : Nat) (h : ByteArray → Nat) (s : Sd) (hD : Dct W r b seed n s) (hI : Dc.Inv h s) (hF : Few s) (A d : Nat) (hL : Lay s A d) (hk : (Dc.all s).length ≤ 8000000000000) (h0 : s.old.length ≠ 0)
    (c : Nat) (hc : c < 2 ^ 64) (cnt : Int) (m : Nat) (hm : max cnt 1 = (m : Int)) :
    Calls Try.prog 37 #[.pointer (some ⟨b, 0, none⟩), .int .u64 c, .int .i64 cnt] W fun x w' => (∃ v' : Value, x = .returned (.tuple #[.int .u64 ((Rv.scanF s A d m (2 ^ A) c []).1 : Nat), v']) ∧ Ks W.heap.size w' v' (Rv.scanF s A d m (2 ^ A) c []).2) ∧ Below W.heap.size W w' := by
  have hak : (Rv.allk s).length ≤ 8000000000000 := by rw [(Rv.allk_perm hI).length_eq]; unfold Dc.keys; rw [List.length_map]; exact hk
  have p0 := Rv.put_tbl hI (smN s)
  have p1 := Rv.put_tbl hI (1 - smN s)
  have hA : 2 ^ A < 2 ^ 64 := Nat.pow_lt_pow_right (by omega) (by have := hL.few; omega)
  have M := next_walk W b c m s.old.length _ _ cnt (passF s A d) (Rv.next A) (Rv.rv A)
    (fun x l f => Rv.scanF s A d m f x l = Rv.scanF s A d m (2 ^ A) c [] ∧ 2 ^ A ≤ Rv.rv A x + f ∧ l.length + Rv.left h s A (Rv.rv A x) ≤ (Rv.allk s).length)
    (fun c' l' => (c', l') = Rv.scanF s A d m (2 ^ A) c []) (2 ^ A) hc hm h0 (sizes_any W r b seed n s hD) ?_ ?_ ?_ ?_ ?_ ⟨rfl, Nat.le_add_left _ _, by rw [List.length_nil, Nat.zero_add]; exact Rv.left_all h s A _⟩ (fun x => Nat.lt_trans (Rv.next_lt A x) hA)
  · refine M.mono ?_
    rintro _ w' ⟨⟨c', l', v', rfl, q1, q2, _⟩, q3⟩
    rw [← q2]
    exact ⟨⟨v', rfl, q1⟩, q3⟩
  · intro x xs v w hx hb hv hl
    exact spass_any W w r b seed n s hD hF A d hL x hx v xs hb hv hl
  · rintro x f l ⟨g1, g2, g3⟩ hs
    rw [← g1]
    show _ = (if _ then _ else _)
    rw [if_pos hs]
  · rintro x f l ⟨g1, g2, g3⟩ z hn
    have hu := Rv.next_up z
    have hb := Rv.rv_lt A (Rv.next A x)
    have hp := Rv.pass_len hL p0 p1 x
    refine ⟨⟨?_, ?_, ?_⟩, ?_, hb⟩
    · rw [← g1]
      show _ = (if _ then _ else _)
      rw [if_neg (fun e => e.elim z hn)]
    · rw [hu, Nat.add_assoc, Nat.add_comm 1 f]; exact g2
    · rw [hu, List.length_append]; omega
    · rw [hu]; exact Nat.lt_succ_self _
  · rintro x f l ⟨g1, g2, g3⟩
    have hb := Rv.rv_lt A x
    cases f with
    | zero => exact absurd g2 (Nat.not_le_of_lt hb)
    | succ f => exact ⟨f, rfl⟩
  · rintro x f l ⟨g1, g2, g3⟩
    have hp := Rv.pass_len hL p0 p1 x
    omega
end Go.Proofs.Ytmokahcjkokanaa
