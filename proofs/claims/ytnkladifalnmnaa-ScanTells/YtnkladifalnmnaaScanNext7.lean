/-
  Contracts over this program: the document's own once and Next over the rows of a dict's buckets.
-/
import Derived.Test.YtnkladifalnmnaaScanNext6
import Derived.Test.YtnkladifalnmnaaScanRest1
namespace Go.Proofs.Ytnkladifalnmnaa
open Go.RowKit Go.Shelf
theorem row_tk {s : Sd} {t n : Nat} (hn : (tbl s t).length = n) (h0 : 0 < n) (x : Nat) : ((tbl s t).map Dc.keys)[x % n]? = some (tk s t x) := by
  obtain ⟨ch, h1, h2⟩ := tk_at (c := x) hn h0
  rw [hn] at h1
  rw [List.getElem?_map, h1, ← h2]
  rfl
theorem ronce_any (w : World) (B : Nat) (v1 v2 : Value) (s : Sd) (A d : Nat) (hL : Lay s A d) (h1 : Rr B w v1 (s.old.map Dc.keys)) (h2 : Rr B w v2 (s.young.map Dc.keys)) (c : Nat) (hc : c < 2 ^ 64) (hlen : (passF s A d c).length ≤ 8000000000000) :
    Calls Try.prog 30 #[v1, v2, .int .u64 c] w fun e w' => (∃ v, e = .returned (.tuple #[.int .u64 ((Rv.next A c : Nat) : Int), v]) ∧ Ks w.heap.size w' v (passF s A d c)) ∧ Below w.heap.size w w' := by
  have hA := pow_few (show A ≤ 42 by have := hL.few; omega)
  have hp := Rv.two_pos A
  by_cases hy : 0 < s.young.length
  · have hG := pow_few hL.few
    have hpG := Rv.two_pos (A + d)
    have hgr := hL.great hy
    have e : passF s A d c = tk s (smN s) c ++ grF s A d (2 ^ (A + d)) c := by unfold passF; rw [if_pos hy]
    rw [e] at hlen ⊢
    have a0 : -9223372036854775808 ≤ ((2 ^ (A + d) : Nat) : Int) := Int.le_trans (by decide) (Int.natCast_nonneg _)
    have a1 : ((2 ^ (A + d) : Nat) : Int) ≤ 9223372036854775807 := Int.ofNat_le.2 (Nat.le_trans hG (by decide))
    have hsl : (tk s (smN s) c).length ≤ 8000000000000 := by rw [List.length_append] at hlen; omega
    have mA := fun (x : Nat) (hx : x < 2 ^ 64) (W : World) => rafter_any x ((2 ^ (A + d) : Nat) : Int) (A + d) W hx a0 a1 (lg_pow (A + d))
    by_cases q : s.young.length < s.old.length
    · have hz : smN s = 1 := by unfold smN; rw [if_pos ⟨hy, q⟩]
      have hs := hL.small
      have hS := fun x => row_tk hs hp x
      have hGx := fun x => row_tk hgr hpG x
      rw [hz] at hs hgr hS hGx
      have hs : s.young.length = 2 ^ A := hs
      have hgr : s.old.length = 2 ^ (A + d) := hgr
      refine ronce_move1 w B v1 v2 _ _ h1 h2 (2 ^ (A + d)) (2 ^ A) (by rw [List.length_map]; exact hgr) (by rw [List.length_map]; exact hs) hpG hp hG hA (by rw [← hs, ← hgr]; exact q) c _ (2 ^ (A + d)) hc (tk s (smN s) c) _ (tk s (1 - smN s)) (Rv.next (A + d)) (Rv.rv (A + d)) (Gr s A d c (tk s (smN s) c ++ grF s A d (2 ^ (A + d)) c)) ?_ ?_ hlen hsl mA (fun x => Rv.next_lt _ _) (fun x f ys h q => gr_stop h q) (fun x f ys h q => gr_go h q) (fun x f ys h => gr_fuel h) (fun x f ys h => gr_len h) ⟨rfl, Nat.le_add_left _ _, rfl⟩
      · rw [hz]; exact hS c
      · intro x; rw [hz]; exact hGx x
    · have hz : smN s = 0 := by unfold smN; rw [if_neg (fun e => q e.2)]
      have hs := hL.small
      have hS := fun x => row_tk hs hp x
      have hGx := fun x => row_tk hgr hpG x
      rw [hz] at hs hgr hS hGx
      have hs : s.old.length = 2 ^ A := hs
      have hgr : s.young.length = 2 ^ (A + d) := hgr
      refine ronce_move2 w B v1 v2 _ _ h1 h2 (2 ^ A) (2 ^ (A + d)) (by rw [List.length_map]; exact hs) (by rw [List.length_map]; exact hgr) hp hpG hA hG (by rw [← hs, ← hgr]; exact q) c _ (2 ^ (A + d)) hc (tk s (smN s) c) _ (tk s (1 - smN s)) (Rv.next (A + d)) (Rv.rv (A + d)) (Gr s A d c (tk s (smN s) c ++ grF s A d (2 ^ (A + d)) c)) ?_ ?_ hlen hsl mA (fun x => Rv.next_lt _ _) (fun x f ys h q => gr_stop h q) (fun x f ys h q => gr_go h q) (fun x f ys h => gr_fuel h) (fun x f ys h => gr_len h) ⟨rfl, Nat.le_add_left _ _, rfl⟩
      · rw [hz]; exact hS c
      · intro x; rw [hz]; exact hGx x
  · have hz : smN s = 0 := by unfold smN; rw [if_neg (fun e => hy e.1)]
    have e : passF s A d c = tk s 0 c := by unfold passF; rw [if_neg hy, List.append_nil, hz]
    rw [e] at hlen ⊢
    have hs := hL.small
    have hS := fun x => row_tk hs hp x
    rw [hz] at hs hS
    have hs : s.old.length = 2 ^ A := hs
    obtain ⟨bo, cb, hv2⟩ := h2.form
    have hy0 : (s.young.map Dc.keys).length = 0 := by rw [List.length_map]; omega
    rw [hy0] at hv2
    subst hv2
    have b0 : -9223372036854775808 ≤ ((2 ^ A : Nat) : Int) := Int.le_trans (by decide) (Int.natCast_nonneg _)
    have b1 : ((2 ^ A : Nat) : Int) ≤ 9223372036854775807 := Int.ofNat_le.2 (Nat.le_trans hA (by decide))
    exact ronce_still w B v1 bo cb _ h1 (2 ^ A) c _ (by rw [List.length_map]; exact hs) hp hA (tk s 0 c) (hS c) hlen (fun W => rafter_any c ((2 ^ A : Nat) : Int) A W hc b0 b1 (lg_pow A))
/-- the document's Next tells what the program's does -/
theorem rnext_more (W : World) (B : Nat) (v1 v2 : Value) (h : ByteArray → Nat) (s : Sd) (hI : Dc.Inv h s) (A d : Nat) (hL : Lay s A d) (hk : (Dc.all s).length ≤ 8000000000000) (h0 : s.old.length ≠ 0) (h1 : Rr B W v1 (s.old.map Dc.keys)) (h2 : Rr B W v2 (s.young.map Dc.keys))
    (c : Nat) (hc : c < 2 ^ 64) (cnt : Int) (m : Nat) (hm : max cnt 1 = (m : Int)) :
    Calls Try.prog 13 #[v1, v2, .int .u64 c, .int .i64 cnt] W fun x w' => (∃ v' : Value, x = .returned (.tuple #[.int .u64 ((Rv.scanF s A d m (2 ^ A) c []).1 : Nat), v']) ∧ Ks W.heap.size w' v' (Rv.scanF s A d m (2 ^ A) c []).2) ∧ Below W.heap.size W w' := by
  have hak : (Rv.allk s).length ≤ 8000000000000 := by rw [(Rv.allk_perm hI).length_eq]; unfold Dc.keys; rw [List.length_map]; exact hk
  have p0 := Rv.put_tbl hI (smN s)
  have p1 := Rv.put_tbl hI (1 - smN s)
  have hA : 2 ^ A < 2 ^ 64 := Nat.pow_lt_pow_right (by omega) (by have := hL.few; omega)
  obtain ⟨ao, ca, hv1⟩ := h1.form
  obtain ⟨bo, cb, hv2⟩ := h2.form
  rw [List.length_map] at hv1 hv2
  have KP : Kept (∀ (x : Nat) (w : World), x < 2 ^ 64 → Below W.heap.size W w → Calls Try.prog 30 #[v1, v2, .int .u64 (x : Int)] w fun z w' => (∃ v', z = .returned (.tuple #[.int .u64 ((Rv.next A x : Nat) : Int), v']) ∧ Ks w.heap.size w' v' (passF s A d x)) ∧ Below w.heap.size w w') := fun x w hx hb => ronce_any w B v1 v2 s A d hL (h1.kept hb) (h2.kept hb) x hx (by
    have hp := Rv.pass_len hL p0 p1 x
    have := Rv.left_all h s A (Rv.rv A x)
    omega)
  rw [hv1, hv2] at KP ⊢
  have M := rnext_walk W ao bo s.old.length s.young.length ca cb c m cnt (passF s A d) (Rv.next A) (Rv.rv A)
    (fun x l f => Rv.scanF s A d m f x l = Rv.scanF s A d m (2 ^ A) c [] ∧ 2 ^ A ≤ Rv.rv A x + f ∧ l.length + Rv.left h s A (Rv.rv A x) ≤ (Rv.allk s).length)
    (fun c' l' => (c', l') = Rv.scanF s A d m (2 ^ A) c []) (2 ^ A) hc hm h0 KP ?_ ?_ ?_ ?_ ⟨rfl, Nat.le_add_left _ _, by rw [List.length_nil, Nat.zero_add]; exact Rv.left_all h s A _⟩ (fun x => Nat.lt_trans (Rv.next_lt A x) hA)
  · refine M.mono ?_
    rintro _ w' ⟨⟨c', l', v', rfl, q1, q2, _⟩, q3⟩
    rw [← q2]
    exact ⟨⟨v', rfl, q1⟩, q3⟩
  · rintro x f l ⟨g1, g2, g3⟩ hs
    rw [← g1]
    show _ = (if _ then _ else _)
    rw [if_pos hs]
  · rintro x f l ⟨g1, g2, g3⟩ z hn
    have hu := Rv.next_up z
    have hb := Rv.rv_lt A (Rv.next A x)
    have hp := Rv.pass_len hL p0 p1 x
    refine ⟨⟨?_, ?_, ?_⟩, ?_, hb⟩
    · rw [← g1]
      show _ = (if _ then _ else _)
      rw [if_neg (fun e => e.elim z hn)]
    · rw [hu, Nat.add_assoc, Nat.add_comm 1 f]; exact g2
    · rw [hu, List.length_append]; omega
    · rw [hu]; exact Nat.lt_succ_self _
  · rintro x f l ⟨g1, g2, g3⟩
    have hb := Rv.rv_lt A x
    cases f with
    | zero => exact absurd g2 (Nat.not_le_of_lt hb)
    | succ f => exact ⟨f, rfl⟩
  · rintro x f l ⟨g1, g2, g3⟩
    have hp := Rv.pass_len hL p0 p1 x
    omega
end Go.Proofs.Ytnkladifalnmnaa
