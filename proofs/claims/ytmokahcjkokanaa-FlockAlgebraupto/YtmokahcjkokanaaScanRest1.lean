/-
  Contracts over this program: rest over any table; Next with a count that is greater than all keys; what does not count in a cursor.
-/
import Derived.Test.YtmokahcjkokanaaScanNext1
namespace Go.Proofs.Ytmokahcjkokanaa
open Go.RowKit Go.Shelf
namespace Rv
/-- what is left to tell from a cursor on -/
def fromQ (h : ByteArray → Nat) (s : Sd) (A d x : Nat) : List ByteArray := toldAt h s A d x ++ (allk s).filter (fun k => decide (rv A x < rv A (h k)))
theorem from_len (h : ByteArray → Nat) (s : Sd) (A d x : Nat) : (fromQ h s A d x).length ≤ 2 * (allk s).length := by
  unfold fromQ
  have h1 := told_len h s A d x
  have h2 := List.length_filter_le (fun k => decide (rv A (h k) = rv A x)) (allk s)
  have h3 := List.length_filter_le (fun k => decide (rv A x < rv A (h k))) (allk s)
  rw [List.length_append]
  omega
theorem from_zero (h : ByteArray → Nat) (s : Sd) (A d : Nat) : (fromQ h s A d 0).Perm (allk s) := by
  unfold fromQ
  rw [told_low h s (two_pos A), rv_zero]
  have := filter_two (allk s) (fun _ => true) (fun k => decide (rv A (h k) = 0)) (fun k => decide (0 < rv A (h k))) (fun k => by rw [← Bool.decide_or]; exact (decide_eq_true (by omega)).symm) (fun k => by
    rintro ⟨a, b⟩
    have a := of_decide_eq_true a
    have b := of_decide_eq_true b
    omega)
  rw [List.filter_eq_self.2 (fun _ _ => rfl)] at this
  exact this.symm
/-- a call that ends at 0 has told all that was left -/
theorem from_end {h : ByteArray → Nat} {s : Sd} {A d : Nat} (m : Nat) (hL : Lay s A d) (h0 : Dc.Put h (tbl s (smN s))) (h1 : Dc.Put h (tbl s (1 - smN s))) (x : Nat) (hz : (scanF s A d m (2 ^ A) x []).1 = 0) : (scanF s A d m (2 ^ A) x []).2.Perm (fromQ h s A d x) := by
  obtain ⟨_, _, _, t⟩ := scan_tells m hL h0 h1 (2 ^ A) x [] (Nat.le_add_left _ _)
  rw [hz] at t
  refine t.trans ?_
  unfold fromQ endQ
  rw [List.nil_append]
  refine List.Perm.of_eq ?_
  congr 1
  apply List.filter_congr
  intro k _
  apply decide_eq_decide.2
  have := rv_lt A (h k)
  rw [if_pos rfl]
  omega
/-- another leaves what is left from where it went -/
theorem from_step {h : ByteArray → Nat} {s : Sd} {A d : Nat} (m : Nat) (hL : Lay s A d) (h0 : Dc.Put h (tbl s (smN s))) (h1 : Dc.Put h (tbl s (1 - smN s))) (x : Nat) (hz : ¬ (scanF s A d m (2 ^ A) x []).1 = 0) :
    rv A x < rv A (scanF s A d m (2 ^ A) x []).1 ∧ (scanF s A d m (2 ^ A) x []).1 < 2 ^ A ∧ ((scanF s A d m (2 ^ A) x []).2 ++ fromQ h s A d (scanF s A d m (2 ^ A) x []).1).Perm (fromQ h s A d x) := by
  obtain ⟨t1, t2, _, t⟩ := scan_tells m hL h0 h1 (2 ^ A) x [] (Nat.le_add_left _ _)
  generalize scanF s A d m (2 ^ A) x [] = z at *
  unfold endQ at t t1
  rw [if_neg hz] at t t1
  refine ⟨t1, t2, ?_⟩
  rw [List.nil_append] at t
  unfold fromQ
  rw [told_low h s t2]
  refine (t.append_right _).trans ?_
  rw [List.append_assoc]
  refine List.Perm.append_left _ ?_
  have e1 := filter_two (allk s) (fun k => decide (rv A z.1 ≤ rv A (h k))) (fun k => decide (rv A (h k) = rv A z.1)) (fun k => decide (rv A z.1 < rv A (h k))) (fun k => by rw [← Bool.decide_or]; apply decide_eq_decide.2; omega) (fun k => by
    rintro ⟨a, b⟩
    have a := of_decide_eq_true a
    have b := of_decide_eq_true b
    omega)
  have e2 := filter_two (allk s) (fun k => decide (rv A x < rv A (h k))) (fun k => decide (rv A x < rv A (h k) ∧ rv A (h k) < rv A z.1)) (fun k => decide (rv A z.1 ≤ rv A (h k))) (fun k => by rw [← Bool.decide_or]; apply decide_eq_decide.2; omega) (fun k => by
    rintro ⟨a, b⟩
    have a := of_decide_eq_true a
    have b := of_decide_eq_true b
    omega)
  exact (List.Perm.append_left _ e1.symm).trans e2.symm
theorem mod_low {A d c c2 : Nat} (h : c % 2 ^ (A + d) = c2 % 2 ^ (A + d)) : c % 2 ^ A = c2 % 2 ^ A := by
  have e : 2 ^ A ∣ 2 ^ (A + d) := ⟨2 ^ d, Nat.pow_add _ _ _⟩
  rw [← Nat.mod_mod_of_dvd c e, h, Nat.mod_mod_of_dvd c2 e]
theorem next_mod2 {L c c2 : Nat} (h : c % 2 ^ L = c2 % 2 ^ L) : next L c = next L c2 := by rw [← next_mod L c, h, next_mod]
theorem gr_mod {s : Sd} {A d : Nat} (hl : (tbl s (1 - smN s)).length = 2 ^ (A + d)) (f : Nat) {c c2 : Nat} (h : c % 2 ^ (A + d) = c2 % 2 ^ (A + d)) : grF s A d f c = grF s A d f c2 := by
  cases f with
  | zero => rfl
  | succ f =>
    unfold grF tk
    rw [hl, h, next_mod2 h]
theorem pass_mod {s : Sd} {A d : Nat} (hL : Lay s A d) {c c2 : Nat} (h : c % 2 ^ (A + d) = c2 % 2 ^ (A + d)) : passF s A d c = passF s A d c2 := by
  have hs : tk s (smN s) c = tk s (smN s) c2 := by unfold tk; rw [hL.small, mod_low h]
  unfold passF
  rw [hs]
  congr 1
  by_cases hy : 0 < s.young.length
  · rw [if_pos hy, if_pos hy]; exact gr_mod (hL.great hy) _ h
  · rw [if_neg hy, if_neg hy]
theorem scan_mod {s : Sd} {A d : Nat} (m : Nat) (hL : Lay s A d) {c c2 : Nat} (h : c % 2 ^ (A + d) = c2 % 2 ^ (A + d)) (f : Nat) (l : List ByteArray) : scanF s A d m (f + 1) c l = scanF s A d m (f + 1) c2 l := by
  unfold scanF
  rw [pass_mod hL h, next_mod2 (mod_low h)]
end Rv
/-- what rest tells -/
def Rs (h : ByteArray → Nat) (s : Sd) (c : Nat) (l : List ByteArray) : Prop := (s.old.length = 0 ∧ l = []) ∨ (s.old.length ≠ 0 ∧ ∃ A d, Lay s A d ∧ l.Perm (Rv.fromQ h s A d c))
theorem none_of {h : ByteArray → Nat} {s : Sd} (hI : Dc.Inv h s) (h0 : s.old.length = 0) : s.young.length = 0 ∧ Dc.all s = [] := by
  have ho : s.old = [] := List.length_eq_zero_iff.1 h0
  have hy : s.young = [] := Classical.byContradiction fun e => by have := hI.move e; omega
  refine ⟨by rw [hy]; rfl, ?_⟩
  rw [Dc.all_eq hI, ho, hy]
  rfl
theorem small_len {s : Sd} {A d : Nat} (hL : Lay s A d) : 2 ^ A ≤ s.old.length + s.young.length := by
  rw [← hL.small]
  unfold tbl
  split <;> omega
theorem max_one (cnt : Int) : max cnt 1 = ((max cnt 1).toNat : Int) := by omega
theorem rs_zero {h : ByteArray → Nat} {s : Sd} {l : List ByteArray} (hI : Dc.Inv h s) (hr : Rs h s 0 l) : l.Perm (Dc.keys (Dc.all s)) := by
  rcases hr with ⟨h0, rfl⟩ | ⟨_, A, d, _, hp⟩
  · rw [(none_of hI h0).2]; exact List.Perm.refl _
  · exact hp.trans ((Rv.from_zero h s A d).trans (Rv.allk_perm hI))
/-- what Next tells, as a function of the cursor -/
theorem next_any {h : ByteArray → Nat} (W : World) (r : Roles) (b seed N : Nat) (s : Sd) (hd : Dd h N W r b seed s) (hN : N ≤ 2100000000000) (cnt : Int) :
    ∃ (nx : Nat → Nat) (tl : Nat → List ByteArray), (∀ (x : Nat) (w : World), x < 2 ^ 64 → Below W.heap.size W w → Calls Try.prog 37 #[.pointer (some ⟨b, 0, none⟩), .int .u64 x, .int .i64 cnt] w fun z w' => (∃ v', z = .returned (.tuple #[.int .u64 (nx x : Nat), v']) ∧ Ks w.heap.size w' v' (tl x)) ∧ Below w.heap.size w w') ∧
      (((Dc.all s).length : Int) < cnt → nx 0 = 0 ∧ (tl 0).Perm (Dc.keys (Dc.all s))) ∧ (∀ c c2, c % max (max s.old.length s.young.length) 1 = c2 % max (max s.old.length s.young.length) 1 → nx c = nx c2 ∧ tl c = tl c2) := by
  obtain ⟨hI, _, o1, o2, o3⟩ := hd.2
  have hF := few_of hd.2 hN
  by_cases h0 : s.old.length = 0
  · refine ⟨fun _ => 0, fun _ => [], fun x w hx hb => ?_, fun _ => ⟨rfl, by rw [(none_of hI h0).2]; exact List.Perm.refl _⟩, fun _ _ _ => ⟨rfl, rfl⟩⟩
    refine (next_zero w r b seed _ s (hd.1.kept hb.size (fun k hk _ => hb.block k hk)) h0 x cnt).mono ?_
    rintro _ w' ⟨rfl, hb'⟩
    exact ⟨⟨_, rfl, ks_nil _ _⟩, hb'⟩
  · obtain ⟨A, d, hL, hM, hM0⟩ := Rv.lay_of hI h0 (by omega) (by omega)
    have p0 := Rv.put_tbl hI (smN s)
    have p1 := Rv.put_tbl hI (1 - smN s)
    refine ⟨fun x => (Rv.scanF s A d (max cnt 1).toNat (2 ^ A) x []).1, fun x => (Rv.scanF s A d (max cnt 1).toNat (2 ^ A) x []).2, fun x w hx hb => ?_, fun hbig => ?_, fun c c2 hcc => ?_⟩
    · exact next_more w r b seed _ h s (hd.1.kept hb.size (fun k hk _ => hb.block k hk)) hI hF A d hL (by omega) h0 x hx cnt _ (max_one cnt)
    · have hak : (Rv.allk s).length = (Dc.all s).length := by rw [(Rv.allk_perm hI).length_eq]; unfold Dc.keys; rw [List.length_map]
      have hz : (Rv.scanF s A d (max cnt 1).toNat (2 ^ A) 0 []).1 = 0 := Classical.byContradiction fun hz => by
        obtain ⟨_, _, t3, _⟩ := Rv.scan_tells (max cnt 1).toNat hL p0 p1 (2 ^ A) 0 [] (Nat.le_add_left _ _)
        have hle := (Rv.from_step (max cnt 1).toNat hL p0 p1 0 hz).2.2.length_eq
        rw [List.length_append, (Rv.from_zero h s A d).length_eq] at hle
        have := t3.resolve_left hz
        omega
      exact ⟨hz, (Rv.from_end _ hL p0 p1 0 hz).trans ((Rv.from_zero h s A d).trans (Rv.allk_perm hI))⟩
    · have e : max (max s.old.length s.young.length) 1 = 2 ^ (A + d) := by
        by_cases hy : 0 < s.young.length
        · rw [hM hy]; omega
        · have hy0 : s.young.length = 0 := by omega
          have hs := hL.small
          have hz : smN s = 0 := by unfold smN; rw [if_neg (fun e => hy e.1)]
          rw [hz] at hs
          have hs : s.old.length = 2 ^ A := hs
          rw [hM0 hy0, Nat.add_zero, ← hs]
          omega
      rw [e] at hcc
      obtain ⟨f, hf⟩ : ∃ f, 2 ^ A = f + 1 := ⟨2 ^ A - 1, by have := Rv.two_pos A; omega⟩
      rw [hf]
      have := Rv.scan_mod (max cnt 1).toNat hL hcc f []
      show (Rv.scanF _ _ _ _ _ _ _).1 = (Rv.scanF _ _ _ _ _ _ _).1 ∧ (Rv.scanF _ _ _ _ _ _ _).2 = (Rv.scanF _ _ _ _ _ _ _).2
      rw [this]
      exact ⟨rfl, rfl⟩
end Go.Proofs.Ytmokahcjkokanaa
