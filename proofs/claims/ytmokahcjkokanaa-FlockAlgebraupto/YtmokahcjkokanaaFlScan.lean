/-
  Contracts over this program: Scan of a flock.
-/
import Derived.Test.YtmokahcjkokanaaFlSample
import Derived.Test.YtmokahcjkokanaaScanCov
import Derived.Maps.AppendAt
namespace Go.Proofs.Ytmokahcjkokanaa
open Go.RowKit Go.Shelf
/-- how far a cursor has come, by the table that there is -/
def far (s : Sx) (c : Nat) : Nat := Rv.rv (Nat.log2 (tbl s (smN s)).length) c
theorem far_lt {s : Sx} {A d : Nat} (hL : Lay s A d) (c : Nat) : far s c < s.old.length + s.young.length := by
  unfold far
  rw [hL.small, Nat.log2_two_pow]
  have h1 := Rv.rv_lt A c
  have h2 : 2 ^ A ≤ s.old.length + s.young.length := by
    rw [← hL.small]
    unfold tbl
    split <;> omega
  omega
/-- a call of Scan from a cursor: where it goes, what it tells -/
theorem fscan_any {h : ByteArray → Nat} {seed N : Nat} (W : World) (r : Roles) (R b : Nat) (s : Sx) (hr : Rec h N W r R b seed s) (hN : N ≤ 2100000000000) (c : Nat) (hc : c < 2 ^ 64) (cnt : Int) :
    ∃ (c' : Nat) (l : List ByteArray), Calls Try.prog 22 #[.pointer (some ⟨R, 0, none⟩), .int .u64 c, .int .i64 cnt] W (fun z w' => (∃ v', z = .returned (.tuple #[.int .u64 (c' : Nat), v']) ∧ Ks W.heap.size w' v' l) ∧ Below W.heap.size W w') ∧
      c' < 2 ^ 64 ∧ l.length ≤ 2 * N ∧ (∀ k, Has s k → Rv.plc c ≤ Rv.plc (h k) → (c' = 0 ∨ Rv.plc (h k) < Rv.plc c') → k ∈ l) ∧ (c' = 0 ∨ (far s c < far s c' ∧ far s c' < s.old.length + s.young.length ∧ 0 < l.length)) ∧ (c' = 0 ∨ cnt ≤ (l.length : Int)) ∧ (c = 0 → c' = 0 → l.Perm (kys s)) := by
  have hd := hr.1
  obtain ⟨hI, _, o1, o2, o3⟩ := hd.2
  have mD := dictionary_any hr
  have lift : ∀ (c' : Nat) (l : List ByteArray), Calls Try.prog 37 #[.pointer (some ⟨b, 0, none⟩), .int .u64 c, .int .i64 cnt] W (fun z w' => (∃ v', z = .returned (.tuple #[.int .u64 (c' : Nat), v']) ∧ Ks W.heap.size w' v' l) ∧ Below W.heap.size W w') →
      Calls Try.prog 22 #[.pointer (some ⟨R, 0, none⟩), .int .u64 c, .int .i64 cnt] W (fun z w' => (∃ v', z = .returned (.tuple #[.int .u64 (c' : Nat), v']) ∧ Ks W.heap.size w' v' l) ∧ Below W.heap.size W w') := by
    intro c' l mN
    clear hr hd
    have HC := keep hc
    clear hc hI o1 o2 o3
    go_enter Try.func22, Try.ntmps22
    go_wp2_with fail
    refine mD.mono ?_
    rintro _ w1 ⟨rfl, hw1⟩
    obtain rfl := hw1.symm
    go_wp2_with fail
    refine mN.mono ?_
    rintro _ w2 ⟨⟨v', rfl, hk⟩, hb⟩
    have HK := keep hk
    have HB := keep hb
    clear mN mD hk hb
    go_wp2
    refine bodyPost_ret (results_tmp2 rfl _ _ _) rfl ?_
    exact ⟨⟨v', rfl, HK.out⟩, HB.out⟩
  have hF := few_of hd.2 hN
  by_cases h0 : s.old.length = 0
  · refine ⟨0, [], lift 0 [] ?_, by decide, Nat.zero_le _, fun k hk => ?_, .inl rfl, .inl rfl, fun _ _ => by unfold kys; rw [(none_of hI h0).2]; exact List.Perm.refl _⟩
    · refine (next_zero W r b seed _ s hd.1 h0 c cnt).mono ?_
      rintro _ w' ⟨rfl, hb'⟩
      exact ⟨⟨_, rfl, ks_nil _ _⟩, hb'⟩
    · have := (has_mem hI).1 hk
      rw [(none_of hI h0).2] at this
      cases this
  · obtain ⟨A, d, hL, _, _⟩ := Rv.lay_of hI h0 (by omega) (by omega)
    have p0 := Rv.put_tbl hI (smN s)
    have p1 := Rv.put_tbl hI (1 - smN s)
    have hA : 2 ^ A < 2 ^ 64 := Nat.pow_lt_pow_right (by omega) (by have := hL.few; omega)
    have hak : (Rv.allk s).length ≤ N := by rw [(Rv.allk_perm hI).length_eq]; unfold Dc.keys; rw [List.length_map]; exact o1
    have hfl := Rv.from_len h s A d c
    refine ⟨_, _, lift _ _ (next_more W r b seed _ h s hd.1 hI hF A d hL (by omega) h0 c hc cnt _ (max_one cnt)), ?_, ?_, fun k hk hp hd => ?_, ?_, ?_, fun e0 hz => ?_⟩
    · exact Nat.lt_trans (Rv.scan_tells (max cnt 1).toNat hL p0 p1 (2 ^ A) c [] (Nat.le_add_left _ _)).2.1 hA
    · by_cases hz : (Rv.scanF s A d (max cnt 1).toNat (2 ^ A) c []).1 = 0
      · have := (Rv.from_end (max cnt 1).toNat hL p0 p1 c hz).length_eq
        omega
      · have := (Rv.from_step (max cnt 1).toNat hL p0 p1 c hz).2.2.length_eq
        rw [List.length_append] at this
        omega
    · exact Rv.scan_cov (max cnt 1).toNat hL p0 p1 c ((Rv.allk_perm hI).mem_iff.2 ((has_mem hI).1 hk)) hp hd
    · by_cases hz : (Rv.scanF s A d (max cnt 1).toNat (2 ^ A) c []).1 = 0
      · exact .inl hz
      · right
        refine ⟨?_, far_lt hL _, ?_⟩
        · unfold far
          rw [hL.small, Nat.log2_two_pow]
          exact (Rv.from_step (max cnt 1).toNat hL p0 p1 c hz).1
        · have := (Rv.scan_tells (max cnt 1).toNat hL p0 p1 (2 ^ A) c [] (Nat.le_add_left _ _)).2.2.1.resolve_left hz
          omega
    · rcases (Rv.scan_tells (max cnt 1).toNat hL p0 p1 (2 ^ A) c [] (Nat.le_add_left _ _)).2.2.1 with h | h
      · exact .inl h
      · exact .inr (by omega)
    · subst e0
      exact ((Rv.from_end (max cnt 1).toNat hL p0 p1 0 hz).trans (Rv.from_zero h s A d)).trans (Rv.allk_perm hI)
theorem app_at (B : Nat) (w : World) (v v2 : Value) (xs ys : List ByteArray) (B2 : Nat) (h1 : Ks B w v xs) (h2 : Ks B2 w v2 ys) (hb : B ≤ w.heap.size) (hl : xs.length + ys.length ≤ 8000000000000) :
    ∃ v' w', (Builtin.append_ #[27, 27] 27 #[v, v2]).run Try.prog w = .ok v' w' ∧ Ks B w' v' (xs ++ ys) ∧ Below B w w' ∧ w.grownBy w' v.ownBlock ∧ (v'.ownBlock = v.ownBlock ∨ v'.ownBlock = some w.heap.size) := by
  obtain ⟨i0, hi0, hz0, hz1, hz2⟩ := info_parts info_strK
  have h2' := h2
  unfold Ks at h2'
  rcases h2'.2 with ⟨rfl, h0⟩ | ⟨g, cap, cur, rfl, _⟩
  · have e : ys = [] := List.length_eq_zero_iff.1 h0
    subst e
    rw [List.append_nil]
    unfold Ks at h1
    exact ⟨v, w, run_append_owned_none (P := Try.prog) (w := w) B _ _ 9 i0 1 Try.underlying27 hi0 _ xs.length _ h1, h1, Below.refl _ _, ⟨rfl, rfl, rfl, Nat.le_refl _, fun _ _ _ => rfl⟩, .inl rfl⟩
  · unfold Ks at h1 h2
    obtain ⟨v', w', r1, r2, r3, _, r5⟩ := run_append_own_at (P := Try.prog) w B 27 27 9 i0 (.string .empty) 1 16 Try.underlying27 hi0 hz0 hz1 hz2 rfl (by decide) v xs.length _ h1 ⟨g, 0, none⟩ ys.length cap (ys.map Value.string) (by simp) (fun j u hu => h2.cells (g := g) rfl j u hu) (fun u hu => by
      obtain ⟨y, _, rfl⟩ := List.mem_map.1 hu
      rfl) (by unfold maxLen; omega) (by omega) hb
    refine ⟨v', w', r1, ?_, (Below.refl B w).grown r3 hb (fun k hk => (h1.lt k hk).1), r3, r5⟩
    unfold Ks
    rw [List.length_append, List.map_append]
    exact r2
theorem ks_form {B : Nat} {w : World} {v : Value} {xs : List ByteArray} (h : Ks B w v xs) : ∃ ao cap, v = .slice ao xs.length cap ∧ (xs = [] ∨ ∃ g, ao = some ⟨g, 0, none⟩ ∧ g < w.heap.size) := by
  unfold Ks at h
  rcases h.2 with ⟨rfl, h0⟩ | ⟨g, cap, cur, rfl, _, hg, _⟩
  · exact ⟨none, 0, by rw [h0], .inl (List.length_eq_zero_iff.1 h0)⟩
  · exact ⟨_, cap, rfl, .inr ⟨g, rfl, (Array.getElem?_eq_some_iff.1 hg).1⟩⟩
end Go.Proofs.Ytmokahcjkokanaa
