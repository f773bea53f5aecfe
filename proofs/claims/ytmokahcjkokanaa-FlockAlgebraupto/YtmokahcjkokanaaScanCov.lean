/-
  What a scan tells over a table that changes: each key whose place lies between two cursors.
-/
import Derived.Test.YtmokahcjkokanaaScanRest1
namespace Go.Proofs.Ytmokahcjkokanaa
open Go.RowKit Go.Shelf
namespace Rv
/-- a place, or a cursor, with all its digits turned round -/
def plc (x : Nat) : Nat := rv 64 x
theorem plc_zero : plc 0 = 0 := rv_zero 64
theorem plc_div {L : Nat} (hL : L ≤ 64) (x : Nat) : plc x / 2 ^ (64 - L) = rv L x := by
  have h := (rv_low L (64 - L) x).1
  rw [Nat.add_sub_cancel' hL] at h
  exact h
theorem plc_mono {L a b : Nat} (hL : L ≤ 64) (h : plc a ≤ plc b) : rv L a ≤ rv L b := by
  rw [← plc_div hL a, ← plc_div hL b]
  exact Nat.div_le_div_right h
theorem plc_lt {A c x : Nat} (hA : A ≤ 64) (hc : c < 2 ^ A) (h : plc x < plc c) : rv A x < rv A c := by
  have e : plc c = rv A c * 2 ^ (64 - A) := by
    have := rv_wide (d := 64 - A) hc
    rw [Nat.add_sub_cancel' hA] at this
    exact this
  rw [← plc_div hA x]
  rw [e] at h
  rw [Nat.div_lt_iff_lt_mul (two_pos _)]
  exact h
theorem allk_mem {h : ByteArray → Nat} {s : Sd} {A d c : Nat} (hL : Lay s A d) {k : ByteArray} (hk : k ∈ allk s) (hp : plc c ≤ plc (h k)) : k ∈ toldAt h s A d c ∨ rv A c < rv A (h k) := by
  have hf := hL.few
  have h1 := plc_mono (L := A) (by omega) hp
  have h2 := plc_mono (L := A + d) (by omega) hp
  rcases Nat.eq_or_lt_of_le h1 with e | e
  · left
    unfold toldAt
    unfold allk at hk
    rcases List.mem_append.1 hk with hk | hk
    · exact List.mem_append_left _ (List.mem_filter.2 ⟨hk, decide_eq_true e.symm⟩)
    · refine List.mem_append_right _ ?_
      by_cases hy : 0 < s.young.length
      · rw [if_pos hy] at hk ⊢
        exact List.mem_filter.2 ⟨hk, decide_eq_true ⟨e.symm, h2⟩⟩
      · rw [if_neg hy] at hk
        cases hk
  · exact .inr e
theorem from_cov {h : ByteArray → Nat} {s : Sd} {A d c : Nat} (hL : Lay s A d) {k : ByteArray} (hk : k ∈ allk s) (hp : plc c ≤ plc (h k)) : k ∈ fromQ h s A d c := by
  unfold fromQ
  rcases allk_mem hL hk hp with q | q
  · exact List.mem_append_left _ q
  · exact List.mem_append_right _ (List.mem_filter.2 ⟨hk, decide_eq_true q⟩)
theorem scan_cov {h : ByteArray → Nat} {s : Sd} {A d : Nat} (m : Nat) (hL : Lay s A d) (h0 : Dc.Put h (tbl s (smN s))) (h1 : Dc.Put h (tbl s (1 - smN s))) (c : Nat) {k : ByteArray} (hk : k ∈ allk s) (hp : plc c ≤ plc (h k))
    (hd : (scanF s A d m (2 ^ A) c []).1 = 0 ∨ plc (h k) < plc (scanF s A d m (2 ^ A) c []).1) : k ∈ (scanF s A d m (2 ^ A) c []).2 := by
  by_cases hz : (scanF s A d m (2 ^ A) c []).1 = 0
  · exact (from_end m hL h0 h1 c hz).mem_iff.2 (from_cov hL hk hp)
  · have hd := hd.resolve_left hz
    obtain ⟨_, t2, _, t⟩ := scan_tells m hL h0 h1 (2 ^ A) c [] (Nat.le_add_left _ _)
    refine t.mem_iff.2 ?_
    rw [List.nil_append]
    rcases allk_mem hL hk hp with q | q
    · exact List.mem_append_left _ q
    · refine List.mem_append_right _ (List.mem_filter.2 ⟨hk, decide_eq_true ⟨q, ?_⟩⟩)
      unfold endQ
      rw [if_neg hz]
      exact plc_lt (by have := hL.few; omega) t2 hd
end Rv
/-- the keys of a dict -/
def Has (s : Sd) (k : ByteArray) : Prop := (lk s k).isSome = true
theorem has_mem {h : ByteArray → Nat} {s : Sd} (hI : Dc.Inv h s) {k : ByteArray} : Has s k ↔ k ∈ Dc.keys (Dc.all s) := by
  have hnd : (Dc.keys (Dc.all s)).Nodup := by rw [Dc.all_eq hI]; exact hI.nodup
  unfold Has lk
  rw [Option.isSome_iff_exists]
  constructor
  · rintro ⟨v, hv⟩
    exact List.mem_map.2 ⟨(k, v), (Dc.look_mem hnd k v).1 hv, rfl⟩
  · intro hk
    obtain ⟨⟨k', v⟩, he, rfl⟩ := List.mem_map.1 hk
    exact ⟨v, (Dc.look_mem hnd k' v).2 he⟩
/-- a call of Next from a cursor: where it goes, what it tells -/
theorem next_cov {h : ByteArray → Nat} (W : World) (r : Roles) (b seed N : Nat) (s : Sd) (hd : Dd h N W r b seed s) (hN : N ≤ 2100000000000) (c : Nat) (hc : c < 2 ^ 64) (cnt : Int) :
    ∃ (c' : Nat) (l : List ByteArray), Calls Try.prog 37 #[.pointer (some ⟨b, 0, none⟩), .int .u64 c, .int .i64 cnt] W (fun z w' => (∃ v', z = .returned (.tuple #[.int .u64 (c' : Nat), v']) ∧ Ks W.heap.size w' v' l) ∧ Below W.heap.size W w') ∧
      c' < 2 ^ 64 ∧ l.length ≤ 2 * N ∧ ∀ k, Has s k → Rv.plc c ≤ Rv.plc (h k) → (c' = 0 ∨ Rv.plc (h k) < Rv.plc c') → k ∈ l := by
  obtain ⟨hI, _, o1, o2, o3⟩ := hd.2
  have hF := few_of hd.2 hN
  by_cases h0 : s.old.length = 0
  · refine ⟨0, [], ?_, by decide, Nat.zero_le _, fun k hk => ?_⟩
    · refine (next_zero W r b seed _ s hd.1 h0 c cnt).mono ?_
      rintro _ w' ⟨rfl, hb'⟩
      exact ⟨⟨_, rfl, ks_nil _ _⟩, hb'⟩
    · have := (has_mem hI).1 hk
      rw [(none_of hI h0).2] at this
      cases this
  · obtain ⟨A, d, hL, _, _⟩ := Rv.lay_of hI h0 (by omega) (by omega)
    have p0 := Rv.put_tbl hI (smN s)
    have p1 := Rv.put_tbl hI (1 - smN s)
    have hA : 2 ^ A < 2 ^ 64 := Nat.pow_lt_pow_right (by omega) (by have := hL.few; omega)
    have hak : (Rv.allk s).length ≤ N := by rw [(Rv.allk_perm hI).length_eq]; unfold Dc.keys; rw [List.length_map]; exact o1
    have hfl := Rv.from_len h s A d c
    refine ⟨_, _, next_more W r b seed _ h s hd.1 hI hF A d hL (by omega) h0 c hc cnt _ (max_one cnt), ?_, ?_, fun k hk hp hd => ?_⟩
    · exact Nat.lt_trans (Rv.scan_tells (max cnt 1).toNat hL p0 p1 (2 ^ A) c [] (Nat.le_add_left _ _)).2.1 hA
    · by_cases hz : (Rv.scanF s A d (max cnt 1).toNat (2 ^ A) c []).1 = 0
      · have := (Rv.from_end (max cnt 1).toNat hL p0 p1 c hz).length_eq
        omega
      · have := (Rv.from_step (max cnt 1).toNat hL p0 p1 c hz).2.2.length_eq
        rw [List.length_append] at this
        omega
    · exact Rv.scan_cov (max cnt 1).toNat hL p0 p1 c ((Rv.allk_perm hI).mem_iff.2 ((has_mem hI).1 hk)) hp hd
theorem rest_cov {h : ByteArray → Nat} {s : Sd} {N c : Nat} {l : List ByteArray} (hO : Okd h N s) (hr : Rs h s c l) : l.length ≤ 2 * N ∧ ∀ k, Has s k → Rv.plc c ≤ Rv.plc (h k) → k ∈ l := by
  have hI := hO.1
  rcases hr with ⟨h0, rfl⟩ | ⟨_, A, d, hL, hp⟩
  · refine ⟨Nat.zero_le _, fun k hk => ?_⟩
    have := (has_mem hI).1 hk
    rw [(none_of hI h0).2] at this
    cases this
  · have hak : (Rv.allk s).length ≤ N := by rw [(Rv.allk_perm hI).length_eq]; unfold Dc.keys; rw [List.length_map]; exact hO.2.2.1
    have hfl := Rv.from_len h s A d c
    have hle := hp.length_eq
    exact ⟨by omega, fun k hk hq => hp.mem_iff.2 (Rv.from_cov hL ((Rv.allk_perm hI).mem_iff.2 ((has_mem hI).1 hk)) hq)⟩
end Go.Proofs.Ytmokahcjkokanaa
