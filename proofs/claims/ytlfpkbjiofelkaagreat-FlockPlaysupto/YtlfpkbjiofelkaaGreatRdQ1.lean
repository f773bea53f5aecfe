/-
  A flock beside the document's own: a scan of both tells the same, and the statement's own scans.
-/
import Derived.Test.YtlfpkbjiofelkaaGreatRdQ0
import Derived.Test.YtlfpkbjiofelkaaGreatRdS1
import Derived.Test.YtlfpkbjiofelkaaGreatFlScan
namespace Go.Proofs.YtlfpkbjiofelkaaGreat
open Go.RowKit Go.Shelf
set_option linter.unusedVariables false
set_option linter.unusedSimpArgs false
set_option maxRecDepth 100000
namespace Rd
/-- what a scan tells -/
def ScE (W : World) (c' : Nat) (l : List ByteArray) (z : Ending) (w' : World) : Prop := (∃ v' : Value, z = .returned (.tuple #[.int .u64 (c' : Nat), v']) ∧ Ks W.heap.size w' v' l) ∧ Below W.heap.size W w'
set_option maxHeartbeats 1000000 in
theorem fscan_lift {h : ByteArray → Nat} {N : Nat} {W : World} {r : Roles} {R b seed : Nat} {s : Sx} (hr : Rec h N W r R b seed s) (c : Nat) (cnt : Int) (c' : Nat) (l : List ByteArray)
    (mN : Calls Tryz.prog 57 #[.pointer (some ⟨b, 0, none⟩), .int .u64 c, .int .i64 cnt] W (ScE W c' l)) :
    Calls Tryz.prog 37 #[.pointer (some ⟨R, 0, none⟩), .int .u64 c, .int .i64 cnt] W (ScE W c' l) := by
  have mD := dictionary_any hr
  clear hr
  go_enter Tryz.func37, Tryz.ntmps37
  go_wp2_with fail
  refine mD.mono ?_
  rintro _ w1 ⟨rfl, hw1⟩
  obtain rfl := hw1.symm
  go_wp2_with fail
  refine mN.mono ?_
  rintro _ w2 ⟨⟨v', rfl, hk⟩, hb⟩
  have HK := keep hk
  have HB := keep hb
  clear mN mD hk hb
  go_wp2
  refine bodyPost_ret (results_tmp2 rfl _ _ _) rfl ?_
  exact ⟨⟨v', rfl, HK.out⟩, HB.out⟩
theorem scan_both {h : ByteArray → Nat} {N : Nat} {w : World} {r q : Roles} {R R2 b b2 seed : Nat} {v : Value} {l : List ByteArray} {s : Sf} {KV : List (ByteArray × Int)} (hr : Rec h N w r R b seed s) (hf : RF h N w q R2 b2 seed v l s KV) (hN : N ≤ 2100000000000) (c : Nat) (hc : c < 2 ^ 64) (cnt : Int) :
    ∃ (c' : Nat) (o : List ByteArray), c' < 2 ^ 64 ∧ o.length ≤ 2 * N ∧
      (∀ W, Below w.heap.size w W → Calls Tryz.prog 37 #[.pointer (some ⟨R, 0, none⟩), .int .u64 c, .int .i64 cnt] W (ScE W c' o)) ∧
      (∀ W, Below w.heap.size w W → Calls Tryz.prog 38 #[.pointer (some ⟨R2, 0, none⟩), .int .u64 c, .int .i64 cnt] W (ScE W c' o)) := by
  have hd := hr.1
  obtain ⟨hI, _, o1, o2, o3⟩ := hd.2
  have hF := few_of hd.2 hN
  by_cases h0 : s.old.length = 0
  · refine ⟨0, [], by decide, Nat.zero_le _, fun W hb => fscan_lift (hr.below hb) c cnt 0 [] ?_, fun W hb => rfscan_zero (hf.below hb).1 h0 c cnt⟩
    refine (next_zero W r b seed _ s (hr.below hb).1.1 h0 c cnt).mono ?_
    rintro _ w' ⟨rfl, hb'⟩
    exact ⟨⟨_, rfl, ks_nil _ _⟩, hb'⟩
  · obtain ⟨A, d, hL, _, _⟩ := Rv.lay_of hI h0 (by omega) (by omega)
    have p0 := Rv.put_tbl hI (smN s)
    have p1 := Rv.put_tbl hI (1 - smN s)
    have hA : 2 ^ A < 2 ^ 64 := Nat.pow_lt_pow_right (by omega) (by have := hL.few; omega)
    have hak : (Rv.allk s).length ≤ N := by rw [(Rv.allk_perm hI).length_eq]; unfold Dc.keys; rw [List.length_map]; exact o1
    have hfl := Rv.from_len h s A d c
    refine ⟨_, _, ?_, ?_, fun W hb => fscan_lift (hr.below hb) c cnt _ _ (next_more W r b seed _ h s (hr.below hb).1.1 hI hF A d hL (by omega) h0 c hc cnt _ (max_one cnt)), fun W hb => rfscan_any (hf.below hb).1 A d hL (by omega) h0 c hc cnt _ (max_one cnt)⟩
    · exact Nat.lt_trans (Rv.scan_tells (max cnt 1).toNat hL p0 p1 (2 ^ A) c [] (Nat.le_add_left _ _)).2.1 hA
    · by_cases hz : (Rv.scanF s A d (max cnt 1).toNat (2 ^ A) c []).1 = 0
      · have := (Rv.from_end (max cnt 1).toNat hL p0 p1 c hz).length_eq
        omega
      · have := (Rv.from_step (max cnt 1).toNat hL p0 p1 c hz).2.2.length_eq
        rw [List.length_append] at this
        omega
set_option maxHeartbeats 4000000 in
theorem scans_any {h : ByteArray → Nat} {N : Nat} {w : World} {O : Nat → Prop} {R R2 seed : Nat} {l : List ByteArray} {s : Sf} (hp : Pf h N w O R R2 seed l s) (hN : N ≤ 2000000000000) (c : Nat) (hc : c < 2 ^ 64) (cnt : Int) :
    Calls Tryz.prog 11 #[.pointer (some ⟨R, 0, none⟩), .pointer (some ⟨R2, 0, none⟩), .int .u64 c, .int .i64 cnt] w fun e w' => e = .returned (.bool true) ∧ Below w.heap.size w w' := by
  obtain ⟨r, b, q, b2, v, KV, hr, hf, ha, _⟩ := hp.ex
  have MS := keep (fun (c : Nat) (hc : c < 2 ^ 64) => scan_both hr hf (by omega) c hc cnt)
  have HN := keep hN
  clear hr hf ha hp hN
  go_enter Tryz.func11, Tryz.ntmps11
  go_wp2
  go_loopg [2, 13] 40 (fun kx s2 s13 wr => ∃ i c : Nat, s13 = .int .i64 i ∧ s2 = .int .u64 c ∧ c < 2 ^ 64 ∧ i ≤ 40 ∧ 40 - i ≤ kx ∧ Kept (Below w.heap.size w wr))
  case atStart => exact ⟨0, c, rfl, rfl, hc, by omega, by omega, Below.refl _ _⟩
  case round =>
    clear hc
    obtain ⟨i, c, rfl, rfl, hc, hin, hg, KB⟩ := hrel
    by_cases hlt : i < 40
    · have hiz : (i : Int) < 40 := by omega
      have hwi : IntKind.i64.wrap ((i : Int) + 1) = (i : Int) + 1 := by rw [IntKind.wrap_i64]; omega
      obtain ⟨c', o, hc', ho, m1, m2⟩ := MS.out c hc
      have M2 := keep m2
      have HC := keep hc'
      have HO := keep ho
      have M1 := keep (m1 wr KB.out)
      clear hc hc' ho m1 m2 MS
      go_wp2_with fail
      refine M1.out.mono ?_
      rintro _ w1 ⟨⟨v1, rfl, k1⟩, b1⟩
      obtain ⟨ao1, cp1, rfl⟩ := ks_len k1
      have B1 := keep (bup KB.out b1)
      have K1 := keep k1
      have G1 := keep (fun k (hk : (Value.slice ao1 o.length cp1).ownBlock = some k) => own_lt k1 hk)
      have S1 := keep (KB.out.size)
      have M2' := keep (M2.out w1 B1.out)
      clear b1 k1 M1 M2 KB
      go_wp2_with fail
      refine M2'.out.mono ?_
      rintro _ w2 ⟨⟨v2, rfl, k2⟩, b2⟩
      obtain ⟨ao2, cp2, rfl⟩ := ks_len k2
      have B2 := keep (bup B1.out b2)
      have K2 := keep k2
      have K1' := keep (ks_bel K1.out b2)
      clear b2 k2 M2' K1
      generalize hn : o.length = n at *
      go_wp2_with fail
      refine (same_any w2 _ _ _ _ o K1'.out K2.out).mono ?_
      rintro _ w3 ⟨rfl, b3⟩
      have B3 := keep (bup B2.out b3)
      have K1b := keep (ks_bel K1'.out b3)
      clear b3 K1' K2
      go_wp2_with fail
      refine (spoil_any w3 _ o (tx_ks K1b.out) (by rw [hn]; have := HO.out; have := HN.out; omega)).mono ?_
      rintro _ w4 ⟨rfl, f4⟩
      have B4 := keep (f4.bel B3.out (fun k hk => Nat.le_trans S1.out (World.ownsRow.lt K1b.out k hk).1))
      clear f4 K1b
      by_cases hz : c' = 0
      · subst hz
        go_wp2
        go_ret
        exact ⟨rfl, B4.out⟩
      · have hz1 : ¬ ((c' : Nat) : Int) = 0 := by omega
        have hz2 : (((c' : Nat) : Int) == 0) = false := by rw [beq_eq_false_iff_ne]; exact hz1
        go_wp2
        go_roundg (40 - (i + 1))
        case measure => omega
        case rel => exact ⟨i + 1, c', by simp, rfl, HC.out, by omega, Nat.le_refl _, B4.out⟩
    · obtain rfl : i = 40 := by omega
      go_wp2
      go_ret
      exact ⟨rfl, KB.out⟩
end Rd
end Go.Proofs.YtlfpkbjiofelkaaGreat
