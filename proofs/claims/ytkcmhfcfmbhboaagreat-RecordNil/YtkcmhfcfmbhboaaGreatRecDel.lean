/-
  Contracts over this program: Set of what is too long; Delete of a record.
-/
import Derived.Test.YtkcmhfcfmbhboaaGreatRecSet
namespace Go.Proofs.YtkcmhfcfmbhboaaGreat
open Go.RowKit Go.Shelf
set_option maxRecDepth 100000 in
set_option maxHeartbeats 1000000 in
theorem rset_long {h : ByteArray → Nat} {seed N : Nat} {w : World} {r : Roles} {R b : Nat} {s : Sx} (hr : Rec h N w r R b seed s) (f v : ByteArray) (hl : (tol f || tol v) = true) :
    Calls Tryz.prog 17 #[.pointer (some ⟨R, 0, none⟩), .string f, .string v] w fun e w' => e = .returned (.tuple #[.bool false, .int .i64 2]) ∧ Below w.heap.size w w' ∧ Rec h N w' r R b seed s := by
  obtain ⟨W1, hW1⟩ : ∃ W1, w.alloc (.cells #[.string f, .string v] 9) = W1 := ⟨_, rfl⟩
  have hb1 : Below w.heap.size w W1 := by rw [← hW1]; exact (Below.refl _ w).alloc (Nat.le_refl _) _
  have hg1 : W1.heap[w.heap.size]? = some (.cells #[.string f, .string v] 9 (0, 0)) := by rw [← hW1]; exact heap_alloc_new _ _
  have mT := tooLong_any W1 w.heap.size f v (by simp [World.cell?, hg1]) (by simp [World.cell?, hg1])
  rw [hl] at mT
  have HR := keep hr
  have HB1 := keep hb1
  clear hr hb1 hg1 hl
  go_enter Tryz.func17, Tryz.ntmps17
  go_wp2_with fail
  refine mT.mono ?_
  rintro _ w' ⟨rfl, hw'⟩
  obtain rfl := hw'.symm
  go_wp2
  refine bodyPost_ret (results_tmp2 rfl _ _ _) rfl ?_
  exact ⟨rfl, HB1.out, HR.out.below HB1.out⟩
theorem rdel_end {h : ByteArray → Nat} {N seed : Nat} {w w2 W3 w4 : World} {r r' r4 : Roles} {R b : Nat} {s s' s4 : Sx} {f : ByteArray} {V : Int} (hr : Rec h N w r R b seed s) (q1 : Rec h N w2 r' R b seed s') (q2 : Samd s s') (q3 : Fr w (rr r R) w2 (rr r' R)) (hc : Cst R seed b V w2 W3)
    (p1 : Dd h N w4 r4 b seed s4) (p2 : Deld s' s4 f) (p3 : Fr W3 r' w4 r4) (hV : V + (cstO f (lk s f) : Nat) = (cst (Dc.all s) : Nat)) :
    Rec h N w4 r4 R b seed s4 ∧ Deld s s4 f ∧ Fr w (rr r R) w4 (rr r4 R) := by
  obtain ⟨h1, h2, h3, h4⟩ := hr
  have hl3 : R < W3.heap.size := (Array.getElem?_eq_some_iff.1 hc.2.2.1).1
  obtain ⟨k3, k4⟩ := p3.2.2 R hl3 q1.2.2.1
  have e1 := del_cst q1.1.2.1 p1.2.1 p2
  rw [cst_perm (sam_cst h1.2.1 q1.1.2.1 q2), q2.1 f] at e1
  refine ⟨⟨p1, h2.del (sam_del q2 p2), k4, ?_⟩, sam_del q2 p2, q3.trans ((hc.fr r').trans (p3.rr R))⟩
  rw [k3, hc.2.2.1]
  have : V = ((cst (Dc.all s4) : Nat) : Int) := by omega
  rw [this]
set_option maxRecDepth 100000 in
set_option maxHeartbeats 1000000 in
theorem rdel_any {h : ByteArray → Nat} {seed N : Nat} (hH : HashIs seed h) {w : World} {r : Roles} {R b : Nat} {s : Sx} (hr : Rec h N w r R b seed s) (hN : N + 1 ≤ 2600000000000) (f : ByteArray) (hf : f.size ≤ maxLen) :
    Calls Tryz.prog 23 #[.pointer (some ⟨R, 0, none⟩), .string f] w fun e w' => e = .returned (.bool (lk s f).isSome) ∧ ∃ r' s', Rec h N w' r' R b seed s' ∧ Deld s s' f ∧ Fr w (rr r R) w' (rr r' R) := by
  have mG := rget_any hH hr (by omega) f hf
  have hB := hr.2.1.cst hr.1.2.1
  have HR := keep hr
  have HN := keep hN
  have HF := keep hf
  have HB := keep hB
  clear hr hf hB hN
  unfold got at mG
  cases hlk : lk s f with
  | none =>
    rw [hlk] at mG
    have HL := keep hlk
    clear hlk
    go_enter Tryz.func23, Tryz.ntmps23
    go_wp2_with fail
    refine mG.mono ?_
    rintro _ w2 ⟨rfl, r', s', q1, q2, q3⟩
    go_wp2
    go_ret
    refine ⟨rfl, r', s', q1, ⟨fun k => ?_, ?_⟩, q3⟩
    · rw [q2.1 k]
      by_cases e : k = f
      · rw [if_pos e, e]; exact HL.out
      · rw [if_neg e]
    · rw [q2.2, HL.out]; rfl
  | some x =>
    rw [hlk] at mG
    have HL := keep hlk
    have hsz := HR.out.2.1.1 f x hlk
    have hcl := cst_split (k := f) (all_nodup HR.out.1.2.1)
    rw [show Dc.look f (Dc.all s) = some x from hlk] at hcl
    simp only [cstO] at hcl
    have hge : 32 + f.size + x.size ≤ cst (Dc.all s) := by omega
    clear hlk hcl
    go_enter Tryz.func23, Tryz.ntmps23
    go_wp2_with fail
    refine mG.mono ?_
    rintro _ w2 ⟨rfl, r', s', q1, q2, q3⟩
    have k1' := q1.2.2.2
    rw [cst_perm (sam_cst HR.out.1.2.1 q1.1.2.1 q2)] at k1'
    obtain ⟨d0, d1, d2, df⟩ := three k1'
    have MC1 := keep (fun W => costOf_any f x W hsz.1 hsz.2)
    have hwr1 : IntKind.i64.wrap ((cst (Dc.all s) : Nat) - ((32 + f.size + x.size : Nat) : Int)) = ((cst (Dc.all s) - (32 + f.size + x.size) : Nat) : Int) := by
      rw [IntKind.wrap_i64]; have := HB.out; omega
    have hfin : ((cst (Dc.all s) - (32 + f.size + x.size) : Nat) : Int) + ((32 + f.size + x.size : Nat) : Int) = ((cst (Dc.all s) : Nat) : Int) := by omega
    have CS1 := keep (Cst.one (V := ((cst (Dc.all s) - (32 + f.size + x.size) : Nat) : Int)) k1')
    have f2 := df 2
    have Q1 := keep q1
    have Q2 := keep q2
    have Q3 := keep q3
    obtain ⟨C1, hC1⟩ : ∃ C1 : Int, ((cst (Dc.all s) : Nat) : Int) = C1 := ⟨_, rfl⟩
    obtain ⟨X2, hX2⟩ : ∃ X2 : Int, ((32 + f.size + x.size : Nat) : Int) = X2 := ⟨_, rfl⟩
    obtain ⟨C3, hC3⟩ : ∃ C3 : Int, ((cst (Dc.all s) - (32 + f.size + x.size) : Nat) : Int) = C3 := ⟨_, rfl⟩
    rw [hC1, hX2, hC3] at hwr1
    rw [hC3, hX2] at hfin
    rw [hC3] at CS1
    rw [hX2] at MC1
    rw [hC1] at d2
    have HC4 := keep hfin
    have HX2 := keep hX2
    clear q1 q2 q3 k1' d0 df hge hC1 hC3 hX2 hfin hsz mG
    go_wp2
    go_region_with (first | (go_at_call 39; refine (MC1.out _).mono ?_; rintro _ _ ⟨rfl, rfl⟩))
    all_goals
      go_wp2_with fail
      refine (del_t hH _ r' b s' f (CS1.out.drew.dd Q1.out.1 Q1.out.2.2.1) HN.out HF.out).mono ?_
      rintro _ w4 ⟨rfl, r4, s4, p1, p2, p3⟩
      go_wp2
      go_ret
      refine ⟨?_, r4, s4, rdel_end HR.out Q1.out Q2.out Q3.out CS1.out.drew p1 p2 p3 ?_⟩
      · rw [Q2.out.1 f, HL.out]; rfl
      · rw [HL.out]; show C3 + ((32 + f.size + x.size : Nat) : Int) = _; rw [HX2.out]; exact HC4.out
end Go.Proofs.YtkcmhfcfmbhboaaGreat
