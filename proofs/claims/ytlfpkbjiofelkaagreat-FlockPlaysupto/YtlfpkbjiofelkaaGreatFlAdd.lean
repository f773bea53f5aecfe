/-
  Contracts over this program: Add and Delete of a flock.
-/
import Derived.Test.YtlfpkbjiofelkaaGreatFlCalls
import Derived.Deep.RegionHeld3
namespace Go.Proofs.YtlfpkbjiofelkaaGreat
open Go.RowKit Go.Shelf
/-- the flock's own block alone has turned: its cost is another one -/
def Cst (R seed b : Nat) (V : Int) (w W : World) : Prop :=
  (W.os = w.os ∧ W.tape = w.tape ∧ W.output = w.output) ∧ W.heap.size = w.heap.size ∧ W.heap[R]? = some (.cells #[.int .u64 seed, .pointer (some ⟨b, 0, none⟩), .int .i64 V] 56 (0, 0)) ∧ ∀ k, k ≠ R → W.heap[k]? = w.heap[k]?
theorem Cst.one {R seed b : Nat} {U V : Int} {w : World} (h : w.heap[R]? = some (.cells #[.int .u64 seed, .pointer (some ⟨b, 0, none⟩), .int .i64 U] 56 (0, 0))) : Cst R seed b V w (w.setCell ⟨R, 2, none⟩ (.int .i64 V)) :=
  ⟨⟨rfl, rfl, rfl⟩, by simp [World.setCell], cells_setCell h, fun k hk => Below.heap_setCell _ _ _ _ hk⟩
theorem Cst.trans {R seed b : Nat} {U V : Int} {w W X : World} (h : Cst R seed b U w W) (g : Cst R seed b V W X) : Cst R seed b V w X :=
  ⟨⟨g.1.1.trans h.1.1, g.1.2.1.trans h.1.2.1, g.1.2.2.trans h.1.2.2⟩, g.2.1.trans h.2.1, g.2.2.1, fun k hk => (g.2.2.2 k hk).trans (h.2.2.2 k hk)⟩
theorem Cst.drew {R seed b : Nat} {V : Int} {w W : World} (h : Cst R seed b V w W) : Cst R seed b V w W.drew := h
theorem Cst.dd {h : ByteArray → Nat} {N : Nat} {w W : World} {r : Roles} {R b seed : Nat} {V : Int} {s : Sx} (hc : Cst R seed b V w W) (hd : Dd h N w r b seed s) (hR : r R = (0, 0)) : Dd h N W r b seed s :=
  hd.kept (by rw [hc.2.1]; exact Nat.le_refl _) (fun k _ hk => hc.2.2.2 k (fun e => hk (e ▸ hR)))
theorem Cst.fr {R seed b : Nat} {V : Int} {w W : World} (hc : Cst R seed b V w W) (r : Roles) : Fr w (rr r R) W (rr r R) :=
  ⟨hc.1, by rw [hc.2.1]; exact Nat.le_refl _, fun k _ hz => ⟨hc.2.2.2 k (rr_zero.1 hz).1, hz⟩⟩
theorem sam_set {s s' s4 : Sx} {k : ByteArray} {v : Unit} (h1 : Samd s s') (h2 : Setd s' s4 k v) : Setd s s4 k v :=
  ⟨fun x => by rw [h2.1 x, h1.1 x], by rw [h2.2, h1.2, h1.1 k]⟩
theorem sam_del {s s' s4 : Sx} {k : ByteArray} (h1 : Samd s s') (h2 : Deld s' s4 k) : Deld s s4 k :=
  ⟨fun x => by rw [h2.1 x, h1.1 x], by rw [h2.2, h1.2, h1.1 k]⟩
theorem fadd_end {h : ByteArray → Nat} {N seed : Nat} {w w2 W3 w4 : World} {r r' r4 : Roles} {R b : Nat} {s s' s4 : Sx} {f : ByteArray} {V : Int} (hr : Rec h N w r R b seed s) (q1 : Rec h N w2 r' R b seed s') (q2 : Samd s s') (q3 : Fr w (rr r R) w2 (rr r' R)) (hc : Cst R seed b V w2 W3)
    (p1 : Dd h (N + 1) w4 r4 b seed s4) (p2 : Setd s' s4 f ()) (p3 : Fr W3 r' w4 r4) (hf : f.size ≤ 1048576) (hn : lk s f = none → ln s < 1048576) (hV : V + (cstO f (lk s f) : Nat) = (cst (Dc.all s) + (24 + f.size) : Nat)) :
    Rec h (N + 1) w4 r4 R b seed s4 ∧ Setd s s4 f () ∧ Fr w (rr r R) w4 (rr r4 R) := by
  obtain ⟨h1, h2, h3, h4⟩ := hr
  have hl3 : R < W3.heap.size := (Array.getElem?_eq_some_iff.1 hc.2.2.1).1
  obtain ⟨k3, k4⟩ := p3.2.2 R hl3 q1.2.2.1
  have e1 := set_cst q1.1.2.1 p1.2.1 p2
  rw [cst_perm (sam_cst h1.2.1 q1.1.2.1 q2), q2.1 f] at e1
  refine ⟨⟨p1, (h2.set (sam_set q2 p2) hf hn), k4, ?_⟩, sam_set q2 p2, q3.trans ((hc.fr r').trans (p3.rr R))⟩
  rw [k3, hc.2.2.1]
  have : V = ((cst (Dc.all s4) : Nat) : Int) := by omega
  rw [this]
set_option maxHeartbeats 400000 in
theorem fadd_long {w : World} {R : Nat} (f : ByteArray) (hl : decide ((1048576 : Int) < (f.size : Int)) = true) :
    Calls Tryz.prog 12 #[.pointer (some ⟨R, 0, none⟩), .string f] w fun e w' => e = .returned (.tuple #[.bool false, .int .i64 2]) ∧ w' = w := by
  go_enter Tryz.func12, Tryz.ntmps12
  go_wp2
  refine bodyPost_ret (results_tmp2 rfl _ _ _) rfl ?_
  exact ⟨rfl, rfl⟩
set_option maxHeartbeats 400000 in
theorem fadd_nil {w : World} (f : ByteArray) :
    Calls Tryz.prog 12 #[.pointer none, .string f] w fun e w' => e = .returned (.tuple #[.bool false, .int .i64 1]) ∧ w' = w := by
  go_enter Tryz.func12, Tryz.ntmps12
  go_wp2
  refine bodyPost_ret (results_tmp2 rfl _ _ _) rfl ?_
  exact ⟨rfl, rfl⟩
set_option maxHeartbeats 400000 in
theorem fadd_old {h : ByteArray → Nat} {seed N : Nat} (hH : HashIs seed h) {w : World} {r : Roles} {R b : Nat} {s : Sx} (hr : Rec h N w r R b seed s) (hN : N ≤ 2600000000000) (f : ByteArray) (hf : f.size ≤ 1048576) (x : Unit) (hx : lk s f = some x) :
    Calls Tryz.prog 12 #[.pointer (some ⟨R, 0, none⟩), .string f] w fun e w' => e = .returned (.tuple #[.bool false, .int .i64 0]) ∧ ∃ r' s', Rec h N w' r' R b seed s' ∧ Samd s s' ∧ Fr w (rr r R) w' (rr r' R) := by
  have mG := fhas_any hH hr hN f (by unfold maxLen; omega)
  rw [hx] at mG
  have hs : decide ((1048576 : Int) < (f.size : Int)) = false := decide_eq_false (by omega)
  clear hr hx hf hN
  go_enter Tryz.func12, Tryz.ntmps12
  go_wp2_with fail
  refine mG.mono ?_
  rintro _ w2 ⟨rfl, r', s', q1, q2, q3⟩
  go_wp2
  refine bodyPost_ret (results_tmp2 rfl _ _ _) rfl ?_
  exact ⟨rfl, r', s', q1, q2, q3⟩
set_option maxHeartbeats 400000 in
theorem fadd_full {h : ByteArray → Nat} {seed N : Nat} (hH : HashIs seed h) {w : World} {r : Roles} {R b : Nat} {s : Sx} (hr : Rec h N w r R b seed s) (hN : N ≤ 2600000000000) (f : ByteArray) (hf : f.size ≤ 1048576) (hx : lk s f = none) (hl : 1048576 ≤ ln s) :
    Calls Tryz.prog 12 #[.pointer (some ⟨R, 0, none⟩), .string f] w fun e w' => e = .returned (.tuple #[.bool false, .int .i64 4]) ∧ ∃ r' s', Rec h N w' r' R b seed s' ∧ Samd s s' ∧ Fr w (rr r R) w' (rr r' R) := by
  have mG := fhas_any hH hr hN f (by unfold maxLen; omega)
  rw [hx] at mG
  have hs : decide ((1048576 : Int) < (f.size : Int)) = false := decide_eq_false (by omega)
  have HL := keep hl
  clear hr hx hf hN hl
  go_enter Tryz.func12, Tryz.ntmps12
  go_wp2_with fail
  refine mG.mono ?_
  rintro _ w2 ⟨rfl, r', s', q1, q2, q3⟩
  have mL := rlen_any q1
  have hge : decide ((1048576 : Int) ≤ (ln s' : Int)) = true := decide_eq_true (by rw [q2.2]; have := HL.out; omega)
  have Q1 := keep q1
  have Q2 := keep q2
  have Q3 := keep q3
  clear q1 q2 q3 mG
  go_wp2_with fail
  refine mL.mono ?_
  rintro _ w' ⟨rfl, hw'⟩
  obtain rfl := hw'.symm
  go_wp2
  refine bodyPost_ret (results_tmp2 rfl _ _ _) rfl ?_
  exact ⟨rfl, r', s', Q1.out, Q2.out, Q3.out⟩
set_option maxRecDepth 100000 in
set_option maxHeartbeats 1000000 in
theorem fadd_new {h : ByteArray → Nat} {seed N : Nat} (hH : HashIs seed h) {w : World} {r : Roles} {R b : Nat} {s : Sx} (hr : Rec h N w r R b seed s) (hN : N + 1 ≤ 2600000000000) (f : ByteArray) (hf : f.size ≤ 1048576) (hx : lk s f = none) (hn : ln s < 1048576) :
    Calls Tryz.prog 12 #[.pointer (some ⟨R, 0, none⟩), .string f] w fun e w' => e = .returned (.tuple #[.bool true, .int .i64 0]) ∧ ∃ r' s', Rec h (N + 1) w' r' R b seed s' ∧ Setd s s' f () ∧ Fr w (rr r R) w' (rr r' R) := by
  have hfm : f.size ≤ maxLen := by unfold maxLen; omega
  have mG := fhas_any hH hr (by omega) f hfm
  rw [hx] at mG
  have hs : decide ((1048576 : Int) < (f.size : Int)) = false := decide_eq_false (by omega)
  have hB := hr.2.1.cst hr.1.2.1
  have HR := keep hr
  have HN := keep hn
  have HNN := keep hN
  have HF := keep hf
  have HFM := keep hfm
  have HB := keep hB
  have HX := keep hx
  clear hr hn hf hfm hB hN hx
  go_enter Tryz.func12, Tryz.ntmps12
  go_wp2_with fail
  refine mG.mono ?_
  rintro _ w2 ⟨rfl, r', s', q1, q2, q3⟩
  have k1' := q1.2.2.2
  rw [cst_perm (sam_cst HR.out.1.2.1 q1.1.2.1 q2)] at k1'
  obtain ⟨d0, d1, d2, df⟩ := three k1'
  have mL := rlen_any q1
  have hlt : ln s' < 1048576 := by rw [q2.2]; exact HN.out
  have hge : decide ((1048576 : Int) ≤ (ln s' : Int)) = false := decide_eq_false (by omega)
  have MC := keep (fun W => costOf_any f W HF.out)
  have hwr : IntKind.i64.wrap ((cst (Dc.all s) : Nat) + ((24 + f.size : Nat) : Int)) = ((cst (Dc.all s) + (24 + f.size) : Nat) : Int) := by
    rw [IntKind.wrap_i64]; have := HB.out; have := HF.out; omega
  have CS := keep (Cst.one (V := ((cst (Dc.all s) + (24 + f.size) : Nat) : Int)) k1')
  have f2 := df 2
  have Q1 := keep q1
  have Q2 := keep q2
  have Q3 := keep q3
  obtain ⟨C1, hC1⟩ : ∃ C1 : Int, ((cst (Dc.all s) : Nat) : Int) = C1 := ⟨_, rfl⟩
  obtain ⟨C2, hC2⟩ : ∃ C2 : Int, ((24 + f.size : Nat) : Int) = C2 := ⟨_, rfl⟩
  obtain ⟨C3, hC3⟩ : ∃ C3 : Int, ((cst (Dc.all s) + (24 + f.size) : Nat) : Int) = C3 := ⟨_, rfl⟩
  rw [hC1, hC2, hC3] at hwr
  rw [hC3] at CS
  rw [hC2] at MC
  rw [hC1] at d2
  have HC3 := keep hC3
  clear q1 q2 q3 k1' d0 df hlt hC1 hC2 hC3
  go_wp2_with fail
  refine mL.mono ?_
  rintro _ w' ⟨rfl, hw'⟩
  obtain rfl := hw'.symm
  clear mL mG
  go_wp2
  go_region_with (first | (go_at_call 39; refine (MC.out _).mono ?_; rintro _ _ ⟨rfl, rfl⟩))
  all_goals
    go_wp2_with fail
    refine (set_t hH _ r' b s' f () (CS.out.drew.dd Q1.out.1 Q1.out.2.2.1) HNN.out HFM.out (by rw [Q2.out.1 f]; exact HX.out)).mono ?_
    rintro _ w4 ⟨rfl, r4, s4, p1, p2, p3⟩
    go_wp2
    refine bodyPost_ret (results_tmp2 rfl _ _ _) rfl ?_
    refine ⟨?_, r4, s4, fadd_end HR.out Q1.out Q2.out Q3.out CS.out.drew p1 p2 p3 HF.out (fun _ => HN.out) ?_⟩
    · rw [Q2.out.1 f, HX.out]; rfl
    · rw [HX.out, ← HC3.out]; simp [cstO]
theorem fdel_end {h : ByteArray → Nat} {N seed : Nat} {w w2 W3 w4 : World} {r r' r4 : Roles} {R b : Nat} {s s' s4 : Sx} {f : ByteArray} {V : Int} (hr : Rec h N w r R b seed s) (q1 : Rec h N w2 r' R b seed s') (q2 : Samd s s') (q3 : Fr w (rr r R) w2 (rr r' R)) (hc : Cst R seed b V w2 W3)
    (p1 : Dd h N w4 r4 b seed s4) (p2 : Deld s' s4 f) (p3 : Fr W3 r' w4 r4) (hV : V + (cstO f (lk s f) : Nat) = (cst (Dc.all s) : Nat)) :
    Rec h N w4 r4 R b seed s4 ∧ Deld s s4 f ∧ Fr w (rr r R) w4 (rr r4 R) := by
  obtain ⟨h1, h2, h3, h4⟩ := hr
  have hl3 : R < W3.heap.size := (Array.getElem?_eq_some_iff.1 hc.2.2.1).1
  obtain ⟨k3, k4⟩ := p3.2.2 R hl3 q1.2.2.1
  have e1 := del_cst q1.1.2.1 p1.2.1 p2
  rw [cst_perm (sam_cst h1.2.1 q1.1.2.1 q2), q2.1 f] at e1
  refine ⟨⟨p1, h2.del (sam_del q2 p2), k4, ?_⟩, sam_del q2 p2, q3.trans ((hc.fr r').trans (p3.rr R))⟩
  rw [k3, hc.2.2.1]
  have : V = ((cst (Dc.all s4) : Nat) : Int) := by omega
  rw [this]
set_option maxRecDepth 100000 in
set_option maxHeartbeats 1000000 in
theorem fdel_any {h : ByteArray → Nat} {seed N : Nat} (hH : HashIs seed h) {w : World} {r : Roles} {R b : Nat} {s : Sx} (hr : Rec h N w r R b seed s) (hN : N + 1 ≤ 2600000000000) (f : ByteArray) (hf : f.size ≤ maxLen) :
    Calls Tryz.prog 27 #[.pointer (some ⟨R, 0, none⟩), .string f] w fun e w' => e = .returned (.bool (lk s f).isSome) ∧ ∃ r' s', Rec h N w' r' R b seed s' ∧ Deld s s' f ∧ Fr w (rr r R) w' (rr r' R) := by
  have mG := fhas_any hH hr (by omega) f hf
  have hB := hr.2.1.cst hr.1.2.1
  have HR := keep hr
  have HN := keep hN
  have HF := keep hf
  have HB := keep hB
  clear hr hf hB hN
  cases hlk : lk s f with
  | none =>
    rw [hlk] at mG
    have HL := keep hlk
    clear hlk
    go_enter Tryz.func27, Tryz.ntmps27
    go_wp2_with fail
    refine mG.mono ?_
    rintro _ w2 ⟨rfl, r', s', q1, q2, q3⟩
    go_wp2
    go_ret
    refine ⟨rfl, r', s', q1, ⟨fun k => ?_, ?_⟩, q3⟩
    · rw [q2.1 k]
      by_cases e : k = f
      · rw [if_pos e, e]; exact HL.out
      · rw [if_neg e]
    · rw [q2.2, HL.out]; rfl
  | some x =>
    rw [hlk] at mG
    have HL := keep hlk
    have hsz := HR.out.2.1.1 f x hlk
    have hcl := cst_split (k := f) (all_nodup HR.out.1.2.1)
    rw [show Dc.look f (Dc.all s) = some x from hlk] at hcl
    simp only [cstO] at hcl
    have hge : 24 + f.size ≤ cst (Dc.all s) := by omega
    clear hlk hcl
    go_enter Tryz.func27, Tryz.ntmps27
    go_wp2_with fail
    refine mG.mono ?_
    rintro _ w2 ⟨rfl, r', s', q1, q2, q3⟩
    have k1' := q1.2.2.2
    rw [cst_perm (sam_cst HR.out.1.2.1 q1.1.2.1 q2)] at k1'
    obtain ⟨d0, d1, d2, df⟩ := three k1'
    have MC1 := keep (fun W => costOf_any f W hsz)
    have hwr1 : IntKind.i64.wrap ((cst (Dc.all s) : Nat) - ((24 + f.size : Nat) : Int)) = ((cst (Dc.all s) - (24 + f.size) : Nat) : Int) := by
      rw [IntKind.wrap_i64]; have := HB.out; omega
    have hfin : ((cst (Dc.all s) - (24 + f.size) : Nat) : Int) + ((24 + f.size : Nat) : Int) = ((cst (Dc.all s) : Nat) : Int) := by omega
    have CS1 := keep (Cst.one (V := ((cst (Dc.all s) - (24 + f.size) : Nat) : Int)) k1')
    have f2 := df 2
    have Q1 := keep q1
    have Q2 := keep q2
    have Q3 := keep q3
    obtain ⟨C1, hC1⟩ : ∃ C1 : Int, ((cst (Dc.all s) : Nat) : Int) = C1 := ⟨_, rfl⟩
    obtain ⟨X2, hX2⟩ : ∃ X2 : Int, ((24 + f.size : Nat) : Int) = X2 := ⟨_, rfl⟩
    obtain ⟨C3, hC3⟩ : ∃ C3 : Int, ((cst (Dc.all s) - (24 + f.size) : Nat) : Int) = C3 := ⟨_, rfl⟩
    rw [hC1, hX2, hC3] at hwr1
    rw [hC3, hX2] at hfin
    rw [hC3] at CS1
    rw [hX2] at MC1
    rw [hC1] at d2
    have HC4 := keep hfin
    have HX2 := keep hX2
    clear q1 q2 q3 k1' d0 df hge hC1 hC3 hX2 hfin hsz mG
    go_wp2
    go_region_with (first | (go_at_call 39; refine (MC1.out _).mono ?_; rintro _ _ ⟨rfl, rfl⟩))
    all_goals
      go_wp2_with fail
      refine (del_t hH _ r' b s' f (CS1.out.drew.dd Q1.out.1 Q1.out.2.2.1) HN.out HF.out).mono ?_
      rintro _ w4 ⟨rfl, r4, s4, p1, p2, p3⟩
      go_wp2
      go_ret
      refine ⟨?_, r4, s4, fdel_end HR.out Q1.out Q2.out Q3.out CS1.out.drew p1 p2 p3 ?_⟩
      · rw [Q2.out.1 f, HL.out]; rfl
      · rw [HL.out]; show C3 + ((24 + f.size : Nat) : Int) = _; rw [HX2.out]; exact HC4.out
end Go.Proofs.YtlfpkbjiofelkaaGreat
