/-
  Contracts over this program: what may be held (tooLong); Set and Delete of a record.
-/
import Derived.Test.YtkcmhfcfmbhboaaGreatRecCalls
import Derived.Deep.RegionHeld3
namespace Go.Proofs.YtkcmhfcfmbhboaaGreat
open Go.RowKit Go.Shelf
/-- is it too long? -/
def tol (a : ByteArray) : Bool := decide ((1048576 : Int) < (a.size : Int))
set_option maxHeartbeats 400000 in
theorem tol1_any (a : ByteArray) (w : World) :
    Calls Tryz.prog 55 #[.string a] w fun e w' => e = .returned (.bool (tol a)) ∧ w' = w := by
  go_enter Tryz.func55, Tryz.ntmps55
  go_wp2
  go_ret
  exact ⟨rfl, rfl⟩
set_option maxHeartbeats 600000 in
theorem index2_any (w : World) (g : Nat) (a c : ByteArray) (h0 : w.cell? ⟨g, 0, none⟩ = some (.string a)) (h1 : w.cell? ⟨g, 1, none⟩ = some (.string c)) :
    Calls Tryz.prog 86 #[.slice (some ⟨g, 0, none⟩) 2 2, .func (.func 55) #[] #[]] w fun e w' => (∃ x : Int, e = .returned (.int .i64 x) ∧ decide ((0 : Int) ≤ x) = (tol a || tol c)) ∧ w' = w := by
  have eg : ∀ args w, (callFunc 55 args).run Tryz.prog w = .ok (.enter 55 args) w := enters_of Tryz.func55 (by kernel_rfl) rfl
  have mA := tol1_any a w
  have mC := tol1_any c w
  go_enter Tryz.func86, Tryz.ntmps86
  go_wp2
  go_loopg [5, 8] 2 (fun gg _ s8 wr => ∃ kk : Nat, kk ≤ 2 ∧ 2 - kk ≤ gg ∧ s8 = .int .i64 kk ∧ Kept (wr = w) ∧ Kept (0 < kk → tol a = false) ∧ Kept (1 < kk → tol c = false))
  case atStart => exact ⟨0, Nat.zero_le _, by omega, rfl, rfl, fun h => absurd h (by omega), fun h => absurd h (by omega)⟩
  case round =>
    obtain ⟨kk, hkk, hg2, rfl, hw, p0, p1⟩ := hrel
    have hw := hw.out
    subst hw
    obtain rfl | rfl | rfl : kk = 0 ∨ kk = 1 ∨ kk = 2 := by omega
    · cases hq : tol a with
      | true =>
        rw [hq] at mA
        have HQ := keep hq
        clear hq
        go_wp2_with fail
        refine mA.mono ?_
        rintro _ w' ⟨rfl, rfl⟩
        go_wp2
        go_ret
        exact ⟨⟨0, rfl, by simp [HQ.out]⟩, rfl⟩
      | false =>
        rw [hq] at mA
        have HQ := keep hq
        clear hq
        go_wp2_with fail
        refine mA.mono ?_
        rintro _ w' ⟨rfl, hw'⟩
        obtain rfl := hw'.symm
        go_wp2
        go_roundg 1
        case measure => omega
        case rel => exact ⟨1, by omega, by omega, rfl, rfl, fun _ => HQ.out, fun h => absurd h (by omega)⟩
    · have ha := p0.out (by omega)
      cases hq : tol c with
      | true =>
        rw [hq] at mC
        have HQ := keep hq
        clear hq
        have HA := keep ha
        clear ha
        go_wp2_with fail
        refine mC.mono ?_
        rintro _ w' ⟨rfl, rfl⟩
        go_wp2
        go_ret
        exact ⟨⟨1, rfl, by simp [HQ.out]⟩, rfl⟩
      | false =>
        rw [hq] at mC
        have HQ := keep hq
        have HA := keep ha
        clear hq ha
        go_wp2_with fail
        refine mC.mono ?_
        rintro _ w' ⟨rfl, hw'⟩
        obtain rfl := hw'.symm
        go_wp2
        go_roundg 0
        case measure => omega
        case rel => exact ⟨2, by omega, by omega, rfl, rfl, fun _ => HA.out, fun _ => HQ.out⟩
    · have HA := keep (p0.out (by omega))
      have HC := keep (p1.out (by omega))
      clear mA mC p0 p1
      go_wp2
      go_ret
      exact ⟨⟨-1, rfl, by rw [HA.out, HC.out]; rfl⟩, rfl⟩
set_option maxHeartbeats 400000 in
theorem tooLong_any (w : World) (g : Nat) (a c : ByteArray) (h0 : w.cell? ⟨g, 0, none⟩ = some (.string a)) (h1 : w.cell? ⟨g, 1, none⟩ = some (.string c)) :
    Calls Tryz.prog 37 #[.slice (some ⟨g, 0, none⟩) 2 2] w fun e w' => e = .returned (.bool (tol a || tol c)) ∧ w' = w := by
  have mI := index2_any w g a c h0 h1
  clear h0 h1
  go_enter Tryz.func37, Tryz.ntmps37
  go_wp2_with (first | (go_at_call 86; refine mI.mono ?_; rintro _ w' ⟨⟨x, rfl, hx⟩, rfl⟩) | go_in)
  go_ret
  exact ⟨by rw [← hx]; rfl, rfl⟩
/-- the record's own block alone has turned: its cost is another one -/
def Cst (R seed b : Nat) (V : Int) (w W : World) : Prop :=
  (W.os = w.os ∧ W.tape = w.tape ∧ W.output = w.output) ∧ W.heap.size = w.heap.size ∧ W.heap[R]? = some (.cells #[.int .u64 seed, .pointer (some ⟨b, 0, none⟩), .int .i64 V] 48 (0, 0)) ∧ ∀ k, k ≠ R → W.heap[k]? = w.heap[k]?
theorem Cst.one {R seed b : Nat} {U V : Int} {w : World} (h : w.heap[R]? = some (.cells #[.int .u64 seed, .pointer (some ⟨b, 0, none⟩), .int .i64 U] 48 (0, 0))) : Cst R seed b V w (w.setCell ⟨R, 2, none⟩ (.int .i64 V)) :=
  ⟨⟨rfl, rfl, rfl⟩, by simp [World.setCell], cells_setCell h, fun k hk => Below.heap_setCell _ _ _ _ hk⟩
theorem Cst.trans {R seed b : Nat} {U V : Int} {w W X : World} (h : Cst R seed b U w W) (g : Cst R seed b V W X) : Cst R seed b V w X :=
  ⟨⟨g.1.1.trans h.1.1, g.1.2.1.trans h.1.2.1, g.1.2.2.trans h.1.2.2⟩, g.2.1.trans h.2.1, g.2.2.1, fun k hk => (g.2.2.2 k hk).trans (h.2.2.2 k hk)⟩
theorem Cst.drew {R seed b : Nat} {V : Int} {w W : World} (h : Cst R seed b V w W) : Cst R seed b V w W.drew := h
theorem Cst.dd {h : ByteArray → Nat} {N : Nat} {w W : World} {r : Roles} {R b seed : Nat} {V : Int} {s : Sx} (hc : Cst R seed b V w W) (hd : Dd h N w r b seed s) (hR : r R = (0, 0)) : Dd h N W r b seed s :=
  hd.kept (by rw [hc.2.1]; exact Nat.le_refl _) (fun k _ hk => hc.2.2.2 k (fun e => hk (e ▸ hR)))
theorem Cst.fr {R seed b : Nat} {V : Int} {w W : World} (hc : Cst R seed b V w W) (r : Roles) : Fr w (rr r R) W (rr r R) :=
  ⟨hc.1, by rw [hc.2.1]; exact Nat.le_refl _, fun k _ hz => ⟨hc.2.2.2 k (rr_zero.1 hz).1, hz⟩⟩
theorem sam_set {s s' s4 : Sx} {k v : ByteArray} (h1 : Samd s s') (h2 : Setd s' s4 k v) : Setd s s4 k v :=
  ⟨fun x => by rw [h2.1 x, h1.1 x], by rw [h2.2, h1.2, h1.1 k]⟩
theorem sam_del {s s' s4 : Sx} {k : ByteArray} (h1 : Samd s s') (h2 : Deld s' s4 k) : Deld s s4 k :=
  ⟨fun x => by rw [h2.1 x, h1.1 x], by rw [h2.2, h1.2, h1.1 k]⟩
theorem rset_end {h : ByteArray → Nat} {N seed : Nat} {w W1 w2 W3 w4 : World} {r r' r4 : Roles} {R b : Nat} {s s' s4 : Sx} {f v : ByteArray} {V : Int} (hr : Rec h N w r R b seed s) (hb : Below w.heap.size w W1) (q1 : Dd h N w2 r' b seed s') (q2 : Samd s s') (q3 : Fr W1 r w2 r') (hc : Cst R seed b V w2 W3)
    (p1 : Dd h (N + 1) w4 r4 b seed s4) (p2 : Setd s' s4 f v) (p3 : Fr W3 r' w4 r4) (hf : f.size ≤ 1048576) (hv : v.size ≤ 1048576) (hn : lk s f = none → ln s < 1048576) (hV : V + (cstO f (lk s f) : Nat) = (cst (Dc.all s) + (32 + f.size + v.size) : Nat)) :
    Rec h (N + 1) w4 r4 R b seed s4 ∧ Setd s s4 f v ∧ Fr w (rr r R) w4 (rr r4 R) := by
  obtain ⟨h1, h2, h3, h4⟩ := hr
  have hl := (Array.getElem?_eq_some_iff.1 h4).1
  have hl1 : R < W1.heap.size := Nat.lt_of_lt_of_le hl hb.size
  obtain ⟨k1, k2⟩ := q3.2.2 R hl1 h3
  have hl3 : R < W3.heap.size := (Array.getElem?_eq_some_iff.1 hc.2.2.1).1
  obtain ⟨k3, k4⟩ := p3.2.2 R hl3 k2
  have e1 := set_cst q1.2.1 p1.2.1 p2
  rw [cst_perm (sam_cst h1.2.1 q1.2.1 q2), q2.1 f] at e1
  refine ⟨⟨p1, (h2.set (sam_set q2 p2) hf hv hn), k4, ?_⟩, sam_set q2 p2, (Fr.of_below hb).trans ((q3.rr R).trans ((hc.fr r').trans (p3.rr R)))⟩
  rw [k3, hc.2.2.1]
  have : V = ((cst (Dc.all s4) : Nat) : Int) := by omega
  rw [this]
set_option maxRecDepth 100000 in
set_option maxHeartbeats 1000000 in
theorem rset_ok {h : ByteArray → Nat} {seed N : Nat} (hH : HashIs seed h) {w : World} {r : Roles} {R b : Nat} {s : Sx} (hr : Rec h N w r R b seed s) (hN : N + 1 ≤ 2600000000000) (f v : ByteArray) (hf : f.size ≤ 1048576) (hv : v.size ≤ 1048576) (hn : lk s f = none → ln s < 1048576) :
    Calls Tryz.prog 17 #[.pointer (some ⟨R, 0, none⟩), .string f, .string v] w fun e w' => e = .returned (.tuple #[.bool (lk s f).isNone, .int .i64 0]) ∧ ∃ r' s', Rec h (N + 1) w' r' R b seed s' ∧ Setd s s' f v ∧ Fr w (rr r R) w' (rr r' R) := by
  have hfm : f.size ≤ maxLen := by unfold maxLen; omega
  obtain ⟨W1, hW1⟩ : ∃ W1, w.alloc (.cells #[.string f, .string v] 9) = W1 := ⟨_, rfl⟩
  have hb1 : Below w.heap.size w W1 := by rw [← hW1]; exact (Below.refl _ w).alloc (Nat.le_refl _) _
  have hg1 : W1.heap[w.heap.size]? = some (.cells #[.string f, .string v] 9 (0, 0)) := by rw [← hW1]; exact heap_alloc_new _ _
  have mT := tooLong_any W1 w.heap.size f v (by simp [World.cell?, hg1]) (by simp [World.cell?, hg1])
  rw [show (tol f || tol v) = false by unfold tol; simp; omega] at mT
  have hr1 := hr.below hb1
  obtain ⟨c0, c1, c2, cf⟩ := three hr1.2.2.2
  have mG := get_t hH W1 r b s f hr1.1 (by omega) hfm
  have hB := hr.2.1.cst hr.1.2.1
  have HR := keep hr
  have HB1 := keep hb1
  have HN := keep hn
  have HNN := keep hN
  have HF := keep hf
  have HV := keep hv
  have HFM := keep hfm
  have HB := keep hB
  have HR3 := keep hr1.2.2
  clear hr hb1 hg1 hr1 c0 c2 cf hn hf hv hfm hB hN
  unfold got at mG
  cases hlk : lk s f with
  | none =>
    rw [hlk] at mG
    have HL := keep hlk
    clear hlk
    go_enter Tryz.func17, Tryz.ntmps17
    go_wp2_with fail
    refine mT.mono ?_
    rintro _ w' ⟨rfl, hw'⟩
    obtain rfl := hw'.symm
    go_wp2_with fail
    refine mG.mono ?_
    rintro _ w2 ⟨rfl, r', s', q1, q2, q3⟩
    obtain ⟨k1, k2⟩ := q3.2.2 R (Array.getElem?_eq_some_iff.1 HR3.out.2).1 HR3.out.1
    have k1' := k1.trans HR3.out.2
    obtain ⟨d0, d1, d2, df⟩ := three k1'
    have mL := len_t w2 r' b s' q1
    have hlt : ln s' < 1048576 := by rw [q2.2]; exact HN.out HL.out
    have hge : decide ((1048576 : Int) ≤ (ln s' : Int)) = false := decide_eq_false (by omega)
    have MC := keep (fun W => costOf_any f v W HF.out HV.out)
    have hwr : IntKind.i64.wrap ((cst (Dc.all s) : Nat) + ((32 + f.size + v.size : Nat) : Int)) = ((cst (Dc.all s) + (32 + f.size + v.size) : Nat) : Int) := by
      rw [IntKind.wrap_i64]; have := HB.out; have := HF.out; have := HV.out; omega
    have CS := keep (Cst.one (V := ((cst (Dc.all s) + (32 + f.size + v.size) : Nat) : Int)) k1')
    have f2 := df 2
    have Q1 := keep q1
    have Q2 := keep q2
    have Q3 := keep q3
    have K2 := keep k2
    obtain ⟨C1, hC1⟩ : ∃ C1 : Int, ((cst (Dc.all s) : Nat) : Int) = C1 := ⟨_, rfl⟩
    obtain ⟨C2, hC2⟩ : ∃ C2 : Int, ((32 + f.size + v.size : Nat) : Int) = C2 := ⟨_, rfl⟩
    obtain ⟨C3, hC3⟩ : ∃ C3 : Int, ((cst (Dc.all s) + (32 + f.size + v.size) : Nat) : Int) = C3 := ⟨_, rfl⟩
    rw [hC1, hC2, hC3] at hwr
    rw [hC3] at CS
    rw [hC2] at MC
    rw [hC1] at d2
    have HC3 := keep hC3
    clear q1 q2 q3 k1 k2 k1' d0 df hlt hC1 hC2 hC3
    go_wp2_with fail
    refine mL.mono ?_
    rintro _ w' ⟨rfl, hw'⟩
    obtain rfl := hw'.symm
    clear mL mG mT
    go_wp2
    go_region_with (first | (go_at_call 39; refine (MC.out _).mono ?_; rintro _ _ ⟨rfl, rfl⟩))
    all_goals
      go_wp2_with fail
      refine (set_t hH _ r' b s' f v (CS.out.drew.dd Q1.out K2.out) HNN.out HFM.out).mono ?_
      rintro _ w4 ⟨rfl, r4, s4, p1, p2, p3⟩
      go_wp2
      refine bodyPost_ret (results_tmp2 rfl _ _ _) rfl ?_
      refine ⟨?_, r4, s4, rset_end HR.out HB1.out Q1.out Q2.out Q3.out CS.out.drew p1 p2 p3 HF.out HV.out HN.out ?_⟩
      · rw [Q2.out.1 f, HL.out]; rfl
      · rw [HL.out, ← HC3.out]; simp [cstO]
  | some x =>
    rw [hlk] at mG
    have HL := keep hlk
    have HX := keep (HR.out.2.1.1 f x hlk).2
    have hcl := cst_split (k := f) (all_nodup HR.out.1.2.1)
    rw [show Dc.look f (Dc.all s) = some x from hlk] at hcl
    simp only [cstO] at hcl
    have hge : 32 + f.size + x.size ≤ cst (Dc.all s) := by omega
    clear hlk hcl
    go_enter Tryz.func17, Tryz.ntmps17
    go_wp2_with fail
    refine mT.mono ?_
    rintro _ w' ⟨rfl, hw'⟩
    obtain rfl := hw'.symm
    go_wp2_with fail
    refine mG.mono ?_
    rintro _ w2 ⟨rfl, r', s', q1, q2, q3⟩
    obtain ⟨k1, k2⟩ := q3.2.2 R (Array.getElem?_eq_some_iff.1 HR3.out.2).1 HR3.out.1
    have k1' := k1.trans HR3.out.2
    obtain ⟨d0, d1, d2, df⟩ := three k1'
    have MC1 := keep (fun W => costOf_any f x W HF.out HX.out)
    have MC2 := keep (fun W => costOf_any f v W HF.out HV.out)
    have hwr1 : IntKind.i64.wrap ((cst (Dc.all s) : Nat) - ((32 + f.size + x.size : Nat) : Int)) = ((cst (Dc.all s) - (32 + f.size + x.size) : Nat) : Int) := by
      rw [IntKind.wrap_i64]; have := HB.out; have := HF.out; have := HX.out; omega
    have hwr2 : IntKind.i64.wrap (((cst (Dc.all s) - (32 + f.size + x.size) : Nat) : Int) + ((32 + f.size + v.size : Nat) : Int)) = ((cst (Dc.all s) - (32 + f.size + x.size) + (32 + f.size + v.size) : Nat) : Int) := by
      rw [IntKind.wrap_i64]; have := HB.out; have := HF.out; have := HV.out; omega
    have hfin : ((cst (Dc.all s) - (32 + f.size + x.size) + (32 + f.size + v.size) : Nat) : Int) + ((32 + f.size + x.size : Nat) : Int) = ((cst (Dc.all s) + (32 + f.size + v.size) : Nat) : Int) := by omega
    have CS1 := keep (Cst.one (V := ((cst (Dc.all s) - (32 + f.size + x.size) : Nat) : Int)) k1')
    have CS2 := keep (Cst.one (V := ((cst (Dc.all s) - (32 + f.size + x.size) + (32 + f.size + v.size) : Nat) : Int)) CS1.out.drew.2.2.1)
    have f2 := df 2
    have Q1 := keep q1
    have Q2 := keep q2
    have Q3 := keep q3
    have K2 := keep k2
    obtain ⟨C1, hC1⟩ : ∃ C1 : Int, ((cst (Dc.all s) : Nat) : Int) = C1 := ⟨_, rfl⟩
    obtain ⟨C2, hC2⟩ : ∃ C2 : Int, ((32 + f.size + v.size : Nat) : Int) = C2 := ⟨_, rfl⟩
    obtain ⟨X2, hX2⟩ : ∃ X2 : Int, ((32 + f.size + x.size : Nat) : Int) = X2 := ⟨_, rfl⟩
    obtain ⟨C3, hC3⟩ : ∃ C3 : Int, ((cst (Dc.all s) - (32 + f.size + x.size) : Nat) : Int) = C3 := ⟨_, rfl⟩
    obtain ⟨C4, hC4⟩ : ∃ C4 : Int, ((cst (Dc.all s) - (32 + f.size + x.size) + (32 + f.size + v.size) : Nat) : Int) = C4 := ⟨_, rfl⟩
    rw [hC1, hX2, hC3] at hwr1
    rw [hC3, hC2, hC4] at hwr2
    rw [hC4, hX2] at hfin
    rw [hC3] at CS1
    rw [hC3, hC4] at CS2
    rw [hX2] at MC1
    rw [hC2] at MC2
    rw [hC1] at d2
    have HC4 := keep hfin
    have HX2 := keep hX2
    obtain ⟨W3, hW3⟩ : ∃ W3, (w2.drew).setCell ⟨R, 2, none⟩ (.int .i64 C3) = W3 := ⟨_, rfl⟩
    have CS1' : Cst R seed b C3 w2 W3 := by rw [← hW3]; exact CS1.out.drew
    obtain ⟨d0', d1', d2', df'⟩ := three CS1'.2.2.1
    have f2' := df' 2
    have CS2' := keep (CS1'.trans (Cst.one (V := C4) CS1'.2.2.1))
    clear q1 q2 q3 k1 k2 k1' d0 df hge hC1 hC2 hC3 hC4 hX2 hfin d0' df' CS1'
    clear mG mT CS2 CS1
    go_wp2
    go_region_with (first | (go_at_call 39; refine (MC1.out _).mono ?_; rintro _ _ ⟨rfl, rfl⟩))
    all_goals
      try rw [hW3]
      go_wp2
      go_region_with (first | (go_at_call 39; refine (MC2.out _).mono ?_; rintro _ _ ⟨rfl, rfl⟩))
      all_goals
        go_wp2_with fail
        refine (set_t hH _ r' b s' f v (CS2'.out.drew.dd Q1.out K2.out) HNN.out HFM.out).mono ?_
        rintro _ w4 ⟨rfl, r4, s4, p1, p2, p3⟩
        go_wp2
        refine bodyPost_ret (results_tmp2 rfl _ _ _) rfl ?_
        refine ⟨?_, r4, s4, rset_end HR.out HB1.out Q1.out Q2.out Q3.out CS2'.out.drew p1 p2 p3 HF.out HV.out HN.out ?_⟩
        · rw [Q2.out.1 f, HL.out]; rfl
        · rw [HL.out]; show C4 + ((32 + f.size + x.size : Nat) : Int) = _; rw [HX2.out]; exact HC4.out
end Go.Proofs.YtkcmhfcfmbhboaaGreat
