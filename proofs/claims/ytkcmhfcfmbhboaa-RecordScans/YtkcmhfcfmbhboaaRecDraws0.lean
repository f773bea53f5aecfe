/-
  The statement's own walk: each field is sampled by its place, others by what is left of n.
-/
import Derived.Test.YtkcmhfcfmbhboaaRecSample
import Derived.Test.YtkcmhfcfmbhboaaRecOpen
namespace Go.Proofs.Ytkcmhfcfmbhboaa
open Go.RowKit Go.Shelf
def alw : ByteArray := { data := #[97, 108, 119, 97, 121, 115] }
def thr : ByteArray := { data := #[116, 104, 101, 114, 101] }
def exx : ByteArray := { data := #[120] }
theorem alw_is : ({ data := #[97, 108, 119, 97, 121, 115] } : ByteArray) = alw := rfl
theorem thr_is : ({ data := #[116, 104, 101, 114, 101] } : ByteArray) = thr := rfl
theorem exx_is : ({ data := #[120] } : ByteArray) = exx := rfl
theorem alw_sz : alw.size ≤ 1048576 := by decide
theorem thr_sz : thr.size ≤ 1048576 := by decide
theorem exx_sz : exx.size ≤ 1048576 := by decide
theorem tol_no {a : ByteArray} (h : tol a = false) : a.size ≤ 1048576 := by
  unfold tol at h
  have := of_decide_eq_false h
  omega
theorem tol_of {a : ByteArray} (h : a.size ≤ 1048576) : tol a = false := by unfold tol; simp; omega
/-- while the fields are set -/
def DrI (h : ByteArray → Nat) (W : World) (x k : Nat) (w : World) : Prop := ∃ r s, Rn h (k + 1) W w r (W.heap.size + 1) W.heap.size x s ∧ 1 ≤ ln s ∧ ln s ≤ k + 1
theorem DrI.set {h : ByteArray → Nat} {W w w' : World} {x k : Nat} {r r' : Roles} {s s' : Sx} {f v : ByteArray} (hr : Rn h (k + 1) W w r (W.heap.size + 1) W.heap.size x s) (h1 : 1 ≤ ln s) (h2 : ln s ≤ k + 1) (q1 : Rec h (k + 1 + 1) w' r' (W.heap.size + 1) W.heap.size x s') (q2 : Setd s s' f v) (q3 : Fr w (rr r (W.heap.size + 1)) w' (rr r' (W.heap.size + 1))) : DrI h W x (k + 1) w' := by
  refine ⟨r', s', hr.step q1 q3, ?_, ?_⟩
  · rw [q2.2]; omega
  · rw [q2.2]; split <;> omega
set_option maxRecDepth 100000 in
set_option maxHeartbeats 2000000 in
theorem draws_walk {h : ByteArray → Nat} (W : World) (x : Nat) (hH : HashIs x h) (so : Option Addr) (cap : Nat) (F : List ByteArray) (hF : Txts W so F) (n : Nat) (hn : n < Dw.M) :
    Calls Try.prog 5 #[.int .u64 x, .slice so F.length cap, .int .u64 n] W fun e w' => e = .returned (.bool true) ∧ Below W.heap.size W w' := by
  obtain ⟨nF, hnF⟩ : ∃ nF, F.length = nF := ⟨_, rfl⟩
  have HF := keep hF
  have HN := keep hn
  have HNF := keep hnF
  rw [hnF]
  clear hF hn hnF
  go_enter Try.func5, Try.ntmps5
  go_wp2_with fail
  refine (rnew_any h W x 0).mono ?_
  rintro _ w1 ⟨rfl, hb1, hr1⟩
  have R1 : Kept (Rn h 0 W w1 (fun k => if k = W.heap.size then (5, 0) else (0, 0)) (W.heap.size + 1) W.heap.size x Dc.none0) :=
    ⟨hr1, by omega, fun k hk => by simp; omega, hb1⟩
  clear hb1 hr1
  go_wp2_with fail
  refine (rsample_none w1 _ _ _ _ R1.out.1 (by omega) n rfl).mono ?_
  rintro _ w2 ⟨rfl, hb2⟩
  have R2 := keep (R1.out.below hb2)
  clear hb2 R1
  go_wp2_with fail
  refine (rset_ok hH R2.out.1 (by omega) alw thr alw_sz thr_sz (fun _ => by rw [ln_none]; omega)).mono ?_
  rintro _ w3 ⟨rfl, r3, s3, q1, q2, q3⟩
  have I3 : Kept (DrI h W x 0 w3) := ⟨r3, s3, R2.out.step q1 q3, by rw [q2.2, lk_none, ln_none]; simp, by rw [q2.2, lk_none, ln_none]; simp⟩
  clear q1 q2 q3 R2
  go_wp2
  go_loopw [10] (fun i wr => ∃ k : Nat, k ≤ nF ∧ k ≤ 500 ∧ i = .int .i64 k ∧ Kept (DrI h W x k wr)) (fun i _ => 500 - (intOf i).toNat)
  case atStart => exact ⟨0, Nat.zero_le _, Nat.zero_le _, rfl, I3⟩
  case round =>
    obtain ⟨k, hk, hk5, rfl, KI⟩ := hrel
    by_cases hlt : k < nF ∧ k < 500
    · have hl1 : decide ((k : Int) < (nF : Int)) = true := decide_eq_true (by omega)
      have hl2 : decide ((k : Int) < 500) = true := decide_eq_true (by omega)
      have hl1' : (k : Int) < (nF : Int) := by omega
      have hk0 : (0 : Int) ≤ (k : Int) := by omega
      obtain ⟨r, s, hr, g1, g2⟩ := KI.out
      have hkF : k < F.length := by rw [HNF.out]; exact hlt.1
      obtain ⟨a, rfl, ha, hsz, hc⟩ := HF.out k hkF
      have hc' : wr.cell? (a.add k) = some (.string (F[k]'hkF)) := (hr.2.2.2.cell (p := a.add k) (by rw [add_block]; exact ha)).trans hc
      obtain ⟨f, hf⟩ : ∃ f, F[k]'hkF = f := ⟨_, rfl⟩
      rw [hf] at hc' hsz
      have HR := keep hr
      have HLT := keep hlt
      clear hr hc hf hlt ha
      cases ht : tol f with
      | true =>
        have mS := rset_long HR.out.1 f exx (by rw [ht]; rfl)
        have HT := keep ht
        clear ht hsz
        go_wp2_with fail
        refine mS.mono ?_
        rintro _ w4 ⟨rfl, hb4, hr4⟩
        have I4 : Kept (DrI h W x (k + 1) w4) := ⟨r, s, (HR.out.below hb4).more (by omega), g1, by omega⟩
        clear hb4 hr4 mS
        go_wp2
        go_roundw
        case measure => simp [intOf]; have := HLT.out; omega
        case rel => exact ⟨k + 1, by have := HLT.out; omega, by have := HLT.out; omega, by go_num, I4⟩
      | false =>
        have mS := rset_ok hH HR.out.1 (by omega) f exx (tol_no ht) exx_sz (fun _ => by omega)
        clear ht hsz
        go_wp2_with fail
        refine mS.mono ?_
        rintro _ w4 ⟨rfl, r4, s4, q1, q2, q3⟩
        have I4 := keep (DrI.set HR.out g1 g2 q1 q2 q3)
        clear q1 q2 q3 mS
        go_wp2
        go_roundw
        case measure => simp [intOf]; have := HLT.out; omega
        case rel => exact ⟨k + 1, by have := HLT.out; omega, by have := HLT.out; omega, by go_num, I4⟩
    · obtain ⟨r, s, hr, g1, g2⟩ := KI.out
      have HR := keep hr
      have mP := rpairs_any wr r _ _ s hr.1 (by omega)
      have G1 := keep g1
      have hstop : (¬ (k : Int) < (nF : Int)) ∨ ((k : Int) < (nF : Int) ∧ ¬ (k : Int) < 500) := by
        by_cases h1 : k < nF
        · exact .inr ⟨by omega, by omega⟩
        · exact .inl (by omega)
      clear hr hlt g1
      obtain ⟨wo, hwo⟩ : ∃ o, o = wr := ⟨_, rfl⟩
      subst hwo
      rcases hstop with h1 | ⟨h1, h2⟩
      all_goals
        go_wp2_with fail
        refine mP.mono ?_
        rintro _ w5 ⟨v, L, rfl, hL, hP, hb5⟩
        obtain ⟨g, rfl, hg, _⟩ := hP.form
        have hLn : L.length = ln s := hL.1.length_eq
        obtain ⟨l, hl⟩ : ∃ l, L.length = l := ⟨_, rfl⟩
        have R5 := keep (HR.out.below hb5)
        have mLn := rlen_any R5.out.1
        have hl1 : 1 ≤ l := by rw [← hl, hLn]; exact G1.out
        have hlb : l ≤ 501 := by rw [← hl, hLn]; omega
        rw [← hLn, hl] at mLn
        rw [hl]
        rw [hl] at hP
        have hl0 : ((l : Int) == 0) = false := beq_eq_false_iff_ne.2 (by omega)
        have HL := keep hL
        have HP := keep hP
        have HLl := keep hl
        clear hL hP hl hLn hb5 mP KI hg
        go_wp2_with fail
        refine mLn.mono ?_
        rintro _ w' ⟨rfl, hw'⟩
        obtain rfl := hw'.symm
        clear mLn
        go_wp2
        go_loopw [12] (fun i wr => ∃ j : Nat, j ≤ l ∧ i = .int .i64 j ∧ Kept (Below w5.heap.size w5 wr)) (fun i _ => l - (intOf i).toNat)
        case atStart => exact ⟨0, Nat.zero_le _, rfl, Below.refl _ _⟩
        case round =>
          obtain ⟨j, hj, rfl, KB⟩ := hrel
          by_cases hjl : j < l
          · have hjz : (j : Int) < (l : Int) := by omega
            have hj0 : (0 : Int) ≤ (j : Int) := by omega
            obtain ⟨e, he⟩ : ∃ e, L[j]? = some e := ⟨_, List.getElem?_eq_getElem (by rw [HLl.out]; exact hjl)⟩
            have hww : IntKind.u64.wrap (j : Int) = (j : Int) := by rw [IntKind.wrap_u64]; omega
            have mS := rsample_at wr r _ _ s (R5.out.below KB.out).1 (by omega) j (by unfold Dw.M; omega) L HL.out e (by rw [HLl.out, Nat.mod_eq_of_lt hjl]; exact he)
            have HE := keep he
            clear he
            obtain ⟨e1, e2⟩ := e
            go_wp2_with fail
            refine mS.mono ?_
            rintro _ w6 ⟨rfl, hb6⟩
            have KB6 := keep (KB.out.trans (hb6.mono KB.out.size))
            obtain ⟨c0, c1⟩ := (HP.out.kept KB6.out).at HE.out
            clear mS hb6 c1
            go_wp2
            go_roundw
            case measure => simp [intOf]; omega
            case rel => exact ⟨j + 1, by omega, by go_num, KB6⟩
          · have hjz : ¬ (j : Int) < (l : Int) := by omega
            have hm : n % l < l := Nat.mod_lt _ (by omega)
            obtain ⟨p, hp⟩ : ∃ p, n % l = p := ⟨_, rfl⟩
            rw [hp] at hm
            obtain ⟨e, he⟩ : ∃ e, L[p]? = some e := ⟨_, List.getElem?_eq_getElem (by rw [HLl.out]; exact hm)⟩
            have mS := rsample_at wr r _ _ s (R5.out.below KB.out).1 (by omega) n HN.out L HL.out e (by rw [HLl.out, hp]; exact he)
            have HE := keep he
            have q1 : IntKind.u64.wrap (l : Int) = (l : Int) := by rw [IntKind.wrap_u64]; omega
            have q2' : 1 ≤ (l : Int) := by omega
            have hpp : (n : Int) % (l : Int) = (p : Int) := by rw [← hp]; simp
            have hpl : (p : Int) < (l : Int) := by omega
            have hp0 : (0 : Int) ≤ (p : Int) := by omega
            have hwp : IntKind.i64.wrap (p : Int) = (p : Int) := by rw [IntKind.wrap_i64]; omega
            have hx' := Dw.le_of HN.out
            obtain ⟨e1, e2⟩ := e
            clear he hm hp
            go_wp2_with fail
            refine mS.mono ?_
            rintro _ w6 ⟨rfl, hb6⟩
            have KB6 := keep (KB.out.trans (hb6.mono KB.out.size))
            obtain ⟨c0, c1⟩ := (HP.out.kept KB6.out).at HE.out
            have B6 := keep ((R5.out.below KB6.out).2.2.2)
            clear mS hb6 c1
            go_wp2
            go_ret
            exact ⟨by simp, B6.out⟩
end Go.Proofs.Ytkcmhfcfmbhboaa
