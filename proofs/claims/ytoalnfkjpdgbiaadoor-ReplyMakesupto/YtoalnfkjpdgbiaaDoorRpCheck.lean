/-
  Contracts over this program: check of any reply, by what it does depth by depth: the walk.
-/
import Derived.Test.YtoalnfkjpdgbiaaDoorRpBfs
import Derived.Deep.LoopGhost
/-
  Contracts over this program: check of any reply, by what it does depth by depth.
-/
namespace Go.Proofs.YtoalnfkjpdgbiaaDoor
open Go.RowKit
set_option linter.unusedVariables false
theorem Lst.one {α : Type} {P : Nat → Prop} {w : World} {tl : List Value → α → Prop} {g : Nat} {a0 a1 a2 a3 : Value} {x : α} (hP : P g) (hg : Box w g a0 a1 a2 a3) (ht : tl [a0, a1, a2, a3] x) : Lst P w tl (.slice (some ⟨g, 0, none⟩) 1 1) [x] := by
  refine .inr ⟨g, 1, _, rfl, by simp, hP, hg, Nat.le_refl _, by unfold maxLen; omega, rfl, fun j y hy => ?_⟩
  cases j with
  | zero => simp at hy; subst hy; exact ht
  | succ j => simp at hy
/-- what check meets ahead of its loop -/
theorem check_head (n : Nat) (r : Rp.T n) (a0 a1 a2 a3 : Value) (w : World) (hT : Tel (· < w.heap.size) w n [a0, a1, a2, a3] r) :
    ∃ W1 W2 W3 W4, w.alloc (.cells #[a0, a1, a2, a3] 25) = W1 ∧ W1.alloc (.map #[] 0) = W2 ∧ W2.alloc (.cells #[a0, a1, a2, a3] 25) = W3 ∧ W3.alloc (.cells #[.slice (some ⟨W2.heap.size, 0, none⟩) 1 1] 23) = W4 ∧
      Box W1 w.heap.size a0 a1 a2 a3 ∧ Box W2 w.heap.size a0 a1 a2 a3 ∧ Below w.heap.size w W4 ∧ w.heap.size ≤ W1.heap.size ∧ W1.heap.size < W2.heap.size ∧ W2.heap.size < W3.heap.size ∧ W3.heap.size < W4.heap.size ∧ Mp W4 W1.heap.size [] ∧ Rl W4 (.slice (some ⟨W3.heap.size, 0, none⟩) 1 1) [((W2.heap.size, 1), 1)] ∧
      Lst (fun b => b < W4.heap.size ∧ b ≠ W1.heap.size) W4 (Tel (fun b => b < W4.heap.size ∧ b ≠ W1.heap.size) W4 n) (.slice (some ⟨W2.heap.size, 0, none⟩) 1 1) [r] := by
  obtain ⟨W1, hW1⟩ : ∃ x, x = w.alloc (.cells #[a0, a1, a2, a3] 25) := ⟨_, rfl⟩
  obtain ⟨W2, hW2⟩ : ∃ x, x = W1.alloc (.map #[] 0) := ⟨_, rfl⟩
  obtain ⟨W3, hW3⟩ : ∃ x, x = W2.alloc (.cells #[a0, a1, a2, a3] 25) := ⟨_, rfl⟩
  obtain ⟨W4, hW4⟩ : ∃ x, x = W3.alloc (.cells #[.slice (some ⟨W2.heap.size, 0, none⟩) 1 1] 23) := ⟨_, rfl⟩
  have s1 : W1.heap.size = w.heap.size + 1 := by rw [hW1]; show (w.heap.push _).size = _; simp
  have s2 : W2.heap.size = W1.heap.size + 1 := by rw [hW2]; show (W1.heap.push _).size = _; simp
  have s3 : W3.heap.size = W2.heap.size + 1 := by rw [hW3]; show (W2.heap.push _).size = _; simp
  have s4 : W4.heap.size = W3.heap.size + 1 := by rw [hW4]; show (W3.heap.push _).size = _; simp
  have b1 : Below w.heap.size w W1 := hW1 ▸ (Below.refl _ _).alloc (Nat.le_refl _) _
  have b2 : Below W1.heap.size W1 W2 := hW2 ▸ (Below.refl _ _).alloc (Nat.le_refl _) _
  have b3 : Below W2.heap.size W2 W3 := hW3 ▸ (Below.refl _ _).alloc (Nat.le_refl _) _
  have b4 : Below W3.heap.size W3 W4 := hW4 ▸ (Below.refl _ _).alloc (Nat.le_refl _) _
  have x1 : Box W1 w.heap.size a0 a1 a2 a3 := hW1 ▸ Box.new w a0 a1 a2 a3
  have m2 : W2.heap[W1.heap.size]? = some (.map #[] 0) := by rw [hW2]; exact heap_alloc_new _ _
  have x3 : Box W3 W2.heap.size a0 a1 a2 a3 := hW3 ▸ Box.new W2 a0 a1 a2 a3
  have r4 : W4.heap[W3.heap.size]? = some (.cells #[.slice (some ⟨W2.heap.size, 0, none⟩) 1 1] 23 (0, 0)) := by rw [hW4]; exact heap_alloc_new _ _
  have b14 : Below w.heap.size w W4 := ((b1.trans (b2.mono (by omega))).trans (b3.mono (by omega))).trans (b4.mono (by omega))
  refine ⟨W1, W2, W3, W4, hW1.symm, hW2.symm, hW3.symm, hW4.symm, x1, x1.below b2 (by omega), b14, by omega, by omega, by omega, by omega, ⟨#[], 0, ?_, rfl⟩, ?_, ?_⟩
  · rw [b4.block _ (by omega), b3.block _ (by omega)]; exact m2
  · exact ⟨rfl, .inr ⟨W3.heap.size, 1, _, rfl, Nat.zero_le _, r4, Nat.le_refl _, by unfold maxLen; omega, rfl, rfl⟩⟩
  · exact Lst.one ⟨by omega, by omega⟩ (x3.below b4 (by omega)) (Tel.mono (fun b hb => ⟨by omega, by omega⟩) (fun b hb => b14.block b hb) n _ r hT)
/-- what is always so while check goes on -/
def Ck (w0 : World) (rm : Nat) (w : World) (L : List (Spot × Int)) : Prop := w0.grownBy w (some rm) ∧ Mp w rm L
theorem stepE_none (d : Nat) (q : Bool) (s : St) : stepE d (true, q, none) s = some (if q = true ∧ 8 ≤ d then 161 else s.1, s.2.1, s.2.2) := rfl
theorem stepE_old (d : Nat) (q : Bool) (x : Spot × Nat) (s : St) (h : s.2.2 x.1 = dep (d + 1)) : stepE d (true, q, some x) s = some (if q = true ∧ 8 ≤ d then 161 else s.1, s.2.1, s.2.2) := by
  unfold stepE; simp only [Bool.true_eq_false, if_false, if_pos h]
theorem stepE_new (d : Nat) (q : Bool) (x : Spot × Nat) (s : St) (h : s.2.2 x.1 ≠ dep (d + 1)) : stepE d (true, q, some x) s = some (if q = true ∧ 8 ≤ d then 161 else s.1, s.2.1 ++ [x], fun y => if y = x.1 then dep (d + 1) else s.2.2 y) := by
  unfold stepE; simp only [Bool.true_eq_false, if_false, if_neg h]
theorem Mp.mono {w w' : World} {r : Nat} {L : List (Spot × Int)} (h : Mp w r L) (hr : w'.heap[r]? = w.heap[r]?) (hl : ∀ b, Lv w b → Lv w' b) : Mp w' r L := by
  obtain ⟨es, c, h1, h2⟩ := h
  exact ⟨es, c, hr.trans h1, h2.mono hl⟩
theorem Mp.lt {w : World} {r : Nat} {L : List (Spot × Int)} (h : Mp w r L) : r < w.heap.size := by
  obtain ⟨es, c, h1, _⟩ := h
  exact (Array.getElem?_eq_some_iff.1 h1).1
theorem Lv.below {w w' : World} (hb : Below w.heap.size w w') (b : Nat) (h : Lv w b) : Lv w' b := by
  obtain ⟨c, t, h1⟩ := h
  exact ⟨c, t, (hb.block b (Array.getElem?_eq_some_iff.1 h1).1).trans h1⟩
theorem Lv_same {P : Nat → Prop} {w0 w : World} {rm g : Nat} {L : List (Spot × Int)} (h : P g ∧ Lv w0 g) (hc : Ck w0 rm w L) (hP : P = fun b => b < w0.heap.size ∧ b ≠ rm) : Lv w g := by
  obtain ⟨h1, cc, t, h2⟩ := h
  rw [hP] at h1
  exact ⟨cc, t, (hc.1.block g h1.1 (fun e => h1.2 (by injection e))).trans h2⟩
theorem Ck.below {w0 : World} {rm : Nat} {w w' : World} {L : List (Spot × Int)} (h : Ck w0 rm w L) (hb : Below w.heap.size w w') : Ck w0 rm w' L :=
  ⟨⟨hb.os.trans h.1.os, hb.tape.trans h.1.tape, hb.output.trans h.1.output, Nat.le_trans h.1.size hb.size, fun k hk hne => (hb.block k (Nat.lt_of_lt_of_le hk h.1.size)).trans (h.1.block k hk hne)⟩, h.2.mono (hb.block _ h.2.lt) (fun b hl => hl.below hb b)⟩
theorem Ck.gr {w0 : World} {rm : Nat} {w w' : World} {v v' : Value} {L : List (Spot × Int)} (h : Ck w0 rm w L) (hg : Gr v v' w w') (hv : ∀ k, v.ownBlock = some k → w0.heap.size ≤ k ∧ k ≠ rm) (hl : ∀ b, Lv w b → Lv w' b) : Ck w0 rm w' L :=
  ⟨⟨hg.1.os.trans h.1.os, hg.1.tape.trans h.1.tape, hg.1.output.trans h.1.output, Nat.le_trans h.1.size hg.size, fun k hk hne => (hg.1.block k (Nat.lt_of_lt_of_le hk h.1.size) (fun e => by have := (hv k e.symm).1; omega)).trans (h.1.block k hk hne)⟩, h.2.mono (hg.1.block _ h.2.lt (fun e => (hv rm e.symm).2 rfl)) hl⟩
theorem Ck.meet {w0 : World} {rm : Nat} {w w' : World} {L L' : List (Spot × Int)} (h : Ck w0 rm w L) (hg : w.grownBy w' (some rm)) (hm : Mp w' rm L') : Ck w0 rm w' L' :=
  ⟨⟨hg.os.trans h.1.os, hg.tape.trans h.1.tape, hg.output.trans h.1.output, Nat.le_trans h.1.size hg.size, fun k hk hne => (hg.block k (Nat.lt_of_lt_of_le hk h.1.size) hne).trans (h.1.block k hk hne)⟩, hm⟩
end Go.Proofs.YtoalnfkjpdgbiaaDoor

namespace Go.Proofs.YtoalnfkjpdgbiaaDoor
open Go.RowKit
set_option linter.unusedVariables false
set_option maxRecDepth 100000 in
set_option maxHeartbeats 8000000 in
theorem check_walk (n : Nat) (r : Rp.T n) (k i : Int) (s : ByteArray) (ao : Option Addr) (m c : Nat) (w : World) (Z : Int) (hn : n < 900000) (hT : Tel (· < w.heap.size) w n [.int .i64 k, .string s, .int .i64 i, .slice ao m c] r)
    (hZ : ∀ (P : Nat → Prop) (w0 : World) (g : Nat), Lst P w0 (Tel P w0 n) (.slice (some ⟨g, 0, none⟩) 1 1) [r] → bfs (els w0) (n + 1) 0 0 [((g, 1), 1)] (fun _ => 0) = some Z) :
    Calls Tryd.prog 43 #[.agg #[.int .i64 k, .string s, .int .i64 i, .slice ao m c]] w fun e w' => e = .returned (.int .i64 Z) ∧ Below w.heap.size w w' := by
  obtain ⟨W1, W2, W3, W4, hW1, hW2, hW3, hW4, x1, x2, b4, q1, q2, q3, q4, m4, r4, l4⟩ := check_head n r _ _ _ _ w hT
  have z4 := hZ _ W4 _ l4
  obtain ⟨P, hP⟩ : ∃ P : Nat → Prop, P = fun b => b < W4.heap.size ∧ b ≠ W1.heap.size := ⟨_, rfl⟩
  rw [← hP] at l4
  have HP := keep hP
  have KN : Kept (∀ x ∈ [(((W2.heap.size, 1) : Spot), (1 : Nat))], Known P W4 x.1) := keep (fun x hx => by
    simp at hx; subst hx; exact ⟨by show 0 < 1; omega, n, 1, _, l4⟩)
  obtain ⟨d0, d1, d2, d3⟩ := x1.cells
  obtain ⟨e0, e1, e2, e3⟩ := x2.cells
  have hmm := @run_makeMap Tryd.prog
  have Z4 := keep z4
  have M4 := keep m4
  have R4 := keep r4
  have B4 := keep b4
  obtain ⟨rm, hrm⟩ : ∃ x, x = W1.heap.size := ⟨_, rfl⟩
  have Q1 := keep (show w.heap.size ≤ rm by omega)
  have Q4 := keep (show rm < W3.heap.size ∧ W3.heap.size < W4.heap.size by omega)
  clear x1 x2 m4 r4 b4 z4 l4 hZ hP hT q1 q2 q3 q4
  go_enter Tryd.func43, Tryd.ntmps43
  go_wp2
  go_loopg [3, 5, 6] (n + 1) (fun g u3 u5 u6 wx => ∃ (code : Int) (d n1 c1 : Nat) (ao1 : Option Addr) (R : List (Spot × Nat)) (L : List (Spot × Int)), u3 = .int .i64 code ∧ u5 = .slice ao1 n1 c1 ∧ u6 = .int .i64 d ∧ Kept (d + g = n + 1) ∧ Kept (n1 = R.length) ∧
    Kept (bfs (els W4) g d code R (noted L) = some Z) ∧ Kept (Rl wx (.slice ao1 n1 c1) R) ∧ Kept (Ck W4 W1.heap.size wx L) ∧ Kept (∀ x ∈ R, Known P W4 x.1) ∧ Kept (∀ k, (Value.slice ao1 n1 c1).ownBlock = some k → k ≠ W1.heap.size))
  case atStart => exact ⟨0, 0, 1, 1, _, [((W2.heap.size, 1), 1)], [], rfl, rfl, rfl, keep (by omega), keep rfl, keep Z4.out, keep R4.out, keep ⟨⟨rfl, rfl, rfl, Nat.le_refl _, fun _ _ _ => rfl⟩, M4.out⟩, KN, keep (fun k hk => by cases hk; show W3.heap.size ≠ W1.heap.size; have := Q4.out; rw [← hrm]; omega)⟩
  case round =>
    obtain ⟨code, d, n1, c1, ao1, R, L, rfl, rfl, rfl, HD, HN1, HB, HR, HC, HK, HO⟩ := hrel
    obtain ⟨f, rfl⟩ : ∃ f, gk = f + 1 := by
      cases gk with
      | zero => have := HB.out; cases this
      | succ f => exact ⟨f, rfl⟩
    by_cases hz : n1 = 0
    · subst hz
      have hres : code = Z := by
        have := HB.out
        unfold bfs at this
        rw [if_pos HN1.out.symm] at this
        exact Option.some.inj this
      subst hres
      have BF := keep (B4.out.trans (show Below w.heap.size W4 wr from ⟨HC.out.1.os, HC.out.1.tape, HC.out.1.output, HC.out.1.size, fun k hk => HC.out.1.block k (Nat.lt_of_lt_of_le hk B4.out.size) (fun e => by have := Q1.out; injection e; omega)⟩))
      go_wp2
      go_ret
      exact ⟨rfl, BF.out⟩
    · have hz' : (n1 : Int) ≠ 0 := by omega
      have hzp : decide ((0 : Int) < (n1 : Int)) = true := decide_eq_true (by omega)
      have hzq : decide (0 < n1) = true := decide_eq_true (by omega)
      have hzr : 0 < n1 := by omega
      have HB2 : Kept (goR d (els W4) (fun s => bfs (els W4) f (d + 1) s.1 s.2.1 s.2.2) R (code, [], noted L) = some Z) := keep (by
        have := HB.out
        unfold bfs at this
        rwa [if_neg (by rw [← HN1.out]; omega)] at this)
      obtain ⟨KF, hKF⟩ : ∃ KF : St → Option Int, KF = fun s => bfs (els W4) f (d + 1) s.1 s.2.1 s.2.2 := ⟨_, rfl⟩
      rw [← hKF] at HB2
      have HKF := keep hKF
      obtain ⟨H, hH⟩ : ∃ H, H = wr.heap.size := ⟨_, rfl⟩
      have HO2 : Kept (∀ k, (Value.slice ao1 n1 c1).ownBlock = some k → k ≠ W1.heap.size ∧ k < H) := keep (fun k hk => ⟨HO.out k hk, by rw [hH]; exact HR.out.lt k hk⟩)
      have HH : Kept (W1.heap.size < H ∧ W4.heap.size ≤ H) := keep (by have := HC.out.1.size; have := Q4.out; omega)
      have HHw : Kept (H ≤ wr.heap.size) := keep (by omega)
      have HD9 : Kept (d < 900000) := keep (by have := HD.out; omega)
      obtain ⟨wq, hwq⟩ : ∃ x, x = wr := ⟨_, rfl⟩
      subst hwq
      clear hz hKF hH HB
      go_wp2
      go_loopg [23, 3, 7] n1 (fun g u23 u3 u7 wx => ∃ (a : Nat) (code : Int) (ao2 : Option Addr) (n2 c2 : Nat) (B : List (Spot × Nat)) (L : List (Spot × Int)), u23 = .int .i64 a ∧ u3 = .int .i64 code ∧ u7 = .slice ao2 n2 c2 ∧ a + g = n1 ∧
        Kept (goR d (els W4) KF (R.drop a) (code, B, noted L) = some Z) ∧ Kept (Rl wx (.slice ao1 n1 c1) R) ∧ Kept (Rl wx (.slice ao2 n2 c2) B) ∧ Kept (Ck W4 W1.heap.size wx L) ∧ Kept (∀ x ∈ B, Known P W4 x.1) ∧ Kept (∀ k, (Value.slice ao2 n2 c2).ownBlock = some k → H ≤ k) ∧ Kept (H ≤ wx.heap.size))
      case atStart => exact ⟨0, code, none, 0, 0, [], L, rfl, rfl, rfl, by omega, keep HB2.out, HR, keep (Rl.nil _), HC, keep (fun x hx => by cases hx), keep (fun k hk => by cases hk), HHw⟩
      case round =>
        clear HB2 HR HC HO HHw L code
        obtain ⟨a, code, ao2, n2, c2, B, L, rfl, rfl, rfl, hag, HB, HR, HRB, HC, HKB, HOB, HS⟩ := hrel
        cases gk with
        | zero =>
          obtain rfl : a = n1 := by omega
          have hlt : ¬ (a : Int) < (a : Int) := by omega
          have hn2 := HRB.out.form
          obtain ⟨_, _, _, e, hn2⟩ := hn2
          obtain ⟨rfl, rfl, rfl⟩ : _ ∧ _ ∧ _ := by injection e with x y z; exact ⟨x, y, z⟩
          have HN2 := keep hn2
          have HB3 : Kept (bfs (els W4) f (d + 1) code B (noted L) = some Z) := keep (by
            have := HB.out
            rw [List.drop_of_length_le (by rw [← HN1.out]; exact Nat.le_refl _)] at this
            have h2 : KF (code, B, noted L) = some Z := this
            rwa [HKF.out] at h2)
          have dw : IntKind.i64.wrap ((d : Int) + 1) = ((d + 1 : Nat) : Int) := by have := HD9.out; rw [IntKind.wrap_i64]; omega
          have HO3 : Kept (∀ k, (Value.slice ao2 n2 c2).ownBlock = some k → k ≠ W1.heap.size) := keep (fun k hk e => by have := HOB.out k hk; have := HH.out; omega)
          have HD3 : Kept (d + 1 + f = n + 1) := keep (by have := HD.out; omega)
          clear hn2 e
          go_wp2
          go_roundg f
          case measure => omega
          case rel => exact ⟨code, d + 1, n2, c2, ao2, B, L, rfl, rfl, rfl, HD3, HN2, HB3, HRB, HC, HKB, HO3⟩
        | succ g =>
          have hlt : (a : Int) < (n1 : Int) := by omega
          have ha0 : (0 : Int) ≤ (a : Int) := by omega
          have aw : IntKind.i64.wrap ((a : Int) + 1) = ((a + 1 : Nat) : Int) := by
            have := HR.out.max
            rw [← HN1.out] at this
            unfold maxLen at this
            rw [IntKind.wrap_i64]; omega
          obtain ⟨x, hx⟩ : ∃ x, R[a]? = some x := ⟨_, List.getElem?_eq_getElem (by rw [← HN1.out]; omega)⟩
          obtain ⟨g0, cap0, e, hcl⟩ := HR.out.at hx
          obtain ⟨rfl, rfl⟩ : ao1 = some ⟨g0, 0, none⟩ ∧ c1 = cap0 := by injection e with x y z; exact ⟨x, z⟩
          obtain ⟨⟨sg, sm⟩, sc⟩ := x
          have hKn := HK.out _ (List.mem_of_getElem? hx)
          have HKN := keep hKn
          unfold slV at hcl
          have HB3 : Kept (goE d (goR d (els W4) KF (R.drop (a + 1))) (els W4 (sg, sm)) (code, B, noted L) = some Z) := keep (by
            have := HB.out
            rwa [goR_drop hx] at this)
          clear HB hx e hKn
          obtain ⟨KE, hKE⟩ : ∃ KE : St → Option Int, KE = goR d (els W4) KF (R.drop (a + 1)) := ⟨_, rfl⟩
          rw [← hKE] at HB3
          have HKE := keep hKE
          clear hKE
          obtain ⟨wp, hwp⟩ : ∃ x, x = wr := ⟨_, rfl⟩
          subst hwp
          have hsm : Kept (sm ≤ maxLen) := keep (by
            obtain ⟨_, _, _, l, hl⟩ := HKN.out
            obtain ⟨ao', c', e, h1, h2⟩ := hl.form
            injection e with e1 e2 e3
            have h3 : sm = l.length := e2
            omega)
          go_wp2
          go_loopg [29, 3, 7] sm (fun g u29 u3 u7 wx => ∃ (b : Nat) (code : Int) (ao3 : Option Addr) (n3 c3 : Nat) (B : List (Spot × Nat)) (L : List (Spot × Int)), u29 = .int .i64 b ∧ u3 = .int .i64 code ∧ u7 = .slice ao3 n3 c3 ∧ b + g = sm ∧
            Kept (goE d KE ((els W4 (sg, sm)).drop b) (code, B, noted L) = some Z) ∧ Kept (Rl wx (.slice (some ⟨g0, 0, none⟩) n1 c1) R) ∧ Kept (Rl wx (.slice ao3 n3 c3) B) ∧ Kept (Ck W4 W1.heap.size wx L) ∧ Kept (∀ x ∈ B, Known P W4 x.1) ∧ Kept (∀ k, (Value.slice ao3 n3 c3).ownBlock = some k → H ≤ k) ∧ Kept (H ≤ wx.heap.size))
          case atStart => exact ⟨0, code, ao2, n2, c2, B, L, rfl, rfl, rfl, by omega, HB3, HR, HRB, HC, HKB, HOB, HS⟩
          case round =>
            clear HB3 HR HRB HC HKB HOB HS L B code ao2 n2 c2
            obtain ⟨b, code, ao3, n3, c3, B, L, rfl, rfl, rfl, hbg, HB, HR, HRB, HC, HKB, HOB, HS⟩ := hrel
            cases gk with
            | zero =>
              obtain rfl : b = sm := by omega
              have hlt2 : ¬ (b : Int) < (b : Int) := by omega
              have HB3 : Kept (goR d (els W4) KF (R.drop (a + 1)) (code, B, noted L) = some Z) := keep (by
                have := HB.out
                rw [List.drop_of_length_le (by rw [els_len]; exact Nat.le_refl _)] at this
                have h2 : KE (code, B, noted L) = some Z := this
                rwa [HKE.out] at h2)
              go_wp2
              go_roundg g
              case measure => omega
              case rel => exact ⟨a + 1, code, ao3, n3, c3, B, L, by rfl, rfl, rfl, by omega, HB3, HR, HRB, HC, HKB, HOB, HS⟩
            | succ g2 =>
              have hlt2 : (b : Int) < (sm : Int) := by omega
              have hb0 : (0 : Int) ≤ (b : Int) := by omega
              have bw : IntKind.i64.wrap ((b : Int) + 1) = ((b + 1 : Nat) : Int) := by have := hsm.out; unfold maxLen at this; rw [IntKind.wrap_i64]; omega
              have dw : IntKind.i64.wrap ((d : Int) + 1) = ((d + 1 : Nat) : Int) := by have := HD9.out; rw [IntKind.wrap_i64]; omega
              obtain ⟨k', s', i', ao', m', c', f0, f1, f2, f3, hs', hmc', hch, hel⟩ := HKN.out.at (j := b) (by show b < sm; omega)
              have hPs : sg < W4.heap.size ∧ sg ≠ W1.heap.size := by have := HKN.out.lv.1; rw [HP.out] at this; exact this
              have hsame : wr.heap[sg]? = W4.heap[sg]? := HC.out.1.block sg hPs.1 (fun e => hPs.2 (by injection e))
              have hcs : ∀ o, wr.cell? ⟨sg, o, none⟩ = W4.cell? ⟨sg, o, none⟩ := fun o => World.cell?_of_block hsame
              rw [← hcs] at f0 f1 f2 f3
              have HB3 : Kept ((match stepE d (Rp.wellW k' s' i' (List.replicate m' ()), k' == 6, if m' = 0 then none else some (((ao'.getD ⟨0, 0, none⟩).block, m'), c')) (code, B, noted L) with | none => some 160 | some s' => if s'.2.1.length ≤ 4000000000000 then goE d KE ((els W4 (sg, sm)).drop (b + 1)) s' else none) = some Z) := keep (by
                have := HB.out
                rwa [goE_drop hel] at this)
              have HCH := keep hch
              have HW : Kept (∀ w, Calls Tryd.prog 53 #[.agg #[.int .i64 k', .string s', .int .i64 i', .slice ao' m' c']] w fun e w' => e = .returned (.bool (Rp.wellW k' s' i' (List.replicate m' ()))) ∧ Below w.heap.size w w') := keep (fun w => by
                have := well_any k' i' s' (List.replicate m' ()) ao' c' w hs'
                rwa [List.length_replicate] at this)
              obtain ⟨W5, hW5⟩ : ∃ x, x = wr.alloc (.cells #[.int .i64 k', .string s', .int .i64 i', .slice ao' m' c'] 25) := ⟨_, rfl⟩
              have x5 : Box W5 wr.heap.size (.int .i64 k') (.string s') (.int .i64 i') (.slice ao' m' c') := hW5 ▸ Box.new wr _ _ _ _
              have b5 : Below wr.heap.size wr W5 := hW5 ▸ (Below.refl _ _).alloc (Nat.le_refl _) _
              have hW5' := hW5.symm
              obtain ⟨y0, y1, y2, y3⟩ := x5.cells
              have X5 := keep x5
              have B5 := keep b5
              have HMC := keep hmc'
              clear HB hs' hmc' hch hel hPs hsame hcs hW5 x5 b5
              go_wp2_with fail
              refine (HW.out _).mono ?_
              rintro e w6 ⟨rfl, b6⟩
              have x6 := X5.out.below b6 X5.out.lt
              have b56 : Below wr.heap.size wr w6 := B5.out.trans (b6.mono B5.out.size)
              have HR6 := keep (HR.out.kept (fun k hk => b56.block k (HR.out.lt k hk)))
              have HRB6 := keep (HRB.out.kept (fun k hk => b56.block k (HRB.out.lt k hk)))
              have HC6 := keep (HC.out.below b56)
              have HS6 := keep (Nat.le_trans HS.out b56.size)
              have X6 := keep x6
              have HXB : Kept (H ≤ wr.heap.size) := HS
              obtain ⟨v0, v1, v2, v3⟩ := x6.cells
              clear b6 b56 x6 HR HRB HC HS y0 y1 y2 y3 hW5' HW X5 B5
              cases hwell : Rp.wellW k' s' i' (List.replicate m' ())
              · have hZ : Z = 160 := by
                  have := HB3.out
                  rw [hwell] at this
                  exact (Option.some.inj this).symm
                subst hZ
                have BF := keep (B4.out.trans (show Below w.heap.size W4 w6 from ⟨HC6.out.1.os, HC6.out.1.tape, HC6.out.1.output, HC6.out.1.size, fun k hk => HC6.out.1.block k (Nat.lt_of_lt_of_le hk B4.out.size) (fun e => by have := Q1.out; injection e; omega)⟩))
                clear hwell
                go_wp2
                go_ret
                exact ⟨rfl, BF.out⟩
              · rw [hwell] at HB3
                clear hwell
                rcases HCH.out with hm0 | ⟨g', hao, hkn⟩
                · subst hm0
                  by_cases h6 : k' = 6
                  · by_cases h8 : 8 ≤ d
                    · have kq : (k' == 6) = true := beq_iff_eq.2 h6
                      have dq : decide ((8 : Int) ≤ (d : Int)) = true := decide_eq_true (by omega)
                      have dq2 : decide (8 ≤ d) = true := decide_eq_true (by omega)
                      have KQ := keep kq
                      have hcode : (if (k' == 6) = true ∧ 8 ≤ d then (161 : Int) else code) = 161 := (if_pos ⟨KQ.out, by omega⟩)
                      have HB4 : Kept (goE d KE ((els W4 (sg, sm)).drop (b + 1)) (161, B, noted L) = some Z) := keep (by
                        have h1 := HB3.out
                        rw [if_pos rfl, stepE_none] at h1
                        dsimp only at h1
                        rw [hcode] at h1
                        split at h1
                        · exact h1
                        · cases h1)
                      clear HB3 hcode HCH h6
                      go_wp2_with fail
                      refine (meet_none W1.heap.size ao' c' ((d + 1 : Nat) : Int) _).mono ?_
                      rintro e w7 ⟨rfl, rfl⟩
                      go_wp2
                      go_roundg g2
                      case measure => omega
                      case rel => exact ⟨b + 1, 161, ao3, n3, c3, B, L, by rfl, by rfl, rfl, by omega, HB4, HR6, HRB6, HC6, HKB, HOB, HS6⟩
                    · have kq : (k' == 6) = true := beq_iff_eq.2 h6
                      have dq : decide ((8 : Int) ≤ (d : Int)) = false := decide_eq_false (by omega)
                      have dq2 : decide (8 ≤ d) = false := decide_eq_false (by omega)
                      have KQ := keep kq
                      have hcode : (if (k' == 6) = true ∧ 8 ≤ d then (161 : Int) else code) = code := (if_neg (fun h => by omega))
                      have HB4 : Kept (goE d KE ((els W4 (sg, sm)).drop (b + 1)) (code, B, noted L) = some Z) := keep (by
                        have h1 := HB3.out
                        rw [if_pos rfl, stepE_none] at h1
                        dsimp only at h1
                        rw [hcode] at h1
                        split at h1
                        · exact h1
                        · cases h1)
                      clear HB3 hcode HCH h6
                      go_wp2_with fail
                      refine (meet_none W1.heap.size ao' c' ((d + 1 : Nat) : Int) _).mono ?_
                      rintro e w7 ⟨rfl, rfl⟩
                      go_wp2
                      go_roundg g2
                      case measure => omega
                      case rel => exact ⟨b + 1, code, ao3, n3, c3, B, L, by rfl, by rfl, rfl, by omega, HB4, HR6, HRB6, HC6, HKB, HOB, HS6⟩
                  · have kq : (k' == 6) = false := beq_eq_false_iff_ne.2 h6
                    have KQ := keep kq
                    have hcode : (if (k' == 6) = true ∧ 8 ≤ d then (161 : Int) else code) = code := (if_neg (fun h => by rw [KQ.out] at h; cases h.1))
                    have HB4 : Kept (goE d KE ((els W4 (sg, sm)).drop (b + 1)) (code, B, noted L) = some Z) := keep (by
                      have h1 := HB3.out
                      rw [if_pos rfl, stepE_none] at h1
                      dsimp only at h1
                      rw [hcode] at h1
                      split at h1
                      · exact h1
                      · cases h1)
                    clear HB3 hcode HCH h6
                    go_wp2_with fail
                    refine (meet_none W1.heap.size ao' c' ((d + 1 : Nat) : Int) _).mono ?_
                    rintro e w7 ⟨rfl, rfl⟩
                    go_wp2
                    go_roundg g2
                    case measure => omega
                    case rel => exact ⟨b + 1, code, ao3, n3, c3, B, L, by rfl, by rfl, rfl, by omega, HB4, HR6, HRB6, HC6, HKB, HOB, HS6⟩
                · subst hao
                  have hm0 : ¬ m' = 0 := by have := hkn.1; intro e; rw [e] at this; exact Nat.lt_irrefl _ this
                  have HKN' := keep hkn
                  clear hkn
                  by_cases hno : noted L (g', m') = dep (d + 1)
                  · by_cases h6 : k' = 6
                    · by_cases h8 : 8 ≤ d
                      · have kq : (k' == 6) = true := beq_iff_eq.2 h6
                        have dq : decide ((8 : Int) ≤ (d : Int)) = true := decide_eq_true (by omega)
                        have dq2 : decide (8 ≤ d) = true := decide_eq_true (by omega)
                        have KQ := keep kq
                        have hcode : (if (k' == 6) = true ∧ 8 ≤ d then (161 : Int) else code) = 161 := (if_pos ⟨KQ.out, by omega⟩)
                        have MT := keep (meet_any W1.heap.size L g' m' c' (d + 1) w6 HC6.out.2 (Lv_same HKN'.out.lv HC6.out HP.out) (by omega) HMC.out (by have := HD9.out; omega))
                        have HB4 : Kept (goE d KE ((els W4 (sg, sm)).drop (b + 1)) (161, B, noted L) = some Z) := keep (by
                          have h1 := HB3.out
                          rw [if_neg hm0] at h1
                          have h2 := stepE_old d (k' == 6) ((g', m'), c') (code, B, noted L) hno
                          rw [show stepE d (true, k' == 6, some ((((some (⟨g', 0, none⟩ : Addr)).getD ⟨0, 0, none⟩).block, m'), c')) (code, B, noted L) = _ from h2] at h1
                          dsimp only at h1
                          rw [hcode] at h1
                          split at h1
                          · exact h1
                          · cases h1)
                        have NO := keep hno
                        clear HB3 hcode HCH h6 hno
                        go_wp2_with fail
                        refine MT.out.mono ?_
                        rintro e w7 ⟨rfl, gr7, L', mp7, na7⟩
                        have hb : (!decide (noted L (g', m') = dep (d + 1))) = false := by rw [decide_eq_true NO.out]; rfl
                        rw [hb]
                        have hL : noted L' = noted L := by
                          funext x
                          rw [na7 x]
                          by_cases e : x = (g', m')
                          · rw [if_pos e, e]; exact NO.out.symm
                          · rw [if_neg e]
                        have HB5 : Kept (goE d KE ((els W4 (sg, sm)).drop (b + 1)) (161, B, noted L') = some Z) := keep (by rw [hL]; exact HB4.out)
                        have HR7 := keep (HR6.out.kept (fun k hk => gr7.block k (HR6.out.lt k hk) (fun e => (HO2.out k hk).1 (by injection e))))
                        have HRB7 := keep (HRB6.out.kept (fun k hk => gr7.block k (HRB6.out.lt k hk) (fun e => by have h1 := HOB.out k hk; have h2 := HH.out; injection e; omega)))
                        have HC7 := keep (HC6.out.meet gr7 mp7)
                        have HS7 := keep (Nat.le_trans HS6.out gr7.size)
                        clear gr7 mp7 na7 hL hb MT HB4 HR6 HRB6 HC6
                        go_wp2
                        go_roundg g2
                        case measure => omega
                        case rel => exact ⟨b + 1, 161, ao3, n3, c3, B, L', by rfl, by rfl, rfl, by omega, HB5, HR7, HRB7, HC7, HKB, HOB, HS7⟩
                      · have kq : (k' == 6) = true := beq_iff_eq.2 h6
                        have dq : decide ((8 : Int) ≤ (d : Int)) = false := decide_eq_false (by omega)
                        have dq2 : decide (8 ≤ d) = false := decide_eq_false (by omega)
                        have KQ := keep kq
                        have hcode : (if (k' == 6) = true ∧ 8 ≤ d then (161 : Int) else code) = code := (if_neg (fun h => by omega))
                        have MT := keep (meet_any W1.heap.size L g' m' c' (d + 1) w6 HC6.out.2 (Lv_same HKN'.out.lv HC6.out HP.out) (by omega) HMC.out (by have := HD9.out; omega))
                        have HB4 : Kept (goE d KE ((els W4 (sg, sm)).drop (b + 1)) (code, B, noted L) = some Z) := keep (by
                          have h1 := HB3.out
                          rw [if_neg hm0] at h1
                          have h2 := stepE_old d (k' == 6) ((g', m'), c') (code, B, noted L) hno
                          rw [show stepE d (true, k' == 6, some ((((some (⟨g', 0, none⟩ : Addr)).getD ⟨0, 0, none⟩).block, m'), c')) (code, B, noted L) = _ from h2] at h1
                          dsimp only at h1
                          rw [hcode] at h1
                          split at h1
                          · exact h1
                          · cases h1)
                        have NO := keep hno
                        clear HB3 hcode HCH h6 hno
                        go_wp2_with fail
                        refine MT.out.mono ?_
                        rintro e w7 ⟨rfl, gr7, L', mp7, na7⟩
                        have hb : (!decide (noted L (g', m') = dep (d + 1))) = false := by rw [decide_eq_true NO.out]; rfl
                        rw [hb]
                        have hL : noted L' = noted L := by
                          funext x
                          rw [na7 x]
                          by_cases e : x = (g', m')
                          · rw [if_pos e, e]; exact NO.out.symm
                          · rw [if_neg e]
                        have HB5 : Kept (goE d KE ((els W4 (sg, sm)).drop (b + 1)) (code, B, noted L') = some Z) := keep (by rw [hL]; exact HB4.out)
                        have HR7 := keep (HR6.out.kept (fun k hk => gr7.block k (HR6.out.lt k hk) (fun e => (HO2.out k hk).1 (by injection e))))
                        have HRB7 := keep (HRB6.out.kept (fun k hk => gr7.block k (HRB6.out.lt k hk) (fun e => by have h1 := HOB.out k hk; have h2 := HH.out; injection e; omega)))
                        have HC7 := keep (HC6.out.meet gr7 mp7)
                        have HS7 := keep (Nat.le_trans HS6.out gr7.size)
                        clear gr7 mp7 na7 hL hb MT HB4 HR6 HRB6 HC6
                        go_wp2
                        go_roundg g2
                        case measure => omega
                        case rel => exact ⟨b + 1, code, ao3, n3, c3, B, L', by rfl, by rfl, rfl, by omega, HB5, HR7, HRB7, HC7, HKB, HOB, HS7⟩
                    · have kq : (k' == 6) = false := beq_eq_false_iff_ne.2 h6
                      have KQ := keep kq
                      have hcode : (if (k' == 6) = true ∧ 8 ≤ d then (161 : Int) else code) = code := (if_neg (fun h => by rw [KQ.out] at h; cases h.1))
                      have MT := keep (meet_any W1.heap.size L g' m' c' (d + 1) w6 HC6.out.2 (Lv_same HKN'.out.lv HC6.out HP.out) (by omega) HMC.out (by have := HD9.out; omega))
                      have HB4 : Kept (goE d KE ((els W4 (sg, sm)).drop (b + 1)) (code, B, noted L) = some Z) := keep (by
                        have h1 := HB3.out
                        rw [if_neg hm0] at h1
                        have h2 := stepE_old d (k' == 6) ((g', m'), c') (code, B, noted L) hno
                        rw [show stepE d (true, k' == 6, some ((((some (⟨g', 0, none⟩ : Addr)).getD ⟨0, 0, none⟩).block, m'), c')) (code, B, noted L) = _ from h2] at h1
                        dsimp only at h1
                        rw [hcode] at h1
                        split at h1
                        · exact h1
                        · cases h1)
                      have NO := keep hno
                      clear HB3 hcode HCH h6 hno
                      go_wp2_with fail
                      refine MT.out.mono ?_
                      rintro e w7 ⟨rfl, gr7, L', mp7, na7⟩
                      have hb : (!decide (noted L (g', m') = dep (d + 1))) = false := by rw [decide_eq_true NO.out]; rfl
                      rw [hb]
                      have hL : noted L' = noted L := by
                        funext x
                        rw [na7 x]
                        by_cases e : x = (g', m')
                        · rw [if_pos e, e]; exact NO.out.symm
                        · rw [if_neg e]
                      have HB5 : Kept (goE d KE ((els W4 (sg, sm)).drop (b + 1)) (code, B, noted L') = some Z) := keep (by rw [hL]; exact HB4.out)
                      have HR7 := keep (HR6.out.kept (fun k hk => gr7.block k (HR6.out.lt k hk) (fun e => (HO2.out k hk).1 (by injection e))))
                      have HRB7 := keep (HRB6.out.kept (fun k hk => gr7.block k (HRB6.out.lt k hk) (fun e => by have h1 := HOB.out k hk; have h2 := HH.out; injection e; omega)))
                      have HC7 := keep (HC6.out.meet gr7 mp7)
                      have HS7 := keep (Nat.le_trans HS6.out gr7.size)
                      clear gr7 mp7 na7 hL hb MT HB4 HR6 HRB6 HC6
                      go_wp2
                      go_roundg g2
                      case measure => omega
                      case rel => exact ⟨b + 1, code, ao3, n3, c3, B, L', by rfl, by rfl, rfl, by omega, HB5, HR7, HRB7, HC7, HKB, HOB, HS7⟩
                  · by_cases h6 : k' = 6
                    · by_cases h8 : 8 ≤ d
                      · have kq : (k' == 6) = true := beq_iff_eq.2 h6
                        have dq : decide ((8 : Int) ≤ (d : Int)) = true := decide_eq_true (by omega)
                        have dq2 : decide (8 ≤ d) = true := decide_eq_true (by omega)
                        have KQ := keep kq
                        have hcode : (if (k' == 6) = true ∧ 8 ≤ d then (161 : Int) else code) = 161 := (if_pos ⟨KQ.out, by omega⟩)
                        have MT := keep (meet_any W1.heap.size L g' m' c' (d + 1) w6 HC6.out.2 (Lv_same HKN'.out.lv HC6.out HP.out) (by omega) HMC.out (by have := HD9.out; omega))
                        have HB4 : Kept ((B ++ [((g', m'), c')]).length ≤ 4000000000000 ∧ goE d KE ((els W4 (sg, sm)).drop (b + 1)) (161, B ++ [((g', m'), c')], fun y => if y = (g', m') then dep (d + 1) else noted L y) = some Z) := keep (by
                          have h1 := HB3.out
                          rw [if_neg hm0] at h1
                          have h2 := stepE_new d (k' == 6) ((g', m'), c') (code, B, noted L) hno
                          rw [show stepE d (true, k' == 6, some ((((some (⟨g', 0, none⟩ : Addr)).getD ⟨0, 0, none⟩).block, m'), c')) (code, B, noted L) = _ from h2] at h1
                          dsimp only at h1
                          rw [hcode] at h1
                          split at h1
                          · rename_i hq; exact ⟨hq, h1⟩
                          · cases h1)
                        have NO := keep hno
                        clear HB3 hcode HCH h6 hno
                        go_wp2_with fail
                        refine MT.out.mono ?_
                        rintro e w7 ⟨rfl, gr7, L', mp7, na7⟩
                        have hb : (!decide (noted L (g', m') = dep (d + 1))) = true := by rw [decide_eq_false NO.out]; rfl
                        rw [hb]
                        have hL : noted L' = fun y => if y = (g', m') then dep (d + 1) else noted L y := by funext x; exact na7 x
                        have HR7 := keep (HR6.out.kept (fun k hk => gr7.block k (HR6.out.lt k hk) (fun e => (HO2.out k hk).1 (by injection e))))
                        have HRB7 := keep (HRB6.out.kept (fun k hk => gr7.block k (HRB6.out.lt k hk) (fun e => by have h1 := HOB.out k hk; have h2 := HH.out; injection e; omega)))
                        have HC7 := keep (HC6.out.meet gr7 mp7)
                        have HS7 := keep (Nat.le_trans HS6.out gr7.size)
                        have X7 : Box w7 wr.heap.size (.int .i64 k') (.string s') (.int .i64 i') (.slice (some ⟨g', 0, none⟩) m' c') := (gr7.block wr.heap.size X6.out.lt (fun e => by have h1 := HXB.out; have h2 := HH.out; injection e; omega)).trans X6.out
                        obtain ⟨t0, t1, t2, t3⟩ := X7.cells
                        obtain ⟨v9, w9, r9, k9, gr9, lv9⟩ := app_list ((g', m'), c') HRB7.out (by have h1 := HB4.out.1; rw [List.length_append] at h1; have : [((g', m'), c')].length = 1 := rfl; omega) 72
                        obtain ⟨ao9, n9, c9, rfl, hn9⟩ := k9.form
                        obtain ⟨W8, hW8⟩ : ∃ x, w7.alloc (.cells #[slV ((g', m'), c')] 23) = x := ⟨_, rfl⟩
                        rw [hW8] at r9
                        have R9 := keep r9
                        have hW8' : w7.alloc (.cells #[.slice (some ⟨g', 0, none⟩) m' c'] 23) = W8 := hW8
                        have hfar : ∀ k, k < H → k ≠ W1.heap.size ∨ True → k < w7.heap.size → (Value.slice ao3 n3 c3).ownBlock ≠ some k := fun k hk _ _ e => by have := HOB.out k e; omega
                        have HR9 := keep (HR7.out.kept (fun k hk => gr9.1.block k (HR7.out.lt k hk) (fun e => hfar k (HO2.out k hk).2 (.inr trivial) (HR7.out.lt k hk) e.symm)))
                        have HC9 := keep (HC7.out.gr gr9 (fun k hk => by have h1 := HOB.out k hk; have h2 := HH.out; exact ⟨by omega, by omega⟩) lv9)
                        have HOB9 : Kept (∀ k, (Value.slice ao9 n9 c9).ownBlock = some k → H ≤ k) := keep (fun k hk => by rcases gr9.2 k hk with e | e; exact HOB.out k e; have := HS7.out; omega)
                        have HS9 := keep (Nat.le_trans HS7.out gr9.size)
                        have HK9 : Kept (∀ x ∈ B ++ [((g', m'), c')], Known P W4 x.1) := keep (fun x hx => by
                          rcases List.mem_append.1 hx with h | h
                          · exact HKB.out x h
                          · simp at h; subst h; exact HKN'.out)
                        have K9 := keep k9
                        have HB5 : Kept (goE d KE ((els W4 (sg, sm)).drop (b + 1)) (161, B ++ [((g', m'), c')], noted L') = some Z) := keep (by rw [hL]; exact HB4.out.2)
                        clear gr7 mp7 na7 hL hb MT HB4 HR6 HRB6 HC6 HR7 HRB7 HC7 X7 r9 k9 gr9 lv9 hfar hW8 hn9 v0 v1 v2 v3
                        go_wp2_with (first | (show wpList _ _ _ ({ dst := some 53, op := Op.call { callee := Callee.builtin Builtin.append, args := _, argTypes := _ }, type := _, pos := _, after := _, guard := _ } :: _) _ _; refine wpList_app_run rfl _ _ _ _ rfl _ _ _ rfl rfl R9.out ?_))
                        go_roundg g2
                        case measure => omega
                        case rel => exact ⟨b + 1, 161, ao9, n9, c9, B ++ [((g', m'), c')], L', by rfl, by rfl, rfl, by omega, HB5, HR9, K9, HC9, HK9, HOB9, HS9⟩
                      · have kq : (k' == 6) = true := beq_iff_eq.2 h6
                        have dq : decide ((8 : Int) ≤ (d : Int)) = false := decide_eq_false (by omega)
                        have dq2 : decide (8 ≤ d) = false := decide_eq_false (by omega)
                        have KQ := keep kq
                        have hcode : (if (k' == 6) = true ∧ 8 ≤ d then (161 : Int) else code) = code := (if_neg (fun h => by omega))
                        have MT := keep (meet_any W1.heap.size L g' m' c' (d + 1) w6 HC6.out.2 (Lv_same HKN'.out.lv HC6.out HP.out) (by omega) HMC.out (by have := HD9.out; omega))
                        have HB4 : Kept ((B ++ [((g', m'), c')]).length ≤ 4000000000000 ∧ goE d KE ((els W4 (sg, sm)).drop (b + 1)) (code, B ++ [((g', m'), c')], fun y => if y = (g', m') then dep (d + 1) else noted L y) = some Z) := keep (by
                          have h1 := HB3.out
                          rw [if_neg hm0] at h1
                          have h2 := stepE_new d (k' == 6) ((g', m'), c') (code, B, noted L) hno
                          rw [show stepE d (true, k' == 6, some ((((some (⟨g', 0, none⟩ : Addr)).getD ⟨0, 0, none⟩).block, m'), c')) (code, B, noted L) = _ from h2] at h1
                          dsimp only at h1
                          rw [hcode] at h1
                          split at h1
                          · rename_i hq; exact ⟨hq, h1⟩
                          · cases h1)
                        have NO := keep hno
                        clear HB3 hcode HCH h6 hno
                        go_wp2_with fail
                        refine MT.out.mono ?_
                        rintro e w7 ⟨rfl, gr7, L', mp7, na7⟩
                        have hb : (!decide (noted L (g', m') = dep (d + 1))) = true := by rw [decide_eq_false NO.out]; rfl
                        rw [hb]
                        have hL : noted L' = fun y => if y = (g', m') then dep (d + 1) else noted L y := by funext x; exact na7 x
                        have HR7 := keep (HR6.out.kept (fun k hk => gr7.block k (HR6.out.lt k hk) (fun e => (HO2.out k hk).1 (by injection e))))
                        have HRB7 := keep (HRB6.out.kept (fun k hk => gr7.block k (HRB6.out.lt k hk) (fun e => by have h1 := HOB.out k hk; have h2 := HH.out; injection e; omega)))
                        have HC7 := keep (HC6.out.meet gr7 mp7)
                        have HS7 := keep (Nat.le_trans HS6.out gr7.size)
                        have X7 : Box w7 wr.heap.size (.int .i64 k') (.string s') (.int .i64 i') (.slice (some ⟨g', 0, none⟩) m' c') := (gr7.block wr.heap.size X6.out.lt (fun e => by have h1 := HXB.out; have h2 := HH.out; injection e; omega)).trans X6.out
                        obtain ⟨t0, t1, t2, t3⟩ := X7.cells
                        obtain ⟨v9, w9, r9, k9, gr9, lv9⟩ := app_list ((g', m'), c') HRB7.out (by have h1 := HB4.out.1; rw [List.length_append] at h1; have : [((g', m'), c')].length = 1 := rfl; omega) 72
                        obtain ⟨ao9, n9, c9, rfl, hn9⟩ := k9.form
                        obtain ⟨W8, hW8⟩ : ∃ x, w7.alloc (.cells #[slV ((g', m'), c')] 23) = x := ⟨_, rfl⟩
                        rw [hW8] at r9
                        have R9 := keep r9
                        have hW8' : w7.alloc (.cells #[.slice (some ⟨g', 0, none⟩) m' c'] 23) = W8 := hW8
                        have hfar : ∀ k, k < H → k ≠ W1.heap.size ∨ True → k < w7.heap.size → (Value.slice ao3 n3 c3).ownBlock ≠ some k := fun k hk _ _ e => by have := HOB.out k e; omega
                        have HR9 := keep (HR7.out.kept (fun k hk => gr9.1.block k (HR7.out.lt k hk) (fun e => hfar k (HO2.out k hk).2 (.inr trivial) (HR7.out.lt k hk) e.symm)))
                        have HC9 := keep (HC7.out.gr gr9 (fun k hk => by have h1 := HOB.out k hk; have h2 := HH.out; exact ⟨by omega, by omega⟩) lv9)
                        have HOB9 : Kept (∀ k, (Value.slice ao9 n9 c9).ownBlock = some k → H ≤ k) := keep (fun k hk => by rcases gr9.2 k hk with e | e; exact HOB.out k e; have := HS7.out; omega)
                        have HS9 := keep (Nat.le_trans HS7.out gr9.size)
                        have HK9 : Kept (∀ x ∈ B ++ [((g', m'), c')], Known P W4 x.1) := keep (fun x hx => by
                          rcases List.mem_append.1 hx with h | h
                          · exact HKB.out x h
                          · simp at h; subst h; exact HKN'.out)
                        have K9 := keep k9
                        have HB5 : Kept (goE d KE ((els W4 (sg, sm)).drop (b + 1)) (code, B ++ [((g', m'), c')], noted L') = some Z) := keep (by rw [hL]; exact HB4.out.2)
                        clear gr7 mp7 na7 hL hb MT HB4 HR6 HRB6 HC6 HR7 HRB7 HC7 X7 r9 k9 gr9 lv9 hfar hW8 hn9 v0 v1 v2 v3
                        go_wp2_with (first | (show wpList _ _ _ ({ dst := some 53, op := Op.call { callee := Callee.builtin Builtin.append, args := _, argTypes := _ }, type := _, pos := _, after := _, guard := _ } :: _) _ _; refine wpList_app_run rfl _ _ _ _ rfl _ _ _ rfl rfl R9.out ?_))
                        go_roundg g2
                        case measure => omega
                        case rel => exact ⟨b + 1, code, ao9, n9, c9, B ++ [((g', m'), c')], L', by rfl, by rfl, rfl, by omega, HB5, HR9, K9, HC9, HK9, HOB9, HS9⟩
                    · have kq : (k' == 6) = false := beq_eq_false_iff_ne.2 h6
                      have KQ := keep kq
                      have hcode : (if (k' == 6) = true ∧ 8 ≤ d then (161 : Int) else code) = code := (if_neg (fun h => by rw [KQ.out] at h; cases h.1))
                      have MT := keep (meet_any W1.heap.size L g' m' c' (d + 1) w6 HC6.out.2 (Lv_same HKN'.out.lv HC6.out HP.out) (by omega) HMC.out (by have := HD9.out; omega))
                      have HB4 : Kept ((B ++ [((g', m'), c')]).length ≤ 4000000000000 ∧ goE d KE ((els W4 (sg, sm)).drop (b + 1)) (code, B ++ [((g', m'), c')], fun y => if y = (g', m') then dep (d + 1) else noted L y) = some Z) := keep (by
                        have h1 := HB3.out
                        rw [if_neg hm0] at h1
                        have h2 := stepE_new d (k' == 6) ((g', m'), c') (code, B, noted L) hno
                        rw [show stepE d (true, k' == 6, some ((((some (⟨g', 0, none⟩ : Addr)).getD ⟨0, 0, none⟩).block, m'), c')) (code, B, noted L) = _ from h2] at h1
                        dsimp only at h1
                        rw [hcode] at h1
                        split at h1
                        · rename_i hq; exact ⟨hq, h1⟩
                        · cases h1)
                      have NO := keep hno
                      clear HB3 hcode HCH h6 hno
                      go_wp2_with fail
                      refine MT.out.mono ?_
                      rintro e w7 ⟨rfl, gr7, L', mp7, na7⟩
                      have hb : (!decide (noted L (g', m') = dep (d + 1))) = true := by rw [decide_eq_false NO.out]; rfl
                      rw [hb]
                      have hL : noted L' = fun y => if y = (g', m') then dep (d + 1) else noted L y := by funext x; exact na7 x
                      have HR7 := keep (HR6.out.kept (fun k hk => gr7.block k (HR6.out.lt k hk) (fun e => (HO2.out k hk).1 (by injection e))))
                      have HRB7 := keep (HRB6.out.kept (fun k hk => gr7.block k (HRB6.out.lt k hk) (fun e => by have h1 := HOB.out k hk; have h2 := HH.out; injection e; omega)))
                      have HC7 := keep (HC6.out.meet gr7 mp7)
                      have HS7 := keep (Nat.le_trans HS6.out gr7.size)
                      have X7 : Box w7 wr.heap.size (.int .i64 k') (.string s') (.int .i64 i') (.slice (some ⟨g', 0, none⟩) m' c') := (gr7.block wr.heap.size X6.out.lt (fun e => by have h1 := HXB.out; have h2 := HH.out; injection e; omega)).trans X6.out
                      obtain ⟨t0, t1, t2, t3⟩ := X7.cells
                      obtain ⟨v9, w9, r9, k9, gr9, lv9⟩ := app_list ((g', m'), c') HRB7.out (by have h1 := HB4.out.1; rw [List.length_append] at h1; have : [((g', m'), c')].length = 1 := rfl; omega) 72
                      obtain ⟨ao9, n9, c9, rfl, hn9⟩ := k9.form
                      obtain ⟨W8, hW8⟩ : ∃ x, w7.alloc (.cells #[slV ((g', m'), c')] 23) = x := ⟨_, rfl⟩
                      rw [hW8] at r9
                      have R9 := keep r9
                      have hW8' : w7.alloc (.cells #[.slice (some ⟨g', 0, none⟩) m' c'] 23) = W8 := hW8
                      have hfar : ∀ k, k < H → k ≠ W1.heap.size ∨ True → k < w7.heap.size → (Value.slice ao3 n3 c3).ownBlock ≠ some k := fun k hk _ _ e => by have := HOB.out k e; omega
                      have HR9 := keep (HR7.out.kept (fun k hk => gr9.1.block k (HR7.out.lt k hk) (fun e => hfar k (HO2.out k hk).2 (.inr trivial) (HR7.out.lt k hk) e.symm)))
                      have HC9 := keep (HC7.out.gr gr9 (fun k hk => by have h1 := HOB.out k hk; have h2 := HH.out; exact ⟨by omega, by omega⟩) lv9)
                      have HOB9 : Kept (∀ k, (Value.slice ao9 n9 c9).ownBlock = some k → H ≤ k) := keep (fun k hk => by rcases gr9.2 k hk with e | e; exact HOB.out k e; have := HS7.out; omega)
                      have HS9 := keep (Nat.le_trans HS7.out gr9.size)
                      have HK9 : Kept (∀ x ∈ B ++ [((g', m'), c')], Known P W4 x.1) := keep (fun x hx => by
                        rcases List.mem_append.1 hx with h | h
                        · exact HKB.out x h
                        · simp at h; subst h; exact HKN'.out)
                      have K9 := keep k9
                      have HB5 : Kept (goE d KE ((els W4 (sg, sm)).drop (b + 1)) (code, B ++ [((g', m'), c')], noted L') = some Z) := keep (by rw [hL]; exact HB4.out.2)
                      clear gr7 mp7 na7 hL hb MT HB4 HR6 HRB6 HC6 HR7 HRB7 HC7 X7 r9 k9 gr9 lv9 hfar hW8 hn9 v0 v1 v2 v3
                      go_wp2_with (first | (show wpList _ _ _ ({ dst := some 53, op := Op.call { callee := Callee.builtin Builtin.append, args := _, argTypes := _ }, type := _, pos := _, after := _, guard := _ } :: _) _ _; refine wpList_app_run rfl _ _ _ _ rfl _ _ _ rfl rfl R9.out ?_))
                      go_roundg g2
                      case measure => omega
                      case rel => exact ⟨b + 1, code, ao9, n9, c9, B ++ [((g', m'), c')], L', by rfl, by rfl, rfl, by omega, HB5, HR9, K9, HC9, HK9, HOB9, HS9⟩
end Go.Proofs.YtoalnfkjpdgbiaaDoor
