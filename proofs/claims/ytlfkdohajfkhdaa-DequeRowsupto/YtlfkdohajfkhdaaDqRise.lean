/-
  Contracts over this program: the chunks of a deque gone through from the first on, by the own law for ranging.
-/
import Derived.Test.YtlfkdohajfkhdaaDqPush1
import Derived.WalkKit
import Derived.OwnWalkIn
import Derived.TacticsInMore
import Derived.LoopNIn
import Derived.LoopIn
import Derived.Sort.QuietIn
namespace Go.Proofs.Ytlfkdohajfkhdaa
open Go.RowKit
set_option linter.unusedVariables false
/-- what is told: the place of a chunk's first text, and the chunk -/
def riL : Nat → List Chk → List (Nat × Nat)
  | _, [] => []
  | s, x :: r => (s, x.1) :: riL (s + x.2.length) r
def riV (x : Nat × Nat) : Array Value := #[.int .i64 (x.1 : Int), ptr x.2]
theorem riL_len : ∀ (cs : List Chk) (s : Nat), (riL s cs).length = cs.length
  | [], _ => rfl
  | x :: r, s => by simp [riL, riL_len r]
theorem riL_at : ∀ (A : List Chk) (s c : Nat) (ts : List ByteArray) (B : List Chk), (riL s (A ++ (c, ts) :: B))[A.length]? = some (s + (row A).length, c)
  | [], s, c, ts, B => rfl
  | x :: A, s, c, ts, B => by
    rw [List.cons_append, List.length_cons]
    show (riL (s + x.2.length) (A ++ (c, ts) :: B))[A.length]? = _
    rw [riL_at A _ c ts B, row_cons, List.length_append]
    congr 2
    omega
/-- what is read of the m-th chunk -/
def RdR (Bd b : Nat) (cs : List Chk) (m : Nat) (w : World) : Prop :=
  w.cell? ⟨Bd, 0, none⟩ = some (ptr b) ∧ (m = 0 → w.cell? ⟨b, 0, none⟩ = some (hdv cs nul)) ∧ (∀ A c ts B, cs = A ++ (c, ts) :: B → A.length = m → w.cell? ⟨c, 1, none⟩ = some (hdv B nul) ∧ w.cell? ⟨c, 2, none⟩ = some (.int .i64 (ts.length : Nat)))
theorem below_dr (w : World) (q : Nat) : Below w.heap.size w (w.drewN q) := ⟨rfl, rfl, rfl, Nat.le_refl _, fun _ _ => rfl⟩
set_option maxRecDepth 100000 in
set_option maxHeartbeats 2000000 in
theorem rising_iter (Bd b : Nat) (cs : List Chk) (hne : ∀ x ∈ cs, 1 ≤ x.2.length) (hN : (row cs).length ≤ 1048576) (W : World) :
    Iter Try.prog 56 #[.pointer (some ⟨Bd, 0, none⟩)] riV (RdR Bd b cs) (riL 0 cs) W := by
  intro l J Jx hJ hJx hRd hY h0
  obtain ⟨r0, r1, _⟩ := hRd _ _ _ h0
  have r1 := r1 rfl
  have HY := keep hY
  have HRD := keep hRd
  have HJ := keep hJ
  have H0 := keep h0
  have HNE := keep hne
  obtain ⟨N, hNN⟩ : ∃ N, N = (row cs).length := ⟨_, rfl⟩
  rw [← hNN] at hN
  have HN := keep hNN
  have hNb : (N : Int) ≤ 1048576 := by omega
  clear hY hRd hJ h0 hne hNN hJx hN
  refine (callsIn_wide (n := 5)).1 (callsIn_of_wp Try.func56 rfl trivial ?_ rfl)
  simp only [Try.ntmps56, List.size_toArray, List.length_cons, List.length_nil, Nat.reduceAdd, Nat.reduceSub, Array.replicate_succ, Array.replicate_zero, List.push_toArray, List.append_toArray, List.nil_append, List.cons_append]
  gi_wp2
  clear r0 r1
  gi_loopw [3, 4] (fun u cv wr => ∃ A B : List Chk, Kept (cs = A ++ B) ∧ u = .int .i64 ((row A).length : Nat) ∧ cv = hdv B nul ∧ Kept (J (fun _ => False) A.length wr)) (fun u _ _ => N - (intOf u).toNat)
  case atStart => exact ⟨[], cs, rfl, rfl, rfl, H0⟩
  case round =>
    obtain ⟨A, B, KC, rfl, rfl, KJ⟩ := hrel
    cases B with
    | nil =>
      have e1 : hdv [] nul = .pointer none := rfl
      rw [e1]
      gi_wp2
      go_end0
      refine ⟨⟨_, rfl⟩, fun _ => False, fun _ h => h.elim, .inl ?_⟩
      have := KC.out
      rw [List.append_nil] at this
      rw [riL_len, this]
      exact KJ.out
    | cons x B =>
      obtain ⟨c, ts⟩ := x
      obtain ⟨_, _, r2⟩ := HRD.out _ _ _ KJ.out
      obtain ⟨k1, k2⟩ := r2 A c ts B KC.out rfl
      have e1 : hdv ((c, ts) :: B) nul = ptr c := rfl
      rw [e1]
      have hl : 1 ≤ ts.length := HNE.out (c, ts) (by rw [KC.out]; simp)
      have hr : (row A).length + ts.length ≤ N := by rw [HN.out, KC.out, row_app, row_cons, List.length_append, List.length_append]; dsimp only; omega
      have hx := riL_at A 0 c ts B
      rw [← KC.out, Nat.zero_add] at hx
      obtain ⟨s, hs⟩ : ∃ s, s = (row A).length := ⟨_, rfl⟩
      obtain ⟨t, ht⟩ : ∃ t, t = ts.length := ⟨_, rfl⟩
      rw [← hs]
      rw [← hs] at hx
      rw [← ht] at k2 hl
      rw [← hs, ← ht] at hr
      have hst : (s : Int) + (t : Int) ≤ 1048576 := by omega
      have HS := keep hs
      have HT := keep ht
      have HX := keep hx
      clear hs ht hx r2
      obtain ⟨nv, hnv⟩ : ∃ v, v = hdv B nul := ⟨_, rfl⟩
      rw [← hnv] at k1
      have HNV := keep hnv
      clear hnv
      gi_wp2_with fail
      gi_quiet (fail)
      have J1 := HJ.out _ _ _ _ _ KJ.out (Sep.of_below (below_dr wr nq)) (Ext.refl _ _ _)
      obtain ⟨fn, tmps, assign, body, hy, hR⟩ := (HY.out _ _ _ (wr.drewN nq) J1 HX.out (fun _ h => h.elim)).at (5 - 1)
      unfold riV at hy
      dsimp only at hy
      have HR := keep hR
      have e2 : (row (A ++ [(c, ts)])).length = s + t := by rw [row_app, row_cons, List.length_append, ← HS.out, HT.out]; simp [row]
      have E2 := keep e2
      clear hR J1 KJ k1 k2 e2
      gi_wp2
      refine RoundIn.mono HR.out ?_
      rintro e W3 ⟨_, (⟨rfl, hJ3⟩ | ⟨rfl, hJx3⟩)⟩
      · have K3 := keep hJ3
        clear hJ3
        gi_wp2
        go_roundw
        case rel => exact ⟨A ++ [(c, ts)], B, by show cs = _; rw [KC.out]; simp, by rw [E2.out]; go_num, HNV.out, by show J _ _ _; rw [List.length_append]; exact K3.out⟩
        case measure => simp [intOf]; omega
      · have K3 := keep hJx3
        clear hJx3
        gi_wp2
        refine bodyPost_ret (results_none rfl _ _ _) rfl ?_
        refine ⟨⟨_, rfl⟩, fun _ => False, fun _ h => h.elim, .inr ⟨A.length, by rw [riL_len, KC.out]; simp, K3.out⟩⟩
end Go.Proofs.Ytlfkdohajfkhdaa
