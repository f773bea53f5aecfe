/-
  Contracts over this program: the chunks of a deque gone through from the last one back, by the own law for ranging.
-/
import Derived.Test.YtlfkdohajfkhdaaDqRise
namespace Go.Proofs.Ytlfkdohajfkhdaa
open Go.RowKit
set_option linter.unusedVariables false
theorem rev_at (A : List Chk) (c : Nat) (ts : List ByteArray) (B : List Chk) : (riL 0 (A ++ (c, ts) :: B)).reverse[B.length]? = some ((row A).length, c) := by
  have hl := riL_len (A ++ (c, ts) :: B) 0
  rw [List.length_append, List.length_cons] at hl
  rw [List.getElem?_reverse (by omega), hl, show A.length + (B.length + 1) - 1 - B.length = A.length by omega, riL_at, Nat.zero_add]
def RdF (Bd b : Nat) (cs : List Chk) (m : Nat) (w : World) : Prop :=
  w.cell? ⟨Bd, 0, none⟩ = some (ptr b) ∧ (m = 0 → w.cell? ⟨b, 1, none⟩ = some (ltv cs nul) ∧ w.cell? ⟨b, 2, none⟩ = some (.int .i64 ((row cs).length : Nat))) ∧ (∀ A c ts B, cs = A ++ (c, ts) :: B → B.length = m → w.cell? ⟨c, 0, none⟩ = some (ltv A nul) ∧ w.cell? ⟨c, 2, none⟩ = some (.int .i64 (ts.length : Nat)))
set_option maxRecDepth 100000 in
set_option maxHeartbeats 2000000 in
theorem falling_iter (Bd b : Nat) (cs : List Chk) (hne : ∀ x ∈ cs, 1 ≤ x.2.length) (hN : (row cs).length ≤ 1048576) (W : World) :
    Iter Try.prog 62 #[.pointer (some ⟨Bd, 0, none⟩)] riV (RdF Bd b cs) (riL 0 cs).reverse W := by
  intro l J Jx hJ hJx hRd hY h0
  obtain ⟨r0, r1, _⟩ := hRd _ _ _ h0
  obtain ⟨r1, r2'⟩ := r1 rfl
  have HY := keep hY
  have HRD := keep hRd
  have HJ := keep hJ
  have H0 := keep h0
  have HNE := keep hne
  obtain ⟨N, hNN⟩ : ∃ N, N = (row cs).length := ⟨_, rfl⟩
  rw [← hNN] at hN r2'
  have HN := keep hNN
  have hNb : (N : Int) ≤ 1048576 := by omega
  clear hY hRd hJ h0 hne hNN hJx hN
  refine (callsIn_wide (n := 5)).1 (callsIn_of_wp Try.func62 rfl trivial ?_ rfl)
  simp only [Try.ntmps62, List.size_toArray, List.length_cons, List.length_nil, Nat.reduceAdd, Nat.reduceSub, Array.replicate_succ, Array.replicate_zero, List.push_toArray, List.append_toArray, List.nil_append, List.cons_append]
  gi_wp2
  clear r0 r1 r2'
  gi_loopw [3, 4] (fun u cv wr => ∃ A B : List Chk, Kept (cs = A ++ B) ∧ u = .int .i64 ((row A).length : Nat) ∧ cv = ltv A nul ∧ Kept (J (fun _ => False) B.length wr)) (fun u _ _ => (intOf u).toNat)
  case atStart => exact ⟨cs, [], (List.append_nil cs).symm, by rw [← HN.out], rfl, H0⟩
  case round =>
    obtain ⟨A, B, KC, rfl, rfl, KJ⟩ := hrel
    rcases snoc_or (A := A) with rfl | ⟨A', c, ts, rfl⟩
    · have e1 : ltv [] nul = .pointer none := rfl
      rw [e1]
      gi_wp2
      go_end0
      refine ⟨⟨_, rfl⟩, fun _ => False, fun _ h => h.elim, .inl ?_⟩
      have := KC.out
      rw [List.nil_append] at this
      rw [List.length_reverse, riL_len, this]
      exact KJ.out
    · obtain ⟨_, _, r2⟩ := HRD.out _ _ _ KJ.out
      have hcs : cs = A' ++ (c, ts) :: B := by rw [KC.out]; simp
      obtain ⟨k1, k2⟩ := r2 A' c ts B hcs rfl
      rw [ltv_snoc]
      have hl : 1 ≤ ts.length := HNE.out (c, ts) (by rw [hcs]; simp)
      have hr : (row A').length + ts.length ≤ N := by rw [HN.out, hcs, row_app, row_cons, List.length_append, List.length_append]; dsimp only; omega
      have hx := rev_at A' c ts B
      rw [← hcs] at hx
      have e2 : (row (A' ++ [(c, ts)])).length = (row A').length + ts.length := by rw [row_app, row_cons, List.length_append]; simp [row]
      obtain ⟨s, hs⟩ : ∃ s, s = (row A').length := ⟨_, rfl⟩
      obtain ⟨t, ht⟩ : ∃ t, t = ts.length := ⟨_, rfl⟩
      rw [← hs] at hx
      rw [← ht] at k2 hl
      rw [← hs, ← ht] at hr e2
      obtain ⟨q, hq⟩ : ∃ q, q = s + t := ⟨_, rfl⟩
      rw [← hq] at e2
      rw [e2]
      have hst : (q : Int) - (t : Int) = (s : Int) := by omega
      have hsb : (s : Int) ≤ 1048576 := by omega
      have HS := keep hs
      have HQ := keep hq
      have HX := keep hx
      have HCS := keep hcs
      clear hs ht hx r2 hcs e2 hr
      obtain ⟨nv, hnv⟩ : ∃ v, v = ltv A' nul := ⟨_, rfl⟩
      rw [← hnv] at k1
      have HNV := keep hnv
      clear hnv
      obtain ⟨fn, tmps, assign, body, hy, hR⟩ := (HY.out _ _ _ wr KJ.out HX.out (fun _ h => h.elim)).at (5 - 1)
      unfold riV at hy
      dsimp only at hy
      have HR := keep hR
      clear hR KJ hq
      gi_wp2
      refine RoundIn.mono HR.out ?_
      rintro e W3 ⟨_, (⟨rfl, hJ3⟩ | ⟨rfl, hJx3⟩)⟩
      · have K3 := keep hJ3
        clear hJ3
        gi_wp2
        go_roundw
        case rel => exact ⟨A', (c, ts) :: B, HCS, by rw [← HS.out], HNV.out, K3⟩
        case measure => have := HQ.out; simp [intOf]; omega
      · have K3 := keep hJx3
        clear hJx3
        gi_wp2
        refine bodyPost_ret (results_none rfl _ _ _) rfl ?_
        refine ⟨⟨_, rfl⟩, fun _ => False, fun _ h => h.elim, .inr ⟨B.length, by rw [List.length_reverse, riL_len, HCS.out, List.length_append, List.length_cons]; omega, K3.out⟩⟩
end Go.Proofs.Ytlfkdohajfkhdaa
