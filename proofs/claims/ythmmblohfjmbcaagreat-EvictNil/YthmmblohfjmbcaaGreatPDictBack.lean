/-
  Contracts over this program: a chain is gone through from its head on, by the own law for ranging.
-/
import Derived.Test.YthmmblohfjmbcaaGreatPDictMove
import Derived.Test.YthmmblohfjmbcaaGreatIters
namespace Go.Proofs.YthmmblohfjmbcaaGreat.DP
open Go.RowKit Go.Shelf
attribute [local go_sem] Oper.semAt_some
/-- what is told of a chain: the places fall -/
def bkL : List Ent → List (Nat × Ent)
  | [] => []
  | e :: c => (c.length, e) :: bkL c
def bkV (x : Nat × Ent) : Array Value := #[.int .i64 (x.1 : Int), .agg #[.string x.2.1, .pointer x.2.2]]
theorem bkL_len (c : List Ent) : (bkL c).length = c.length := by
  induction c with
  | nil => rfl
  | cons e c ih => simp [bkL, ih]
theorem bkL_at {c : List Ent} : ∀ {m : Nat} {e : Ent}, c[m]? = some e → (bkL c)[m]? = some (c.length - 1 - m, e) := by
  induction c with
  | nil => intro m e h; simp at h
  | cons d c ih =>
    intro m e h
    cases m with
    | zero => simp at h; simp [bkL, h]
    | succ m =>
      rw [List.getElem?_cons_succ] at h
      have := ih h
      simp only [bkL, List.getElem?_cons_succ, this, List.length_cons]
      rw [show c.length + 1 - 1 - (m + 1) = c.length - 1 - m by omega]
theorem bkL_is {c : List Ent} {m : Nat} {x : Nat × Ent} (h : (bkL c)[m]? = some x) : c[m]? = some x.2 := by
  have hl := (List.getElem?_eq_some_iff.1 h).1
  rw [bkL_len] at hl
  have h1 := List.getElem?_eq_getElem hl
  have := bkL_at h1
  rw [h] at this
  rw [h1, Option.some.inj this]
theorem rev_of {c : List Ent} {m : Nat} (h : m < c.length) : c.reverse[m]? = c[c.length - 1 - m]? := List.getElem?_reverse h
set_option maxRecDepth 100000 in
set_option maxHeartbeats 2000000 in
theorem back_iter (Bs : Nat) (v : Value) (c : List Ent) (W : World) :
    Iter Tryz.prog 111 #[.pointer (some ⟨Bs, 0, none⟩)] bkV (fun _ W1 => W1.cell? ⟨Bs, 0, none⟩ = some v ∧ Chn W1 v c) (bkL c) W := by
  intro l J Jx hJ hJx hRd hY h0
  obtain ⟨hBs, hC⟩ := hRd _ _ _ h0
  obtain ⟨co, cc, rfl⟩ := chn_len hC
  have hlen : c.length ≤ 9223372036854775807 := by
    rcases hC.form with ⟨_, rfl⟩ | ⟨g, cap, _, _, h1, h2⟩
    · simp
    · unfold maxLen at h2; omega
  have HY := keep hY
  have HRD := keep hRd
  clear hC hY hRd
  obtain ⟨L, hL⟩ : ∃ L, c.length = L := ⟨_, rfl⟩
  rw [hL] at hBs hlen
  have HL := keep hL
  have H0 := keep h0
  clear h0 hL hJ hJx
  have hw0 : IntKind.i64.wrap ((L : Int) - 1) = (L : Int) - 1 := by rw [IntKind.wrap_i64]; omega
  refine (callsIn_wide (n := 5)).1 (callsIn_of_wp Tryz.func111 rfl trivial ?_ rfl)
  simp only [Tryz.ntmps111, List.size_toArray, List.length_cons, List.length_nil, Nat.reduceAdd, Nat.reduceSub, Array.replicate_succ, Array.replicate_zero, List.push_toArray, List.append_toArray, List.nil_append, List.cons_append]
  gi_wp2
  clear hw0 hBs
  gi_loopw [3] (fun i wr => ∃ m : Nat, m ≤ L ∧ i = .int .i64 ((m : Int) - 1) ∧ Kept (J (fun _ => False) (L - m) wr)) (fun i _ => (intOf i + 1).toNat)
  case atStart => exact ⟨L, Nat.le_refl _, rfl, by show J _ _ _; rw [Nat.sub_self]; exact H0.out⟩
  case round =>
    obtain ⟨m, hm, rfl, KJ⟩ := hrel
    have hrd := HRD.out _ _ _ KJ.out
    have hBs : wr.cell? ⟨Bs, 0, none⟩ = some (.slice co L cc) := by rw [hrd.1, HL.out]
    cases m with
    | zero =>
      clear hBs hrd
      gi_wp2
      go_end0
      refine ⟨⟨_, rfl⟩, fun _ => False, fun _ h => h.elim, .inl ?_⟩
      rw [bkL_len, HL.out]
      exact KJ.out
    | succ m =>
      have em : ((m + 1 : Nat) : Int) - 1 = (m : Int) := by omega
      rw [em]
      obtain ⟨e, he⟩ := rev_some (c := c) (k := m) (by rw [HL.out]; omega)
      have he2 : c[L - (m + 1)]? = some e := by rw [← he, rev_of (by rw [HL.out]; omega), HL.out, show L - 1 - m = L - (m + 1) by omega]
      have hx := bkL_at he2
      rw [HL.out, show L - 1 - (L - (m + 1)) = m by omega] at hx
      have hmem : e ∈ c := List.mem_reverse.1 (List.mem_of_getElem? he)
      rcases hrd.2.form with ⟨hh, hcn⟩ | ⟨g, cap, hh, hg, _, _⟩
      · rw [hcn] at hmem; cases hmem
      · cases hh
        obtain ⟨l1, l2⟩ := hrd.2.at he
        clear hrd he he2
        obtain ⟨fn, tmps, assign, body, hy, hR⟩ := (HY.out _ _ _ wr KJ.out hx (fun _ h => h.elim)).at (5 - 1)
        obtain ⟨e1, e2⟩ := e
        unfold bkV at hy
        dsimp only at hy l1 l2
        have hm0 : (0 : Int) ≤ (m : Int) := by omega
        have hm1 : (m : Int) < (L : Int) := by omega
        have hmw : IntKind.i64.wrap ((m : Int) - 1) = (m : Int) - 1 := by rw [IntKind.wrap_i64]; omega
        have hLm : L - (m + 1) + 1 = L - m := by omega
        rw [hLm] at hR
        have HR := keep hR
        clear hmem em hx hLm hR
        gi_wp2
        refine RoundIn.mono HR.out ?_
        rintro e W3 ⟨_, (⟨rfl, hJ3⟩ | ⟨rfl, hJx3⟩)⟩
        · have K3 := keep hJ3
          clear hJ3
          gi_wp2
          go_roundw
          case rel => exact ⟨m, by omega, rfl, K3⟩
          case measure => simp [intOf]
        · have K3 := keep hJx3
          clear hJx3
          gi_wp2
          refine bodyPost_ret (results_none rfl _ _ _) rfl ?_
          refine ⟨⟨_, rfl⟩, fun _ => False, fun _ h => h.elim, .inr ⟨L - (m + 1), by rw [bkL_len, HL.out]; omega, ?_⟩⟩
          rw [show L - (m + 1) + 1 = L - m by omega]
          exact K3.out
end Go.Proofs.YthmmblohfjmbcaaGreat.DP
