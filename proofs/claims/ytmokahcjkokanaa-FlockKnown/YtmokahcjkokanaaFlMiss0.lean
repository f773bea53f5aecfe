/-
  Contracts over this program: a flock, what was told so far and the members that were there all the while; Add, whatever comes of it.
-/
import Derived.Test.YtmokahcjkokanaaFlSet0
import Derived.Test.YtmokahcjkokanaaScanCov
import Derived.Maps.AppendAt
namespace Go.Proofs.Ytmokahcjkokanaa
open Go.RowKit Go.Shelf
/-- a flock, what was told so far, and the members that were there all the while -/
structure Mf (h : ByteArray → Nat) (N : Nat) (W w : World) (r : Roles) (x : Nat) (s : Sx) (T : Value) (tl : List ByteArray) (A : Value) (al : List ByteArray) : Prop where
  fb : Fb h N W w r x s A al
  told : Ks W.heap.size w T tl
  rT : ∀ k, T.ownBlock = some k → rr r (W.heap.size + 1) k = (0, 0)
  ne : ∀ k, T.ownBlock = some k → A.ownBlock ≠ some k
section
variable {h : ByteArray → Nat} {N N' : Nat} {W w w' : World} {r r' : Roles} {x : Nat} {s s' : Sx} {T A : Value} {tl : List ByteArray} {al : List ByteArray}
theorem Mf.op (m : Mf h N W w r x s T tl A al) (h1 : Rec h N' w' r' (W.heap.size + 1) W.heap.size x s') (hf : Fr w (rr r (W.heap.size + 1)) w' (rr r' (W.heap.size + 1))) : Mf h N' W w' r' x s' T tl A al :=
  ⟨m.fb.op h1 hf, own_kept m.told (fun k hk => (hf.2.2 k (own_lt m.told hk) (m.rT k hk)).1), fun k hk => (hf.2.2 k (own_lt m.told hk) (m.rT k hk)).2, m.ne⟩
theorem Mf.below (m : Mf h N W w r x s T tl A al) (hb : Below w.heap.size w w') : Mf h N W w' r x s T tl A al :=
  ⟨m.fb.below hb, own_kept m.told (fun k hk => hb.block k (own_lt m.told hk)), m.rT, m.ne⟩
theorem Mf.more (m : Mf h N W w r x s T tl A al) (hN : N ≤ N') : Mf h N' W w r x s T tl A al := ⟨m.fb.more hN, m.told, m.rT, m.ne⟩
theorem Mf.stay {A' : Value} {al' : List ByteArray} (m : Mf h N W w r x s T tl A al) (hb : Below w.heap.size w w') (hA : Ks w.heap.size w' A' al') : Mf h N W w' r x s T tl A' al' := by
  have hlt : ∀ k, A'.ownBlock = some k → w.heap.size ≤ k := fun k hk => (World.ownsRow.lt hA k hk).1
  exact ⟨m.fb.fresh hb hA, own_kept m.told (fun k hk => hb.block k (own_lt m.told hk)), m.rT, fun k hk e => by have := hlt k e; have := own_lt m.told hk; omega⟩
theorem Mf.add {v2 : Value} {l2 : List ByteArray} (m : Mf h N W w r x s T tl A al) (hb : Below w.heap.size w w') (h2 : Ks w.heap.size w' v2 l2) (hl : tl.length + l2.length ≤ 8000000000000) :
    ∃ T' w3, (Builtin.append_ #[27, 27] 27 #[T, v2]).run Try.prog w' = .ok T' w3 ∧ Mf h N W w3 r x s T' (tl ++ l2) A al := by
  have m2 := m.below hb
  obtain ⟨T', w3, r1, r2, r3, r4, r5⟩ := app_at W.heap.size w' T v2 tl l2 w.heap.size m2.told h2 m2.fb.1.2.2.2.size hl
  have hrec : Rec h N w3 r (W.heap.size + 1) W.heap.size x s := m2.fb.1.1.kept r4.size (fun k hk hr => r4.block k hk (fun e => hr (m2.rT k e.symm)))
  have hA : Ks W.heap.size w3 A al := own_kept m2.fb.2.1 (fun k hk => r4.block k (own_lt m2.fb.2.1 hk) (fun e => m2.ne k e.symm hk))
  refine ⟨T', w3, r1, ⟨⟨⟨hrec, m2.fb.1.2.1, m2.fb.1.2.2.1, m2.fb.1.2.2.2.trans r3⟩, hA, m2.fb.2.2⟩, r2, ?_, ?_⟩⟩
  · intro k hk
    rcases r5 with e | e
    · exact m2.rT k (e ▸ hk)
    · rw [e] at hk
      cases hk
      exact m2.fb.1.fresh (Nat.le_refl _)
  · intro k hk e2
    rcases r5 with e | e
    · exact m2.ne k (e ▸ hk) e2
    · rw [e] at hk
      cases hk
      have := own_lt m2.fb.2.1 e2
      omega
theorem mf_new {w1 w2 : World} (c : Rn h N W w r (W.heap.size + 1) W.heap.size x s) (hb1 : Below w.heap.size w w1) (hA : Ks w.heap.size w1 A al) (hb2 : Below w1.heap.size w1 w2) (hT : Ks w1.heap.size w2 T tl) : Mf h N W w2 r x s T tl A al := by
  have c1 := c.below hb1
  have c2 := c1.below hb2
  have hlA : ∀ k, A.ownBlock = some k → w.heap.size ≤ k ∧ k < w1.heap.size := fun k hk => World.ownsRow.lt hA k hk
  have hlT : ∀ k, T.ownBlock = some k → w1.heap.size ≤ k := fun k hk => (World.ownsRow.lt hT k hk).1
  exact ⟨⟨c2, own_down (own_kept hA (fun k hk => hb2.block k (hlA k hk).2)) c.2.2.2.size, fun k hk => c.fresh (hlA k hk).1⟩, own_down hT c1.2.2.2.size, fun k hk => c1.fresh (hlT k hk), fun k hk e => by have := hlT k hk; have := (hlA k e).2; omega⟩
end
/-- each of the members that lies ahead of the cursor is told -/
def Dp (h : ByteArray → Nat) (c : Nat) (al : List ByteArray) (tl : List ByteArray) : Prop := ∀ e ∈ al, Rv.plc (h e) < Rv.plc c → e ∈ tl
theorem Dp.next {h : ByteArray → Nat} {c c' : Nat} {al tl l : List ByteArray} {s : Sx} (hd : Dp h c al tl) (hin : ∀ e ∈ al, Has s e) (hcov : ∀ k, Has s k → Rv.plc c ≤ Rv.plc (h k) → (c' = 0 ∨ Rv.plc (h k) < Rv.plc c') → k ∈ l) : (c' = 0 → ∀ e ∈ al, e ∈ tl ++ l) ∧ Dp h c' al (tl ++ l) := by
  have key : ∀ e ∈ al, (c' = 0 ∨ Rv.plc (h e) < Rv.plc c') → e ∈ tl ++ l := fun k hk hdn => by
    rcases Nat.lt_or_ge (Rv.plc (h k)) (Rv.plc c) with q | q
    · exact List.mem_append_left _ (hd k hk q)
    · exact List.mem_append_right _ (hcov k (hin k hk) q hdn)
  exact ⟨fun hz e he => key e he (.inl hz), fun e he q => key e he (.inr q)⟩
theorem has_set {s s' : Sx} {f k : ByteArray} {v : Unit} (h : Setd s s' f v) (hk : Has s k) : Has s' k := by
  unfold Has at hk ⊢
  rw [h.1 k]
  by_cases e : k = f
  · rw [if_pos e]; rfl
  · rw [if_neg e]; exact hk
theorem has_sam {s s' : Sx} {k : ByteArray} (h : Samd s s') (hk : Has s k) : Has s' k := by
  unfold Has at hk ⊢
  rw [h.1 k]
  exact hk
theorem has_del {s s' : Sx} {f k : ByteArray} (h : Deld s s' f) (hk : Has s k) (hne : k ≠ f) : Has s' k := by
  unfold Has at hk ⊢
  rw [h.1 k, if_neg hne]
  exact hk
/-- Add, whatever comes of it -/
theorem fadd_some {h : ByteArray → Nat} {seed N : Nat} (hH : HashIs seed h) {w : World} {r : Roles} {R b : Nat} {s : Sx} (hr : Rec h N w r R b seed s) (hN : N + 1 ≤ 2600000000000) (f : ByteArray) :
    Calls Try.prog 11 #[.pointer (some ⟨R, 0, none⟩), .string f] w fun e w' => (∃ (x : Bool) (c : Int), e = .returned (.tuple #[.bool x, .int .i64 c])) ∧ ∃ r' s', Rec h (N + 1) w' r' R b seed s' ∧ (∀ k, Has s k → Has s' k) ∧ ln s' ≤ ln s + 1 ∧ Fr w (rr r R) w' (rr r' R) := by
  cases htf : tol f with
  | true =>
    refine (fadd_long f (tol_gt htf)).mono ?_
    rintro _ w' ⟨rfl, rfl⟩
    exact ⟨⟨_, _, rfl⟩, r, s, hr.more (by omega), fun _ h => h, by omega, Fr.refl _ _⟩
  | false =>
    have hf := tol_le htf
    cases hlk : lk s f with
    | some u =>
      refine (fadd_old hH hr (by omega) f hf u hlk).mono ?_
      rintro _ w' ⟨rfl, r', s', q1, q2, q3⟩
      exact ⟨⟨_, _, rfl⟩, r', s', q1.more (by omega), fun _ => has_sam q2, by rw [q2.2]; omega, q3⟩
    | none =>
      by_cases hl : ln s < 1048576
      · refine (fadd_new hH hr hN f hf hlk hl).mono ?_
        rintro _ w' ⟨rfl, r', s', q1, q2, q3⟩
        refine ⟨⟨_, _, rfl⟩, r', s', q1, fun _ => has_set q2, ?_, q3⟩
        rw [q2.2]
        split <;> omega
      · refine (fadd_full hH hr (by omega) f hf hlk (by omega)).mono ?_
        rintro _ w' ⟨rfl, r', s', q1, q2, q3⟩
        exact ⟨⟨_, _, rfl⟩, r', s', q1.more (by omega), fun _ => has_sam q2, by rw [q2.2]; omega, q3⟩
end Go.Proofs.Ytmokahcjkokanaa
