/-
  Contracts over this program: score.Within; Within of ranks.
-/
import Derived.Test.YtapehjlpiobeaaaRkSame
namespace Go.Proofs.Ytapehjlpiobeaaa
open Go.RowKit Go.Shelf
set_option linter.unusedVariables false
set_option linter.unusedSimpArgs false
/-- what score.Within answers, by how x stands to the ends -/
def lies (o1 o2 : Option Ordering) (p q : Bool) : Bool := (o1 == some .gt || (o1 == some .eq && !p)) && (o2 == some .lt || (o2 == some .eq && !q))
def wi (x a : Nat) (p : Bool) (b : Nat) (q : Bool) : Bool := lies (Ieee.double.order x a) (Ieee.double.order x b) p q
theorem ret_b {x y : Bool} (h : x = y) : Ending.returned (.bool x) = .returned (.bool y) := by rw [h]
set_option maxHeartbeats 4000000 in
theorem within_any (x a b : Nat) (p q : Bool) (w : World) :
    Calls Try.prog 59 #[.float .f64 x, .agg #[.float .f64 a, .bool p], .agg #[.float .f64 b, .bool q]] w fun e w' => e = .returned (.bool (wi x a p b q)) ∧ Below w.heap.size w w' := by
  have sf : ∀ (x : Nat) (w : World) (a : Addr), (store a (.float .f64 x)).run Try.prog w = stored Try.prog w a (.float .f64 x) .plain := fun x w a => run_store _ w a _ _ rfl
  have hb : ∀ (w : World) (o p : Obj), Below w.heap.size w ((w.alloc o).alloc p) := fun w o p => ((Below.refl _ w).alloc (Nat.le_refl _) _).alloc (by simp) _
  have HB := keep hb
  clear hb
  unfold wi
  obtain ⟨o1, h1⟩ : ∃ o, Ieee.double.order x a = o := ⟨_, rfl⟩
  obtain ⟨o2, h2⟩ : ∃ o, Ieee.double.order x b = o := ⟨_, rfl⟩
  rw [h1, h2]
  have h1' : FloatKind.f64.format.order x a = o1 := h1
  have h2' : FloatKind.f64.format.order x b = o2 := h2
  clear h1 h2
  rcases o1 with _ | (_ | _ | _) <;> rcases o2 with _ | (_ | _ | _)
  all_goals
    cases p
    all_goals
      go_enter Try.func59, Try.ntmps59
      go_wp2
      all_goals
        go_ret
        exact ⟨ret_b (by cases q <;> rfl), HB.out _ _ _⟩
/- mathematics -/
theorem fk_num {x : Nat} (h : isNan x = false) : -1 ≤ (fk x).1 ∧ (fk x).1 ≤ 1 ∧ ((fk x).1 = 1 → (fk x).2 = 0) ∧ ((fk x).1 = -1 → (fk x).2 = 0) := by
  unfold isNan at h
  unfold fk
  cases e : Ieee.double.read x with
  | nan s f => rw [e] at h; cases h
  | infinity s => cases s <;> simp
  | number s m i => simp
theorem fk_inf : fk infB = (1, 0) := by
  have : Ieee.double.read infB = .infinity false := by decide +kernel
  unfold fk; rw [this]; rfl
theorem fk_ninf : fk ninfB = (-1, 0) := by
  have : Ieee.double.read ninfB = .infinity true := by decide +kernel
  unfold fk; rw [this]; rfl
/-- below the lower end -/
def q1 (a : Nat) (p : Bool) (e : Ent) : Bool := flt e.2 a || (feq e.2 a && p)
/-- not above the upper end -/
def q2 (b : Nat) (q : Bool) (e : Ent) : Bool := flt e.2 b || (feq e.2 b && !q)
theorem ord_cases {x y : Nat} (hx : isNan x = false) (hy : isNan y = false) :
    (Ieee.double.order x y = some .lt ∧ flt x y = true ∧ feq x y = false ∧ ((fk x).1 < (fk y).1 ∨ ((fk x).1 = (fk y).1 ∧ (fk x).2 < (fk y).2))) ∨
    (Ieee.double.order x y = some .eq ∧ flt x y = false ∧ feq x y = true ∧ (fk x).1 = (fk y).1 ∧ (fk x).2 = (fk y).2) ∨
    (Ieee.double.order x y = some .gt ∧ flt x y = false ∧ feq x y = false ∧ ((fk y).1 < (fk x).1 ∨ ((fk x).1 = (fk y).1 ∧ (fk y).2 < (fk x).2))) := by
  obtain ⟨o, ho⟩ := order_of_num hx hy
  have hl := flt_key hx hy
  have he := feq_key hx hy
  unfold flt at hl ⊢
  unfold feq at he ⊢
  rw [ho] at hl he ⊢
  cases o with
  | lt => left; simp at hl ⊢; omega
  | eq => right; left; simp at he ⊢; omega
  | gt => right; right; simp at hl he ⊢; omega
theorem wi_low {x a : Nat} (hx : isNan x = false) (ha : isNan a = false) (p : Bool) : wi x a p infB false = !(q1 a p (ByteArray.empty, x)) := by
  have k := fk_num hx
  have f := fk_inf
  unfold wi q1 lies
  dsimp only
  rcases ord_cases hx ha with ⟨o, h1, h2, h3⟩ | ⟨o, h1, h2, h3⟩ | ⟨o, h1, h2, h3⟩ <;> rcases ord_cases hx isNan_inf with ⟨o', g1, g2, g3⟩ | ⟨o', g1, g2, g3⟩ | ⟨o', g1, g2, g3⟩ <;> rw [o, o', h1, h2] <;> first | (cases p <;> rfl) | (rw [f] at g3; dsimp only at g3; omega)
theorem wi_high {x b : Nat} (hx : isNan x = false) (hb : isNan b = false) (q : Bool) : wi x ninfB false b q = q2 b q (ByteArray.empty, x) := by
  have k := fk_num hx
  have f := fk_ninf
  unfold wi q2 lies
  dsimp only
  rcases ord_cases hx hb with ⟨o, h1, h2, h3⟩ | ⟨o, h1, h2, h3⟩ | ⟨o, h1, h2, h3⟩ <;> rcases ord_cases hx isNan_ninf with ⟨o', g1, g2, g3⟩ | ⟨o', g1, g2, g3⟩ | ⟨o', g1, g2, g3⟩ <;> rw [o, o', h1, h2] <;> first | (cases q <;> rfl) | (rw [f] at g3; dsimp only at g3; omega)
theorem wi_both {e : Ent} {a b : Nat} (hx : isNan e.2 = false) (ha : isNan a = false) (hb : isNan b = false) (p q : Bool) : wi e.2 a p b q = (!(q1 a p e) && q2 b q e) := by
  unfold wi q1 q2 lies
  rcases ord_cases hx ha with ⟨o, h1, h2, h3⟩ | ⟨o, h1, h2, h3⟩ | ⟨o, h1, h2, h3⟩ <;> rcases ord_cases hx hb with ⟨o', g1, g2, g3⟩ | ⟨o', g1, g2, g3⟩ | ⟨o', g1, g2, g3⟩ <;> rw [o, o', h1, h2, g1, g2] <;> cases p <;> cases q <;> rfl
theorem wi_nan {x a b : Nat} {p q : Bool} (h : isNan a = true ∨ isNan b = true) : wi x a p b q = false := by
  unfold wi lies
  rcases h with h | h
  · rw [order_of_nan (x := x) (y := a) (.inr h)]; rfl
  · rw [order_of_nan (x := x) (y := b) (.inr h)]; simp
theorem ahd_le {a b : Ent} (ha : Num a) (hb : Num b) (h : ahd a b = true) : (fk a.2).1 < (fk b.2).1 ∨ ((fk a.2).1 = (fk b.2).1 ∧ (fk a.2).2 ≤ (fk b.2).2) := by
  unfold ahd at h
  rw [Bool.or_eq_true, Bool.and_eq_true, flt_key ha hb, feq_key ha hb] at h
  omega
theorem mo_q1 {l : List Ent} (hl : Ris l) {a : Nat} (ha : isNan a = false) (p : Bool) : Mo (q1 a p) l := by
  refine List.Pairwise.imp_of_mem ?_ hl.1
  intro x y hx hy hxy h
  have hle := ahd_le (hl.2 x hx) (hl.2 y hy) hxy
  unfold q1 at *
  rcases ord_cases (hl.2 x hx) ha with ⟨o, h1, h2, h3⟩ | ⟨o, h1, h2, h3⟩ | ⟨o, h1, h2, h3⟩ <;> rcases ord_cases (hl.2 y hy) ha with ⟨o', g1, g2, g3⟩ | ⟨o', g1, g2, g3⟩ | ⟨o', g1, g2, g3⟩ <;> rw [g1, g2] at h <;> rw [h1, h2] <;> simp at h ⊢ <;> first | exact h | omega
theorem mo_q2 {l : List Ent} (hl : Ris l) {b : Nat} (hb : isNan b = false) (q : Bool) : Mo (q2 b q) l := by
  refine List.Pairwise.imp_of_mem ?_ hl.1
  intro x y hx hy hxy h
  have hle := ahd_le (hl.2 x hx) (hl.2 y hy) hxy
  unfold q2 at *
  rcases ord_cases (hl.2 x hx) hb with ⟨o, h1, h2, h3⟩ | ⟨o, h1, h2, h3⟩ | ⟨o, h1, h2, h3⟩ <;> rcases ord_cases (hl.2 y hy) hb with ⟨o', g1, g2, g3⟩ | ⟨o', g1, g2, g3⟩ | ⟨o', g1, g2, g3⟩ <;> rw [g1, g2] at h <;> rw [h1, h2] <;> simp at h ⊢ <;> first | exact h | omega
end Go.Proofs.Ytapehjlpiobeaaa
