/-
  Contracts over this program: who stands ahead; sort.Search; slices.Clone of a row.
-/
import Derived.Test.YtapehjlpiobeaaaRkMem
import Derived.Deep.LoopGhost
namespace Go.Proofs.Ytapehjlpiobeaaa
open Go.RowKit Go.Shelf
set_option linter.unusedVariables false
/-- a member as a value -/
def agE (e : Ent) : Value := .agg #[.string e.1, .float .f64 e.2]
set_option maxHeartbeats 1000000 in
theorem ahead_any (a b : Ent) (w : World) : Calls Try.prog 65 #[agE a, agE b] w fun e w' => e = .returned (.bool (ahd a b)) ∧ Below w.heap.size w w' := by
  have sf : ∀ (x : Nat) (w : World) (a : Addr), (store a (.float .f64 x)).run Try.prog w = stored Try.prog w a (.float .f64 x) .plain := fun x w a => run_store _ w a _ _ rfl
  obtain ⟨a1, a2⟩ := a
  obtain ⟨b1, b2⟩ := b
  have hb : ∀ (w : World) (o p : Obj), Below w.heap.size w ((w.alloc o).alloc p) := fun w o p => ((Below.refl _ w).alloc (Nat.le_refl _) _).alloc (by simp) _
  have HB := keep hb
  clear hb
  unfold agE ahd tls flt feq
  dsimp only
  obtain ⟨o, ho⟩ : ∃ o, Ieee.double.order a2 b2 = o := ⟨_, rfl⟩
  rw [ho]
  have ho' : FloatKind.f64.format.order a2 b2 = o := ho
  clear ho
  rcases o with _ | (_ | _ | _)
  all_goals
    go_enter Try.func65, Try.ntmps65
    go_wp2
    all_goals
      go_ret
      exact ⟨by simp, HB.out _ _ _⟩
/-- what is asked of a closure that holds members against something: q says no -/
def Rch (g : Nat) (cb : Array Value) (q : Ent → Bool) (w : World) : Prop :=
  (∀ args w, (callFunc g args).run Try.prog w = .ok (.enter g args) w) ∧ ∀ e W, Below w.heap.size w W → Calls Try.prog g (#[agE e] ++ cb) W fun en w' => en = .returned (.bool (!q e)) ∧ Below W.heap.size W w'
theorem Rch.below {g : Nat} {cb : Array Value} {q : Ent → Bool} {w w' : World} (h : Rch g cb q w) (hb : Below w.heap.size w w') : Rch g cb q w' :=
  ⟨h.1, fun e W hW => h.2 e W (hb.trans ⟨hW.os, hW.tape, hW.output, hW.size, fun k hk => hW.block k (Nat.lt_of_lt_of_le hk hb.size)⟩)⟩
set_option maxHeartbeats 1000000 in
theorem not1_any (a x : Ent) (B : Nat) (W : World) (h0 : W.cell? ⟨B, 0, none⟩ = some (.string x.1)) (h1 : W.cell? ⟨B, 1, none⟩ = some (.float .f64 x.2)) :
    Calls Try.prog 64 (#[agE a] ++ #[.pointer (some ⟨B, 0, none⟩)]) W fun en w' => en = .returned (.bool (!ahd a x)) ∧ Below W.heap.size W w' := by
  have sf : ∀ (x : Nat) (w : World) (a : Addr), (store a (.float .f64 x)).run Try.prog w = stored Try.prog w a (.float .f64 x) .plain := fun x w a => run_store _ w a _ _ rfl
  obtain ⟨a1, a2⟩ := a
  obtain ⟨x1, x2⟩ := x
  dsimp only at h0 h1
  have hbw : B < W.heap.size := World.block_lt_of_cell? _ _ h0
  obtain ⟨W1, hW1⟩ : ∃ W1, W.alloc (.cells #[.string a1, .float .f64 a2] 46) = W1 := ⟨_, rfl⟩
  have hb1 : Below W.heap.size W W1 := by rw [← hW1]; exact (Below.refl _ W).alloc (Nat.le_refl _) _
  have k0 : W1.cell? ⟨B, 0, none⟩ = some (.string x1) := (hb1.cell (p := ⟨B, 0, none⟩) hbw).trans h0
  have k1 : W1.cell? ⟨B, 1, none⟩ = some (.float .f64 x2) := (hb1.cell (p := ⟨B, 1, none⟩) hbw).trans h1
  have hn : W1.heap[W.heap.size]? = some (.cells #[.string a1, .float .f64 a2] 46 (0, 0)) := by rw [← hW1]; exact heap_alloc_new _ _
  have n0 : W1.cell? ⟨W.heap.size, 0, none⟩ = some (.string a1) := by simp [World.cell?, hn]
  have n1 : W1.cell? ⟨W.heap.size, 1, none⟩ = some (.float .f64 a2) := by simp [World.cell?, hn]
  have mA := ahead_any (a1, a2) (x1, x2) W1
  have HB := keep hb1
  clear h0 h1 hb1 hbw hn
  unfold agE at *
  dsimp only at *
  go_enter Try.func64, Try.ntmps64
  go_wp2_with (first | (rw [hW1]; done) | (go_at_call 65; refine mA.mono ?_; rintro _ w' ⟨rfl, hb2⟩))
  go_ret
  exact ⟨rfl, HB.out.trans ⟨hb2.os, hb2.tape, hb2.output, hb2.size, fun k hk => hb2.block k (Nat.lt_of_lt_of_le hk HB.out.size)⟩⟩
end Go.Proofs.Ytapehjlpiobeaaa
