/-
  Contracts over this program: the statements' own change and few.
-/
import Derived.Test.YtnkladifalnmnaaScanOpen
namespace Go.Proofs.Ytnkladifalnmnaa
open Go.RowKit Go.Shelf
attribute [local go_sem] Oper.semAt_some
/-- what a change leaves: each key that was there, but the one that it deletes, and none when it clears -/
def Stay (s s' : Sd) (o : Cg) : Prop := o.op ≠ 4 → ∀ k, (lk s k).isSome → (o.op = 2 → k ≠ o.key) → (lk s' k).isSome
set_option maxRecDepth 100000 in
set_option maxHeartbeats 1000000 in
theorem change_any {h : ByteArray → Nat} {seed N : Nat} (hH : HashIs seed h) (w : World) (r : Roles) (b : Nat) (s : Sd) (o : Cg) (hd : Dd h N w r b seed s) (hN : N + 1 ≤ 2600000000000) (hk : o.key.size ≤ maxLen) :
    Calls Try.prog 10 #[.pointer (some ⟨b, 0, none⟩), .agg #[.int .i64 o.op, .string o.key]] w fun e w' => e = .returned (.tuple #[]) ∧ ∃ r' s', Dd h (N + 1) w' r' b seed s' ∧ Stay s s' o ∧ Fr w r w' r' := by
  obtain ⟨op, key⟩ := o
  dsimp only at hk ⊢
  have hb : Below w.heap.size w (w.alloc (.cells #[.int .i64 op, .string key] 32)) := (Below.refl _ w).alloc (Nat.le_refl _) _
  have hfr := Fr.of_below (r := r) hb
  have hx := heap_alloc_new w (.cells #[.int .i64 op, .string key] 32)
  have c0 : (w.alloc (.cells #[.int .i64 op, .string key] 32)).cell? ⟨w.heap.size, 0, none⟩ = some (.int .i64 op) := by rw [cell_of_row _ _ _ _ _ _ hx]; rfl
  have c1 : (w.alloc (.cells #[.int .i64 op, .string key] 32)).cell? ⟨w.heap.size, 1, none⟩ = some (.string key) := by rw [cell_of_row _ _ _ _ _ _ hx]; rfl
  have hd1 := hd.below hb
  obtain ⟨w1, hw1⟩ : ∃ w1, w.alloc (.cells #[.int .i64 op, .string key] 32) = w1 := ⟨_, rfl⟩
  rw [hw1] at hfr c0 c1 hd1
  have HW := keep hw1
  have HF := keep hfr
  have mS := set_t hH w1 r b s key 1 hd1 hN hk
  have mD := del_t hH w1 r b s key hd1 hN hk
  have mG := get_t hH w1 r b s key hd1 (by omega) hk
  have mC := clear_any h w1 r b seed _ (N + 1) s hd1.1
  have HD := keep hd1
  clear hb hx hd hw1 hfr hd1
  go_enter Try.func10, Try.ntmps10
  by_cases q1 : op = 1
  · subst q1
    go_wp2_with (rw [HW.out])
    refine mS.mono ?_
    rintro _ w2 ⟨rfl, r2, s2, g1, g2, g3⟩
    have G := keep (⟨r2, s2, g1, g2, HF.out.trans g3⟩ : ∃ r' s', Dd h (N + 1) w2 r' b seed s' ∧ Setd s s' key 1 ∧ Fr w r w2 r')
    clear mS mD mG mC g1 g2 g3 HD HF
    go_wp2
    refine bodyPost_end (results_none rfl _ _ _) rfl ?_
    obtain ⟨r', s', g1, g2, g3⟩ := G.out
    refine ⟨rfl, r', s', g1, fun _ k hk _ => ?_, g3⟩
    rw [g2.1]
    split
    · rfl
    · exact hk
  · by_cases q2 : op = 2
    · subst q2
      go_wp2_with (rw [HW.out])
      refine mD.mono ?_
      rintro _ w2 ⟨rfl, r2, s2, g1, g2, g3⟩
      have G := keep (⟨r2, s2, g1.more (Nat.le_succ N), g2, HF.out.trans g3⟩ : ∃ r' s', Dd h (N + 1) w2 r' b seed s' ∧ Deld s s' key ∧ Fr w r w2 r')
      clear mS mD mG mC g1 g2 g3 HD HF
      go_wp2
      refine bodyPost_end (results_none rfl _ _ _) rfl ?_
      obtain ⟨r', s', g1, g2, g3⟩ := G.out
      refine ⟨rfl, r', s', g1, fun _ k hk hne => ?_, g3⟩
      rw [g2.1, if_neg (hne rfl)]
      exact hk
    · by_cases q3 : op = 3
      · subst q3
        go_wp2_with (rw [HW.out])
        refine mG.mono ?_
        rintro _ w2 ⟨rfl, r2, s2, g1, g2, g3⟩
        have G := keep (⟨r2, s2, g1.more (Nat.le_succ N), g2, HF.out.trans g3⟩ : ∃ r' s', Dd h (N + 1) w2 r' b seed s' ∧ Samd s s' ∧ Fr w r w2 r')
        clear mS mD mG mC g1 g2 g3 HD HF
        go_wp2
        refine bodyPost_end (results_none rfl _ _ _) rfl ?_
        obtain ⟨r', s', g1, g2, g3⟩ := G.out
        refine ⟨rfl, r', s', g1, fun _ k hk hne => ?_, g3⟩
        rw [g2.1]
        exact hk
      · by_cases q4 : op = 4
        · subst q4
          go_wp2_with (rw [HW.out])
          refine mC.mono ?_
          rintro _ w2 ⟨rfl, g1, g3⟩
          have G := keep (⟨r, _, g1, HF.out.trans g3⟩ : ∃ r' s', Dd h (N + 1) w2 r' b seed s' ∧ Fr w r w2 r')
          clear mS mD mG mC g1 g3 HD HF
          go_wp2
          refine bodyPost_end (results_none rfl _ _ _) rfl ?_
          obtain ⟨r', s', g1, g3⟩ := G.out
          exact ⟨rfl, r', s', g1, fun hne => absurd rfl hne, g3⟩
        · clear mS mD mG mC
          have G := keep (⟨r, s, HD.out.more (Nat.le_succ N), fun _ k hk _ => hk, HF.out⟩ : ∃ r' s', Dd h (N + 1) w1 r' b seed s' ∧ Stay s s' ⟨op, key⟩ ∧ Fr w r w1 r')
          go_wp2_with (rw [HW.out])
          refine bodyPost_end (results_none rfl _ _ _) rfl ?_
          exact ⟨rfl, G.out⟩
set_option maxHeartbeats 400000 in
theorem few_any (w : World) (so : Option Addr) (n cap : Nat) (hn : n ≤ cap) (hs : 0 < n → ∃ a, so = some a) : Calls Try.prog 9 #[.slice so n cap] w fun e w' => e = .returned (.slice so (min n 1048576) cap) ∧ w' = w := by
  by_cases q : 1048576 < n
  · obtain ⟨a, rfl⟩ := hs (by omega)
    have qz : (1048576 : Int) < (n : Int) := by omega
    have hcap : (1048576 : Int) ≤ (cap : Int) := by omega
    rw [Nat.min_eq_right (by omega)]
    go_enter Try.func9, Try.ntmps9
    go_wp2
    go_ret
    exact ⟨rfl, rfl⟩
  · have qz : ¬ (1048576 : Int) < (n : Int) := by omega
    rw [Nat.min_eq_left (by omega)]
    go_enter Try.func9, Try.ntmps9
    go_wp2
    go_ret
    exact ⟨rfl, rfl⟩
end Go.Proofs.Ytnkladifalnmnaa
