/-
  Contracts over this program: sort.Search; slices.Clone of a row; the closure that holds against a member.
-/
import Derived.Test.YtapehjlpiobeaaaRkSeek0
import Derived.Lib.SliceRun
namespace Go.Proofs.Ytapehjlpiobeaaa
open Go.RowKit Go.Shelf
set_option linter.unusedVariables false
theorem Below.up {w W w' : World} (h : Below w.heap.size w W) (g : Below W.heap.size W w') : Below w.heap.size w w' :=
  h.trans ⟨g.os, g.tape, g.output, g.size, fun k hk => g.block k (Nat.lt_of_lt_of_le hk h.size)⟩
set_option maxHeartbeats 1000000 in
theorem notAhead_any (x : Ent) (w : World) : Calls Try.prog 42 #[agE x] w fun e w' => e = .returned (.func (.func 64) #[] #[.pointer (some ⟨w.heap.size, 0, none⟩)]) ∧ Below w.heap.size w w' ∧ Rch 64 #[.pointer (some ⟨w.heap.size, 0, none⟩)] (fun e => ahd e x) w' := by
  have sf : ∀ (x : Nat) (w : World) (a : Addr), (store a (.float .f64 x)).run Try.prog w = stored Try.prog w a (.float .f64 x) .plain := fun x w a => run_store _ w a _ _ rfl
  have hb : Below w.heap.size w (w.alloc (.cells #[.string x.1, .float .f64 x.2] 46)) := (Below.refl _ w).alloc (Nat.le_refl _) _
  have hr : Rch 64 #[.pointer (some ⟨w.heap.size, 0, none⟩)] (fun e => ahd e x) (w.alloc (.cells #[.string x.1, .float .f64 x.2] 46)) := by
    refine ⟨enters_of Try.func64 (by kernel_rfl) rfl, fun e W hW => ?_⟩
    have hn : W.heap[w.heap.size]? = some (.cells #[.string x.1, .float .f64 x.2] 46 (0, 0)) := by rw [hW.block _ (by simp)]; exact heap_alloc_new _ _
    exact not1_any e x w.heap.size W (by simp [World.cell?, hn]) (by simp [World.cell?, hn])
  have HB := keep hb
  have HR := keep hr
  clear hb hr
  obtain ⟨x1, x2⟩ := x
  unfold agE
  dsimp only at *
  go_enter Try.func42, Try.ntmps42
  go_wp2
  go_ret
  exact ⟨rfl, HB.out, HR.out⟩
set_option maxHeartbeats 4000000 in
set_option maxRecDepth 1000000 in
theorem search_any (g : Nat) (cb : Array Value) (n : Nat) (p : Nat → Bool) (w : World) (eg : ∀ args w, (callFunc g args).run Try.prog w = .ok (.enter g args) w) (hsz : n ≤ 2000000)
    (hf : ∀ W i, Below w.heap.size w W → i < n → Calls Try.prog g (#[.int .i64 (i : Int)] ++ cb) W fun e w' => e = .returned (.bool (p i)) ∧ Below W.heap.size W w')
    (hmono : ∀ a b, a ≤ b → b < n → p a = true → p b = true) :
    Calls Try.prog 61 #[.int .i64 n, .func (.func g) #[] cb] w fun e w' => (∃ k : Nat, e = .returned (.int .i64 k) ∧ k ≤ n ∧ (∀ t, t < k → p t = false) ∧ ∀ t, k ≤ t → t < n → p t = true) ∧ Below w.heap.size w w' := by
  have HF := keep hf
  have M := keep hmono
  have HS := keep hsz
  have B0 := keep (Below.refl w.heap.size w)
  clear hf hmono hsz
  go_enter Try.func61, Try.ntmps61
  go_wp2
  go_loopg [5, 6] n (fun kx s5 s6 wr => ∃ (lo hi : Nat), s5 = .int .i64 lo ∧ s6 = .int .i64 hi ∧ lo ≤ hi ∧ hi ≤ n ∧ hi - lo ≤ kx ∧ Kept (Below w.heap.size w wr) ∧ Kept ((∀ t, t < lo → p t = false) ∧ (∀ t, hi ≤ t → t < n → p t = true)))
  case atStart => exact ⟨0, n, rfl, rfl, Nat.zero_le _, Nat.le_refl _, by omega, B0.out, ⟨fun t ht => absurd ht (Nat.not_lt_zero _), fun t h1 h2 => by omega⟩⟩
  case round =>
    obtain ⟨lo, hi, rfl, rfl, hlh, hin, hg, BW, I⟩ := hrel
    have hs := HS.out
    by_cases hlt : lo < hi
    · have hc := HF.out wr ((lo + hi) / 2) BW.out (by omega)
      rw [show (((lo + hi) / 2 : Nat) : Int) = ((lo : Int) + (hi : Int)) / 2 by omega] at hc
      cases hp : p ((lo + hi) / 2) <;> rw [hp] at hc
      · have HP := keep hp
        clear hp
        go_wp2_with (go_at_fn g; refine hc.mono ?_; rintro e w' ⟨rfl, hb'⟩)
        go_roundg (hi - ((lo + hi) / 2 + 1))
        case measure => omega
        case rel =>
          exact ⟨(lo + hi) / 2 + 1, hi, by rw [show ((lo : Int) + (hi : Int)) / 2 + 1 = (((lo + hi) / 2 + 1 : Nat) : Int) by omega], rfl, by omega, hin, Nat.le_refl _, Below.up BW.out hb', ⟨fun t ht => (by
            cases h : p t with
            | false => rfl
            | true => have := M.out t ((lo + hi) / 2) (by omega) (by omega) h; rw [HP.out] at this; cases this), I.out.2⟩⟩
      · have HP := keep hp
        clear hp
        go_wp2_with (go_at_fn g; refine hc.mono ?_; rintro e w' ⟨rfl, hb'⟩)
        go_roundg ((lo + hi) / 2 - lo)
        case measure => omega
        case rel =>
          exact ⟨lo, (lo + hi) / 2, rfl, by rw [show ((lo : Int) + (hi : Int)) / 2 = (((lo + hi) / 2 : Nat) : Int) by omega], by omega, by omega, Nat.le_refl _, Below.up BW.out hb', ⟨I.out.1, fun t ht htn => M.out ((lo + hi) / 2) t ht htn HP.out⟩⟩
    · obtain rfl : hi = lo := by omega
      go_wp2
      go_ret
      exact ⟨⟨hi, rfl, hin, I.out.1, I.out.2⟩, BW.out⟩
set_option maxHeartbeats 1000000 in
theorem clone_any (w : World) (b off n c : Nat) (news : List Value) (hl : news.length = n * 2) (hn : n ≤ 2000000) (hc : ∀ j u, news[j]? = some u → w.cell? ((⟨b, off, none⟩ : Addr).add j) = some u) (h1 : ∀ u ∈ news, u.oneCell' = true) (hp : 0 < n) :
    Calls Try.prog 23 #[.slice (some ⟨b, off, none⟩) n c] w fun e w' => ∃ g cap, e = .returned (.slice (some ⟨g, 0, none⟩) n cap) ∧ w'.ownsRow 0 46 2 (.slice (some ⟨g, 0, none⟩) n cap) n news ∧ w.heap.size ≤ g ∧ Below w.heap.size w w' := by
  obtain ⟨i0, hi0, hz0, hz1, hz2⟩ := info_parts info_rk
  have uT := Try.underlying41
  have q22 : ∀ (w : World) (a : Option Addr) (n c n' c' : Nat), (binOp .eql 41 (.slice a n c) (.slice none n' c')).run Try.prog w = .ok (.bool a.isNone) w := fun w a n c n' c' => Lib.run_eql_slice_nil w _ _ a n c n' c' uT
  obtain ⟨W1, hW1⟩ : ∃ W1, w.alloc (.cells #[] 46) = W1 := ⟨_, rfl⟩
  have hb1 : Below w.heap.size w W1 := by rw [← hW1]; exact (Below.refl _ w).alloc (Nat.le_refl _) _
  have hown : W1.ownsRow w.heap.size 46 2 (.slice (some ⟨w.heap.size, 0, none⟩) 0 0) 0 [] := by rw [← hW1]; exact World.ownsRow_made w #[] 0 (Nat.le_refl _) (Nat.zero_le _) (by simp)
  obtain ⟨g, cap, W2, r1, r2, r3, r4, r5⟩ := run_append_lies (P := Try.prog) W1 41 41 w.heap.size 46 i0 _ 2 24 uT hi0 hz0 hz1 hz2 (by simp [Value.cells]) (by decide) _ 0 [] hown ⟨b, off, none⟩ n c news hl (fun j u hj => by
    have := hc j u hj
    rw [add_at] at this ⊢
    exact (hb1.cell (p := ⟨b, off + j, none⟩) (World.block_lt_of_cell? _ _ this)).trans this) h1 hp (by unfold maxLen; omega) (by omega) hb1.size W1.heap.size rfl
  rw [Nat.zero_add] at r1 r2
  have R1 := keep r1
  have HP : Kept (∃ g' cap', (Ending.returned (.slice (some ⟨g, 0, none⟩) n cap)) = .returned (.slice (some ⟨g', 0, none⟩) n cap') ∧ W2.ownsRow 0 46 2 (.slice (some ⟨g', 0, none⟩) n cap') n news ∧ w.heap.size ≤ g' ∧ Below w.heap.size w W2) := by
    refine ⟨g, cap, rfl, ?_, (r2.lt g rfl).1, hb1.grown r3 hb1.size (fun k hk => by cases hk; exact Nat.le_refl _)⟩
    obtain ⟨l1, l2⟩ := r2
    refine ⟨by simpa using l1, ?_⟩
    rcases l2 with ⟨h, _⟩ | ⟨g', cap', cur, e, _, rest⟩
    · cases h
    · exact .inr ⟨g', cap', cur, e, Nat.zero_le _, by simpa using rest⟩
  clear hl hn hc h1 hp hown hb1 r1 r2 r3 r4 r5
  subst hW1
  go_enter Try.func23, Try.ntmps23
  go_wp2_with (at_builtin; refine wpList_app_run rfl _ _ _ _ rfl _ _ _ rfl rfl R1.out ?_)
  go_ret
  exact HP.out
end Go.Proofs.Ytapehjlpiobeaaa
