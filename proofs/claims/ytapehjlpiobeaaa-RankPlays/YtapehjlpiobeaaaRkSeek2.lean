/-
  Contracts over this program: the two closures of seek.
-/
import Derived.Test.YtapehjlpiobeaaaRkMem
import Derived.Deep.LoopGhost
import Derived.Lib.SliceRun
/-
  Contracts over this program: who stands ahead; sort.Search; slices.Clone of a row.
-/
namespace Go.Proofs.Ytapehjlpiobeaaa
open Go.RowKit Go.Shelf
set_option linter.unusedVariables false
/-- a member as a value -/
def agE (e : Ent) : Value := .agg #[.string e.1, .float .f64 e.2]
set_option maxHeartbeats 1000000 in
theorem ahead_any (a b : Ent) (w : World) : Calls Try.prog 65 #[agE a, agE b] w fun e w' => e = .returned (.bool (ahd a b)) ∧ Below w.heap.size w w' := by
  have sf : ∀ (x : Nat) (w : World) (a : Addr), (store a (.float .f64 x)).run Try.prog w = stored Try.prog w a (.float .f64 x) .plain := fun x w a => run_store _ w a _ _ rfl
  obtain ⟨a1, a2⟩ := a
  obtain ⟨b1, b2⟩ := b
  have hb : ∀ (w : World) (o p : Obj), Below w.heap.size w ((w.alloc o).alloc p) := fun w o p => ((Below.refl _ w).alloc (Nat.le_refl _) _).alloc (by simp) _
  have HB := keep hb
  clear hb
  unfold agE ahd tls flt feq
  dsimp only
  obtain ⟨o, ho⟩ : ∃ o, Ieee.double.order a2 b2 = o := ⟨_, rfl⟩
  rw [ho]
  have ho' : FloatKind.f64.format.order a2 b2 = o := ho
  clear ho
  rcases o with _ | (_ | _ | _)
  all_goals
    go_enter Try.func65, Try.ntmps65
    go_wp2
    all_goals
      go_ret
      exact ⟨by simp, HB.out _ _ _⟩
/-- what is asked of a closure that holds members against something: q says no -/
def Rch (g : Nat) (cb : Array Value) (q : Ent → Bool) (w : World) : Prop :=
  (∀ args w, (callFunc g args).run Try.prog w = .ok (.enter g args) w) ∧ ∀ e W, Below w.heap.size w W → Calls Try.prog g (#[agE e] ++ cb) W fun en w' => en = .returned (.bool (!q e)) ∧ Below W.heap.size W w'
theorem Rch.below {g : Nat} {cb : Array Value} {q : Ent → Bool} {w w' : World} (h : Rch g cb q w) (hb : Below w.heap.size w w') : Rch g cb q w' :=
  ⟨h.1, fun e W hW => h.2 e W (hb.trans ⟨hW.os, hW.tape, hW.output, hW.size, fun k hk => hW.block k (Nat.lt_of_lt_of_le hk hb.size)⟩)⟩
set_option maxHeartbeats 1000000 in
theorem not1_any (a x : Ent) (B : Nat) (W : World) (h0 : W.cell? ⟨B, 0, none⟩ = some (.string x.1)) (h1 : W.cell? ⟨B, 1, none⟩ = some (.float .f64 x.2)) :
    Calls Try.prog 64 (#[agE a] ++ #[.pointer (some ⟨B, 0, none⟩)]) W fun en w' => en = .returned (.bool (!ahd a x)) ∧ Below W.heap.size W w' := by
  have sf : ∀ (x : Nat) (w : World) (a : Addr), (store a (.float .f64 x)).run Try.prog w = stored Try.prog w a (.float .f64 x) .plain := fun x w a => run_store _ w a _ _ rfl
  obtain ⟨a1, a2⟩ := a
  obtain ⟨x1, x2⟩ := x
  dsimp only at h0 h1
  have hbw : B < W.heap.size := World.block_lt_of_cell? _ _ h0
  obtain ⟨W1, hW1⟩ : ∃ W1, W.alloc (.cells #[.string a1, .float .f64 a2] 46) = W1 := ⟨_, rfl⟩
  have hb1 : Below W.heap.size W W1 := by rw [← hW1]; exact (Below.refl _ W).alloc (Nat.le_refl _) _
  have k0 : W1.cell? ⟨B, 0, none⟩ = some (.string x1) := (hb1.cell (p := ⟨B, 0, none⟩) hbw).trans h0
  have k1 : W1.cell? ⟨B, 1, none⟩ = some (.float .f64 x2) := (hb1.cell (p := ⟨B, 1, none⟩) hbw).trans h1
  have hn : W1.heap[W.heap.size]? = some (.cells #[.string a1, .float .f64 a2] 46 (0, 0)) := by rw [← hW1]; exact heap_alloc_new _ _
  have n0 : W1.cell? ⟨W.heap.size, 0, none⟩ = some (.string a1) := by simp [World.cell?, hn]
  have n1 : W1.cell? ⟨W.heap.size, 1, none⟩ = some (.float .f64 a2) := by simp [World.cell?, hn]
  have mA := ahead_any (a1, a2) (x1, x2) W1
  have HB := keep hb1
  clear h0 h1 hb1 hbw hn
  unfold agE at *
  dsimp only at *
  go_enter Try.func64, Try.ntmps64
  go_wp2_with (first | (rw [hW1]; done) | (go_at_call 65; refine mA.mono ?_; rintro _ w' ⟨rfl, hb2⟩))
  go_ret
  exact ⟨rfl, HB.out.trans ⟨hb2.os, hb2.tape, hb2.output, hb2.size, fun k hk => hb2.block k (Nat.lt_of_lt_of_le hk HB.out.size)⟩⟩
end Go.Proofs.Ytapehjlpiobeaaa

/-
  Contracts over this program: sort.Search; slices.Clone of a row; the closure that holds against a member.
-/
namespace Go.Proofs.Ytapehjlpiobeaaa
open Go.RowKit Go.Shelf
set_option linter.unusedVariables false
theorem Below.up {w W w' : World} (h : Below w.heap.size w W) (g : Below W.heap.size W w') : Below w.heap.size w w' :=
  h.trans ⟨g.os, g.tape, g.output, g.size, fun k hk => g.block k (Nat.lt_of_lt_of_le hk h.size)⟩
set_option maxHeartbeats 1000000 in
theorem notAhead_any (x : Ent) (w : World) : Calls Try.prog 42 #[agE x] w fun e w' => e = .returned (.func (.func 64) #[] #[.pointer (some ⟨w.heap.size, 0, none⟩)]) ∧ Below w.heap.size w w' ∧ Rch 64 #[.pointer (some ⟨w.heap.size, 0, none⟩)] (fun e => ahd e x) w' := by
  have sf : ∀ (x : Nat) (w : World) (a : Addr), (store a (.float .f64 x)).run Try.prog w = stored Try.prog w a (.float .f64 x) .plain := fun x w a => run_store _ w a _ _ rfl
  have hb : Below w.heap.size w (w.alloc (.cells #[.string x.1, .float .f64 x.2] 46)) := (Below.refl _ w).alloc (Nat.le_refl _) _
  have hr : Rch 64 #[.pointer (some ⟨w.heap.size, 0, none⟩)] (fun e => ahd e x) (w.alloc (.cells #[.string x.1, .float .f64 x.2] 46)) := by
    refine ⟨enters_of Try.func64 (by kernel_rfl) rfl, fun e W hW => ?_⟩
    have hn : W.heap[w.heap.size]? = some (.cells #[.string x.1, .float .f64 x.2] 46 (0, 0)) := by rw [hW.block _ (by simp)]; exact heap_alloc_new _ _
    exact not1_any e x w.heap.size W (by simp [World.cell?, hn]) (by simp [World.cell?, hn])
  have HB := keep hb
  have HR := keep hr
  clear hb hr
  obtain ⟨x1, x2⟩ := x
  unfold agE
  dsimp only at *
  go_enter Try.func42, Try.ntmps42
  go_wp2
  go_ret
  exact ⟨rfl, HB.out, HR.out⟩
set_option maxHeartbeats 4000000 in
set_option maxRecDepth 1000000 in
theorem search_any (g : Nat) (cb : Array Value) (n : Nat) (p : Nat → Bool) (w : World) (eg : ∀ args w, (callFunc g args).run Try.prog w = .ok (.enter g args) w) (hsz : n ≤ 2000000)
    (hf : ∀ W i, Below w.heap.size w W → i < n → Calls Try.prog g (#[.int .i64 (i : Int)] ++ cb) W fun e w' => e = .returned (.bool (p i)) ∧ Below W.heap.size W w')
    (hmono : ∀ a b, a ≤ b → b < n → p a = true → p b = true) :
    Calls Try.prog 61 #[.int .i64 n, .func (.func g) #[] cb] w fun e w' => (∃ k : Nat, e = .returned (.int .i64 k) ∧ k ≤ n ∧ (∀ t, t < k → p t = false) ∧ ∀ t, k ≤ t → t < n → p t = true) ∧ Below w.heap.size w w' := by
  have HF := keep hf
  have M := keep hmono
  have HS := keep hsz
  have B0 := keep (Below.refl w.heap.size w)
  clear hf hmono hsz
  go_enter Try.func61, Try.ntmps61
  go_wp2
  go_loopg [5, 6] n (fun kx s5 s6 wr => ∃ (lo hi : Nat), s5 = .int .i64 lo ∧ s6 = .int .i64 hi ∧ lo ≤ hi ∧ hi ≤ n ∧ hi - lo ≤ kx ∧ Kept (Below w.heap.size w wr) ∧ Kept ((∀ t, t < lo → p t = false) ∧ (∀ t, hi ≤ t → t < n → p t = true)))
  case atStart => exact ⟨0, n, rfl, rfl, Nat.zero_le _, Nat.le_refl _, by omega, B0.out, ⟨fun t ht => absurd ht (Nat.not_lt_zero _), fun t h1 h2 => by omega⟩⟩
  case round =>
    obtain ⟨lo, hi, rfl, rfl, hlh, hin, hg, BW, I⟩ := hrel
    have hs := HS.out
    by_cases hlt : lo < hi
    · have hc := HF.out wr ((lo + hi) / 2) BW.out (by omega)
      rw [show (((lo + hi) / 2 : Nat) : Int) = ((lo : Int) + (hi : Int)) / 2 by omega] at hc
      cases hp : p ((lo + hi) / 2) <;> rw [hp] at hc
      · have HP := keep hp
        clear hp
        go_wp2_with (go_at_fn g; refine hc.mono ?_; rintro e w' ⟨rfl, hb'⟩)
        go_roundg (hi - ((lo + hi) / 2 + 1))
        case measure => omega
        case rel =>
          exact ⟨(lo + hi) / 2 + 1, hi, by rw [show ((lo : Int) + (hi : Int)) / 2 + 1 = (((lo + hi) / 2 + 1 : Nat) : Int) by omega], rfl, by omega, hin, Nat.le_refl _, Below.up BW.out hb', ⟨fun t ht => (by
            cases h : p t with
            | false => rfl
            | true => have := M.out t ((lo + hi) / 2) (by omega) (by omega) h; rw [HP.out] at this; cases this), I.out.2⟩⟩
      · have HP := keep hp
        clear hp
        go_wp2_with (go_at_fn g; refine hc.mono ?_; rintro e w' ⟨rfl, hb'⟩)
        go_roundg ((lo + hi) / 2 - lo)
        case measure => omega
        case rel =>
          exact ⟨lo, (lo + hi) / 2, rfl, by rw [show ((lo : Int) + (hi : Int)) / 2 = (((lo + hi) / 2 : Nat) : Int) by omega], by omega, by omega, Nat.le_refl _, Below.up BW.out hb', ⟨I.out.1, fun t ht htn => M.out ((lo + hi) / 2) t ht htn HP.out⟩⟩
    · obtain rfl : hi = lo := by omega
      go_wp2
      go_ret
      exact ⟨⟨hi, rfl, hin, I.out.1, I.out.2⟩, BW.out⟩
set_option maxHeartbeats 1000000 in
theorem clone_any (w : World) (b off n c : Nat) (news : List Value) (hl : news.length = n * 2) (hn : n ≤ 2000000) (hc : ∀ j u, news[j]? = some u → w.cell? ((⟨b, off, none⟩ : Addr).add j) = some u) (h1 : ∀ u ∈ news, u.oneCell' = true) (hp : 0 < n) :
    Calls Try.prog 23 #[.slice (some ⟨b, off, none⟩) n c] w fun e w' => ∃ g cap, e = .returned (.slice (some ⟨g, 0, none⟩) n cap) ∧ w'.ownsRow 0 46 2 (.slice (some ⟨g, 0, none⟩) n cap) n news ∧ w.heap.size ≤ g ∧ Below w.heap.size w w' := by
  obtain ⟨i0, hi0, hz0, hz1, hz2⟩ := info_parts info_rk
  have uT := Try.underlying41
  have q22 : ∀ (w : World) (a : Option Addr) (n c n' c' : Nat), (binOp .eql 41 (.slice a n c) (.slice none n' c')).run Try.prog w = .ok (.bool a.isNone) w := fun w a n c n' c' => Lib.run_eql_slice_nil w _ _ a n c n' c' uT
  obtain ⟨W1, hW1⟩ : ∃ W1, w.alloc (.cells #[] 46) = W1 := ⟨_, rfl⟩
  have hb1 : Below w.heap.size w W1 := by rw [← hW1]; exact (Below.refl _ w).alloc (Nat.le_refl _) _
  have hown : W1.ownsRow w.heap.size 46 2 (.slice (some ⟨w.heap.size, 0, none⟩) 0 0) 0 [] := by rw [← hW1]; exact World.ownsRow_made w #[] 0 (Nat.le_refl _) (Nat.zero_le _) (by simp)
  obtain ⟨g, cap, W2, r1, r2, r3, r4, r5⟩ := run_append_lies (P := Try.prog) W1 41 41 w.heap.size 46 i0 _ 2 24 uT hi0 hz0 hz1 hz2 (by simp [Value.cells]) (by decide) _ 0 [] hown ⟨b, off, none⟩ n c news hl (fun j u hj => by
    have := hc j u hj
    rw [add_at] at this ⊢
    exact (hb1.cell (p := ⟨b, off + j, none⟩) (World.block_lt_of_cell? _ _ this)).trans this) h1 hp (by unfold maxLen; omega) (by omega) hb1.size W1.heap.size rfl
  rw [Nat.zero_add] at r1 r2
  have R1 := keep r1
  have HP : Kept (∃ g' cap', (Ending.returned (.slice (some ⟨g, 0, none⟩) n cap)) = .returned (.slice (some ⟨g', 0, none⟩) n cap') ∧ W2.ownsRow 0 46 2 (.slice (some ⟨g', 0, none⟩) n cap') n news ∧ w.heap.size ≤ g' ∧ Below w.heap.size w W2) := by
    refine ⟨g, cap, rfl, ?_, (r2.lt g rfl).1, hb1.grown r3 hb1.size (fun k hk => by cases hk; exact Nat.le_refl _)⟩
    obtain ⟨l1, l2⟩ := r2
    refine ⟨by simpa using l1, ?_⟩
    rcases l2 with ⟨h, _⟩ | ⟨g', cap', cur, e, _, rest⟩
    · cases h
    · exact .inr ⟨g', cap', cur, e, Nat.zero_le _, by simpa using rest⟩
  clear hl hn hc h1 hp hown hb1 r1 r2 r3 r4 r5
  subst hW1
  go_enter Try.func23, Try.ntmps23
  go_wp2_with (at_builtin; refine wpList_app_run rfl _ _ _ _ rfl _ _ _ rfl rfl R1.out ?_)
  go_ret
  exact HP.out
end Go.Proofs.Ytapehjlpiobeaaa

namespace Go.Proofs.Ytapehjlpiobeaaa
open Go.RowKit Go.Shelf
set_option linter.unusedVariables false
set_option linter.unusedSimpArgs false
set_option maxRecDepth 100000 in
set_option maxHeartbeats 1000000 in
theorem seek1_any (W : World) (Bf Br R gt n c i gx lx cx lm oL g : Nat) (cb : Array Value) (e1 : ByteArray) (e2 : Nat) (v : Bool)
    (hf : W.cell? ⟨Bf, 0, none⟩ = some (.func (.func g) #[] cb)) (hr : W.cell? ⟨Br, 0, none⟩ = some (.pointer (some ⟨R, 0, none⟩))) (hR : W.cell? ⟨R, 2, none⟩ = some (.slice (some ⟨gt, 0, none⟩) n c)) (hT : W.cell? ⟨gt, i, none⟩ = some (.slice (some ⟨gx, 0, none⟩) lx cx))
    (hx0 : W.cell? ⟨gx, oL, none⟩ = some (.string e1)) (hx1 : W.cell? ⟨gx, oL + 1, none⟩ = some (.float .f64 e2)) (hi : i < n) (hl : lx = lm + 1) (ho : oL = lm * 2) (hln : lx ≤ 100000)
    (eg : ∀ args w, (callFunc g args).run Try.prog w = .ok (.enter g args) w) (hq : ∀ W', Below W.heap.size W W' → Calls Try.prog g (#[agE (e1, e2)] ++ cb) W' fun en w' => en = .returned (.bool v) ∧ Below W'.heap.size W' w') :
    Calls Try.prog 62 (#[.int .i64 (i : Int)] ++ #[.pointer (some ⟨Bf, 0, none⟩), .pointer (some ⟨Br, 0, none⟩)]) W fun en w' => en = .returned (.bool v) ∧ Below W.heap.size W w' := by
  have i0 : (0 : Int) ≤ (i : Int) := by omega
  have i1 : (i : Int) < (n : Int) := by omega
  have m0 : (0 : Int) ≤ (lm : Int) := by omega
  have m1 : (lm : Int) < (lx : Int) := by omega
  have hw : IntKind.i64.wrap ((lx : Int) - 1) = (lm : Int) := by rw [IntKind.wrap_i64]; omega
  have mQ := hq W.drew (Below.refl _ W).drew
  unfold agE at mQ
  dsimp only at mQ
  have MQ := keep mQ
  have ho' : lm * 2 = oL := ho.symm
  have HS : Kept (W.drew.cell? ⟨Bf, 0, none⟩ = some (.func (.func g) #[] cb) ∧ W.drew.cell? ⟨Br, 0, none⟩ = some (.pointer (some ⟨R, 0, none⟩)) ∧ W.drew.cell? ⟨R, 2, none⟩ = some (.slice (some ⟨gt, 0, none⟩) n c) ∧ W.drew.cell? ⟨gt, i, none⟩ = some (.slice (some ⟨gx, 0, none⟩) lx cx) ∧ W.drew.cell? ⟨gx, oL, none⟩ = some (.string e1) ∧ W.drew.cell? ⟨gx, oL + 1, none⟩ = some (.float .f64 e2)) := ⟨hf, hr, hR, hT, hx0, hx1⟩
  clear hq mQ hf hr hR hT hx0 hx1 hi hl ho hln
  go_enter Try.func62, Try.ntmps62
  go_wp2_with fail
  refine wp_region_held_drew (S := fun W => W.cell? ⟨Bf, 0, none⟩ = some (.func (.func g) #[] cb) ∧ W.cell? ⟨Br, 0, none⟩ = some (.pointer (some ⟨R, 0, none⟩)) ∧ W.cell? ⟨R, 2, none⟩ = some (.slice (some ⟨gt, 0, none⟩) n c) ∧ W.cell? ⟨gt, i, none⟩ = some (.slice (some ⟨gx, 0, none⟩) lx cx) ∧ W.cell? ⟨gx, oL, none⟩ = some (.string e1) ∧ W.cell? ⟨gx, oL + 1, none⟩ = some (.float .f64 e2)) (by kernel_rfl) HS.out (fun hHeld => ?_)
  refine wpAnyH_take (i := 0) (oi := { dst := some 5, op := _, type := _, pos := _, after := _, guard := _ }) (v := ?v153) rfl (by kernel_rfl) (by kernel_rfl) (by kernel_rfl) (fun _ _ _ h => h) (Or.inl ⟨by rfl, ?hy153⟩) (by assumption) ?rest153
  case hy153 => (intro w hSw; obtain ⟨p0,p1,p2,p3,p4,p5⟩ := hSw; go_simp; try with_reducible rfl)
  try simp only [Act.put, List.setIfInBounds_toArray, List.set_cons_zero, List.set_cons_succ]
  refine wpAnyH_take (i := 1) (oi := { dst := some 6, op := _, type := _, pos := _, after := _, guard := _ }) (v := ?v154) rfl (by kernel_rfl) (by kernel_rfl) (by kernel_rfl) (fun _ _ _ h => h) (Or.inl ⟨by rfl, ?hy154⟩) (by assumption) ?rest154
  case hy154 => (intro w hSw; obtain ⟨p0,p1,p2,p3,p4,p5⟩ := hSw; go_simp; try with_reducible rfl)
  try simp only [Act.put, List.setIfInBounds_toArray, List.set_cons_zero, List.set_cons_succ]
  refine wpAnyH_take (i := 2) (oi := { dst := some 7, op := _, type := _, pos := _, after := _, guard := _ }) (v := ?v155) rfl (by kernel_rfl) (by kernel_rfl) (by kernel_rfl) (fun _ _ _ h => h) (Or.inl ⟨by rfl, ?hy155⟩) (by assumption) ?rest155
  case hy155 => (intro w hSw; obtain ⟨p0,p1,p2,p3,p4,p5⟩ := hSw; go_simp; try with_reducible rfl)
  try simp only [Act.put, List.setIfInBounds_toArray, List.set_cons_zero, List.set_cons_succ]
  refine wpAnyH_take (i := 3) (oi := { dst := some 8, op := _, type := _, pos := _, after := _, guard := _ }) (v := ?v156) rfl (by kernel_rfl) (by kernel_rfl) (by kernel_rfl) (fun _ _ _ h => h) (Or.inl ⟨by rfl, ?hy156⟩) (by assumption) ?rest156
  case hy156 => (intro w hSw; obtain ⟨p0,p1,p2,p3,p4,p5⟩ := hSw; go_simp; try with_reducible rfl)
  try simp only [Act.put, List.setIfInBounds_toArray, List.set_cons_zero, List.set_cons_succ]
  refine wpAnyH_take (i := 4) (oi := { dst := some 9, op := _, type := _, pos := _, after := _, guard := _ }) (v := ?v157) rfl (by kernel_rfl) (by kernel_rfl) (by kernel_rfl) (fun _ _ _ h => h) (Or.inl ⟨by rfl, ?hy157⟩) (by assumption) ?rest157
  case hy157 => (intro w hSw; obtain ⟨p0,p1,p2,p3,p4,p5⟩ := hSw; go_simp; try with_reducible rfl)
  try simp only [Act.put, List.setIfInBounds_toArray, List.set_cons_zero, List.set_cons_succ]
  refine wpAnyH_take (i := 5) (oi := { dst := some 10, op := _, type := _, pos := _, after := _, guard := _ }) (v := ?v158) rfl (by kernel_rfl) (by kernel_rfl) (by kernel_rfl) (fun _ _ _ h => h) (Or.inl ⟨by rfl, ?hy158⟩) (by assumption) ?rest158
  case hy158 => (intro w hSw; obtain ⟨p0,p1,p2,p3,p4,p5⟩ := hSw; go_simp; try with_reducible rfl)
  try simp only [Act.put, List.setIfInBounds_toArray, List.set_cons_zero, List.set_cons_succ]
  refine wpAnyH_take (i := 6) (oi := { dst := some 11, op := _, type := _, pos := _, after := _, guard := _ }) (v := (.pointer (some ⟨gt, i, none⟩))) rfl (by kernel_rfl) (by kernel_rfl) (by kernel_rfl) (fun _ _ _ h => h) (Or.inl ⟨by rfl, ?hy159⟩) (by assumption) ?rest159
  case hy159 => (intro w hSw; obtain ⟨p0,p1,p2,p3,p4,p5⟩ := hSw; first | (go_simp; done) | (go_simp; simp [*]; done) | (simp [*]; go_simp; done))
  try simp only [Act.put, List.setIfInBounds_toArray, List.set_cons_zero, List.set_cons_succ]
  refine wpAnyH_take (i := 7) (oi := { dst := some 12, op := _, type := _, pos := _, after := _, guard := _ }) (v := ?v160) rfl (by kernel_rfl) (by kernel_rfl) (by kernel_rfl) (fun _ _ _ h => h) (Or.inl ⟨by rfl, ?hy160⟩) (by assumption) ?rest160
  case hy160 => (intro w hSw; obtain ⟨p0,p1,p2,p3,p4,p5⟩ := hSw; go_simp; try with_reducible rfl)
  try simp only [Act.put, List.setIfInBounds_toArray, List.set_cons_zero, List.set_cons_succ]
  refine wpAnyH_take (i := 8) (oi := { dst := some 13, op := _, type := _, pos := _, after := _, guard := _ }) (v := ?v161) rfl (by kernel_rfl) (by kernel_rfl) (by kernel_rfl) (fun _ _ _ h => h) (Or.inl ⟨by rfl, ?hy161⟩) (by assumption) ?rest161
  case hy161 => (intro w hSw; obtain ⟨p0,p1,p2,p3,p4,p5⟩ := hSw; go_simp; try with_reducible rfl)
  try simp only [Act.put, List.setIfInBounds_toArray, List.set_cons_zero, List.set_cons_succ]
  refine wpAnyH_take (i := 9) (oi := { dst := some 14, op := _, type := _, pos := _, after := _, guard := _ }) (v := ?v162) rfl (by kernel_rfl) (by kernel_rfl) (by kernel_rfl) (fun _ _ _ h => h) (Or.inl ⟨by rfl, ?hy162⟩) (by assumption) ?rest162
  case hy162 => (intro w hSw; obtain ⟨p0,p1,p2,p3,p4,p5⟩ := hSw; go_simp; try with_reducible rfl)
  try simp only [Act.put, List.setIfInBounds_toArray, List.set_cons_zero, List.set_cons_succ]
  refine wpAnyH_take (i := 10) (oi := { dst := some 15, op := _, type := _, pos := _, after := _, guard := _ }) (v := ?v163) rfl (by kernel_rfl) (by kernel_rfl) (by kernel_rfl) (fun _ _ _ h => h) (Or.inl ⟨by rfl, ?hy163⟩) (by assumption) ?rest163
  case hy163 => (intro w hSw; obtain ⟨p0,p1,p2,p3,p4,p5⟩ := hSw; go_simp; try with_reducible rfl)
  try simp only [Act.put, List.setIfInBounds_toArray, List.set_cons_zero, List.set_cons_succ]
  refine wpAnyH_take (i := 11) (oi := { dst := some 16, op := _, type := _, pos := _, after := _, guard := _ }) (v := ?v164) rfl (by kernel_rfl) (by kernel_rfl) (by kernel_rfl) (fun _ _ _ h => h) (Or.inl ⟨by rfl, ?hy164⟩) (by assumption) ?rest164
  case hy164 => (intro w hSw; obtain ⟨p0,p1,p2,p3,p4,p5⟩ := hSw; go_simp; try with_reducible rfl)
  try simp only [Act.put, List.setIfInBounds_toArray, List.set_cons_zero, List.set_cons_succ]
  refine wpAnyH_take (i := 12) (oi := { dst := some 17, op := _, type := _, pos := _, after := _, guard := _ }) (v := ?v165) rfl (by kernel_rfl) (by kernel_rfl) (by kernel_rfl) (fun _ _ _ h => h) (Or.inl ⟨by rfl, ?hy165⟩) (by assumption) ?rest165
  case hy165 => (intro w hSw; obtain ⟨p0,p1,p2,p3,p4,p5⟩ := hSw; go_simp; try with_reducible rfl)
  try simp only [Act.put, List.setIfInBounds_toArray, List.set_cons_zero, List.set_cons_succ]
  refine wpAnyH_take (i := 13) (oi := { dst := some 18, op := _, type := _, pos := _, after := _, guard := _ }) (v := (.pointer (some ⟨gt, i, none⟩))) rfl (by kernel_rfl) (by kernel_rfl) (by kernel_rfl) (fun _ _ _ h => h) (Or.inl ⟨by rfl, ?hy166⟩) (by assumption) ?rest166
  case hy166 => (intro w hSw; obtain ⟨p0,p1,p2,p3,p4,p5⟩ := hSw; first | (go_simp; done) | (go_simp; simp [*]; done) | (simp [*]; go_simp; done))
  try simp only [Act.put, List.setIfInBounds_toArray, List.set_cons_zero, List.set_cons_succ]
  refine wpAnyH_take (i := 14) (oi := { dst := some 19, op := _, type := _, pos := _, after := _, guard := _ }) (v := ?v167) rfl (by kernel_rfl) (by kernel_rfl) (by kernel_rfl) (fun _ _ _ h => h) (Or.inl ⟨by rfl, ?hy167⟩) (by assumption) ?rest167
  case hy167 => (intro w hSw; obtain ⟨p0,p1,p2,p3,p4,p5⟩ := hSw; go_simp; try with_reducible rfl)
  try simp only [Act.put, List.setIfInBounds_toArray, List.set_cons_zero, List.set_cons_succ]
  refine wpAnyH_take (i := 15) (oi := { dst := some 20, op := _, type := _, pos := _, after := _, guard := _ }) (v := (.int .i64 (lx : Int))) rfl (by kernel_rfl) (by kernel_rfl) (by kernel_rfl) (fun _ _ _ h => h) (Or.inl ⟨by rfl, ?hy168⟩) (by assumption) ?rest168
  case hy168 => (intro w hSw; obtain ⟨p0,p1,p2,p3,p4,p5⟩ := hSw; first | (go_simp; done) | (go_simp; simp [*]; done) | (simp [*]; go_simp; done))
  try simp only [Act.put, List.setIfInBounds_toArray, List.set_cons_zero, List.set_cons_succ]
  refine wpAnyH_take (i := 16) (oi := { dst := some 21, op := _, type := _, pos := _, after := _, guard := _ }) (v := (.int .i64 (lm : Int))) rfl (by kernel_rfl) (by kernel_rfl) (by kernel_rfl) (fun _ _ _ h => h) (Or.inl ⟨by rfl, ?hy169⟩) (by assumption) ?rest169
  case hy169 => (intro w hSw; obtain ⟨p0,p1,p2,p3,p4,p5⟩ := hSw; first | (go_simp; done) | (go_simp; simp [*]; done) | (simp [*]; go_simp; done))
  try simp only [Act.put, List.setIfInBounds_toArray, List.set_cons_zero, List.set_cons_succ]
  refine wpAnyH_take (i := 17) (oi := { dst := some 22, op := _, type := _, pos := _, after := _, guard := _ }) (v := (.pointer (some ⟨gx, oL, none⟩))) rfl (by kernel_rfl) (by kernel_rfl) (by kernel_rfl) (fun _ _ _ h => h) (Or.inl ⟨by rfl, ?hy170⟩) (by assumption) ?rest170
  case hy170 => (intro w hSw; obtain ⟨p0,p1,p2,p3,p4,p5⟩ := hSw; first | (go_simp; done) | (go_simp; simp [*]; done) | (simp [*]; go_simp; done))
  try simp only [Act.put, List.setIfInBounds_toArray, List.set_cons_zero, List.set_cons_succ]
  refine wpAnyH_take (i := 18) (oi := { dst := some 23, op := _, type := _, pos := _, after := _, guard := _ }) (v := (.agg #[.string e1, .float .f64 e2])) rfl (by kernel_rfl) (by kernel_rfl) (by kernel_rfl) (fun _ _ _ h => h) (Or.inl ⟨by rfl, ?hy171⟩) (by assumption) ?rest171
  case hy171 => (intro w hSw; obtain ⟨p0,p1,p2,p3,p4,p5⟩ := hSw; first | (go_simp; done) | (go_simp; simp [*]; done) | (simp [*]; go_simp; done))
  try simp only [Act.put, List.setIfInBounds_toArray, List.set_cons_zero, List.set_cons_succ]
  refine wpAnyH_ready (rs := [19]) (by kernel_rfl) (by simp) ?_
  refine AllReadyH.cons (o := { dst := some 24, op := _, type := _, pos := _, after := _, guard := _ }) rfl (fun K hK => ?_) AllReadyH.nil
  go_simp
  refine MQ.out.mono ?_
  rintro _ w1 ⟨rfl, hb1⟩
  have HB := keep hb1
  have hlt : ∀ {a : Addr} {u : Value}, W.drew.cell? a = some u → w1.cell? a = some u := fun {a u} h => (hb1.cell (p := a) (World.block_lt_of_cell? _ _ h)).trans h
  refine hK.out _ _ ⟨hlt HS.out.1, hlt HS.out.2.1, hlt HS.out.2.2.1, hlt HS.out.2.2.2.1, hlt HS.out.2.2.2.2.1, hlt HS.out.2.2.2.2.2⟩ (fun hHeld => ?_)
  try simp only [Act.put, List.setIfInBounds_toArray, List.set_cons_zero, List.set_cons_succ]
  clear hK hlt hb1
  refine wpAnyH_take (i := 20) (oi := { dst := some 4, op := _, type := _, pos := _, after := _, guard := _ }) (v := ?v172) rfl (by kernel_rfl) (by kernel_rfl) (by kernel_rfl) (fun _ _ _ h => h) (Or.inl ⟨by rfl, ?hy172⟩) (by assumption) ?rest172
  case hy172 => (intro w hSw; go_simp; try with_reducible rfl)
  try simp only [Act.put, List.setIfInBounds_toArray, List.set_cons_zero, List.set_cons_succ]
  refine wpAnyH_done (by kernel_rfl) ?_ _
  clear hHeld HS MQ
  go_wp2
  go_ret
  exact ⟨rfl, (Below.refl _ W).drew.trans HB.out⟩
set_option maxRecDepth 100000 in
set_option maxHeartbeats 1000000 in
theorem seek2_any (W : World) (Bf Br Bi R gt n c i gx lx cx p oL g : Nat) (cb : Array Value) (e1 : ByteArray) (e2 : Nat) (v : Bool)
    (hf : W.cell? ⟨Bf, 0, none⟩ = some (.func (.func g) #[] cb)) (hr : W.cell? ⟨Br, 0, none⟩ = some (.pointer (some ⟨R, 0, none⟩))) (hbi : W.cell? ⟨Bi, 0, none⟩ = some (.int .i64 (i : Int))) (hR : W.cell? ⟨R, 2, none⟩ = some (.slice (some ⟨gt, 0, none⟩) n c)) (hT : W.cell? ⟨gt, i, none⟩ = some (.slice (some ⟨gx, 0, none⟩) lx cx))
    (hx0 : W.cell? ⟨gx, oL, none⟩ = some (.string e1)) (hx1 : W.cell? ⟨gx, oL + 1, none⟩ = some (.float .f64 e2)) (hi : i < n) (hl : p < lx) (ho : oL = p * 2)
    (eg : ∀ args w, (callFunc g args).run Try.prog w = .ok (.enter g args) w) (hq : ∀ W', Below W.heap.size W W' → Calls Try.prog g (#[agE (e1, e2)] ++ cb) W' fun en w' => en = .returned (.bool v) ∧ Below W'.heap.size W' w') :
    Calls Try.prog 63 (#[.int .i64 (p : Int)] ++ #[.pointer (some ⟨Bf, 0, none⟩), .pointer (some ⟨Br, 0, none⟩), .pointer (some ⟨Bi, 0, none⟩)]) W fun en w' => en = .returned (.bool v) ∧ Below W.heap.size W w' := by
  have i0 : (0 : Int) ≤ (i : Int) := by omega
  have i1 : (i : Int) < (n : Int) := by omega
  have m0 : (0 : Int) ≤ (p : Int) := by omega
  have m1 : (p : Int) < (lx : Int) := by omega
  have mQ := hq W.drew (Below.refl _ W).drew
  unfold agE at mQ
  dsimp only at mQ
  have MQ := keep mQ
  have ho' : p * 2 = oL := ho.symm
  have HS : Kept (W.drew.cell? ⟨Bf, 0, none⟩ = some (.func (.func g) #[] cb) ∧ W.drew.cell? ⟨Br, 0, none⟩ = some (.pointer (some ⟨R, 0, none⟩)) ∧ W.drew.cell? ⟨R, 2, none⟩ = some (.slice (some ⟨gt, 0, none⟩) n c) ∧ W.drew.cell? ⟨gt, i, none⟩ = some (.slice (some ⟨gx, 0, none⟩) lx cx) ∧ W.drew.cell? ⟨gx, oL, none⟩ = some (.string e1) ∧ W.drew.cell? ⟨gx, oL + 1, none⟩ = some (.float .f64 e2) ∧ W.drew.cell? ⟨Bi, 0, none⟩ = some (.int .i64 (i : Int))) := ⟨hf, hr, hR, hT, hx0, hx1, hbi⟩
  clear hq mQ hf hr hR hT hx0 hx1 hi hl ho hbi
  go_enter Try.func63, Try.ntmps63
  go_wp2_with fail
  refine wp_region_held_drew (S := fun W => W.cell? ⟨Bf, 0, none⟩ = some (.func (.func g) #[] cb) ∧ W.cell? ⟨Br, 0, none⟩ = some (.pointer (some ⟨R, 0, none⟩)) ∧ W.cell? ⟨R, 2, none⟩ = some (.slice (some ⟨gt, 0, none⟩) n c) ∧ W.cell? ⟨gt, i, none⟩ = some (.slice (some ⟨gx, 0, none⟩) lx cx) ∧ W.cell? ⟨gx, oL, none⟩ = some (.string e1) ∧ W.cell? ⟨gx, oL + 1, none⟩ = some (.float .f64 e2) ∧ W.cell? ⟨Bi, 0, none⟩ = some (.int .i64 (i : Int))) (by kernel_rfl) HS.out (fun hHeld => ?_)
  refine wpAnyH_take (i := 0) (oi := { dst := some 6, op := _, type := _, pos := _, after := _, guard := _ }) (v := ?v173) rfl (by kernel_rfl) (by kernel_rfl) (by kernel_rfl) (fun _ _ _ h => h) (Or.inl ⟨by rfl, ?hy173⟩) (by assumption) ?rest173
  case hy173 => (intro w hSw; obtain ⟨p0,p1,p2,p3,p4,p5,p6⟩ := hSw; go_simp; try with_reducible rfl)
  try simp only [Act.put, List.setIfInBounds_toArray, List.set_cons_zero, List.set_cons_succ]
  refine wpAnyH_take (i := 1) (oi := { dst := some 7, op := _, type := _, pos := _, after := _, guard := _ }) (v := ?v174) rfl (by kernel_rfl) (by kernel_rfl) (by kernel_rfl) (fun _ _ _ h => h) (Or.inl ⟨by rfl, ?hy174⟩) (by assumption) ?rest174
  case hy174 => (intro w hSw; obtain ⟨p0,p1,p2,p3,p4,p5,p6⟩ := hSw; go_simp; try with_reducible rfl)
  try simp only [Act.put, List.setIfInBounds_toArray, List.set_cons_zero, List.set_cons_succ]
  refine wpAnyH_take (i := 2) (oi := { dst := some 8, op := _, type := _, pos := _, after := _, guard := _ }) (v := ?v175) rfl (by kernel_rfl) (by kernel_rfl) (by kernel_rfl) (fun _ _ _ h => h) (Or.inl ⟨by rfl, ?hy175⟩) (by assumption) ?rest175
  case hy175 => (intro w hSw; obtain ⟨p0,p1,p2,p3,p4,p5,p6⟩ := hSw; go_simp; try with_reducible rfl)
  try simp only [Act.put, List.setIfInBounds_toArray, List.set_cons_zero, List.set_cons_succ]
  refine wpAnyH_take (i := 3) (oi := { dst := some 9, op := _, type := _, pos := _, after := _, guard := _ }) (v := ?v176) rfl (by kernel_rfl) (by kernel_rfl) (by kernel_rfl) (fun _ _ _ h => h) (Or.inl ⟨by rfl, ?hy176⟩) (by assumption) ?rest176
  case hy176 => (intro w hSw; obtain ⟨p0,p1,p2,p3,p4,p5,p6⟩ := hSw; go_simp; try with_reducible rfl)
  try simp only [Act.put, List.setIfInBounds_toArray, List.set_cons_zero, List.set_cons_succ]
  refine wpAnyH_take (i := 4) (oi := { dst := some 10, op := _, type := _, pos := _, after := _, guard := _ }) (v := ?v177) rfl (by kernel_rfl) (by kernel_rfl) (by kernel_rfl) (fun _ _ _ h => h) (Or.inl ⟨by rfl, ?hy177⟩) (by assumption) ?rest177
  case hy177 => (intro w hSw; obtain ⟨p0,p1,p2,p3,p4,p5,p6⟩ := hSw; go_simp; try with_reducible rfl)
  try simp only [Act.put, List.setIfInBounds_toArray, List.set_cons_zero, List.set_cons_succ]
  refine wpAnyH_take (i := 5) (oi := { dst := some 11, op := _, type := _, pos := _, after := _, guard := _ }) (v := ?v178) rfl (by kernel_rfl) (by kernel_rfl) (by kernel_rfl) (fun _ _ _ h => h) (Or.inl ⟨by rfl, ?hy178⟩) (by assumption) ?rest178
  case hy178 => (intro w hSw; obtain ⟨p0,p1,p2,p3,p4,p5,p6⟩ := hSw; go_simp; try with_reducible rfl)
  try simp only [Act.put, List.setIfInBounds_toArray, List.set_cons_zero, List.set_cons_succ]
  refine wpAnyH_take (i := 6) (oi := { dst := some 12, op := _, type := _, pos := _, after := _, guard := _ }) (v := (.pointer (some ⟨gt, i, none⟩))) rfl (by kernel_rfl) (by kernel_rfl) (by kernel_rfl) (fun _ _ _ h => h) (Or.inl ⟨by rfl, ?hy179⟩) (by assumption) ?rest179
  case hy179 => (intro w hSw; obtain ⟨p0,p1,p2,p3,p4,p5,p6⟩ := hSw; first | (go_simp; done) | (go_simp; simp [*]; done) | (simp [*]; go_simp; done))
  try simp only [Act.put, List.setIfInBounds_toArray, List.set_cons_zero, List.set_cons_succ]
  refine wpAnyH_take (i := 7) (oi := { dst := some 13, op := _, type := _, pos := _, after := _, guard := _ }) (v := ?v180) rfl (by kernel_rfl) (by kernel_rfl) (by kernel_rfl) (fun _ _ _ h => h) (Or.inl ⟨by rfl, ?hy180⟩) (by assumption) ?rest180
  case hy180 => (intro w hSw; obtain ⟨p0,p1,p2,p3,p4,p5,p6⟩ := hSw; go_simp; try with_reducible rfl)
  try simp only [Act.put, List.setIfInBounds_toArray, List.set_cons_zero, List.set_cons_succ]
  refine wpAnyH_take (i := 8) (oi := { dst := some 14, op := _, type := _, pos := _, after := _, guard := _ }) (v := ?v181) rfl (by kernel_rfl) (by kernel_rfl) (by kernel_rfl) (fun _ _ _ h => h) (Or.inl ⟨by rfl, ?hy181⟩) (by assumption) ?rest181
  case hy181 => (intro w hSw; obtain ⟨p0,p1,p2,p3,p4,p5,p6⟩ := hSw; go_simp; try with_reducible rfl)
  try simp only [Act.put, List.setIfInBounds_toArray, List.set_cons_zero, List.set_cons_succ]
  refine wpAnyH_take (i := 9) (oi := { dst := some 15, op := _, type := _, pos := _, after := _, guard := _ }) (v := (.pointer (some ⟨gx, oL, none⟩))) rfl (by kernel_rfl) (by kernel_rfl) (by kernel_rfl) (fun _ _ _ h => h) (Or.inl ⟨by rfl, ?hy182⟩) (by assumption) ?rest182
  case hy182 => (intro w hSw; obtain ⟨p0,p1,p2,p3,p4,p5,p6⟩ := hSw; first | (go_simp; done) | (go_simp; simp [*]; done) | (simp [*]; go_simp; done))
  try simp only [Act.put, List.setIfInBounds_toArray, List.set_cons_zero, List.set_cons_succ]
  refine wpAnyH_take (i := 10) (oi := { dst := some 16, op := _, type := _, pos := _, after := _, guard := _ }) (v := (.agg #[.string e1, .float .f64 e2])) rfl (by kernel_rfl) (by kernel_rfl) (by kernel_rfl) (fun _ _ _ h => h) (Or.inl ⟨by rfl, ?hy183⟩) (by assumption) ?rest183
  case hy183 => (intro w hSw; obtain ⟨p0,p1,p2,p3,p4,p5,p6⟩ := hSw; first | (go_simp; done) | (go_simp; simp [*]; done) | (simp [*]; go_simp; done))
  try simp only [Act.put, List.setIfInBounds_toArray, List.set_cons_zero, List.set_cons_succ]
  refine wpAnyH_ready (rs := [11]) (by kernel_rfl) (by simp) ?_
  refine AllReadyH.cons (o := { dst := some 17, op := _, type := _, pos := _, after := _, guard := _ }) rfl (fun K hK => ?_) AllReadyH.nil
  go_simp
  refine MQ.out.mono ?_
  rintro _ w1 ⟨rfl, hb1⟩
  have HB := keep hb1
  have hlt : ∀ {a : Addr} {u : Value}, W.drew.cell? a = some u → w1.cell? a = some u := fun {a u} h => (hb1.cell (p := a) (World.block_lt_of_cell? _ _ h)).trans h
  refine hK.out _ _ ⟨hlt HS.out.1, hlt HS.out.2.1, hlt HS.out.2.2.1, hlt HS.out.2.2.2.1, hlt HS.out.2.2.2.2.1, hlt HS.out.2.2.2.2.2.1, hlt HS.out.2.2.2.2.2.2⟩ (fun hHeld => ?_)
  try simp only [Act.put, List.setIfInBounds_toArray, List.set_cons_zero, List.set_cons_succ]
  clear hK hlt hb1
  refine wpAnyH_take (i := 12) (oi := { dst := some 5, op := _, type := _, pos := _, after := _, guard := _ }) (v := ?v184) rfl (by kernel_rfl) (by kernel_rfl) (by kernel_rfl) (fun _ _ _ h => h) (Or.inl ⟨by rfl, ?hy184⟩) (by assumption) ?rest184
  case hy184 => (intro w hSw; go_simp; try with_reducible rfl)
  try simp only [Act.put, List.setIfInBounds_toArray, List.set_cons_zero, List.set_cons_succ]
  refine wpAnyH_done (by kernel_rfl) ?_ _
  clear hHeld HS MQ
  go_wp2
  go_ret
  exact ⟨rfl, (Below.refl _ W).drew.trans HB.out⟩
end Go.Proofs.Ytapehjlpiobeaaa
