/-
  Contracts over this program, put together.
-/
import Derived.Test.YtmgeaanbgjbkcaaGreatMQa
import Derived.WalkKit
import Derived.OwnWalkIn
import Derived.TacticsInMore
import Derived.LoopNIn
import Derived.LoopIn
import Derived.Sort.QuietIn
import Derived.Test.YtmgeaanbgjbkcaaGreatMI
import Derived.RangeFuncCalls
import Derived.Shelf.RegionOpen
import Derived.Laws.MakeOwn
import Derived.Laws.OwnMore
set_option maxHeartbeats 8000000
namespace Go.Proofs.YtmgeaanbgjbkcaaGreat.DQ
open Go.RowKit
set_option linter.unusedVariables false
def riL : Nat → List Chk → List (Nat × Nat)
  | _, [] => []
  | s, x :: r => (s, x.1) :: riL (s + x.2.length) r
def riV (x : Nat × Nat) : Array Value := #[.int .i64 (x.1 : Int), ptr x.2]
theorem riL_len : ∀ (cs : List Chk) (s : Nat), (riL s cs).length = cs.length
  | [], _ => rfl
  | x :: r, s => by simp [riL, riL_len r]
theorem riL_at : ∀ (A : List Chk) (s c : Nat) (ts : List ByteArray) (B : List Chk), (riL s (A ++ (c, ts) :: B))[A.length]? = some (s + (row A).length, c)
  | [], s, c, ts, B => rfl
  | x :: A, s, c, ts, B => by
    rw [List.cons_append, List.length_cons]
    show (riL (s + x.2.length) (A ++ (c, ts) :: B))[A.length]? = _
    rw [riL_at A _ c ts B, row_cons, List.length_append]
    congr 2
    omega
def RdR (Bd b : Nat) (cs : List Chk) (m : Nat) (w : World) : Prop :=
  w.cell? ⟨Bd, 0, none⟩ = some (ptr b) ∧ (m = 0 → w.cell? ⟨b, 0, none⟩ = some (hdv cs nul)) ∧ (∀ A c ts B, cs = A ++ (c, ts) :: B → A.length = m → w.cell? ⟨c, 1, none⟩ = some (hdv B nul) ∧ w.cell? ⟨c, 2, none⟩ = some (.int .i64 (ts.length : Nat)))
theorem below_dr (w : World) (q : Nat) : Below w.heap.size w (w.drewN q) := ⟨rfl, rfl, rfl, Nat.le_refl _, fun _ _ => rfl⟩
set_option maxRecDepth 100000 in
theorem rising_iter (Bd b : Nat) (cs : List Chk) (hne : ∀ x ∈ cs, 1 ≤ x.2.length) (hN : (row cs).length ≤ 1048576) (W : World) :
    Iter Tryz.prog 183 #[.pointer (some ⟨Bd, 0, none⟩)] riV (RdR Bd b cs) (riL 0 cs) W := by
  intro l J Jx hJ hJx hRd hY h0
  obtain ⟨r0, r1, _⟩ := hRd _ _ _ h0
  have r1 := r1 rfl
  have HY := keep hY
  have HRD := keep hRd
  have HJ := keep hJ
  have H0 := keep h0
  have HNE := keep hne
  obtain ⟨N, hNN⟩ : ∃ N, N = (row cs).length := ⟨_, rfl⟩
  rw [← hNN] at hN
  have HN := keep hNN
  have hNb : (N : Int) ≤ 1048576 := by omega
  clear hY hRd hJ h0 hne hNN hJx hN
  refine (callsIn_wide (n := 5)).1 (callsIn_of_wp Tryz.func183 rfl trivial ?_ rfl)
  simp only [Tryz.ntmps183, List.size_toArray, List.length_cons, List.length_nil, Nat.reduceAdd, Nat.reduceSub, Array.replicate_succ, Array.replicate_zero, List.push_toArray, List.append_toArray, List.nil_append, List.cons_append]
  gi_wp2
  clear r0 r1
  gi_loopw [3, 4] (fun u cv wr => ∃ A B : List Chk, Kept (cs = A ++ B) ∧ u = .int .i64 ((row A).length : Nat) ∧ cv = hdv B nul ∧ Kept (J (fun _ => False) A.length wr)) (fun u _ _ => N - (intOf u).toNat)
  case atStart => exact ⟨[], cs, rfl, rfl, rfl, H0⟩
  case round =>
    obtain ⟨A, B, KC, rfl, rfl, KJ⟩ := hrel
    cases B with
    | nil =>
      have e1 : hdv [] nul = .pointer none := rfl
      rw [e1]
      gi_wp2
      go_end0
      refine ⟨⟨_, rfl⟩, fun _ => False, fun _ h => h.elim, .inl ?_⟩
      have := KC.out
      rw [List.append_nil] at this
      rw [riL_len, this]
      exact KJ.out
    | cons x B =>
      obtain ⟨c, ts⟩ := x
      obtain ⟨_, _, r2⟩ := HRD.out _ _ _ KJ.out
      obtain ⟨k1, k2⟩ := r2 A c ts B KC.out rfl
      have e1 : hdv ((c, ts) :: B) nul = ptr c := rfl
      rw [e1]
      have hl : 1 ≤ ts.length := HNE.out (c, ts) (by rw [KC.out]; simp)
      have hr : (row A).length + ts.length ≤ N := by rw [HN.out, KC.out, row_app, row_cons, List.length_append, List.length_append]; dsimp only; omega
      have hx := riL_at A 0 c ts B
      rw [← KC.out, Nat.zero_add] at hx
      obtain ⟨s, hs⟩ : ∃ s, s = (row A).length := ⟨_, rfl⟩
      obtain ⟨t, ht⟩ : ∃ t, t = ts.length := ⟨_, rfl⟩
      rw [← hs]
      rw [← hs] at hx
      rw [← ht] at k2 hl
      rw [← hs, ← ht] at hr
      have hst : (s : Int) + (t : Int) ≤ 1048576 := by omega
      have HS := keep hs
      have HT := keep ht
      have HX := keep hx
      clear hs ht hx r2
      obtain ⟨nv, hnv⟩ : ∃ v, v = hdv B nul := ⟨_, rfl⟩
      rw [← hnv] at k1
      have HNV := keep hnv
      clear hnv
      gi_wp2_with fail
      gi_quiet (fail)
      have J1 := HJ.out _ _ _ _ _ KJ.out (Sep.of_below (below_dr wr nq)) (Ext.refl _ _ _)
      obtain ⟨fn, tmps, assign, body, hy, hR⟩ := (HY.out _ _ _ (wr.drewN nq) J1 HX.out (fun _ h => h.elim)).at (5 - 1)
      unfold riV at hy
      dsimp only at hy
      have HR := keep hR
      have e2 : (row (A ++ [(c, ts)])).length = s + t := by rw [row_app, row_cons, List.length_append, ← HS.out, HT.out]; simp [row]
      have E2 := keep e2
      clear hR J1 KJ k1 k2 e2
      gi_wp2
      refine RoundIn.mono HR.out ?_
      rintro e W3 ⟨_, (⟨rfl, hJ3⟩ | ⟨rfl, hJx3⟩)⟩
      · have K3 := keep hJ3
        clear hJ3
        gi_wp2
        go_roundw
        case rel => exact ⟨A ++ [(c, ts)], B, by show cs = _; rw [KC.out]; simp, by rw [E2.out]; go_num, HNV.out, by show J _ _ _; rw [List.length_append]; exact K3.out⟩
        case measure => simp [intOf]; omega
      · have K3 := keep hJx3
        clear hJx3
        gi_wp2
        refine bodyPost_ret (results_none rfl _ _ _) rfl ?_
        refine ⟨⟨_, rfl⟩, fun _ => False, fun _ h => h.elim, .inr ⟨A.length, by rw [riL_len, KC.out]; simp, K3.out⟩⟩
end Go.Proofs.YtmgeaanbgjbkcaaGreat.DQ

namespace Go.Proofs.YtmgeaanbgjbkcaaGreat.DQ
open Go.RowKit
set_option linter.unusedVariables false
theorem rising_any (w : World) (b : Nat) : Calls Tryz.prog 124 #[ptr b] w fun e w' => e = .returned (.func (.func 183) #[] #[.pointer (some ⟨w.heap.size, 0, none⟩)]) ∧ w' = w.alloc (.cells #[ptr b] 78) := by
  go_enter Tryz.func124, Tryz.ntmps124
  go_wp2
  go_ret
  exact ⟨rfl, rfl⟩
structure At (cs : List Chk) (i : Nat) (A : List Chk) (c : Nat) (ts : List ByteArray) (B : List Chk) : Prop where
  is : cs = A ++ (c, ts) :: B
  lo : (row A).length ≤ i
  hi : i < (row A).length + ts.length
theorem keepB {M M' : Nat → Prop} {A B : World} (hs : Sep M A B) (hx : Ext M M' A B) (k : Nat) (o : Obj) (hn : ¬ M k) (ho : A.heap[k]? = some o) : ¬ M' k ∧ B.heap[k]? = some o := by
  have hl := (Array.getElem?_eq_some_iff.1 ho).1
  exact ⟨hx.lt hl hn, (hs.2.2 k hl hn).trans ho⟩
theorem riL_get {cs : List Chk} {m : Nat} {x : Nat × Nat} (h : (riL 0 cs)[m]? = some x) : ∃ A c ts B, cs = A ++ (c, ts) :: B ∧ A.length = m ∧ x = ((row A).length, c) := by
  have hl := (List.getElem?_eq_some_iff.1 h).1
  rw [riL_len] at hl
  have e : cs = cs.take m ++ (cs[m].1, cs[m].2) :: cs.drop (m + 1) := by
    conv => lhs; rw [← List.take_append_drop m cs]
    rw [List.drop_eq_getElem_cons hl]
  refine ⟨_, _, _, _, e, by rw [List.length_take]; omega, ?_⟩
  have := riL_at (cs.take m) 0 cs[m].1 cs[m].2 (cs.drop (m + 1))
  rw [← e, List.length_take, Nat.min_eq_left (by omega), h, Nat.zero_add] at this
  exact Option.some.inj this
end Go.Proofs.YtmgeaanbgjbkcaaGreat.DQ

namespace Go.Proofs.YtmgeaanbgjbkcaaGreat.DQ
open Go.RowKit Go.Shelf
attribute [local go_sem] Oper.semAt_some
set_option linter.unusedVariables false
def w3 (w : World) (i : Nat) : World := ((w.alloc (.cells #[.int .i64 (i : Nat)] 3)).alloc (.cells #[nul] 185)).alloc (.cells #[.int .i64 0] 3)
end Go.Proofs.YtmgeaanbgjbkcaaGreat.DQ

namespace Go.Proofs.YtmgeaanbgjbkcaaGreat.DQ
open Go.RowKit Go.Shelf
attribute [local go_sem] Oper.semAt_some
set_option linter.unusedVariables false
theorem own_kept {w w' : World} {B e s : Nat} {v : Value} {n : Nat} {xs : List Value} (h : w.ownsRow B e s v n xs) (hk : ∀ k, v.ownBlock = some k → w'.heap[k]? = w.heap[k]?) : w'.ownsRow B e s v n xs := by
  refine ⟨h.1, ?_⟩
  rcases h.2 with hn | ⟨g, cap, cur, rfl, hb, hgg, rest⟩
  · exact .inl hn
  · exact .inr ⟨g, cap, cur, rfl, hb, by rw [hk g rfl]; exact hgg, rest⟩
theorem own_lt {w : World} {B e s : Nat} {v : Value} {n : Nat} {xs : List Value} (h : w.ownsRow B e s v n xs) {k : Nat} (hk : v.ownBlock = some k) : k < w.heap.size := (h.lt k hk).2
theorem own_form {w : World} {B e s : Nat} {v : Value} {n : Nat} {xs : List Value} (h : w.ownsRow B e s v n xs) : ∃ ao cp, v = .slice ao n cp ∧ (n = 0 ∨ ∃ g, ao = some ⟨g, 0, none⟩ ∧ g < w.heap.size) := by
  rcases h.2 with ⟨rfl, h0⟩ | ⟨g, cap, cur, rfl, _, hg, _⟩
  · exact ⟨none, 0, by rw [h0], .inl h0⟩
  · exact ⟨_, _, rfl, .inr ⟨g, rfl, (Array.getElem?_eq_some_iff.1 hg).1⟩⟩
theorem parts_of {P : Program} {t : TypeId} {z : Value} {s b : Nat} (h : (P.info? t).map (fun i => (i.zero, i.size, i.bytes)) = some (some z, s, b)) : ∃ i, P.info? t = some i ∧ i.zero = some z ∧ i.size = s ∧ i.bytes = b := by
  cases e : P.info? t with
  | none => rw [e] at h; cases h
  | some i =>
    rw [e] at h
    simp only [Option.map_some, Option.some.injEq, Prod.mk.injEq] at h
    exact ⟨i, rfl, h.1, h.2.1, h.2.2⟩
theorem info_strC : (Tryz.prog.info? 9).map (fun i => (i.zero, i.size, i.bytes)) = some (some (.string .empty), 1, 16) := by kernel_rfl
theorem wp_app_run {P : Program} {w w' : World} {o : Oper} {a : Act} {K : Act → World → Prop} {Q : Exit → Act → World → Prop} (s x : Operand) (t : TypeId)
    (hop : o.op = Op.call { callee := Callee.builtin Builtin.append, args := #[s, x], argTypes := #[t, t] }) (v v2 v' : Value) (hs : a.eval s = v) (hx : a.eval x = v2)
    (hrun : (Builtin.append_ #[t, t] o.type #[v, v2]).run P w = .ok v' w') (hK : K (a.put o.dst v') w') : o.wp P a w K Q := by
  unfold Oper.wp
  simp [execOp, hop, resolve, invoke, builtin, hs, hx, hrun, Result.andThen]
  exact hK
theorem rd_of {w : World} {Bd b : Nat} {cs : List Chk} {m : Nat} {W1 : World} (hd : Dq w b cs) (h4 : W1.heap[Bd]? = some (.cells #[ptr b] 78 (0, 0))) (h5 : Below w.heap.size w W1) : RdR Bd b cs m W1 := by
  have hd1 := hd.below h5
  refine ⟨by rw [cell_of_row _ _ _ _ _ _ h4]; rfl, fun _ => hd1.1.1.four.1, fun A c ts B e _ => ?_⟩
  subst e
  have := (ch_app.1 hd1.1.2.1).2.1.cells
  exact ⟨this.2.1, this.2.2.1⟩
end Go.Proofs.YtmgeaanbgjbkcaaGreat.DQ

namespace Go.Proofs.YtmgeaanbgjbkcaaGreat.DQ
open Go.RowKit Go.Shelf
attribute [local go_sem] Oper.semAt_some
set_option linter.unusedVariables false
theorem sl_to (w : World) (c h : Nat) (hh : h ≤ 32) : (Instr.sliceAt 186 (.pointer (some ⟨c, 3, none⟩)) none (some (.int .i64 (h : Int))) none).run Tryz.prog w = .ok (.slice (some ⟨c, 3, none⟩) h 32) w := by
  rw [run_sliceAt_array_h w 186 ⟨c, 3, none⟩ arr_is .i64 (h : Int) (by omega) (by rw [arr_len]; omega), arr_size, arr_len, Int.toNat_natCast, Result.andThen_ok]
  congr 1
def riT : Nat → List ByteArray → List (Nat × ByteArray)
  | _, [] => []
  | s, t :: r => (s, t) :: riT (s + 1) r
def rtV (x : Nat × ByteArray) : Array Value := #[.int .i64 (x.1 : Int), .string x.2]
theorem riT_len : ∀ (l : List ByteArray) (s : Nat), (riT s l).length = l.length
  | [], _ => rfl
  | t :: r, s => by simp [riT, riT_len r]
theorem riT_at : ∀ (l : List ByteArray) (s m : Nat), (riT s l)[m]? = (l[m]?).map fun t => (s + m, t)
  | [], s, m => by simp [riT]
  | t :: r, s, 0 => by simp [riT]
  | t :: r, s, m + 1 => by
    show (riT (s + 1) r)[m]? = _
    rw [riT_at r (s + 1) m, List.getElem?_cons_succ]
    congr 1
    funext x
    congr 1
    omega
theorem each_any (w : World) (b : Value) (hb : b = .pointer none ∨ ∃ x, b = ptr x) :
    Calls Tryz.prog 315 #[b] w fun e w' => e = .returned (.func (.func 316) #[] #[.pointer (some ⟨w.heap.size, 0, none⟩)]) ∧ w' = w.alloc (.cells #[b] 78) := by
  have hmf : ∀ (fn : Fn) (first cap : Array Value) (w : World), (Instr.makeFunc fn first cap).run Tryz.prog w = .ok (.func fn first cap) w := fun _ _ _ _ => rfl
  rcases hb with rfl | ⟨x, rfl⟩
  · go_enter Tryz.func315, Tryz.ntmps315
    go_wp2
    go_ret
    exact ⟨rfl, rfl⟩
  · go_enter Tryz.func315, Tryz.ntmps315
    go_wp2
    go_ret
    exact ⟨rfl, rfl⟩
theorem make_texts (w : World) (n : Nat) (hn : n ≤ 1048576) :
    ∃ w', (Instr.makeSlice 22 (.int .i64 0) (.int .i64 (n : Int))).run Tryz.prog w = .ok (.slice (some ⟨w.heap.size, 0, none⟩) 0 n) w' ∧ w'.ownsRow w.heap.size 9 1 (.slice (some ⟨w.heap.size, 0, none⟩) 0 n) 0 [] ∧ w.grownBy w' none ∧ w.heap.size < w'.heap.size := by
  obtain ⟨i0, hi0, hz0, hz1, hz2⟩ := parts_of info_strC
  obtain ⟨w', h1, h2, h3⟩ := run_make_own (P := Tryz.prog) w w.heap.size 22 9 i0 _ 1 Tryz.underlying22 hi0 hz0 hz1 .i64 .i64 n (by rw [hz2]; omega) (by unfold maxLen; omega) (Nat.le_refl _)
  exact ⟨w', h1, h2, h3, own_lt h2 rfl⟩
def EdI (W : World) (g H Bd b n : Nat) (cs : List Chk) (M : Nat → Prop) (m : Nat) (w : World) : Prop :=
  (¬ M H ∧ w.heap[H]? = some (.cells #[.slice (some ⟨g, 0, none⟩) (row (cs.take m)).length n] 22 (0, 0))) ∧ (¬ M g ∧ w.ownsRow W.heap.size 9 1 (.slice (some ⟨g, 0, none⟩) (row (cs.take m)).length n) (row (cs.take m)).length ((row (cs.take m)).map Value.string)) ∧
    (¬ M Bd ∧ w.heap[Bd]? = some (.cells #[ptr b] 78 (0, 0))) ∧ Below W.heap.size W w ∧ ∀ k, M k → W.heap.size ≤ k
theorem EdI.abd {W : World} {g H Bd b n : Nat} {cs : List Chk} : Abd (EdI W g H Bd b n cs) := by
  rintro M M' m A B ⟨⟨h1, h1'⟩, ⟨h2, h2'⟩, ⟨h4, h4'⟩, h5, h6⟩ hs hx
  have hSl := own_lt h2' (k := g) rfl
  exact ⟨keepB hs hx _ _ h1 h1', ⟨hx.lt hSl h2, own_kept h2' (fun k hk => by cases hk; exact hs.2.2 _ hSl h2)⟩, keepB hs hx _ _ h4 h4', h5.trans (hs.below h5.size h6), hx.ge h5.size h6⟩
def EdS (J : (Nat → Prop) → Nat → World → Prop) (W : World) (v : Value) (D : Nat) (es : List ByteArray) (m : Nat) (w : World) : Prop :=
  ∃ M : Nat → Prop, J M m w ∧ (∀ k, v.ownBlock = some k → M k) ∧ w.ownsRow W.heap.size 9 1 v es.length (es.map Value.string) ∧ (M D ∧ w.heap[D]? = some (.deferred (some []))) ∧ (∀ k, M k → W.heap.size ≤ k ∧ k < w.heap.size) ∧ W.heap.size ≤ w.heap.size
set_option maxRecDepth 100000 in
theorem each_iter (Bd b : Nat) (cs : List Chk) (W : World) (hd : Dq W b cs) (hBd : W.cell? ⟨Bd, 0, none⟩ = some (ptr b)) :
    Iter Tryz.prog 316 #[.pointer (some ⟨Bd, 0, none⟩)] rtV (fun _ _ => True) (riT 0 (row cs)) W := by
  intro l J Jx hJ hJx _ hY h0
  have hBl : Bd < W.heap.size := lt_cell hBd
  obtain ⟨n, hn⟩ : ∃ n, (row cs).length = n := ⟨_, rfl⟩
  have hN : n ≤ 1048576 := by rw [← hn]; exact hd.1.2.2.2.2
  have mL := len_any W b _ _ n _ (by have := hd.1.1; rw [hn] at this; exact this)
  obtain ⟨w1, mk, hS2, hg2, hlt2⟩ := make_texts W n hN
  have hb1 : Below W.heap.size W w1 := (Below.refl _ W).grown hg2 (Nat.le_refl _) (fun k h => by cases h)
  obtain ⟨w2, hw2⟩ : ∃ w2, w1.alloc (.cells #[.slice (some ⟨W.heap.size, 0, none⟩) 0 n] 22) = w2 := ⟨_, rfl⟩
  have hb12 : Below w1.heap.size w1 w2 := by rw [← hw2]; exact (Below.refl _ w1).alloc (Nat.le_refl _) _
  have hz2 : w2.heap.size = w1.heap.size + 1 := by rw [← hw2]; simp
  have h2S : w2.heap[w1.heap.size]? = some (.cells #[.slice (some ⟨W.heap.size, 0, none⟩) 0 n] 22 (0, 0)) := by rw [← hw2]; exact heap_alloc_new _ _
  have hb2 : Below W.heap.size W w2 := hb1.trans (hb12.mono hb1.size)
  have c2B : w2.cell? ⟨Bd, 0, none⟩ = some (ptr b) := (hb2.cell (p := ⟨Bd, 0, none⟩) hBl).trans hBd
  have HY := keep hY
  have HD := keep hd
  have H0 := keep h0
  have HN := keep hn
  clear hY hd h0 hn
  refine callsIn_wide (n := 9) |>.1 (callsIn_of_wp_marks Tryz.func316 rfl trivial (wpIn_wide.2 ?_) rfl)
  simp only [Tryz.ntmps316, List.size_toArray, List.length_cons, List.length_nil, Nat.reduceAdd, Nat.reduceSub, Array.replicate_succ, Array.replicate_zero, List.push_toArray, List.append_toArray, List.nil_append, List.cons_append]
  go_wp2_with fail
  refine mL.mono ?_
  rintro _ w' ⟨rfl, hw'⟩
  obtain rfl := hw'.symm
  go_wp2_with fail
  refine (rising_any _ b).mono ?_
  rintro _ w4 ⟨rfl, hw4⟩
  have hz4 : w4.heap.size = w2.heap.size + 1 := by rw [hw4]; simp
  have hb24 : Below w2.heap.size w2 w4 := by rw [hw4]; exact (Below.refl _ w2).alloc (Nat.le_refl _) _
  have h4B : w4.heap[w2.heap.size]? = some (.cells #[ptr b] 78 (0, 0)) := by rw [hw4]; exact heap_alloc_new _ _
  have h4S := (hb24.block w1.heap.size (by omega)).trans h2S
  have hb4 : Below W.heap.size W w4 := hb2.trans (hb24.mono hb2.size)
  have hI0 : EdI W W.heap.size w1.heap.size w2.heap.size b n cs (fun _ => False) 0 w4 :=
    ⟨⟨id, h4S⟩, ⟨id, own_kept hS2 (fun k hk => by cases hk; exact (hb24.block W.heap.size (by omega)).trans (hb12.block W.heap.size hlt2))⟩, ⟨id, h4B⟩, hb4, fun _ h => h.elim⟩
  have HI0 := keep hI0
  clear hw4 hb24 h4S h4B hb4 hI0 mk hS2 hg2 hw2 hb12 h2S hb2 mL hb1 c2B
  go_wp2
  obtain ⟨i0, hi0, hze, hzs, hzb⟩ := parts_of info_strC
  refine (wpIn_wide (n := 9)).1 (range_own (α := Nat × Nat) (gf := 183) (lb := #[.pointer (some ⟨w2.heap.size, 0, none⟩)]) (by simp [Act.eval]) (enters_of Tryz.func183 (by kernel_rfl) rfl) (encs := riV) (L := riL 0 cs) (fun _ => rfl)
    (fun W1 hb => rising_iter w2.heap.size b cs HD.out.2 HD.out.1.2.2.2.2 W1)
    (EdI W W.heap.size w1.heap.size w2.heap.size b n cs) (fun _ _ _ _ => False) EdI.abd (fun _ _ _ _ _ _ h _ _ => h) HI0.out (fun M m W1 h => rd_of HD.out h.2.2.1.2 h.2.2.2.1) ?round ?done ?stop)
  case stop => exact fun _ _ _ _ _ _ h => h.elim
  case round =>
    intro M' l' m x W1 hI hx hl hrec hM'
    obtain ⟨A, c, ts, B, hcs, hAl, rfl⟩ := riL_get hx
    have HI := keep hI
    have HM' := keep hM'
    clear hI hx hM' hrec HI0
    unfold riV
    gi_wp2
    refine ⟨Mk.refl _ _, fun rl => ?_⟩
    obtain ⟨W2, hW2⟩ : ∃ W2, W1.putObj l' (.loop rl) = W2 := ⟨_, rfl⟩
    rw [hW2]
    have hz2' : W2.heap.size = W1.heap.size := by rw [← hW2]; simp
    have hI2 := EdI.abd M' M' m W1 (W1.putObj l' (.loop rl)) HI.out (Sep.put _ _ hl) (Ext.refl _ _ _)
    rw [hW2] at hI2
    obtain ⟨⟨j1, j1'⟩, ⟨j2, j2'⟩, ⟨j4, j4'⟩, j5, j6⟩ := hI2
    have hdq := HD.out.below j5
    rw [hcs] at hdq
    have hck := (ch_app.1 hdq.1.2.1).2.1
    have cc := hck.cells.2.2.1
    have ccs := hck.cells.2.2.2.1
    have hle := hck.le
    have etk1 : row (cs.take (m + 1)) = row (cs.take m) ++ ts := by
      rw [hcs, ← hAl, List.take_length_add_append, List.take_left, row_app]
      simp [row]
    have htot : (row (cs.take m)).length + ts.length ≤ n := by
      rw [← HN.out, ← List.length_append, ← etk1]
      conv => rhs; rw [← List.take_append_drop (m + 1) cs, row_app, List.length_append]
      omega
    have h1t : 1 ≤ ts.length := HD.out.2 (c, ts) (by rw [hcs]; simp)
    obtain ⟨k0, hk0⟩ : ∃ k0, (row (cs.take m)).length = k0 := ⟨_, rfl⟩
    rw [hk0] at j1' j2' htot
    have cS : W2.cell? ⟨w1.heap.size, 0, none⟩ = some (.slice (some ⟨W.heap.size, 0, none⟩) k0 n) := by rw [cell_of_row _ _ _ _ _ _ j1']; rfl
    have hSl := own_lt j2' (k := W.heap.size) rfl
    have hBl2 : w1.heap.size < W2.heap.size := (Array.getElem?_eq_some_iff.1 j1').1
    have hB22 : w2.heap.size < W2.heap.size := (Array.getElem?_eq_some_iff.1 j4').1
    have hcl := HD.out.1.lt (k := c) (.inr ⟨(c, ts), by rw [hcs]; simp, rfl⟩)
    have j2d : W2.drew.ownsRow W.heap.size 9 1 (.slice (some ⟨W.heap.size, 0, none⟩) k0 n) k0 ((row (cs.take m)).map Value.string) := j2'
    obtain ⟨t, ht⟩ : ∃ t, ts.length = t := ⟨_, rfl⟩
    rw [ht] at cc hle htot h1t
    have add3 : ∀ i, (⟨c, 3, none⟩ : Addr).add i = ⟨c, 3 + i, none⟩ := by intro i; unfold Addr.add; split <;> simp_all
    obtain ⟨W3, hrun, hown, hgr⟩ := run_append_fits (P := Tryz.prog) W2.drew W.heap.size 22 22 9 i0 1 Tryz.underlying22 hi0 hzs W.heap.size k0 n ((row (cs.take m)).map Value.string) j2d ⟨c, 3, none⟩ t 32 (ts.map Value.string) (by simp [ht]) (fun j u hu => by
      rw [add3]
      rw [List.getElem?_map] at hu
      cases e : ts[j]? with
      | none => rw [e] at hu; cases hu
      | some y => rw [e] at hu; cases hu; exact ccs j y e) (fun u hu => by obtain ⟨y, _, rfl⟩ := List.mem_map.1 hu; rfl) htot
    have MA := keep hrun
    have hs3 : W2.heap.size ≤ W3.heap.size := hgr.size
    have same : ∀ k, k < W2.heap.size → k ≠ W.heap.size → W3.heap[k]? = W2.heap[k]? := fun k hk hn => hgr.block k hk (fun e => hn (Option.some.inj e))
    have h3S := (same w1.heap.size hBl2 (by omega)).trans j1'
    have c3S : W3.cell? ⟨w1.heap.size, 0, none⟩ = some (.slice (some ⟨W.heap.size, 0, none⟩) k0 n) := by rw [cell_of_row _ _ _ _ _ _ h3S]; rfl
    have f3S : W3.frozen? ⟨w1.heap.size, 0, none⟩ = false := by simp [World.frozen?, h3S]
    have sameS : ∀ k, k ≠ w1.heap.size → (W3.setCell ⟨w1.heap.size, 0, none⟩ (.slice (some ⟨W.heap.size, 0, none⟩) (k0 + t) n)).heap[k]? = W3.heap[k]? := fun k hk => Below.heap_setCell _ _ _ _ hk
    have hss : (W3.setCell ⟨w1.heap.size, 0, none⟩ (.slice (some ⟨W.heap.size, 0, none⟩) (k0 + t) n)).heap.size = W3.heap.size := by simp [World.setCell]
    have C3 : Kept (W3.cell? ⟨c, 2, none⟩ = some (.int .i64 (t : Nat))) := (World.cell?_of_block (same c (lt_cell cc) (by omega))).trans cc
    have C4 : Kept ((W3.setCell ⟨w1.heap.size, 0, none⟩ (.slice (some ⟨W.heap.size, 0, none⟩) (k0 + t) n)).cell? ⟨c, 2, none⟩ = some (.int .i64 (t : Nat))) := (World.cell?_of_block (sameS c (by omega))).trans C3.out
    have e1 : row (cs.take (m + 1)) = row (cs.take m) ++ ts := etk1
    have e2 : (row (cs.take (m + 1))).length = k0 + t := by rw [e1, List.length_append, hk0, ht]
    have fin : Kept (rdPost (EdI W W.heap.size w1.heap.size w2.heap.size b n cs) (fun _ _ _ _ => False) M' (m + 1) W2 .normal { tmps := #[], defers := [] } (W3.setCell ⟨w1.heap.size, 0, none⟩ (.slice (some ⟨W.heap.size, 0, none⟩) (k0 + t) n))) := by
      refine ⟨⟨by rw [hss]; exact hs3, fun k hk => ?_⟩, ⟨j1, by rw [e2]; exact cells_setCell h3S⟩, ⟨j2, ?_⟩, ⟨j4, ?_⟩, ?_, j6⟩
      · have hkb := HM'.out k hk
        rw [sameS k (fun e => j1 (e ▸ hk)), same k (by omega) (fun e => j2 (e ▸ hk))]
      · rw [e2, e1, List.map_append]
        exact own_kept hown (fun k hk => by cases hk; exact sameS W.heap.size (by omega))
      · rw [sameS _ (by omega), same _ hB22 (by omega)]; exact j4'
      · refine j5.trans ⟨hgr.os, hgr.tape, hgr.output, by rw [hss]; exact hs3, fun k hk => ?_⟩
        rw [sameS k (by omega), same k (by omega) (by omega)]
    have hsl : ∀ w, (Instr.sliceAt 186 (.pointer (some ⟨c, 3, none⟩)) none (some (.int .i64 (t : Int))) none).run Tryz.prog w = .ok (.slice (some ⟨c, 3, none⟩) t 32) w := fun w => sl_to w c t hle
    clear hrun hown hgr same h3S sameS j1 j1' j2 j2' j4 j4' j5 j6 hW2 hz2' j2d hs3 hss e1 e2 etk1 hdq hck ccs hk0 ht
    gi_wp2_with fail
    refine region_round2 (S := fun W => W.cell? ⟨c, 2, none⟩ = some (.int .i64 (t : Nat))) (by kernel_rfl) (by kernel_rfl) cc (fun hHeld => ?_)
    refine wpAnyH_take (i := 1) (oi := ⟨some 16, _, _, _, _, _⟩) (v := ?v29) rfl (by kernel_rfl) (by kernel_rfl) (by kernel_rfl) (fun _ _ _ h => h) (Or.inl ⟨by rfl, ?hy29⟩) (by assumption) ?rest29
    case hy29 => (intro w hSw; obtain p1 := hSw; go_simp; try with_reducible rfl)
    try simp only [Act.put, List.setIfInBounds_toArray, List.set_cons_zero, List.set_cons_succ]
    refine wpAnyH_take (i := 2) (oi := ⟨some 17, _, _, _, _, _⟩) (v := ?v30) rfl (by kernel_rfl) (by kernel_rfl) (by kernel_rfl) (fun _ _ _ h => h) (Or.inl ⟨by rfl, ?hy30⟩) (by assumption) ?rest30
    case hy30 => (intro w hSw; obtain p1 := hSw; go_simp; try with_reducible rfl)
    try simp only [Act.put, List.setIfInBounds_toArray, List.set_cons_zero, List.set_cons_succ]
    refine wpAnyH_take (i := 3) (oi := ⟨some 18, _, _, _, _, _⟩) (v := ?v31) rfl (by kernel_rfl) (by kernel_rfl) (by kernel_rfl) (fun _ _ _ h => h) (Or.inl ⟨by rfl, ?hy31⟩) (by assumption) ?rest31
    case hy31 => (intro w hSw; obtain p1 := hSw; go_simp; try with_reducible rfl)
    try simp only [Act.put, List.setIfInBounds_toArray, List.set_cons_zero, List.set_cons_succ]
    refine wpAnyH_take (i := 4) (oi := ⟨some 19, _, _, _, _, _⟩) (v := ?v32) rfl (by kernel_rfl) (by kernel_rfl) (by kernel_rfl) (fun _ _ _ h => h) (Or.inl ⟨by rfl, ?hy32⟩) (by assumption) ?rest32
    case hy32 => (intro w hSw; obtain p1 := hSw; go_simp; try with_reducible rfl)
    try simp only [Act.put, List.setIfInBounds_toArray, List.set_cons_zero, List.set_cons_succ]
    refine wpAnyH_take (i := 5) (oi := ⟨some 20, _, _, _, _, _⟩) (v := ?v33) rfl (by kernel_rfl) (by kernel_rfl) (by kernel_rfl) (fun _ _ _ h => h) (Or.inl ⟨by rfl, ?hy33⟩) (by assumption) ?rest33
    case hy33 => (intro w hSw; obtain p1 := hSw; go_simp; try with_reducible rfl)
    try simp only [Act.put, List.setIfInBounds_toArray, List.set_cons_zero, List.set_cons_succ]
    refine wpAnyH_take (i := 6) (oi := ⟨some 21, _, _, _, _, _⟩) (v := ?v34) rfl (by kernel_rfl) (by kernel_rfl) (by kernel_rfl) (fun _ _ _ h => h) (Or.inl ⟨by rfl, ?hy34⟩) (by assumption) ?rest34
    case hy34 => (intro w hSw; obtain p1 := hSw; go_simp; try with_reducible rfl)
    try simp only [Act.put, List.setIfInBounds_toArray, List.set_cons_zero, List.set_cons_succ]
    refine wpAnyH_take (i := 7) (oi := ⟨some 22, _, _, _, _, _⟩) (v := ?v35) rfl (by kernel_rfl) (by kernel_rfl) (by kernel_rfl) (fun _ _ _ h => h) (Or.inl ⟨by rfl, ?hy35⟩) (by assumption) ?rest35
    case hy35 => (intro w hSw; obtain p1 := hSw; go_simp; try with_reducible rfl)
    try simp only [Act.put, List.setIfInBounds_toArray, List.set_cons_zero, List.set_cons_succ]
    refine wpAnyH_take (i := 8) (oi := ⟨some 23, _, _, _, _, _⟩) (v := (.slice (some ⟨c, 3, none⟩) t 32)) rfl (by kernel_rfl) (by kernel_rfl) (by kernel_rfl) (fun _ _ _ h => h) (Or.inl ⟨by rfl, ?hy36⟩) (by assumption) ?rest36
    case hy36 => (intro w hSw; obtain p1 := hSw; first | (go_simp; done) | (go_simp; simp [*]; done) | (simp [*]; go_simp; done))
    try simp only [Act.put, List.setIfInBounds_toArray, List.set_cons_zero, List.set_cons_succ]
    refine wpAnyH_ready (rs := [0]) (by kernel_rfl) (by simp) ?_
    refine AllReadyH.cons (o := ⟨some 15, _, _, _, _, _⟩) rfl (fun K hK => ?_) AllReadyH.nil
    go_simp
    refine hK.out _ _ cc (fun hHeld => ?_)
    try simp only [Act.put, List.setIfInBounds_toArray, List.set_cons_zero, List.set_cons_succ]
    clear hK
    refine wpAnyH_ready (rs := [9]) (by kernel_rfl) (by simp) ?_
    refine AllReadyH.cons (o := ⟨some 24, _, _, _, _, _⟩) rfl (fun K hK => ?_) AllReadyH.nil
    rw [if_pos (by rfl)]
    refine wp_app_run (.tmp 15) (.tmp 23) 22 rfl _ _ _ rfl rfl MA.out ?_
    refine hK.out _ _ C3.out (fun hHeld => ?_)
    try simp only [Act.put, List.setIfInBounds_toArray, List.set_cons_zero, List.set_cons_succ]
    clear hK
    refine wpAnyH_ready (rs := [10]) (by kernel_rfl) (by simp) ?_
    refine AllReadyH.cons (o := ⟨none, _, _, _, _, _⟩) rfl (fun K hK => ?_) AllReadyH.nil
    go_simp
    refine hK.out _ _ C4.out (fun hHeld => ?_)
    try simp only [Act.put, List.setIfInBounds_toArray, List.set_cons_zero, List.set_cons_succ]
    clear hK
    refine wpAnyH_done (by kernel_rfl) ?_ _
    simp only [noOut]
    clear hHeld
    gi_wp2
    exact fin.out
  case done =>
    intro M' D W5 hI hD hDk hM'
    rw [riL_len] at hI
    obtain ⟨⟨j1, j1'⟩, ⟨j2, j2'⟩, ⟨j4, j4'⟩, j5, j6⟩ := hI
    rw [List.take_length] at j1' j2'
    obtain ⟨es, hes⟩ : ∃ es, row cs = es := ⟨_, rfl⟩
    have hen : es.length = n := by rw [← hes]; exact HN.out
    rw [hes, hen] at j1' j2'
    rw [hes] at HY
    have HES := keep hes
    have HEN := keep hen
    have cH : W5.cell? ⟨w1.heap.size, 0, none⟩ = some (.slice (some ⟨W.heap.size, 0, none⟩) n n) := by rw [cell_of_row _ _ _ _ _ _ j1']; rfl
    have HS : Kept (EdS J W (.slice (some ⟨W.heap.size, 0, none⟩) n n) D es 0 W5) :=
      ⟨fun k => W.heap.size ≤ k ∧ k < W5.heap.size, hJ _ _ _ _ _ H0.out (Sep.of_below j5) (fun k hk => .inr hk), fun k hk => ⟨(j2'.lt k hk).1, (j2'.lt k hk).2⟩, by rw [hen]; exact j2', ⟨⟨j6 D hD, (Array.getElem?_eq_some_iff.1 hDk).1⟩, hDk⟩, fun k hk => hk, j5.size⟩
    clear j1 j1' j2 j2' j4 j4' j5 j6 hes hen hDk hM' HI0 H0
    go_wp2
    refine (wpIn_wide (n := 9)).1 ?_
    gi_loopw [27] (fun i wr => ∃ m : Nat, m ≤ n ∧ i = .int .i64 m ∧ Kept (EdS J W (.slice (some ⟨W.heap.size, 0, none⟩) n n) D es m wr)) (fun i _ => n - (intOf i).toNat)
    case atStart => exact ⟨0, Nat.zero_le _, rfl, HS⟩
    case round =>
      obtain ⟨m, hm, rfl, KS⟩ := hrel
      obtain ⟨M, q1, q2, q3, ⟨q4, q4'⟩, q5, q6⟩ := KS.out
      by_cases hlt : m < n
      · have hltz : (m : Int) < (n : Int) := by omega
        have hz0 : (0 : Int) ≤ (m : Int) := by omega
        obtain ⟨t, het⟩ : ∃ t, es[m]? = some t := ⟨_, List.getElem?_eq_getElem (by rw [HEN.out]; exact hlt)⟩
        have he : (riT 0 es)[m]? = some (m, t) := by rw [riT_at, het]; simp
        have add : ∀ i, (⟨W.heap.size, 0, none⟩ : Addr).add i = ⟨W.heap.size, i, none⟩ := by intro i; unfold Addr.add; split <;> simp_all
        have c0 := q3.cells (g := W.heap.size) rfl m (.string t) (by rw [List.getElem?_map, het]; rfl)
        rw [add] at c0
        obtain ⟨fn, tmps, assign, body, hy, hR⟩ := (HY.out M m (m, t) wr q1 he q5).at 8
        unfold rtV at hy
        dsimp only at hy
        have HR := keep hR
        have fin : Kept (∀ W7, Mk M wr W7 → ∀ J', Abd J' → J' M (m + 1) W7 → EdS J' W (.slice (some ⟨W.heap.size, 0, none⟩) n n) D es (m + 1) W7) := fun W7 hk J' hJ' h7 =>
          ⟨M, h7, q2, own_kept q3 (fun k hk' => hk.2 k (q2 k hk')), ⟨q4, (hk.2 _ q4).trans q4'⟩, fun k h => by have := q5 k h; have := hk.1; omega, Nat.le_trans q6 hk.1⟩
        clear q1 q2 q3 q4 q4' q5 q6 he het hR KS add
        gi_wp2
        refine RoundIn.mono HR.out ?_
        rintro e W7 ⟨hk7, (⟨rfl, hJ7⟩ | ⟨rfl, hJx7⟩)⟩
        · have F7 := keep (fin.out W7 hk7 J hJ hJ7)
          clear hk7 hJ7 fin HR
          gi_wp2
          go_roundw
          case rel => exact ⟨m + 1, by omega, by go_num, F7⟩
          case measure => simp [intOf]; omega
        · have F7 := keep (fin.out W7 hk7 Jx hJx hJx7)
          clear hk7 hJx7 fin HR
          gi_wp2
          obtain ⟨M7, p1, p2, p3, ⟨p4, p4'⟩, p5, p6⟩ := F7.out
          refine leave_mark p4' ?_
          refine ⟨_, results_none rfl _ _ _, ⟨_, rfl⟩, M7, fun k hk => ?_, .inr ⟨m, by rw [riT_len, HES.out, HEN.out]; exact hlt, hJx _ _ _ _ _ p1 (Sep.put _ _ p4) (Ext.refl _ _ _)⟩⟩
          have := p5 k hk
          simp; omega
      · have hltz : ¬ (m : Int) < (n : Int) := by omega
        obtain rfl : m = n := by omega
        clear KS
        gi_wp2
        refine leave_mark q4' ?_
        refine ⟨_, results_none rfl _ _ _, ⟨_, rfl⟩, M, fun k hk => ?_, .inl (by rw [riT_len, HES.out, HEN.out]; exact hJ _ _ _ _ _ q1 (Sep.put _ _ q4) (Ext.refl _ _ _))⟩
        have := q5 k hk
        simp; omega
end Go.Proofs.YtmgeaanbgjbkcaaGreat.DQ

namespace Go.Proofs.YtmgeaanbgjbkcaaGreat.DQ
open Go.RowKit Go.Shelf
attribute [local go_sem] Oper.semAt_some
set_option linter.unusedVariables false
set_option linter.unusedSimpArgs false
def zC : Array Value := #[.int .i64 0, .string { data := #[] }, .slice none 0 0, .slice none 0 0, .slice none 0 0]
def TlI (W : World) (P H : Nat) (es : List ByteArray) (M : Nat → Prop) (m : Nat) (w : World) : Prop :=
  (∃ v, (¬ M H ∧ w.heap[H]? = some (.cells #[v] 22 (0, 0))) ∧ w.ownsRow W.heap.size 9 1 v m ((es.take m).map Value.string) ∧ ∀ k, v.ownBlock = some k → ¬ M k ∧ k ≠ P ∧ k ≠ H) ∧
    (¬ M P ∧ w.heap[P]? = some (.cells zC 30 (0, 0))) ∧ Below W.heap.size W w ∧ ∀ k, M k → W.heap.size ≤ k
theorem TlI.abd {W : World} {P H : Nat} {es : List ByteArray} : Abd (TlI W P H es) := by
  rintro M M' m A C ⟨⟨v, ⟨h1, h1'⟩, h2, h3⟩, ⟨h4, h4'⟩, h6, h7⟩ hs hx
  exact ⟨⟨v, keepB hs hx _ _ h1 h1', own_kept h2 (fun k hk => hs.2.2 k (own_lt h2 hk) (h3 k hk).1), fun k hk => ⟨hx.lt (own_lt h2 hk) (h3 k hk).1, (h3 k hk).2⟩⟩, keepB hs hx _ _ h4 h4', h6.trans (hs.below h6.size h7), hx.ge h6.size h7⟩
theorem each_some (Bd : Nat) (w : World) : (binOp .eql 362 (.func (.func 316) #[] #[.pointer (some ⟨Bd, 0, none⟩)]) .nilFunc).run Tryz.prog w = .ok (.bool false) w := by
  have e : (Op.equal 362 (.func (.func 316) #[] #[.pointer (some ⟨Bd, 0, none⟩)]) .nilFunc).run Tryz.prog w = .ok false w := by
    unfold Op.equal
    have e1 : Op.maxDepth = 9999 + 1 := rfl
    rw [e1]
    unfold Op.equalIn
    simp [run_underlying Tryz.underlying362]
  simp [binOp, go_sem, e]
theorem plain5 {w : World} {b : Nat} {v0 v1 v2 v3 v4 : Value} {t : TypeId} (h : w.heap[b]? = some (.cells #[v0, v1, v2, v3, v4] t (0, 0))) :
    w.cell? ⟨b, 0, none⟩ = some v0 ∧ w.cell? ⟨b, 1, none⟩ = some v1 ∧ w.cell? ⟨b, 2, none⟩ = some v2 ∧ w.cell? ⟨b, 3, none⟩ = some v3 ∧ w.cell? ⟨b, 4, none⟩ = some v4 ∧ ∀ i, w.frozen? ⟨b, i, none⟩ = false := by
  refine ⟨?_, ?_, ?_, ?_, ?_, fun i => ?_⟩ <;> simp [World.cell?, World.frozen?, h]
theorem plain_over {W2 : World} {B : Nat} {v0 v1 v2 v3 v4 : Value} (g2 : W2.heap[B]? = some (.cells zC 30 (0, 0))) :
    (((((W2.setCell ⟨B, 0, none⟩ v0).setCell ⟨B, 1, none⟩ v1).setCell ⟨B, 2, none⟩ v2).setCell ⟨B, 3, none⟩ v3).setCell ⟨B, 4, none⟩ v4).heap[B]? = some (.cells #[v0, v1, v2, v3, v4] 30 (0, 0)) := by
  simp [World.setCell, Array.getElem?_modify, g2, zC]
theorem plain_rest (W2 : World) (B : Nat) (v0 v1 v2 v3 v4 : Value) (k : Nat) (hk : k ≠ B) :
    (((((W2.setCell ⟨B, 0, none⟩ v0).setCell ⟨B, 1, none⟩ v1).setCell ⟨B, 2, none⟩ v2).setCell ⟨B, 3, none⟩ v3).setCell ⟨B, 4, none⟩ v4).heap[k]? = W2.heap[k]? := by
  rw [Below.heap_setCell _ _ _ _ hk, Below.heap_setCell _ _ _ _ hk, Below.heap_setCell _ _ _ _ hk, Below.heap_setCell _ _ _ _ hk, Below.heap_setCell _ _ _ _ hk]
theorem plain_below {w W2 : World} {B n : Nat} (h : Below n w W2) (hB : n ≤ B) (v0 v1 v2 v3 v4 : Value) :
    Below n w (((((W2.setCell ⟨B, 0, none⟩ v0).setCell ⟨B, 1, none⟩ v1).setCell ⟨B, 2, none⟩ v2).setCell ⟨B, 3, none⟩ v3).setCell ⟨B, 4, none⟩ v4) :=
  ((((h.setCell hB _).setCell hB _).setCell hB _).setCell hB _).setCell hB _
set_option maxRecDepth 100000 in
theorem tell_any (w : World) (b : Nat) (cs : List Chk) (hd : Dq w b cs) :
    Calls Tryz.prog 313 #[.agg #[ptr b]] w fun e w' => (∃ v, e = .returned (.agg #[.int .i64 2, .string { data := #[] }, v, .slice none 0 0, .slice none 0 0]) ∧ w'.ownsRow w.heap.size 9 1 v (row cs).length ((row cs).map Value.string)) ∧ Below w.heap.size w w' := by
  obtain ⟨es, hes⟩ : ∃ es, row cs = es := ⟨_, rfl⟩
  obtain ⟨n, hn⟩ : ∃ n, es.length = n := ⟨_, rfl⟩
  have hN : n ≤ 1048576 := by rw [← hn, ← hes]; exact hd.1.2.2.2.2
  obtain ⟨w1, hw1⟩ : ∃ w1, w.alloc (.cells #[ptr b] 124) = w1 := ⟨_, rfl⟩
  obtain ⟨w2, hw2⟩ : ∃ w2, w1.alloc (.cells zC 30) = w2 := ⟨_, rfl⟩
  have hz1 : w1.heap.size = w.heap.size + 1 := by rw [← hw1]; simp
  have hz2 : w2.heap.size = w.heap.size + 2 := by rw [← hw2]; simp [hz1]
  have hb1 : Below w.heap.size w w1 := by rw [← hw1]; exact (Below.refl _ w).alloc (Nat.le_refl _) _
  have hb2 : Below w.heap.size w w2 := hb1.trans (by rw [← hw2]; exact (Below.refl _ w1).alloc hb1.size _)
  have h2B : w2.heap[w.heap.size]? = some (.cells #[ptr b] 124 (0, 0)) := by
    rw [← hw2, Below.heap_alloc _ _ _ (by omega), ← hw1]; exact heap_alloc_new _ _
  have h2P : w2.heap[w.heap.size + 1]? = some (.cells zC 30 (0, 0)) := by rw [← hw2, ← hz1]; exact heap_alloc_new _ _
  obtain ⟨w3, mk, hS3, hg3, hlt3⟩ := make_texts w2 n hN
  have hb23 : Below w2.heap.size w2 w3 := (Below.refl _ w2).grown hg3 (Nat.le_refl _) (fun k h => by cases h)
  obtain ⟨w4, hw4⟩ : ∃ w4, w3.alloc (.cells #[.slice (some ⟨w2.heap.size, 0, none⟩) 0 n] 22) = w4 := ⟨_, rfl⟩
  have hz4 : w4.heap.size = w3.heap.size + 1 := by rw [← hw4]; simp
  have hb34 : Below w3.heap.size w3 w4 := by rw [← hw4]; exact (Below.refl _ w3).alloc (Nat.le_refl _) _
  have hb24 : Below w2.heap.size w2 w4 := hb23.trans (hb34.mono hb23.size)
  have h4H : w4.heap[w3.heap.size]? = some (.cells #[.slice (some ⟨w2.heap.size, 0, none⟩) 0 n] 22 (0, 0)) := by rw [← hw4]; exact heap_alloc_new _ _
  have c2B : w2.cell? ⟨w.heap.size, 0, none⟩ = some (ptr b) := by rw [cell_of_row _ _ _ _ _ _ h2B]; rfl
  have c4B : w4.cell? ⟨w.heap.size, 0, none⟩ = some (ptr b) := (hb24.cell (p := ⟨w.heap.size, 0, none⟩) (World.block_lt_of_cell? _ _ c2B)).trans c2B
  have mL := len_any w2 b _ _ n _ (by have := (hd.below hb2).1.1; rw [hes, hn] at this; exact this)
  have HD := keep hd
  have HES := keep hes
  have HN := keep hn
  have HW2 : Kept ((w.alloc (.cells #[ptr b] 124)).alloc (.cells zC 30) = w2) := by rw [hw1]; exact hw2
  have HW4 := keep hw4
  have hs2 : Kept (w2.heap.size ≤ w3.heap.size) := hb23.size
  have c3B : w3.cell? ⟨w.heap.size, 0, none⟩ = some (ptr b) := (hb23.cell (p := ⟨w.heap.size, 0, none⟩) (World.block_lt_of_cell? _ _ c2B)).trans c2B
  have hBlt : w.heap.size < w3.heap.size := World.block_lt_of_cell? _ _ c3B
  have HZ2 := keep hz2
  have HZ4 := keep hz4
  have C4B := keep c4B
  have HS3 := keep hS3
  have HLT3 := keep hlt3
  have HB2 := keep hb2
  have HB23 := keep hb23
  have HB34 := keep hb34
  have HB24 := keep hb24
  have H4H := keep h4H
  have H2P := keep h2P
  rw [hes]
  clear hd hes hn hw1 hw2 hb1 hw4 hz1 hz2 hz4 c4B hS3 hlt3 hb2 hb23 hb34 hb24 h4H h2P h2B hg3
  unfold zC at HW2
  refine callsIn_wide (n := 9) |>.1 (callsIn_of_wp_marks Tryz.func313 rfl trivial (wpIn_wide.2 ?_) rfl)
  simp only [Tryz.ntmps313, List.size_toArray, List.length_cons, List.length_nil, Nat.reduceAdd, Nat.reduceSub, Array.replicate_succ, Array.replicate_zero, List.push_toArray, List.append_toArray, List.nil_append, List.cons_append]
  go_wp2_with fail
  rw [HW2.out]
  refine mL.mono ?_
  rintro _ w' ⟨rfl, hw'⟩
  obtain rfl := hw'.symm
  clear mL
  go_wp2_with fail
  rw [HW4.out]
  refine (each_any _ _ (.inr ⟨b, rfl⟩)).mono ?_
  rintro _ w5 ⟨rfl, hw5⟩
  have hz5 : w5.heap.size = w4.heap.size + 1 := by rw [hw5]; simp
  have hb45 : Below w4.heap.size w4 w5 := by rw [hw5]; exact (Below.refl _ w4).alloc (Nat.le_refl _) _
  have h5B : w5.heap[w4.heap.size]? = some (.cells #[ptr b] 78 (0, 0)) := by rw [hw5]; exact heap_alloc_new _ _
  have c5B : w5.cell? ⟨w4.heap.size, 0, none⟩ = some (ptr b) := by rw [cell_of_row _ _ _ _ _ _ h5B]; rfl
  have hb5 : Below w.heap.size w w5 := HB2.out.trans ((HB24.out.trans (hb45.mono HB24.out.size)).mono HB2.out.size)
  have e1 := HZ2.out
  have e2 := hs2.out
  have e3 := HZ4.out
  have e4 := HLT3.out
  have HI0 : Kept (TlI w (w.heap.size + 1) w3.heap.size es (fun _ => False) 0 w5) := by
    refine ⟨⟨.slice (some ⟨w2.heap.size, 0, none⟩) 0 n, ⟨id, (hb45.block _ (by omega)).trans H4H.out⟩, ?_, fun k hk => by cases hk; exact ⟨id, by dsimp only; omega, by dsimp only; omega⟩⟩, ⟨id, (hb45.block _ (by omega)).trans ((HB24.out.block _ (by omega)).trans H2P.out)⟩, hb5, fun _ h => h.elim⟩
    have q := own_kept (w' := w5) HS3.out (fun k hk => by cases hk; exact (hb45.block _ (by dsimp only; omega)).trans (HB34.out.block _ (by dsimp only; omega)))
    refine ⟨q.1, ?_⟩
    rcases q.2 with h | ⟨g, cap, cur, e, hg, rest⟩
    · exact .inl h
    · exact .inr ⟨g, cap, cur, e, by omega, rest⟩
  have C5B := keep c5B
  have HB5 := keep hb5
  have HZ5 := keep hz5
  have hnf := each_some w4.heap.size
  clear hw5 hb45 h5B c5B hb5 hz5 e1 e2 e3 e4 c2B c3B hBlt
  go_wp2
  clear hnf
  obtain ⟨i0, hi0, hz0, hz1, hzb⟩ := parts_of info_strC
  refine (wpIn_wide (n := 9)).1 (range_own (α := Nat × ByteArray) (gf := 316) (lb := #[.pointer (some ⟨w4.heap.size, 0, none⟩)]) (by simp [Act.eval]) (enters_of Tryz.func316 (by kernel_rfl) rfl) (encs := rtV) (L := riT 0 es) (fun _ => rfl)
    (fun W1 hb => by
      have := each_iter w4.heap.size b cs W1 (HD.out.below (HB5.out.trans (hb.mono HB5.out.size))) ((hb.cell (p := ⟨w4.heap.size, 0, none⟩) (World.block_lt_of_cell? _ _ C5B.out)).trans C5B.out)
      rwa [HES.out] at this)
    (TlI w (w.heap.size + 1) w3.heap.size es) (fun _ _ _ _ => False) TlI.abd (fun _ _ _ _ _ _ h _ _ => h) HI0.out (fun _ _ _ _ => trivial) ?round ?done ?stop)
  case stop => exact fun _ _ _ _ _ _ h => h.elim
  case done =>
    intro M' D W5 hI hD hDk hM'
    rw [riT_len] at hI
    obtain ⟨⟨v, ⟨j1, j1'⟩, j2, j3⟩, ⟨j4, j4'⟩, j6, j7⟩ := hI
    rw [List.take_length] at j2
    obtain ⟨ao, cp, rfl, _⟩ := own_form j2
    have c4 : W5.cell? ⟨w3.heap.size, 0, none⟩ = some (.slice ao es.length cp) := by rw [cell_of_row _ _ _ _ _ _ j1']; rfl
    unfold zC at j4'
    obtain ⟨z0, z1, z2, z3, z4, zf⟩ := plain5 j4'
    have f0 := zf 0
    have f1 := zf 1
    have f2 := zf 2
    have f3 := zf 3
    have f4 := zf 4
    have hDW := j7 D hD
    have n2 : D ≠ w.heap.size + 1 := fun e => j4 (e ▸ hD)
    obtain ⟨L, hL⟩ : ∃ L, es.length = L := ⟨_, rfl⟩
    have HL := keep hL
    rw [hL] at c4 j2 j3
    have J2 := keep j2
    have J3 := keep j3
    have J4 := keep j4'
    have J6 := keep j6
    have HDK := keep hDk
    clear j1 j1' j2 j3 j4 j4' j6 j7 hDk hM' HI0 C5B zf
    go_wp2
    have HX := plain_over (v0 := .int .i64 2) (v1 := .string { data := #[] }) (v2 := .slice ao L cp) (v3 := .slice none 0 0) (v4 := .slice none 0 0) J4.out
    have HY := plain_rest W5 (w.heap.size + 1) (.int .i64 2) (.string { data := #[] }) (.slice ao L cp) (.slice none 0 0) (.slice none 0 0)
    have HZ := plain_below (B := w.heap.size + 1) J6.out (by omega) (.int .i64 2) (.string { data := #[] }) (.slice ao L cp) (.slice none 0 0) (.slice none 0 0)
    generalize ((((W5.setCell ⟨w.heap.size + 1, 0, none⟩ (.int .i64 2)).setCell ⟨w.heap.size + 1, 1, none⟩ (.string { data := #[] })).setCell ⟨w.heap.size + 1, 2, none⟩ (.slice ao L cp)).setCell ⟨w.heap.size + 1, 3, none⟩ (.slice none 0 0)).setCell ⟨w.heap.size + 1, 4, none⟩ (.slice none 0 0) = W6 at HX HY HZ ⊢
    refine leave_mark ((HY D n2).trans HDK.out) ?_
    have hx6 : (W6.putObj D (.deferred none)).heap[w.heap.size + 1]? = some (.cells #[.int .i64 2, .string { data := #[] }, .slice ao L cp, .slice none 0 0, .slice none 0 0] 30 (0, 0)) := (World.putObj_heap_other (Ne.symm n2)).trans HX
    obtain ⟨k0, k1, k2, k3, k4, _⟩ := plain5 hx6
    refine ⟨.agg #[.int .i64 2, .string { data := #[] }, .slice ao L cp, .slice none 0 0, .slice none 0 0], by simp [results, Tryz.results313, go_sem, k0, k1, k2, k3, k4], ⟨_, rfl, ?_⟩, HZ.grown (grownBy_putObj' _ D _) HZ.size (fun k e => by cases e; exact hDW)⟩
    rw [HL.out]
    exact own_kept J2.out (fun k hk => (World.putObj_heap_other (fun (e : k = D) => (J3.out k hk).1 (e ▸ hD))).trans (HY k (J3.out k hk).2.1))
  case round =>
    intro M' l' m x W1 hI hx hl hrec hM'
    obtain ⟨t, het, rfl⟩ : ∃ t, es[m]? = some t ∧ x = (m, t) := by
      rw [riT_at] at hx
      cases e : es[m]? with
      | none => rw [e] at hx; cases hx
      | some y => rw [e] at hx; simp at hx; exact ⟨y, rfl, hx.symm⟩
    have hml : m < n := by rw [← HN.out]; exact (List.getElem?_eq_some_iff.1 het).1
    have HI := keep hI
    have HM' := keep hM'
    have HX := keep het
    have e1 := HZ2.out
    have e2 := hs2.out
    have hPH : w.heap.size + 1 ≠ w3.heap.size := by omega
    have hPlt : w.heap.size + 1 < w3.heap.size := by omega
    clear hI hx hM' hrec HI0 het e1 e2
    unfold rtV
    gi_wp2
    refine ⟨Mk.refl _ _, fun rl => ?_⟩
    obtain ⟨W2, hW2⟩ : ∃ W2, W1.putObj l' (.loop rl) = W2 := ⟨_, rfl⟩
    rw [hW2]
    have hz2' : W2.heap.size = W1.heap.size := by rw [← hW2]; simp
    have hI2 := TlI.abd M' M' m W1 (W1.putObj l' (.loop rl)) HI.out (Sep.put _ _ hl) (Ext.refl _ _ _)
    rw [hW2] at hI2
    obtain ⟨⟨v, ⟨j1, j1'⟩, j2, j3⟩, ⟨j4, j4'⟩, j6, j7⟩ := hI2
    obtain ⟨ao, cp, rfl, _⟩ := own_form j2
    have hH2 : w3.heap.size < W2.heap.size := (Array.getElem?_eq_some_iff.1 j1').1
    have cH : W2.cell? ⟨w3.heap.size, 0, none⟩ = some (.slice ao m cp) := by rw [cell_of_row _ _ _ _ _ _ j1']; rfl
    have etk : (es.take (m + 1)).map Value.string = (es.take m).map Value.string ++ [.string t] := by
      obtain ⟨hm', e'⟩ := List.getElem?_eq_some_iff.1 HX.out
      rw [List.take_succ_eq_append_getElem hm', List.map_append, e']
      rfl
    have hwz := j6.size
    obtain ⟨g, cap, W3, hrun, hown, hgr, hat, hg3⟩ := run_append_lies (P := Tryz.prog) (w := W2.alloc (.cells #[.string t] 9)) 22 22 w.heap.size 9 i0 _ 1 16 Tryz.underlying22 hi0 hz0 hz1 hzb rfl (by omega) (.slice ao m cp) m ((es.take m).map Value.string) (j2.alloc _) ⟨W2.heap.size, 0, none⟩ 1 1 [.string t] rfl (World.news_of_block (cs := #[.string t]) (t := 9) (fr := (0, 0)) (heap_alloc_new W2 _)) (by simp [Value.oneCell']) (by omega) (by unfold maxLen; omega) (by omega) (by simp; omega) (W2.heap.size + 1) (by simp)
    have MA := keep hrun
    have hs3 : W2.heap.size + 1 ≤ W3.heap.size := by have := hgr.size; simpa using this
    have same : ∀ k, k < W2.heap.size → (Value.slice ao m cp).ownBlock ≠ some k → W3.heap[k]? = W2.heap[k]? := fun k hk hn => by
      rw [hgr.block k (by simp; omega) (fun e => hn e.symm), Below.heap_alloc _ _ _ hk]
    have h3H : W3.heap[w3.heap.size]? = some (.cells #[.slice ao m cp] 22 (0, 0)) := (same _ hH2 (fun e => (j3 _ e).2.2 rfl)).trans j1'
    have c3H : W3.cell? ⟨w3.heap.size, 0, none⟩ = some (.slice ao m cp) := by rw [cell_of_row _ _ _ _ _ _ h3H]; rfl
    have f3H : W3.frozen? ⟨w3.heap.size, 0, none⟩ = false := by simp [World.frozen?, h3H]
    have fin : Kept (rdPost (TlI w (w.heap.size + 1) w3.heap.size es) (fun _ _ _ _ => False) M' (m + 1) W2 .normal { tmps := #[], defers := [] } (W3.setCell ⟨w3.heap.size, 0, none⟩ (.slice (some ⟨g, 0, none⟩) (m + 1) cap))) := by
      have hgn : g ≠ w.heap.size + 1 ∧ g ≠ w3.heap.size := by
        rcases hat with h | h
        · exact (j3 _ h).2
        · omega
      have hgM : ¬ M' g := fun e => by
        rcases hat with h | h
        · exact (j3 _ h).1 e
        · have := HM'.out g e; omega
      have sameS : ∀ k, k ≠ w3.heap.size → (W3.setCell ⟨w3.heap.size, 0, none⟩ (.slice (some ⟨g, 0, none⟩) (m + 1) cap)).heap[k]? = W3.heap[k]? := fun k hk => Below.heap_setCell _ _ _ _ hk
      have hss : (W3.setCell ⟨w3.heap.size, 0, none⟩ (.slice (some ⟨g, 0, none⟩) (m + 1) cap)).heap.size = W3.heap.size := by simp [World.setCell]
      refine ⟨⟨by rw [hss]; omega, fun k hk => ?_⟩, ⟨_, ⟨j1, cells_setCell h3H⟩, ?_, fun k hk => ?_⟩, ⟨j4, ?_⟩, ?_, j7⟩
      · have hkb := HM'.out k hk
        rw [sameS k (fun e => j1 (e ▸ hk)), same k (by omega) (fun e => (j3 k e).1 hk)]
      · rw [etk]
        exact own_kept hown (fun k hk => by cases hk; exact sameS g hgn.2)
      · cases hk
        exact ⟨hgM, hgn⟩
      · rw [sameS _ hPH, same _ (by omega) (fun e => (j3 _ e).2.1 rfl)]; exact j4'
      · refine j6.trans ⟨hgr.os, hgr.tape, hgr.output, by rw [hss]; omega, fun k hk => ?_⟩
        rw [sameS k (by omega), same k (by omega) (fun e => ?_)]
        have := (j2.lt k e).1
        omega
    clear hrun hown hgr hat same h3H j1 j1' j2 j3 j4 j4' j6 j7 hW2 hz2' etk hPH hPlt hwz
    gi_wp2_with (first | (show wpListIn _ _ _ _ _ ({ dst := some 18, op := Op.call { callee := Callee.builtin Builtin.append, args := _, argTypes := _ }, type := _, pos := _, after := _, guard := _ } :: _) _ _; refine wpListIn_app_run rfl (.tmp 15) (.tmp 17) 22 rfl _ _ _ rfl rfl MA.out ?_))
    exact fin.out
end Go.Proofs.YtmgeaanbgjbkcaaGreat.DQ
