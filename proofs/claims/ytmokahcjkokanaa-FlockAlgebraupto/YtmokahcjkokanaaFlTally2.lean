/-
  Contracts over this program: in how many flocks a text is (tally), some of them none.
-/
import Derived.Test.YtmokahcjkokanaaDictTale
import Derived.ChangeSlices
import Derived.SizedLaws
import Derived.ProofKit
import Derived.OpenShut
import Derived.Deep.Strs
import Derived.Deep.Slices
import Derived.Carry
import Derived.ShutString
import Derived.Test.YtmokahcjkokanaaFlWakes
import Derived.Test.YtmokahcjkokanaaScanCov
import Derived.Maps.AppendAt
import Derived.Test.YtmokahcjkokanaaFlMembers
import Derived.Test.YtmokahcjkokanaaFlAdd
import Derived.Test.YtmokahcjkokanaaScanNext
import Derived.Test.YtmokahcjkokanaaFlTally
/-
  How a script of steps, and a row of texts, that came in are read.
-/
namespace Go.Proofs.Ytmokahcjkokanaa
open Go.ChangeShapes Go.WideShapes Go.ChangeAt Go.RowKit
set_option maxRecDepth 100000
structure Stp where
  who : Int
  op : Int
  f : ByteArray
  big : Int
  n : Nat
  cnt : Int
def Stp.cells (o : Stp) : Array Value := #[.int .i64 o.who, .int .i64 o.op, .string o.f, .int .i64 o.big, .int .u64 o.n, .int .i64 o.cnt]
/-- one step lies at an address -/
def StpAt (w : World) (a : Addr) (o : Stp) : Prop :=
  w.cell? a = some (.int .i64 o.who) ∧ w.cell? ⟨a.block, a.off + 1, none⟩ = some (.int .i64 o.op) ∧ w.cell? ⟨a.block, a.off + 2, none⟩ = some (.string o.f) ∧ w.cell? ⟨a.block, a.off + 3, none⟩ = some (.int .i64 o.big) ∧ w.cell? ⟨a.block, a.off + 4, none⟩ = some (.int .u64 o.n) ∧ w.cell? ⟨a.block, a.off + 5, none⟩ = some (.int .i64 o.cnt)
/-- the steps of a script that came in -/
def Steps (w : World) (so : Option Addr) (S : List Stp) : Prop :=
  ∀ j (h : j < S.length), ∃ a, so = some a ∧ a.block < w.heap.size ∧ S[j].f.size ≤ maxLen ∧ (S[j].n < Dw.M ∧ (Lit.int .i64 S[j].cnt).wf = true) ∧ StpAt w (a.add (j * 6)) S[j]
theorem lt_cell {w : World} {a : Addr} {v : Value} (h : w.cell? a = some v) : a.block < w.heap.size := by
  rcases Nat.lt_or_ge a.block w.heap.size with h' | h'
  · exact h'
  · simp [World.cell?, Array.getElem?_eq_none h'] at h
theorem add_block (a : Addr) (j : Nat) : (a.add j).block = a.block := by unfold Addr.add; split <;> rfl
theorem StpAt.bel {w w' : World} {B : Nat} {a : Addr} {o : Stp} (h : StpAt w a o) (hb : Below B w w') (ha : a.block < B) : StpAt w' a o :=
  ⟨(hb.cell ha).trans h.1, (hb.cell (p := ⟨a.block, a.off + 1, none⟩) ha).trans h.2.1, (hb.cell (p := ⟨a.block, a.off + 2, none⟩) ha).trans h.2.2.1, (hb.cell (p := ⟨a.block, a.off + 3, none⟩) ha).trans h.2.2.2.1, (hb.cell (p := ⟨a.block, a.off + 4, none⟩) ha).trans h.2.2.2.2.1, (hb.cell (p := ⟨a.block, a.off + 5, none⟩) ha).trans h.2.2.2.2.2⟩
theorem cells_step : Try.prog.cellsOf 29 = 6 := by kernel_rfl
theorem bytes_step : Try.prog.bytesOf 29 = 56 := by kernel_rfl
theorem cells_i64 : Try.prog.cellsOf 3 = 1 := by kernel_rfl
theorem cells_u64 : Try.prog.cellsOf 22 = 1 := by kernel_rfl
theorem cells_str : Try.prog.cellsOf 9 = 1 := by kernel_rfl
section
variable {H : Type} {enc : TypeId × Value → H} {W : World}
theorem open_step {fuel : Nat} {cs : List Value} {x : DataW H × List MemPlace} (h : DataW.trod enc Try.prog W 0 (fun _ => true) true fuel 29 cs = some x) :
    ∃ g : Stp, cs = g.cells.toList ∧ g.f.size ≤ maxLen ∧ (g.n < Dw.M ∧ (Lit.int .i64 g.cnt).wf = true) := by
  obtain ⟨xs, n, _, hx, hlen, hlx, hf⟩ := DataW.trod_struct Try.underlying29 h
  rw [cells_step] at hlen
  match cs, hlen with
  | [c0, c1, c2, c3, c4, c5], _ =>
    match xs, hlx with
    | [y0, y1, y2, y3, y4, y5], _ =>
      have h0 : DataW.trod enc Try.prog W 0 (fun _ => true) true n 3 [c0] = some y0 := by simpa [cells_i64] using hf 0 _ rfl
      have h1 : DataW.trod enc Try.prog W 0 (fun _ => true) true n 3 [c1] = some y1 := by simpa [cells_i64] using hf 1 _ rfl
      have h2 : DataW.trod enc Try.prog W 0 (fun _ => true) true n 9 [c2] = some y2 := by simpa [cells_str] using hf 2 _ rfl
      have h3 : DataW.trod enc Try.prog W 0 (fun _ => true) true n 3 [c3] = some y3 := by simpa [cells_i64] using hf 3 _ rfl
      have h4 : DataW.trod enc Try.prog W 0 (fun _ => true) true n 22 [c4] = some y4 := by simpa [cells_u64] using hf 4 _ rfl
      have h5 : DataW.trod enc Try.prog W 0 (fun _ => true) true n 3 [c5] = some y5 := by simpa [cells_i64] using hf 5 _ rfl
      obtain ⟨k0, e0, _, _⟩ := DataW.trod_int Try.underlying3 h0
      obtain ⟨k1, e1, _, _⟩ := DataW.trod_int Try.underlying3 h1
      obtain ⟨s2, e2, _, hs2⟩ := DataW.trod_string Try.underlying9 h2
      obtain ⟨k3, e3, _, _⟩ := DataW.trod_int Try.underlying3 h3
      obtain ⟨k4, e4, _, w4⟩ := DataW.trod_int Try.underlying22 h4
      obtain ⟨k5, e5, _, w5⟩ := DataW.trod_int Try.underlying3 h5
      obtain ⟨b', hb, hlt⟩ := Dw.u64_of w4
      cases e0; cases e1; cases e2; cases e3; cases e4; cases e5
      exact ⟨⟨k0, k1, s2, k3, b', k5⟩, by rw [hb]; rfl, hs2, hlt, w5⟩
theorem open_steps0 {v : Value} {d : DataW H} {p : List MemPlace} {base : Nat} (o : Value.okWide Try.prog W .any base 23 v)
    (h : DataW.Trod enc Try.prog W 0 (fun _ => true) true 23 v d p) :
    ∃ so cap S, v = .slice so S.length cap ∧ Steps W so S ∧ ((d = .nil ∧ S = []) ∨ ∃ D E, d = .slice D E ∧ D.length = S.length) := by
  obtain ⟨a0, l0, c0, rfl⟩ := okWide_slice Try.underlying23 o
  obtain ⟨fuel, h⟩ := h
  rcases Go.Deep.open_slice Try.underlying23 h with ⟨hcs, hx⟩ | ⟨a, len, cap, m, n, D, Pl, hcs, _, hl, hm, hmm, hx, hel⟩
  · have hcs : [Value.slice a0 l0 c0] = [.slice none 0 0] := hcs
    cases hcs
    cases hx
    exact ⟨none, 0, [], rfl, fun j hj => absurd hj (by simp), .inl ⟨rfl, rfl⟩⟩
  · have hcs : [Value.slice a0 l0 c0] = [.slice (some a) len cap] := hcs
    cases hcs
    simp only [if_true] at hmm
    subst hmm
    have each : ∀ i, ∃ g : Stp, i < l0 → StpAt W (a.add (i * 6)) g ∧ g.f.size ≤ maxLen ∧ (g.n < Dw.M ∧ (Lit.int .i64 g.cnt).wf = true) := by
      intro i
      by_cases hi : i < l0
      · obtain ⟨cs', h1, h2⟩ := hel i (by omega)
        obtain ⟨g, hc, hk, hr⟩ := open_step h2
        rw [cells_step] at h1
        obtain ⟨_, _, hcl⟩ := World.cells?_some h1
        have add : ∀ k, k < 6 → W.cell? ((a.add (i * 6)).add k) = g.cells.toList[k]? := fun k hk => by rw [hcl k hk, hc]
        refine ⟨g, fun _ => ⟨⟨?_, ?_, ?_, ?_, ?_, ?_⟩, hk, hr⟩⟩
        · have e := hcl 0 (by omega); rw [hc] at e; exact e
        · have e := hcl 1 (by omega); rw [hc] at e; exact e
        · have e := hcl 2 (by omega); rw [hc] at e; exact e
        · have e := hcl 3 (by omega); rw [hc] at e; exact e
        · have e := hcl 4 (by omega); rw [hc] at e; exact e
        · have e := hcl 5 (by omega); rw [hc] at e; exact e
      · exact ⟨⟨0, 0, .empty, 0, 0, 0⟩, fun h => absurd h hi⟩
    obtain ⟨f, hf⟩ := Classical.skolem.1 each
    have hL : ((List.range l0).map f).length = l0 := by simp
    cases hx
    refine ⟨some a, _, (List.range l0).map f, by rw [hL], fun i hi => ?_, .inr ⟨_, _, rfl, by simp⟩⟩
    rw [hL] at hi
    have e : ((List.range l0).map f)[i]'(by rw [hL]; exact hi) = f i := by simp
    rw [e]
    obtain ⟨g0, g1, g2⟩ := hf i hi
    refine ⟨a, rfl, ?_, g1, g2, g0⟩
    have := lt_cell g0.1
    rwa [add_block] at this
theorem open_steps {v : Value} {d : DataW H} {p : List MemPlace} {ts : List TypeId} {ds : List (DataW H)} {base : Nat} (j : Nat) (o : Value.okWide Try.prog W .any base 23 v)
    (h : DataW.Trod enc Try.prog W 0 (fun _ => true) true 23 v d p) (hsz : (DataW.weightsEach Try.prog ts ds).all (fun x => decide (x ≤ reachBytes)) = true) (hj : ts[j]? = some 23) (hd : ds[j]? = some d) :
    ∃ so cap S, v = .slice so S.length cap ∧ Steps W so S ∧ S.length ≤ 2513169434843 := by
  obtain ⟨so, cap, S, hv, hS, hd'⟩ := open_steps0 o h
  refine ⟨so, cap, S, hv, hS, ?_⟩
  rcases hd' with ⟨_, rfl⟩ | ⟨D, E, rfl, hl⟩
  · simp
  · have hw := sized_slice hsz hj hd Try.underlying23
    rw [bytes_step] at hw
    simp only [reachBytes] at hw
    omega
/-- the texts of a row that came in -/
def Txts (w : World) (so : Option Addr) (S : List ByteArray) : Prop :=
  ∀ j (h : j < S.length), ∃ a, so = some a ∧ a.block < w.heap.size ∧ S[j].size ≤ maxLen ∧ w.cell? (a.add j) = some (.string S[j])
theorem open_texts {v : Value} {d : DataW H} {p : List MemPlace} {base : Nat} (o : Value.okWide Try.prog W .any base 27 v)
    (h : DataW.Trod enc Try.prog W 0 (fun _ => true) true 27 v d p) :
    ∃ so cap S, v = .slice so S.length cap ∧ Txts W so S := by
  obtain ⟨a0, l0, c0, rfl⟩ := okWide_slice Try.underlying27 o
  obtain ⟨fuel, h⟩ := h
  rcases Go.Deep.open_slice Try.underlying27 h with ⟨hcs, hx⟩ | ⟨a, len, cap, m, n, D, Pl, hcs, _, hl, hm, hmm, hx, hel⟩
  · have hcs : [Value.slice a0 l0 c0] = [.slice none 0 0] := hcs
    cases hcs
    cases hx
    exact ⟨none, 0, [], rfl, fun j hj => absurd hj (by simp)⟩
  · have hcs : [Value.slice a0 l0 c0] = [.slice (some a) len cap] := hcs
    cases hcs
    simp only [if_true] at hmm
    subst hmm
    have each : ∀ i, ∃ g : ByteArray, i < l0 → W.cell? (a.add i) = some (.string g) ∧ g.size ≤ maxLen := by
      intro i
      by_cases hi : i < l0
      · obtain ⟨cs', h1, h2⟩ := hel i (by omega)
        obtain ⟨g, hg, _, hw⟩ := DataW.trod_string Try.underlying9 h2
        rw [cells_str] at h1
        obtain ⟨_, _, hcl⟩ := World.cells?_some h1
        refine ⟨g, fun _ => ⟨?_, hw⟩⟩
        have e := hcl 0 (by omega)
        rw [hg, Nat.mul_one] at e
        exact e
      · exact ⟨.empty, fun h => absurd h hi⟩
    obtain ⟨f, hf⟩ := Classical.skolem.1 each
    have hL : ((List.range l0).map f).length = l0 := by simp
    cases hx
    refine ⟨some a, _, (List.range l0).map f, by rw [hL], fun i hi => ?_⟩
    rw [hL] at hi
    have e : ((List.range l0).map f)[i]'(by rw [hL]; exact hi) = f i := by simp
    rw [e]
    obtain ⟨g0, g1⟩ := hf i hi
    refine ⟨a, rfl, ?_, g1, g0⟩
    have := lt_cell g0
    rwa [add_block] at this
end
end Go.Proofs.Ytmokahcjkokanaa

/-
  Contracts over this program: a plain row of texts beside a flock; has, short, one more text.
-/
namespace Go.Proofs.Ytmokahcjkokanaa
open Go.RowKit Go.Shelf
/-- is it too long? -/
def tol (a : ByteArray) : Bool := decide ((1048576 : Int) < (a.size : Int))
theorem tol_le {a : ByteArray} (h : tol a = false) : a.size ≤ 1048576 := by
  unfold tol at h
  have := of_decide_eq_false h
  omega
theorem tol_gt {a : ByteArray} (h : tol a = true) : decide ((1048576 : Int) < (a.size : Int)) = true := h
set_option maxHeartbeats 400000 in
theorem short_any (a : ByteArray) (w : World) :
    Calls Try.prog 9 #[.string a] w fun e w' => e = .returned (.bool (!tol a)) ∧ w' = w := by
  go_enter Try.func9, Try.ntmps9
  go_wp2
  go_ret
  refine ⟨?_, rfl⟩
  unfold tol
  by_cases h : (1048576 : Int) < (a.size : Int)
  · rw [decide_eq_true h]; simp; omega
  · rw [decide_eq_false h]; simp; omega
theorem inB_take {l : List ByteArray} {k : Nat} {x s : ByteArray} (he : l[k]? = some x) : inB s (l.take (k + 1)) = (inB s (l.take k) || decide (x = s)) := by
  obtain ⟨hk, rfl⟩ := List.getElem?_eq_some_iff.1 he
  rw [List.take_succ_eq_append_getElem hk, inB_snoc]
theorem inB_of {l : List ByteArray} {k : Nat} {s : ByteArray} (he : l[k]? = some s) : inB s l = true := (inB_iff _ _).2 (List.mem_of_getElem? he)
set_option maxHeartbeats 600000 in
theorem hasl_any (B : Nat) (w : World) (v : Value) (l : List ByteArray) (h : Ks B w v l) (s : ByteArray) :
    Calls Try.prog 10 #[v, .string s] w fun e w' => e = .returned (.bool (inB s l)) ∧ w' = w := by
  obtain ⟨ao, cap, rfl, hao⟩ := ks_form h
  have hl := ks_max h
  unfold maxLen at hl
  obtain ⟨n, hn⟩ : ∃ n, l.length = n := ⟨_, rfl⟩
  have H := keep h
  have HN := keep hn
  rw [hn] at hl ⊢
  clear h hn
  go_enter Try.func10, Try.ntmps10
  go_wp2
  go_loop [9] (fun i => ∃ k : Nat, k ≤ n ∧ i = .int .i64 k ∧ Kept (inB s (l.take k) = false)) (fun i => n - (intOf i).toNat)
  case atStart => exact ⟨0, Nat.zero_le _, rfl, rfl⟩
  case round =>
    obtain ⟨k, hk, rfl, A⟩ := hrel
    by_cases hlt : k < n
    · have hltz : (k : Int) < (n : Int) := by omega
      have hk0 : (0 : Int) ≤ (k : Int) := by omega
      obtain ⟨e, he⟩ : ∃ e, l[k]? = some e := ⟨_, List.getElem?_eq_getElem (by rw [HN.out]; exact hlt)⟩
      obtain ⟨g, rfl⟩ : ∃ g, ao = some ⟨g, 0, none⟩ := by
        rcases hao with h | ⟨g, h, _⟩
        · rw [h] at he; simp at he
        · exact ⟨g, h⟩
      have c0 := H.out.at he
      have HE := keep he
      clear he hao
      by_cases hq : e = s
      · subst hq
        go_wp2
        go_ret
        exact ⟨by rw [inB_of HE.out]; rfl, rfl⟩
      · have hqb : (e.toList == s.toList) = false := beq_eq_false_iff_ne.2 (fun e => hq (bytes_eq e))
        have HQ := keep hq
        clear hq
        go_wp2
        go_round
        case measure => simp [intOf]; omega
        case rel =>
          refine ⟨k + 1, by omega, by go_num, ?_⟩
          show inB s (l.take (k + 1)) = false
          rw [inB_take HE.out, A.out, decide_eq_false HQ.out]
          rfl
    · have hltz : ¬ (k : Int) < (n : Int) := by omega
      obtain rfl : k = n := by omega
      go_wp2
      go_ret
      refine ⟨?_, rfl⟩
      have := A.out
      rw [List.take_of_length_le (by rw [HN.out]; exact Nat.le_refl _)] at this
      rw [this]
      rfl
/-- one more text behind a row of one's own: the run of append -/
theorem push_txt {B : Nat} {v : Value} {l : List ByteArray} {W2 : World} (e1 : ByteArray) (h : Ks B W2 v l) (hB : B ≤ W2.heap.size) (hl : l.length ≤ 8000000000000) :
    ∃ g cap W3, (Builtin.append_ #[27, 27] 27 #[v, .slice (some ⟨W2.heap.size, 0, none⟩) 1 1]).run Try.prog (W2.alloc (.cells #[.string e1] 9)) = .ok (.slice (some ⟨g, 0, none⟩) (l.length + 1) cap) W3 ∧
      Ks B W3 (.slice (some ⟨g, 0, none⟩) (l.length + 1) cap) (l ++ [e1]) ∧ W2.heap.size < W3.heap.size ∧ (W3.os = W2.os ∧ W3.tape = W2.tape ∧ W3.output = W2.output) ∧ (v.ownBlock = some g ∨ W2.heap.size ≤ g) ∧ ∀ k, k < W2.heap.size → v.ownBlock ≠ some k → W3.heap[k]? = W2.heap[k]? := by
  obtain ⟨i0, hi0, hz0, hz1, hzb⟩ := info_parts info_strK
  obtain ⟨ao, cap0, rfl, _⟩ := ks_form h
  unfold Ks at h
  obtain ⟨g, cap, W3, hrun, hown, hgr, hat, hg3⟩ := run_append_lies (P := Try.prog) (w := W2.alloc (.cells #[.string e1] 9)) 27 27 B 9 i0 _ 1 16 Try.underlying27 hi0 hz0 hz1 hzb rfl (by omega) (.slice ao l.length cap0) l.length (l.map Value.string) (h.alloc _) ⟨W2.heap.size, 0, none⟩ 1 1 [.string e1] rfl (World.news_of_block (cs := #[.string e1]) (t := 9) (fr := (0, 0)) (heap_alloc_new W2 _)) (by simp [Value.oneCell']) (by omega) (by unfold maxLen; omega) (by omega) (by simp; omega) (W2.heap.size + 1) (by simp)
  have hs3 : W2.heap.size + 1 ≤ W3.heap.size := by have := hgr.size; simpa using this
  refine ⟨g, cap, W3, hrun, ?_, by omega, ⟨hgr.os, hgr.tape, hgr.output⟩, ?_, fun k hk hn => ?_⟩
  · unfold Ks
    rw [List.map_append, List.length_append]
    exact hown
  · rcases hat with h | h
    · exact .inl h
    · exact .inr (by omega)
  · rw [hgr.block k (by simp; omega) (fun e => hn e.symm), Below.heap_alloc _ _ _ hk]
/-- a flock in new blocks, and a plain row of texts in others -/
def Fb (h : ByteArray → Nat) (N : Nat) (W w : World) (r : Roles) (x : Nat) (s : Sx) (v : Value) (l : List ByteArray) : Prop :=
  Rn h N W w r (W.heap.size + 1) W.heap.size x s ∧ Ks W.heap.size w v l ∧ ∀ g, v.ownBlock = some g → rr r (W.heap.size + 1) g = (0, 0)
theorem Rn.fresh {h : ByteArray → Nat} {N : Nat} {W w : World} {r : Roles} {R b seed : Nat} {s : Sx} (hr : Rn h N W w r R b seed s) {g : Nat} (hg : w.heap.size ≤ g) : rr r R g = (0, 0) := by
  refine rr_zero.2 ⟨by have := hr.1.lt; omega, ?_⟩
  rcases Classical.em (r g = (0, 0)) with e | e
  · exact e
  · exact absurd (hr.1.1.1.1 g e) (by omega)
theorem Fb.op {h : ByteArray → Nat} {N N' : Nat} {W w w' : World} {r r' : Roles} {x : Nat} {s s' : Sx} {v : Value} {l : List ByteArray} (hb : Fb h N W w r x s v l) (h1 : Rec h N' w' r' (W.heap.size + 1) W.heap.size x s') (hf : Fr w (rr r (W.heap.size + 1)) w' (rr r' (W.heap.size + 1))) : Fb h N' W w' r' x s' v l :=
  ⟨hb.1.step h1 hf, own_kept hb.2.1 (fun k hk => (hf.2.2 k (own_lt hb.2.1 hk) (hb.2.2 k hk)).1), fun g hg => (hf.2.2 g (own_lt hb.2.1 hg) (hb.2.2 g hg)).2⟩
theorem Fb.below {h : ByteArray → Nat} {N : Nat} {W w w' : World} {r : Roles} {x : Nat} {s : Sx} {v : Value} {l : List ByteArray} (hb : Fb h N W w r x s v l) (hw : Below w.heap.size w w') : Fb h N W w' r x s v l :=
  ⟨hb.1.below hw, own_kept hb.2.1 (fun k hk => hw.block k (own_lt hb.2.1 hk)), hb.2.2⟩
theorem Fb.more {h : ByteArray → Nat} {N N' : Nat} {W w : World} {r : Roles} {x : Nat} {s : Sx} {v : Value} {l : List ByteArray} (hb : Fb h N W w r x s v l) (hN : N ≤ N') : Fb h N' W w r x s v l := ⟨hb.1.more hN, hb.2⟩
theorem Fb.row {h : ByteArray → Nat} {N : Nat} {W w w' : World} {r : Roles} {x : Nat} {s : Sx} {v v' : Value} {l l' : List ByteArray} (hb : Fb h N W w r x s v l) (hs : w.heap.size ≤ w'.heap.size) (ho : w'.os = w.os ∧ w'.tape = w.tape ∧ w'.output = w.output)
    (hk : ∀ k, k < w.heap.size → v.ownBlock ≠ some k → w'.heap[k]? = w.heap[k]?) (hR : Ks W.heap.size w' v' l') (hat : ∀ g, v'.ownBlock = some g → v.ownBlock = some g ∨ w.heap.size ≤ g) : Fb h N W w' r x s v' l' := by
  obtain ⟨h1, h2, h3⟩ := hb
  refine ⟨⟨h1.1.kept hs (fun k hk1 hk2 => hk k hk1 (fun e => hk2 (h3 k e))), h1.2.1, h1.2.2.1, h1.2.2.2.trans ⟨ho.1, ho.2.1, ho.2.2, hs, fun k hk1 => hk k (Nat.lt_of_lt_of_le hk1 h1.2.2.2.size) (fun e => ?_)⟩⟩, hR, fun g hg => ?_⟩
  · have := (World.ownsRow.lt h2 k e).1
    omega
  · rcases hat g hg with e | e
    · exact h3 g e
    · exact h1.fresh e
/-- a row in new blocks takes the place of the row -/
theorem Fb.fresh {h : ByteArray → Nat} {N : Nat} {W w w' : World} {r : Roles} {x : Nat} {s : Sx} {v v' : Value} {l l' : List ByteArray} (hb : Fb h N W w r x s v l) (hw : Below w.heap.size w w') (hR : Ks w.heap.size w' v' l') : Fb h N W w' r x s v' l' :=
  ⟨(hb.below hw).1, hR.more hb.1.2.2.2.size, fun g hg => hb.1.fresh (World.ownsRow.lt hR g hg).1⟩
/-- a plain row of texts has what a table has -/
def Lk (s : Sx) (l : List ByteArray) : Prop := l.Nodup ∧ (∀ k, inB k l = (lk s k).isSome) ∧ l.length = ln s
theorem lk_empty : Lk Dc.none0 [] := ⟨List.nodup_nil, fun _ => rfl, rfl⟩
theorem Lk.sam {s s' : Sx} {l : List ByteArray} (h : Lk s l) (hs : Samd s s') : Lk s' l := ⟨h.1, fun k => by rw [hs.1 k]; exact h.2.1 k, by rw [hs.2]; exact h.2.2⟩
theorem Lk.add {s s' : Sx} {l : List ByteArray} {f : ByteArray} (h : Lk s l) (hs : Setd s s' f ()) (hn : inB f l = false) : Lk s' (l ++ [f]) := by
  have hf : lk s f = none := by have := h.2.1 f; rw [hn] at this; cases hh : lk s f with | none => rfl | some x => rw [hh] at this; cases this
  have hnm : f ∉ l := fun hm => by rw [(inB_iff _ _).2 hm] at hn; cases hn
  refine ⟨?_, fun k => ?_, ?_⟩
  · rw [List.nodup_append]
    exact ⟨h.1, by simp, fun a ha b hb e => by simp at hb; exact hnm (hb ▸ e ▸ ha)⟩
  · rw [inB_snoc, hs.1 k, h.2.1 k]
    by_cases e : k = f
    · subst e; simp
    · rw [if_neg e, decide_eq_false (fun e' => e e'.symm), Bool.or_false]
  · rw [hs.2, hf, List.length_append, h.2.2]; rfl
theorem filter_len {f : ByteArray} : ∀ {l : List ByteArray}, l.Nodup → (l.filter (fun x => decide (x ≠ f))).length = l.length - (if inB f l then 1 else 0) := by
  intro l
  induction l with
  | nil => intro _; rfl
  | cons a l ih =>
    intro hn
    rw [List.nodup_cons] at hn
    have hi := ih hn.2
    by_cases e : a = f
    · subst e
      have hna : inB a l = false := by
        cases hh : inB a l with
        | false => rfl
        | true => exact absurd ((inB_iff _ _).1 hh) hn.1
      rw [hna] at hi
      rw [List.filter_cons_of_neg (by simp), hi, (inB_iff _ _).2 (by simp)]
      simp
    · rw [List.filter_cons_of_pos (by simpa using e), List.length_cons, hi, List.length_cons]
      have he : inB f (a :: l) = inB f l := by unfold inB; rw [List.any_cons, decide_eq_false e, Bool.false_or]
      rw [he]
      cases hh : inB f l with
      | false => simp
      | true =>
        have := List.length_pos_of_mem ((inB_iff _ _).1 hh)
        simp
        omega
theorem Lk.del {s s' : Sx} {l : List ByteArray} {f : ByteArray} (h : Lk s l) (hs : Deld s s' f) : Lk s' (l.filter (fun x => decide (x ≠ f))) := by
  refine ⟨h.1.filter _, fun k => ?_, ?_⟩
  · rw [hs.1 k]
    by_cases e : k = f
    · rw [if_pos e]
      cases hh : inB k (l.filter (fun x => decide (x ≠ f))) with
      | false => rfl
      | true => have := (List.mem_filter.1 ((inB_iff _ _).1 hh)).2; simp [e] at this
    · rw [if_neg e, ← h.2.1 k]
      cases hh : inB k l with
      | false =>
        cases h2 : inB k (l.filter (fun x => decide (x ≠ f))) with
        | false => rfl
        | true => rw [(inB_iff _ _).2 (List.mem_filter.1 ((inB_iff _ _).1 h2)).1] at hh; cases hh
      | true => exact (inB_iff _ _).2 (List.mem_filter.2 ⟨(inB_iff _ _).1 hh, by simpa using e⟩)
  · rw [filter_len h.1, hs.2, h.2.1 f, h.2.2]
theorem Lk.perm {h : ByteArray → Nat} {s : Sx} {l : List ByteArray} (hI : Dc.Inv h s) (hL : Lk s l) : l.Perm (kys s) :=
  perm_of_mem hL.1 (kys_nodup hI) (fun k => by rw [← inB_iff, hL.2.1 k, mem_kys hI])
/-- the box of an op -/
theorem box_at {w : World} {X : Nat} {o : Stp} (h : w.heap[X]? = some (.cells o.cells 29 (0, 0))) :
    w.cell? ⟨X, 1, none⟩ = some (.int .i64 o.op) ∧ w.cell? ⟨X, 2, none⟩ = some (.string o.f) := by
  unfold Stp.cells at h
  refine ⟨?_, ?_⟩ <;> simp [World.cell?, h]
end Go.Proofs.Ytmokahcjkokanaa

/-
  Contracts over this program: a flock, what was told so far and the members that were there all the while; Add, whatever comes of it.
-/
namespace Go.Proofs.Ytmokahcjkokanaa
open Go.RowKit Go.Shelf
/-- a flock, what was told so far, and the members that were there all the while -/
structure Mf (h : ByteArray → Nat) (N : Nat) (W w : World) (r : Roles) (x : Nat) (s : Sx) (T : Value) (tl : List ByteArray) (A : Value) (al : List ByteArray) : Prop where
  fb : Fb h N W w r x s A al
  told : Ks W.heap.size w T tl
  rT : ∀ k, T.ownBlock = some k → rr r (W.heap.size + 1) k = (0, 0)
  ne : ∀ k, T.ownBlock = some k → A.ownBlock ≠ some k
section
variable {h : ByteArray → Nat} {N N' : Nat} {W w w' : World} {r r' : Roles} {x : Nat} {s s' : Sx} {T A : Value} {tl : List ByteArray} {al : List ByteArray}
theorem Mf.op (m : Mf h N W w r x s T tl A al) (h1 : Rec h N' w' r' (W.heap.size + 1) W.heap.size x s') (hf : Fr w (rr r (W.heap.size + 1)) w' (rr r' (W.heap.size + 1))) : Mf h N' W w' r' x s' T tl A al :=
  ⟨m.fb.op h1 hf, own_kept m.told (fun k hk => (hf.2.2 k (own_lt m.told hk) (m.rT k hk)).1), fun k hk => (hf.2.2 k (own_lt m.told hk) (m.rT k hk)).2, m.ne⟩
theorem Mf.below (m : Mf h N W w r x s T tl A al) (hb : Below w.heap.size w w') : Mf h N W w' r x s T tl A al :=
  ⟨m.fb.below hb, own_kept m.told (fun k hk => hb.block k (own_lt m.told hk)), m.rT, m.ne⟩
theorem Mf.more (m : Mf h N W w r x s T tl A al) (hN : N ≤ N') : Mf h N' W w r x s T tl A al := ⟨m.fb.more hN, m.told, m.rT, m.ne⟩
theorem Mf.stay {A' : Value} {al' : List ByteArray} (m : Mf h N W w r x s T tl A al) (hb : Below w.heap.size w w') (hA : Ks w.heap.size w' A' al') : Mf h N W w' r x s T tl A' al' := by
  have hlt : ∀ k, A'.ownBlock = some k → w.heap.size ≤ k := fun k hk => (World.ownsRow.lt hA k hk).1
  exact ⟨m.fb.fresh hb hA, own_kept m.told (fun k hk => hb.block k (own_lt m.told hk)), m.rT, fun k hk e => by have := hlt k e; have := own_lt m.told hk; omega⟩
theorem Mf.add {v2 : Value} {l2 : List ByteArray} (m : Mf h N W w r x s T tl A al) (hb : Below w.heap.size w w') (h2 : Ks w.heap.size w' v2 l2) (hl : tl.length + l2.length ≤ 8000000000000) :
    ∃ T' w3, (Builtin.append_ #[27, 27] 27 #[T, v2]).run Try.prog w' = .ok T' w3 ∧ Mf h N W w3 r x s T' (tl ++ l2) A al := by
  have m2 := m.below hb
  obtain ⟨T', w3, r1, r2, r3, r4, r5⟩ := app_at W.heap.size w' T v2 tl l2 w.heap.size m2.told h2 m2.fb.1.2.2.2.size hl
  have hrec : Rec h N w3 r (W.heap.size + 1) W.heap.size x s := m2.fb.1.1.kept r4.size (fun k hk hr => r4.block k hk (fun e => hr (m2.rT k e.symm)))
  have hA : Ks W.heap.size w3 A al := own_kept m2.fb.2.1 (fun k hk => r4.block k (own_lt m2.fb.2.1 hk) (fun e => m2.ne k e.symm hk))
  refine ⟨T', w3, r1, ⟨⟨⟨hrec, m2.fb.1.2.1, m2.fb.1.2.2.1, m2.fb.1.2.2.2.trans r3⟩, hA, m2.fb.2.2⟩, r2, ?_, ?_⟩⟩
  · intro k hk
    rcases r5 with e | e
    · exact m2.rT k (e ▸ hk)
    · rw [e] at hk
      cases hk
      exact m2.fb.1.fresh (Nat.le_refl _)
  · intro k hk e2
    rcases r5 with e | e
    · exact m2.ne k (e ▸ hk) e2
    · rw [e] at hk
      cases hk
      have := own_lt m2.fb.2.1 e2
      omega
theorem mf_new {w1 w2 : World} (c : Rn h N W w r (W.heap.size + 1) W.heap.size x s) (hb1 : Below w.heap.size w w1) (hA : Ks w.heap.size w1 A al) (hb2 : Below w1.heap.size w1 w2) (hT : Ks w1.heap.size w2 T tl) : Mf h N W w2 r x s T tl A al := by
  have c1 := c.below hb1
  have c2 := c1.below hb2
  have hlA : ∀ k, A.ownBlock = some k → w.heap.size ≤ k ∧ k < w1.heap.size := fun k hk => World.ownsRow.lt hA k hk
  have hlT : ∀ k, T.ownBlock = some k → w1.heap.size ≤ k := fun k hk => (World.ownsRow.lt hT k hk).1
  exact ⟨⟨c2, own_down (own_kept hA (fun k hk => hb2.block k (hlA k hk).2)) c.2.2.2.size, fun k hk => c.fresh (hlA k hk).1⟩, own_down hT c1.2.2.2.size, fun k hk => c1.fresh (hlT k hk), fun k hk e => by have := hlT k hk; have := (hlA k e).2; omega⟩
end
/-- each of the members that lies ahead of the cursor is told -/
def Dp (h : ByteArray → Nat) (c : Nat) (al : List ByteArray) (tl : List ByteArray) : Prop := ∀ e ∈ al, Rv.plc (h e) < Rv.plc c → e ∈ tl
theorem Dp.next {h : ByteArray → Nat} {c c' : Nat} {al tl l : List ByteArray} {s : Sx} (hd : Dp h c al tl) (hin : ∀ e ∈ al, Has s e) (hcov : ∀ k, Has s k → Rv.plc c ≤ Rv.plc (h k) → (c' = 0 ∨ Rv.plc (h k) < Rv.plc c') → k ∈ l) : (c' = 0 → ∀ e ∈ al, e ∈ tl ++ l) ∧ Dp h c' al (tl ++ l) := by
  have key : ∀ e ∈ al, (c' = 0 ∨ Rv.plc (h e) < Rv.plc c') → e ∈ tl ++ l := fun k hk hdn => by
    rcases Nat.lt_or_ge (Rv.plc (h k)) (Rv.plc c) with q | q
    · exact List.mem_append_left _ (hd k hk q)
    · exact List.mem_append_right _ (hcov k (hin k hk) q hdn)
  exact ⟨fun hz e he => key e he (.inl hz), fun e he q => key e he (.inr q)⟩
theorem has_set {s s' : Sx} {f k : ByteArray} {v : Unit} (h : Setd s s' f v) (hk : Has s k) : Has s' k := by
  unfold Has at hk ⊢
  rw [h.1 k]
  by_cases e : k = f
  · rw [if_pos e]; rfl
  · rw [if_neg e]; exact hk
theorem has_sam {s s' : Sx} {k : ByteArray} (h : Samd s s') (hk : Has s k) : Has s' k := by
  unfold Has at hk ⊢
  rw [h.1 k]
  exact hk
theorem has_del {s s' : Sx} {f k : ByteArray} (h : Deld s s' f) (hk : Has s k) (hne : k ≠ f) : Has s' k := by
  unfold Has at hk ⊢
  rw [h.1 k, if_neg hne]
  exact hk
/-- Add, whatever comes of it -/
theorem fadd_some {h : ByteArray → Nat} {seed N : Nat} (hH : HashIs seed h) {w : World} {r : Roles} {R b : Nat} {s : Sx} (hr : Rec h N w r R b seed s) (hN : N + 1 ≤ 2600000000000) (f : ByteArray) :
    Calls Try.prog 11 #[.pointer (some ⟨R, 0, none⟩), .string f] w fun e w' => (∃ (x : Bool) (c : Int), e = .returned (.tuple #[.bool x, .int .i64 c])) ∧ ∃ r' s', Rec h (N + 1) w' r' R b seed s' ∧ (∀ k, Has s k → Has s' k) ∧ ln s' ≤ ln s + 1 ∧ Fr w (rr r R) w' (rr r' R) := by
  cases htf : tol f with
  | true =>
    refine (fadd_long f (tol_gt htf)).mono ?_
    rintro _ w' ⟨rfl, rfl⟩
    exact ⟨⟨_, _, rfl⟩, r, s, hr.more (by omega), fun _ h => h, by omega, Fr.refl _ _⟩
  | false =>
    have hf := tol_le htf
    cases hlk : lk s f with
    | some u =>
      refine (fadd_old hH hr (by omega) f hf u hlk).mono ?_
      rintro _ w' ⟨rfl, r', s', q1, q2, q3⟩
      exact ⟨⟨_, _, rfl⟩, r', s', q1.more (by omega), fun _ => has_sam q2, by rw [q2.2]; omega, q3⟩
    | none =>
      by_cases hl : ln s < 1048576
      · refine (fadd_new hH hr hN f hf hlk hl).mono ?_
        rintro _ w' ⟨rfl, r', s', q1, q2, q3⟩
        refine ⟨⟨_, _, rfl⟩, r', s', q1, fun _ => has_set q2, ?_, q3⟩
        rw [q2.2]
        split <;> omega
      · refine (fadd_full hH hr (by omega) f hf hlk (by omega)).mono ?_
        rintro _ w' ⟨rfl, r', s', q1, q2, q3⟩
        exact ⟨⟨_, _, rfl⟩, r', s', q1.more (by omega), fun _ => has_sam q2, by rw [q2.2]; omega, q3⟩
end Go.Proofs.Ytmokahcjkokanaa

/-
  Contracts over this program: every call of no flock.
-/
namespace Go.Proofs.Ytmokahcjkokanaa
open Go.RowKit Go.Shelf
attribute [local go_sem] Oper.semAt_some
set_option maxHeartbeats 400000 in
theorem dictionary_nil (w : World) : Calls Try.prog 28 #[.pointer none] w fun e w' => e = .returned (.pointer none) ∧ w' = w := by
  go_enter Try.func28, Try.ntmps28
  go_wp2
  go_ret
  exact ⟨rfl, rfl⟩
set_option maxHeartbeats 400000 in
theorem flen_nil (w : World) : Calls Try.prog 16 #[.pointer none] w fun e w' => e = .returned (.int .i64 0) ∧ w' = w := by
  go_enter Try.func16, Try.ntmps16
  go_wp2
  go_ret
  exact ⟨rfl, rfl⟩
set_option maxHeartbeats 400000 in
theorem fcost_nil (w : World) : Calls Try.prog 17 #[.pointer none] w fun e w' => e = .returned (.int .i64 0) ∧ w' = w := by
  go_enter Try.func17, Try.ntmps17
  go_wp2
  go_ret
  exact ⟨rfl, rfl⟩
set_option maxHeartbeats 400000 in
theorem get_nil (w : World) (k : ByteArray) : Calls Try.prog 29 #[.pointer none, .string k] w fun e w' => e = .returned (.tuple #[.agg #[], .bool false]) ∧ Below w.heap.size w w' := by
  go_enter Try.func29, Try.ntmps29
  go_wp2
  refine bodyPost_ret (results_none_tmp rfl Try.isAgg54 Try.sizeOf54 _ _ _ rfl) rfl ?_
  exact ⟨rfl, ((Below.refl _ w).alloc (Nat.le_refl _) _).alloc (by simp) _⟩
set_option maxHeartbeats 400000 in
theorem fhas_nil (w : World) (f : ByteArray) : Calls Try.prog 13 #[.pointer none, .string f] w fun e w' => e = .returned (.bool false) ∧ Below w.heap.size w w' := by
  go_enter Try.func13, Try.ntmps13
  go_wp2_with fail
  refine (dictionary_nil w).mono ?_
  rintro _ w' ⟨rfl, hw'⟩
  obtain rfl := hw'.symm
  go_wp2_with fail
  refine (get_nil w f).mono ?_
  rintro _ w2 ⟨rfl, hb⟩
  have HB := keep hb
  clear hb
  go_wp2
  go_ret
  exact ⟨rfl, HB.out.alloc HB.out.size _⟩
set_option maxHeartbeats 400000 in
theorem fdel_nil (w : World) (f : ByteArray) : Calls Try.prog 12 #[.pointer none, .string f] w fun e w' => e = .returned (.bool false) ∧ Below w.heap.size w w' := by
  go_enter Try.func12, Try.ntmps12
  go_wp2_with fail
  refine (fhas_nil w f).mono ?_
  rintro _ w2 ⟨rfl, hb⟩
  have HB := keep hb
  clear hb
  go_wp2
  go_ret
  exact ⟨rfl, HB.out⟩
set_option maxHeartbeats 400000 in
theorem sizes_nil (w : World) : Calls Try.prog 53 #[.pointer none] w fun e w' => e = .returned (.tuple #[.int .i64 0, .int .i64 0, .int .i64 0]) ∧ w' = w := by
  go_enter Try.func53, Try.ntmps53
  go_wp2
  refine bodyPost_ret (results_tmp3 rfl _ _ _) rfl ?_
  exact ⟨rfl, rfl⟩
set_option maxHeartbeats 400000 in
theorem next_nil (w : World) (c : Nat) (n : Int) : Calls Try.prog 37 #[.pointer none, .int .u64 c, .int .i64 n] w fun e w' => e = .returned (.tuple #[.int .u64 0, .slice none 0 0]) ∧ w' = w := by
  go_enter Try.func37, Try.ntmps37
  go_wp2_with fail
  refine (sizes_nil w).mono ?_
  rintro _ w' ⟨rfl, hw'⟩
  obtain rfl := hw'.symm
  go_wp2
  refine bodyPost_ret (results_tmp2 rfl _ _ _) rfl ?_
  exact ⟨rfl, rfl⟩
set_option maxHeartbeats 400000 in
theorem fscan_nil (w : World) (c : Nat) (n : Int) : Calls Try.prog 22 #[.pointer none, .int .u64 c, .int .i64 n] w fun e w' => e = .returned (.tuple #[.int .u64 0, .slice none 0 0]) ∧ w' = w := by
  go_enter Try.func22, Try.ntmps22
  go_wp2_with fail
  refine (dictionary_nil w).mono ?_
  rintro _ w' ⟨rfl, hw'⟩
  obtain rfl := hw'.symm
  go_wp2_with fail
  refine (next_nil w c n).mono ?_
  rintro _ w' ⟨rfl, hw'⟩
  obtain rfl := hw'.symm
  go_wp2
  refine bodyPost_ret (results_tmp2 rfl _ _ _) rfl ?_
  exact ⟨rfl, rfl⟩
/-- who tells nothing -/
theorem iter_none {α : Type} {P : Program} {g : Nat} {lb : Array Value} {encs : α → Array Value} {Rd : Nat → World → Prop} {W : World} (h : ∀ l, Calls P g (#[.func (.yield l) #[] #[]] ++ lb) W fun e w' => (∃ v, e = .returned v) ∧ Below W.heap.size W w') : Iter P g lb encs Rd ([] : List α) W := by
  intro l J Jx hJ _ _ _ h0
  refine (h l).mono ?_
  rintro e w' ⟨hv, hb⟩
  exact ⟨hv, fun _ => False, fun _ h => h.elim, .inl (hJ _ _ _ _ _ h0 (Sep.of_below hb) (fun _ h => h.elim))⟩
set_option maxRecDepth 100000 in
set_option maxHeartbeats 1000000 in
theorem all1_nil (W : World) (l Bd : Nat) (hBd : W.cell? ⟨Bd, 0, none⟩ = some (.pointer none)) :
    Calls Try.prog 60 (#[.func (.yield l) #[] #[]] ++ #[.pointer (some ⟨Bd, 0, none⟩)]) W fun e w' => (∃ v, e = .returned v) ∧ Below W.heap.size W w' := by
  have hBl : Bd < W.heap.size := World.block_lt_of_cell? _ _ hBd
  have hc1 : (W.alloc (.cells #[.func (.yield l) #[] #[]] 100)).cell? ⟨Bd, 0, none⟩ = some (.pointer none) := (((Below.refl _ W).alloc (Nat.le_refl _) _).cell (p := ⟨Bd, 0, none⟩) hBl).trans hBd
  have hb := (Below.refl _ W).alloc (Nat.le_refl _) (.cells #[.func (.yield l) #[] #[]] 100)
  refine callsIn_wide (n := 9) |>.1 (callsIn_of_wp_marks Try.func60 rfl trivial (wpIn_wide.2 ?_) rfl)
  simp only [Try.ntmps60, List.size_toArray, List.length_cons, List.length_nil, Nat.reduceAdd, Nat.reduceSub, Array.replicate_succ, Array.replicate_zero, List.push_toArray, List.append_toArray, List.nil_append, List.cons_append]
  go_wp2
  exact ⟨_, results_none rfl _ _ _, ⟨_, rfl⟩, hb⟩
/-- while nothing comes -/
def Holnil (W : World) (H : Nat) (M : Nat → Prop) (_ : Nat) (w : World) : Prop := (¬ M H ∧ w.heap[H]? = some (.cells #[.slice none 0 0] 82 (0, 0))) ∧ Below W.heap.size W w ∧ ∀ k, M k → W.heap.size ≤ k
theorem Holnil.abd {W : World} {H : Nat} : Abd (Holnil W H) := by
  rintro M M' m A B ⟨⟨h1, h1'⟩, h5, h6⟩ hs hx
  have hl := (Array.getElem?_eq_some_iff.1 h1').1
  exact ⟨⟨hx.lt hl h1, (hs.2.2 H hl h1).trans h1'⟩, h5.trans (hs.below h5.size h6), hx.ge h5.size h6⟩
set_option maxRecDepth 100000 in
set_option maxHeartbeats 1000000 in
theorem each1_nil (W : World) (l Bd : Nat) (hBd : W.cell? ⟨Bd, 0, none⟩ = some (.pointer none)) :
    Calls Try.prog 45 (#[.func (.yield l) #[] #[]] ++ #[.pointer (some ⟨Bd, 0, none⟩)]) W fun e w' => (∃ v, e = .returned v) ∧ Below W.heap.size W w' := by
  have hBl : Bd < W.heap.size := World.block_lt_of_cell? _ _ hBd
  have hc1 : (W.alloc (.cells #[.slice none 0 0] 82)).cell? ⟨Bd, 0, none⟩ = some (.pointer none) := (((Below.refl _ W).alloc (Nat.le_refl _) _).cell (p := ⟨Bd, 0, none⟩) hBl).trans hBd
  have MA := keep (fun w => all_any w (.pointer none) (.inl rfl))
  refine callsIn_wide (n := 9) |>.1 (callsIn_of_wp_marks Try.func45 rfl trivial (wpIn_wide.2 ?_) rfl)
  simp only [Try.ntmps45, List.size_toArray, List.length_cons, List.length_nil, Nat.reduceAdd, Nat.reduceSub, Array.replicate_succ, Array.replicate_zero, List.push_toArray, List.append_toArray, List.nil_append, List.cons_append]
  go_wp2_with fail
  refine (MA.out _).mono ?_
  rintro _ w2 ⟨rfl, hw2⟩
  have hz2 : w2.heap.size = W.heap.size + 2 := by rw [hw2]; simp
  have hb2 : Below W.heap.size W w2 := by rw [hw2]; exact ((Below.refl _ W).alloc (Nat.le_refl _) _).alloc (by simp) _
  have h2H : w2.heap[W.heap.size]? = some (.cells #[.slice none 0 0] 82 (0, 0)) := by rw [hw2, Below.heap_alloc _ _ _ (by simp)]; exact heap_alloc_new _ _
  have h2B : w2.cell? ⟨W.heap.size + 1, 0, none⟩ = some (.pointer none) := by
    have := heap_alloc_new (W.alloc (.cells #[.slice none 0 0] 82)) (.cells #[.pointer none] 52)
    rw [World.size_alloc] at this
    rw [hw2, cell_of_row _ _ _ _ _ _ this]; rfl
  have HI0 : Kept (Holnil W W.heap.size (fun _ => False) 0 w2) := ⟨⟨id, h2H⟩, hb2, fun _ h => h.elim⟩
  have H2B := keep h2B
  have HB2 := keep hb2
  clear hw2 hc1 hb2 h2H h2B
  go_wp2
  refine (wpIn_wide (n := 9)).1 (range_own (α := Unit) (gf := 60) (lb := #[.pointer (some ⟨W.heap.size + 1, 0, none⟩)]) (by simp [Act.eval]) (enters_of Try.func60 (by kernel_rfl) rfl) (encs := fun _ => #[.bool true]) (L := []) (fun _ => rfl)
    (fun W1 hb => iter_none (Rd := fun _ _ => True) (fun l => all1_nil W1 l (W.heap.size + 1) ((hb.cell (p := ⟨W.heap.size + 1, 0, none⟩) (by show W.heap.size + 1 < w2.heap.size; omega)).trans H2B.out)))
    (Holnil W W.heap.size) (fun _ _ _ _ => False) Holnil.abd (fun _ _ _ _ _ _ h _ _ => h) HI0.out (fun _ _ _ _ => trivial) (fun _ _ _ _ _ _ h => by simp at h) ?done (fun _ _ _ _ _ _ h => h.elim))
  case done =>
    intro M' D W5 hI hD hDk hM'
    obtain ⟨⟨j1, j1'⟩, j5, j6⟩ := hI
    have cH : W5.cell? ⟨W.heap.size, 0, none⟩ = some (.slice none 0 0) := by rw [cell_of_row _ _ _ _ _ _ j1']; rfl
    have J5 := keep j5
    have hDW := j6 D hD
    have HDK := keep hDk
    clear j1' j5 j6 hDk hM'
    go_wp2
    go_loopw [16] (fun i wr => i = .int .i64 0 ∧ wr = W5) (fun _ _ => 0)
    case atStart => exact ⟨rfl, rfl⟩
    case round =>
      obtain ⟨rfl, rfl⟩ := hrel
      go_wp2
      refine leave_mark HDK.out ?_
      exact ⟨_, results_none rfl _ _ _, ⟨_, rfl⟩, J5.out.grown (grownBy_mark _ D _) J5.out.size (fun k e => by cases e; exact hDW)⟩
/-- while no pairs come -/
def PrN (W : World) (Sg Sb : Nat) (M : Nat → Prop) (_ : Nat) (w : World) : Prop :=
  (¬ M Sb ∧ w.heap[Sb]? = some (.cells #[.slice (some ⟨Sg, 0, none⟩) 0 0] 27 (0, 0))) ∧ (¬ M Sg ∧ w.ownsRow W.heap.size 9 1 (.slice (some ⟨Sg, 0, none⟩) 0 0) 0 []) ∧
    Below W.heap.size W w ∧ ∀ k, M k → W.heap.size ≤ k
theorem PrN.abd {W : World} {Sg Sb : Nat} : Abd (PrN W Sg Sb) := by
  rintro M M' m A B ⟨⟨h1, h1'⟩, ⟨h2, h2'⟩, h5, h6⟩ hs hx
  have keepB : ∀ k o, ¬ M k → A.heap[k]? = some o → ¬ M' k ∧ B.heap[k]? = some o := fun k o hn ho => by
    have hl := (Array.getElem?_eq_some_iff.1 ho).1
    exact ⟨hx.lt hl hn, (hs.2.2 k hl hn).trans ho⟩
  have hSl := own_lt h2' (k := Sg) rfl
  exact ⟨keepB _ _ h1 h1', ⟨hx.lt hSl h2, own_kept h2' (fun k hk => by cases hk; exact hs.2.2 _ hSl h2)⟩, h5.trans (hs.below h5.size h6), hx.ge h5.size h6⟩
set_option maxRecDepth 100000 in
set_option maxHeartbeats 2000000 in
theorem fmembers_nil (W : World) :
    Calls Try.prog 14 #[.pointer none] W fun e w' => e = .returned (.slice (some ⟨W.heap.size, 0, none⟩) 0 0) ∧ w'.ownsRow W.heap.size 9 1 (.slice (some ⟨W.heap.size, 0, none⟩) 0 0) 0 [] ∧ Below W.heap.size W w' := by
  have mL := flen_nil W
  obtain ⟨w1, mk, hS2, hg2, hlt2⟩ := make_texts W 0 (by omega)
  have mk : (Instr.makeSlice 27 (.int .i64 0) (.int .i64 0)).run Try.prog W = .ok (.slice (some ⟨W.heap.size, 0, none⟩) 0 0) w1 := mk
  have hb1 : Below W.heap.size W w1 := (Below.refl _ W).grown hg2 (Nat.le_refl _) (fun k h => by cases h)
  obtain ⟨w2, hw2⟩ : ∃ w2, w1.alloc (.cells #[.slice (some ⟨W.heap.size, 0, none⟩) 0 0] 27) = w2 := ⟨_, rfl⟩
  have hb12 : Below w1.heap.size w1 w2 := by rw [← hw2]; exact (Below.refl _ w1).alloc (Nat.le_refl _) _
  have hz2 : w2.heap.size = w1.heap.size + 1 := by rw [← hw2]; simp
  have h2S : w2.heap[w1.heap.size]? = some (.cells #[.slice (some ⟨W.heap.size, 0, none⟩) 0 0] 27 (0, 0)) := by rw [← hw2]; exact heap_alloc_new _ _
  have hb2 : Below W.heap.size W w2 := hb1.trans (hb12.mono hb1.size)
  have mD := dictionary_nil w2
  refine callsIn_wide (n := 9) |>.1 (callsIn_of_wp_marks Try.func14 rfl trivial (wpIn_wide.2 ?_) rfl)
  simp only [Try.ntmps14, List.size_toArray, List.length_cons, List.length_nil, Nat.reduceAdd, Nat.reduceSub, Array.replicate_succ, Array.replicate_zero, List.push_toArray, List.append_toArray, List.nil_append, List.cons_append]
  go_wp2_with fail
  refine mL.mono ?_
  rintro _ w' ⟨rfl, hw'⟩
  obtain rfl := hw'.symm
  go_wp2_with fail
  refine mD.mono ?_
  rintro _ w' ⟨rfl, hw'⟩
  obtain rfl := hw'.symm
  go_wp2_with fail
  refine (each_any _ _ (.inl rfl)).mono ?_
  rintro _ w4 ⟨rfl, hw4⟩
  have hz4 : w4.heap.size = w2.heap.size + 1 := by rw [hw4]; simp
  have hb24 : Below w2.heap.size w2 w4 := by rw [hw4]; exact (Below.refl _ w2).alloc (Nat.le_refl _) _
  have h4B : w4.heap[w2.heap.size]? = some (.cells #[.pointer none] 52 (0, 0)) := by rw [hw4]; exact heap_alloc_new _ _
  have h4S : w4.heap[w1.heap.size]? = some (.cells #[.slice (some ⟨W.heap.size, 0, none⟩) 0 0] 27 (0, 0)) := (hb24.block _ (by omega)).trans h2S
  have hb4 : Below W.heap.size W w4 := hb2.trans (hb24.mono hb2.size)
  have c4B : w4.cell? ⟨w2.heap.size, 0, none⟩ = some (.pointer none) := by rw [cell_of_row _ _ _ _ _ _ h4B]; rfl
  have hI0 : PrN W W.heap.size w1.heap.size (fun _ => False) 0 w4 := by
    refine ⟨⟨id, h4S⟩, ⟨id, own_kept hS2 (fun k hk => by cases hk; exact (hb24.block W.heap.size (by omega)).trans (hb12.block W.heap.size hlt2))⟩, hb4, fun _ h => h.elim⟩
  have HI0 := keep hI0
  have C4B := keep c4B
  clear hw4 hb24 h4S h4B hb4 c4B hI0 mk hS2 hg2 hw2 hb12 h2S hb2 mD mL hb1
  go_wp2
  refine (wpIn_wide (n := 9)).1 (range_own (α := Ent) (gf := 45) (lb := #[.pointer (some ⟨w2.heap.size, 0, none⟩)]) (by simp [Act.eval]) (enters_of Try.func45 (by kernel_rfl) rfl) (encs := eachV) (L := []) (fun _ => rfl)
    (fun W1 hb => iter_none (Rd := fun _ _ => True) (fun l => each1_nil W1 l w2.heap.size ((hb.cell (p := ⟨w2.heap.size, 0, none⟩) (by show w2.heap.size < w4.heap.size; omega)).trans C4B.out)))
    (PrN W W.heap.size w1.heap.size) (fun _ _ _ _ => False) PrN.abd (fun _ _ _ _ _ _ h _ _ => h) HI0.out (fun _ _ _ _ => trivial) (fun _ _ _ _ _ _ h => by simp at h) ?done (fun _ _ _ _ _ _ h => h.elim))
  case done =>
    intro M' D W5 hI hD hDk hM'
    obtain ⟨⟨j1, j1'⟩, ⟨j2, j2'⟩, j5, j6⟩ := hI
    have hsS : w1.heap.size < W5.heap.size := (Array.getElem?_eq_some_iff.1 j1').1
    have hDW : W.heap.size ≤ D := j6 D hD
    have hsD : D < W5.heap.size := (Array.getElem?_eq_some_iff.1 hDk).1
    have hDG : D ≠ W.heap.size := fun e => j2 (e ▸ hD)
    have c5S : W5.cell? ⟨w1.heap.size, 0, none⟩ = some (.slice (some ⟨W.heap.size, 0, none⟩) 0 0) := by rw [cell_of_row _ _ _ _ _ _ j1']; rfl
    have mS := sort_any W5 W.heap.size W.heap.size 0 [] j2' (by simp) (by simp)
    simp only [List.length_nil] at mS
    have J1 := keep j1'
    have J5 := keep j5
    have HDK := keep hDk
    clear j1 j1' j2 j2' j5 j6 hM' hDk HI0 C4B hz4
    go_wp2_with fail
    refine mS.mono ?_
    rintro _ w6 ⟨rfl, O, hO1, hO2, hO3⟩
    obtain rfl : O = [] := List.perm_nil.1 hO1.1
    have k6S : w6.heap[w1.heap.size]? = W5.heap[w1.heap.size]? := hO3.block _ hsS (fun e => by have := Option.some.inj e; omega)
    have c6S : w6.cell? ⟨w1.heap.size, 0, none⟩ = some (.slice (some ⟨W.heap.size, 0, none⟩) 0 0) := by rw [cell_of_row _ _ _ _ _ _ (k6S.trans J1.out)]; rfl
    have h6D : w6.heap[D]? = some (.deferred (some [])) := (hO3.block _ hsD (fun e => hDG (Option.some.inj e))).trans HDK.out
    have OO2 := keep hO2
    have OO3 := keep hO3
    have H6D := keep h6D
    clear hO1 hO2 hO3 h6D k6S mS c5S
    go_wp2
    refine leave_mark H6D.out ?_
    have hb6 : Below W.heap.size W w6 := J5.out.grown OO3.out (by exact J5.out.size) (fun k e => by cases e; exact Nat.le_refl _)
    refine ⟨_, results_tmp rfl _ _ _, rfl, ?_, hb6.grown (grownBy_mark _ D _) hb6.size (fun k e => by cases e; exact hDW)⟩
    exact own_kept OO2.out (fun k hk => by cases hk; exact World.putObj_heap_other (Ne.symm hDG))
set_option maxHeartbeats 400000 in
theorem fsample_nil (W : World) (n : Nat) : Calls Try.prog 15 #[.pointer none, .int .u64 n] W fun e w' => e = .returned (.tuple #[.string .empty, .bool false]) ∧ Below W.heap.size W w' := by
  have mP := fmembers_nil W
  go_enter Try.func15, Try.ntmps15
  go_wp2_with fail
  refine mP.mono ?_
  rintro _ w1 ⟨rfl, _, hb⟩
  have HB := keep hb
  clear mP hb
  go_wp2
  refine bodyPost_ret (results_tmp2 rfl _ _ _) rfl ?_
  exact ⟨rfl, HB.out⟩
end Go.Proofs.Ytmokahcjkokanaa

namespace Go.Proofs.Ytmokahcjkokanaa
open Go.RowKit Go.Shelf
attribute [local go_sem] Oper.semAt_some
/-- a flock's pointer, or nil -/
def pv (p : Option Nat) : Value := .pointer (p.map fun R => ⟨R, 0, none⟩)
/-- a flock, or none, has the members ks -/
def FlkO (W : World) (p : Option Nat) (ks : List ByteArray) : Prop :=
  match p with
  | none => ks = []
  | some R => Flk W R ks
theorem FlkO.below {W w : World} {p : Option Nat} {ks : List ByteArray} (h : FlkO W p ks) (hb : Below W.heap.size W w) : FlkO w p ks := by
  cases p with
  | none => exact h
  | some R => exact Flk.below h hb
theorem flk_each {wr : World} {p : Option Nat} {ks : List ByteArray} (hf : FlkO wr p ks) : ∃ (dv : Value) (es : List Ent), (dv = .pointer none ∨ ∃ x, dv = .pointer (some ⟨x, 0, none⟩)) ∧ ks = es.map (fun e : Ent => e.1) ∧ (es.map (fun e : Ent => e.1)).Nodup ∧ (∀ e ∈ es, e.1.size ≤ maxLen) ∧ es.length ≤ 2600000000000 ∧
    Calls Try.prog 28 #[pv p] wr (fun e w' => e = .returned dv ∧ w' = wr) ∧ ∀ (B : Nat) (W1 : World), Below wr.heap.size wr W1 → W1.cell? ⟨B, 0, none⟩ = some dv → Iter Try.prog 45 #[.pointer (some ⟨B, 0, none⟩)] eachV (fun _ _ => True) es W1 := by
  cases p with
  | none =>
    refine ⟨.pointer none, [], .inl rfl, hf, List.nodup_nil, fun e he => by simp at he, by simp, dictionary_nil wr, fun B W1 _ hc => iter_none (fun l => each1_nil W1 l B hc)⟩
  | some R =>
    obtain ⟨h, N, r, b, seed, s, hr, hN, hks⟩ := hf
    have hd := hr.1
    have hpp : s.pos ≤ s.old.length := by
      by_cases hy : s.young = []
      · rw [hd.2.1.rest hy]; omega
      · have := hd.2.1.move hy; omega
    have hm0 : s.old.length ≤ 5400000000000 := by have := hd.2.2.2.2.1; omega
    have hm1 : s.young.length ≤ 5400000000000 := by have := hd.2.2.2.2.2; omega
    have hal : (Dc.all s).length ≤ 2600000000000 := by have := hd.2.2.2.1; omega
    exact ⟨_, Dc.all s, .inr ⟨b, rfl⟩, hks, all_nodup hd.2.1, hd.2.2.1, hal, dictionary_any hr, fun B W1 hb hc => each_iter B b seed _ r s W1 (hd.1.below hb) hc hpp hm0 hm1 hal⟩
set_option maxRecDepth 100000 in
set_option maxHeartbeats 2000000 in
theorem tallyo_any (W : World) (ao : Option Addr) (cap : Nat) (ps : List (Option Nat × List ByteArray)) (hcell : ∀ j p, ps[j]? = some p → ∃ g o, ao = some ⟨g, o, none⟩ ∧ W.cell? ⟨g, o + j, none⟩ = some (pv p.1)) (hfl : ∀ p ∈ ps, FlkO W p.1 p.2) (hln : ps.length ≤ 2600000000000) (hsum : (ps.map (fun p => p.2.length)).sum ≤ 2600000000000) :
    Calls Try.prog 35 #[.slice ao ps.length cap] W fun e w' => e = .returned (.map (some W.heap.size)) ∧ ∃ n, Tal w' W.heap.size n (tal (ps.map (·.2))) ∧ Below W.heap.size W w' ∧ n ≤ 2600000000000 := by
  obtain ⟨W1, hW1⟩ : ∃ W1, (W.alloc (.map #[] 0)).alloc (.cells #[.map (some W.heap.size)] 70) = W1 := ⟨_, rfl⟩
  have hS1 : TlS W [] 0 [] W1 := by
    rw [← hW1]
    refine ⟨(Tal.made W).kept (Below.heap_alloc _ _ _ (by simp)), ?_, ((Below.refl _ W).alloc (Nat.le_refl _) _).alloc (by simp) _, List.nodup_nil, fun D h => by simp at h⟩
    have := heap_alloc_new (W.alloc (.map #[] 0)) (.cells #[.map (some W.heap.size)] 70)
    rwa [World.size_alloc] at this
  obtain ⟨T, hT⟩ : ∃ T, ps.length = T := ⟨_, rfl⟩
  rw [hT] at hln ⊢
  have HT := keep hT
  have HS1 := keep hS1
  have HC := keep hcell
  have HF := keep hfl
  have HSUM := keep hsum
  clear hT hS1 hcell hfl hsum
  have hmm : ∀ w, (Instr.makeMap 70 none).run Try.prog w = .ok (.map (some w.heap.size)) (w.alloc (.map #[] 0)) := fun w => rfl
  refine callsIn_wide (n := 9) |>.1 (callsIn_of_wp_marks Try.func35 rfl trivial (wpIn_wide.2 ?_) rfl)
  simp only [Try.ntmps35, List.size_toArray, List.length_cons, List.length_nil, Nat.reduceAdd, Nat.reduceSub, Array.replicate_succ, Array.replicate_zero, List.push_toArray, List.append_toArray, List.nil_append, List.cons_append]
  go_wp2
  refine wp_loop (fun a w' => ∃ (i : Nat) (n : Nat) (Ds : List Nat) (v5 v6 v11 v12 v13 v14 v15 v16 v17 v18 v19 v20 v21 v22 v23 : Value), i ≤ T ∧ a = { tmps := #[.slice ao T cap, undef, .map none, .pointer (some ⟨W.heap.size + 1, 0, none⟩), undef, v5, v6, .map (some W.heap.size), .slice ao T cap, .int .i64 T, .int .i64 i, v11, v12, v13, v14, v15, v16, v17, v18, v19, v20, v21, v22, v23, undef], defers := Ds.map fun D => { target := .collected D, args := #[] } } ∧ Kept (TlS W ((ps.take i).map (·.2)) n Ds w') ∧ Kept (n = ((ps.take i).map (fun p => p.2.length)).sum)) (fun a _ => T - (intOf (a.tmps.getD 10 undef)).toNat) ⟨0, 0, [], _, _, _, _, _, _, _, _, _, _, _, _, _, _, _, Nat.zero_le _, rfl, HS1, rfl⟩ ?_
  rintro a wr ⟨i, n, Ds, v5, v6, v11, v12, v13, v14, v15, v16, v17, v18, v19, v20, v21, v22, v23, hi, rfl, KS, KN⟩
  clear hmm
  by_cases hlt : i < T
  · have hltz : (i : Int) < (T : Int) := by omega
    have hi0 : (0 : Int) ≤ (i : Int) := by omega
    obtain ⟨p, hp⟩ : ∃ p, ps[i]? = some p := ⟨_, List.getElem?_eq_getElem (by rw [HT.out]; exact hlt)⟩
    obtain ⟨g, o, rfl, hc⟩ := HC.out i p hp
    obtain ⟨a1, a2, a3, a4, a5⟩ := KS.out
    have hcw : wr.cell? ⟨g, o + i, none⟩ = some (pv p.1) := (a3.cell (p := ⟨g, o + i, none⟩) (World.block_lt_of_cell? _ _ hc)).trans hc
    obtain ⟨dv, es, hdv, hks, hnd, hsz, hal, mD, hit⟩ := flk_each ((HF.out p (List.mem_of_getElem? hp)).below a3)
    have HP := keep hp
    have HKS := keep hks
    have HIT := keep hit
    have HND := keep hnd
    have HSZ := keep hsz
    have A1 := keep a1
    have A2 := keep a2
    have A3 := keep a3
    have A4 := keep a4
    have A5 := keep a5
    clear hp hc hks hnd hsz hit a1 a2 a3 a4 a5 KS
    obtain ⟨p1, p2⟩ := p
    dsimp only at hcw mD
    obtain ⟨pq, hpq⟩ : ∃ pq, pv p1 = pq := ⟨_, rfl⟩
    rw [hpq] at hcw mD
    clear hpq
    go_wp2_with fail
    refine mD.mono ?_
    rintro _ w' ⟨rfl, hw'⟩
    obtain rfl := hw'.symm
    clear mD hcw
    go_wp2_with fail
    refine (each_any _ _ hdv).mono ?_
    rintro _ w4 ⟨rfl, hw4⟩
    have hz4 : w4.heap.size = wr.heap.size + 1 := by rw [hw4]; simp
    have hb4 : Below wr.heap.size wr w4 := by rw [hw4]; exact (Below.refl _ wr).alloc (Nat.le_refl _) _
    have h4B : w4.heap[wr.heap.size]? = some (.cells #[dv] 52 (0, 0)) := by rw [hw4]; exact heap_alloc_new _ _
    have c4B : w4.cell? ⟨wr.heap.size, 0, none⟩ = some dv := by rw [cell_of_row _ _ _ _ _ _ h4B]; rfl
    have hsw : W.heap.size + 1 < wr.heap.size := (Array.getElem?_eq_some_iff.1 A2.out).1
    have hI0 : TlI W ((ps.take i).map (·.2)) n Ds (es) (fun _ => False) 0 w4 := by
      refine ⟨⟨id, ?_⟩, ⟨id, (hb4.block _ hsw).trans A2.out⟩, A3.out.trans (hb4.mono A3.out.size), fun _ h => h.elim, fun D hD => ⟨id, (hb4.block _ (Array.getElem?_eq_some_iff.1 (A5.out D hD).2).1).trans (A5.out D hD).2⟩⟩
      have := A1.out.kept (hb4.block _ A1.out.lt)
      simpa [inB] using this
    have HI0 := keep hI0
    have C4B := keep c4B
    have HB4 := keep hb4
    clear hw4 h4B c4B hI0 hb4
    go_wp2
    refine (wpIn_wide (n := 9)).1 (range_own (α := Ent) (gf := 45) (lb := #[.pointer (some ⟨wr.heap.size, 0, none⟩)]) (by simp [Act.eval]) (enters_of Try.func45 (by kernel_rfl) rfl) (encs := eachV) (L := es) (fun _ => rfl)
      (fun W1 hb => HIT.out wr.heap.size W1 (HB4.out.trans (hb.mono HB4.out.size)) ((hb.cell (p := ⟨wr.heap.size, 0, none⟩) (by show wr.heap.size < w4.heap.size; omega)).trans C4B.out))
      (TlI W ((ps.take i).map (·.2)) n Ds (es)) (fun _ _ _ _ => False) TlI.abd (fun _ _ _ _ _ _ h _ _ => h) HI0.out (fun _ _ _ _ => trivial) ?round ?done ?stop)
    case stop => exact fun _ _ _ _ _ _ h => h.elim
    case round =>
      intro M' l' m x W1 hI hx hl hrec hM'
      obtain ⟨e1, e2⟩ := x
      have HI := keep hI
      have HX := keep hx
      have HM' := keep hM'
      clear hI hx hM' HI0 hrec
      unfold eachV
      gi_wp2
      refine ⟨Mk.refl _ _, fun rl => ?_⟩
      obtain ⟨W2, hW2⟩ : ∃ W2, W1.putObj l' (.loop rl) = W2 := ⟨_, rfl⟩
      rw [hW2]
      have hI2 : TlI W ((ps.take i).map (·.2)) n Ds (es) M' m W2 := TlI.abd _ _ _ _ _ HI.out (by rw [← hW2]; exact Sep.put _ _ hl) (Ext.refl _ _ _)
      obtain ⟨⟨j1, j1'⟩, ⟨j2, j2'⟩, j5, j6, j7⟩ := hI2
      have hml : m < (es).length := (List.getElem?_eq_some_iff.1 HX.out).1
      have hes : e1.size ≤ maxLen := HSZ.out _ (List.mem_of_getElem? HX.out)
      have cS : W2.cell? ⟨W.heap.size + 1, 0, none⟩ = some (.map (some W.heap.size)) := by rw [cell_of_row _ _ _ _ _ _ j2']; rfl
      have hlk := j1'.look e1 hes
      have hnt := take_key HND.out HX.out
      rw [show inB e1 (((es).take m).map (fun e : Ent => e.1)) = false from by
        cases hh : inB e1 (((es).take m).map (fun e : Ent => e.1)) with
        | false => rfl
        | true => exact absurd ((inB_iff _ _).1 hh) hnt, if_neg (by simp), Nat.add_zero] at hlk
      have hn9 : n + m < maxLen := by
        have e1 := KN.out
        have e2 : n ≤ 2600000000000 := by
          rw [e1]
          refine Nat.le_trans ?_ HSUM.out
          exact sum_take _ _ _
        unfold maxLen
        omega
      have htl : tal ((ps.take i).map (·.2)) e1 ≤ 2600000000000 := by
        refine Nat.le_trans (tal_le _ _) ?_
        rw [List.length_map, List.length_take]
        omega
      obtain ⟨W3, hup, hT3, hg3⟩ := j1'.put e1 hes hn9 (tal ((ps.take i).map (·.2)) e1 + 1) (by omega) (by omega)
      have hwr : IntKind.i64.wrap (((tal ((ps.take i).map (·.2)) e1 : Nat) : Int) + 1) = ((tal ((ps.take i).map (·.2)) e1 + 1 : Nat) : Int) := by rw [IntKind.wrap_i64]; omega
      have fin : Kept (rdPost (TlI W ((ps.take i).map (·.2)) n Ds (es)) (fun _ _ _ _ => False) M' (m + 1) W2 .normal { tmps := #[], defers := [] } W3) := by
        have same : ∀ k, k < W2.heap.size → k ≠ W.heap.size → W3.heap[k]? = W2.heap[k]? := fun k hk hn => hg3.block k hk (fun e => hn (Option.some.inj e))
        refine ⟨⟨hg3.size, fun k hk => ?_⟩, ⟨j1, ?_⟩, ⟨j2, (same _ (Array.getElem?_eq_some_iff.1 j2').1 (by omega)).trans j2'⟩, ?_, j6, fun D hD => ⟨(j7 D hD).1, ?_⟩⟩
        · have hkb := HM'.out k hk
          have : W2.heap.size = W1.heap.size := by rw [← hW2]; simp
          exact same k (by omega) (fun e => j1 (e ▸ hk))
        · have := hT3
          rw [take_count HX.out] at this
          exact this
        · exact j5.trans ((Below.refl _ W2).grown hg3 j5.size (fun k e => by cases e; exact Nat.le_refl _))
        · have hD' := (A5.out D hD).1
          exact (same D (Array.getElem?_eq_some_iff.1 (j7 D hD).2).1 (by omega)).trans (j7 D hD).2
      obtain ⟨v, hv⟩ : ∃ v, tal ((ps.take i).map (·.2)) e1 = v := ⟨_, rfl⟩
      rw [hv] at hlk hup hwr
      rw [show ((v + 1 : Nat) : Int) = (v : Int) + 1 from by omega] at hup hwr
      clear hT3 hg3 j1 j1' j2 j2' j5 j6 j7 hW2 hnt hv htl hn9 hes hml HI HX HM' A5 A4 A1 A2 A3
      gi_wp2
      exact fin.out
    case done =>
      intro M' D W5 hI hD hDk hM'
      obtain ⟨⟨j1, j1'⟩, ⟨j2, j2'⟩, j5, j6, j7⟩ := hI
      rw [List.take_length] at j1'
      have hps : ((ps.take (i + 1)).map (·.2)) = (ps.take i).map (·.2) ++ [(es).map (fun e : Ent => e.1)] := by
        obtain ⟨hm, he⟩ := List.getElem?_eq_some_iff.1 HP.out
        rw [List.take_succ_eq_append_getElem hm, he, List.map_append, List.map_singleton]
        show _ ++ [p2] = _
        rw [show p2 = es.map (fun e : Ent => e.1) from HKS.out]
      have hpn : ((ps.take (i + 1)).map (fun p : Option Nat × List ByteArray => p.2.length)).sum = n + (es).length := by
        obtain ⟨hm, he⟩ := List.getElem?_eq_some_iff.1 HP.out
        rw [List.take_succ_eq_append_getElem hm, he, List.map_append, List.map_singleton, List.sum_append, ← KN.out]
        show n + [p2.length].sum = _
        rw [show p2 = es.map (fun e : Ent => e.1) from HKS.out]
        simp
      have KS5 : Kept (TlS W ((ps.take (i + 1)).map (·.2)) (n + (es).length) (D :: Ds) W5) := by
        refine ⟨?_, j2', j5, List.nodup_cons.2 ⟨fun h => (j7 D h).1 hD, A4.out⟩, fun D' hD' => ?_⟩
        · rw [hps]
          rw [show tal ((ps.take i).map (·.2) ++ [(es).map (fun e : Ent => e.1)]) = fun k => tal ((ps.take i).map (·.2)) k + if inB k ((es).map (fun e : Ent => e.1)) then 1 else 0 from funext fun k => tal_snoc _ _ _]
          exact j1'
        · rcases List.mem_cons.1 hD' with rfl | h
          · have h1 := hM' _ hD
            exact ⟨by omega, hDk⟩
          · exact ⟨(A5.out D' h).1, (j7 D' h).2⟩
      have hwi : IntKind.i64.wrap ((i : Int) + 1) = ((i + 1 : Nat) : Int) := by rw [IntKind.wrap_i64]; omega
      clear j1 j1' j2 j2' j5 j6 j7 hM' hDk hD HI0 hps
      go_wp2
      exact ⟨⟨i + 1, _, D :: Ds, _, _, _, _, _, _, _, _, _, _, _, _, _, _, _, by omega, rfl, KS5, hpn.symm⟩, by simp [intOf]; omega⟩
  · have hltz : ¬ (i : Int) < (T : Int) := by omega
    obtain rfl : i = T := by omega
    obtain ⟨a1, a2, a3, a4, a5⟩ := KS.out
    have c2 : wr.cell? ⟨W.heap.size + 1, 0, none⟩ = some (.map (some W.heap.size)) := by rw [cell_of_row _ _ _ _ _ _ a2]; rfl
    have A1 := keep a1
    have A3 := keep a3
    have A4 := keep a4
    have A5 := keep a5
    clear a1 a2 a3 a4 a5 KS
    go_wp2
    refine leave_marks Ds wr A4.out (fun D hD => (A5.out D hD).2) (fun W' hs => ?_)
    refine ⟨_, results_tmp rfl _ _ _, rfl, n, ?_, ?_, ?_⟩
    · have := A1.out.kept (hs.2.2 _ A1.out.lt (fun h => by have := (A5.out _ h).1; omega))
      rwa [List.take_of_length_le (by rw [HT.out]; exact Nat.le_refl _)] at this
    · exact A3.out.trans (hs.below A3.out.size (fun k hk => by have := (A5.out k hk).1; omega))
    · rw [KN.out, List.take_of_length_le (by rw [HT.out]; exact Nat.le_refl _)]
      exact HSUM.out
end Go.Proofs.Ytmokahcjkokanaa
