/-
  Contracts over this program: a plain row of texts beside a flock; has, short, one more text.
-/
import Derived.Test.YtmokahcjkokanaaFlWakes
import Derived.Test.YtmokahcjkokanaaFlOpen
namespace Go.Proofs.Ytmokahcjkokanaa
open Go.RowKit Go.Shelf
/-- is it too long? -/
def tol (a : ByteArray) : Bool := decide ((1048576 : Int) < (a.size : Int))
theorem tol_le {a : ByteArray} (h : tol a = false) : a.size ≤ 1048576 := by
  unfold tol at h
  have := of_decide_eq_false h
  omega
theorem tol_gt {a : ByteArray} (h : tol a = true) : decide ((1048576 : Int) < (a.size : Int)) = true := h
set_option maxHeartbeats 400000 in
theorem short_any (a : ByteArray) (w : World) :
    Calls Try.prog 9 #[.string a] w fun e w' => e = .returned (.bool (!tol a)) ∧ w' = w := by
  go_enter Try.func9, Try.ntmps9
  go_wp2
  go_ret
  refine ⟨?_, rfl⟩
  unfold tol
  by_cases h : (1048576 : Int) < (a.size : Int)
  · rw [decide_eq_true h]; simp; omega
  · rw [decide_eq_false h]; simp; omega
theorem inB_take {l : List ByteArray} {k : Nat} {x s : ByteArray} (he : l[k]? = some x) : inB s (l.take (k + 1)) = (inB s (l.take k) || decide (x = s)) := by
  obtain ⟨hk, rfl⟩ := List.getElem?_eq_some_iff.1 he
  rw [List.take_succ_eq_append_getElem hk, inB_snoc]
theorem inB_of {l : List ByteArray} {k : Nat} {s : ByteArray} (he : l[k]? = some s) : inB s l = true := (inB_iff _ _).2 (List.mem_of_getElem? he)
set_option maxHeartbeats 600000 in
theorem hasl_any (B : Nat) (w : World) (v : Value) (l : List ByteArray) (h : Ks B w v l) (s : ByteArray) :
    Calls Try.prog 10 #[v, .string s] w fun e w' => e = .returned (.bool (inB s l)) ∧ w' = w := by
  obtain ⟨ao, cap, rfl, hao⟩ := ks_form h
  have hl := ks_max h
  unfold maxLen at hl
  obtain ⟨n, hn⟩ : ∃ n, l.length = n := ⟨_, rfl⟩
  have H := keep h
  have HN := keep hn
  rw [hn] at hl ⊢
  clear h hn
  go_enter Try.func10, Try.ntmps10
  go_wp2
  go_loop [9] (fun i => ∃ k : Nat, k ≤ n ∧ i = .int .i64 k ∧ Kept (inB s (l.take k) = false)) (fun i => n - (intOf i).toNat)
  case atStart => exact ⟨0, Nat.zero_le _, rfl, rfl⟩
  case round =>
    obtain ⟨k, hk, rfl, A⟩ := hrel
    by_cases hlt : k < n
    · have hltz : (k : Int) < (n : Int) := by omega
      have hk0 : (0 : Int) ≤ (k : Int) := by omega
      obtain ⟨e, he⟩ : ∃ e, l[k]? = some e := ⟨_, List.getElem?_eq_getElem (by rw [HN.out]; exact hlt)⟩
      obtain ⟨g, rfl⟩ : ∃ g, ao = some ⟨g, 0, none⟩ := by
        rcases hao with h | ⟨g, h, _⟩
        · rw [h] at he; simp at he
        · exact ⟨g, h⟩
      have c0 := H.out.at he
      have HE := keep he
      clear he hao
      by_cases hq : e = s
      · subst hq
        go_wp2
        go_ret
        exact ⟨by rw [inB_of HE.out]; rfl, rfl⟩
      · have hqb : (e.toList == s.toList) = false := beq_eq_false_iff_ne.2 (fun e => hq (bytes_eq e))
        have HQ := keep hq
        clear hq
        go_wp2
        go_round
        case measure => simp [intOf]; omega
        case rel =>
          refine ⟨k + 1, by omega, by go_num, ?_⟩
          show inB s (l.take (k + 1)) = false
          rw [inB_take HE.out, A.out, decide_eq_false HQ.out]
          rfl
    · have hltz : ¬ (k : Int) < (n : Int) := by omega
      obtain rfl : k = n := by omega
      go_wp2
      go_ret
      refine ⟨?_, rfl⟩
      have := A.out
      rw [List.take_of_length_le (by rw [HN.out]; exact Nat.le_refl _)] at this
      rw [this]
      rfl
/-- one more text behind a row of one's own: the run of append -/
theorem push_txt {B : Nat} {v : Value} {l : List ByteArray} {W2 : World} (e1 : ByteArray) (h : Ks B W2 v l) (hB : B ≤ W2.heap.size) (hl : l.length ≤ 8000000000000) :
    ∃ g cap W3, (Builtin.append_ #[27, 27] 27 #[v, .slice (some ⟨W2.heap.size, 0, none⟩) 1 1]).run Try.prog (W2.alloc (.cells #[.string e1] 9)) = .ok (.slice (some ⟨g, 0, none⟩) (l.length + 1) cap) W3 ∧
      Ks B W3 (.slice (some ⟨g, 0, none⟩) (l.length + 1) cap) (l ++ [e1]) ∧ W2.heap.size < W3.heap.size ∧ (W3.os = W2.os ∧ W3.tape = W2.tape ∧ W3.output = W2.output) ∧ (v.ownBlock = some g ∨ W2.heap.size ≤ g) ∧ ∀ k, k < W2.heap.size → v.ownBlock ≠ some k → W3.heap[k]? = W2.heap[k]? := by
  obtain ⟨i0, hi0, hz0, hz1, hzb⟩ := info_parts info_strK
  obtain ⟨ao, cap0, rfl, _⟩ := ks_form h
  unfold Ks at h
  obtain ⟨g, cap, W3, hrun, hown, hgr, hat, hg3⟩ := run_append_lies (P := Try.prog) (w := W2.alloc (.cells #[.string e1] 9)) 27 27 B 9 i0 _ 1 16 Try.underlying27 hi0 hz0 hz1 hzb rfl (by omega) (.slice ao l.length cap0) l.length (l.map Value.string) (h.alloc _) ⟨W2.heap.size, 0, none⟩ 1 1 [.string e1] rfl (World.news_of_block (cs := #[.string e1]) (t := 9) (fr := (0, 0)) (heap_alloc_new W2 _)) (by simp [Value.oneCell']) (by omega) (by unfold maxLen; omega) (by omega) (by simp; omega) (W2.heap.size + 1) (by simp)
  have hs3 : W2.heap.size + 1 ≤ W3.heap.size := by have := hgr.size; simpa using this
  refine ⟨g, cap, W3, hrun, ?_, by omega, ⟨hgr.os, hgr.tape, hgr.output⟩, ?_, fun k hk hn => ?_⟩
  · unfold Ks
    rw [List.map_append, List.length_append]
    exact hown
  · rcases hat with h | h
    · exact .inl h
    · exact .inr (by omega)
  · rw [hgr.block k (by simp; omega) (fun e => hn e.symm), Below.heap_alloc _ _ _ hk]
/-- a flock in new blocks, and a plain row of texts in others -/
def Fb (h : ByteArray → Nat) (N : Nat) (W w : World) (r : Roles) (x : Nat) (s : Sx) (v : Value) (l : List ByteArray) : Prop :=
  Rn h N W w r (W.heap.size + 1) W.heap.size x s ∧ Ks W.heap.size w v l ∧ ∀ g, v.ownBlock = some g → rr r (W.heap.size + 1) g = (0, 0)
theorem Rn.fresh {h : ByteArray → Nat} {N : Nat} {W w : World} {r : Roles} {R b seed : Nat} {s : Sx} (hr : Rn h N W w r R b seed s) {g : Nat} (hg : w.heap.size ≤ g) : rr r R g = (0, 0) := by
  refine rr_zero.2 ⟨by have := hr.1.lt; omega, ?_⟩
  rcases Classical.em (r g = (0, 0)) with e | e
  · exact e
  · exact absurd (hr.1.1.1.1 g e) (by omega)
theorem Fb.op {h : ByteArray → Nat} {N N' : Nat} {W w w' : World} {r r' : Roles} {x : Nat} {s s' : Sx} {v : Value} {l : List ByteArray} (hb : Fb h N W w r x s v l) (h1 : Rec h N' w' r' (W.heap.size + 1) W.heap.size x s') (hf : Fr w (rr r (W.heap.size + 1)) w' (rr r' (W.heap.size + 1))) : Fb h N' W w' r' x s' v l :=
  ⟨hb.1.step h1 hf, own_kept hb.2.1 (fun k hk => (hf.2.2 k (own_lt hb.2.1 hk) (hb.2.2 k hk)).1), fun g hg => (hf.2.2 g (own_lt hb.2.1 hg) (hb.2.2 g hg)).2⟩
theorem Fb.below {h : ByteArray → Nat} {N : Nat} {W w w' : World} {r : Roles} {x : Nat} {s : Sx} {v : Value} {l : List ByteArray} (hb : Fb h N W w r x s v l) (hw : Below w.heap.size w w') : Fb h N W w' r x s v l :=
  ⟨hb.1.below hw, own_kept hb.2.1 (fun k hk => hw.block k (own_lt hb.2.1 hk)), hb.2.2⟩
theorem Fb.more {h : ByteArray → Nat} {N N' : Nat} {W w : World} {r : Roles} {x : Nat} {s : Sx} {v : Value} {l : List ByteArray} (hb : Fb h N W w r x s v l) (hN : N ≤ N') : Fb h N' W w r x s v l := ⟨hb.1.more hN, hb.2⟩
theorem Fb.row {h : ByteArray → Nat} {N : Nat} {W w w' : World} {r : Roles} {x : Nat} {s : Sx} {v v' : Value} {l l' : List ByteArray} (hb : Fb h N W w r x s v l) (hs : w.heap.size ≤ w'.heap.size) (ho : w'.os = w.os ∧ w'.tape = w.tape ∧ w'.output = w.output)
    (hk : ∀ k, k < w.heap.size → v.ownBlock ≠ some k → w'.heap[k]? = w.heap[k]?) (hR : Ks W.heap.size w' v' l') (hat : ∀ g, v'.ownBlock = some g → v.ownBlock = some g ∨ w.heap.size ≤ g) : Fb h N W w' r x s v' l' := by
  obtain ⟨h1, h2, h3⟩ := hb
  refine ⟨⟨h1.1.kept hs (fun k hk1 hk2 => hk k hk1 (fun e => hk2 (h3 k e))), h1.2.1, h1.2.2.1, h1.2.2.2.trans ⟨ho.1, ho.2.1, ho.2.2, hs, fun k hk1 => hk k (Nat.lt_of_lt_of_le hk1 h1.2.2.2.size) (fun e => ?_)⟩⟩, hR, fun g hg => ?_⟩
  · have := (World.ownsRow.lt h2 k e).1
    omega
  · rcases hat g hg with e | e
    · exact h3 g e
    · exact h1.fresh e
/-- a row in new blocks takes the place of the row -/
theorem Fb.fresh {h : ByteArray → Nat} {N : Nat} {W w w' : World} {r : Roles} {x : Nat} {s : Sx} {v v' : Value} {l l' : List ByteArray} (hb : Fb h N W w r x s v l) (hw : Below w.heap.size w w') (hR : Ks w.heap.size w' v' l') : Fb h N W w' r x s v' l' :=
  ⟨(hb.below hw).1, hR.more hb.1.2.2.2.size, fun g hg => hb.1.fresh (World.ownsRow.lt hR g hg).1⟩
/-- a plain row of texts has what a table has -/
def Lk (s : Sx) (l : List ByteArray) : Prop := l.Nodup ∧ (∀ k, inB k l = (lk s k).isSome) ∧ l.length = ln s
theorem lk_empty : Lk Dc.none0 [] := ⟨List.nodup_nil, fun _ => rfl, rfl⟩
theorem Lk.sam {s s' : Sx} {l : List ByteArray} (h : Lk s l) (hs : Samd s s') : Lk s' l := ⟨h.1, fun k => by rw [hs.1 k]; exact h.2.1 k, by rw [hs.2]; exact h.2.2⟩
theorem Lk.add {s s' : Sx} {l : List ByteArray} {f : ByteArray} (h : Lk s l) (hs : Setd s s' f ()) (hn : inB f l = false) : Lk s' (l ++ [f]) := by
  have hf : lk s f = none := by have := h.2.1 f; rw [hn] at this; cases hh : lk s f with | none => rfl | some x => rw [hh] at this; cases this
  have hnm : f ∉ l := fun hm => by rw [(inB_iff _ _).2 hm] at hn; cases hn
  refine ⟨?_, fun k => ?_, ?_⟩
  · rw [List.nodup_append]
    exact ⟨h.1, by simp, fun a ha b hb e => by simp at hb; exact hnm (hb ▸ e ▸ ha)⟩
  · rw [inB_snoc, hs.1 k, h.2.1 k]
    by_cases e : k = f
    · subst e; simp
    · rw [if_neg e, decide_eq_false (fun e' => e e'.symm), Bool.or_false]
  · rw [hs.2, hf, List.length_append, h.2.2]; rfl
theorem filter_len {f : ByteArray} : ∀ {l : List ByteArray}, l.Nodup → (l.filter (fun x => decide (x ≠ f))).length = l.length - (if inB f l then 1 else 0) := by
  intro l
  induction l with
  | nil => intro _; rfl
  | cons a l ih =>
    intro hn
    rw [List.nodup_cons] at hn
    have hi := ih hn.2
    by_cases e : a = f
    · subst e
      have hna : inB a l = false := by
        cases hh : inB a l with
        | false => rfl
        | true => exact absurd ((inB_iff _ _).1 hh) hn.1
      rw [hna] at hi
      rw [List.filter_cons_of_neg (by simp), hi, (inB_iff _ _).2 (by simp)]
      simp
    · rw [List.filter_cons_of_pos (by simpa using e), List.length_cons, hi, List.length_cons]
      have he : inB f (a :: l) = inB f l := by unfold inB; rw [List.any_cons, decide_eq_false e, Bool.false_or]
      rw [he]
      cases hh : inB f l with
      | false => simp
      | true =>
        have := List.length_pos_of_mem ((inB_iff _ _).1 hh)
        simp
        omega
theorem Lk.del {s s' : Sx} {l : List ByteArray} {f : ByteArray} (h : Lk s l) (hs : Deld s s' f) : Lk s' (l.filter (fun x => decide (x ≠ f))) := by
  refine ⟨h.1.filter _, fun k => ?_, ?_⟩
  · rw [hs.1 k]
    by_cases e : k = f
    · rw [if_pos e]
      cases hh : inB k (l.filter (fun x => decide (x ≠ f))) with
      | false => rfl
      | true => have := (List.mem_filter.1 ((inB_iff _ _).1 hh)).2; simp [e] at this
    · rw [if_neg e, ← h.2.1 k]
      cases hh : inB k l with
      | false =>
        cases h2 : inB k (l.filter (fun x => decide (x ≠ f))) with
        | false => rfl
        | true => rw [(inB_iff _ _).2 (List.mem_filter.1 ((inB_iff _ _).1 h2)).1] at hh; cases hh
      | true => exact (inB_iff _ _).2 (List.mem_filter.2 ⟨(inB_iff _ _).1 hh, by simpa using e⟩)
  · rw [filter_len h.1, hs.2, h.2.1 f, h.2.2]
theorem Lk.perm {h : ByteArray → Nat} {s : Sx} {l : List ByteArray} (hI : Dc.Inv h s) (hL : Lk s l) : l.Perm (kys s) :=
  perm_of_mem hL.1 (kys_nodup hI) (fun k => by rw [← inB_iff, hL.2.1 k, mem_kys hI])
/-- the box of an op -/
theorem box_at {w : World} {X : Nat} {o : Stp} (h : w.heap[X]? = some (.cells o.cells 29 (0, 0))) :
    w.cell? ⟨X, 1, none⟩ = some (.int .i64 o.op) ∧ w.cell? ⟨X, 2, none⟩ = some (.string o.f) := by
  unfold Stp.cells at h
  refine ⟨?_, ?_⟩ <;> simp [World.cell?, h]
end Go.Proofs.Ytmokahcjkokanaa
