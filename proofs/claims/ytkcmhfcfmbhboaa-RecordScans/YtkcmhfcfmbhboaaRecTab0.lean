/-
  Contracts over this program: a plain row of pairs beside a record; find, without, fits.
-/
import Derived.Test.YtkcmhfcfmbhboaaRecSample
import Derived.Test.YtkcmhfcfmbhboaaRecOpen
namespace Go.Proofs.Ytkcmhfcfmbhboaa
open Go.RowKit Go.Shelf
theorem own_zero {w : World} {B e s : Nat} {v : Value} {n : Nat} {xs : List Value} (h : w.ownsRow B e s v n xs) : w.ownsRow 0 e s v n xs := by
  refine ⟨h.1, ?_⟩
  rcases h.2 with h' | ⟨g, cap, cur, h1, _, h2⟩
  · exact .inl h'
  · exact .inr ⟨g, cap, cur, h1, Nat.zero_le _, h2⟩
/-- a row of pairs lies in a slice of one's own -/
def Rw (B : Nat) (w : World) (v : Value) (l : List Ent) : Prop := w.ownsRow B 35 2 v l.length (enL l)
theorem Rw.form {B : Nat} {w : World} {v : Value} {l : List Ent} (h : Rw B w v l) : ∃ ao cap, v = .slice ao l.length cap ∧ (l = [] ∨ ∃ g, ao = some ⟨g, 0, none⟩ ∧ g < w.heap.size ∧ B ≤ g) := by
  rcases h.2 with ⟨rfl, h0⟩ | ⟨g, cap, cur, rfl, hb, hg, h1, h2, _⟩
  · exact ⟨none, 0, by rw [h0], .inl (List.length_eq_zero_iff.1 h0)⟩
  · exact ⟨_, cap, rfl, .inr ⟨g, rfl, (Array.getElem?_eq_some_iff.1 hg).1, hb⟩⟩
theorem Rw.at {B : Nat} {w : World} {g n cap p : Nat} {l : List Ent} {e : Ent} (h : Rw B w (.slice (some ⟨g, 0, none⟩) n cap) l) (hp : l[p]? = some e) :
    w.cell? ⟨g, p * 2, none⟩ = some (.string e.1) ∧ w.cell? ⟨g, p * 2 + 1, none⟩ = some (.string e.2) := Lie.at (own_zero h) hp
theorem Rw.kept {B : Nat} {w w' : World} {v : Value} {l : List Ent} (h : Rw B w v l) (hk : ∀ k, v.ownBlock = some k → w'.heap[k]? = w.heap[k]?) : Rw B w' v l := own_kept h hk
theorem Rw.lt {B : Nat} {w : World} {v : Value} {l : List Ent} (h : Rw B w v l) {k : Nat} (hk : v.ownBlock = some k) : k < w.heap.size := own_lt h hk
set_option maxHeartbeats 600000 in
theorem find_any (B : Nat) (w : World) (v : Value) (l : List Ent) (h : Rw B w v l) (f : ByteArray) (hl : l.length ≤ 2600000000000) :
    Calls Try.prog 7 #[v, .string f] w fun e w' => (∃ a : Int, e = .returned (.int .i64 a) ∧ AtIs l f a) ∧ w' = w := by
  obtain ⟨ao, cap, rfl, hao⟩ := h.form
  obtain ⟨n, hn⟩ : ∃ n, l.length = n := ⟨_, rfl⟩
  have H := keep h
  have HN := keep hn
  rw [hn] at hl ⊢
  clear h hn
  go_enter Try.func7, Try.ntmps7
  go_wp2
  go_loop [5] (fun i => ∃ k : Nat, k ≤ n ∧ i = .int .i64 k ∧ Kept (∀ j e, j < k → l[j]? = some e → e.1 ≠ f)) (fun i => n - (intOf i).toNat)
  case atStart => exact ⟨0, Nat.zero_le _, rfl, fun j e hj => absurd hj (Nat.not_lt_zero _)⟩
  case round =>
    obtain ⟨k, hk, rfl, A⟩ := hrel
    by_cases hlt : k < n
    · have hltz : (k : Int) < (n : Int) := by omega
      have hk0 : (0 : Int) ≤ (k : Int) := by omega
      obtain ⟨e, he⟩ : ∃ e, l[k]? = some e := ⟨_, List.getElem?_eq_getElem (by rw [HN.out]; exact hlt)⟩
      obtain ⟨g, rfl⟩ : ∃ g, ao = some ⟨g, 0, none⟩ := by
        rcases hao with h | ⟨g, h, _⟩
        · rw [h] at he; simp at he
        · exact ⟨g, h⟩
      obtain ⟨c0, c1⟩ := H.out.at he
      have HE := keep he
      clear he c1 hao
      obtain ⟨e1, e2⟩ := e
      dsimp only at c0
      by_cases hq : e1 = f
      · subst hq
        go_wp2
        go_ret
        exact ⟨⟨k, rfl, .inr ⟨k, e2, rfl, HE.out⟩⟩, rfl⟩
      · have hqb : (e1.toList == f.toList) = false := beq_eq_false_iff_ne.2 (fun e => hq (bytes_eq e))
        have HQ := keep hq
        clear hq
        go_wp2
        go_round
        case measure => simp [intOf]; omega
        case rel =>
          refine ⟨k + 1, by omega, by go_num, fun j e' hj he' => ?_⟩
          by_cases e : j = k
          · subst e
            rw [HE.out] at he'
            cases he'
            exact HQ.out
          · exact A.out j e' (by omega) he'
    · have hltz : ¬ (k : Int) < (n : Int) := by omega
      obtain rfl : k = n := by omega
      go_wp2
      go_ret
      refine ⟨⟨-1, rfl, .inl ⟨rfl, fun e he => ?_⟩⟩, rfl⟩
      obtain ⟨j, hj⟩ := List.getElem?_of_mem he
      exact A.out j e (by rw [← HN.out]; exact (List.getElem?_eq_some_iff.1 hj).1) hj
set_option maxHeartbeats 400000 in
theorem fits_any (a : ByteArray) (w : World) :
    Calls Try.prog 9 #[.string a] w fun e w' => e = .returned (.bool (!tol a)) ∧ w' = w := by
  go_enter Try.func9, Try.ntmps9
  go_wp2
  go_ret
  refine ⟨?_, rfl⟩
  unfold tol
  by_cases h : (1048576 : Int) < (a.size : Int)
  · rw [decide_eq_true h]; simp; omega
  · rw [decide_eq_false h]; simp; omega
/-- one more pair behind a row of one's own: the run of append -/
theorem push_row {B : Nat} {v : Value} {l : List Ent} {W2 : World} (e1 e2 : ByteArray) (h : Rw B W2 v l) (hB : B ≤ W2.heap.size) (hl : l.length ≤ 2600000000000) :
    ∃ g cap W3, (Builtin.append_ #[26, 26] 26 #[v, .slice (some ⟨W2.heap.size, 0, none⟩) 1 1]).run Try.prog (W2.alloc (.cells #[.string e1, .string e2] 35)) = .ok (.slice (some ⟨g, 0, none⟩) (l.length + 1) cap) W3 ∧
      Rw B W3 (.slice (some ⟨g, 0, none⟩) (l.length + 1) cap) (l ++ [(e1, e2)]) ∧ W2.heap.size < W3.heap.size ∧ (W3.os = W2.os ∧ W3.tape = W2.tape ∧ W3.output = W2.output) ∧ (v.ownBlock = some g ∨ W2.heap.size ≤ g) ∧ ∀ k, k < W2.heap.size → v.ownBlock ≠ some k → W3.heap[k]? = W2.heap[k]? := by
  obtain ⟨i0, hi0, hz0, hz1, hzb⟩ := info_parts info_pair
  obtain ⟨ao, cap0, rfl, _⟩ := h.form
  obtain ⟨g, cap, W3, hrun, hown, hgr, hat, hg3⟩ := run_append_lies (P := Try.prog) (w := W2.alloc (.cells #[.string e1, .string e2] 35)) 26 26 B 35 i0 _ 2 32 Try.underlying26 hi0 hz0 hz1 hzb rfl (by omega) (.slice ao l.length cap0) l.length (enL l) (h.alloc _) ⟨W2.heap.size, 0, none⟩ 1 1 [.string e1, .string e2] rfl (World.news_of_block (cs := #[.string e1, .string e2]) (t := 35) (fr := (0, 0)) (heap_alloc_new W2 _)) (by simp [Value.oneCell']) (by omega) (by unfold maxLen; omega) (by omega) (by simp; omega) (W2.heap.size + 1) (by simp)
  have hs3 : W2.heap.size + 1 ≤ W3.heap.size := by have := hgr.size; simpa using this
  refine ⟨g, cap, W3, hrun, ?_, by omega, ⟨hgr.os, hgr.tape, hgr.output⟩, ?_, fun k hk hn => ?_⟩
  · have e : enL (l ++ [(e1, e2)]) = enL l ++ [.string e1, .string e2] := by unfold enL; rw [List.flatMap_append]; rfl
    unfold Rw
    rw [e, List.length_append]
    exact hown
  · rcases hat with h | h
    · exact .inl h
    · exact .inr (by omega)
  · rw [hgr.block k (by simp; omega) (fun e => hn e.symm), Below.heap_alloc _ _ _ hk]
theorem erase_step {l : List Ent} {k p : Nat} {e : Ent} (he : l[k]? = some e) : (l.take (k + 1)).eraseIdx p = if k = p then (l.take k).eraseIdx p else (l.take k).eraseIdx p ++ [e] := by
  obtain ⟨hk, rfl⟩ := List.getElem?_eq_some_iff.1 he
  have hlen : (l.take k).length = k := by rw [List.length_take]; omega
  rw [List.take_succ_eq_append_getElem hk]
  by_cases h : k = p
  · subst h
    rw [if_pos rfl, List.eraseIdx_append_of_length_le (by rw [hlen]; exact Nat.le_refl _), hlen, Nat.sub_self]
    show l.take k ++ [] = _
    rw [List.append_nil]
    exact (List.eraseIdx_of_length_le (by rw [hlen]; exact Nat.le_refl _)).symm
  · rw [if_neg h]
    rcases Nat.lt_or_gt_of_ne h with h1 | h1
    · rw [List.eraseIdx_of_length_le (by simp; omega), List.eraseIdx_of_length_le (by rw [hlen]; omega)]
    · rw [List.eraseIdx_append_of_lt_length (by rw [hlen]; exact h1)]
set_option maxRecDepth 100000 in
set_option maxHeartbeats 1000000 in
theorem wout_any (B : Nat) (w : World) (v : Value) (l : List Ent) (h : Rw B w v l) (a : Int) (p : Nat) (hp : ∀ k : Nat, k < l.length → ((k : Int) = a ↔ k = p)) (hl : l.length ≤ 2600000000000) :
    Calls Try.prog 11 #[v, .int .i64 a] w fun e w' => (∃ v', e = .returned v' ∧ Rw w.heap.size w' v' (l.eraseIdx p)) ∧ Below w.heap.size w w' := by
  obtain ⟨ao, cap, rfl, hao⟩ := h.form
  obtain ⟨n, hn⟩ : ∃ n, l.length = n := ⟨_, rfl⟩
  have H := keep h
  have HN := keep hn
  have HP := keep hp
  rw [hn] at hl ⊢
  clear h hn hp
  go_enter Try.func11, Try.ntmps11
  go_wp2
  go_loopw [5, 6] (fun m i wr => ∃ k : Nat, k ≤ n ∧ i = .int .i64 k ∧ Kept (Rw w.heap.size wr m ((l.take k).eraseIdx p)) ∧ Kept (Below w.heap.size w wr)) (fun _ i _ => n - (intOf i).toNat)
  case atStart => exact ⟨0, Nat.zero_le _, rfl, ⟨rfl, .inl ⟨rfl, rfl⟩⟩, Below.refl _ _⟩
  case round =>
    obtain ⟨k, hk, rfl, KR, KB⟩ := hrel
    by_cases hlt : k < n
    · have hltz : (k : Int) < (n : Int) := by omega
      have hk0 : (0 : Int) ≤ (k : Int) := by omega
      obtain ⟨e, he⟩ : ∃ e, l[k]? = some e := ⟨_, List.getElem?_eq_getElem (by rw [HN.out]; exact hlt)⟩
      have hst := erase_step (p := p) he
      obtain ⟨g, rfl, hg⟩ : ∃ g, ao = some ⟨g, 0, none⟩ ∧ g < w.heap.size := by
        rcases hao with h | ⟨g, h, hg, _⟩
        · rw [h] at he; simp at he
        · exact ⟨g, h, hg⟩
      obtain ⟨c0, c1⟩ := H.out.at he
      replace c0 := (KB.out.cell (p := ⟨g, k * 2, none⟩) hg).trans c0
      replace c1 := (KB.out.cell (p := ⟨g, k * 2 + 1, none⟩) hg).trans c1
      by_cases hq : k = p
      · rw [if_pos hq] at hst
        have hqa : (k : Int) = a := (HP.out k (by rw [HN.out]; exact hlt)).2 hq
        have HS := keep hst
        clear hst he hq c0 c1
        subst hqa
        go_wp2
        go_roundw
        case measure => simp [intOf]; omega
        case rel => exact ⟨k + 1, by omega, by go_num, by rw [HS.out]; exact KR, KB⟩
      · rw [if_neg hq] at hst
        have hqa : ¬ (k : Int) = a := fun e => hq ((HP.out k (by rw [HN.out]; exact hlt)).1 e)
        have HS := keep hst
        obtain ⟨e1, e2⟩ := e
        dsimp only at c0 c1
        have hll : ((l.take k).eraseIdx p).length ≤ 2600000000000 := by
          have h1 := (List.eraseIdx_sublist (l.take k) p).length_le
          rw [List.length_take] at h1
          omega
        obtain ⟨g', cap', W3, hrun, hR, hs3, ho3, hat, hsame⟩ := push_row e1 e2 KR.out KB.out.size hll
        have hb3 : Below w.heap.size w W3 := KB.out.trans ⟨ho3.1, ho3.2.1, ho3.2.2, by omega, fun j hj => hsame j (by have := KB.out.size; omega) (fun e => by have := (KR.out.lt e); have := (World.ownsRow.lt KR.out j e).1; omega)⟩
        obtain ⟨ao', cp', rfl, _⟩ := KR.out.form
        have MA := keep hrun
        have HR := keep hR
        have HB3 := keep hb3
        obtain ⟨mm, hmm⟩ : ∃ mm, ((l.take k).eraseIdx p).length = mm := ⟨_, rfl⟩
        rw [hmm] at MA HR ⊢
        clear hst he hq hrun hR hs3 ho3 hat hsame hb3 hll hmm
        go_wp2_with (first | (show wpList _ _ _ ({ dst := some 22, op := Op.call { callee := Callee.builtin Builtin.append, args := _, argTypes := _ }, type := _, pos := _, after := _, guard := _ } :: _) _ _; refine wpL_app_run rfl (.tmp 16) (.tmp 21) 26 rfl _ _ _ rfl rfl MA.out ?_))
        go_roundw
        case measure => simp [intOf]; omega
        case rel => exact ⟨k + 1, by omega, by go_num, by rw [HS.out]; exact HR, HB3⟩
    · have hltz : ¬ (k : Int) < (n : Int) := by omega
      obtain rfl : k = n := by omega
      have hfin : (l.take k).eraseIdx p = l.eraseIdx p := by rw [List.take_of_length_le (by rw [HN.out]; exact Nat.le_refl _)]
      rw [hfin] at KR
      clear hfin
      go_wp2
      go_ret
      exact ⟨⟨_, rfl, KR.out⟩, KB.out⟩
end Go.Proofs.Ytkcmhfcfmbhboaa
