/-
  Contracts over this program: a chain without a key (the document's own); how keys and numbers are laid anew; mathematics of Delete.
-/
import Derived.Test.YtlfpkbjiofelkaaGreatRd7
namespace Go.Proofs.YtlfpkbjiofelkaaGreat
open Go.RowKit Go.Shelf
set_option linter.unusedVariables false
set_option linter.unusedSimpArgs false
set_option maxRecDepth 100000
namespace Rd
variable {V : Type}
/-- a row without a text -/
def filt (key : ByteArray) (l : List ByteArray) : List ByteArray := l.filter (fun x => decide (x ≠ key))
theorem filt_keys (key : ByteArray) (c : List (ByteArray × V)) : filt key (Dc.keys c) = Dc.keys (Dc.without key c) := by
  unfold filt Dc.keys Dc.without
  rw [List.filter_map]
  rfl
theorem filt_step {key : ByteArray} {l : List ByteArray} {i : Nat} {x : ByteArray} (h : l[i]? = some x) : filt key (l.take (i + 1)) = filt key (l.take i) ++ (if x = key then [] else [x]) := by
  unfold filt
  rw [List.take_add_one, h, List.filter_append]
  by_cases e : x = key
  · simp [e]
  · simp [e]
theorem tl_inj' {x y : ByteArray} (h : x.toList = y.toList) : x = y := by
  rw [ByteArray.toList_eq, ByteArray.toList_eq] at h
  obtain ⟨⟨a⟩⟩ := x
  obtain ⟨⟨b⟩⟩ := y
  simp only at h
  rw [h]
theorem mine_push {w0 w : World} {u : Value} {l : List ByteArray} {x : ByteArray} {g : Nat} (h : Mine w0 w u l) (hg : w.heap[g]? = some (.cells #[.string x] 9 (0, 0))) (hn : l.length ≤ 5000000000000) :
    ∃ o m c W, (Builtin.append_ #[43, 43] 43 #[u, .slice (some ⟨g, 0, none⟩) 1 1]).run Tryz.prog w = .ok (.slice o m c) W ∧ Mine w0 W (.slice o m c) (l ++ [x]) ∧ w.grownBy W u.ownBlock := by
  obtain ⟨o, m, c, W, r1, r2, r3, r4⟩ := tx_app w u l x g h.1 hg hn
  refine ⟨o, m, c, W, r1, ⟨r2, fun k hk => ?_, h.2.2.grown r3 h.2.2.size h.2.1⟩, r3⟩
  rcases r4 with e | e
  · exact h.2.1 k (by rw [← e]; exact hk)
  · rw [e] at hk; cases hk; exact h.2.2.size
set_option maxHeartbeats 4000000 in
theorem without_any (w : World) (key : ByteArray) (v : Value) (l : List ByteArray) (hv : Tx w v l) (hl : l.length ≤ 4000000000000) :
    Calls Tryz.prog 78 #[v, .string key] w fun e w' => ∃ u, e = .returned u ∧ Mine w w' u (filt key l) := by
  obtain ⟨ao, cp, rfl, hao⟩ := hv.form
  obtain ⟨n, hln⟩ : ∃ n, l.length = n := ⟨_, rfl⟩
  rw [hln] at hv hao hl ⊢
  have HV := keep hv
  have HAO := keep hao
  have HL := keep hln
  have HN := keep hl
  have HQ : Kept (∀ u w', Mine w w' u (filt key l) → ∃ u', Ending.returned u = .returned u' ∧ Mine w w' u' (filt key l)) := fun u w' h => ⟨u, rfl, h⟩
  clear hv hao hln hl
  go_enter Tryz.func78, Tryz.ntmps78
  go_wp2
  go_loopg [5, 10] n (fun kx s5 s10 wr => ∃ i : Nat, s10 = .int .i64 i ∧ i ≤ n ∧ n - i ≤ kx ∧ ∃ bo bn bc, s5 = .slice bo bn bc ∧ Kept (Mine w wr (.slice bo bn bc) (filt key (l.take i))))
  case atStart => exact ⟨0, rfl, by omega, by omega, none, 0, 0, rfl, by simp only [List.take_zero]; exact mine0 w⟩
  case round =>
    obtain ⟨i, rfl, hi, hgi, bo, bn, bc, rfl, KM⟩ := hrel
    by_cases hlt : i < n
    · obtain ⟨x, hx⟩ : ∃ x, l[i]? = some x := ⟨_, List.getElem?_eq_getElem (by have := HL.out; omega)⟩
      obtain ⟨g, hg⟩ := HAO.out (by have := HL.out; omega)
      subst hg
      have e0 := (HV.out.bel KM.out.2.2).at hx
      have i0 : (0 : Int) ≤ (i : Int) := by omega
      have i1 : (i : Int) < (n : Int) := by omega
      have hwi : IntKind.i64.wrap ((i : Int) + 1) = (i : Int) + 1 := by have := HN.out; rw [IntKind.wrap_i64]; omega
      have hst := filt_step (key := key) hx
      cases hq : (x.toList == key.toList)
      · have hne : x ≠ key := fun e => by rw [e] at hq; simp at hq
        rw [if_neg hne] at hst
        have hqn : (x.toList != key.toList) = true := by simp [bne, hq]
        obtain ⟨W3, hW3⟩ : ∃ x', wr.alloc (.cells #[.string x] 9) = x' := ⟨_, rfl⟩
        have b3 : Below wr.heap.size wr W3 := by rw [← hW3]; exact (Below.refl _ wr).alloc (Nat.le_refl _) _
        have g3 : W3.heap[wr.heap.size]? = some (.cells #[.string x] 9 (0, 0)) := by rw [← hW3]; exact heap_alloc_new _ _
        have hb0 : Below w.heap.size w W3 := ⟨b3.os.trans KM.out.2.2.os, b3.tape.trans KM.out.2.2.tape, b3.output.trans KM.out.2.2.output, Nat.le_trans KM.out.2.2.size b3.size, fun k hk => (b3.block k (Nat.lt_of_lt_of_le hk KM.out.2.2.size)).trans (KM.out.2.2.block k hk)⟩
        have hfl : (filt key (l.take i)).length ≤ i := Nat.le_trans (List.length_filter_le _ _) (by rw [List.length_take]; omega)
        obtain ⟨co, cn, cc, W4, a1, m1, _⟩ := mine_push (x := x) (g := wr.heap.size) (show Mine w W3 (.slice bo bn bc) (filt key (l.take i)) from ⟨KM.out.1.bel b3, KM.out.2.1, hb0⟩) g3 (by have := HN.out; omega)
        have M4 : Kept (Mine w W4 (.slice co cn cc) (filt key (l.take (i + 1)))) := by rw [hst]; exact m1
        have A1 := keep a1
        clear hx hst b3 g3 hb0 hfl a1 m1 KM hne
        go_wp2_with (at_builtin; refine wpList_app_run rfl _ _ _ _ rfl _ _ _ rfl rfl A1.out ?_)
        go_roundg (n - (i + 1))
        case measure => omega
        case rel => exact ⟨i + 1, by simp, by omega, Nat.le_refl _, co, cn, cc, rfl, M4.out⟩
      · have he : x = key := tl_inj' (beq_iff_eq.1 hq)
        rw [if_pos he, List.append_nil] at hst
        have hqn : (x.toList != key.toList) = false := by simp [bne, hq]
        have M4 : Kept (Mine w wr (.slice bo bn bc) (filt key (l.take (i + 1)))) := by rw [hst]; exact KM.out
        clear hx hst KM he
        go_wp2
        go_roundg (n - (i + 1))
        case measure => omega
        case rel => exact ⟨i + 1, by simp, by omega, Nat.le_refl _, bo, bn, bc, rfl, M4.out⟩
    · obtain rfl : i = n := by omega
      have HF := keep (HQ.out (.slice bo bn bc) wr (by
        have hm := KM.out
        rw [show l.take i = l from List.take_of_length_le (by have := HL.out; omega)] at hm
        exact hm))
      go_wp2
      go_ret
      exact HF.out
/-- keys and numbers laid anew, side by side -/
structure KM (w0 w : World) (ku vu : Value) (ks : List ByteArray) (vs : List Int) : Prop where
  kx : Tx w ku ks
  ix : Ix w vu vs
  kn : ∀ k, ku.ownBlock = some k → w0.heap.size ≤ k
  vn : ∀ k, vu.ownBlock = some k → w0.heap.size ≤ k
  bel : Below w0.heap.size w0 w
theorem own_apart {w : World} {e1 e2 s1 s2 n1 n2 : Nat} {v u : Value} {xs ys : List Value} (h1 : w.ownsRow 0 e1 s1 v n1 xs) (h2 : w.ownsRow 0 e2 s2 u n2 ys) (hne : e1 ≠ e2) {k : Nat} (hk : v.ownBlock = some k) : u.ownBlock ≠ some k := by
  intro hu
  rcases h1.2 with ⟨rfl, _⟩ | ⟨g, cap, cur, rfl, _, hg, _⟩
  · cases hk
  · rcases h2.2 with ⟨rfl, _⟩ | ⟨g2, cap2, cur2, rfl, _, hg2, _⟩
    · cases hu
    · cases hk
      cases hu
      rw [hg] at hg2
      cases hg2
      exact hne rfl
theorem KM.apart {w0 w : World} {ku vu : Value} {ks : List ByteArray} {vs : List Int} (h : KM w0 w ku vu ks vs) {k : Nat} (hk : ku.ownBlock = some k) : vu.ownBlock ≠ some k := own_apart h.kx h.ix (by decide) hk
theorem KM.below {w0 w w' : World} {ku vu : Value} {ks : List ByteArray} {vs : List Int} (h : KM w0 w ku vu ks vs) (hb : Below w.heap.size w w') : KM w0 w' ku vu ks vs :=
  ⟨h.kx.bel hb, own_kept h.ix (fun k e => hb.block k (own_lt h.ix e)), h.kn, h.vn, ⟨hb.os.trans h.bel.os, hb.tape.trans h.bel.tape, hb.output.trans h.bel.output, Nat.le_trans h.bel.size hb.size, fun k hk => (hb.block k (Nat.lt_of_lt_of_le hk h.bel.size)).trans (h.bel.block k hk)⟩⟩
theorem KM.key {w0 w : World} {ku vu : Value} {ks : List ByteArray} {vs : List Int} (h : KM w0 w ku vu ks vs) (x : ByteArray) (hn : ks.length ≤ 4000000000000) :
    ∃ o m c W, (Builtin.append_ #[43, 43] 43 #[ku, .slice (some ⟨w.heap.size, 0, none⟩) 1 1]).run Tryz.prog (w.alloc (.cells #[.string x] 9)) = .ok (.slice o m c) W ∧ KM w0 W (.slice o m c) vu (ks ++ [x]) vs := by
  have hb : Below w.heap.size w (w.alloc (.cells #[.string x] 9)) := (Below.refl _ w).alloc (Nat.le_refl _) _
  have h1 := h.below hb
  obtain ⟨o, m, c, W, r1, r2, r3, r4⟩ := tx_app _ ku ks x w.heap.size h1.kx (heap_alloc_new _ _) (by omega)
  refine ⟨o, m, c, W, r1, ⟨r2, own_kept h1.ix (fun k e => r3.block k (own_lt h1.ix e) (fun e' => h1.apart e'.symm e)), fun k hk => ?_, h.vn, h1.bel.grown r3 h1.bel.size h.kn⟩⟩
  rcases r4 with e | e
  · exact h.kn k (by rw [← e]; exact hk)
  · rw [e] at hk; cases hk; exact h1.bel.size
theorem KM.num {w0 w : World} {ku vu : Value} {ks : List ByteArray} {vs : List Int} (h : KM w0 w ku vu ks vs) (x : Int) (hn : vs.length ≤ 4000000000000) :
    ∃ o m c W, (Builtin.append_ #[89, 89] 89 #[vu, .slice (some ⟨w.heap.size, 0, none⟩) 1 1]).run Tryz.prog (w.alloc (.cells #[.int .i64 x] 3)) = .ok (.slice o m c) W ∧ KM w0 W ku (.slice o m c) ks (vs ++ [x]) := by
  have hb : Below w.heap.size w (w.alloc (.cells #[.int .i64 x] 3)) := (Below.refl _ w).alloc (Nat.le_refl _) _
  have h1 := h.below hb
  obtain ⟨o, m, c, W, r1, r2, r3, r4⟩ := ix_app _ vu vs x w.heap.size h1.ix (heap_alloc_new _ _) (by omega)
  refine ⟨o, m, c, W, r1, ⟨own_kept h1.kx (fun k e => r3.block k (own_lt h1.kx e) (fun e' => h1.apart e e'.symm)), r2, h.kn, fun k hk => ?_, h1.bel.grown r3 h1.bel.size h.vn⟩⟩
  rcases r4 with e | e
  · exact h.vn k (by rw [← e]; exact hk)
  · rw [e] at hk; cases hk; exact h1.bel.size
theorem erase_step {α : Type} {l : List α} {i p : Nat} {x : α} (h : l[i]? = some x) : (l.take (i + 1)).eraseIdx p = if i = p then (l.take i).eraseIdx p else (l.take i).eraseIdx p ++ [x] := by
  have hi := (List.getElem?_eq_some_iff.1 h).1
  have hl : (l.take i).length = i := by rw [List.length_take]; omega
  rw [List.take_add_one, h]
  show (l.take i ++ [x]).eraseIdx p = _
  rcases Nat.lt_trichotomy p i with hp | hp | hp
  · rw [if_neg (by omega), List.eraseIdx_append_of_lt_length (by omega)]
  · subst hp
    have e : (l.take p).eraseIdx p = l.take p := List.eraseIdx_of_length_le (by omega)
    rw [if_pos rfl, List.eraseIdx_append_of_length_le (by omega), hl, Nat.sub_self, e]
    simp
  · rw [if_neg (by omega), List.eraseIdx_of_length_le (by rw [List.length_append, hl]; simp; omega), List.eraseIdx_of_length_le (by omega)]
theorem erase_at {l : List (ByteArray × Int)} {p : Nat} {key : ByteArray} {x : Int} (hn : (Dc.keys l).Nodup) (h : l[p]? = some (key, x)) : l.eraseIdx p = Dc.without key l := by
  have hp := (List.getElem?_eq_some_iff.1 h).1
  have hs : l = l.take p ++ (key, x) :: l.drop (p + 1) := by
    have hd : l.drop p = (key, x) :: l.drop (p + 1) := by
      rw [List.drop_eq_getElem_cons hp]
      congr 1
      exact (List.getElem?_eq_some_iff.1 h).2
    conv => lhs; rw [← List.take_append_drop p l, hd]
  have hk := hn
  rw [hs] at hk
  simp only [Dc.keys, List.map_append, List.map_cons] at hk
  rw [List.nodup_append, List.nodup_cons] at hk
  unfold Dc.without
  rw [List.eraseIdx_eq_take_drop_succ]
  conv => rhs; rw [hs]
  rw [List.filter_append, List.filter_cons_of_neg (by simp)]
  rw [List.filter_eq_self.2 (fun e he => by simp; intro e'; exact hk.2.2 e.1 (List.mem_map.2 ⟨e, he, rfl⟩) key (by simp) e'), List.filter_eq_self.2 (fun e he => by simp; intro e'; exact hk.2.1.1 (List.mem_map.2 ⟨e, he, e'⟩))]
theorem kvok_del {h : ByteArray → Nat} {s : Dc.St ByteArray V} {KV : List (ByteArray × Int)} (hk : KVok s KV) (hI : Dc.Inv h s) (key : ByteArray) : KVok (Dc.delete h s key).1 (Dc.without key KV) := by
  obtain ⟨q1, q2, q3, q4⟩ := Dc.delete_inv hI key
  have hl := hk.look key
  have hsub : (Dc.keys (Dc.without key KV)).Sublist (Dc.keys KV) := (List.filter_sublist (l := KV)).map _
  refine ⟨hsub.nodup hk.1, fun k => ?_, ?_⟩
  · rw [mem_look (l := Dc.all _), q3]
    have hm : k ∈ Dc.keys (Dc.without key KV) ↔ k ∈ Dc.keys KV ∧ k ≠ key := by
      unfold Dc.keys Dc.without
      simp only [List.mem_map, List.mem_filter, decide_eq_true_eq]
      constructor
      · rintro ⟨e, ⟨h1, h2⟩, rfl⟩; exact ⟨⟨e, h1, rfl⟩, h2⟩
      · rintro ⟨⟨e, h1, rfl⟩, h2⟩; exact ⟨e, ⟨h1, h2⟩, rfl⟩
    rw [hm, hk.2.1 k, mem_look]
    by_cases hkk : k = key
    · simp [hkk]
    · simp [hkk]
  · rw [q4, Dc.without_len hk.1, hl, hk.2.2]
theorem del_none {h : ByteArray → Nat} {s : Dc.St ByteArray V} {key : ByteArray} (hl : Dc.look key (Dc.all (Dc.step h s)) = none) : (Dc.delete h s key).1 = Dc.step h s := by unfold Dc.delete; rw [hl]
theorem del_some {h : ByteArray → Nat} {s : Dc.St ByteArray V} {key : ByteArray} {y : V} (hl : Dc.look key (Dc.all (Dc.step h s)) = some y) : (Dc.delete h s key).1 = Dc.shrink ((Dc.all (Dc.step h s)).length - 1) (Dc.every (Dc.without key) (Dc.step h s)) := by unfold Dc.delete; rw [hl]
theorem without_none {KV : List (ByteArray × Int)} {key : ByteArray} (h : ∀ e ∈ KV, e.1 ≠ key) : Dc.without key KV = KV := by
  unfold Dc.without
  exact List.filter_eq_self.2 (fun e he => by simp; exact h e he)
theorem fit_go {f m n : Nat} (h : m < n) (hf : n ≤ m + f) : ∃ f', f = f' + 1 ∧ Dc.fitF f m n = Dc.fitF f' (2 * m) n := by
  cases f with
  | zero => omega
  | succ f => exact ⟨f, rfl, by simp [Dc.fitF, h]⟩
theorem fit_end {f m n : Nat} (h : ¬ m < n) : Dc.fitF f m n = m := by
  cases f with
  | zero => rfl
  | succ f => simp [Dc.fitF, h]
end Rd
end Go.Proofs.YtlfpkbjiofelkaaGreat
