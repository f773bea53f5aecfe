/-
  Rows of pointers that grow alone; what is told twice is the same.
-/
import Derived.Test.YtmokahcjkokanaaFlAlg2
import Derived.Test.YtmokahcjkokanaaFlKnow1
/-
  Flocks, pointers, texts, and rows of texts that were told, beside each other in one memory.
-/
namespace Go.Proofs.Ytmokahcjkokanaa
open Go.RowKit Go.Shelf
set_option linter.unusedVariables false
theorem pr_cells {B : Nat} {w : World} {ao : Option Addr} {m cp : Nat} {P : List Nat} (h : Pr B w (.slice ao m cp) P) {j R : Nat} (hj : P[j]? = some R) :
    ∃ g, ao = some ⟨g, 0, none⟩ ∧ w.cell? ⟨g, j, none⟩ = some (.pointer (some ⟨R, 0, none⟩)) ∧ g < w.heap.size := by
  unfold Pr at h
  have hj' := (List.getElem?_eq_some_iff.1 hj).1
  rcases h.2 with ⟨e, h0⟩ | ⟨g, cap, cur, e, _, hg, _⟩
  · omega
  · cases e
    have h2 := h.cells (g := g) rfl j (.pointer (some ⟨R, 0, none⟩)) (by rw [List.getElem?_map, hj]; rfl)
    rw [show (⟨g, 0, none⟩ : Addr).add j = ⟨g, j, none⟩ by unfold Addr.add; split <;> simp_all] at h2
    exact ⟨g, rfl, h2, (Array.getElem?_eq_some_iff.1 hg).1⟩
/-- what Union, Inter and Diff are asked of -/
def psl (L : List Fk) : List (Option Nat × List ByteArray) := L.map fun f => (some f.R, kys f.s)
theorem psl_len (L : List Fk) : (psl L).length = L.length := by simp [psl]
theorem psl_rows (L : List Fk) : (psl L).map (·.2) = L.map fun f => kys f.s := by simp [psl]
theorem psl_cells {B : Nat} {w : World} {ao : Option Addr} {m cp : Nat} {L : List Fk} (h : Pr B w (.slice ao m cp) (L.map (·.R))) : ∀ j p, (psl L)[j]? = some p → ∃ g o, ao = some ⟨g, o, none⟩ ∧ w.cell? ⟨g, o + j, none⟩ = some (pv p.1) := by
  intro j p hp
  unfold psl at hp
  rw [List.getElem?_map] at hp
  cases e : L[j]? with
  | none => rw [e] at hp; cases hp
  | some f =>
    rw [e] at hp
    cases hp
    obtain ⟨g, e1, e2, _⟩ := pr_cells h (j := j) (R := f.R) (by rw [List.getElem?_map, e]; rfl)
    exact ⟨g, 0, e1, by rw [Nat.zero_add]; exact e2⟩
theorem psl_sum (L : List Fk) (h : ∀ f ∈ L, (kys f.s).length = ln f.s) : ((psl L).map (fun p => p.2.length)).sum = (L.map fun f => ln f.s).sum := by
  unfold psl
  rw [List.map_map]
  congr 1
  exact List.map_congr_left fun f hf => h f hf
/-- and rows of texts besides, in blocks that no flock has -/
def Al3 (W w : World) (v5 v6 : Value) (L : List Fk) (P : List Nat) (tx : List ByteArray) (us : List (Value × List ByteArray)) : Prop :=
  Alg W w v5 v6 L P tx ∧ ∀ p ∈ us, Ks W.heap.size w p.1 p.2 ∧ ∀ g, p.1.ownBlock = some g → ∀ f ∈ L, rr f.r f.R g = (0, 0)
theorem Al3.below {W w w' : World} {v5 v6 : Value} {L : List Fk} {P : List Nat} {tx : List ByteArray} {us : List (Value × List ByteArray)} (h : Al3 W w v5 v6 L P tx us) (hb : Below w.heap.size w w') : Al3 W w' v5 v6 L P tx us :=
  ⟨h.1.below hb, fun p hp => ⟨own_kept (h.2 p hp).1 (fun k hk => hb.block k (own_lt (h.2 p hp).1 hk)), (h.2 p hp).2⟩⟩
/-- a row more, laid in new blocks -/
theorem Al3.told {W w w' : World} {v5 v6 v : Value} {L : List Fk} {P : List Nat} {tx l : List ByteArray} {us : List (Value × List ByteArray)} (h : Al3 W w v5 v6 L P tx us) (hb : Below w.heap.size w w') (hk : Ks w.heap.size w' v l) : Al3 W w' v5 v6 L P tx (us ++ [(v, l)]) := by
  have h' := h.below hb
  refine ⟨h'.1, fun p hp => ?_⟩
  rcases List.mem_append.1 hp with e | e
  · exact h'.2 p e
  · rw [List.mem_singleton.1 e]
    refine ⟨hk.more h.1.1.2.2.size, fun g hg f hf => rec_zero (h.1.1.1 f hf).1.1 ?_⟩
    exact (World.ownsRow.lt hk g hg).1
theorem Al3.step {W w w' : World} {v5 v6 : Value} {A B : List Fk} {f : Fk} {P : List Nat} {tx : List ByteArray} {us : List (Value × List ByteArray)} {N' : Nat} {r' : Roles} {s' : Sx} (h : Al3 W w v5 v6 (A ++ f :: B) P tx us) (h1 : Rec f.h N' w' r' f.R f.b f.x s') (hf : Fr w (rr f.r f.R) w' (rr r' f.R)) :
    Al3 W w' v5 v6 (A ++ { f with N := N', r := r', s := s' } :: B) P tx us := by
  have hin : f ∈ A ++ f :: B := by simp
  refine ⟨h.1.step h1 hf, fun p hp => ?_⟩
  obtain ⟨p4, p5⟩ := h.2 p hp
  refine ⟨own_kept p4 (fun k hk => (hf.2.2 k (own_lt p4 hk) (p5 k hk f hin)).1), fun g hg f' hf' => ?_⟩
  rcases List.mem_append.1 hf' with e | e
  · exact p5 g hg f' (by simp [e])
  · rcases List.mem_cons.1 e with rfl | e
    · exact (hf.2.2 g (own_lt p4 hg) (p5 g hg f hin)).2
    · exact p5 g hg f' (by simp [e])
theorem al3_has {W w : World} {v5 v6 : Value} {A B : List Fk} {f : Fk} {P : List Nat} {tx : List ByteArray} {us : List (Value × List ByteArray)} (h : Al3 W w v5 v6 (A ++ f :: B) P tx us) (hN : f.N ≤ 2600000000000) (key : ByteArray) (hk : key.size ≤ maxLen) :
    Calls Try.prog 13 #[.pointer (some ⟨f.R, 0, none⟩), .string key] w fun e w' => e = .returned (.bool (lk f.s key).isSome) ∧ ∃ r' s', Samd f.s s' ∧ Al3 W w' v5 v6 (A ++ { f with r := r', s := s' } :: B) P tx us := by
  have hf := (h.1.1.1 f (by simp)).1
  refine (fhas_any hf.2 hf.1 hN key hk).mono ?_
  rintro _ w' ⟨rfl, r', s', q1, q2, q3⟩
  exact ⟨rfl, r', s', q2, h.step (N' := f.N) q1 q3⟩
end Go.Proofs.Ytmokahcjkokanaa

/-
  Union, Inter and Diff of some of a family of flocks.
-/
namespace Go.Proofs.Ytmokahcjkokanaa
open Go.RowKit Go.Shelf
set_option linter.unusedVariables false
theorem flks_of {W w : World} {L L' : List Fk} (h : Fam W w L) (hsub : ∀ f ∈ L', f ∈ L) (hN : ∀ f ∈ L, f.N ≤ 1048576) : ∀ p ∈ psl L', FlkO w p.1 p.2 := by
  intro p hp
  obtain ⟨f, hf, rfl⟩ := List.mem_map.1 hp
  exact ⟨f.h, f.N, f.r, f.b, f.x, f.s, (h.1 f (hsub f hf)).1.1, by have := hN f (hsub f hf); omega, rfl⟩
theorem ks_rw {B : Nat} {w : World} {v : Value} {l : List ByteArray} (h : Rw B w v l) : Ks B w v l := h
theorem union_of {W w : World} {B : Nat} {ao : Option Addr} {m cp : Nat} {L L' : List Fk} (hp : Pr B w (.slice ao m cp) (L'.map (·.R))) (hm : L'.length = m) (h : Fam W w L) (hsub : ∀ f ∈ L', f ∈ L) (hN : ∀ f ∈ L, f.N ≤ 1048576) (hl : m ≤ 1048577) (hs : ((psl L').map (fun p => p.2.length)).sum ≤ 2600000000000) :
    Calls Try.prog 18 #[.slice ao m cp] w fun e w' => ∃ v, e = .returned v ∧ ∃ U, Srs (uniq (L'.map fun f => kys f.s).flatten) U ∧ Ks w.heap.size w' v U ∧ Below w.heap.size w w' := by
  have m1 := uniono_any w ao cp (psl L') (psl_cells hp) (flks_of h hsub hN) (by rw [psl_len]; omega) hs
  rw [psl_len, hm, psl_rows] at m1
  exact m1
theorem psl_cells1 {B : Nat} {w : World} {g m cp : Nat} {L : List Fk} (h : Pr B w (.slice (some ⟨g, 0, none⟩) m cp) (L.map (·.R))) : ∀ j p, (psl L)[j]? = some p → w.cell? ⟨g, 0 + j, none⟩ = some (pv p.1) := by
  intro j p hp
  obtain ⟨g', o, e, hc⟩ := psl_cells h j p hp
  cases e
  exact hc
theorem pr_cap {B : Nat} {w : World} {g m cp : Nat} {P : List Nat} (h : Pr B w (.slice (some ⟨g, 0, none⟩) m cp) P) : P.length ≤ cp := by
  unfold Pr at h
  rcases h.2 with ⟨e, _⟩ | ⟨g', cap, cur, e, _, _, h1, _⟩
  · cases e
  · cases e; exact h1
theorem inter_of [Inhabited Txt] {W w : World} {B : Nat} {g m cp : Nat} {L L' : List Fk} {f0 : Fk} (hp : Pr B w (.slice (some ⟨g, 0, none⟩) m cp) ((f0 :: L').map (·.R))) (hm : L'.length + 1 = m) (h : Fam W w L) (hsub : ∀ f ∈ f0 :: L', f ∈ L) (hN : ∀ f ∈ L, f.N ≤ 1048576) (hl : m ≤ 1048577) (hs : ((psl L').map (fun p => p.2.length)).sum ≤ 2600000000000) :
    Calls Try.prog 19 #[.slice (some ⟨g, 0, none⟩) m cp] w fun e w' => ∃ v, e = .returned v ∧ ∃ U, Srs ((kys f0.s).filter fun x => tal (L'.map fun f => kys f.s) x == (L'.map fun f => kys f.s).length) U ∧ Ks w.heap.size w' v U ∧ Below w.heap.size w w' := by
  have hc := pr_cap hp
  rw [List.length_map, List.length_cons] at hc
  have m1 := intero_any w g 0 cp (some f0.R, kys f0.s) (psl L') (psl_cells1 hp) (flks_of h hsub hN) (by rw [psl_len]; omega) (by rw [psl_len]; omega) hs
  rw [psl_len, hm, psl_rows] at m1
  rw [List.length_map]
  exact m1
theorem diff_of [Inhabited Txt] {W w : World} {B : Nat} {g m cp : Nat} {L L' : List Fk} {f0 : Fk} (hp : Pr B w (.slice (some ⟨g, 0, none⟩) m cp) ((f0 :: L').map (·.R))) (hm : L'.length + 1 = m) (h : Fam W w L) (hsub : ∀ f ∈ f0 :: L', f ∈ L) (hN : ∀ f ∈ L, f.N ≤ 1048576) (hl : m ≤ 1048577) (hs : ((psl L').map (fun p => p.2.length)).sum ≤ 2600000000000) :
    Calls Try.prog 20 #[.slice (some ⟨g, 0, none⟩) m cp] w fun e w' => ∃ v, e = .returned v ∧ ∃ U, Srs ((kys f0.s).filter fun x => tal (L'.map fun f => kys f.s) x == 0) U ∧ Ks w.heap.size w' v U ∧ Below w.heap.size w w' := by
  have hc := pr_cap hp
  rw [List.length_map, List.length_cons] at hc
  have m1 := diffo_any w g 0 cp (some f0.R, kys f0.s) (psl L') (psl_cells1 hp) (flks_of h hsub hN) (by rw [psl_len]; omega) (by rw [psl_len]; omega) hs
  rw [psl_len, hm, psl_rows] at m1
  exact m1
theorem psl_lns (L : List Fk) : ((psl L).map (fun p => p.2.length)).sum = (L.map fun f => ln f.s).sum := psl_sum L fun f _ => kys_len f.s
/-- the same flocks with the same members -/
def Smf (L L' : List Fk) : Prop := L'.map (·.R) = L.map (·.R) ∧ L'.map (·.N) = L.map (·.N) ∧ (∀ x, L'.map (fun f => lk f.s x) = L.map (fun f => lk f.s x)) ∧ L'.map (fun f => ln f.s) = L.map (fun f => ln f.s)
theorem Smf.refl (L : List Fk) : Smf L L := ⟨rfl, rfl, fun _ => rfl, rfl⟩
theorem Smf.len {L L' : List Fk} (h : Smf L L') : L'.length = L.length := by have := congrArg List.length h.1; simpa using this
theorem Smf.put {L A B : List Fk} {f : Fk} (h : Smf L (A ++ f :: B)) {r' : Roles} {s' : Sx} (hs : Samd f.s s') : Smf L (A ++ { f with r := r', s := s' } :: B) := by
  obtain ⟨h1, h2, h3, h4⟩ := h
  refine ⟨?_, ?_, fun x => ?_, ?_⟩
  · rw [← h1]; simp
  · rw [← h2]; simp
  · rw [← h3 x]; simp [hs.1 x]
  · rw [← h4]; simp [hs.2]
theorem Smf.at {L L' : List Fk} (h : Smf L L') {j : Nat} {f' : Fk} (hj : L'[j]? = some f') : ∃ f, L[j]? = some f ∧ f'.R = f.R ∧ f'.N = f.N ∧ ∀ x, lk f'.s x = lk f.s x := by
  have hl := h.len
  have hj' := (List.getElem?_eq_some_iff.1 hj).1
  obtain ⟨f, hf⟩ : ∃ f, L[j]? = some f := ⟨_, List.getElem?_eq_getElem (by omega)⟩
  refine ⟨f, hf, ?_, ?_, fun x => ?_⟩
  · have := congrArg (·[j]?) h.1; simpa [hj, hf] using this
  · have := congrArg (·[j]?) h.2.1; simpa [hj, hf] using this
  · have := congrArg (·[j]?) (h.2.2.1 x); simpa [hj, hf] using this
theorem fk_split {L : List Fk} {j : Nat} {f : Fk} (hj : L[j]? = some f) : L = L.take j ++ f :: L.drop (j + 1) := by
  obtain ⟨h1, h2⟩ := List.getElem?_eq_some_iff.1 hj
  rw [← h2, ← List.drop_eq_getElem_cons h1, List.take_append_drop]
/-- how many of the first j flocks have x -/
def cn (L : List Fk) (x : ByteArray) (j : Nat) : Nat := tal ((L.take j).map fun f => kys f.s) x
theorem cn_zero (L : List Fk) (x : ByteArray) : cn L x 0 = 0 := rfl
theorem cn_step {L : List Fk} {x : ByteArray} {j : Nat} {f : Fk} (hj : L[j]? = some f) : cn L x (j + 1) = cn L x j + if inB x (kys f.s) then 1 else 0 := by
  obtain ⟨h1, h2⟩ := List.getElem?_eq_some_iff.1 hj
  unfold cn
  rw [List.take_succ_eq_append_getElem h1, List.map_append, h2]
  unfold tal
  rw [List.filter_append, List.length_append]
  congr 1
  rw [List.map_cons, List.map_nil, List.filter_cons]
  cases inB x (kys f.s) <;> simp
theorem cn_all {L : List Fk} {x : ByteArray} {j : Nat} (hj : L.length ≤ j) : cn L x j = tal (L.map fun f => kys f.s) x := by
  unfold cn
  rw [List.take_of_length_le hj]
theorem inB_kys {h : ByteArray → Nat} {N : Nat} {w : World} {r : Roles} {R b y : Nat} {s : Sx} (hr : Rec h N w r R b y s) (x : ByteArray) : inB x (kys s) = (lk s x).isSome := by
  rw [Bool.eq_iff_iff, inB_iff, mem_kys hr.1.2.1]
end Go.Proofs.Ytmokahcjkokanaa

namespace Go.Proofs.Ytmokahcjkokanaa
open Go.RowKit Go.Shelf
set_option linter.unusedVariables false
theorem pr_push {B : Nat} {w : World} {v : Value} {P : List Nat} (h : Pr B w v P) (hB : B ≤ w.heap.size) (R : Nat) (hl : P.length ≤ 7000000000000) :
    ∃ g cap w', (Builtin.append_ #[42, 42] 42 #[v, .slice (some ⟨w.heap.size, 0, none⟩) 1 1]).run Try.prog (w.alloc (.cells #[.pointer (some ⟨R, 0, none⟩)] 25)) = .ok (.slice (some ⟨g, 0, none⟩) (P.length + 1) cap) w' ∧
      Pr B w' (.slice (some ⟨g, 0, none⟩) (P.length + 1) cap) (P ++ [R]) ∧ Below B w w' := by
  obtain ⟨i0, hi0, hz0, hz1, hzb⟩ := info_parts info_ptr
  obtain ⟨ao, cap0, rfl⟩ := pr_form h
  have h5 := h
  unfold Pr at h5
  obtain ⟨g, cap, W3, hrun, hown, hgr, hat, hg3⟩ := run_append_lies (P := Try.prog) (w := w.alloc (.cells #[.pointer (some ⟨R, 0, none⟩)] 25)) 42 42 B 25 i0 _ 1 8 Try.underlying42 hi0 hz0 hz1 hzb rfl (by omega) (.slice ao P.length cap0) P.length _ (h5.alloc _) ⟨w.heap.size, 0, none⟩ 1 1 [.pointer (some ⟨R, 0, none⟩)] rfl (World.news_of_block (cs := #[.pointer (some ⟨R, 0, none⟩)]) (t := 25) (fr := (0, 0)) (heap_alloc_new w _)) (by simp [Value.oneCell']) (by omega) (by unfold maxLen; omega) (by omega) (by simp; omega) (w.heap.size + 1) (by simp)
  have hs3 : w.heap.size + 1 ≤ W3.heap.size := by have := hgr.size; simpa using this
  refine ⟨g, cap, W3, hrun, ?_, ⟨hgr.os, hgr.tape, hgr.output, by omega, fun k hk => ?_⟩⟩
  · unfold Pr
    rw [List.map_append, List.length_append]
    exact hown
  · rw [hgr.block k (by simp; omega) (fun e => by have := (h5.lt k e.symm).1; omega), Below.heap_alloc _ _ _ (by omega)]
/-- two rising rows with the same members are the same -/
theorem srs_ext {a b U V : List ByteArray} (h : Srs a U) (h' : Srs b V) (he : ∀ x, inB x U = inB x V) : U = V := by
  refine srs_eq h.2 h'.2 (perm_of_mem h.nodup h'.nodup fun x => ?_)
  rw [← inB_iff, ← inB_iff, he x]
/-- how many have x, by their tables -/
theorem tal_lk {W w : World} {L M : List Fk} (h : Fam W w L) (hs : ∀ f ∈ M, f ∈ L) (x : ByteArray) : tal (M.map fun f => kys f.s) x = ((M.map fun f => lk f.s x).filter Option.isSome).length := by
  induction M with
  | nil => rfl
  | cons f M ih =>
    rw [List.map_cons, tal_cons, ih (fun f' hf' => hs f' (List.mem_cons_of_mem _ hf')), inB_kys (h.1 f (hs f (by simp))).1.1, List.map_cons, List.filter_cons]
    cases (lk f.s x).isSome
    · simp
    · simp; omega
/-- the same flocks, a while later -/
theorem tal_same {W w w' : World} {L L' : List Fk} (h : Fam W w L) (h' : Fam W w' L') (hs : Smf L L') (x : ByteArray) : tal (L'.map fun f => kys f.s) x = tal (L.map fun f => kys f.s) x := by
  rw [tal_lk h (fun f hf => hf), tal_lk h' (fun f hf => hf), hs.2.2.1 x]
theorem Smf.few {L L' : List Fk} (h : Smf L L') {b : Nat} (hN : ∀ f ∈ L, f.N ≤ b) : ∀ f ∈ L', f.N ≤ b := fun f' hf' => by
  obtain ⟨j, hj, e⟩ := List.mem_iff_getElem.1 hf'
  obtain ⟨f, hf, _, h2, _⟩ := h.at (j := j) (f' := f') (by rw [← e]; exact List.getElem?_eq_getElem hj)
  rw [h2]
  exact hN f (List.mem_of_getElem? hf)
theorem Al3.below' {W w w' : World} {v5 v6 : Value} {L : List Fk} {P : List Nat} {tx : List ByteArray} {us : List (Value × List ByteArray)} (h : Al3 W w v5 v6 L P tx us) (hb : Below w.heap.size w w') : Al3 W w' v5 v6 L P tx us := h.below hb
end Go.Proofs.Ytmokahcjkokanaa
