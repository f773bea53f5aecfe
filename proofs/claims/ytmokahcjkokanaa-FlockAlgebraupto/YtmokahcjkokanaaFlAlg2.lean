/-
  A row of pointers grows by one, a row of texts by a row that came in: beside the flocks.
-/
import Derived.Test.YtmokahcjkokanaaFlTally2
import Derived.Test.YtmokahcjkokanaaFlInter
import Derived.Test.YtmokahcjkokanaasortZL
import Derived.Sort.KeysCollected
/-
  Contracts over this program: Inter and Diff, where some of the flocks are none, and of no flocks at all.
-/
/-
  Contracts over this program: Union; a flock or none handed to Members.
-/
namespace Go.Proofs.Ytmokahcjkokanaa
open Go.RowKit Go.Shelf Go.Sort Go.Maps
/-- each text once -/
def uniq : List ByteArray → List ByteArray
  | [] => []
  | a :: l => if inB a l then uniq l else a :: uniq l
theorem mem_uniq (x : ByteArray) : ∀ l : List ByteArray, x ∈ uniq l ↔ x ∈ l
  | [] => by simp [uniq]
  | a :: l => by
    unfold uniq
    have ih := mem_uniq x l
    cases h : inB a l with
    | true =>
      rw [if_pos rfl, ih, List.mem_cons]
      constructor
      · exact .inr
      · rintro (e | e)
        · rw [e]; exact (inB_iff _ _).1 h
        · exact e
    | false => rw [if_neg (by simp), List.mem_cons, List.mem_cons, ih]
theorem nodup_uniq : ∀ l : List ByteArray, (uniq l).Nodup
  | [] => List.nodup_nil
  | a :: l => by
    unfold uniq
    cases h : inB a l with
    | true => rw [if_pos rfl]; exact nodup_uniq l
    | false =>
      rw [if_neg (by simp), List.nodup_cons]
      exact ⟨fun e => (by rw [(inB_iff _ _).2 ((mem_uniq a l).1 e)] at h; cases h), nodup_uniq l⟩
theorem tal_pos (ls : List (List ByteArray)) (k : ByteArray) : 0 < tal ls k ↔ k ∈ ls.flatten := by
  unfold tal
  rw [List.length_pos_iff_exists_mem]
  constructor
  · rintro ⟨l, hl⟩
    rw [List.mem_filter, inB_iff] at hl
    exact List.mem_flatten.2 ⟨l, hl.1, hl.2⟩
  · intro h
    obtain ⟨l, h1, h2⟩ := List.mem_flatten.1 h
    exact ⟨l, List.mem_filter.2 ⟨h1, (inB_iff _ _).2 h2⟩⟩
theorem sorts_is (m : Nat) : AnyZ.SortsIn Try.prog Try.sortZ_ren Fence.wide m :=
  ⟨fun blk off cap ss W hH hblk hsz => callsIn_wide.2 (AnyM.slices_Sort_string Try.sortS blk off cap ss W hH hblk hsz),
   fun p cap W => callsIn_wide.2 (AnyM.slices_Sort_string_none Try.sortS p cap W)⟩
theorem keys_at (mb : Option Nat) (W : World) : Calls Try.prog 34 #[.map mb] W fun e w' => e = .returned (.func (.func 50) #[] #[.pointer (some ⟨W.heap.size, 0, none⟩)]) ∧ w' = W.alloc (.cells #[.map mb] 70) :=
  callsIn_wide.1 (AnyZ.keys_in Try.sortK Fence.wide 5 trivial rfl mb W)
set_option maxHeartbeats 1000000 in
theorem sorted_at {H : Type} (b nn : Nat) (D0 : DataW H) (R : Value → Option (DataW H × List MemPlace)) (w : World) (hown : w.ownsMap Try.prog 9 R b nn D0) (hmax : Maps.size D0 ≤ maxLen) (hbytes : Maps.size D0 * 16 ≤ 140737488355328) :
    Calls Try.prog 33 #[.func (.func 50) #[] #[.pointer (some ⟨w.heap.size, 0, none⟩)]] (w.alloc (.cells #[.map (some b)] 70)) fun e w' => ∃ (v : Value) (ss : List (List UInt8)), e = .returned v ∧ ss.Perm (strKeys D0) ∧
      w'.ownsRow (w.alloc (.cells #[.map (some b)] 70)).heap.size 9 1 v ss.length ((ss.mergeSort (fun x y => decide (x ≤ y))).map encStr) ∧ (v = .slice none 0 0 ↔ ss = []) ∧ RowKit.Below (w.alloc (.cells #[.map (some b)] 70)).heap.size (w.alloc (.cells #[.map (some b)] 70)) w' := by
  have hbl := hown.lt
  have hseq : SeqGives Fence.wide 2 Try.prog 50 #[.pointer (some ⟨w.heap.size, 0, none⟩)] encStr (fun ss => ss.Perm (strKeys D0)) (Maps.size D0) (w.alloc (.cells #[.map (some b)] 70)) :=
    AnyZ.keys_gives (ρ := Try.sortK_ren) { Try.sortK with } Fence.wide _ trivial rfl (by omega) w.heap.size b nn D0 _ (by simp) (by simp) (by
      obtain ⟨es, clock, hb, Ft, hs, hD⟩ := hown
      exact ⟨es, clock, (RowKit.Below.heap_alloc _ _ b hbl).trans hb, Ft, hs, hD⟩)
  exact callsIn_wide.1 (AnyZ.sorted_in Try.sortZ Fence.wide 5 trivial trivial trivial trivial rfl (by omega) (sorts_is _) (enters_of Try.func31 (by kernel_rfl) rfl) 50 #[.pointer (some ⟨w.heap.size, 0, none⟩)] trivial (enters_of Try.func50 (by kernel_rfl) rfl) _ _ hmax hbytes _ hseq)
theorem size_le {w : World} {b n : Nat} {D : DataW Unit} (h : w.ownsMap Try.prog 9 (plainElem Try.prog 3) b n D) : Maps.size D ≤ n := by
  obtain ⟨es, clock, _, _, hs, rfl⟩ := h
  show ((es.toList.map _).foldr DataW.insert []).length ≤ n
  rw [length_sorted]
  simpa using hs
/-- the keys of a map that counts -/
theorem keys_of {w : World} {b n : Nat} {D : DataW Unit} {c : ByteArray → Nat} (h : w.ownsMap Try.prog 9 (plainElem Try.prog 3) b n D) (hh : ∀ k, has D (.string (ky k)) = decide (0 < c k)) {U : List ByteArray} (hn : U.Nodup) (hU : ∀ x, x ∈ U ↔ 0 < c x) : (U.map ky).Perm (strKeys D) := by
  obtain ⟨es, hD, hpw, _⟩ := h.entries (string_keyed Try.underlying9)
  obtain ⟨es', hD', hko⟩ := h.keysOf
  obtain rfl : es = es' := by rw [hD] at hD'; simpa using hD'
  subst hD
  refine perm_strKeys hpw (fun p hp => by obtain ⟨v, hv⟩ := hko p hp; obtain ⟨x, _, hx, _⟩ := Maps.keyOf_str Try.underlying9 hv; exact ⟨x, hx⟩) ?_ (fun x => ?_)
  · rw [List.nodup_iff_pairwise_ne, List.pairwise_map]
    rw [List.nodup_iff_pairwise_ne] at hn
    exact hn.imp (fun {a b} hab e => hab (ky_inj e))
  · have h1 := hh (unky x)
    rw [ky_unky] at h1
    rw [h1, decide_eq_true_eq, ← hU]
    constructor
    · intro hx
      obtain ⟨y, hy, rfl⟩ := List.mem_map.1 hx
      rwa [unky_ky]
    · intro hx
      exact List.mem_map.2 ⟨_, hx, ky_unky x⟩
set_option maxRecDepth 100000 in
set_option maxHeartbeats 1000000 in
theorem uniono_any (W : World) (ao : Option Addr) (cap : Nat) (ps : List (Option Nat × List ByteArray)) (hcell : ∀ j p, ps[j]? = some p → ∃ g o, ao = some ⟨g, o, none⟩ ∧ W.cell? ⟨g, o + j, none⟩ = some (pv p.1)) (hfl : ∀ p ∈ ps, FlkO W p.1 p.2) (hln : ps.length ≤ 2600000000000) (hsum : (ps.map (fun p => p.2.length)).sum ≤ 2600000000000) :
    Calls Try.prog 18 #[.slice ao ps.length cap] W fun e w' => ∃ v, e = .returned v ∧ ∃ L, Srs (uniq (ps.map (·.2)).flatten) L ∧ Rw W.heap.size w' v L ∧ RowKit.Below W.heap.size W w' := by
  have mT := tallyo_any W ao cap ps hcell hfl hln hsum
  obtain ⟨ls, hls⟩ : ∃ ls, ps.map (·.2) = ls := ⟨_, rfl⟩
  rw [hls] at mT ⊢
  clear hcell hfl hsum hls
  go_enter Try.func18, Try.ntmps18
  go_wp2_with fail
  refine mT.mono ?_
  rintro _ w2 ⟨rfl, n, hT, hb2, hn⟩
  obtain ⟨D, hown, _, hhas⟩ := hT
  have hsz := size_le hown
  have mS := sorted_at W.heap.size n D _ w2 hown (by unfold maxLen; omega) (by omega)
  have hP := keys_of hown hhas (nodup_uniq ls.flatten) (fun x => by rw [mem_uniq, tal_pos])
  have HP := keep hP
  have HB2 := keep hb2
  clear mT hown hhas hb2 hP hsz hn
  go_wp2_with fail
  refine (keys_at _ _).mono ?_
  rintro _ w' ⟨rfl, hw'⟩
  subst hw'
  go_wp2_with fail
  refine mS.mono ?_
  rintro _ w3 ⟨v, ss, rfl, hss, hrow, _, hb3⟩
  have hR : Rw W.heap.size w3 v (((uniq ls.flatten).map ky).mergeSort (fun x y => decide (x ≤ y)) |>.map unky) := by
    have e1 : ss.mergeSort (fun x y => decide (x ≤ y)) = ((uniq ls.flatten).map ky).mergeSort (fun x y => decide (x ≤ y)) := mergeSort_of_perm (hss.trans HP.out.symm)
    have e2 : ss.length = (((uniq ls.flatten).map ky).mergeSort (fun x y => decide (x ≤ y)) |>.map unky).length := by rw [List.length_map, ← e1, List.length_mergeSort]
    unfold Rw
    rw [← e2]
    have e3 : enS (((uniq ls.flatten).map ky).mergeSort (fun x y => decide (x ≤ y)) |>.map unky) = (ss.mergeSort (fun x y => decide (x ≤ y))).map encStr := by
      rw [e1]; unfold enS; rw [List.map_map]; rfl
    rw [e3]
    exact own_down hrow (by have := HB2.out.size; simp; omega)
  have HR := keep hR
  have HB3 := keep (HB2.out.trans ((((RowKit.Below.refl _ w2).alloc (Nat.le_refl _) _).trans (hb3.mono (by simp))).mono HB2.out.size))
  clear mS hss hrow hb3 hR
  go_wp2
  go_ret
  exact ⟨v, rfl, _, srs_merge _ (nodup_uniq _), HR.out, HB3.out⟩
theorem memberso_any {W : World} {p : Option Nat} {ks : List ByteArray} (hf : FlkO W p ks) :
    Calls Try.prog 14 #[pv p] W fun e w' => ∃ v L, e = .returned v ∧ Srs ks L ∧ Prs W.heap.size w' v L ∧ RowKit.Below W.heap.size W w' := by
  cases p with
  | none =>
    refine (fmembers_nil W).mono ?_
    rintro _ w' ⟨rfl, h1, h2⟩
    obtain rfl : ks = [] := hf
    exact ⟨_, [], rfl, ⟨List.Perm.refl _, List.Pairwise.nil⟩, ⟨_, rfl, h1⟩, h2⟩
  | some R =>
    obtain ⟨h, N, r, b, seed, s, hr, hN, rfl⟩ := hf
    exact fmembers_any W r R b s hr hN
end Go.Proofs.Ytmokahcjkokanaa

namespace Go.Proofs.Ytmokahcjkokanaa
open Go.RowKit Go.Shelf Go.Sort
theorem flko_few {W : World} {p : Option Nat} {ks : List ByteArray} (hf : FlkO W p ks) : (∀ x ∈ ks, x.size ≤ maxLen) ∧ ks.length ≤ 2600000000000 := by
  obtain ⟨dv, es, _, rfl, _, hs, hl, _⟩ := flk_each hf
  refine ⟨fun x hx => ?_, by rw [List.length_map]; exact hl⟩
  obtain ⟨e, he, rfl⟩ := List.mem_map.1 hx
  exact hs e he
set_option maxHeartbeats 400000 in
theorem ofFirst_nil (w : World) (oth : Int) : Calls Try.prog 36 #[.slice none 0 0, .int .i64 oth] w fun e w' => e = .returned (.slice none 0 0) ∧ RowKit.Below w.heap.size w w' := by
  go_enter Try.func36, Try.ntmps36
  go_wp2
  go_ret
  exact ⟨rfl, (RowKit.Below.refl _ w).alloc (Nat.le_refl _) _⟩
set_option maxHeartbeats 400000 in
theorem inter_nil (w : World) : Calls Try.prog 19 #[.slice none 0 0] w fun e w' => e = .returned (.slice none 0 0) ∧ RowKit.Below w.heap.size w w' := by
  go_enter Try.func19, Try.ntmps19
  go_wp2_with fail
  refine (ofFirst_nil w _).mono ?_
  rintro _ w2 ⟨rfl, h⟩
  go_wp2
  go_ret
  exact ⟨rfl, h⟩
set_option maxHeartbeats 400000 in
theorem diff_nil (w : World) : Calls Try.prog 20 #[.slice none 0 0] w fun e w' => e = .returned (.slice none 0 0) ∧ RowKit.Below w.heap.size w w' := by
  go_enter Try.func20, Try.ntmps20
  go_wp2_with fail
  refine (ofFirst_nil w _).mono ?_
  rintro _ w2 ⟨rfl, h⟩
  go_wp2
  go_ret
  exact ⟨rfl, h⟩
section
variable [Inhabited Txt]
set_option maxRecDepth 100000 in
set_option maxHeartbeats 1000000 in
theorem ofFirsto_any (W : World) (g o cap : Nat) (p0 : Option Nat × List ByteArray) (ps : List (Option Nat × List ByteArray)) (hcell : ∀ j p, (p0 :: ps)[j]? = some p → W.cell? ⟨g, o + j, none⟩ = some (pv p.1)) (hfl : ∀ p ∈ p0 :: ps, FlkO W p.1 p.2) (hcap : ps.length + 1 ≤ cap) (hln : ps.length ≤ 2600000000000) (hsum : (ps.map (fun p => p.2.length)).sum ≤ 2600000000000) (oth : Int) :
    Calls Try.prog 36 #[.slice (some ⟨g, o, none⟩) (ps.length + 1) cap, .int .i64 oth] W fun e w' => ∃ v, e = .returned v ∧ ∃ L, Srs (p0.2.filter fun x => ((tal (ps.map (·.2)) x : Nat) : Int) == oth) L ∧ Rw W.heap.size w' v L ∧ Below W.heap.size W w' := by
  obtain ⟨i0, hi0, hz0, hz1, hz2⟩ := info_parts info_ptr
  have hmf : ∀ (fn : Fn) (first cap : Array Value) (w : World), (Instr.makeFunc fn first cap).run Try.prog w = .ok (.func fn first cap) w := fun _ _ _ _ => rfl
  obtain ⟨T, hT⟩ : ∃ T, ps.length = T := ⟨_, rfl⟩
  rw [hT] at hcap hln ⊢
  obtain ⟨a', ha', hsl⟩ : ∃ a' : Addr, (T = 0 ∨ a' = ⟨g, o + 1, none⟩) ∧ ∀ w, (Instr.slice 42 (.slice (some ⟨g, o, none⟩) (T + 1) cap) (some (.int .i64 1)) none none).run Try.prog w = .ok (.slice (some a') T (cap - 1)) w := by
    refine ⟨if cap = 1 then ⟨g, o, none⟩ else ⟨g, o + 1, none⟩, ?_, fun w => ?_⟩
    · by_cases h : cap = 1
      · exact .inl (by omega)
      · rw [if_neg h]; exact .inr rfl
    · rw [slice_low w _ _ Try.underlying42 i0 hi0 _ (T + 1) cap 1 (1 : Int) rfl (by omega), hz1]
      simp [Addr.add_lit]
  obtain ⟨W1, hW1⟩ : ∃ W1, W.alloc (.cells #[.int .i64 oth] 3) = W1 := ⟨_, rfl⟩
  have hb1 : Below W.heap.size W W1 := by rw [← hW1]; exact (Below.refl _ W).alloc (Nat.le_refl _) _
  have hs1 : W1.heap.size = W.heap.size + 1 := by rw [← hW1]; simp
  have hg1 : W1.heap[W.heap.size]? = some (.cells #[.int .i64 oth] 3 (0, 0)) := by rw [← hW1]; exact heap_alloc_new _ _
  have hc1 : W1.cell? ⟨W.heap.size, 0, none⟩ = some (.int .i64 oth) := by rw [cell_of_row _ _ _ _ _ _ hg1]; rfl
  have mT := tallyo_any W1 (some a') (cap - 1) ps (fun j p hp => by
    rcases ha' with h | h
    · have := (List.getElem?_eq_some_iff.1 hp).1; omega
    · refine ⟨g, o + 1, by rw [h], ?_⟩
      have h2 := hcell (j + 1) p (by rw [List.getElem?_cons_succ]; exact hp)
      rw [show o + 1 + j = o + (j + 1) by omega]
      exact (hb1.cell (p := ⟨g, o + (j + 1), none⟩) (World.block_lt_of_cell? _ _ h2)).trans h2) (fun p hp => (hfl p (List.mem_cons_of_mem _ hp)).below hb1) (by rw [hT]; exact hln) hsum
  rw [hT] at mT
  have hc0 := hcell 0 p0 rfl
  rw [Nat.add_zero] at hc0
  have hgl := World.block_lt_of_cell? _ _ hc0
  have HF0 := keep (hfl p0 (by simp))
  have HB1 := keep hb1
  have HC1 := keep hc1
  have HC0 := keep hc0
  have hne : ((T : Int) + 1 == 0) = false := beq_eq_false_iff_ne.2 (by omega)
  have HS1 := keep hs1
  clear hcell hfl hsum hb1 hg1 hc1 hc0 hT ha' hs1
  go_enter Try.func36, Try.ntmps36
  go_wp2_with fail
  refine mT.mono ?_
  rintro _ w2 ⟨rfl, n, hTal, hb2, hn⟩
  have hs1 := HS1.out
  obtain ⟨W3, hW3⟩ : ∃ W3, w2.alloc (.cells #[.map (some W1.heap.size)] 70) = W3 := ⟨_, rfl⟩
  have hb23 : Below w2.heap.size w2 W3 := by rw [← hW3]; exact (Below.refl _ w2).alloc (Nat.le_refl _) _
  have hs3 : W3.heap.size = w2.heap.size + 1 := by rw [← hW3]; simp
  have hg3 : W3.heap[w2.heap.size]? = some (.cells #[.map (some W1.heap.size)] 70 (0, 0)) := by rw [← hW3]; exact heap_alloc_new _ _
  have hc3 : W3.cell? ⟨w2.heap.size, 0, none⟩ = some (.map (some W1.heap.size)) := by rw [cell_of_row _ _ _ _ _ _ hg3]; rfl
  have hT3 := hTal.kept (hb23.block _ hTal.lt)
  have hb13 : Below W1.heap.size W1 W3 := hb2.trans (hb23.mono hb2.size)
  have hb3 : Below W.heap.size W W3 := HB1.out.trans (hb13.mono HB1.out.size)
  have hc03 : W3.cell? ⟨g, o, none⟩ = some (pv p0.1) := (hb3.cell (p := ⟨g, o, none⟩) hgl).trans HC0.out
  have hc13 : W3.cell? ⟨W.heap.size, 0, none⟩ = some (.int .i64 oth) := (hb13.cell (p := ⟨W.heap.size, 0, none⟩) (by show W.heap.size < W1.heap.size; omega)).trans HC1.out
  have hsz2 := hb2.size
  have hmb := hTal.lt
  have mM := memberso_any (HF0.out.below hb3)
  obtain ⟨hszs, hkl⟩ := flko_few (HF0.out.below hb3)
  have HT3 := keep hT3
  have HB3 := keep hb3
  have HC3 := keep hc3
  have HC13 := keep hc13
  have HSZ := keep hszs
  have HS3 := keep hs3
  have HSZ2 := keep hsz2
  have HMB := keep hmb
  clear hT3 hb3 hc3 hc13 hszs hTal hb2 hb23 hg3 hb13 hn mT hs1 hs3 hsz2 hmb
  obtain ⟨p0a, p0b⟩ := p0
  dsimp only at mM hc03 hkl HSZ
  obtain ⟨pq, hpq⟩ : ∃ pq, pv p0a = pq := ⟨_, rfl⟩
  rw [hpq] at mM hc03
  clear hpq
  go_wp2_with fail
  refine mM.mono ?_
  rintro _ w4 ⟨v, L, rfl, hL, ⟨g4, rfl, hown⟩, hb4⟩
  have hs1 := HS1.out
  have hs3 := HS3.out
  have hsz2 := HSZ2.out
  have hmb := HMB.out
  have hg4 := (hown.lt g4 rfl).1
  have hLk : ∀ x ∈ L, x.size ≤ maxLen := fun x hx => HSZ.out x (hL.1.subset hx)
  have hLl : L.length ≤ 2600000000000 := by rw [hL.1.length_eq]; exact hkl
  have mDel := del_any w4 W3.heap.size g4 L.length L hown hLk hLl w2.heap.size W.heap.size W1.heap.size n _ oth (HT3.out.kept (hb4.block _ HT3.out.lt)) ((hb4.cell (p := ⟨w2.heap.size, 0, none⟩) (by show w2.heap.size < W3.heap.size; omega)).trans HC3.out) ((hb4.cell (p := ⟨W.heap.size, 0, none⟩) (by show W.heap.size < W3.heap.size; omega)).trans HC13.out) (by omega) (by omega) (by omega)
  have HL := keep hL
  have HB4 := keep hb4
  have HG4 := keep hg4
  clear hL hown hb4 mM hLk hs1 hs3 hsz2 hmb hg4
  go_wp2_with fail
  refine mDel.mono ?_
  rintro _ w5 ⟨rfl, hR, hg5⟩
  have HR := keep hR
  have HG5 := keep hg5
  clear mDel hR hg5
  go_wp2
  go_ret
  have hs1 := HS1.out
  have hs3 := HS3.out
  have hsz2 := HSZ2.out
  have hg4 := HG4.out
  refine ⟨_, rfl, _, ?_, own_down HR.out (by omega), ?_⟩
  · exact filter_srs _ HL.out
  · have h4 := HB3.out.trans (HB4.out.mono HB3.out.size)
    exact h4.grown HG5.out h4.size (fun k e => by cases e; omega)
set_option maxHeartbeats 400000 in
theorem intero_any (W : World) (g o cap : Nat) (p0 : Option Nat × List ByteArray) (ps : List (Option Nat × List ByteArray)) (hcell : ∀ j p, (p0 :: ps)[j]? = some p → W.cell? ⟨g, o + j, none⟩ = some (pv p.1)) (hfl : ∀ p ∈ p0 :: ps, FlkO W p.1 p.2) (hcap : ps.length + 1 ≤ cap) (hln : ps.length ≤ 2600000000000) (hsum : (ps.map (fun p => p.2.length)).sum ≤ 2600000000000) :
    Calls Try.prog 19 #[.slice (some ⟨g, o, none⟩) (ps.length + 1) cap] W fun e w' => ∃ v, e = .returned v ∧ ∃ L, Srs (p0.2.filter fun x => tal (ps.map (·.2)) x == ps.length) L ∧ Rw W.heap.size w' v L ∧ Below W.heap.size W w' := by
  have mO := ofFirsto_any W g o cap p0 ps hcell hfl hcap hln hsum (ps.length : Int)
  rw [show (fun x => ((tal (ps.map (·.2)) x : Nat) : Int) == (ps.length : Int)) = fun x => tal (ps.map (·.2)) x == ps.length from funext fun x => by rw [Bool.eq_iff_iff, beq_iff_eq, beq_iff_eq]; omega] at mO
  obtain ⟨T, hT⟩ : ∃ T, ps.length = T := ⟨_, rfl⟩
  rw [hT] at mO hln ⊢
  have hw : IntKind.i64.wrap ((T : Int) + 1 - 1) = (T : Int) := by rw [IntKind.wrap_i64]; omega
  clear hcell hfl hsum hT hcap
  go_enter Try.func19, Try.ntmps19
  go_wp2_with fail
  refine mO.mono ?_
  rintro _ w2 ⟨v, rfl, h⟩
  go_wp2
  go_ret
  exact ⟨v, rfl, h⟩
set_option maxHeartbeats 400000 in
theorem diffo_any (W : World) (g o cap : Nat) (p0 : Option Nat × List ByteArray) (ps : List (Option Nat × List ByteArray)) (hcell : ∀ j p, (p0 :: ps)[j]? = some p → W.cell? ⟨g, o + j, none⟩ = some (pv p.1)) (hfl : ∀ p ∈ p0 :: ps, FlkO W p.1 p.2) (hcap : ps.length + 1 ≤ cap) (hln : ps.length ≤ 2600000000000) (hsum : (ps.map (fun p => p.2.length)).sum ≤ 2600000000000) :
    Calls Try.prog 20 #[.slice (some ⟨g, o, none⟩) (ps.length + 1) cap] W fun e w' => ∃ v, e = .returned v ∧ ∃ L, Srs (p0.2.filter fun x => tal (ps.map (·.2)) x == 0) L ∧ Rw W.heap.size w' v L ∧ Below W.heap.size W w' := by
  have mO := ofFirsto_any W g o cap p0 ps hcell hfl hcap hln hsum 0
  rw [show (fun x => ((tal (ps.map (·.2)) x : Nat) : Int) == 0) = fun x => tal (ps.map (·.2)) x == 0 from funext fun x => by rw [Bool.eq_iff_iff, beq_iff_eq, beq_iff_eq]; omega] at mO
  clear hcell hfl hsum hcap
  go_enter Try.func20, Try.ntmps20
  go_wp2_with fail
  refine mO.mono ?_
  rintro _ w2 ⟨v, rfl, h⟩
  go_wp2
  go_ret
  exact ⟨v, rfl, h⟩
end
end Go.Proofs.Ytmokahcjkokanaa

/-
  Several flocks beside each other in one memory: what one of them does leaves the others as they were.
-/
namespace Go.Proofs.Ytmokahcjkokanaa
open Go.RowKit Go.Shelf
/-- one flock of a family -/
structure Fk where
  h : ByteArray → Nat
  N : Nat
  r : Roles
  R : Nat
  b : Nat
  x : Nat
  s : Sx
def Fk.Lies (f : Fk) (w : World) : Prop := Rec f.h f.N w f.r f.R f.b f.x f.s ∧ HashIs f.x f.h
/-- two flocks share no block -/
def Apt (f g : Fk) : Prop := ∀ k, rr f.r f.R k = (0, 0) ∨ rr g.r g.R k = (0, 0)
theorem Apt.symm {f g : Fk} (h : Apt f g) : Apt g f := fun k => (h k).symm
theorem rec_zero {h : ByteArray → Nat} {N : Nat} {w : World} {r : Roles} {R b x : Nat} {s : Sx} (hr : Rec h N w r R b x s) {k : Nat} (hk : w.heap.size ≤ k) : rr r R k = (0, 0) := by
  refine rr_zero.2 ⟨by have := hr.lt; omega, ?_⟩
  rcases Classical.em (r k = (0, 0)) with e | e
  · exact e
  · exact absurd (hr.1.1.1 k e) (by omega)
/-- flocks in blocks that W does not have, no two of them in one -/
def Fam (W w : World) (L : List Fk) : Prop :=
  (∀ f ∈ L, f.Lies w ∧ ∀ k, k < W.heap.size → rr f.r f.R k = (0, 0)) ∧ L.Pairwise Apt ∧ Below W.heap.size W w
theorem Fam.below {W w w' : World} {L : List Fk} (h : Fam W w L) (hb : Below w.heap.size w w') : Fam W w' L :=
  ⟨fun f hf => ⟨⟨(h.1 f hf).1.1.below hb, (h.1 f hf).1.2⟩, (h.1 f hf).2⟩, h.2.1, h.2.2.trans (hb.mono h.2.2.size)⟩
theorem Fk.kept {f g : Fk} {w w' : World} {r' : Roles} (hg : g.Lies w) (ha : Apt f g) (hf : Fr w (rr f.r f.R) w' (rr r' f.R)) : g.Lies w' :=
  ⟨hg.1.kept hf.2.1 (fun k hk hne => (hf.2.2 k hk ((ha k).resolve_right hne)).1), hg.2⟩
theorem Apt.step {f g : Fk} {w w' : World} {N' : Nat} {r' : Roles} {s' : Sx} (hg : g.Lies w) (ha : Apt f g) (hf : Fr w (rr f.r f.R) w' (rr r' f.R)) : Apt { f with N := N', r := r', s := s' } g := by
  intro k
  rcases Classical.em (rr g.r g.R k = (0, 0)) with e | e
  · exact .inr e
  · refine .inl (hf.2.2 k ?_ ((ha k).resolve_right e)).2
    rcases Nat.lt_or_ge k w.heap.size with hlt | hge
    · exact hlt
    · exact absurd (rec_zero hg.1 hge) e
theorem Fam.step {W w w' : World} {A B : List Fk} {f : Fk} {N' : Nat} {r' : Roles} {s' : Sx} (h : Fam W w (A ++ f :: B)) (h1 : Rec f.h N' w' r' f.R f.b f.x s') (hf : Fr w (rr f.r f.R) w' (rr r' f.R)) :
    Fam W w' (A ++ { f with N := N', r := r', s := s' } :: B) := by
  obtain ⟨p1, p2, p3⟩ := h
  rw [List.pairwise_append, List.pairwise_cons] at p2
  obtain ⟨q1, ⟨q2, q3⟩, q4⟩ := p2
  have hA : ∀ g ∈ A, Apt f g := fun g hg => (q4 g hg f (by simp)).symm
  have hin : f ∈ A ++ f :: B := by simp
  refine ⟨fun g hg => ?_, ?_, p3.trans (hf.below p3.size (p1 f hin).2)⟩
  · rcases List.mem_append.1 hg with e | e
    · have := p1 g (by simp [e])
      exact ⟨Fk.kept this.1 (hA g e) hf, this.2⟩
    · rcases List.mem_cons.1 e with rfl | e
      · exact ⟨⟨h1, (p1 f hin).1.2⟩, fun k hk => (hf.2.2 k (Nat.lt_of_lt_of_le hk p3.size) ((p1 f hin).2 k hk)).2⟩
      · have := p1 g (by simp [e])
        exact ⟨Fk.kept this.1 (q2 g e) hf, this.2⟩
  · rw [List.pairwise_append, List.pairwise_cons]
    refine ⟨q1, ⟨fun g hg => Apt.step (p1 g (by simp [hg])).1 (q2 g hg) hf, q3⟩, fun g hg g' hg' => ?_⟩
    rcases List.mem_cons.1 hg' with rfl | e
    · exact (Apt.step (p1 g (by simp [hg])).1 (hA g hg) hf).symm
    · exact q4 g hg g' (by simp [e])
theorem Fam.push {W w w' : World} {L : List Fk} (h : Fam W w L) (hb : Below w.heap.size w w') {f : Fk} (h1 : f.Lies w') (hz : ∀ k, k < w.heap.size → rr f.r f.R k = (0, 0)) : Fam W w' (L ++ [f]) := by
  have h' := h.below hb
  refine ⟨fun g hg => ?_, ?_, h'.2.2⟩
  · rcases List.mem_append.1 hg with e | e
    · exact h'.1 g e
    · rw [List.mem_singleton.1 e]
      exact ⟨h1, fun k hk => hz k (Nat.lt_of_lt_of_le hk h.2.2.size)⟩
  · rw [List.pairwise_append]
    refine ⟨h.2.1, List.pairwise_singleton _ _, fun g hg g' hg' => ?_⟩
    rw [List.mem_singleton.1 hg']
    intro k
    rcases Nat.lt_or_ge k w.heap.size with hlt | hge
    · exact .inr (hz k hlt)
    · exact .inl (rec_zero (h.1 g hg).1.1 hge)
/-- a new flock -/
theorem Fam.new {W w w' : World} {L : List Fk} (h : Fam W w L) (hb : Below w.heap.size w w') {hh : ByteArray → Nat} {N x : Nat} (hH : HashIs x hh) (h1 : Rec hh N w' (fun k => if k = w.heap.size then (5, 0) else (0, 0)) (w.heap.size + 1) w.heap.size x Dc.none0) :
    Fam W w' (L ++ [⟨hh, N, fun k => if k = w.heap.size then (5, 0) else (0, 0), w.heap.size + 1, w.heap.size, x, Dc.none0⟩]) :=
  h.push hb ⟨h1, hH⟩ (fun k hk => rr_zero.2 ⟨by show k ≠ w.heap.size + 1; omega, by show (if k = w.heap.size then ((5, 0) : Nat × Nat) else (0, 0)) = (0, 0); rw [if_neg (by omega)]⟩)
/-- one of them is asked -/
theorem fam_has {W w : World} {A B : List Fk} {f : Fk} (h : Fam W w (A ++ f :: B)) (hN : f.N ≤ 2600000000000) (key : ByteArray) (hk : key.size ≤ maxLen) :
    Calls Try.prog 13 #[.pointer (some ⟨f.R, 0, none⟩), .string key] w fun e w' => e = .returned (.bool (lk f.s key).isSome) ∧ ∃ r' s', Samd f.s s' ∧ Fam W w' (A ++ { f with r := r', s := s' } :: B) := by
  have hf := (h.1 f (by simp)).1
  refine (fhas_any hf.2 hf.1 hN key hk).mono ?_
  rintro _ w' ⟨rfl, r', s', q1, q2, q3⟩
  exact ⟨rfl, r', s', q2, h.step (N' := f.N) q1 q3⟩
/-- a text is added to one of them -/
theorem fam_add {W w : World} {A B : List Fk} {f : Fk} (h : Fam W w (A ++ f :: B)) (hN : f.N + 1 ≤ 2600000000000) (key : ByteArray) :
    Calls Try.prog 11 #[.pointer (some ⟨f.R, 0, none⟩), .string key] w fun e w' => (∃ (x : Bool) (c : Int), e = .returned (.tuple #[.bool x, .int .i64 c])) ∧ ∃ r' s', ln s' ≤ ln f.s + 1 ∧ Fam W w' (A ++ { f with N := f.N + 1, r := r', s := s' } :: B) := by
  have hf := (h.1 f (by simp)).1
  refine (fadd_some hf.2 hf.1 hN key).mono ?_
  rintro _ w' ⟨he, r', s', q1, q2, q3, q4⟩
  exact ⟨he, r', s', q3, h.step q1 q4⟩
/-- what Union, Inter and Diff ask of them -/
theorem Fam.flks {W w : World} {L : List Fk} (h : Fam W w L) (hN : ∀ f ∈ L, f.N ≤ 2600000000000) : ∀ p ∈ L.map (fun f => (some f.R, kys f.s)), FlkO w p.1 p.2 := by
  intro p hp
  obtain ⟨f, hf, rfl⟩ := List.mem_map.1 hp
  exact ⟨f.h, f.N, f.r, f.b, f.x, f.s, (h.1 f hf).1.1, hN f hf, rfl⟩
end Go.Proofs.Ytmokahcjkokanaa

/-
  Plain mathematics: who is in a union, in what all have, in a difference, told by how many have it.
-/
namespace Go.Proofs.Ytmokahcjkokanaa
open Go.RowKit Go.Shelf
theorem tal_cons (l : List ByteArray) (ls : List (List ByteArray)) (x : ByteArray) : tal (l :: ls) x = (if inB x l then 1 else 0) + tal ls x := by
  unfold tal
  rw [List.filter_cons]
  cases inB x l
  · simp
  · simp; omega
theorem tal_max (ls : List (List ByteArray)) (x : ByteArray) : tal ls x ≤ ls.length := List.length_filter_le _ _
theorem tal_perm {ls ms : List (List ByteArray)} (h : ls.Perm ms) (x : ByteArray) : tal ls x = tal ms x := (h.filter _).length_eq
theorem tal_some (ls : List (List ByteArray)) (x : ByteArray) : 0 < tal ls x ↔ x ∈ ls.flatten := by
  unfold tal
  rw [List.length_pos_iff_exists_mem]
  constructor
  · rintro ⟨l, hl⟩
    obtain ⟨h1, h2⟩ := List.mem_filter.1 hl
    exact List.mem_flatten.2 ⟨l, h1, (inB_iff _ _).1 h2⟩
  · intro h
    obtain ⟨l, h1, h2⟩ := List.mem_flatten.1 h
    exact ⟨l, List.mem_filter.2 ⟨h1, (inB_iff _ _).2 h2⟩⟩
theorem inB_srs {l m : List ByteArray} (h : Srs l m) (x : ByteArray) : inB x m = inB x l := by
  rw [Bool.eq_iff_iff, inB_iff, inB_iff]
  exact h.1.mem_iff
theorem in_union {ls : List (List ByteArray)} {U : List ByteArray} (h : Srs (uniq ls.flatten) U) (x : ByteArray) : inB x U = decide (0 < tal ls x) := by
  rw [inB_srs h, Bool.eq_iff_iff, inB_iff, decide_eq_true_iff, tal_some, mem_uniq]
theorem in_inter {l0 : List ByteArray} {ls : List (List ByteArray)} {U : List ByteArray} (h : Srs (l0.filter fun x => tal ls x == ls.length) U) (x : ByteArray) : inB x U = decide (tal (l0 :: ls) x = ls.length + 1) := by
  have ht := tal_max ls x
  rw [inB_srs h, Bool.eq_iff_iff, inB_iff, decide_eq_true_iff, List.mem_filter, tal_cons, beq_iff_eq, ← inB_iff]
  cases inB x l0
  · simp; omega
  · simp; omega
theorem in_diff {l0 : List ByteArray} {ls : List (List ByteArray)} {U : List ByteArray} (h : Srs (l0.filter fun x => tal ls x == 0) U) (x : ByteArray) : inB x U = (decide (tal (l0 :: ls) x = 1) && inB x l0) := by
  rw [inB_srs h, Bool.eq_iff_iff, inB_iff, Bool.and_eq_true, decide_eq_true_iff, List.mem_filter, tal_cons, beq_iff_eq, ← inB_iff]
  cases inB x l0
  · simp
  · simp
/-- the order of the others is nothing -/
theorem union_back {l0 : List ByteArray} {ls ms : List (List ByteArray)} (hp : ls.Perm ms) {U V : List ByteArray} (h : Srs (uniq (l0 :: ls).flatten) U) (h' : Srs (uniq (l0 :: ms).flatten) V) : V = U := by
  refine Srs.eq h' h (perm_of_mem (nodup_uniq _) (nodup_uniq _) fun y => ?_)
  rw [mem_uniq, mem_uniq, ← tal_some, ← tal_some, tal_perm (hp.cons l0)]
theorem inter_back {l0 : List ByteArray} {ls ms : List (List ByteArray)} (hp : ls.Perm ms) {U V : List ByteArray} (h : Srs (l0.filter fun x => tal ls x == ls.length) U) (h' : Srs (l0.filter fun x => tal ms x == ms.length) V) : V = U := by
  refine Srs.eq h' h ?_
  rw [show (fun x => tal ms x == ms.length) = fun x => tal ls x == ls.length from funext fun x => by rw [tal_perm hp, hp.length_eq]]
theorem diff_back {l0 : List ByteArray} {ls ms : List (List ByteArray)} (hp : ls.Perm ms) {U V : List ByteArray} (h : Srs (l0.filter fun x => tal ls x == 0) U) (h' : Srs (l0.filter fun x => tal ms x == 0) V) : V = U := by
  refine Srs.eq h' h ?_
  rw [show (fun x => tal ms x == 0) = fun x => tal ls x == 0 from funext fun x => by rw [tal_perm hp]]
/-- a flock and itself -/
theorem union_self {l0 : List ByteArray} (hn : l0.Nodup) {U V : List ByteArray} (h : Srs (uniq [l0, l0].flatten) U) (h' : Srs l0 V) : U = V := by
  refine Srs.eq h h' (perm_of_mem (nodup_uniq _) hn fun y => ?_)
  rw [mem_uniq]
  simp
theorem diff_self {l0 : List ByteArray} {U : List ByteArray} (h : Srs (l0.filter fun x => tal [l0] x == 0) U) : U = [] := by
  have h0 : (l0.filter fun x => tal [l0] x == 0) = [] := by
    rw [List.filter_eq_nil_iff]
    intro x hx
    have : inB x l0 = true := (inB_iff _ _).2 hx
    rw [tal_cons, this]
    simp
  rw [h0] at h
  exact List.perm_nil.1 h.1
end Go.Proofs.Ytmokahcjkokanaa

/-
  How a row of texts, and a row of numbers, that came in are read.
-/
namespace Go.Proofs.Ytmokahcjkokanaa
open Go.ChangeShapes Go.WideShapes Go.ChangeAt Go.RowKit
set_option maxRecDepth 100000
theorem bytes_str : Try.prog.bytesOf 9 = 16 := by kernel_rfl
section
variable {H : Type} {enc : TypeId × Value → H} {W : World}
theorem open_texts1 {v : Value} {d : DataW H} {p : List MemPlace} {base : Nat} (o : Value.okWide Try.prog W .any base 27 v)
    (h : DataW.Trod enc Try.prog W 0 (fun _ => true) true 27 v d p) :
    ∃ so cap S, v = .slice so S.length cap ∧ Txts W so S ∧ ((d = .nil ∧ S = []) ∨ ∃ D E, d = .slice D E ∧ D.length = S.length) := by
  obtain ⟨a0, l0, c0, rfl⟩ := okWide_slice Try.underlying27 o
  obtain ⟨fuel, h⟩ := h
  rcases Go.Deep.open_slice Try.underlying27 h with ⟨hcs, hx⟩ | ⟨a, len, cap, m, n, D, Pl, hcs, _, hl, hm, hmm, hx, hel⟩
  · have hcs : [Value.slice a0 l0 c0] = [.slice none 0 0] := hcs
    cases hcs
    cases hx
    exact ⟨none, 0, [], rfl, fun j hj => absurd hj (by simp), .inl ⟨rfl, rfl⟩⟩
  · have hcs : [Value.slice a0 l0 c0] = [.slice (some a) len cap] := hcs
    cases hcs
    simp only [if_true] at hmm
    subst hmm
    have each : ∀ i, ∃ g : ByteArray, i < l0 → W.cell? (a.add i) = some (.string g) ∧ g.size ≤ maxLen := by
      intro i
      by_cases hi : i < l0
      · obtain ⟨cs', h1, h2⟩ := hel i (by omega)
        obtain ⟨g, hg, _, hw⟩ := DataW.trod_string Try.underlying9 h2
        rw [cells_str] at h1
        obtain ⟨_, _, hcl⟩ := World.cells?_some h1
        refine ⟨g, fun _ => ⟨?_, hw⟩⟩
        have e := hcl 0 (by omega)
        rw [hg, Nat.mul_one] at e
        exact e
      · exact ⟨.empty, fun h => absurd h hi⟩
    obtain ⟨f, hf⟩ := Classical.skolem.1 each
    have hL : ((List.range l0).map f).length = l0 := by simp
    cases hx
    refine ⟨some a, _, (List.range l0).map f, by rw [hL], fun i hi => ?_, .inr ⟨_, _, rfl, by simp⟩⟩
    rw [hL] at hi
    have e : ((List.range l0).map f)[i]'(by rw [hL]; exact hi) = f i := by simp
    rw [e]
    obtain ⟨g0, g1⟩ := hf i hi
    refine ⟨a, rfl, ?_, g1, g0⟩
    have := lt_cell g0
    rwa [add_block] at this
/-- the numbers of a row that came in, of a kind, each within P -/
def Nums (P : Int → Prop) (q : IntKind) (w : World) (so : Option Addr) (S : List Int) : Prop :=
  ∀ j (h : j < S.length), ∃ a, so = some a ∧ a.block < w.heap.size ∧ P S[j] ∧ w.cell? (a.add j) = some (.int q S[j])
theorem open_nums {t e : TypeId} {q : IntKind} (ht : Try.prog.underlying t = some (.slice e)) (he : Try.prog.underlying e = some (.int q)) (hc : Try.prog.cellsOf e = 1) {v : Value} {d : DataW H} {p : List MemPlace} {base : Nat} (o : Value.okWide Try.prog W .any base t v)
    (h : DataW.Trod enc Try.prog W 0 (fun _ => true) true t v d p) :
    ∃ so cap S, v = .slice so S.length cap ∧ Nums (fun x => (Lit.int q x).wf = true) q W so S := by
  obtain ⟨a0, l0, c0, rfl⟩ := okWide_slice ht o
  obtain ⟨fuel, h⟩ := h
  rcases Go.Deep.open_slice ht h with ⟨hcs, hx⟩ | ⟨a, len, cap, m, n, D, Pl, hcs, _, hl, hm, hmm, hx, hel⟩
  · have hcs : [Value.slice a0 l0 c0] = [.slice none 0 0] := hcs
    cases hcs
    cases hx
    exact ⟨none, 0, [], rfl, fun j hj => absurd hj (by simp)⟩
  · have hcs : [Value.slice a0 l0 c0] = [.slice (some a) len cap] := hcs
    cases hcs
    simp only [if_true] at hmm
    subst hmm
    have each : ∀ i, ∃ g : Int, i < l0 → W.cell? (a.add i) = some (.int q g) ∧ (Lit.int q g).wf = true := by
      intro i
      by_cases hi : i < l0
      · obtain ⟨cs', h1, h2⟩ := hel i (by omega)
        obtain ⟨g, hg, _, hw⟩ := DataW.trod_int he h2
        rw [hc] at h1
        obtain ⟨_, _, hcl⟩ := World.cells?_some h1
        refine ⟨g, fun _ => ⟨?_, hw⟩⟩
        have e := hcl 0 (by omega)
        rw [hg, Nat.mul_one] at e
        exact e
      · exact ⟨0, fun h => absurd h hi⟩
    obtain ⟨f, hf⟩ := Classical.skolem.1 each
    have hL : ((List.range l0).map f).length = l0 := by simp
    cases hx
    refine ⟨some a, _, (List.range l0).map f, by rw [hL], fun i hi => ?_⟩
    rw [hL] at hi
    have e : ((List.range l0).map f)[i]'(by rw [hL]; exact hi) = f i := by simp
    rw [e]
    obtain ⟨g0, g1⟩ := hf i hi
    refine ⟨a, rfl, ?_, g1, g0⟩
    have := lt_cell g0
    rwa [add_block] at this
end
end Go.Proofs.Ytmokahcjkokanaa

/-
  How a row of rows of texts that came in is read.
-/
namespace Go.Proofs.Ytmokahcjkokanaa
open Go.ChangeShapes Go.WideShapes Go.ChangeAt Go.RowKit
set_option maxRecDepth 100000
theorem cells_strs : Try.prog.cellsOf 27 = 1 := by kernel_rfl
section
variable {H : Type} {enc : TypeId × Value → H} {W : World}
theorem open_txts_in {fuel : Nat} {cs : List Value} {x : DataW H × List MemPlace} (h : DataW.trod enc Try.prog W 0 (fun _ => true) true fuel 27 cs = some x) :
    ∃ so cap S, cs = [.slice so S.length cap] ∧ Txts W so S ∧ S.length ≤ maxLen ∧ (so = none → cap = 0) := by
  rcases Go.Deep.open_slice Try.underlying27 h with ⟨hcs, hx⟩ | ⟨a, l0, cap, m, n, D, Pl, hcs, _, hl, hm, hmm, hx, hel⟩
  · exact ⟨none, 0, [], hcs, fun j hj => absurd hj (by simp), Nat.zero_le _, fun _ => rfl⟩
  · simp only [if_true] at hmm
    subst hmm
    have each : ∀ i, ∃ g : ByteArray, i < l0 → W.cell? (a.add i) = some (.string g) ∧ g.size ≤ maxLen := by
      intro i
      by_cases hi : i < l0
      · obtain ⟨cs', h1, h2⟩ := hel i (by omega)
        obtain ⟨g, hg, _, hw⟩ := DataW.trod_string Try.underlying9 h2
        rw [cells_str] at h1
        obtain ⟨_, _, hcl⟩ := World.cells?_some h1
        refine ⟨g, fun _ => ⟨?_, hw⟩⟩
        have e := hcl 0 (by omega)
        rw [hg, Nat.mul_one] at e
        exact e
      · exact ⟨.empty, fun h => absurd h hi⟩
    obtain ⟨f, hf⟩ := Classical.skolem.1 each
    have hL : ((List.range l0).map f).length = l0 := by simp
    refine ⟨some a, _, (List.range l0).map f, by rw [hL]; exact hcs, fun i hi => ?_, by rw [hL]; exact Nat.le_trans hl hm, fun e => by cases e⟩
    rw [hL] at hi
    have e : ((List.range l0).map f)[i]'(by rw [hL]; exact hi) = f i := by simp
    rw [e]
    obtain ⟨g0, g1⟩ := hf i hi
    refine ⟨a, rfl, ?_, g1, g0⟩
    have := lt_cell g0
    rwa [add_block] at this
/-- the rows of texts of a row that came in -/
def Rowss (w : World) (so : Option Addr) (R : List (List ByteArray)) : Prop :=
  ∀ j (h : j < R.length), ∃ a, so = some a ∧ a.block < w.heap.size ∧ ∃ so' cap', w.cell? (a.add j) = some (.slice so' R[j].length cap') ∧ Txts w so' R[j] ∧ R[j].length ≤ maxLen ∧ (so' = none → cap' = 0)
theorem open_rows {v : Value} {d : DataW H} {p : List MemPlace} {base : Nat} (o : Value.okWide Try.prog W .any base 41 v)
    (h : DataW.Trod enc Try.prog W 0 (fun _ => true) true 41 v d p) :
    ∃ so cap R, v = .slice so R.length cap ∧ Rowss W so R ∧ R.length ≤ maxLen := by
  obtain ⟨a0, l0, c0, rfl⟩ := okWide_slice Try.underlying41 o
  obtain ⟨fuel, h⟩ := h
  rcases Go.Deep.open_slice Try.underlying41 h with ⟨hcs, hx⟩ | ⟨a, len, cap, m, n, D, Pl, hcs, _, hl, hm, hmm, hx, hel⟩
  · have hcs : [Value.slice a0 l0 c0] = [.slice none 0 0] := hcs
    cases hcs
    cases hx
    exact ⟨none, 0, [], rfl, fun j hj => absurd hj (by simp), Nat.zero_le _⟩
  · have hcs : [Value.slice a0 l0 c0] = [.slice (some a) len cap] := hcs
    cases hcs
    simp only [if_true] at hmm
    subst hmm
    have each : ∀ i, ∃ g : List ByteArray, i < l0 → ∃ so' cap', W.cell? (a.add i) = some (.slice so' g.length cap') ∧ Txts W so' g ∧ g.length ≤ maxLen ∧ (so' = none → cap' = 0) := by
      intro i
      by_cases hi : i < l0
      · obtain ⟨cs', h1, h2⟩ := hel i (by omega)
        obtain ⟨so', cap', g, hg, hT, hw, hc0⟩ := open_txts_in h2
        rw [cells_strs] at h1
        obtain ⟨_, _, hcl⟩ := World.cells?_some h1
        refine ⟨g, fun _ => ⟨so', cap', ?_, hT, hw, hc0⟩⟩
        have e := hcl 0 (by omega)
        rw [hg, Nat.mul_one] at e
        exact e
      · exact ⟨[], fun h => absurd h hi⟩
    obtain ⟨f, hf⟩ := Classical.skolem.1 each
    have hL : ((List.range l0).map f).length = l0 := by simp
    cases hx
    refine ⟨some a, _, (List.range l0).map f, by rw [hL], fun i hi => ?_, by rw [hL]; exact Nat.le_trans hl hm⟩
    rw [hL] at hi
    have e : ((List.range l0).map f)[i]'(by rw [hL]; exact hi) = f i := by simp
    rw [e]
    obtain ⟨so', cap', g0, g1, g2, g3⟩ := hf i hi
    refine ⟨a, rfl, ?_, so', cap', g0, g1, g2, g3⟩
    have := lt_cell g0
    rwa [add_block] at this
/-- a row of texts that came in, none of it being of no room -/
theorem open_txts_at {v : Value} {d : DataW H} {p : List MemPlace} {base : Nat} (o : Value.okWide Try.prog W .any base 27 v)
    (h : DataW.Trod enc Try.prog W 0 (fun _ => true) true 27 v d p) : ∃ so cap S, v = .slice so S.length cap ∧ Txts W so S ∧ S.length ≤ maxLen ∧ (so = none → cap = 0) := by
  obtain ⟨a0, l0, c0, rfl⟩ := okWide_slice Try.underlying27 o
  obtain ⟨fuel, h⟩ := h
  obtain ⟨so, cap, S, hcs, hT, hl, hc⟩ := open_txts_in h
  have hcs : [Value.slice a0 l0 c0] = [.slice so S.length cap] := hcs
  cases hcs
  exact ⟨_, _, S, rfl, hT, hl, hc⟩
end
theorem Txts.bel {w w' : World} {B : Nat} {so : Option Addr} {S : List ByteArray} (h : Txts w so S) (hb : Below B w w') (hB : w.heap.size ≤ B) : Txts w' so S := fun j hj => by
  obtain ⟨a, e, hab, h1, h2⟩ := h j hj
  exact ⟨a, e, Nat.lt_of_lt_of_le hab hb.size, h1, (hb.cell (by rw [add_block]; omega)).trans h2⟩
theorem Rowss.bel {w w' : World} {B : Nat} {so : Option Addr} {R : List (List ByteArray)} (h : Rowss w so R) (hb : Below B w w') (hB : w.heap.size ≤ B) : Rowss w' so R := fun j hj => by
  obtain ⟨a, e, hab, so', cap', h1, h2, h3⟩ := h j hj
  exact ⟨a, e, Nat.lt_of_lt_of_le hab hb.size, so', cap', (hb.cell (by rw [add_block]; omega)).trans h1, h2.bel hb hB, h3⟩
end Go.Proofs.Ytmokahcjkokanaa

/-
  Several flocks, a row of pointers to them, and a row of texts, beside each other in one memory.
-/
namespace Go.Proofs.Ytmokahcjkokanaa
open Go.RowKit Go.Shelf
set_option linter.unusedVariables false
/-- a row of pointers -/
def Pr (B : Nat) (w : World) (v : Value) (P : List Nat) : Prop := w.ownsRow B 25 1 v P.length (P.map fun R => Value.pointer (some ⟨R, 0, none⟩))
/-- a family of flocks L, a row of pointers P, a row of texts tx: no two of them share a block -/
def Alg (W w : World) (v5 v6 : Value) (L : List Fk) (P : List Nat) (tx : List ByteArray) : Prop :=
  Fam W w L ∧ (Pr W.heap.size w v5 P ∧ ∀ g, v5.ownBlock = some g → ∀ f ∈ L, rr f.r f.R g = (0, 0)) ∧ (Ks W.heap.size w v6 tx ∧ ∀ g, v6.ownBlock = some g → ∀ f ∈ L, rr f.r f.R g = (0, 0)) ∧ ∀ g, v5.ownBlock = some g → v6.ownBlock ≠ some g
theorem Alg.below {W w w' : World} {v5 v6 : Value} {L : List Fk} {P : List Nat} {tx : List ByteArray} (h : Alg W w v5 v6 L P tx) (hb : Below w.heap.size w w') : Alg W w' v5 v6 L P tx :=
  ⟨h.1.below hb, ⟨own_kept h.2.1.1 (fun k hk => hb.block k (own_lt h.2.1.1 hk)), h.2.1.2⟩, ⟨own_kept h.2.2.1.1 (fun k hk => hb.block k (own_lt h.2.2.1.1 hk)), h.2.2.1.2⟩, h.2.2.2⟩
theorem Alg.step {W w w' : World} {v5 v6 : Value} {A B : List Fk} {f : Fk} {P : List Nat} {tx : List ByteArray} {N' : Nat} {r' : Roles} {s' : Sx} (h : Alg W w v5 v6 (A ++ f :: B) P tx) (h1 : Rec f.h N' w' r' f.R f.b f.x s') (hf : Fr w (rr f.r f.R) w' (rr r' f.R)) :
    Alg W w' v5 v6 (A ++ { f with N := N', r := r', s := s' } :: B) P tx := by
  obtain ⟨p1, ⟨p2, p3⟩, ⟨p4, p5⟩, p6⟩ := h
  have hin : f ∈ A ++ f :: B := by simp
  have keepz : ∀ g, g < w.heap.size → (∀ f' ∈ A ++ f :: B, rr f'.r f'.R g = (0, 0)) → ∀ f' ∈ A ++ { f with N := N', r := r', s := s' } :: B, rr f'.r f'.R g = (0, 0) := by
    intro g hg hz f' hf'
    rcases List.mem_append.1 hf' with e | e
    · exact hz f' (by simp [e])
    · rcases List.mem_cons.1 e with rfl | e
      · exact (hf.2.2 g hg (hz f hin)).2
      · exact hz f' (by simp [e])
  exact ⟨p1.step h1 hf, ⟨own_kept p2 (fun k hk => (hf.2.2 k (own_lt p2 hk) (p3 k hk f hin)).1), fun g hg => keepz g (own_lt p2 hg) (p3 g hg)⟩, ⟨own_kept p4 (fun k hk => (hf.2.2 k (own_lt p4 hk) (p5 k hk f hin)).1), fun g hg => keepz g (own_lt p4 hg) (p5 g hg)⟩, p6⟩
theorem alg_has {W w : World} {v5 v6 : Value} {A B : List Fk} {f : Fk} {P : List Nat} {tx : List ByteArray} (h : Alg W w v5 v6 (A ++ f :: B) P tx) (hN : f.N ≤ 2600000000000) (key : ByteArray) (hk : key.size ≤ maxLen) :
    Calls Try.prog 13 #[.pointer (some ⟨f.R, 0, none⟩), .string key] w fun e w' => e = .returned (.bool (lk f.s key).isSome) ∧ ∃ r' s', Samd f.s s' ∧ Alg W w' v5 v6 (A ++ { f with r := r', s := s' } :: B) P tx := by
  have hf := (h.1.1 f (by simp)).1
  refine (fhas_any hf.2 hf.1 hN key hk).mono ?_
  rintro _ w' ⟨rfl, r', s', q1, q2, q3⟩
  exact ⟨rfl, r', s', q2, h.step (N' := f.N) q1 q3⟩
theorem alg_add {W w : World} {v5 v6 : Value} {A B : List Fk} {f : Fk} {P : List Nat} {tx : List ByteArray} (h : Alg W w v5 v6 (A ++ f :: B) P tx) (hN : f.N + 1 ≤ 2600000000000) (key : ByteArray) :
    Calls Try.prog 11 #[.pointer (some ⟨f.R, 0, none⟩), .string key] w fun e w' => (∃ (x : Bool) (c : Int), e = .returned (.tuple #[.bool x, .int .i64 c])) ∧ ∃ r' s', ln s' ≤ ln f.s + 1 ∧ Alg W w' v5 v6 (A ++ { f with N := f.N + 1, r := r', s := s' } :: B) P tx := by
  have hf := (h.1.1 f (by simp)).1
  refine (fadd_some hf.2 hf.1 hN key).mono ?_
  rintro _ w' ⟨he, r', s', q1, q2, q3, q4⟩
  exact ⟨he, r', s', q3, h.step q1 q4⟩
/-- one flock more -/
theorem Alg.new {W w w' : World} {v5 v6 : Value} {L : List Fk} {P : List Nat} {tx : List ByteArray} (h : Alg W w v5 v6 L P tx) (hb : Below w.heap.size w w') {hh : ByteArray → Nat} {N x : Nat} (hH : HashIs x hh) (h1 : Rec hh N w' (fun k => if k = w.heap.size then (5, 0) else (0, 0)) (w.heap.size + 1) w.heap.size x Dc.none0) :
    Alg W w' v5 v6 (L ++ [⟨hh, N, fun k => if k = w.heap.size then (5, 0) else (0, 0), w.heap.size + 1, w.heap.size, x, Dc.none0⟩]) P tx := by
  have h' := h.below hb
  have hz : ∀ g, g < w.heap.size → rr (fun k => if k = w.heap.size then (5, 0) else (0, 0)) (w.heap.size + 1) g = (0, 0) := fun g hg => rr_zero.2 ⟨by omega, by show (if g = w.heap.size then ((5, 0) : Nat × Nat) else (0, 0)) = (0, 0); rw [if_neg (by omega)]⟩
  refine ⟨h.1.new hb hH h1, ⟨h'.2.1.1, fun g hg f hf => ?_⟩, ⟨h'.2.2.1.1, fun g hg f hf => ?_⟩, h.2.2.2⟩
  · rcases List.mem_append.1 hf with e | e
    · exact h.2.1.2 g hg f e
    · rw [List.mem_singleton.1 e]; exact hz g (own_lt h.2.1.1 hg)
  · rcases List.mem_append.1 hf with e | e
    · exact h.2.2.1.2 g hg f e
    · rw [List.mem_singleton.1 e]; exact hz g (own_lt h.2.2.1.1 hg)
/-- another row of texts, grown in its own block or in a new one -/
theorem Alg.texts {W w w' : World} {v5 v6 v6' : Value} {L : List Fk} {P : List Nat} {tx tx' : List ByteArray} (h : Alg W w v5 v6 L P tx) (hk : Ks W.heap.size w' v6' tx') (hs : w.heap.size ≤ w'.heap.size) (ho : w'.os = w.os ∧ w'.tape = w.tape ∧ w'.output = w.output)
    (hsame : ∀ k, k < w.heap.size → v6.ownBlock ≠ some k → w'.heap[k]? = w.heap[k]?) (hat : ∀ g, v6'.ownBlock = some g → v6.ownBlock = some g ∨ w.heap.size ≤ g) : Alg W w' v5 v6' L P tx' := by
  obtain ⟨p1, ⟨p2, p3⟩, ⟨p4, p5⟩, p6⟩ := h
  have far : ∀ f ∈ L, ∀ k, rr f.r f.R k ≠ (0, 0) → v6.ownBlock ≠ some k := fun f hf k hne e => hne (p5 k e f hf)
  have hz0 := p1.2.2.size
  refine ⟨⟨fun f hf => ⟨⟨(p1.1 f hf).1.1.kept hs (fun k hk hne => hsame k hk (far f hf k hne)), (p1.1 f hf).1.2⟩, (p1.1 f hf).2⟩, p1.2.1, p1.2.2.trans ⟨ho.1, ho.2.1, ho.2.2, by omega, fun k hk => hsame k (by omega) (fun e => by have := (p4.lt k e).1; omega)⟩⟩, ⟨own_kept p2 (fun k hk => hsame k (own_lt p2 hk) (p6 k hk)), p3⟩, ⟨hk, fun g hg f hf => ?_⟩, fun g hg hg' => ?_⟩
  · rcases hat g hg with e | e
    · exact p5 g e f hf
    · exact rec_zero (p1.1 f hf).1.1 e
  · rcases hat g hg' with e | e
    · exact p6 g hg e
    · have := own_lt p2 hg; omega
/-- another row of pointers, grown in its own block or in a new one -/
theorem Alg.ptrs {W w w' : World} {v5 v5' v6 : Value} {L : List Fk} {P P' : List Nat} {tx : List ByteArray} (h : Alg W w v5 v6 L P tx) (hk : Pr W.heap.size w' v5' P') (hs : w.heap.size ≤ w'.heap.size) (ho : w'.os = w.os ∧ w'.tape = w.tape ∧ w'.output = w.output)
    (hsame : ∀ k, k < w.heap.size → v5.ownBlock ≠ some k → w'.heap[k]? = w.heap[k]?) (hat : ∀ g, v5'.ownBlock = some g → v5.ownBlock = some g ∨ w.heap.size ≤ g) : Alg W w' v5' v6 L P' tx := by
  obtain ⟨p1, ⟨p2, p3⟩, ⟨p4, p5⟩, p6⟩ := h
  have far : ∀ f ∈ L, ∀ k, rr f.r f.R k ≠ (0, 0) → v5.ownBlock ≠ some k := fun f hf k hne e => hne (p3 k e f hf)
  have hz0 := p1.2.2.size
  refine ⟨⟨fun f hf => ⟨⟨(p1.1 f hf).1.1.kept hs (fun k hk hne => hsame k hk (far f hf k hne)), (p1.1 f hf).1.2⟩, (p1.1 f hf).2⟩, p1.2.1, p1.2.2.trans ⟨ho.1, ho.2.1, ho.2.2, by omega, fun k hk => hsame k (by omega) (fun e => by have := (p2.lt k e).1; omega)⟩⟩, ⟨hk, fun g hg f hf => ?_⟩, ⟨own_kept p4 (fun k hk => hsame k (own_lt p4 hk) (fun e => p6 k e hk)), p5⟩, fun g hg hg' => ?_⟩
  · rcases hat g hg with e | e
    · exact p3 g e f hf
    · exact rec_zero (p1.1 f hf).1.1 e
  · rcases hat g hg with e | e
    · exact p6 g e hg'
    · have := own_lt p4 hg'; omega
end Go.Proofs.Ytmokahcjkokanaa

namespace Go.Proofs.Ytmokahcjkokanaa
open Go.RowKit Go.Shelf
set_option linter.unusedVariables false
theorem pr_form {B : Nat} {w : World} {v : Value} {P : List Nat} (h : Pr B w v P) : ∃ ao cap, v = .slice ao P.length cap := by
  unfold Pr at h
  rcases h.2 with ⟨rfl, h0⟩ | ⟨g, cap, cur, rfl, _⟩
  · exact ⟨none, 0, by rw [h0]⟩
  · exact ⟨_, _, rfl⟩
theorem alg_ptr {W w : World} {v5 v6 : Value} {L : List Fk} {P : List Nat} {tx : List ByteArray} (h : Alg W w v5 v6 L P tx) (R : Nat) (hl : P.length ≤ 7000000000000) :
    ∃ g cap w', (Builtin.append_ #[42, 42] 42 #[v5, .slice (some ⟨w.heap.size, 0, none⟩) 1 1]).run Try.prog (w.alloc (.cells #[.pointer (some ⟨R, 0, none⟩)] 25)) = .ok (.slice (some ⟨g, 0, none⟩) (P.length + 1) cap) w' ∧
      Alg W w' (.slice (some ⟨g, 0, none⟩) (P.length + 1) cap) v6 L (P ++ [R]) tx := by
  obtain ⟨i0, hi0, hz0, hz1, hzb⟩ := info_parts info_ptr
  obtain ⟨ao, cap0, rfl⟩ := pr_form h.2.1.1
  have hz := h.1.2.2.size
  have h5 := h.2.1.1
  unfold Pr at h5
  obtain ⟨g, cap, W3, hrun, hown, hgr, hat, hg3⟩ := run_append_lies (P := Try.prog) (w := w.alloc (.cells #[.pointer (some ⟨R, 0, none⟩)] 25)) 42 42 W.heap.size 25 i0 _ 1 8 Try.underlying42 hi0 hz0 hz1 hzb rfl (by omega) (.slice ao P.length cap0) P.length _ (h5.alloc _) ⟨w.heap.size, 0, none⟩ 1 1 [.pointer (some ⟨R, 0, none⟩)] rfl (World.news_of_block (cs := #[.pointer (some ⟨R, 0, none⟩)]) (t := 25) (fr := (0, 0)) (heap_alloc_new w _)) (by simp [Value.oneCell']) (by omega) (by unfold maxLen; omega) (by omega) (by simp; omega) (w.heap.size + 1) (by simp)
  have hs3 : w.heap.size + 1 ≤ W3.heap.size := by have := hgr.size; simpa using this
  refine ⟨g, cap, W3, hrun, h.ptrs ?_ (by omega) ⟨hgr.os, hgr.tape, hgr.output⟩ (fun k hk hn => ?_) (fun k hk => ?_)⟩
  · unfold Pr
    rw [List.map_append, List.length_append]
    exact hown
  · rw [hgr.block k (by simp; omega) (fun e => hn e.symm), Below.heap_alloc _ _ _ hk]
  · cases hk
    rcases hat with h | h
    · exact .inl h
    · exact .inr (by show w.heap.size ≤ g; omega)
theorem ks_len3 {B : Nat} {w : World} {v : Value} {xs : List ByteArray} (h : Ks B w v xs) : ∃ ao ca, v = .slice ao xs.length ca := by
  obtain ⟨ao, ca, e, _⟩ := ks_form h
  exact ⟨ao, ca, e⟩
theorem alg_app {W w : World} {v5 v6 : Value} {L : List Fk} {P : List Nat} {tx S : List ByteArray} (h : Alg W w v5 v6 L P tx) {so : Option Addr} (hS : Txts W so S) (c : Nat) (hc : so = none → c = 0) (hl : tx.length + S.length ≤ 7000000000000) :
    ∃ ao cap w', (Builtin.append_ #[27, 27] 27 #[v6, .slice so S.length c]).run Try.prog w = .ok (.slice ao (tx.length + S.length) cap) w' ∧
      Alg W w' v5 (.slice ao (tx.length + S.length) cap) L P (tx ++ S) := by
  obtain ⟨i0, hi0, hz0, hz1, hzb⟩ := info_parts info_strK
  have hz := h.1.2.2.size
  have h6 := h.2.2.1.1
  cases so with
  | none =>
    obtain rfl := hc rfl
    have hS0 : S = [] := by
      cases S with
      | nil => rfl
      | cons x S => obtain ⟨a, e, _⟩ := hS 0 (by simp); cases e
    subst hS0
    obtain ⟨ao, cap0, rfl, _⟩ := ks_form h6
    have hr := run_append_owned_none (P := Try.prog) (w := w) W.heap.size 27 27 9 i0 1 Try.underlying27 hi0 _ tx.length _ (by unfold Ks at h6; exact h6)
    refine ⟨ao, cap0, w, hr, ?_⟩
    rw [List.append_nil]
    exact h
  | some a =>
    unfold Ks at h6
    obtain ⟨v', W3, hrun, hown, hgr, _, hat⟩ := run_append_own_at (P := Try.prog) w W.heap.size 27 27 9 i0 _ 1 16 Try.underlying27 hi0 hz0 hz1 hzb rfl (by omega) v6 tx.length _ h6 a S.length c (S.map Value.string) (by simp) (fun j u hu => by
      rw [List.getElem?_map] at hu
      cases e : S[j]? with
      | none => rw [e] at hu; cases hu
      | some z =>
        rw [e] at hu
        cases hu
        obtain ⟨hj, hz⟩ := List.getElem?_eq_some_iff.1 e
        obtain ⟨a', ea, hab, _, hc⟩ := hS j hj
        cases ea
        rw [hz] at hc
        exact (h.1.2.2.cell (by rw [add_block]; exact hab)).trans hc) (fun u hu => by
        obtain ⟨y, _, rfl⟩ := List.mem_map.1 hu
        rfl) (by unfold maxLen; omega) (by omega) hz
    have hk : Ks W.heap.size W3 v' (tx ++ S) := by
      unfold Ks
      rw [List.map_append, List.length_append]
      exact hown
    obtain ⟨ao, ca, e⟩ := ks_len3 hk
    rw [List.length_append] at e
    subst e
    refine ⟨ao, ca, W3, hrun, h.texts hk hgr.size ⟨hgr.os, hgr.tape, hgr.output⟩ (fun k hk hn => hgr.block k hk (fun e => hn e.symm)) (fun k hk => ?_)⟩
    rcases hat with h | h
    · exact .inl (by rw [← h]; exact hk)
    · rw [h] at hk; cases hk; exact .inr (Nat.le_refl _)
theorem ks_none_new (w : World) : Ks w.heap.size (w.alloc (.cells #[] 9)) (.slice (some ⟨w.heap.size, 0, none⟩) 0 0) [] :=
  ⟨rfl, .inr ⟨w.heap.size, 0, _, rfl, Nat.le_refl _, heap_alloc_new _ _, Nat.le_refl _, by unfold maxLen; omega, rfl, rfl⟩⟩
/-- nothing has come in yet -/
theorem alg_start {W w : World} (h : Below W.heap.size W w) {v6 : Value} {tx : List ByteArray} (hk : Ks W.heap.size w v6 tx) : Alg W w (.slice none 0 0) v6 [] [] tx :=
  ⟨⟨(fun f hf => by cases hf), List.Pairwise.nil, h⟩, ⟨⟨rfl, .inl ⟨rfl, rfl⟩⟩, (fun g hg => by cases hg)⟩, ⟨hk, (fun g hg f hf => by cases hf)⟩, (fun g hg => by cases hg)⟩
end Go.Proofs.Ytmokahcjkokanaa
