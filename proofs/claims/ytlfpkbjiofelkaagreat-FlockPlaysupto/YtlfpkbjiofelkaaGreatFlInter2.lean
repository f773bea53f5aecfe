/-
  Contracts over this program: Inter and Diff, where some of the flocks are none, and of no flocks at all.
-/
import Derived.Test.YtlfpkbjiofelkaaGreatFlTally2
import Derived.Test.YtlfpkbjiofelkaaGreatFlInter
import Derived.Test.YtlfpkbjiofelkaaGreatsortZL
import Derived.Sort.KeysCollected
/-
  Contracts over this program: Union; a flock or none handed to Members.
-/
namespace Go.Proofs.YtlfpkbjiofelkaaGreat
open Go.RowKit Go.Shelf Go.Sort Go.Maps
/-- each text once -/
def uniq : List ByteArray → List ByteArray
  | [] => []
  | a :: l => if inB a l then uniq l else a :: uniq l
theorem mem_uniq (x : ByteArray) : ∀ l : List ByteArray, x ∈ uniq l ↔ x ∈ l
  | [] => by simp [uniq]
  | a :: l => by
    unfold uniq
    have ih := mem_uniq x l
    cases h : inB a l with
    | true =>
      rw [if_pos rfl, ih, List.mem_cons]
      constructor
      · exact .inr
      · rintro (e | e)
        · rw [e]; exact (inB_iff _ _).1 h
        · exact e
    | false => rw [if_neg (by simp), List.mem_cons, List.mem_cons, ih]
theorem nodup_uniq : ∀ l : List ByteArray, (uniq l).Nodup
  | [] => List.nodup_nil
  | a :: l => by
    unfold uniq
    cases h : inB a l with
    | true => rw [if_pos rfl]; exact nodup_uniq l
    | false =>
      rw [if_neg (by simp), List.nodup_cons]
      exact ⟨fun e => (by rw [(inB_iff _ _).2 ((mem_uniq a l).1 e)] at h; cases h), nodup_uniq l⟩
theorem tal_pos (ls : List (List ByteArray)) (k : ByteArray) : 0 < tal ls k ↔ k ∈ ls.flatten := by
  unfold tal
  rw [List.length_pos_iff_exists_mem]
  constructor
  · rintro ⟨l, hl⟩
    rw [List.mem_filter, inB_iff] at hl
    exact List.mem_flatten.2 ⟨l, hl.1, hl.2⟩
  · intro h
    obtain ⟨l, h1, h2⟩ := List.mem_flatten.1 h
    exact ⟨l, List.mem_filter.2 ⟨h1, (inB_iff _ _).2 h2⟩⟩
theorem sorts_is (m : Nat) : AnyZ.SortsIn Tryz.prog Tryz.sortZ_ren Fence.wide m :=
  ⟨fun blk off cap ss W hH hblk hsz => callsIn_wide.2 (AnyM.slices_Sort_string Tryz.sortS blk off cap ss W hH hblk hsz),
   fun p cap W => callsIn_wide.2 (AnyM.slices_Sort_string_none Tryz.sortS p cap W)⟩
theorem keys_at (mb : Option Nat) (W : World) : Calls Tryz.prog 45 #[.map mb] W fun e w' => e = .returned (.func (.func 70) #[] #[.pointer (some ⟨W.heap.size, 0, none⟩)]) ∧ w' = W.alloc (.cells #[.map mb] 80) :=
  callsIn_wide.1 (AnyZ.keys_in Tryz.sortK Fence.wide 5 trivial rfl mb W)
set_option maxHeartbeats 1000000 in
theorem sorted_at {H : Type} (b nn : Nat) (D0 : DataW H) (R : Value → Option (DataW H × List MemPlace)) (w : World) (hown : w.ownsMap Tryz.prog 9 R b nn D0) (hmax : Maps.size D0 ≤ maxLen) (hbytes : Maps.size D0 * 16 ≤ 140737488355328) :
    Calls Tryz.prog 44 #[.func (.func 70) #[] #[.pointer (some ⟨w.heap.size, 0, none⟩)]] (w.alloc (.cells #[.map (some b)] 80)) fun e w' => ∃ (v : Value) (ss : List (List UInt8)), e = .returned v ∧ ss.Perm (strKeys D0) ∧
      w'.ownsRow (w.alloc (.cells #[.map (some b)] 80)).heap.size 9 1 v ss.length ((ss.mergeSort (fun x y => decide (x ≤ y))).map encStr) ∧ (v = .slice none 0 0 ↔ ss = []) ∧ RowKit.Below (w.alloc (.cells #[.map (some b)] 80)).heap.size (w.alloc (.cells #[.map (some b)] 80)) w' := by
  have hbl := hown.lt
  have hseq : SeqGives Fence.wide 2 Tryz.prog 70 #[.pointer (some ⟨w.heap.size, 0, none⟩)] encStr (fun ss => ss.Perm (strKeys D0)) (Maps.size D0) (w.alloc (.cells #[.map (some b)] 80)) :=
    AnyZ.keys_gives (ρ := Tryz.sortK_ren) { Tryz.sortK with } Fence.wide _ trivial rfl (by omega) w.heap.size b nn D0 _ (by simp) (by simp) (by
      obtain ⟨es, clock, hb, Ft, hs, hD⟩ := hown
      exact ⟨es, clock, (RowKit.Below.heap_alloc _ _ b hbl).trans hb, Ft, hs, hD⟩)
  exact callsIn_wide.1 (AnyZ.sorted_in Tryz.sortZ Fence.wide 5 trivial trivial trivial trivial rfl (by omega) (sorts_is _) (enters_of Tryz.func52 (by kernel_rfl) rfl) 70 #[.pointer (some ⟨w.heap.size, 0, none⟩)] trivial (enters_of Tryz.func70 (by kernel_rfl) rfl) _ _ hmax hbytes _ hseq)
theorem size_le {w : World} {b n : Nat} {D : DataW Unit} (h : w.ownsMap Tryz.prog 9 (plainElem Tryz.prog 3) b n D) : Maps.size D ≤ n := by
  obtain ⟨es, clock, _, _, hs, rfl⟩ := h
  show ((es.toList.map _).foldr DataW.insert []).length ≤ n
  rw [length_sorted]
  simpa using hs
/-- the keys of a map that counts -/
theorem keys_of {w : World} {b n : Nat} {D : DataW Unit} {c : ByteArray → Nat} (h : w.ownsMap Tryz.prog 9 (plainElem Tryz.prog 3) b n D) (hh : ∀ k, has D (.string (ky k)) = decide (0 < c k)) {U : List ByteArray} (hn : U.Nodup) (hU : ∀ x, x ∈ U ↔ 0 < c x) : (U.map ky).Perm (strKeys D) := by
  obtain ⟨es, hD, hpw, _⟩ := h.entries (string_keyed Tryz.underlying9)
  obtain ⟨es', hD', hko⟩ := h.keysOf
  obtain rfl : es = es' := by rw [hD] at hD'; simpa using hD'
  subst hD
  refine perm_strKeys hpw (fun p hp => by obtain ⟨v, hv⟩ := hko p hp; obtain ⟨x, _, hx, _⟩ := Maps.keyOf_str Tryz.underlying9 hv; exact ⟨x, hx⟩) ?_ (fun x => ?_)
  · rw [List.nodup_iff_pairwise_ne, List.pairwise_map]
    rw [List.nodup_iff_pairwise_ne] at hn
    exact hn.imp (fun {a b} hab e => hab (ky_inj e))
  · have h1 := hh (unky x)
    rw [ky_unky] at h1
    rw [h1, decide_eq_true_eq, ← hU]
    constructor
    · intro hx
      obtain ⟨y, hy, rfl⟩ := List.mem_map.1 hx
      rwa [unky_ky]
    · intro hx
      exact List.mem_map.2 ⟨_, hx, ky_unky x⟩
set_option maxRecDepth 100000 in
set_option maxHeartbeats 1000000 in
theorem uniono_any (W : World) (ao : Option Addr) (cap : Nat) (ps : List (Option Nat × List ByteArray)) (hcell : ∀ j p, ps[j]? = some p → ∃ g o, ao = some ⟨g, o, none⟩ ∧ W.cell? ⟨g, o + j, none⟩ = some (pv p.1)) (hfl : ∀ p ∈ ps, FlkO W p.1 p.2) (hln : ps.length ≤ 2600000000000) (hsum : (ps.map (fun p => p.2.length)).sum ≤ 2600000000000) :
    Calls Tryz.prog 14 #[.slice ao ps.length cap] W fun e w' => ∃ v, e = .returned v ∧ ∃ L, Srs (uniq (ps.map (·.2)).flatten) L ∧ Rw W.heap.size w' v L ∧ RowKit.Below W.heap.size W w' := by
  have mT := tallyo_any W ao cap ps hcell hfl hln hsum
  obtain ⟨ls, hls⟩ : ∃ ls, ps.map (·.2) = ls := ⟨_, rfl⟩
  rw [hls] at mT ⊢
  clear hcell hfl hsum hls
  go_enter Tryz.func14, Tryz.ntmps14
  go_wp2_with fail
  refine mT.mono ?_
  rintro _ w2 ⟨rfl, n, hT, hb2, hn⟩
  obtain ⟨D, hown, _, hhas⟩ := hT
  have hsz := size_le hown
  have mS := sorted_at W.heap.size n D _ w2 hown (by unfold maxLen; omega) (by omega)
  have hP := keys_of hown hhas (nodup_uniq ls.flatten) (fun x => by rw [mem_uniq, tal_pos])
  have HP := keep hP
  have HB2 := keep hb2
  clear mT hown hhas hb2 hP hsz hn
  go_wp2_with fail
  refine (keys_at _ _).mono ?_
  rintro _ w' ⟨rfl, hw'⟩
  subst hw'
  go_wp2_with fail
  refine mS.mono ?_
  rintro _ w3 ⟨v, ss, rfl, hss, hrow, _, hb3⟩
  have hR : Rw W.heap.size w3 v (((uniq ls.flatten).map ky).mergeSort (fun x y => decide (x ≤ y)) |>.map unky) := by
    have e1 : ss.mergeSort (fun x y => decide (x ≤ y)) = ((uniq ls.flatten).map ky).mergeSort (fun x y => decide (x ≤ y)) := mergeSort_of_perm (hss.trans HP.out.symm)
    have e2 : ss.length = (((uniq ls.flatten).map ky).mergeSort (fun x y => decide (x ≤ y)) |>.map unky).length := by rw [List.length_map, ← e1, List.length_mergeSort]
    unfold Rw
    rw [← e2]
    have e3 : enS (((uniq ls.flatten).map ky).mergeSort (fun x y => decide (x ≤ y)) |>.map unky) = (ss.mergeSort (fun x y => decide (x ≤ y))).map encStr := by
      rw [e1]; unfold enS; rw [List.map_map]; rfl
    rw [e3]
    exact own_down hrow (by have := HB2.out.size; simp; omega)
  have HR := keep hR
  have HB3 := keep (HB2.out.trans ((((RowKit.Below.refl _ w2).alloc (Nat.le_refl _) _).trans (hb3.mono (by simp))).mono HB2.out.size))
  clear mS hss hrow hb3 hR
  go_wp2
  go_ret
  exact ⟨v, rfl, _, srs_merge _ (nodup_uniq _), HR.out, HB3.out⟩
theorem memberso_any {W : World} {p : Option Nat} {ks : List ByteArray} (hf : FlkO W p ks) :
    Calls Tryz.prog 24 #[pv p] W fun e w' => ∃ v L, e = .returned v ∧ Srs ks L ∧ Prs W.heap.size w' v L ∧ RowKit.Below W.heap.size W w' := by
  cases p with
  | none =>
    refine (fmembers_nil W).mono ?_
    rintro _ w' ⟨rfl, h1, h2⟩
    obtain rfl : ks = [] := hf
    exact ⟨_, [], rfl, ⟨List.Perm.refl _, List.Pairwise.nil⟩, ⟨_, rfl, h1⟩, h2⟩
  | some R =>
    obtain ⟨h, N, r, b, seed, s, hr, hN, rfl⟩ := hf
    exact fmembers_any W r R b s hr hN
end Go.Proofs.YtlfpkbjiofelkaaGreat

namespace Go.Proofs.YtlfpkbjiofelkaaGreat
open Go.RowKit Go.Shelf Go.Sort
theorem flko_few {W : World} {p : Option Nat} {ks : List ByteArray} (hf : FlkO W p ks) : (∀ x ∈ ks, x.size ≤ maxLen) ∧ ks.length ≤ 2600000000000 := by
  obtain ⟨dv, es, _, rfl, _, hs, hl, _⟩ := flk_each hf
  refine ⟨fun x hx => ?_, by rw [List.length_map]; exact hl⟩
  obtain ⟨e, he, rfl⟩ := List.mem_map.1 hx
  exact hs e he
set_option maxHeartbeats 400000 in
theorem ofFirst_nil (w : World) (oth : Int) : Calls Tryz.prog 47 #[.slice none 0 0, .int .i64 oth] w fun e w' => e = .returned (.slice none 0 0) ∧ RowKit.Below w.heap.size w w' := by
  go_enter Tryz.func47, Tryz.ntmps47
  go_wp2
  go_ret
  exact ⟨rfl, (RowKit.Below.refl _ w).alloc (Nat.le_refl _) _⟩
set_option maxHeartbeats 400000 in
theorem inter_nil (w : World) : Calls Tryz.prog 15 #[.slice none 0 0] w fun e w' => e = .returned (.slice none 0 0) ∧ RowKit.Below w.heap.size w w' := by
  go_enter Tryz.func15, Tryz.ntmps15
  go_wp2_with fail
  refine (ofFirst_nil w _).mono ?_
  rintro _ w2 ⟨rfl, h⟩
  go_wp2
  go_ret
  exact ⟨rfl, h⟩
set_option maxHeartbeats 400000 in
theorem diff_nil (w : World) : Calls Tryz.prog 16 #[.slice none 0 0] w fun e w' => e = .returned (.slice none 0 0) ∧ RowKit.Below w.heap.size w w' := by
  go_enter Tryz.func16, Tryz.ntmps16
  go_wp2_with fail
  refine (ofFirst_nil w _).mono ?_
  rintro _ w2 ⟨rfl, h⟩
  go_wp2
  go_ret
  exact ⟨rfl, h⟩
section
variable [Inhabited Txt]
set_option maxRecDepth 100000 in
set_option maxHeartbeats 1000000 in
theorem ofFirsto_any (W : World) (g o cap : Nat) (p0 : Option Nat × List ByteArray) (ps : List (Option Nat × List ByteArray)) (hcell : ∀ j p, (p0 :: ps)[j]? = some p → W.cell? ⟨g, o + j, none⟩ = some (pv p.1)) (hfl : ∀ p ∈ p0 :: ps, FlkO W p.1 p.2) (hcap : ps.length + 1 ≤ cap) (hln : ps.length ≤ 2600000000000) (hsum : (ps.map (fun p => p.2.length)).sum ≤ 2600000000000) (oth : Int) :
    Calls Tryz.prog 47 #[.slice (some ⟨g, o, none⟩) (ps.length + 1) cap, .int .i64 oth] W fun e w' => ∃ v, e = .returned v ∧ ∃ L, Srs (p0.2.filter fun x => ((tal (ps.map (·.2)) x : Nat) : Int) == oth) L ∧ Rw W.heap.size w' v L ∧ Below W.heap.size W w' := by
  obtain ⟨i0, hi0, hz0, hz1, hz2⟩ := info_parts info_ptr
  have hmf : ∀ (fn : Fn) (first cap : Array Value) (w : World), (Instr.makeFunc fn first cap).run Tryz.prog w = .ok (.func fn first cap) w := fun _ _ _ _ => rfl
  obtain ⟨T, hT⟩ : ∃ T, ps.length = T := ⟨_, rfl⟩
  rw [hT] at hcap hln ⊢
  obtain ⟨a', ha', hsl⟩ : ∃ a' : Addr, (T = 0 ∨ a' = ⟨g, o + 1, none⟩) ∧ ∀ w, (Instr.slice 41 (.slice (some ⟨g, o, none⟩) (T + 1) cap) (some (.int .i64 1)) none none).run Tryz.prog w = .ok (.slice (some a') T (cap - 1)) w := by
    refine ⟨if cap = 1 then ⟨g, o, none⟩ else ⟨g, o + 1, none⟩, ?_, fun w => ?_⟩
    · by_cases h : cap = 1
      · exact .inl (by omega)
      · rw [if_neg h]; exact .inr rfl
    · rw [slice_low w _ _ Tryz.underlying41 i0 hi0 _ (T + 1) cap 1 (1 : Int) rfl (by omega), hz1]
      simp [Addr.add_lit]
  obtain ⟨W1, hW1⟩ : ∃ W1, W.alloc (.cells #[.int .i64 oth] 3) = W1 := ⟨_, rfl⟩
  have hb1 : Below W.heap.size W W1 := by rw [← hW1]; exact (Below.refl _ W).alloc (Nat.le_refl _) _
  have hs1 : W1.heap.size = W.heap.size + 1 := by rw [← hW1]; simp
  have hg1 : W1.heap[W.heap.size]? = some (.cells #[.int .i64 oth] 3 (0, 0)) := by rw [← hW1]; exact heap_alloc_new _ _
  have hc1 : W1.cell? ⟨W.heap.size, 0, none⟩ = some (.int .i64 oth) := by rw [cell_of_row _ _ _ _ _ _ hg1]; rfl
  have mT := tallyo_any W1 (some a') (cap - 1) ps (fun j p hp => by
    rcases ha' with h | h
    · have := (List.getElem?_eq_some_iff.1 hp).1; omega
    · refine ⟨g, o + 1, by rw [h], ?_⟩
      have h2 := hcell (j + 1) p (by rw [List.getElem?_cons_succ]; exact hp)
      rw [show o + 1 + j = o + (j + 1) by omega]
      exact (hb1.cell (p := ⟨g, o + (j + 1), none⟩) (World.block_lt_of_cell? _ _ h2)).trans h2) (fun p hp => (hfl p (List.mem_cons_of_mem _ hp)).below hb1) (by rw [hT]; exact hln) hsum
  rw [hT] at mT
  have hc0 := hcell 0 p0 rfl
  rw [Nat.add_zero] at hc0
  have hgl := World.block_lt_of_cell? _ _ hc0
  have HF0 := keep (hfl p0 (by simp))
  have HB1 := keep hb1
  have HC1 := keep hc1
  have HC0 := keep hc0
  have hne : ((T : Int) + 1 == 0) = false := beq_eq_false_iff_ne.2 (by omega)
  have HS1 := keep hs1
  clear hcell hfl hsum hb1 hg1 hc1 hc0 hT ha' hs1
  go_enter Tryz.func47, Tryz.ntmps47
  go_wp2_with fail
  refine mT.mono ?_
  rintro _ w2 ⟨rfl, n, hTal, hb2, hn⟩
  have hs1 := HS1.out
  obtain ⟨W3, hW3⟩ : ∃ W3, w2.alloc (.cells #[.map (some W1.heap.size)] 80) = W3 := ⟨_, rfl⟩
  have hb23 : Below w2.heap.size w2 W3 := by rw [← hW3]; exact (Below.refl _ w2).alloc (Nat.le_refl _) _
  have hs3 : W3.heap.size = w2.heap.size + 1 := by rw [← hW3]; simp
  have hg3 : W3.heap[w2.heap.size]? = some (.cells #[.map (some W1.heap.size)] 80 (0, 0)) := by rw [← hW3]; exact heap_alloc_new _ _
  have hc3 : W3.cell? ⟨w2.heap.size, 0, none⟩ = some (.map (some W1.heap.size)) := by rw [cell_of_row _ _ _ _ _ _ hg3]; rfl
  have hT3 := hTal.kept (hb23.block _ hTal.lt)
  have hb13 : Below W1.heap.size W1 W3 := hb2.trans (hb23.mono hb2.size)
  have hb3 : Below W.heap.size W W3 := HB1.out.trans (hb13.mono HB1.out.size)
  have hc03 : W3.cell? ⟨g, o, none⟩ = some (pv p0.1) := (hb3.cell (p := ⟨g, o, none⟩) hgl).trans HC0.out
  have hc13 : W3.cell? ⟨W.heap.size, 0, none⟩ = some (.int .i64 oth) := (hb13.cell (p := ⟨W.heap.size, 0, none⟩) (by show W.heap.size < W1.heap.size; omega)).trans HC1.out
  have hsz2 := hb2.size
  have hmb := hTal.lt
  have mM := memberso_any (HF0.out.below hb3)
  obtain ⟨hszs, hkl⟩ := flko_few (HF0.out.below hb3)
  have HT3 := keep hT3
  have HB3 := keep hb3
  have HC3 := keep hc3
  have HC13 := keep hc13
  have HSZ := keep hszs
  have HS3 := keep hs3
  have HSZ2 := keep hsz2
  have HMB := keep hmb
  clear hT3 hb3 hc3 hc13 hszs hTal hb2 hb23 hg3 hb13 hn mT hs1 hs3 hsz2 hmb
  obtain ⟨p0a, p0b⟩ := p0
  dsimp only at mM hc03 hkl HSZ
  obtain ⟨pq, hpq⟩ : ∃ pq, pv p0a = pq := ⟨_, rfl⟩
  rw [hpq] at mM hc03
  clear hpq
  go_wp2_with fail
  refine mM.mono ?_
  rintro _ w4 ⟨v, L, rfl, hL, ⟨g4, rfl, hown⟩, hb4⟩
  have hs1 := HS1.out
  have hs3 := HS3.out
  have hsz2 := HSZ2.out
  have hmb := HMB.out
  have hg4 := (hown.lt g4 rfl).1
  have hLk : ∀ x ∈ L, x.size ≤ maxLen := fun x hx => HSZ.out x (hL.1.subset hx)
  have hLl : L.length ≤ 2600000000000 := by rw [hL.1.length_eq]; exact hkl
  have mDel := del_any w4 W3.heap.size g4 L.length L hown hLk hLl w2.heap.size W.heap.size W1.heap.size n _ oth (HT3.out.kept (hb4.block _ HT3.out.lt)) ((hb4.cell (p := ⟨w2.heap.size, 0, none⟩) (by show w2.heap.size < W3.heap.size; omega)).trans HC3.out) ((hb4.cell (p := ⟨W.heap.size, 0, none⟩) (by show W.heap.size < W3.heap.size; omega)).trans HC13.out) (by omega) (by omega) (by omega)
  have HL := keep hL
  have HB4 := keep hb4
  have HG4 := keep hg4
  clear hL hown hb4 mM hLk hs1 hs3 hsz2 hmb hg4
  go_wp2_with fail
  refine mDel.mono ?_
  rintro _ w5 ⟨rfl, hR, hg5⟩
  have HR := keep hR
  have HG5 := keep hg5
  clear mDel hR hg5
  go_wp2
  go_ret
  have hs1 := HS1.out
  have hs3 := HS3.out
  have hsz2 := HSZ2.out
  have hg4 := HG4.out
  refine ⟨_, rfl, _, ?_, own_down HR.out (by omega), ?_⟩
  · exact filter_srs _ HL.out
  · have h4 := HB3.out.trans (HB4.out.mono HB3.out.size)
    exact h4.grown HG5.out h4.size (fun k e => by cases e; omega)
set_option maxHeartbeats 400000 in
theorem intero_any (W : World) (g o cap : Nat) (p0 : Option Nat × List ByteArray) (ps : List (Option Nat × List ByteArray)) (hcell : ∀ j p, (p0 :: ps)[j]? = some p → W.cell? ⟨g, o + j, none⟩ = some (pv p.1)) (hfl : ∀ p ∈ p0 :: ps, FlkO W p.1 p.2) (hcap : ps.length + 1 ≤ cap) (hln : ps.length ≤ 2600000000000) (hsum : (ps.map (fun p => p.2.length)).sum ≤ 2600000000000) :
    Calls Tryz.prog 15 #[.slice (some ⟨g, o, none⟩) (ps.length + 1) cap] W fun e w' => ∃ v, e = .returned v ∧ ∃ L, Srs (p0.2.filter fun x => tal (ps.map (·.2)) x == ps.length) L ∧ Rw W.heap.size w' v L ∧ Below W.heap.size W w' := by
  have mO := ofFirsto_any W g o cap p0 ps hcell hfl hcap hln hsum (ps.length : Int)
  rw [show (fun x => ((tal (ps.map (·.2)) x : Nat) : Int) == (ps.length : Int)) = fun x => tal (ps.map (·.2)) x == ps.length from funext fun x => by rw [Bool.eq_iff_iff, beq_iff_eq, beq_iff_eq]; omega] at mO
  obtain ⟨T, hT⟩ : ∃ T, ps.length = T := ⟨_, rfl⟩
  rw [hT] at mO hln ⊢
  have hw : IntKind.i64.wrap ((T : Int) + 1 - 1) = (T : Int) := by rw [IntKind.wrap_i64]; omega
  clear hcell hfl hsum hT hcap
  go_enter Tryz.func15, Tryz.ntmps15
  go_wp2_with fail
  refine mO.mono ?_
  rintro _ w2 ⟨v, rfl, h⟩
  go_wp2
  go_ret
  exact ⟨v, rfl, h⟩
set_option maxHeartbeats 400000 in
theorem diffo_any (W : World) (g o cap : Nat) (p0 : Option Nat × List ByteArray) (ps : List (Option Nat × List ByteArray)) (hcell : ∀ j p, (p0 :: ps)[j]? = some p → W.cell? ⟨g, o + j, none⟩ = some (pv p.1)) (hfl : ∀ p ∈ p0 :: ps, FlkO W p.1 p.2) (hcap : ps.length + 1 ≤ cap) (hln : ps.length ≤ 2600000000000) (hsum : (ps.map (fun p => p.2.length)).sum ≤ 2600000000000) :
    Calls Tryz.prog 16 #[.slice (some ⟨g, o, none⟩) (ps.length + 1) cap] W fun e w' => ∃ v, e = .returned v ∧ ∃ L, Srs (p0.2.filter fun x => tal (ps.map (·.2)) x == 0) L ∧ Rw W.heap.size w' v L ∧ Below W.heap.size W w' := by
  have mO := ofFirsto_any W g o cap p0 ps hcell hfl hcap hln hsum 0
  rw [show (fun x => ((tal (ps.map (·.2)) x : Nat) : Int) == 0) = fun x => tal (ps.map (·.2)) x == 0 from funext fun x => by rw [Bool.eq_iff_iff, beq_iff_eq, beq_iff_eq]; omega] at mO
  clear hcell hfl hsum hcap
  go_enter Tryz.func16, Tryz.ntmps16
  go_wp2_with fail
  refine mO.mono ?_
  rintro _ w2 ⟨v, rfl, h⟩
  go_wp2
  go_ret
  exact ⟨v, rfl, h⟩
end
end Go.Proofs.YtlfpkbjiofelkaaGreat
