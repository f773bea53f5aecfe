/-
  Contracts over this program: the first flock's members that are in just so many of the others (ofFirst); Inter and Diff.
-/
import Derived.Test.YtlfpkbjiofelkaaGreatFlTally
import Derived.Test.YtlfpkbjiofelkaaGreatdelFL
namespace Go.Proofs.YtlfpkbjiofelkaaGreat
open Go.RowKit Go.Shelf Go.Sort
/-- texts that a map may hold -/
abbrev Txt : Type := { x : ByteArray // x.size ≤ maxLen }
def enT (x : Txt) : Value := .string x.1
theorem one_enT : OneCell enT := fun _ => rfl
/-- a row of texts lies in a slice, its block from B on -/
def Rw (B : Nat) (w : World) (v : Value) (L : List ByteArray) : Prop := w.ownsRow B 9 1 v L.length (enS L)
set_option maxHeartbeats 400000 in
theorem of1_any (W : World) (B1 B2 mb n : Nat) (c : ByteArray → Nat) (oth : Int) (hT : Tal W mb n c) (h1 : W.cell? ⟨B1, 0, none⟩ = some (.map (some mb))) (h2 : W.cell? ⟨B2, 0, none⟩ = some (.int .i64 oth)) (x : Txt) :
    Calls Tryz.prog 72 #[.string x.1, .pointer (some ⟨B1, 0, none⟩), .pointer (some ⟨B2, 0, none⟩)] W fun e w' => e = .returned (.bool (!(((c x.1 : Nat) : Int) == oth))) ∧ w' = W := by
  have hlk := hT.look x.1 x.2
  obtain ⟨x, hx⟩ := x
  dsimp only at hlk ⊢
  clear hT
  go_enter Tryz.func72, Tryz.ntmps72
  go_wp2
  go_ret
  exact ⟨rfl, rfl⟩
theorem own_down {w : World} {B B' e s : Nat} {v : Value} {n : Nat} {xs : List Value} (h : w.ownsRow B e s v n xs) (hB : B' ≤ B) : w.ownsRow B' e s v n xs := by
  refine ⟨h.1, ?_⟩
  rcases h.2 with h' | ⟨g, cap, cur, h1, h0, h2⟩
  · exact .inl h'
  · exact .inr ⟨g, cap, cur, h1, by omega, h2⟩
theorem filter_srs {l m : List ByteArray} (p : ByteArray → Bool) (h : Srs l m) : Srs (l.filter p) (m.filter p) := ⟨h.1.filter p, h.2.filter p⟩
theorem info_ptr : (Tryz.prog.info? 25).map (fun i => (i.zero, i.size, i.bytes)) = some (some (.pointer none), 1, 8) := by kernel_rfl
section
variable [Inhabited Txt]
theorem holds_txt {W : World} {base g cap : Nat} {t : TypeId} {l : List ByteArray} {d : List Txt} (hd : d.map (·.1) = l) (ho : W.ownsRow base t 1 (.slice (some ⟨g, 0, none⟩) l.length cap) l.length (enS l)) : Holds enT W g 0 d.toArray := by
  intro j hj
  have hj' : j < d.length := by simpa using hj
  have hjl : j < l.length := by rw [← hd, List.length_map]; exact hj'
  rcases ho.2 with ⟨h, _⟩ | ⟨g', cap', cur, h, _, hg, _⟩
  · cases h
  · cases h
    refine ⟨?_, by simp [World.frozen?, hg]⟩
    have h1 := ho.cells (g := g) rfl j (.string l[j]) (by simp [enS, hjl])
    rw [getElem!_pos d.toArray j hj, Nat.zero_add]
    rw [show (⟨g, 0, none⟩ : Addr).add j = ⟨g, j, none⟩ by unfold Addr.add; split <;> simp_all] at h1
    rw [h1]
    subst hd
    simp [enT]
theorem put_txt (cur : Array Value) (F : List Txt) (d : Array Txt) (hF : F.length ≤ d.size) (hp : ∀ j (h : j < F.length), d[j]! = F[j]) (h : d.size ≤ cur.size) : (putCells enT 0 d cur).toList.take F.length = enS (F.map (·.1)) := by
  apply List.ext_getElem?
  intro j
  by_cases hj : j < F.length
  · rw [List.getElem?_take_of_lt hj, Array.getElem?_toList]
    simp only [putCells, enS]
    rw [Array.getElem?_mapIdx, Array.getElem?_eq_getElem (show j < cur.size by omega), List.getElem?_map, List.getElem?_map, List.getElem?_eq_getElem hj]
    simp only [Option.map_some, Nat.zero_le, Nat.zero_add, true_and, Nat.sub_zero]
    rw [if_pos (by omega), hp j hj]
    rfl
  · rw [List.getElem?_take_eq_none (by omega), List.getElem?_eq_none (by rw [enS_len, List.length_map]; omega)]
set_option maxHeartbeats 400000 in
theorem del_any (W : World) (base g cap : Nat) (l : List ByteArray) (ho : W.ownsRow base 9 1 (.slice (some ⟨g, 0, none⟩) l.length cap) l.length (enS l)) (hs : ∀ x ∈ l, x.size ≤ maxLen) (hlen : l.length ≤ 2600000000000)
    (B1 B2 mb n : Nat) (c : ByteArray → Nat) (oth : Int) (hT : Tal W mb n c) (h1 : W.cell? ⟨B1, 0, none⟩ = some (.map (some mb))) (h2 : W.cell? ⟨B2, 0, none⟩ = some (.int .i64 oth)) (hg1 : B1 ≠ g) (hg2 : B2 ≠ g) (hg3 : mb ≠ g) :
    Calls Tryz.prog 71 #[.slice (some ⟨g, 0, none⟩) l.length cap, .func (.func 72) #[] #[.pointer (some ⟨B1, 0, none⟩), .pointer (some ⟨B2, 0, none⟩)]] W fun e w' =>
      e = .returned (.slice (some ⟨g, 0, none⟩) (l.filter fun x => ((c x : Nat) : Int) == oth).length cap) ∧ Rw base w' (.slice (some ⟨g, 0, none⟩) (l.filter fun x => ((c x : Nat) : Int) == oth).length cap) (l.filter fun x => ((c x : Nat) : Int) == oth) ∧ W.grownBy w' (some g) := by
  obtain ⟨d, hd⟩ : ∃ d : List Txt, d.map (·.1) = l := ⟨l.attach.map (fun x => ⟨x.1, hs x.1 x.2⟩), by rw [List.map_map]; show l.attach.map (fun x => x.1) = l; exact List.attach_map_subtype_val l⟩
  have hH := holds_txt hd ho
  rcases ho.2 with ⟨h, _⟩ | ⟨g', cap', cur, h, hbase, hg, q1, q2, q3, q4⟩
  · cases h
  cases h
  have hdl : d.length = l.length := by rw [← hd, List.length_map]
  have hgl : g < W.heap.size := (Array.getElem?_eq_some_iff.1 hg).1
  have hB1 := World.block_lt_of_cell? _ _ h1
  have hB2 := World.block_lt_of_cell? _ _ h2
  have hmb := hT.lt
  have hpa : PredAt Tryz.prog 72 #[.pointer (some ⟨B1, 0, none⟩), .pointer (some ⟨B2, 0, none⟩)] enT (fun x => !(((c x.1 : Nat) : Int) == oth)) W := fun W' x hb =>
    (of1_any W' B1 B2 mb n c oth (hT.kept (hb.block mb hmb)) ((hb.cell (p := ⟨B1, 0, none⟩) hB1).trans h1) ((hb.cell (p := ⟨B2, 0, none⟩) hB2).trans h2) x).mono (fun e w' h => ⟨h.1, 0, h.2⟩)
  have hpo : PredOver Tryz.prog 72 #[.pointer (some ⟨B1, 0, none⟩), .pointer (some ⟨B2, 0, none⟩)] enT (fun x => !(((c x.1 : Nat) : Int) == oth)) g 0 d.toArray.size W := fun m os dk x hdk => by
    have same : ∀ k, k < W.heap.size → k ≠ g → (sortWorld enT W g 0 m dk os).heap[k]? = W.heap[k]? := fun k hk hne => by
      show (grow (putRow enT (Sort.ahead W m) g 0 dk) os).heap[k]? = _
      rw [heap_grow_old _ _ (by simpa using hk)]
      simp [putRow, mapBlock, Sort.ahead, Array.getElem?_modify, Ne.symm hne]
    exact (of1_any _ B1 B2 mb n c oth (hT.kept (same mb hmb hg3)) ((World.cell?_of_block (w := W) (a := ⟨B1, 0, none⟩) (same B1 hB1 hg1)).trans h1) ((World.cell?_of_block (w := W) (a := ⟨B2, 0, none⟩) (same B2 hB2 hg2)).trans h2) x).mono (fun e w' h => ⟨h.1, 0, h.2⟩)
  have hcon := AnyE.slices_DeleteFunc Tryz.delF enT one_enT (fun x => !(((c x.1 : Nat) : Int) == oth)) 72 #[.pointer (some ⟨B1, 0, none⟩), .pointer (some ⟨B2, 0, none⟩)] (enters_of Tryz.func72 (by kernel_rfl) rfl) ⟨.empty, by decide⟩ Tryz.zeroValue9 g 0 cap d.toArray W hpa hpo hH (by simp; omega) (by simp; omega)
  change Calls Tryz.prog 71 _ _ _ at hcon
  rw [show d.toArray.size = l.length by simp [hdl]] at hcon
  have hfl : (d.toArray.toList.filter fun x => !(!(((c x.1 : Nat) : Int) == oth))).map (·.1) = l.filter fun x => ((c x : Nat) : Int) == oth := by
    rw [← hd, List.filter_map]
    simp [Function.comp_def]
  refine hcon.mono ?_
  rintro _ w' ⟨rfl, q, rfl⟩
  generalize hF : (d.toArray.toList.filter fun x => !(!(((c x.1 : Nat) : Int) == oth))) = F at hfl ⊢
  have hFl : F.length ≤ l.length := by rw [← hF, ← hdl]; exact List.length_filter_le _ _
  have hlen2 : (l.filter fun x => ((c x : Nat) : Int) == oth).length = F.length := by rw [← hfl, List.length_map]
  rw [hlen2]
  obtain ⟨A, hA⟩ : ∃ A : Array Txt, (F ++ List.replicate (l.length - F.length) (⟨.empty, by decide⟩ : Txt)).toArray = A := ⟨_, rfl⟩
  have hAs : A.size = l.length := by rw [← hA]; simp; omega
  refine ⟨rfl, ?_, ⟨rfl, rfl, rfl, ?_, ?_⟩⟩
  · unfold Rw
    rw [hlen2, ← hfl, hA]
    refine ⟨by simp [enS_len], .inr ⟨g, cap, putCells enT 0 A cur, rfl, hbase, ?_, by omega, q2, by simp [putCells, q3], ?_⟩⟩
    · show (putRow enT (Sort.ahead W q) g 0 A).heap[g]? = _
      simp [putRow, mapBlock, Sort.ahead, Array.getElem?_modify, hg, onCells]
    · rw [Nat.mul_one]
      refine put_txt cur F A (by omega) (fun j hj => ?_) (by rw [hAs, q3]; omega)
      rw [getElem!_pos A j (by omega)]
      subst hA
      simp [List.getElem_append_left, hj]
  · show W.heap.size ≤ (putRow enT (Sort.ahead W q) g 0 _).heap.size
    simp [putRow, mapBlock, Sort.ahead]
  · intro k hk hne
    show (putRow enT (Sort.ahead W q) g 0 _).heap[k]? = _
    have : g ≠ k := fun e => hne (by rw [e])
    simp [putRow, mapBlock, Sort.ahead, Array.getElem?_modify, this]
set_option maxRecDepth 100000 in
set_option maxHeartbeats 1000000 in
theorem ofFirst_any (W : World) (g o cap : Nat) (p0 : Nat × List ByteArray) (ps : List (Nat × List ByteArray)) (hcell : ∀ j p, (p0 :: ps)[j]? = some p → W.cell? ⟨g, o + j, none⟩ = some (.pointer (some ⟨p.1, 0, none⟩))) (hfl : ∀ p ∈ p0 :: ps, Flk W p.1 p.2) (hcap : ps.length + 1 ≤ cap) (hln : ps.length ≤ 2600000000000) (hsum : (ps.map (fun p => p.2.length)).sum ≤ 2600000000000) (oth : Int) :
    Calls Tryz.prog 47 #[.slice (some ⟨g, o, none⟩) (ps.length + 1) cap, .int .i64 oth] W fun e w' => ∃ v, e = .returned v ∧ ∃ L, Srs (p0.2.filter fun x => ((tal (ps.map (·.2)) x : Nat) : Int) == oth) L ∧ Rw W.heap.size w' v L ∧ Below W.heap.size W w' := by
  obtain ⟨i0, hi0, hz0, hz1, hz2⟩ := info_parts info_ptr
  have hmf : ∀ (fn : Fn) (first cap : Array Value) (w : World), (Instr.makeFunc fn first cap).run Tryz.prog w = .ok (.func fn first cap) w := fun _ _ _ _ => rfl
  obtain ⟨T, hT⟩ : ∃ T, ps.length = T := ⟨_, rfl⟩
  rw [hT] at hcap hln ⊢
  obtain ⟨a', ha', hsl⟩ : ∃ a' : Addr, (T = 0 ∨ a' = ⟨g, o + 1, none⟩) ∧ ∀ w, (Instr.slice 41 (.slice (some ⟨g, o, none⟩) (T + 1) cap) (some (.int .i64 1)) none none).run Tryz.prog w = .ok (.slice (some a') T (cap - 1)) w := by
    refine ⟨if cap = 1 then ⟨g, o, none⟩ else ⟨g, o + 1, none⟩, ?_, fun w => ?_⟩
    · by_cases h : cap = 1
      · exact .inl (by omega)
      · rw [if_neg h]; exact .inr rfl
    · rw [slice_low w _ _ Tryz.underlying41 i0 hi0 _ (T + 1) cap 1 (1 : Int) rfl (by omega), hz1]
      simp [Addr.add_lit]
  obtain ⟨W1, hW1⟩ : ∃ W1, W.alloc (.cells #[.int .i64 oth] 3) = W1 := ⟨_, rfl⟩
  have hb1 : Below W.heap.size W W1 := by rw [← hW1]; exact (Below.refl _ W).alloc (Nat.le_refl _) _
  have hs1 : W1.heap.size = W.heap.size + 1 := by rw [← hW1]; simp
  have hg1 : W1.heap[W.heap.size]? = some (.cells #[.int .i64 oth] 3 (0, 0)) := by rw [← hW1]; exact heap_alloc_new _ _
  have hc1 : W1.cell? ⟨W.heap.size, 0, none⟩ = some (.int .i64 oth) := by rw [cell_of_row _ _ _ _ _ _ hg1]; rfl
  have mT := tally_any W1 (some a') (cap - 1) ps (fun j p hp => by
    rcases ha' with h | h
    · have := (List.getElem?_eq_some_iff.1 hp).1; omega
    · refine ⟨g, o + 1, by rw [h], ?_⟩
      have h2 := hcell (j + 1) p (by rw [List.getElem?_cons_succ]; exact hp)
      rw [show o + 1 + j = o + (j + 1) by omega]
      exact (hb1.cell (p := ⟨g, o + (j + 1), none⟩) (World.block_lt_of_cell? _ _ h2)).trans h2) (fun p hp => (hfl p (List.mem_cons_of_mem _ hp)).below hb1) (by rw [hT]; exact hln) hsum
  rw [hT] at mT
  have hc0 := hcell 0 p0 rfl
  rw [Nat.add_zero] at hc0
  have hgl := World.block_lt_of_cell? _ _ hc0
  have HF0 := keep (hfl p0 (by simp))
  have HB1 := keep hb1
  have HC1 := keep hc1
  have HC0 := keep hc0
  have hne : ((T : Int) + 1 == 0) = false := beq_eq_false_iff_ne.2 (by omega)
  have HS1 := keep hs1
  clear hcell hfl hsum hb1 hg1 hc1 hc0 hT ha' hs1
  go_enter Tryz.func47, Tryz.ntmps47
  go_wp2_with fail
  refine mT.mono ?_
  rintro _ w2 ⟨rfl, n, hTal, hb2, hn⟩
  have hs1 := HS1.out
  obtain ⟨W3, hW3⟩ : ∃ W3, w2.alloc (.cells #[.map (some W1.heap.size)] 80) = W3 := ⟨_, rfl⟩
  have hb23 : Below w2.heap.size w2 W3 := by rw [← hW3]; exact (Below.refl _ w2).alloc (Nat.le_refl _) _
  have hs3 : W3.heap.size = w2.heap.size + 1 := by rw [← hW3]; simp
  have hg3 : W3.heap[w2.heap.size]? = some (.cells #[.map (some W1.heap.size)] 80 (0, 0)) := by rw [← hW3]; exact heap_alloc_new _ _
  have hc3 : W3.cell? ⟨w2.heap.size, 0, none⟩ = some (.map (some W1.heap.size)) := by rw [cell_of_row _ _ _ _ _ _ hg3]; rfl
  have hT3 := hTal.kept (hb23.block _ hTal.lt)
  have hb13 : Below W1.heap.size W1 W3 := hb2.trans (hb23.mono hb2.size)
  have hb3 : Below W.heap.size W W3 := HB1.out.trans (hb13.mono HB1.out.size)
  have hc03 : W3.cell? ⟨g, o, none⟩ = some (.pointer (some ⟨p0.1, 0, none⟩)) := (hb3.cell (p := ⟨g, o, none⟩) hgl).trans HC0.out
  have hc13 : W3.cell? ⟨W.heap.size, 0, none⟩ = some (.int .i64 oth) := (hb13.cell (p := ⟨W.heap.size, 0, none⟩) (by show W.heap.size < W1.heap.size; omega)).trans HC1.out
  have hsz2 := hb2.size
  have hmb := hTal.lt
  obtain ⟨h, N, r, b, seed, s, hr, hN, hks⟩ := HF0.out.below hb3
  have mM := fmembers_any W3 r p0.1 b s hr hN
  have hszs : ∀ x ∈ kys s, x.size ≤ maxLen := fun x hx => by
    obtain ⟨e, he, rfl⟩ := List.mem_map.1 hx
    exact hr.1.2.2.1 e he
  have hkl : (kys s).length ≤ 2600000000000 := by unfold kys; rw [List.length_map]; have := hr.1.2.2.2.1; omega
  have HT3 := keep hT3
  have HB3 := keep hb3
  have HC3 := keep hc3
  have HC13 := keep hc13
  have HKS := keep hks
  have HSZ := keep hszs
  have HS3 := keep hs3
  have HSZ2 := keep hsz2
  have HMB := keep hmb
  clear hT3 hb3 hc3 hc13 hks hszs hTal hb2 hb23 hg3 hb13 hr hn mT hs1 hs3 hsz2 hmb
  obtain ⟨p0a, p0b⟩ := p0
  dsimp only at mM hc03
  go_wp2_with fail
  refine mM.mono ?_
  rintro _ w4 ⟨v, L, rfl, hL, ⟨g4, rfl, hown⟩, hb4⟩
  have hs1 := HS1.out
  have hs3 := HS3.out
  have hsz2 := HSZ2.out
  have hmb := HMB.out
  have hg4 := (hown.lt g4 rfl).1
  have hLk : ∀ x ∈ L, x.size ≤ maxLen := fun x hx => HSZ.out x (hL.1.subset hx)
  have hLl : L.length ≤ 2600000000000 := by rw [hL.1.length_eq]; exact hkl
  have mDel := del_any w4 W3.heap.size g4 L.length L hown hLk hLl w2.heap.size W.heap.size W1.heap.size n _ oth (HT3.out.kept (hb4.block _ HT3.out.lt)) ((hb4.cell (p := ⟨w2.heap.size, 0, none⟩) (by show w2.heap.size < W3.heap.size; omega)).trans HC3.out) ((hb4.cell (p := ⟨W.heap.size, 0, none⟩) (by show W.heap.size < W3.heap.size; omega)).trans HC13.out) (by omega) (by omega) (by omega)
  have HL := keep hL
  have HB4 := keep hb4
  have HG4 := keep hg4
  clear hL hown hb4 mM hLk hs1 hs3 hsz2 hmb hg4
  go_wp2_with fail
  refine mDel.mono ?_
  rintro _ w5 ⟨rfl, hR, hg5⟩
  have HR := keep hR
  have HG5 := keep hg5
  clear mDel hR hg5
  go_wp2
  go_ret
  have hs1 := HS1.out
  have hs3 := HS3.out
  have hsz2 := HSZ2.out
  have hg4 := HG4.out
  refine ⟨_, rfl, _, ?_, own_down HR.out (by omega), ?_⟩
  · rw [show p0b = kys s from HKS.out]
    exact filter_srs _ HL.out
  · have h4 := HB3.out.trans (HB4.out.mono HB3.out.size)
    exact h4.grown HG5.out h4.size (fun k e => by cases e; omega)
set_option maxHeartbeats 400000 in
theorem inter_any (W : World) (g o cap : Nat) (p0 : Nat × List ByteArray) (ps : List (Nat × List ByteArray)) (hcell : ∀ j p, (p0 :: ps)[j]? = some p → W.cell? ⟨g, o + j, none⟩ = some (.pointer (some ⟨p.1, 0, none⟩))) (hfl : ∀ p ∈ p0 :: ps, Flk W p.1 p.2) (hcap : ps.length + 1 ≤ cap) (hln : ps.length ≤ 2600000000000) (hsum : (ps.map (fun p => p.2.length)).sum ≤ 2600000000000) :
    Calls Tryz.prog 15 #[.slice (some ⟨g, o, none⟩) (ps.length + 1) cap] W fun e w' => ∃ v, e = .returned v ∧ ∃ L, Srs (p0.2.filter fun x => tal (ps.map (·.2)) x == ps.length) L ∧ Rw W.heap.size w' v L ∧ Below W.heap.size W w' := by
  have mO := ofFirst_any W g o cap p0 ps hcell hfl hcap hln hsum (ps.length : Int)
  rw [show (fun x => ((tal (ps.map (·.2)) x : Nat) : Int) == (ps.length : Int)) = fun x => tal (ps.map (·.2)) x == ps.length from funext fun x => by rw [Bool.eq_iff_iff, beq_iff_eq, beq_iff_eq]; omega] at mO
  obtain ⟨T, hT⟩ : ∃ T, ps.length = T := ⟨_, rfl⟩
  rw [hT] at mO hln ⊢
  have hw : IntKind.i64.wrap ((T : Int) + 1 - 1) = (T : Int) := by rw [IntKind.wrap_i64]; omega
  clear hcell hfl hsum hT hcap
  go_enter Tryz.func15, Tryz.ntmps15
  go_wp2_with fail
  refine mO.mono ?_
  rintro _ w2 ⟨v, rfl, h⟩
  go_wp2
  go_ret
  exact ⟨v, rfl, h⟩
set_option maxHeartbeats 400000 in
theorem diff_any (W : World) (g o cap : Nat) (p0 : Nat × List ByteArray) (ps : List (Nat × List ByteArray)) (hcell : ∀ j p, (p0 :: ps)[j]? = some p → W.cell? ⟨g, o + j, none⟩ = some (.pointer (some ⟨p.1, 0, none⟩))) (hfl : ∀ p ∈ p0 :: ps, Flk W p.1 p.2) (hcap : ps.length + 1 ≤ cap) (hln : ps.length ≤ 2600000000000) (hsum : (ps.map (fun p => p.2.length)).sum ≤ 2600000000000) :
    Calls Tryz.prog 16 #[.slice (some ⟨g, o, none⟩) (ps.length + 1) cap] W fun e w' => ∃ v, e = .returned v ∧ ∃ L, Srs (p0.2.filter fun x => tal (ps.map (·.2)) x == 0) L ∧ Rw W.heap.size w' v L ∧ Below W.heap.size W w' := by
  have mO := ofFirst_any W g o cap p0 ps hcell hfl hcap hln hsum 0
  rw [show (fun x => ((tal (ps.map (·.2)) x : Nat) : Int) == 0) = fun x => tal (ps.map (·.2)) x == 0 from funext fun x => by rw [Bool.eq_iff_iff, beq_iff_eq, beq_iff_eq]; omega] at mO
  clear hcell hfl hsum hcap
  go_enter Tryz.func16, Tryz.ntmps16
  go_wp2_with fail
  refine mO.mono ?_
  rintro _ w2 ⟨v, rfl, h⟩
  go_wp2
  go_ret
  exact ⟨v, rfl, h⟩
end
end Go.Proofs.YtlfpkbjiofelkaaGreat
