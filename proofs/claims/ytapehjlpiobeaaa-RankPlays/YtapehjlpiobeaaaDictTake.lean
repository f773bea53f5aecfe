/-
  Contracts over this program: an entry is taken out of its chain.
-/
import Derived.Test.YtapehjlpiobeaaaDictMove
import Derived.Laws.CopyOwn
namespace Go.Proofs.Ytapehjlpiobeaaa
open Go.RowKit Go.Shelf
/-- copy within one block -/
theorem copy_run {P : Program} (w : World) (t e ty et : TypeId) (ht : P.underlying t = some (.slice e)) (i : TypeInfo) (hi : P.info? e = some i) (g d o n m cd cs : Nat) (so : Option Addr) (cur : Array Value)
    (hg : w.heap[g]? = some (.cells cur et (0, 0))) (hso : so = some ⟨g, o, none⟩ ∨ m = 0) (hm : m ≤ n) (ho : o + m * i.size ≤ cur.size) (hd : d + m * i.size ≤ cur.size) (h1 : ∀ u ∈ (cur.toList.drop o).take (m * i.size), u.oneCell' = true) :
    (Builtin.copy_ #[t, t] ty #[.slice (some ⟨g, d, none⟩) n cd, .slice so m cs]).run P w = .ok (.int .i64 (m : Int)) (w.setRow g (cur.toList.take d ++ (cur.toList.drop o).take (m * i.size) ++ cur.toList.drop (d + m * i.size)).toArray) := by
  have hl : ((cur.toList.drop o).take (m * i.size)).length = m * i.size := by
    rw [List.length_take, List.length_drop, Array.length_toList]; omega
  have hmin : min m n = m := Nat.min_eq_left hm
  have hst := run_storeCells_at P g d et ((cur.toList.drop o).take (m * i.size)) 0 cur w hg (by rw [hl]; omega) h1
  rw [hl] at hst
  simp only [Nat.add_zero] at hst
  rcases hso with rfl | rfl
  · have hf := run_firstCells_some (P := P) w i.size m ⟨g, o, none⟩ m cs ((cur.toList.drop o).take (m * i.size)) hl (fun j u hu => by
      rw [List.getElem?_take] at hu
      split at hu
      · rw [List.getElem?_drop] at hu
        rw [Addr.add_lit, cell_of_row w g (o + j) cur et (0, 0) hg]
        simpa using hu
      · cases hu)
    simp [Builtin.copy_, run_underlying ht, sizeOf, typeInfo, hi, Builtin.lenOf, hmin, hf, hst, goInt]
  · have hf : (Builtin.firstCells i.size 0 (.slice so 0 cs)).run P w = .ok #[] w := by
      cases so with
      | none => exact run_firstCells_none (P := P) w _ _ _ _
      | some a => exact run_firstCells_some (P := P) w i.size 0 a 0 cs [] (by simp) (by simp)
    rw [Nat.zero_mul, List.take_zero] at hst ⊢
    simp [Builtin.copy_, run_underlying ht, sizeOf, typeInfo, hi, Builtin.lenOf, goInt, hf, hst]
theorem size_run {P : Program} (w : World) (e : TypeId) (i : TypeInfo) (hi : P.info? e = some i) : (sizeOf e).run P w = .ok i.size w := by simp [sizeOf, typeInfo, hi]
theorem slice_low {P : Program} (w : World) (t e : TypeId) (ht : P.underlying t = some (.slice e)) (i : TypeInfo) (hi : P.info? e = some i) (a : Addr) (n cap l : Nat) (x : Int) (hx : x = (l : Int)) (hl : l ≤ n) :
    (Instr.slice t (.slice (some a) n cap) (some (.int .i64 x)) none none).run P w = .ok (.slice (some (if cap = l then a else a.add (l * i.size))) (n - l) (cap - l)) w := by
  subst hx
  have hb := fun code => run_sliceBound (P := P) (w := w) .i64 (l : Int) n code (by omega) (by omega)
  have hz := size_run w e i hi
  simp only [Instr.slice, Instr.sliceBounds, run_underlying ht, Sem.run_bind, Sem.run_pure, Result.andThen_ok, hb, hz, Int.toNat_natCast]
  split <;> rfl
theorem slice_high {P : Program} (w : World) (t e : TypeId) (ht : P.underlying t = some (.slice e)) (i : TypeInfo) (hi : P.info? e = some i) (g n cap l : Nat) (x : Int) (hx : x = (l : Int)) (hl : l ≤ cap) :
    (Instr.slice t (.slice (some ⟨g, 0, none⟩) n cap) none (some (.int .i64 x)) none).run P w = .ok (.slice (some ⟨g, 0, none⟩) l cap) w := by
  subst hx
  have hb := fun code => run_sliceBound (P := P) (w := w) .i64 (l : Int) cap code (by omega) (by omega)
  have hz := size_run w e i hi
  simp only [Instr.slice, Instr.sliceBounds, run_underlying ht, Sem.run_bind, Sem.run_pure, Result.andThen_ok, hb, hz, Int.toNat_natCast]
  split <;> simp [Addr.add_lit]
theorem flat_take (l : List Ent) (p : Nat) : (l.take p).flatMap enE = (l.flatMap enE).take (p * 2) := by
  induction l generalizing p with
  | nil => simp
  | cons a l ih =>
    cases p with
    | zero => simp
    | succ p =>
      rw [List.take_succ_cons, List.flatMap_cons, List.flatMap_cons, ih, show (p + 1) * 2 = (enE a).length + p * 2 by simp [enE]; omega, List.take_length_add_append]
theorem flat_drop (l : List Ent) (p : Nat) : (l.drop p).flatMap enE = (l.flatMap enE).drop (p * 2) := by
  induction l generalizing p with
  | nil => simp
  | cons a l ih =>
    cases p with
    | zero => simp
    | succ p =>
      rw [List.drop_succ_cons, List.flatMap_cons, ih, show (p + 1) * 2 = (enE a).length + p * 2 by simp [enE]; omega, List.drop_length_add_append]
theorem enC_erase (c : List Ent) (p : Nat) : enC (c.reverse.eraseIdx p).reverse = (enC c).take (p * 2) ++ (enC c).drop ((p + 1) * 2) := by
  unfold enC
  rw [List.reverse_reverse, List.eraseIdx_eq_take_drop_succ, List.flatMap_append, flat_take, flat_drop]
theorem enC_one {c : List Ent} {u : Value} (h : u ∈ enC c) : u.oneCell' = true := by
  unfold enC at h
  obtain ⟨e, _, he⟩ := List.mem_flatMap.1 h
  simp only [enE, List.mem_cons, List.not_mem_nil, or_false] at he
  rcases he with rfl | rfl <;> rfl
theorem mid_take {l : List Value} {p m n : Nat} (h : p + m = n) : ((l.drop p).take m) = (l.take n).drop p := by
  rw [List.drop_take, show n - p = m by omega]
set_option maxRecDepth 100000 in
set_option maxHeartbeats 1000000 in
theorem without_any (w : World) (g cap p : Nat) (c : List Ent) (hC : Chn w (.slice (some ⟨g, 0, none⟩) c.length cap) c) (hp : p < c.length) :
    Calls Try.prog 76 #[.slice (some ⟨g, 0, none⟩) c.length cap, .int .i64 p] w fun e w' => e = .returned (.slice (some ⟨g, 0, none⟩) (c.length - 1) cap) ∧ Chn w' (.slice (some ⟨g, 0, none⟩) (c.length - 1) cap) (c.reverse.eraseIdx p).reverse ∧ Only g w w' := by
  obtain ⟨i0, hi0, hz0, hz1, hz2⟩ := info_parts info_ent
  obtain ⟨cur, hcur, hcc, hcm, hsz, htk⟩ : ∃ cur, w.heap[g]? = some (.cells cur 91 (0, 0)) ∧ c.length ≤ cap ∧ cap ≤ maxLen ∧ cur.size = cap * 2 ∧ cur.toList.take (c.length * 2) = enC c := by
    rcases hC.2 with ⟨h', _⟩ | ⟨g', cap', cur, h', _, hh, q1, q2, q3, q4⟩
    · cases h'
    · cases h'
      exact ⟨cur, hh, q1, q2, q3, q4⟩
  obtain ⟨n, hn⟩ : ∃ n, c.length = n := ⟨_, rfl⟩
  rw [hn] at hp hcc
  have HN := keep hn
  rw [hn]
  unfold maxLen at hcm
  have hw1 : IntKind.i64.wrap ((n : Int) - 1) = (n : Int) - 1 := by rw [IntKind.wrap_i64]; omega
  have hw2 : IntKind.i64.wrap ((p : Int) + 1) = (p : Int) + 1 := by rw [IntKind.wrap_i64]; omega
  have l1 : (p : Int) < (n : Int) := by omega
  have l2 : (n : Int) ≤ (cap : Int) := by omega
  have l3 : (p : Int) + 1 ≤ (n : Int) := by omega
  have u88 := Try.underlying93
  have hs1 : ∀ w, (Instr.slice 93 (.slice (some ⟨g, 0, none⟩) n cap) (some (.int .i64 (p : Int))) none none).run Try.prog w = .ok (.slice (some ⟨g, p * 2, none⟩) (n - p) (cap - p)) w := fun w => by
    rw [slice_low w _ _ u88 i0 hi0 _ n cap p _ rfl (by omega), if_neg (by omega), hz1, Addr.add_lit, Nat.zero_add]
  have hs2 : ∃ so, (so = some ⟨g, (p + 1) * 2, none⟩ ∨ n - (p + 1) = 0) ∧ ∀ w, (Instr.slice 93 (.slice (some ⟨g, 0, none⟩) n cap) (some (.int .i64 ((p : Int) + 1))) none none).run Try.prog w = .ok (.slice so (n - (p + 1)) (cap - (p + 1))) w := by
    refine ⟨_, ?_, fun w => slice_low w _ _ u88 i0 hi0 _ n cap (p + 1) _ (by omega) (by omega)⟩
    by_cases hcp : cap = p + 1
    · exact .inr (by omega)
    · rw [if_neg hcp, hz1, Addr.add_lit, Nat.zero_add]; exact .inl rfl
  obtain ⟨so, hso, hs2⟩ := hs2
  have hs3 : ∀ w, (Instr.slice 93 (.slice (some ⟨g, 0, none⟩) n cap) (some (.int .i64 ((n : Int) - 1))) none none).run Try.prog w = .ok (.slice (some ⟨g, (n - 1) * 2, none⟩) 1 (cap - (n - 1))) w := fun w => by
    rw [slice_low w _ _ u88 i0 hi0 _ n cap (n - 1) _ (by omega) (by omega), if_neg (by omega), hz1, Addr.add_lit, Nat.zero_add, show n - (n - 1) = 1 by omega]
  have hs4 : ∀ w, (Instr.slice 93 (.slice (some ⟨g, 0, none⟩) n cap) none (some (.int .i64 ((n : Int) - 1))) none).run Try.prog w = .ok (.slice (some ⟨g, 0, none⟩) (n - 1) cap) w := fun w => slice_high w _ _ u88 i0 hi0 g n cap (n - 1) _ (by omega) (by omega)
  have hon : ∀ u ∈ (cur.toList.drop ((p + 1) * 2)).take ((n - (p + 1)) * 2), u.oneCell' = true := fun u hu => by
    rw [mid_take (n := n * 2) (by omega), ← HN.out, htk] at hu
    exact enC_one (List.mem_of_mem_drop hu)
  have hcp := copy_run (P := Try.prog) w.drew 93 91 3 91 u88 i0 hi0 g (p * 2) ((p + 1) * 2) (n - p) (n - (p + 1)) (cap - p) (cap - (p + 1)) so cur hcur hso (by omega) (by rw [hz1, hsz]; omega) (by rw [hz1, hsz]; omega) (by rw [hz1]; exact hon)
  rw [hz1] at hcp
  have hsz1 : (cur.toList.take (p * 2) ++ (cur.toList.drop ((p + 1) * 2)).take ((n - (p + 1)) * 2) ++ cur.toList.drop (p * 2 + (n - (p + 1)) * 2)).length = cap * 2 := by
    rw [List.length_append, List.length_append, List.length_take, List.length_take, List.length_drop, List.length_drop, Array.length_toList, hsz]; omega
  have htk1 : (cur.toList.take (p * 2) ++ (cur.toList.drop ((p + 1) * 2)).take ((n - (p + 1)) * 2) ++ cur.toList.drop (p * 2 + (n - (p + 1)) * 2)).take ((n - 1) * 2) = enC (c.reverse.eraseIdx p).reverse := by
    rw [enC_erase, ← htk, HN.out, mid_take (n := n * 2) (by omega), List.take_take, Nat.min_eq_left (by omega), List.append_assoc, ← List.append_assoc, List.take_append_of_le_length, List.take_of_length_le]
    · rw [List.length_append, List.length_take, List.length_drop, List.length_take, Array.length_toList, hsz]; omega
    · rw [List.length_append, List.length_take, List.length_drop, List.length_take, Array.length_toList, hsz]; omega
  generalize (cur.toList.take (p * 2) ++ (cur.toList.drop ((p + 1) * 2)).take ((n - (p + 1)) * 2) ++ cur.toList.drop (p * 2 + (n - (p + 1)) * 2)) = L1 at hcp hsz1 htk1
  obtain ⟨w1, hw1'⟩ : ∃ w1, w1 = w.drew.setRow g L1.toArray := ⟨_, rfl⟩
  rw [← hw1'] at hcp
  have hg1 : w1.heap[g]? = some (.cells L1.toArray 91 (0, 0)) := by rw [hw1']; exact setRow_heap w.drew g cur _ _ _ hcur
  have ho1 : Only g w w1 := by rw [hw1']; exact ⟨⟨rfl, rfl, rfl⟩, by simp, fun k hk => setRow_other w.drew g k _ hk⟩
  obtain ⟨cur2, hcl, hs2', htk2⟩ := clear_run (P := Try.prog) w1 93 91 0 91 _ u88 Try.zeroValue91 (by simp [Value.cells, Value.oneCell']) g ((n - 1) * 2) 1 (cap - (n - 1)) L1.toArray hg1 (by simp [Value.cells, hsz1]; omega)
  have hfin : Chn (w1.setRow g cur2) (.slice (some ⟨g, 0, none⟩) (n - 1) cap) (c.reverse.eraseIdx p).reverse := by
    have hl : (c.reverse.eraseIdx p).reverse.length = n - 1 := by
      rw [List.length_reverse, List.length_eraseIdx_of_lt (by rw [List.length_reverse, HN.out]; exact hp), List.length_reverse, HN.out]
    unfold Chn
    rw [hl]
    refine ⟨by rw [enC_len, hl], .inr ⟨g, cap, cur2, rfl, Nat.zero_le _, setRow_heap w1 g _ _ _ _ hg1, by omega, by unfold maxLen; omega, by rw [hs2']; simpa using hsz1, ?_⟩⟩
    rw [htk2]
    simpa using htk1
  have ho2 : Only g w (w1.setRow g cur2) := ho1.trans ⟨⟨rfl, rfl, rfl⟩, by simp, fun k hk => setRow_other w1 g k _ hk⟩
  have HF := keep hfin
  have HO := keep ho2
  clear hC hn hcur hsz htk hon hsz1 htk1 hw1' hg1 ho1 hs2' htk2 hfin ho2 hso
  generalize w1.setRow g cur2 = w2 at *
  go_enter Try.func76, Try.ntmps76
  go_wp2_with fail
  refine wp_region_held_drew (S := fun _ => True) (by kernel_rfl) trivial (fun hHeld => ?_)
  refine wpAnyH_take (i := 0) (oi := { dst := some 9, op := _, type := _, pos := _, after := _, guard := _ }) (v := ?v72) rfl (by kernel_rfl) (by kernel_rfl) (by kernel_rfl) (fun _ _ _ h => h) (Or.inl ⟨by rfl, ?hy72⟩) (by assumption) ?rest72
  case hy72 => (intro w hSw; go_simp; try with_reducible rfl)
  try simp only [Act.put, List.setIfInBounds_toArray, List.set_cons_zero, List.set_cons_succ]
  refine wpAnyH_take (i := 1) (oi := { dst := some 10, op := _, type := _, pos := _, after := _, guard := _ }) (v := ?v73) rfl (by kernel_rfl) (by kernel_rfl) (by kernel_rfl) (fun _ _ _ h => h) (Or.inl ⟨by rfl, ?hy73⟩) (by assumption) ?rest73
  case hy73 => (intro w hSw; go_simp; try with_reducible rfl)
  try simp only [Act.put, List.setIfInBounds_toArray, List.set_cons_zero, List.set_cons_succ]
  refine wpAnyH_take (i := 2) (oi := { dst := some 11, op := _, type := _, pos := _, after := _, guard := _ }) (v := (.slice (some ⟨g, p * 2, none⟩) (n - p) (cap - p))) rfl (by kernel_rfl) (by kernel_rfl) (by kernel_rfl) (fun _ _ _ h => h) (Or.inl ⟨by rfl, ?hy74⟩) (by assumption) ?rest74
  case hy74 => (intro w hSw; first | (go_simp; done) | (go_simp; simp [*]; done) | (simp [*]; go_simp; done))
  try simp only [Act.put, List.setIfInBounds_toArray, List.set_cons_zero, List.set_cons_succ]
  refine wpAnyH_take (i := 3) (oi := { dst := some 12, op := _, type := _, pos := _, after := _, guard := _ }) (v := ?v75) rfl (by kernel_rfl) (by kernel_rfl) (by kernel_rfl) (fun _ _ _ h => h) (Or.inl ⟨by rfl, ?hy75⟩) (by assumption) ?rest75
  case hy75 => (intro w hSw; go_simp; try with_reducible rfl)
  try simp only [Act.put, List.setIfInBounds_toArray, List.set_cons_zero, List.set_cons_succ]
  refine wpAnyH_take (i := 4) (oi := { dst := some 13, op := _, type := _, pos := _, after := _, guard := _ }) (v := ?v76) rfl (by kernel_rfl) (by kernel_rfl) (by kernel_rfl) (fun _ _ _ h => h) (Or.inl ⟨by rfl, ?hy76⟩) (by assumption) ?rest76
  case hy76 => (intro w hSw; go_simp; try with_reducible rfl)
  try simp only [Act.put, List.setIfInBounds_toArray, List.set_cons_zero, List.set_cons_succ]
  refine wpAnyH_take (i := 5) (oi := { dst := some 14, op := _, type := _, pos := _, after := _, guard := _ }) (v := (.int .i64 ((p : Int) + 1))) rfl (by kernel_rfl) (by kernel_rfl) (by kernel_rfl) (fun _ _ _ h => h) (Or.inl ⟨by rfl, ?hy77⟩) (by assumption) ?rest77
  case hy77 => (intro w hSw; first | (go_simp; done) | (go_simp; simp [*]; done) | (simp [*]; go_simp; done))
  try simp only [Act.put, List.setIfInBounds_toArray, List.set_cons_zero, List.set_cons_succ]
  refine wpAnyH_take (i := 6) (oi := { dst := some 15, op := _, type := _, pos := _, after := _, guard := _ }) (v := (.slice so (n - (p + 1)) (cap - (p + 1)))) rfl (by kernel_rfl) (by kernel_rfl) (by kernel_rfl) (fun _ _ _ h => h) (Or.inl ⟨by rfl, ?hy78⟩) (by assumption) ?rest78
  case hy78 => (intro w hSw; first | (go_simp; done) | (go_simp; simp [*]; done) | (simp [*]; go_simp; done))
  try simp only [Act.put, List.setIfInBounds_toArray, List.set_cons_zero, List.set_cons_succ]
  refine wpAnyH_ready (rs := [7]) (by kernel_rfl) (by simp) ?_
  refine AllReadyH.cons (o := { dst := some 16, op := _, type := _, pos := _, after := _, guard := _ }) rfl (fun K hK => ?_) AllReadyH.nil
  go_simp
  refine hK.out _ _ trivial (fun hHeld => ?_)
  refine wpAnyH_done (by kernel_rfl) ?_ _
  go_wp2
  go_ret
  exact ⟨rfl, HF.out, HO.out⟩
end Go.Proofs.Ytapehjlpiobeaaa
