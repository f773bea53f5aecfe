/-
  Contracts over this program: put's own walk.
-/
import Derived.Test.YtlfkdohajfkhdaaDqPut
namespace Go.Proofs.Ytlfkdohajfkhdaa
open Go.RowKit
set_option linter.unusedVariables false
theorem info_str : (Try.prog.info? 9).map (·.size) = some 1 := by kernel_rfl
set_option maxRecDepth 100000 in
set_option maxHeartbeats 4000000 in
theorem put_walk (w : World) (b c : Nat) (pv nv f l : Value) (n m k : Nat) (X : List ByteArray) (p : Nat) (s : ByteArray) (ts : List ByteArray) (hc : Cx w c pv nv n X) (hd : Ds w b f l m k) (hbc : b ≠ c) (hp : p ≤ n) (hn : n < 32) (hm : m < 1048576) (hk : k ≤ 2000000000000) (hs : s.size ≤ 1048576) (hts : ts.length = n) (ht : X.take n = ts) (n1 m1 k1 : Nat) (hn1 : n1 = n + 1) (hm1 : m1 = m + 1) (hk1 : k1 = k + (16 + s.size)) :
    Calls Try.prog 50 #[ptr b, ptr c, .int .i64 p, .string s] w fun e w' => e = .returned (.tuple #[]) ∧ ∃ w1 w2, w1 = (w.drew.setCells c (3 + (p + 1)) ((ts.drop p).map Value.string)) ∧ w2 = (((w1.setCell ⟨c, 3 + p, none⟩ (.string s)).setCell ⟨c, 2, none⟩ (.int .i64 (n1 : Nat))).setCell ⟨b, 2, none⟩ (.int .i64 (m1 : Nat))) ∧ ∃ q, w' = (w2.setCell ⟨b, 3, none⟩ (.int .i64 (k1 : Nat))).drewN q := by
  obtain ⟨c0, c1, c2, ct, cf⟩ := hc.cells
  obtain ⟨d0, d1, d2, d3, df⟩ := hd.four
  have hcp : (Builtin.copy_ #[32, 32] 3 #[.slice (some (sla c (p + 1))) (32 - (p + 1)) (32 - (p + 1)), .slice (some (sla c p)) (n - p) (32 - p)]).run Try.prog w.drew = .ok (goInt (n - p : Nat)) (w.drew.setCells c (3 + (p + 1)) ((ts.drop p).map Value.string)) := by
    by_cases h32 : p + 1 = 32
    · have e0 : n - p = 0 := by omega
      have e1 : ts.drop p = [] := List.drop_of_length_le (by omega)
      rw [e0, e1]
      exact run_copy_none (P := Try.prog) w.drew 32 32 3 9 _ _ _ _ _ _ Try.underlying32 info_str (Nat.zero_min _)
    · rw [show sla c (p + 1) = ⟨c, 3 + (p + 1), none⟩ by unfold sla; rw [if_neg h32], show sla c p = ⟨c, 3 + p, none⟩ by unfold sla; rw [if_neg (by omega)]]
      have h := run_copy_cells (P := Try.prog) w.drew 32 32 3 9 c (3 + (p + 1)) (32 - (p + 1)) (32 - (p + 1)) ⟨c, 3 + p, none⟩ (n - p) (32 - p) ((ts.drop p).map Value.string) Try.underlying32 info_str (by rw [List.length_map, List.length_drop, hts]; exact (Nat.min_eq_left (by omega)).symm) (fun j v hv => by
        have hj : j < n - p := by have := (List.getElem?_eq_some_iff.1 hv).1; rw [List.length_map, List.length_drop] at this; omega
        rw [show (⟨c, 3 + p, none⟩ : Addr).add j = ⟨c, 3 + (p + j), none⟩ by unfold Addr.add; split <;> simp_all <;> omega]
        rw [List.getElem?_map, List.getElem?_drop, ← ht, List.getElem?_take, if_pos (by omega)] at hv
        rw [List.getElem?_eq_getElem (by rw [hc.1]; omega)] at hv
        have := ct (p + j) _ (List.getElem?_eq_getElem (by rw [hc.1]; omega))
        show w.cell? _ = _
        rw [this]
        simpa using hv) (fun j hj => by
        rw [List.length_map, List.length_drop] at hj
        have := ct (p + 1 + j) _ (List.getElem?_eq_getElem (by rw [hc.1]; omega))
        rw [show 3 + (p + 1) + j = 3 + (p + 1 + j) by omega]
        show (w.cell? _).isSome = true
        rw [this]; rfl) (fun j hj => cf _) (fun v hv => by obtain ⟨x, _, rfl⟩ := List.mem_map.1 hv; rfl)
      rw [List.length_map, List.length_drop, hts] at h
      exact h
  have sA := fun w => sl_from w c (p + 1) ((p : Int) + 1) (by omega) (by omega)
  have sB := fun w => sl_part w c p n hp (by omega)
  have g1 := Cx.setTs (w := w.drew) (ts.drop p) (p + 1) (show Cx w.drew c pv nv n X from hc)
  obtain ⟨w1, hw1⟩ : ∃ x, x = (w.drew.setCells c (3 + (p + 1)) ((ts.drop p).map Value.string)) := ⟨_, rfl⟩
  rw [← hw1] at hcp g1
  have e1 : Ds w1 b f l m k := by rw [hw1]; exact (setCells_other hbc _ _ _).trans hd
  have g2 := g1.setT p s
  have g3 := g2.setN n1
  have e3 : Ds ((w1.setCell ⟨c, 3 + p, none⟩ (.string s)).setCell ⟨c, 2, none⟩ (.int .i64 (n1 : Nat))) b f l m k := (e1.other hbc).other hbc
  obtain ⟨t1, f1⟩ := g1.cells.2.2.2
  have n2 := g2.cells.2.2.1
  have f2 := g2.cells.2.2.2.2
  have m3 := e3.four.2.2.1
  have f3 := e3.four.2.2.2.2
  have e4 := e3.set2 m1
  have k4 := e4.four.2.2.2.1
  have f4 := e4.four.2.2.2.2
  obtain ⟨x1, hx1⟩ : ∃ x, w1.cell? ⟨c, 3 + p, none⟩ = some x := ⟨_, t1 p _ (List.getElem?_eq_getElem (by rw [g1.1]; omega))⟩
  have MC := keep fun w => costof_any w s (by unfold maxLen; omega)
  have fz0 : w1.frozen? ⟨c, 3 + p, none⟩ = false := f1 _
  have fz1 : (w1.setCell ⟨c, 3 + p, none⟩ (.string s)).frozen? ⟨c, 2, none⟩ = false := f2 _
  have fz2 : ((w1.setCell ⟨c, 3 + p, none⟩ (.string s)).setCell ⟨c, 2, none⟩ (.int .i64 (n1 : Nat))).frozen? ⟨b, 2, none⟩ = false := f3 _
  have fz3 := f4 3
  have HW1 := keep hw1
  have p0 : (0 : Int) ≤ (p : Int) := by omega
  have p1 : (p : Int) + 1 ≤ 32 := by omega
  have p2 : (p : Int) ≤ (n : Int) := by omega
  have p3 : (n : Int) ≤ 32 := by omega
  clear hc hd c0 c1 ct cf d0 d1 d2 d3 df hw1 g1 g2 g3 e1 e3 e4 t1 f1 f2 f3 f4 hts ht
  have q1 : (n : Int) + 1 = (n1 : Int) := by omega
  have q2 : (m : Int) + 1 = (m1 : Int) := by omega
  have q3 : (k : Int) + ((16 + s.size : Nat) : Int) = (k1 : Int) := by omega
  have q4 : (k1 : Int) ≤ 3000000000000 := by omega
  obtain ⟨sz, hsz⟩ : ∃ z, z = 16 + s.size := ⟨_, rfl⟩
  rw [← hsz] at q3
  simp only [← hsz] at MC
  have q5 := keep (show IntKind.i64.wrap (k1 : Int) = (k1 : Int) by rw [IntKind.wrap_i64]; omega)
  clear hn1 hm1 hk1 hsz
  generalize 32 - (p + 1) = z1 at sA hcp
  generalize 32 - p = z2 at sB hcp
  generalize n - p = z3 at sB hcp
  generalize sla c (p + 1) = a1 at sA hcp
  generalize sla c p = a2 at sB hcp
  go_enter Try.func50, Try.ntmps50
  go_wp2_with fail
  go_region
  go_wp2_with fail
  obtain ⟨w2, hw2⟩ : ∃ w2, w2 = (((w1.setCell ⟨c, 3 + p, none⟩ (.string s)).setCell ⟨c, 2, none⟩ (.int .i64 (n1 : Nat))).setCell ⟨b, 2, none⟩ (.int .i64 (m1 : Nat))) := ⟨_, rfl⟩
  rw [← hw2] at k4 fz3
  rw [← hw2]
  have HW2 := keep hw2
  clear hw2
  clear hcp c2 n2 m3 hx1 fz0 fz1 fz2
  go_region_with (first | (go_at_call 61; refine (MC.out _).mono ?_; rintro _ _ ⟨rfl, rfl⟩))
  all_goals
    go_wp2
    go_end0
    exact ⟨rfl, w1, w2, HW1.out, HW2.out, ⟨1, by first | rfl | (rw [q5.out]; rfl)⟩⟩
theorem nd_mem {A B : List Chk} {b c : Nat} {ts : List ByteArray} (h : (b :: (A ++ (c, ts) :: B).map (·.1)).Nodup) : b ≠ c ∧ (∀ x ∈ A, x.1 ≠ c) ∧ (∀ x ∈ B, x.1 ≠ c) ∧ (∀ x ∈ A, x.1 ≠ b) ∧ (∀ x ∈ B, x.1 ≠ b) := by
  rw [List.nodup_cons, List.map_append, List.map_cons] at h
  obtain ⟨h1, h2⟩ := h
  obtain ⟨h3, h4, h5⟩ := List.nodup_append.1 h2
  rw [List.nodup_cons] at h4
  refine ⟨fun e => h1 (by simp [e]), fun x hx e => h5 _ (List.mem_map_of_mem hx) c (by simp) e, fun x hx e => h4.1 (List.mem_map.2 ⟨x, hx, e⟩), fun x hx e => h1 (List.mem_append_left _ (List.mem_map.2 ⟨x, hx, e⟩)), fun x hx e => h1 (List.mem_append_right _ (List.mem_cons_of_mem _ (List.mem_map.2 ⟨x, hx, e⟩)))⟩
/-- a deque one of whose chunks has other texts now -/
theorem dq_change {w w' : World} {b c : Nat} {A B : List Chk} {ts us : List ByteArray} (hd : Dq0 w b (A ++ (c, ts) :: B)) (hc : ∀ pv nv, Ck w c pv nv ts → Ck w' c pv nv us) (hds : ∀ f l, Ds w b f l (row (A ++ (c, ts) :: B)).length (costL (row (A ++ (c, ts) :: B))) → Ds w' b f l (row (A ++ (c, us) :: B)).length (costL (row (A ++ (c, us) :: B))))
    (hz : ∀ t ∈ us, t.size ≤ 1048576) (hl : (row (A ++ (c, us) :: B)).length ≤ 1048576) (hw : (w'.os = w.os ∧ w'.tape = w.tape ∧ w'.output = w.output) ∧ w'.heap.size = w.heap.size) (hk : ∀ k, k ≠ b → k ≠ c → w'.heap[k]? = w.heap[k]?) :
    Dq0 w' b (A ++ (c, us) :: B) ∧ Fd b (A ++ (c, ts) :: B) w w' (A ++ (c, us) :: B) := by
  obtain ⟨d1, d2, d3, d4, d5⟩ := hd
  obtain ⟨n1, n2, n3, n4, n5⟩ := nd_mem d3
  obtain ⟨cA, cC⟩ := ch_app.1 d2
  have e1 : hdv (A ++ (c, us) :: B) nul = hdv (A ++ (c, ts) :: B) nul := by cases A <;> rfl
  have e2 : ltv (A ++ (c, us) :: B) nul = ltv (A ++ (c, ts) :: B) nul := by rw [ltv_app, ltv_app]; rfl
  have em : (A ++ (c, us) :: B).map (·.1) = (A ++ (c, ts) :: B).map (·.1) := by simp
  refine ⟨⟨?_, ch_app.2 ⟨?_, hc _ _ cC.1, ?_⟩, by rw [em]; exact d3, fun t ht => ?_, hl⟩, ⟨⟨hw.1, Nat.le_of_eq hw.2.symm, fun k hk' hn => hk k (fun e => hn (.inl e)) (fun e => hn (.inr ⟨(c, ts), by simp, e.symm⟩))⟩, fun k hk' => ?_⟩⟩
  · rw [e1, e2]; exact hds _ _ d1
  · exact cA.kept (fun x hx => hk _ (n4 x hx) (n2 x hx))
  · exact cC.2.kept (fun x hx => hk _ (n5 x hx) (n3 x hx))
  · rw [row_app, row_cons] at ht
    rw [row_app, row_cons] at d4
    rcases List.mem_append.1 ht with h | h
    · exact d4 t (List.mem_append_left _ h)
    · rcases List.mem_append.1 h with h | h
      · exact hz t h
      · exact d4 t (List.mem_append_right _ (List.mem_append_right _ h))
  · left
    rcases hk' with e | ⟨q, hq, e⟩
    · exact .inl e
    · rcases List.mem_append.1 hq with hq | hq
      · exact .inr ⟨q, by simp [hq], e⟩
      · rcases List.mem_cons.1 hq with rfl | hq
        · exact .inr ⟨(c, ts), by simp, e⟩
        · exact .inr ⟨q, by simp [hq], e⟩
/-- put -/
theorem put_any (w : World) (b c : Nat) (A B : List Chk) (ts : List ByteArray) (p : Nat) (s : ByteArray) (hd : Dq0 w b (A ++ (c, ts) :: B)) (hp : p ≤ ts.length) (hn : ts.length < 32) (hm : (row (A ++ (c, ts) :: B)).length < 1048576) (hs : s.size ≤ 1048576) :
    Calls Try.prog 50 #[ptr b, ptr c, .int .i64 p, .string s] w fun e w' => e = .returned (.tuple #[]) ∧ Dq0 w' b (A ++ (c, ts.take p ++ s :: ts.drop p) :: B) ∧ Fd b (A ++ (c, ts) :: B) w w' (A ++ (c, ts.take p ++ s :: ts.drop p) :: B) := by
  obtain ⟨d1, d2, d3, d4, d5⟩ := id hd
  obtain ⟨n1, n2, n3, n4, n5⟩ := nd_mem d3
  obtain ⟨cA, cC⟩ := ch_app.1 d2
  obtain ⟨X, hX, ht⟩ := cC.1.cx
  have hcl := costL_le d4
  have hrl : (row (A ++ (c, ts.take p ++ s :: ts.drop p) :: B)).length = (row (A ++ (c, ts) :: B)).length + 1 := by
    simp only [row_app, row_cons, List.length_append, List.length_cons, List.length_take, List.length_drop]; omega
  have hrc : costL (row (A ++ (c, ts.take p ++ s :: ts.drop p) :: B)) = costL (row (A ++ (c, ts) :: B)) + (16 + s.size) := by
    have : costL ts = costL (ts.take p) + costL (ts.drop p) := by rw [← costL_app, List.take_append_drop]
    simp only [row_app, row_cons, costL_app, costL_cons]; omega
  obtain ⟨m, hmm⟩ : ∃ m, m = (row (A ++ (c, ts) :: B)).length := ⟨_, rfl⟩
  obtain ⟨k, hkk⟩ : ∃ k, k = costL (row (A ++ (c, ts) :: B)) := ⟨_, rfl⟩
  rw [← hmm] at d1 hm hrl hcl d5
  rw [← hkk] at d1 hrc hcl
  obtain ⟨m1, hm1⟩ : ∃ x, x = m + 1 := ⟨_, rfl⟩
  obtain ⟨k1, hk1⟩ : ∃ x, x = k + (16 + s.size) := ⟨_, rfl⟩
  obtain ⟨n1', hn1'⟩ : ∃ x, x = ts.length + 1 := ⟨_, rfl⟩
  rw [← hm1] at hrl
  rw [← hk1] at hrc
  refine (put_walk w b c _ _ _ _ ts.length m k X p s ts hX d1 n1 hp hn hm (by omega) hs rfl ht n1' m1 k1 hn1' hm1 hk1).mono ?_
  rintro _ w' ⟨rfl, w1, w2, hw1, hw2, q, rfl⟩
  refine ⟨rfl, dq_change hd (fun pv nv hck => ?_) (fun f l hds => ?_) (fun t h => ?_) (by omega) ?_ (fun k hkb hkc => ?_)⟩
  · obtain ⟨X', hx', ht'⟩ := hck.cx
    have g3 := ((Cx.setTs (w := w.drew) (ts.drop p) (p + 1) hx').setT p s).setN n1'
    rw [← hw1] at g3
    refine Cx.ck (n := n1') (X := (layS X' (p + 1) (ts.drop p)).set p s) ⟨g3.1, ?_⟩ (by omega) (by rw [hn1']; exact put_list hx'.1 ht' hp hn)
    show (w2.setCell ⟨b, 3, none⟩ _).heap[c]? = _
    rw [hw2, Below.heap_setCell _ _ _ _ n1.symm, Below.heap_setCell _ _ _ _ n1.symm]
    exact g3.2
  · rw [hrl, hrc]
    rw [← hmm, ← hkk] at hds
    have h1 : Ds w1 b f l m k := by rw [hw1]; exact (setCells_other n1 _ _ _).trans hds
    have h2 : Ds w2 b f l m1 k := by rw [hw2]; exact ((h1.other n1).other n1).set2 m1
    exact h2.set3 k1
  · have h4 : ∀ t ∈ ts, t.size ≤ 1048576 := fun t ht => d4 t (by rw [row_app, row_cons]; simp [ht])
    rcases List.mem_append.1 h with h | h
    · exact h4 t (List.mem_of_mem_take h)
    · rcases List.mem_cons.1 h with rfl | h
      · exact hs
      · exact h4 t (List.mem_of_mem_drop h)
  · obtain ⟨a1, a2, a3, a4⟩ := setCells_same ((ts.drop p).map Value.string) (3 + (p + 1)) w.drew c
    rw [← hw1] at a1 a2 a3 a4
    refine ⟨⟨?_, ?_, ?_⟩, ?_⟩
    · show w2.os = _; rw [hw2]; exact a2
    · show w2.tape = _; rw [hw2]; exact a3
    · show w2.output = _; rw [hw2]; exact a4
    · show (w2.setCell _ _).heap.size = _
      rw [set_size, hw2, set_size, set_size, set_size]
      exact a1
  · show (w2.setCell _ _).heap[k]? = _
    rw [Below.heap_setCell _ _ _ _ hkb, hw2, Below.heap_setCell _ _ _ _ hkb, Below.heap_setCell _ _ _ _ hkc, Below.heap_setCell _ _ _ _ hkc, hw1]
    exact setCells_other hkc _ _ _
end Go.Proofs.Ytlfkdohajfkhdaa
