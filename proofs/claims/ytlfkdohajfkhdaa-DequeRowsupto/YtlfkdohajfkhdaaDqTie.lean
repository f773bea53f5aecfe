/-
  Contracts over this program: two rows of chunks are tied; a new chunk stands between them.
-/
import Derived.Test.YtlfkdohajfkhdaaDqOps
namespace Go.Proofs.Ytlfkdohajfkhdaa
open Go.RowKit
theorem ch_last {w : World} {p x u : Value} {A : List Chk} {a : Nat} {ts : List ByteArray} (h : Ch w p (A ++ [(a, ts)]) x) (hn : a ∉ A.map (·.1)) : Ch (w.setCell ⟨a, 1, none⟩ u) p (A ++ [(a, ts)]) u := by
  rw [ch_app] at h ⊢
  refine ⟨h.1.kept (fun y hy => Below.heap_setCell _ _ _ _ (fun e => hn (List.mem_map.2 ⟨y, hy, e⟩))), ?_, trivial⟩
  exact h.2.1.set1 u
theorem ch_first {w : World} {y n u : Value} {B : List Chk} {c : Nat} {ts : List ByteArray} (h : Ch w y ((c, ts) :: B) n) (hn : c ∉ B.map (·.1)) : Ch (w.setCell ⟨c, 0, none⟩ u) u ((c, ts) :: B) n :=
  ⟨h.1.set0 u, h.2.kept (fun y hy => Below.heap_setCell _ _ _ _ (fun e => hn (List.mem_map.2 ⟨y, hy, e⟩)))⟩
theorem ch_set {w : World} {p n u : Value} {cs : List Chk} {k i : Nat} (h : Ch w p cs n) (hk : ∀ x ∈ cs, x.1 ≠ k) : Ch (w.setCell ⟨k, i, none⟩ u) p cs n := h.kept (fun x hx => Below.heap_setCell _ _ _ _ (hk x hx))
theorem Ds.set0 {w : World} {b : Nat} {f l : Value} {n c : Nat} (h : Ds w b f l n c) (u : Value) : Ds (w.setCell ⟨b, 0, none⟩ u) b u l n c := cells_setCell h
theorem Ds.set1 {w : World} {b : Nat} {f l : Value} {n c : Nat} (h : Ds w b f l n c) (u : Value) : Ds (w.setCell ⟨b, 1, none⟩ u) b f u n c := cells_setCell h
theorem Ds.other {w : World} {b k i : Nat} {f l u : Value} {n c : Nat} (h : Ds w b f l n c) (hk : b ≠ k) : Ds (w.setCell ⟨k, i, none⟩ u) b f l n c := (Below.heap_setCell _ _ _ _ hk).trans h
theorem snoc_or {A : List Chk} : A = [] ∨ ∃ A' a ts, A = A' ++ [(a, ts)] := by
  rcases List.eq_nil_or_concat A with h | ⟨A', x, h⟩
  · exact .inl h
  · exact .inr ⟨A', x.1, x.2, by rw [h, List.concat_eq_append]⟩
theorem ltv_snoc (A : List Chk) (a : Nat) (ts : List ByteArray) (p : Value) : ltv (A ++ [(a, ts)]) p = ptr a := by rw [ltv_app]; rfl
/-- what tying leaves -/
def Tied (w : World) (b : Nat) (A B : List Chk) (f l : Value) (n c : Nat) (p0 z : Value) (w' : World) : Prop :=
  Ds w' b (if A.isEmpty then hdv B nul else f) (if B.isEmpty then ltv A nul else l) n c ∧ Ch w' p0 A (hdv B nul) ∧ Ch w' (ltv A nul) B z ∧ (w'.os = w.os ∧ w'.tape = w.tape ∧ w'.output = w.output) ∧ w'.heap.size = w.heap.size ∧ ∀ k, ¬ OwD b (A ++ B) k → w'.heap[k]? = w.heap[k]?
theorem set_size (w : World) (a : Addr) (u : Value) : (w.setCell a u).heap.size = w.heap.size := by simp [World.setCell]
theorem tie_ch (w : World) (b : Nat) (A B : List Chk) (f l : Value) (n c : Nat) (p0 x y z : Value) (hd : Ds w b f l n c) (hA : Ch w p0 A x) (hB : Ch w y B z) (hnd : (b :: (A ++ B).map (·.1)).Nodup) :
    Calls Try.prog 57 #[ptr b, ltv A nul, hdv B nul] w fun e w' => e = .returned (.tuple #[]) ∧ Tied w b A B f l n c p0 z w' := by
  rw [List.nodup_cons, List.map_append] at hnd
  obtain ⟨hbn, hnd⟩ := hnd
  obtain ⟨ndA, ndB, ndAB⟩ := List.nodup_append.1 hnd
  have hbA : ∀ x ∈ A, x.1 ≠ b := fun x hx e => hbn (List.mem_append_left _ (List.mem_map.2 ⟨x, hx, e⟩))
  have hbB : ∀ x ∈ B, x.1 ≠ b := fun x hx e => hbn (List.mem_append_right _ (List.mem_map.2 ⟨x, hx, e⟩))
  have hAB : ∀ x ∈ A, ∀ y ∈ B, x.1 ≠ y.1 := fun x hx y hy => ndAB _ (List.mem_map_of_mem hx) _ (List.mem_map_of_mem hy)
  obtain ⟨c0, c1, c2, c3, cf⟩ := hd.four
  rcases snoc_or (A := A) with rfl | ⟨A', a, ts, rfl⟩
  · cases B with
    | nil =>
      have h1 := hd.set0 nul
      obtain ⟨d0, d1, _, _, df⟩ := h1.four
      refine (tie_any w b none none f l nul nul (fun _ h => by cases h) (fun _ h => by cases h) (fun _ => ⟨c0, cf 0⟩) (fun _ => ⟨d1, df 1⟩)).mono ?_
      rintro _ w' ⟨rfl, rfl⟩
      refine ⟨rfl, h1.set1 nul, trivial, trivial, ⟨rfl, rfl, rfl⟩, by simp [tieW, tie1], fun k hk => ?_⟩
      have hkb : k ≠ b := fun e => hk (.inl e)
      show ((w.setCell _ _).setCell _ _).heap[k]? = _
      rw [Below.heap_setCell _ _ _ _ hkb, Below.heap_setCell _ _ _ _ hkb]
    | cons q B =>
      obtain ⟨m, us⟩ := q
      have h1 := hd.set0 (ptr m)
      have hB1 := ch_set (i := 0) (u := ptr m) hB hbB
      obtain ⟨e0, _, _, _, ef⟩ := hB1.1.cells
      refine (tie_any w b none (some m) f l nul y (fun _ h => by cases h) (fun n' h => by cases h; exact ⟨e0, ef 0⟩) (fun _ => ⟨c0, cf 0⟩) (fun h => by cases h)).mono ?_
      rintro _ w' ⟨rfl, rfl⟩
      have hbm : b ≠ m := fun e => hbB (m, us) (by simp) e.symm
      rw [List.map_cons, List.nodup_cons] at ndB
      refine ⟨rfl, h1.other hbm, trivial, ch_first hB1 ndB.1, ⟨rfl, rfl, rfl⟩, by simp [tieW, tie1], fun k hk => ?_⟩
      have hkb : k ≠ b := fun e => hk (.inl e)
      have hkm : k ≠ m := fun e => hk (.inr ⟨(m, us), by simp, e.symm⟩)
      show ((w.setCell _ _).setCell _ _).heap[k]? = _
      rw [Below.heap_setCell _ _ _ _ hkm, Below.heap_setCell _ _ _ _ hkb]
  · have haA : a ∉ A'.map (·.1) := by
      rw [List.map_append, List.nodup_append] at ndA
      intro h
      exact ndA.2.2 a h a (by simp) rfl
    have hba : b ≠ a := fun e => hbA (a, ts) (by simp) e.symm
    obtain ⟨_, e1, _, _, ef⟩ := (ch_app.1 hA).2.1.cells
    cases B with
    | nil =>
      have h1 := hd.other (i := 1) (u := nul) hba
      obtain ⟨d0, d1, _, _, df⟩ := h1.four
      rw [ltv_snoc]
      refine (tie_any w b (some a) none f l _ nul (fun p h => by cases h; exact ⟨e1, ef 1⟩) (fun _ h => by cases h) (fun h => by cases h) (fun _ => ⟨d1, df 1⟩)).mono ?_
      rintro _ w' ⟨rfl, rfl⟩
      refine ⟨rfl, ?_, ch_set (ch_last hA haA) hbA, trivial, ⟨rfl, rfl, rfl⟩, by simp [tieW, tie1], fun k hk => ?_⟩
      · have this : Ds (tieW w b (some a) none) b f (ptr a) n c := h1.set1 (ptr a)
        simpa [ltv_snoc] using this
      · have hkb : k ≠ b := fun e => hk (.inl e)
        have hka : k ≠ a := fun e => hk (.inr ⟨(a, ts), by simp, e.symm⟩)
        show ((w.setCell _ _).setCell _ _).heap[k]? = _
        rw [Below.heap_setCell _ _ _ _ hkb, Below.heap_setCell _ _ _ _ hka]
    | cons q B =>
      obtain ⟨m, us⟩ := q
      have ham : a ≠ m := hAB (a, ts) (by simp) (m, us) (by simp)
      have hB1 : Ch (w.setCell ⟨a, 1, none⟩ (ptr m)) y ((m, us) :: B) z := ch_set hB (fun q hq e => hAB (a, ts) (by simp) q hq e.symm)
      obtain ⟨g0, _, _, _, gf⟩ := hB1.1.cells
      rw [ltv_snoc]
      refine (tie_any w b (some a) (some m) f l _ y (fun p h => by cases h; exact ⟨e1, ef 1⟩) (fun n' h => by cases h; exact ⟨g0, gf 0⟩) (fun h => by cases h) (fun h => by cases h)).mono ?_
      rintro _ w' ⟨rfl, rfl⟩
      have hbm : b ≠ m := fun e => hbB (m, us) (by simp) e.symm
      rw [List.map_cons, List.nodup_cons] at ndB
      refine ⟨rfl, ?_, ch_set (ch_last hA haA) (fun q hq => hAB q hq (m, us) (by simp)), ?_, ⟨rfl, rfl, rfl⟩, by simp [tieW, tie1], fun k hk => ?_⟩
      · have this : Ds (tieW w b (some a) (some m)) b f l n c := (hd.other (i := 1) (u := ptr m) hba).other (i := 0) (u := ptr a) hbm
        simpa using this
      · rw [ltv_snoc]
        exact ch_first hB1 ndB.1
      · have hka : k ≠ a := fun e => hk (.inr ⟨(a, ts), by simp, e.symm⟩)
        have hkm : k ≠ m := fun e => hk (.inr ⟨(m, us), by simp, e.symm⟩)
        show ((w.setCell _ _).setCell _ _).heap[k]? = _
        rw [Below.heap_setCell _ _ _ _ hkm, Below.heap_setCell _ _ _ _ hka]
theorem zero_chunk : ckC nul nul [] (List.replicate 32 { data := #[] }) = [.pointer none, .pointer none, .int .i64 0, .string { data := #[] }, .string { data := #[] }, .string { data := #[] }, .string { data := #[] }, .string { data := #[] }, .string { data := #[] }, .string { data := #[] }, .string { data := #[] }, .string { data := #[] }, .string { data := #[] }, .string { data := #[] }, .string { data := #[] }, .string { data := #[] }, .string { data := #[] }, .string { data := #[] }, .string { data := #[] }, .string { data := #[] }, .string { data := #[] }, .string { data := #[] }, .string { data := #[] }, .string { data := #[] }, .string { data := #[] }, .string { data := #[] }, .string { data := #[] }, .string { data := #[] }, .string { data := #[] }, .string { data := #[] }, .string { data := #[] }, .string { data := #[] }, .string { data := #[] }, .string { data := #[] }, .string { data := #[] }] := rfl
def zck : Obj := .cells (ckC nul nul [] (List.replicate 32 { data := #[] })).toArray 72
theorem open_tail (w : World) (b : Nat) (A B : List Chk) (hd : Dq0 w b (A ++ B)) :
    Calls Try.prog 57 #[ptr b, ltv A nul, ptr w.heap.size] (w.alloc zck) fun e w2 => e = .returned (.tuple #[]) ∧ Calls Try.prog 57 #[ptr b, ptr w.heap.size, hdv B nul] w2 fun e w3 => e = .returned (.tuple #[]) ∧ Dq0 w3 b (A ++ (w.heap.size, []) :: B) ∧ Fd b (A ++ B) w w3 (A ++ (w.heap.size, []) :: B) := by
  have hlt := fun k hk => hd.lt (k := k) hk
  obtain ⟨hds, hch, hnd, hsz, hln⟩ := id hd
  obtain ⟨hA, hB⟩ := ch_app.1 hch
  have hb1 : Below w.heap.size w (w.alloc zck) := (Below.refl _ w).alloc (Nat.le_refl _) _
  have hbl : b < w.heap.size := hlt b (.inl rfl)
  have hcl : ∀ x ∈ A ++ B, x.1 < w.heap.size := fun x hx => hlt x.1 (.inr ⟨x, hx, rfl⟩)
  have hnew : Ch (w.alloc zck) nul [(w.heap.size, [])] nul := ⟨⟨List.replicate 32 { data := #[] }, rfl, heap_alloc_new w zck⟩, trivial⟩
  have hA1 : Ch (w.alloc zck) nul A (hdv B nul) := hA.kept (fun x hx => hb1.block _ (hcl x (by simp [hx])))
  have hB1 : Ch (w.alloc zck) (ltv A nul) B nul := hB.kept (fun x hx => hb1.block _ (hcl x (by simp [hx])))
  rw [List.nodup_cons, List.map_append] at hnd
  obtain ⟨hbn, hndl⟩ := hnd
  obtain ⟨ndA, ndB, ndAB⟩ := List.nodup_append.1 hndl
  have hcA : ∀ x ∈ A, x.1 ≠ w.heap.size := fun x hx e => by have := hcl x (by simp [hx]); omega
  have hcB : ∀ x ∈ B, x.1 ≠ w.heap.size := fun x hx e => by have := hcl x (by simp [hx]); omega
  have hbA : ∀ x ∈ A, x.1 ≠ b := fun x hx e => hbn (List.mem_append_left _ (List.mem_map.2 ⟨x, hx, e⟩))
  have hbB : ∀ x ∈ B, x.1 ≠ b := fun x hx e => hbn (List.mem_append_right _ (List.mem_map.2 ⟨x, hx, e⟩))
  have hAB : ∀ x ∈ A, ∀ y ∈ B, x.1 ≠ y.1 := fun x hx y hy => ndAB _ (List.mem_map_of_mem hx) _ (List.mem_map_of_mem hy)
  have hnd1 : (b :: (A ++ [(w.heap.size, ([] : List ByteArray))]).map (·.1)).Nodup := by
    rw [List.nodup_cons, List.map_append, List.nodup_append]
    refine ⟨fun h => ?_, ndA, by simp, fun x hx y hy e => ?_⟩
    · rcases List.mem_append.1 h with h | h
      · exact hbn (List.mem_append_left _ h)
      · simp at h; omega
    · obtain ⟨q, hq, rfl⟩ := List.mem_map.1 hx
      simp at hy
      exact hcA q hq (e.trans hy)
  have hnd2 : (b :: ([(w.heap.size, ([] : List ByteArray))] ++ B).map (·.1)).Nodup := by
    rw [List.nodup_cons, List.map_append, List.nodup_append]
    refine ⟨fun h => ?_, by simp, ndB, fun x hx y hy e => ?_⟩
    · rcases List.mem_append.1 h with h | h
      · simp at h; omega
      · exact hbn (List.mem_append_right _ h)
    · obtain ⟨q, hq, rfl⟩ := List.mem_map.1 hy
      simp at hx
      exact hcB q hq (e.symm.trans hx)
  refine (tie_ch (w.alloc zck) b A [(w.heap.size, [])] _ _ _ _ nul _ nul nul ((hb1.block b hbl).trans hds) hA1 hnew hnd1).mono ?_
  rintro _ w2 ⟨rfl, t1, t2, t3, t4, t5, t6⟩
  have hB2 : Ch w2 (ltv A nul) B nul := hB1.kept (fun x hx => t6 _ (fun e => by
    rcases e with e | ⟨q, hq, e⟩
    · exact hbB x hx e
    · rcases List.mem_append.1 hq with hq | hq
      · exact hAB q hq x hx e
      · simp at hq; subst hq; exact hcB x hx e.symm))
  refine ⟨rfl, (tie_ch w2 b [(w.heap.size, [])] B _ _ _ _ (ltv A nul) _ (ltv A nul) nul t1 t3 hB2 hnd2).mono ?_⟩
  rintro _ w3 ⟨rfl, s1, s2, s3, s4, s5, s6⟩
  have hA3 : Ch w3 nul A (ptr w.heap.size) := t2.kept (fun x hx => s6 _ (fun e => by
    rcases e with e | ⟨q, hq, e⟩
    · exact hbA x hx e
    · rcases List.mem_append.1 hq with hq | hq
      · simp at hq; subst hq; exact hcA x hx e.symm
      · exact hAB x hx q hq e.symm))
  have hrow : row (A ++ (w.heap.size, []) :: B) = row (A ++ B) := by rw [row_app, row_cons, row_app]; rfl
  refine ⟨rfl, ⟨?_, ch_app.2 ⟨hA3, s2.1, s3⟩, ?_, by rw [hrow]; exact hsz, by rw [hrow]; exact hln⟩, ⟨⟨?_, by rw [s5, t5]; exact hb1.size, fun k hk hn => ?_⟩, fun k hk => ?_⟩⟩
  · rw [hrow]
    have e1 : hdv (A ++ (w.heap.size, []) :: B) nul = (if [(w.heap.size, ([] : List ByteArray))].isEmpty then hdv B nul else if A.isEmpty then hdv [(w.heap.size, [])] nul else hdv (A ++ B) nul) := by cases A <;> rfl
    have e2 : ltv (A ++ (w.heap.size, []) :: B) nul = (if B.isEmpty then ltv [(w.heap.size, [])] nul else if [(w.heap.size, ([] : List ByteArray))].isEmpty then ltv A nul else ltv (A ++ B) nul) := by
      rw [ltv_app, ltv_app]
      cases B <;> rfl
    rw [e1, e2]
    exact s1
  · rw [List.nodup_cons, List.map_append, List.map_cons, List.nodup_append]
    rw [List.nodup_cons] at hnd2
    refine ⟨fun h => ?_, ndA, ?_, fun x hx y hy e => ?_⟩
    · rcases List.mem_append.1 h with h | h
      · exact hbn (List.mem_append_left _ h)
      · exact hnd2.1 (by simpa using h)
    · simpa using hnd2.2
    · obtain ⟨q, hq, rfl⟩ := List.mem_map.1 hx
      rcases List.mem_cons.1 hy with rfl | hy
      · exact hcA q hq e
      · obtain ⟨q2, hq2, rfl⟩ := List.mem_map.1 hy
        exact hAB q hq q2 hq2 e
  · exact ⟨s4.1.trans (t4.1.trans hb1.os), s4.2.1.trans (t4.2.1.trans hb1.tape), s4.2.2.trans (t4.2.2.trans hb1.output)⟩
  · rw [s6 k, t6 k]
    · exact hb1.block k hk
    · rintro (e | ⟨q, hq, e⟩)
      · exact hn (.inl e)
      · rcases List.mem_append.1 hq with hq | hq
        · exact hn (.inr ⟨q, by simp [hq], e⟩)
        · simp at hq; subst hq; simp at e; omega
    · rintro (e | ⟨q, hq, e⟩)
      · exact hn (.inl e)
      · rcases List.mem_append.1 hq with hq | hq
        · simp at hq; subst hq; simp at e; omega
        · exact hn (.inr ⟨q, by simp [hq], e⟩)
  · rcases hk with e | ⟨q, hq, e⟩
    · exact .inl (.inl e)
    · rcases List.mem_append.1 hq with hq | hq
      · exact .inl (.inr ⟨q, by simp [hq], e⟩)
      · rcases List.mem_cons.1 hq with rfl | hq
        · right; simp at e; omega
        · exact .inl (.inr ⟨q, by simp [hq], e⟩)
set_option maxRecDepth 100000 in
set_option maxHeartbeats 1000000 in
theorem open_any (w : World) (b : Nat) (A B : List Chk) (hd : Dq0 w b (A ++ B)) :
    Calls Try.prog 34 #[ptr b, ltv A nul] w fun e w' => e = .returned (ptr w.heap.size) ∧ Dq0 w' b (A ++ (w.heap.size, []) :: B) ∧ Fd b (A ++ B) w w' (A ++ (w.heap.size, []) :: B) := by
  have mT := open_tail w b A B hd
  obtain ⟨hds, hch, _⟩ := hd
  obtain ⟨c0, _⟩ := hds.four
  obtain ⟨hA, _⟩ := ch_app.1 hch
  have hz : (Obj.cells #[.pointer none, .pointer none, .int .i64 0, .string { data := #[] }, .string { data := #[] }, .string { data := #[] }, .string { data := #[] }, .string { data := #[] }, .string { data := #[] }, .string { data := #[] }, .string { data := #[] }, .string { data := #[] }, .string { data := #[] }, .string { data := #[] }, .string { data := #[] }, .string { data := #[] }, .string { data := #[] }, .string { data := #[] }, .string { data := #[] }, .string { data := #[] }, .string { data := #[] }, .string { data := #[] }, .string { data := #[] }, .string { data := #[] }, .string { data := #[] }, .string { data := #[] }, .string { data := #[] }, .string { data := #[] }, .string { data := #[] }, .string { data := #[] }, .string { data := #[] }, .string { data := #[] }, .string { data := #[] }, .string { data := #[] }, .string { data := #[] }] 72) = zck := rfl
  have MT := keep mT
  clear hds hch mT
  rcases snoc_or (A := A) with rfl | ⟨A', a, ts, rfl⟩
  · have d0 : w.cell? ⟨b, 0, none⟩ = some (hdv B nul) := c0
    clear hA c0
    generalize hdv B nul = nv at d0 MT
    have MT : Kept (Calls Try.prog 57 #[ptr b, .pointer none, ptr w.heap.size] _ _) := MT
    show Calls _ _ #[ptr b, .pointer none] _ _
    go_enter Try.func34, Try.ntmps34
    go_wp2_with fail
    try rw [hz]
    have q := MT.out
    show Calls Try.prog 57 #[ptr b, .pointer none, ptr w.heap.size] (w.alloc zck) _
    refine Calls.mono q ?_
    clear q
    rintro _ w2 ⟨rfl, m2⟩
    have M2 := keep m2
    clear m2 MT
    go_wp2_with fail
    have q := M2.out
    show Calls Try.prog 57 #[ptr b, ptr w.heap.size, nv] w2 _
    refine Calls.mono q ?_
    clear q
    rintro _ w3 ⟨rfl, hq⟩
    have HQ := keep hq
    clear hq M2
    go_wp2
    go_ret
    exact ⟨rfl, HQ.out⟩
  · have c1 : w.cell? ⟨a, 1, none⟩ = some (hdv B nul) := (ch_app.1 hA).2.1.cells.2.1
    clear hA
    rw [ltv_snoc] at MT ⊢
    rw [hdv_app] at c0
    generalize hdv B nul = nv at c1 MT c0
    generalize hdv (A' ++ [(a, ts)]) nv = fv at c0
    go_enter Try.func34, Try.ntmps34
    go_wp2_with fail
    try rw [hz]
    have q := MT.out
    show Calls Try.prog 57 #[ptr b, ptr a, ptr w.heap.size] (w.alloc zck) _
    refine Calls.mono q ?_
    clear q
    rintro _ w2 ⟨rfl, m2⟩
    have M2 := keep m2
    clear m2 MT
    go_wp2_with fail
    have q := M2.out
    show Calls Try.prog 57 #[ptr b, ptr w.heap.size, nv] w2 _
    refine Calls.mono q ?_
    clear q
    rintro _ w3 ⟨rfl, hq⟩
    have HQ := keep hq
    clear hq M2
    go_wp2
    go_ret
    exact ⟨rfl, HQ.out⟩
end Go.Proofs.Ytlfkdohajfkhdaa
