/-
  Contracts over this program: seek.
-/
import Derived.Test.YtapehjlpiobeaaaRkSeek2
namespace Go.Proofs.Ytapehjlpiobeaaa
open Go.RowKit Go.Shelf
set_option linter.unusedVariables false
set_option linter.unusedSimpArgs false
/-- all members, in order -/
def flat (T : List Rw) : List Ent := (T.map fun x => x.2.2).flatten
theorem flat_nil : flat [] = [] := rfl
theorem flat_cons (x : Rw) (T : List Rw) : flat (x :: T) = x.2.2 ++ flat T := rfl
theorem flat_app (T U : List Rw) : flat (T ++ U) = flat T ++ flat U := by unfold flat; rw [List.map_append, List.flatten_append]
theorem flat_mem {T : List Rw} {x : Rw} {e : Ent} (hx : x ∈ T) (he : e ∈ x.2.2) : e ∈ flat T := List.mem_flatten.2 ⟨x.2.2, List.mem_map.2 ⟨x, hx, rfl⟩, he⟩
theorem flat_of {T : List Rw} {e : Ent} (h : e ∈ flat T) : ∃ x ∈ T, e ∈ x.2.2 := by
  obtain ⟨l, hl, he⟩ := List.mem_flatten.1 h
  obtain ⟨x, hx, rfl⟩ := List.mem_map.1 hl
  exact ⟨x, hx, he⟩
theorem flat_at {T : List Rw} {i : Nat} {x : Rw} (h : T[i]? = some x) : flat T = flat (T.take i) ++ x.2.2 ++ flat (T.drop (i + 1)) := by
  have hl := (List.getElem?_eq_some_iff.1 h).1
  have e : T = T.take i ++ x :: T.drop (i + 1) := by
    rw [← (List.getElem?_eq_some_iff.1 h).2, ← List.drop_eq_getElem_cons hl, List.take_append_drop]
  conv => lhs; rw [e]
  rw [flat_app, flat_cons, List.append_assoc]
/-- where the first one stands who is reached -/
def Sk (T : List Rw) (q : Ent → Bool) (i p : Nat) : Prop :=
  (i = T.length ∧ p = 0 ∧ ∀ e ∈ flat T, q e = true) ∨ ∃ x, T[i]? = some x ∧ p < x.2.2.length ∧ (∀ e ∈ flat (T.take i), q e = true) ∧ (∀ e ∈ x.2.2.take p, q e = true) ∧ (∀ e ∈ x.2.2.drop p, q e = false) ∧ ∀ e ∈ flat (T.drop (i + 1)), q e = false
/-- once reached, always reached -/
def Mo (q : Ent → Bool) (l : List Ent) : Prop := l.Pairwise (fun a b => q b = true → q a = true)
def la (x : Rw) : Ent := (x.2.2[x.2.2.length - 1]?).getD (ByteArray.empty, 0)
def p1 (T : List Rw) (q : Ent → Bool) (t : Nat) : Bool := !q (la ((T[t]?).getD (0, 0, [])))
def p2 (x : Rw) (q : Ent → Bool) (t : Nat) : Bool := !q ((x.2.2[t]?).getD (ByteArray.empty, 0))
theorem la_at {x : Rw} (h : x.2.2 ≠ []) : x.2.2[x.2.2.length - 1]? = some (la x) := by
  have hl : 0 < x.2.2.length := List.length_pos_iff.2 h
  unfold la
  rw [List.getElem?_eq_getElem (by omega)]
  rfl
theorem mo_row {T : List Rw} {q : Ent → Bool} (h : Mo q (flat T)) {i : Nat} {x : Rw} (hi : T[i]? = some x) : x.2.2.Pairwise (fun a b => q b = true → q a = true) := by
  unfold Mo flat at h
  rw [List.pairwise_flatten] at h
  exact h.1 _ (List.mem_map.2 ⟨x, List.mem_of_getElem? hi, rfl⟩)
theorem mo_rows {T : List Rw} {q : Ent → Bool} (h : Mo q (flat T)) {i j : Nat} {x y : Rw} (hij : i < j) (hi : T[i]? = some x) (hj : T[j]? = some y) : ∀ a ∈ x.2.2, ∀ b ∈ y.2.2, q b = true → q a = true := by
  unfold Mo flat at h
  rw [List.pairwise_flatten] at h
  have h2 := h.2
  rw [List.pairwise_map, List.pairwise_iff_getElem] at h2
  obtain ⟨li, ei⟩ := List.getElem?_eq_some_iff.1 hi
  obtain ⟨lj, ej⟩ := List.getElem?_eq_some_iff.1 hj
  have := h2 i j li lj hij
  rw [ei, ej] at this
  exact this
theorem mo_in {l : List Ent} {q : Ent → Bool} (h : l.Pairwise (fun a b => q b = true → q a = true)) {i j : Nat} {a b : Ent} (hij : i ≤ j) (hi : l[i]? = some a) (hj : l[j]? = some b) (hb : q b = true) : q a = true := by
  rcases Nat.lt_or_eq_of_le hij with hlt | rfl
  · rw [List.pairwise_iff_getElem] at h
    obtain ⟨li, ei⟩ := List.getElem?_eq_some_iff.1 hi
    obtain ⟨lj, ej⟩ := List.getElem?_eq_some_iff.1 hj
    have := h i j li lj hlt
    rw [ei, ej] at this
    exact this hb
  · rw [hi] at hj; cases hj; exact hb
theorem la_mem {x : Rw} (h : x.2.2 ≠ []) : la x ∈ x.2.2 := List.mem_of_getElem? (la_at h)
theorem p1_at {T : List Rw} {q : Ent → Bool} {t : Nat} {x : Rw} (h : T[t]? = some x) : p1 T q t = !q (la x) := by unfold p1; rw [h]; rfl
theorem p1_mono {T : List Rw} {q : Ent → Bool} (h : Mo q (flat T)) (hn : ∀ x ∈ T, x.2.2 ≠ []) : ∀ a b, a ≤ b → b < T.length → p1 T q a = true → p1 T q b = true := by
  intro a b hab hb ha
  have xa := List.getElem?_eq_getElem (l := T) (i := a) (by omega)
  have xb := List.getElem?_eq_getElem (l := T) (i := b) hb
  rw [p1_at xa] at ha
  rw [p1_at xb]
  rcases Nat.lt_or_eq_of_le hab with hlt | rfl
  · cases hq : q (la T[b]) with
    | false => rfl
    | true =>
      have := mo_rows h hlt xa xb _ (la_mem (hn _ (List.mem_of_getElem? xa))) _ (la_mem (hn _ (List.mem_of_getElem? xb))) hq
      rw [this] at ha; cases ha
  · exact ha
theorem p2_mono {T : List Rw} {q : Ent → Bool} (h : Mo q (flat T)) {i : Nat} {x : Rw} (hi : T[i]? = some x) : ∀ a b, a ≤ b → b < x.2.2.length → p2 x q a = true → p2 x q b = true := by
  intro a b hab hb ha
  unfold p2 at *
  rw [List.getElem?_eq_getElem (l := x.2.2) (i := a) (by omega)] at ha
  rw [List.getElem?_eq_getElem (l := x.2.2) (i := b) hb]
  cases hq : q ((some x.2.2[b]).getD (ByteArray.empty, 0)) with
  | false => rfl
  | true =>
    have := mo_in (mo_row h hi) hab (List.getElem?_eq_getElem (by omega)) (List.getElem?_eq_getElem hb) hq
    have ha' : (!q x.2.2[a]) = true := ha
    rw [this] at ha'; cases ha'
theorem sk_none {T : List Rw} {q : Ent → Bool} (h : Mo q (flat T)) (hn : ∀ x ∈ T, x.2.2 ≠ []) (hk : ∀ t, t < T.length → p1 T q t = false) : Sk T q T.length 0 := by
  refine .inl ⟨rfl, rfl, fun e he => ?_⟩
  obtain ⟨x, hx, he⟩ := flat_of he
  obtain ⟨i, hi⟩ := List.getElem?_of_mem hx
  have h1 := hk i (List.getElem?_eq_some_iff.1 hi).1
  rw [p1_at hi] at h1
  obtain ⟨j, hj⟩ := List.getElem?_of_mem he
  have hjl := (List.getElem?_eq_some_iff.1 hj).1
  exact mo_in (mo_row h hi) (by omega) hj (la_at (hn x hx)) (by simpa using h1)
theorem sk_some {T : List Rw} {q : Ent → Bool} (h : Mo q (flat T)) (hn : ∀ x ∈ T, x.2.2 ≠ []) {i p : Nat} {x : Rw} (hi : T[i]? = some x) (h1 : ∀ t, t < i → p1 T q t = false) (h2 : p1 T q i = true) (hp : p ≤ x.2.2.length) (h3 : ∀ t, t < p → p2 x q t = false) (h4 : ∀ t, p ≤ t → t < x.2.2.length → p2 x q t = true) : Sk T q i p := by
  have hx := List.mem_of_getElem? hi
  have hla := la_at (hn x hx)
  have hpos : 0 < x.2.2.length := List.length_pos_iff.2 (hn x hx)
  rw [p1_at hi] at h2
  have hpl : p < x.2.2.length := by
    rcases Nat.lt_or_ge p x.2.2.length with hh | hh
    · exact hh
    · have := h3 (x.2.2.length - 1) (by omega)
      unfold p2 at this
      rw [hla] at this
      have h2' : (!q (la x)) = false := this
      rw [h2'] at h2; cases h2
  refine .inr ⟨x, hi, hpl, fun e he => ?_, fun e he => ?_, fun e he => ?_, fun e he => ?_⟩
  · obtain ⟨y, hy, he⟩ := flat_of he
    obtain ⟨j, hj⟩ := List.getElem?_of_mem hy
    rw [List.getElem?_take] at hj
    split at hj
    · rename_i hji
      have q1 := h1 j hji
      rw [p1_at hj] at q1
      obtain ⟨k, hk⟩ := List.getElem?_of_mem he
      have hkl := (List.getElem?_eq_some_iff.1 hk).1
      exact mo_in (mo_row h hj) (by omega) hk (la_at (hn y (List.mem_of_getElem? hj))) (by simpa using q1)
    · cases hj
  · obtain ⟨k, hk⟩ := List.getElem?_of_mem he
    rw [List.getElem?_take] at hk
    split at hk
    · rename_i hkp
      have := h3 k hkp
      unfold p2 at this
      rw [hk] at this
      simpa using this
    · cases hk
  · obtain ⟨k, hk⟩ := List.getElem?_of_mem he
    rw [List.getElem?_drop] at hk
    have := h4 (p + k) (by omega) (List.getElem?_eq_some_iff.1 hk).1
    unfold p2 at this
    rw [hk] at this
    simpa using this
  · obtain ⟨y, hy, he⟩ := flat_of he
    obtain ⟨j, hj⟩ := List.getElem?_of_mem hy
    rw [List.getElem?_drop] at hj
    cases hq : q e with
    | false => rfl
    | true =>
      have := mo_rows h (show i < i + 1 + j by omega) hi hj _ (la_mem (hn x hx)) e he hq
      rw [this] at h2; cases h2
set_option maxRecDepth 100000 in
set_option maxHeartbeats 1000000 in
theorem rseek_any (w : World) (R : Nat) (u0 u1 u3 rv : Value) (T : List Rw) (g : Nat) (cb : Array Value) (q : Ent → Bool) (hL : Lay w R u0 u1 u3 rv T) (hn : ∀ x ∈ T, x.2.2 ≠ []) (hm : ∀ x ∈ T, x.2.2.length ≤ 100000) (ht : T.length ≤ 2000000) (hq : Rch g cb q w) (hM : Mo q (flat T)) :
    Calls Try.prog 41 #[.pointer (some ⟨R, 0, none⟩), .func (.func g) #[] cb] w fun e w' => (∃ i p : Nat, e = .returned (.tuple #[.int .i64 i, .int .i64 p]) ∧ Sk T q i p) ∧ Below w.heap.size w w' := by
  obtain ⟨W2, hW2⟩ : ∃ W2, (w.alloc (.cells #[.pointer (some ⟨R, 0, none⟩)] 24)).alloc (.cells #[.func (.func g) #[] cb] 81) = W2 := ⟨_, rfl⟩
  have hb2 : Below w.heap.size w W2 := by rw [← hW2]; exact ((Below.refl _ w).alloc (Nat.le_refl _) _).alloc (by simp) _
  have hs2 : W2.heap.size = w.heap.size + 2 := by rw [← hW2]; simp
  have hr2 : W2.cell? ⟨w.heap.size, 0, none⟩ = some (.pointer (some ⟨R, 0, none⟩)) := by rw [← hW2]; simp
  have hf2 : W2.cell? ⟨w.heap.size + 1, 0, none⟩ = some (.func (.func g) #[] cb) := by rw [← hW2]; simp
  have hL2 := hL.below hb2
  obtain ⟨c0, c1, c2, c3, cf⟩ := four hL2.1
  obtain ⟨o, c, hrv⟩ := hL.2.1.len
  -- the first search
  have hgo : ∀ W : World, Below W2.heap.size W2 W → Lay W R u0 u1 u3 rv T ∧ W.cell? ⟨w.heap.size, 0, none⟩ = some (.pointer (some ⟨R, 0, none⟩)) ∧ W.cell? ⟨w.heap.size + 1, 0, none⟩ = some (.func (.func g) #[] cb) ∧ Below w.heap.size w W := fun W hW =>
    ⟨hL2.below hW, (hW.cell (p := ⟨w.heap.size, 0, none⟩) (by rw [hs2]; show w.heap.size < _; omega)).trans hr2, (hW.cell (p := ⟨w.heap.size + 1, 0, none⟩) (by rw [hs2]; show w.heap.size + 1 < _; omega)).trans hf2, Below.up hb2 hW⟩
  have mS := search_any 62 #[.pointer (some ⟨w.heap.size + 1, 0, none⟩), .pointer (some ⟨w.heap.size, 0, none⟩)] T.length (p1 T q) W2 (enters_of Try.func62 (by kernel_rfl) rfl) ht (fun W i hW hi => by
      obtain ⟨hLW, hrW, hfW, hBW⟩ := hgo W hW
      have hx := List.getElem?_eq_getElem (l := T) (i := i) hi
      obtain ⟨gt, ct, rfl, _, _⟩ := hLW.2.1.form (by omega)
      have hxm := List.mem_of_getElem? hx
      have hlen : 0 < (T[i]).2.2.length := List.length_pos_iff.2 (hn _ hxm)
      have hat := (hLW.2.1.2.1 _ hxm).at (la_at (hn _ hxm))
      rw [p1_at hx]
      have := seek1_any W (w.heap.size + 1) w.heap.size R gt T.length ct i (T[i]).1 (T[i]).2.2.length (T[i]).2.1 ((T[i]).2.2.length - 1) (((T[i]).2.2.length - 1) * 2) g cb (la T[i]).1 (la T[i]).2 (!q (la T[i])) hfW hrW (four hLW.1).2.2.1 (hLW.2.1.at hx) hat.1 hat.2 hi (by omega) rfl (hm _ hxm) hq.1 (fun W' hW' => hq.2 (la T[i]) W' (Below.up hBW hW'))
      exact this) (p1_mono hM hn)
  have HL := keep hL
  have HN := keep hn
  have HM := keep hm
  have HQ := keep hq
  have HMo := keep hM
  have HGO := keep hgo
  have HS2 := keep hs2
  clear hb2 hs2 hf2 hr2 hL2 c0 c1 c3 cf hL hn hm hq hM hgo ht
  obtain ⟨n, hn'⟩ : ∃ n, T.length = n := ⟨_, rfl⟩
  rw [hn'] at mS hrv
  have HNN := keep hn'
  subst hrv
  clear hn'
  have cr : W2.cell? ⟨w.heap.size, 0, none⟩ = some (.pointer (some ⟨R, 0, none⟩)) := (HGO.out W2 (Below.refl _ _)).2.1
  have MS := keep mS
  clear mS
  go_enter Try.func41, Try.ntmps41
  go_wp2_with fail
  try rw [hW2]
  refine MS.out.mono ?_
  rintro _ w1 ⟨⟨k, rfl, hk1, hk2, hk3⟩, hb1⟩
  obtain ⟨W3, hW3⟩ : ∃ W3, w1.alloc (.cells #[.int .i64 (k : Int)] 3) = W3 := ⟨_, rfl⟩
  have hb3 : Below w1.heap.size w1 W3 := by rw [← hW3]; exact (Below.refl _ w1).alloc (Nat.le_refl _) _
  have hb23 : Below W2.heap.size W2 W3 := Below.up hb1 hb3
  obtain ⟨hL3, hr3, hf3, hB3⟩ := HGO.out W3 hb23
  have hi3 : W3.cell? ⟨w1.heap.size, 0, none⟩ = some (.int .i64 (k : Int)) := by rw [← hW3]; simp
  obtain ⟨d0, d1, d2, d3, df⟩ := four hL3.1
  have HS : Kept (W3.drew.cell? ⟨w1.heap.size, 0, none⟩ = some (.int .i64 (k : Int)) ∧ W3.drew.cell? ⟨w.heap.size, 0, none⟩ = some (.pointer (some ⟨R, 0, none⟩)) ∧ W3.drew.cell? ⟨R, 2, none⟩ = some (.slice o n c)) := ⟨hi3, hr3, d2⟩
  have HB1 := keep hb1
  have HL3 := keep hL3
  have HF3 := keep hf3
  have HB3 := keep hB3
  have HB23 := keep hb23
  have HK2 := keep hk2
  have HK3 := keep hk3
  have HK1 := keep hk1
  clear hb1 hb3 hb23 hL3 hr3 hf3 hB3 hi3 d0 d1 d2 d3 df hk1 hk2 hk3 MS
  go_wp2_with fail
  try rw [hW3]
  by_cases hkn : k = n
  · have hke : ((k : Int) == (n : Int)) = true := beq_iff_eq.2 (by omega)
    refine wp_region_held_drew (S := fun W => W.cell? ⟨w1.heap.size, 0, none⟩ = some (.int .i64 (k : Int)) ∧ W.cell? ⟨w.heap.size, 0, none⟩ = some (.pointer (some ⟨R, 0, none⟩)) ∧ W.cell? ⟨R, 2, none⟩ = some (.slice o n c)) (by kernel_rfl) HS.out (fun hHeld => ?_)
    refine wpAnyH_take (i := 0) (oi := { dst := some 14, op := _, type := _, pos := _, after := _, guard := _ }) (v := ?v185) rfl (by kernel_rfl) (by kernel_rfl) (by kernel_rfl) (fun _ _ _ h => h) (Or.inl ⟨by rfl, ?hy185⟩) (by assumption) ?rest185
    case hy185 => (intro w hSw; obtain ⟨p0,p1,p2⟩ := hSw; go_simp; try with_reducible rfl)
    try simp only [Act.put, List.setIfInBounds_toArray, List.set_cons_zero, List.set_cons_succ]
    refine wpAnyH_take (i := 1) (oi := { dst := some 15, op := _, type := _, pos := _, after := _, guard := _ }) (v := ?v186) rfl (by kernel_rfl) (by kernel_rfl) (by kernel_rfl) (fun _ _ _ h => h) (Or.inl ⟨by rfl, ?hy186⟩) (by assumption) ?rest186
    case hy186 => (intro w hSw; obtain ⟨p0,p1,p2⟩ := hSw; go_simp; try with_reducible rfl)
    try simp only [Act.put, List.setIfInBounds_toArray, List.set_cons_zero, List.set_cons_succ]
    refine wpAnyH_take (i := 2) (oi := { dst := some 16, op := _, type := _, pos := _, after := _, guard := _ }) (v := ?v187) rfl (by kernel_rfl) (by kernel_rfl) (by kernel_rfl) (fun _ _ _ h => h) (Or.inl ⟨by rfl, ?hy187⟩) (by assumption) ?rest187
    case hy187 => (intro w hSw; obtain ⟨p0,p1,p2⟩ := hSw; go_simp; try with_reducible rfl)
    try simp only [Act.put, List.setIfInBounds_toArray, List.set_cons_zero, List.set_cons_succ]
    refine wpAnyH_take (i := 3) (oi := { dst := some 17, op := _, type := _, pos := _, after := _, guard := _ }) (v := ?v188) rfl (by kernel_rfl) (by kernel_rfl) (by kernel_rfl) (fun _ _ _ h => h) (Or.inl ⟨by rfl, ?hy188⟩) (by assumption) ?rest188
    case hy188 => (intro w hSw; obtain ⟨p0,p1,p2⟩ := hSw; go_simp; try with_reducible rfl)
    try simp only [Act.put, List.setIfInBounds_toArray, List.set_cons_zero, List.set_cons_succ]
    refine wpAnyH_take (i := 4) (oi := { dst := some 18, op := _, type := _, pos := _, after := _, guard := _ }) (v := ?v189) rfl (by kernel_rfl) (by kernel_rfl) (by kernel_rfl) (fun _ _ _ h => h) (Or.inl ⟨by rfl, ?hy189⟩) (by assumption) ?rest189
    case hy189 => (intro w hSw; obtain ⟨p0,p1,p2⟩ := hSw; go_simp; try with_reducible rfl)
    try simp only [Act.put, List.setIfInBounds_toArray, List.set_cons_zero, List.set_cons_succ]
    refine wpAnyH_take (i := 5) (oi := { dst := some 19, op := _, type := _, pos := _, after := _, guard := _ }) (v := (.int .i64 (n : Int))) rfl (by kernel_rfl) (by kernel_rfl) (by kernel_rfl) (fun _ _ _ h => h) (Or.inl ⟨by rfl, ?hy190⟩) (by assumption) ?rest190
    case hy190 => (intro w hSw; obtain ⟨p0,p1,p2⟩ := hSw; first | (go_simp; done) | (go_simp; simp [*]; done) | (simp [*]; go_simp; done))
    try simp only [Act.put, List.setIfInBounds_toArray, List.set_cons_zero, List.set_cons_succ]
    refine wpAnyH_take (i := 6) (oi := { dst := some 20, op := _, type := _, pos := _, after := _, guard := _ }) (v := (.bool true)) rfl (by kernel_rfl) (by kernel_rfl) (by kernel_rfl) (fun _ _ _ h => h) (Or.inl ⟨by rfl, ?hy191⟩) (by assumption) ?rest191
    case hy191 => (intro w hSw; obtain ⟨p0,p1,p2⟩ := hSw; first | (go_simp; done) | (go_simp; simp [*]; done) | (simp [*]; go_simp; done))
    try simp only [Act.put, List.setIfInBounds_toArray, List.set_cons_zero, List.set_cons_succ]
    refine wpAnyH_done (by kernel_rfl) ?_ _
    have hi4 := HS.out.1
    clear hHeld
    go_wp2
    refine bodyPost_ret (results_tmp2 rfl _ _ _) rfl ?_
    refine ⟨⟨n, 0, rfl, ?_⟩, HB3.out.drew⟩
    rw [← HNN.out]
    exact sk_none HMo.out HN.out (fun t ht => HK2.out t (by rw [hkn, ← HNN.out]; exact ht))
  · have hke : ((k : Int) == (n : Int)) = false := beq_eq_false_iff_ne.2 (by omega)
    refine wp_region_held_drew (S := fun W => W.cell? ⟨w1.heap.size, 0, none⟩ = some (.int .i64 (k : Int)) ∧ W.cell? ⟨w.heap.size, 0, none⟩ = some (.pointer (some ⟨R, 0, none⟩)) ∧ W.cell? ⟨R, 2, none⟩ = some (.slice o n c)) (by kernel_rfl) HS.out (fun hHeld => ?_)
    refine wpAnyH_take (i := 0) (oi := { dst := some 14, op := _, type := _, pos := _, after := _, guard := _ }) (v := ?v192) rfl (by kernel_rfl) (by kernel_rfl) (by kernel_rfl) (fun _ _ _ h => h) (Or.inl ⟨by rfl, ?hy192⟩) (by assumption) ?rest192
    case hy192 => (intro w hSw; obtain ⟨p0,p1,p2⟩ := hSw; go_simp; try with_reducible rfl)
    try simp only [Act.put, List.setIfInBounds_toArray, List.set_cons_zero, List.set_cons_succ]
    refine wpAnyH_take (i := 1) (oi := { dst := some 15, op := _, type := _, pos := _, after := _, guard := _ }) (v := ?v193) rfl (by kernel_rfl) (by kernel_rfl) (by kernel_rfl) (fun _ _ _ h => h) (Or.inl ⟨by rfl, ?hy193⟩) (by assumption) ?rest193
    case hy193 => (intro w hSw; obtain ⟨p0,p1,p2⟩ := hSw; go_simp; try with_reducible rfl)
    try simp only [Act.put, List.setIfInBounds_toArray, List.set_cons_zero, List.set_cons_succ]
    refine wpAnyH_take (i := 2) (oi := { dst := some 16, op := _, type := _, pos := _, after := _, guard := _ }) (v := ?v194) rfl (by kernel_rfl) (by kernel_rfl) (by kernel_rfl) (fun _ _ _ h => h) (Or.inl ⟨by rfl, ?hy194⟩) (by assumption) ?rest194
    case hy194 => (intro w hSw; obtain ⟨p0,p1,p2⟩ := hSw; go_simp; try with_reducible rfl)
    try simp only [Act.put, List.setIfInBounds_toArray, List.set_cons_zero, List.set_cons_succ]
    refine wpAnyH_take (i := 3) (oi := { dst := some 17, op := _, type := _, pos := _, after := _, guard := _ }) (v := ?v195) rfl (by kernel_rfl) (by kernel_rfl) (by kernel_rfl) (fun _ _ _ h => h) (Or.inl ⟨by rfl, ?hy195⟩) (by assumption) ?rest195
    case hy195 => (intro w hSw; obtain ⟨p0,p1,p2⟩ := hSw; go_simp; try with_reducible rfl)
    try simp only [Act.put, List.setIfInBounds_toArray, List.set_cons_zero, List.set_cons_succ]
    refine wpAnyH_take (i := 4) (oi := { dst := some 18, op := _, type := _, pos := _, after := _, guard := _ }) (v := ?v196) rfl (by kernel_rfl) (by kernel_rfl) (by kernel_rfl) (fun _ _ _ h => h) (Or.inl ⟨by rfl, ?hy196⟩) (by assumption) ?rest196
    case hy196 => (intro w hSw; obtain ⟨p0,p1,p2⟩ := hSw; go_simp; try with_reducible rfl)
    try simp only [Act.put, List.setIfInBounds_toArray, List.set_cons_zero, List.set_cons_succ]
    refine wpAnyH_take (i := 5) (oi := { dst := some 19, op := _, type := _, pos := _, after := _, guard := _ }) (v := (.int .i64 (n : Int))) rfl (by kernel_rfl) (by kernel_rfl) (by kernel_rfl) (fun _ _ _ h => h) (Or.inl ⟨by rfl, ?hy197⟩) (by assumption) ?rest197
    case hy197 => (intro w hSw; obtain ⟨p0,p1,p2⟩ := hSw; first | (go_simp; done) | (go_simp; simp [*]; done) | (simp [*]; go_simp; done))
    try simp only [Act.put, List.setIfInBounds_toArray, List.set_cons_zero, List.set_cons_succ]
    refine wpAnyH_take (i := 6) (oi := { dst := some 20, op := _, type := _, pos := _, after := _, guard := _ }) (v := (.bool false)) rfl (by kernel_rfl) (by kernel_rfl) (by kernel_rfl) (fun _ _ _ h => h) (Or.inl ⟨by rfl, ?hy198⟩) (by assumption) ?rest198
    case hy198 => (intro w hSw; obtain ⟨p0,p1,p2⟩ := hSw; first | (go_simp; done) | (go_simp; simp [*]; done) | (simp [*]; go_simp; done))
    try simp only [Act.put, List.setIfInBounds_toArray, List.set_cons_zero, List.set_cons_succ]
    refine wpAnyH_done (by kernel_rfl) ?_ _
    clear hHeld
    have hkl : k < n := by have := HK1.out; omega
    obtain ⟨x, hx⟩ : ∃ x, T[k]? = some x := ⟨_, List.getElem?_eq_getElem (by rw [HNN.out]; exact hkl)⟩
    obtain ⟨gt, ct, hrv, _, _⟩ := HL3.out.2.1.form (by rw [HNN.out]; omega)
    rw [HNN.out] at hrv
    cases hrv
    have hxm := List.mem_of_getElem? hx
    obtain ⟨gx, cx, lx⟩ := x
    obtain ⟨nx, hnx⟩ : ∃ nx, lx.length = nx := ⟨_, rfl⟩
    have mS2 := search_any 63 #[.pointer (some ⟨w.heap.size + 1, 0, none⟩), .pointer (some ⟨w.heap.size, 0, none⟩), .pointer (some ⟨w1.heap.size, 0, none⟩)] nx (Go.Proofs.Ytapehjlpiobeaaa.p2 (gx, cx, lx) q) W3.drew.drew (enters_of Try.func63 (by kernel_rfl) rfl) (by have := HM.out _ hxm; dsimp only at this; omega) (fun W i hW hi => by
        have hW' : Below W3.heap.size W3 W := ((Below.refl _ W3).drew.drew).trans hW
        obtain ⟨hLW, hrW, hfW, hBW⟩ := HGO.out W (Below.up HB23.out hW')
        rw [← hnx] at hi
        have hl0 := List.getElem?_eq_getElem hi
        have hat := (hLW.2.1.2.1 _ hxm).at (j := i) (e := lx[i]) hl0
        have hiW : W.cell? ⟨w1.heap.size, 0, none⟩ = some (.int .i64 (k : Int)) := (hW'.cell (p := ⟨w1.heap.size, 0, none⟩) (World.block_lt_of_cell? _ _ HS.out.1)).trans HS.out.1
        have e2 : Go.Proofs.Ytapehjlpiobeaaa.p2 (gx, cx, lx) q i = !q lx[i] := by unfold Go.Proofs.Ytapehjlpiobeaaa.p2; rw [hl0]; rfl
        rw [e2]
        exact seek2_any W (w.heap.size + 1) w.heap.size w1.heap.size R gt n c k gx lx.length cx i (i * 2) g cb lx[i].1 lx[i].2 (!q lx[i]) hfW hrW hiW (four hLW.1).2.2.1 (hLW.2.1.at hx) hat.1 hat.2 hkl hi rfl HQ.out.1 (fun W' hW' => HQ.out.2 lx[i] W' (Below.up hBW hW'))) (by have := p2_mono HMo.out hx; rw [← hnx]; exact this)
    have hT3 : W3.drew.drew.cell? ⟨gt, k, none⟩ = some (.slice (some ⟨gx, 0, none⟩) nx cx) := by have := HL3.out.2.1.at hx; unfold rwV at this; dsimp only at this; rw [hnx] at this; exact this
    have HS3 : Kept (W3.drew.drew.cell? ⟨w1.heap.size, 0, none⟩ = some (.int .i64 (k : Int)) ∧ W3.drew.drew.cell? ⟨w.heap.size, 0, none⟩ = some (.pointer (some ⟨R, 0, none⟩)) ∧ W3.drew.drew.cell? ⟨R, 2, none⟩ = some (.slice (some ⟨gt, 0, none⟩) n c) ∧ W3.drew.drew.cell? ⟨gt, k, none⟩ = some (.slice (some ⟨gx, 0, none⟩) nx cx)) := ⟨HS.out.1, HS.out.2.1, HS.out.2.2, hT3⟩
    have HX := keep hx
    have HNX := keep hnx
    have MS2 := keep mS2
    have k0 : (0 : Int) ≤ (k : Int) := by omega
    have k1 : (k : Int) < (n : Int) := by omega
    have HKL := keep hkl
    clear hx hnx mS2 hxm hT3 hkl hkn
    go_wp2_with fail
    refine wp_region_held_drew (S := fun W => W.cell? ⟨w1.heap.size, 0, none⟩ = some (.int .i64 (k : Int)) ∧ W.cell? ⟨w.heap.size, 0, none⟩ = some (.pointer (some ⟨R, 0, none⟩)) ∧ W.cell? ⟨R, 2, none⟩ = some (.slice (some ⟨gt, 0, none⟩) n c) ∧ W.cell? ⟨gt, k, none⟩ = some (.slice (some ⟨gx, 0, none⟩) nx cx)) (by kernel_rfl) HS3.out (fun hHeld => ?_)
    refine wpAnyH_take (i := 0) (oi := { dst := some 22, op := _, type := _, pos := _, after := _, guard := _ }) (v := ?v199) rfl (by kernel_rfl) (by kernel_rfl) (by kernel_rfl) (fun _ _ _ h => h) (Or.inl ⟨by rfl, ?hy199⟩) (by assumption) ?rest199
    case hy199 => (intro w hSw; obtain ⟨p0,p1,p2,p3⟩ := hSw; go_simp; try with_reducible rfl)
    try simp only [Act.put, List.setIfInBounds_toArray, List.set_cons_zero, List.set_cons_succ]
    refine wpAnyH_take (i := 1) (oi := { dst := some 23, op := _, type := _, pos := _, after := _, guard := _ }) (v := ?v200) rfl (by kernel_rfl) (by kernel_rfl) (by kernel_rfl) (fun _ _ _ h => h) (Or.inl ⟨by rfl, ?hy200⟩) (by assumption) ?rest200
    case hy200 => (intro w hSw; obtain ⟨p0,p1,p2,p3⟩ := hSw; go_simp; try with_reducible rfl)
    try simp only [Act.put, List.setIfInBounds_toArray, List.set_cons_zero, List.set_cons_succ]
    refine wpAnyH_take (i := 2) (oi := { dst := some 24, op := _, type := _, pos := _, after := _, guard := _ }) (v := ?v201) rfl (by kernel_rfl) (by kernel_rfl) (by kernel_rfl) (fun _ _ _ h => h) (Or.inl ⟨by rfl, ?hy201⟩) (by assumption) ?rest201
    case hy201 => (intro w hSw; obtain ⟨p0,p1,p2,p3⟩ := hSw; go_simp; try with_reducible rfl)
    try simp only [Act.put, List.setIfInBounds_toArray, List.set_cons_zero, List.set_cons_succ]
    refine wpAnyH_take (i := 3) (oi := { dst := some 25, op := _, type := _, pos := _, after := _, guard := _ }) (v := ?v202) rfl (by kernel_rfl) (by kernel_rfl) (by kernel_rfl) (fun _ _ _ h => h) (Or.inl ⟨by rfl, ?hy202⟩) (by assumption) ?rest202
    case hy202 => (intro w hSw; obtain ⟨p0,p1,p2,p3⟩ := hSw; go_simp; try with_reducible rfl)
    try simp only [Act.put, List.setIfInBounds_toArray, List.set_cons_zero, List.set_cons_succ]
    refine wpAnyH_take (i := 4) (oi := { dst := some 26, op := _, type := _, pos := _, after := _, guard := _ }) (v := ?v203) rfl (by kernel_rfl) (by kernel_rfl) (by kernel_rfl) (fun _ _ _ h => h) (Or.inl ⟨by rfl, ?hy203⟩) (by assumption) ?rest203
    case hy203 => (intro w hSw; obtain ⟨p0,p1,p2,p3⟩ := hSw; go_simp; try with_reducible rfl)
    try simp only [Act.put, List.setIfInBounds_toArray, List.set_cons_zero, List.set_cons_succ]
    refine wpAnyH_take (i := 5) (oi := { dst := some 27, op := _, type := _, pos := _, after := _, guard := _ }) (v := ?v204) rfl (by kernel_rfl) (by kernel_rfl) (by kernel_rfl) (fun _ _ _ h => h) (Or.inl ⟨by rfl, ?hy204⟩) (by assumption) ?rest204
    case hy204 => (intro w hSw; obtain ⟨p0,p1,p2,p3⟩ := hSw; go_simp; try with_reducible rfl)
    try simp only [Act.put, List.setIfInBounds_toArray, List.set_cons_zero, List.set_cons_succ]
    refine wpAnyH_take (i := 6) (oi := { dst := some 28, op := _, type := _, pos := _, after := _, guard := _ }) (v := (.pointer (some ⟨gt, k, none⟩))) rfl (by kernel_rfl) (by kernel_rfl) (by kernel_rfl) (fun _ _ _ h => h) (Or.inl ⟨by rfl, ?hy205⟩) (by assumption) ?rest205
    case hy205 => (intro w hSw; obtain ⟨p0,p1,p2,p3⟩ := hSw; first | (go_simp; done) | (go_simp; simp [*]; done) | (simp [*]; go_simp; done))
    try simp only [Act.put, List.setIfInBounds_toArray, List.set_cons_zero, List.set_cons_succ]
    refine wpAnyH_take (i := 7) (oi := { dst := some 29, op := _, type := _, pos := _, after := _, guard := _ }) (v := ?v206) rfl (by kernel_rfl) (by kernel_rfl) (by kernel_rfl) (fun _ _ _ h => h) (Or.inl ⟨by rfl, ?hy206⟩) (by assumption) ?rest206
    case hy206 => (intro w hSw; obtain ⟨p0,p1,p2,p3⟩ := hSw; go_simp; try with_reducible rfl)
    try simp only [Act.put, List.setIfInBounds_toArray, List.set_cons_zero, List.set_cons_succ]
    refine wpAnyH_take (i := 8) (oi := { dst := some 30, op := _, type := _, pos := _, after := _, guard := _ }) (v := (.int .i64 (nx : Int))) rfl (by kernel_rfl) (by kernel_rfl) (by kernel_rfl) (fun _ _ _ h => h) (Or.inl ⟨by rfl, ?hy207⟩) (by assumption) ?rest207
    case hy207 => (intro w hSw; obtain ⟨p0,p1,p2,p3⟩ := hSw; first | (go_simp; done) | (go_simp; simp [*]; done) | (simp [*]; go_simp; done))
    try simp only [Act.put, List.setIfInBounds_toArray, List.set_cons_zero, List.set_cons_succ]
    refine wpAnyH_take (i := 9) (oi := { dst := some 31, op := _, type := _, pos := _, after := _, guard := _ }) (v := ?v208) rfl (by kernel_rfl) (by kernel_rfl) (by kernel_rfl) (fun _ _ _ h => h) (Or.inl ⟨by rfl, ?hy208⟩) (by assumption) ?rest208
    case hy208 => (intro w hSw; obtain ⟨p0,p1,p2,p3⟩ := hSw; go_simp; try with_reducible rfl)
    try simp only [Act.put, List.setIfInBounds_toArray, List.set_cons_zero, List.set_cons_succ]
    refine wpAnyH_ready (rs := [10]) (by kernel_rfl) (by simp) ?_
    refine AllReadyH.cons (o := { dst := some 32, op := _, type := _, pos := _, after := _, guard := _ }) rfl (fun K hK => ?_) AllReadyH.nil
    go_simp
    refine MS2.out.mono ?_
    rintro _ w4 ⟨⟨p, rfl, hp1, hp2, hp3⟩, hb4⟩
    have hlt : ∀ {a : Addr} {u : Value}, W3.drew.drew.cell? a = some u → w4.cell? a = some u := fun {a u} h => (hb4.cell (p := a) (World.block_lt_of_cell? _ _ h)).trans h
    have HP1 := keep hp1
    have HP2 := keep hp2
    have HP3 := keep hp3
    have HB4 := keep hb4
    refine hK.out _ _ ⟨hlt HS3.out.1, hlt HS3.out.2.1, hlt HS3.out.2.2.1, hlt HS3.out.2.2.2⟩ (fun hHeld => ?_)
    try simp only [Act.put, List.setIfInBounds_toArray, List.set_cons_zero, List.set_cons_succ]
    clear hK hlt hp1 hp2 hp3 hb4
    refine wpAnyH_take (i := 11) (oi := { dst := some 4, op := _, type := _, pos := _, after := _, guard := _ }) (v := ?v209) rfl (by kernel_rfl) (by kernel_rfl) (by kernel_rfl) (fun _ _ _ h => h) (Or.inl ⟨by rfl, ?hy209⟩) (by assumption) ?rest209
    case hy209 => (intro w hSw; go_simp; try with_reducible rfl)
    try simp only [Act.put, List.setIfInBounds_toArray, List.set_cons_zero, List.set_cons_succ]
    refine wpAnyH_take (i := 12) (oi := { dst := some 5, op := _, type := _, pos := _, after := _, guard := _ }) (v := ?v210) rfl (by kernel_rfl) (by kernel_rfl) (by kernel_rfl) (fun _ _ _ h => h) (Or.inl ⟨by rfl, ?hy210⟩) (by assumption) ?rest210
    case hy210 => (intro w hSw; go_simp; try with_reducible rfl)
    try simp only [Act.put, List.setIfInBounds_toArray, List.set_cons_zero, List.set_cons_succ]
    refine wpAnyH_done (by kernel_rfl) ?_ _
    clear hHeld HS HS3 MS2
    go_wp2
    refine bodyPost_ret (results_tmp2 rfl _ _ _) rfl ?_
    refine ⟨⟨k, p, rfl, ?_⟩, HB3.out.trans ?_⟩
    · exact sk_some HMo.out HN.out HX.out HK2.out (HK3.out k (Nat.le_refl _) HKL.out) (by rw [← HNX.out] at HP1; exact HP1.out) HP2.out (by rw [← HNX.out] at HP3; exact HP3.out)
    · have hb := HB4.out
      exact ⟨hb.os, hb.tape, hb.output, hb.size, fun j hj => hb.block j (Nat.lt_of_lt_of_le hj HB3.out.size)⟩
/-- how many stand ahead of a row -/
def cntA (T : List Rw) (i : Nat) : Nat := (flat (T.take i)).length
theorem cntA_succ {T : List Rw} {i : Nat} {x : Rw} (h : T[i]? = some x) : cntA T (i + 1) = cntA T i + x.2.2.length := by
  unfold cntA
  have hl := (List.getElem?_eq_some_iff.1 h).1
  rw [List.take_add_one, h, flat_app, List.length_append]
  show _ + (flat [x]).length = _
  rw [flat_cons, flat_nil, List.append_nil]
theorem flat_take_le (T : List Rw) (i : Nat) : cntA T i ≤ (flat T).length := by
  have : flat T = flat (T.take i) ++ flat (T.drop i) := by rw [← flat_app, List.take_append_drop]
  unfold cntA
  rw [this, List.length_append]; omega
set_option maxRecDepth 100000 in
set_option maxHeartbeats 1000000 in
theorem place_any (w : World) (R : Nat) (u0 u1 u3 rv : Value) (T : List Rw) (i p : Nat) (hL : Lay w R u0 u1 u3 rv T) (hi : i ≤ T.length) (hb : (flat T).length ≤ 2000000) (hp : p ≤ 2000000) (hne : 0 < T.length) :
    Calls Try.prog 40 #[.pointer (some ⟨R, 0, none⟩), .int .i64 i, .int .i64 p] w fun e w' => e = .returned (.int .i64 ((cntA T i + p : Nat) : Int)) ∧ w' = w := by
  obtain ⟨i0, hi0, hz0, hz1, hz2⟩ := info_parts info_rw
  have uT := Try.underlying61
  obtain ⟨gt, ct, rfl, hc1, hc2⟩ := hL.2.1.form hne
  obtain ⟨n, hn⟩ : ∃ n, T.length = n := ⟨_, rfl⟩
  rw [hn] at hi hc1
  obtain ⟨c0, c1, c2, c3, cf⟩ := four hL.1
  rw [hn] at c2
  have hs : ∀ w, (Instr.slice 61 (.slice (some ⟨gt, 0, none⟩) n ct) none (some (.int .i64 (i : Int))) none).run Try.prog w = .ok (.slice (some ⟨gt, 0, none⟩) i ct) w := fun w => by
    rw [slice_run w _ _ uT i0 hi0 ⟨gt, 0, none⟩ n ct 0 i ct _ _ _ (.inl ⟨rfl, rfl⟩) (.inr ⟨rfl, by omega⟩) (.inl ⟨rfl, rfl⟩)]
    rw [Nat.zero_mul, add_at, Nat.zero_add, ite_self]; rfl
  have HL := keep hL
  have HN := keep hn
  have HI := keep hi
  have HB := keep hb
  have HP := keep hp
  clear hL hi hb hp hne c0 c1 c3 cf hc1 hc2 hn
  go_enter Try.func40, Try.ntmps40
  go_wp2
  go_loopg [2, 8, 16] i (fun kx s2 s8 s16 wr => ∃ k q : Nat, s2 = .int .i64 q ∧ s16 = .int .i64 k ∧ k ≤ i ∧ i - k ≤ kx ∧ wr = w ∧ Kept (q = cntA T k + p))
  case atStart => exact ⟨0, p, rfl, rfl, Nat.zero_le _, by omega, rfl, by show p = _; unfold cntA; simp [flat_nil]⟩
  case round =>
    obtain ⟨k, q, rfl, rfl, hk, hg, hw, HQ⟩ := hrel
    obtain rfl := hw.symm
    by_cases hlt : k < i
    · have hi := HI.out
      obtain ⟨x, hx⟩ : ∃ x, T[k]? = some x := ⟨_, List.getElem?_eq_getElem (by rw [HN.out]; omega)⟩
      have hcell : w.cell? ⟨gt, k, none⟩ = some (rwV x) := HL.out.2.1.at hx
      unfold rwV at hcell
      have hsucc := cntA_succ hx
      have hle := flat_take_le T (k + 1)
      obtain ⟨lx, hlx⟩ : ∃ lx, x.2.2.length = lx := ⟨_, rfl⟩
      rw [hlx] at hcell hsucc
      obtain ⟨q', hq'⟩ : ∃ q', q' = q + lx := ⟨_, rfl⟩
      have hw1 : IntKind.i64.wrap ((q : Int) + (lx : Int)) = (q' : Int) := by
        have := HQ.out; have := HB.out; have := HP.out
        rw [IntKind.wrap_i64]; omega
      have k0 : (0 : Int) ≤ (k : Int) := by omega
      have k1 : (k : Int) < (i : Int) := by omega
      have kw : IntKind.i64.wrap ((k : Int) + 1) = ((k + 1 : Nat) : Int) := by
        have := HB.out; have h3 := HI.out
        have h4 := HN.out
        have h5 : T.length ≤ maxLen := by
          rcases HL.out.2.1.1.2 with ⟨_, h'⟩ | ⟨_, _, _, h', _, _, q1, q2, _⟩
          · omega
          · omega
        unfold maxLen at h5
        rw [IntKind.wrap_i64]; omega
      have HX := keep (show q' = cntA T (k + 1) + p by have := HQ.out; omega)
      clear hx hsucc hle hlx hq' hi
      go_wp2
      go_roundg (i - (k + 1))
      case measure => omega
      case rel => exact ⟨k + 1, q', rfl, by first | rfl | simp, by omega, by omega, rfl, HX.out⟩
    · obtain rfl : k = i := by omega
      go_wp2
      go_ret
      exact ⟨by rw [← Int.natCast_add, ← HQ.out]; rfl, rfl⟩
end Go.Proofs.Ytapehjlpiobeaaa
