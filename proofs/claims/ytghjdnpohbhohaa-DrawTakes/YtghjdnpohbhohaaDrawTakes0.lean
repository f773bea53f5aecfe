/-
  The walk of DrawTakes: every script of questions to two sources, and to none; the lists stay, and are not kept.
-/
import Derived.Test.YtghjdnpohbhohaaDrawAsks
import Derived.Test.YtghjdnpohbhohaaDrawOrder0
namespace Go.Proofs.Ytghjdnpohbhohaa
open Go.RowKit
/-- an append whose source may be nil -/
theorem wpList_append_any {P : Program} (w : World) {ops : Array Oper} {rest : List Oper} {o : Oper} {a : Act} {Q : Exit → Act → World → Prop} (hgd : o.guard = none) (s x : Operand) (t : TypeId)
    (ho : o.op = .call { callee := .builtin .append, args := #[s, x], argTypes := #[t, t] })
    (base : Nat) (e : TypeId) (i : TypeInfo) (z : Value) (size bytes : Nat) (ht : P.underlying t = some (.slice e)) (hi : P.info? e = some i) (hz : i.zero = some z)
    (hsize : i.size = size) (hby : i.bytes = bytes) (hzs : z.cells.size = size) (hsz : 0 < size)
    (v : Value) (n : Nat) (xs : List Value) (hs : a.eval s = v) (hown : w.ownsRow base e size v n xs)
    (ao : Option Addr) (m c : Nat) (news : List Value) (hx : a.eval x = .slice ao m c) (hl : news.length = m * size) (hnone : ao = none → m = 0 ∧ c = 0) (hnews : ∀ ad, ao = some ad → ∀ j u, news[j]? = some u → w.cell? (ad.add j) = some u) (h1 : ∀ u ∈ news, u.oneCell' = true)
    (h63 : n + m ≤ maxLen) (hbytes : (n + m) * bytes ≤ 140737488355328) (hbase : base ≤ w.heap.size)
    (h : ∀ v' w', w'.ownsRow base e size v' (n + m) (xs ++ news) → w.grownBy w' v.ownBlock → wpList P ops Q rest (a.put o.dst v') w') : wpList P ops Q (o :: rest) a w := by
  cases ao with
  | some ad => exact wpList_append_own w hgd s x t ho base e i z size bytes ht hi hz hsize hby hzs hsz v n xs hs hown ad m c news hx hl (hnews ad rfl) h1 h63 hbytes hbase fun v' w' h2 h3 _ => h v' w' h2 h3
  | none =>
    obtain ⟨rfl, rfl⟩ := hnone rfl
    have hnews : news = [] := List.eq_nil_of_length_eq_zero (by simpa using hl)
    subst hnews
    exact wpList_append_own_none hgd s x t ho base e i size ht hi v n xs hs hown hx (h v w (by simpa using hown) ⟨rfl, rfl, rfl, Nat.le_refl _, fun _ _ _ => rfl⟩)
/-- the row in block g, from k on as Z says, behind its end 77, 78, 79 -/
def RowK (w : World) (g : Nat) (Z : List Nat) (k : Nat) : Prop :=
  ∃ cur : Array Value, w.heap[g]? = some (.cells cur 22 (0, 0)) ∧ cur.size = Z.length + 3 ∧ (∀ j (h : j < Z.length), k ≤ j → cur[j]? = some (.int .u64 (Z[j] : Nat))) ∧ cur[Z.length]? = some (.int .u64 77) ∧ cur[Z.length + 1]? = some (.int .u64 78) ∧ cur[Z.length + 2]? = some (.int .u64 79)
/-- a row of at least n cells in block g -/
def RowN (w : World) (g : Nat) (n : Nat) : Prop := ∃ cur : Array Value, w.heap[g]? = some (.cells cur 22 (0, 0)) ∧ n ≤ cur.size
theorem rowK_of {w : World} {B g c : Nat} {Z : List Nat} (h : w.ownsRow B 22 1 (.slice (some ⟨g, 0, none⟩) (Z.length + 3) c) (Z.length + 3) ((Z.map fun n : Nat => Value.int .u64 n) ++ [.int .u64 77, .int .u64 78, .int .u64 79])) (hc : c = Z.length + 3) : RowK w g Z 0 ∧ B ≤ g ∧ g < w.heap.size := by
  obtain ⟨_, ⟨h, _⟩ | ⟨g', cap, cur, e, hg, hh, h1, h2, h3, h4⟩⟩ := h
  · cases h
  · cases e
    subst hc
    rw [Nat.mul_one] at h3 h4
    have e2 : cur.toList = (Z.map fun n : Nat => Value.int .u64 n) ++ [.int .u64 77, .int .u64 78, .int .u64 79] := by
      rw [← h4, List.take_of_length_le (by simp [h3])]
    have at' : ∀ j, cur[j]? = ((Z.map fun n : Nat => Value.int .u64 n) ++ [.int .u64 77, .int .u64 78, .int .u64 79])[j]? := fun j => by rw [← e2, Array.getElem?_toList]
    have hl : (Z.map fun n : Nat => Value.int .u64 n).length = Z.length := by simp
    refine ⟨⟨cur, hh, h3, fun j hj _ => ?_, ?_, ?_, ?_⟩, hg, lt_of_block hh⟩
    · rw [at', List.getElem?_append_left (by rw [hl]; exact hj), List.getElem?_map, List.getElem?_eq_getElem hj]; rfl
    · rw [at', List.getElem?_append_right (by rw [hl]; omega), hl, Nat.sub_self]; rfl
    · rw [at', List.getElem?_append_right (by rw [hl]; omega), hl, show Z.length + 1 - Z.length = 1 by omega]; rfl
    · rw [at', List.getElem?_append_right (by rw [hl]; omega), hl, show Z.length + 2 - Z.length = 2 by omega]; rfl
theorem RowK.kept {w w' : World} {g : Nat} {Z : List Nat} {k : Nat} (h : RowK w g Z k) (hg : w'.heap[g]? = w.heap[g]?) : RowK w' g Z k := by
  obtain ⟨cur, h1, h2⟩ := h
  exact ⟨cur, by rw [hg]; exact h1, h2⟩
theorem RowN.kept {w w' : World} {g n : Nat} (h : RowN w g n) (hg : w'.heap[g]? = w.heap[g]?) : RowN w' g n := by
  obtain ⟨cur, h1, h2⟩ := h
  exact ⟨cur, by rw [hg]; exact h1, h2⟩
theorem cell_cur {w : World} {g j : Nat} {cur : Array Value} {t : TypeId} {fr : Nat × Nat} {v : Value} (h : w.heap[g]? = some (.cells cur t fr)) (hj : cur[j]? = some v) : w.cell? ⟨g, j, none⟩ = some v := by
  unfold World.cell?
  rw [h]
  exact hj
theorem free_cur {w : World} {g j : Nat} {cur : Array Value} {t : TypeId} (h : w.heap[g]? = some (.cells cur t (0, 0))) : w.frozen? ⟨g, j, none⟩ = false := by
  unfold World.frozen?
  rw [h]
  simp
theorem add0 (g j : Nat) : (Addr.add ⟨g, 0, none⟩ j) = ⟨g, j, none⟩ := by unfold Addr.add; split <;> simp_all
theorem RowK.ints {w : World} {g c : Nat} {Z : List Nat} (h : RowK w g Z 0) (hc : Z.length ≤ c) (hm : c ≤ maxLen) : Ints w (.slice (some ⟨g, 0, none⟩) Z.length c) Z := by
  obtain ⟨cur, h1, h2, h3, _⟩ := h
  exact .inr ⟨⟨g, 0, none⟩, c, rfl, hc, hm, fun j hj => by rw [add0]; exact cell_cur h1 (h3 j hj (Nat.zero_le _))⟩
theorem RowK.store {w : World} {g k : Nat} {Z : List Nat} (h : RowK w g Z k) (hk : k < Z.length) (v : Value) : RowK (w.setCell ⟨g, k, none⟩ v) g Z (k + 1) ∧ Only g w (w.setCell ⟨g, k, none⟩ v) := by
  obtain ⟨cur, h1, h2, h3, h4, h5, h6⟩ := h
  have ne : ∀ j, j ≠ k → (cur.setIfInBounds k v)[j]? = cur[j]? := fun j hj => Array.getElem?_setIfInBounds_ne (fun h => hj h.symm)
  refine ⟨⟨cur.setIfInBounds k v, heap_setCell_same w g k cur _ v h1, by simpa using h2, fun j hj hkj => ?_, ?_, ?_, ?_⟩, fun B hB => (Below.refl _ _).setCell hB _, by simp, fun j hj => Below.heap_setCell _ _ _ _ hj⟩
  · rw [ne j (by omega)]; exact h3 j hj (by omega)
  · rw [ne _ (by omega)]; exact h4
  · rw [ne _ (by omega)]; exact h5
  · rw [ne _ (by omega)]; exact h6
theorem RowN.store {w : World} {g n : Nat} (h : RowN w g n) (k : Nat) (v : Value) : RowN (w.setCell ⟨g, k, none⟩ v) g n ∧ Only g w (w.setCell ⟨g, k, none⟩ v) := by
  obtain ⟨cur, h1, h2⟩ := h
  exact ⟨⟨cur.setIfInBounds k v, heap_setCell_same w g k cur _ v h1, by simpa using h2⟩, fun B hB => (Below.refl _ _).setCell hB _, by simp, fun j hj => Below.heap_setCell _ _ _ _ hj⟩
theorem Only.trans {b : Nat} {w w' w'' : World} (h : Only b w w') (g : Only b w' w'') : Only b w w'' :=
  ⟨fun B hB => (h.1 B hB).trans (g.1 B hB), by rw [g.2.1, h.2.1], fun k hk => by rw [g.2.2 k hk, h.2.2 k hk]⟩
theorem three_cells (w : World) : ∀ (j : Nat) u, [Value.int .u64 77, .int .u64 78, .int .u64 79][j]? = some u → (w.alloc (.cells #[.int .u64 77, .int .u64 78, .int .u64 79] 22)).cell? (Addr.add ⟨w.heap.size, 0, none⟩ j) = some u := by
  intro j u hu
  match j, hu with
  | 0, hu => rw [add0]; simpa using hu
  | 1, hu => rw [add0]; simpa using hu
  | 2, hu => rw [add0]; simpa using hu
theorem three_one : ∀ u ∈ [Value.int .u64 77, .int .u64 78, .int .u64 79], u.oneCell' = true := by
  intro u hu
  simp only [List.mem_cons, List.not_mem_nil, or_false] at hu
  rcases hu with rfl | rfl | rfl <;> rfl
/-- a row that was made: its numbers, and that its cells are there -/
def LiesN (w : World) (B : Nat) (ao : Option Addr) (Z : List Nat) : Prop :=
  Z = [] ∨ ∃ g, B ≤ g ∧ g < w.heap.size ∧ RowN w g Z.length ∧ ao = some ⟨g, 0, none⟩ ∧ ∀ j (h : j < Z.length), w.cell? ⟨g, j, none⟩ = some (.int .u64 (Z[j] : Nat))
theorem own_rowN {w : World} {B n : Nat} {v : Value} {Z : List Nat} {xs : List Value} (h : w.ownsRow B 22 1 v n xs) (hn : n = Z.length) (hxs : xs = Z.map fun n : Nat => Value.int .u64 n) :
    ∃ ao cp, v = .slice ao Z.length cp ∧ Z.length ≤ cp ∧ cp ≤ maxLen ∧ Kept (LiesN w B ao Z) ∧ Kept (Ints w (.slice ao Z.length cp) Z) := by
  subst hn hxs
  obtain ⟨_, ⟨rfl, h0⟩ | ⟨g, cap, cur, rfl, hg, hh, hc, hm, hs, ht⟩⟩ := h
  · exact ⟨none, 0, by rw [h0], by omega, Nat.zero_le _, .inl (List.length_eq_zero_iff.1 h0), .inl ⟨by rw [h0], List.length_eq_zero_iff.1 h0⟩⟩
  · rw [Nat.mul_one] at ht hs
    have hcell : ∀ j (h : j < Z.length), w.cell? ⟨g, j, none⟩ = some (.int .u64 (Z[j] : Nat)) := by
      intro j hj
      have hj2 : j < cur.size := by omega
      refine cell_cur hh ?_
      have e1 : (cur.toList.take Z.length)[j]? = some cur[j] := by
        rw [List.getElem?_take_of_lt hj, Array.getElem?_toList, Array.getElem?_eq_getElem hj2]
      rw [ht, List.getElem?_map, List.getElem?_eq_getElem hj] at e1
      rw [Array.getElem?_eq_getElem hj2]
      exact e1.symm
    exact ⟨some ⟨g, 0, none⟩, cap, rfl, hc, hm, .inr ⟨g, hg, lt_of_block hh, ⟨cur, hh, by omega⟩, rfl, hcell⟩, .inr ⟨⟨g, 0, none⟩, cap, rfl, hc, hm, fun j hj => by rw [add0]; exact hcell j hj⟩⟩
theorem liesN_block {w3 w4 : World} {A : Nat} {bb : Option Addr} {B : List Nat} (h : LiesN w4 w3.heap.size bb B) (hA : A < w3.heap.size) (hs : w3.heap.size ≤ w4.heap.size) :
    ∃ gb, A ≤ gb ∧ gb < w4.heap.size ∧ (B ≠ [] → RowN w4 gb B.length ∧ bb = some ⟨gb, 0, none⟩ ∧ gb ≠ A) := by
  rcases h with rfl | ⟨g, h1, h2, h3, h4, _⟩
  · exact ⟨A, Nat.le_refl _, by omega, fun h => absurd rfl h⟩
  · exact ⟨g, by omega, h2, fun _ => ⟨h3, h4, by omega⟩⟩
theorem Ints.bel {w w' : World} {v : Value} {Z : List Nat} (h : Ints w v Z) (hb : Below w.heap.size w w') : Ints w' v Z := by
  rcases h with h | ⟨a, cap, rfl, h2, h3, h4⟩
  · exact .inl h
  · refine .inr ⟨a, cap, rfl, h2, h3, fun j hj => ?_⟩
    rw [hb.cell (p := a.add j) (lt_of_cell (h4 j hj))]
    exact h4 j hj
theorem storeOnly (w : World) (g j : Nat) (v : Value) : Only g w (w.setCell ⟨g, j, none⟩ v) :=
  ⟨fun B hB => (Below.refl _ _).setCell hB _, by simp, fun j hj => Below.heap_setCell _ _ _ _ hj⟩
/-- the questions of a script that came in -/
def Steps (w : World) (so : Option Addr) (S : List (Int × Int × Nat)) : Prop :=
  ∀ j (h : j < S.length), ∃ a, so = some a ∧ a.block < w.heap.size ∧ w.cell? (a.add (j * 3)) = some (.int .i64 S[j].1) ∧ w.cell? ⟨(a.add (j * 3)).block, (a.add (j * 3)).off + 1, none⟩ = some (.int .i64 S[j].2.1) ∧ w.cell? ⟨(a.add (j * 3)).block, (a.add (j * 3)).off + 2, none⟩ = some (.int .u64 (S[j].2.2 : Nat))
theorem Steps.bel {w w' : World} {so : Option Addr} {S : List (Int × Int × Nat)} (h : Steps w so S) (hb : Below w.heap.size w w') : Steps w' so S := by
  intro j hj
  obtain ⟨a, e, h1, h2, h3, h4⟩ := h j hj
  have hs := hb.size
  have ha : (a.add (j * 3)).block < w.heap.size := by unfold Addr.add; split <;> exact h1
  exact ⟨a, e, by omega, by rw [hb.cell ha]; exact h2, by rw [hb.cell (p := ⟨(a.add (j * 3)).block, (a.add (j * 3)).off + 1, none⟩) ha]; exact h3, by rw [hb.cell (p := ⟨(a.add (j * 3)).block, (a.add (j * 3)).off + 2, none⟩) ha]; exact h4⟩
set_option maxHeartbeats 2000000 in
set_option maxRecDepth 100000 in
theorem takes_walk (W : World) (ao bo so : Option Addr) (ca cb cs : Nat) (Z B : List Nat) (hZ : Row W ao Z) (hB : Row W bo B) (hI : Ints W (.slice ao Z.length ca) Z) (hJ : Ints W (.slice bo B.length cb) B)
    (hz : ∀ x ∈ Z, (x : Int) ≤ 18446744073709551615) (hy : ∀ x ∈ B, (x : Int) ≤ 18446744073709551615) (S : List (Int × Int × Nat)) (hS : Steps W so S) (hn : S.length * 24 ≤ 140737488351232) (hs : Z.length * 8 ≤ 140737488351232) (ht : B.length * 8 ≤ 140737488351232) :
    Calls Try.prog 4 #[.slice ao Z.length ca, .slice bo B.length cb, .slice so S.length cs] W fun e w' => e = .returned (.bool true) ∧ Below W.heap.size W w' := by
  obtain ⟨i0, hi, hz0, hz1, hz2⟩ := info_parts info_u64
  have nA : ao = none → Z.length = 0 ∧ ca = 0 := by
    intro e
    rcases hI with ⟨h, _⟩ | ⟨a, cap, h, _⟩
    · injection h with h1 h2 h3; exact ⟨h2, h3⟩
    · cases h; cases e
  have nB : bo = none → B.length = 0 ∧ cb = 0 := by
    intro e
    rcases hJ with ⟨h, _⟩ | ⟨a, cap, h, _⟩
    · injection h with h1 h2 h3; exact ⟨h2, h3⟩
    · cases h; cases e
  have cA : ∀ w', Below W.heap.size W w' → ∀ ad, ao = some ad → ∀ j u, (Z.map fun n : Nat => Value.int .u64 n)[j]? = some u → w'.cell? (ad.add j) = some u := fun w' hb ad e => news_of fun j hj => by
    obtain ⟨a', e', _, hc⟩ := hZ.bel hb j hj
    rw [e] at e'; cases e'; exact hc
  have cB : ∀ w', Below W.heap.size W w' → ∀ ad, bo = some ad → ∀ j u, (B.map fun n : Nat => Value.int .u64 n)[j]? = some u → w'.cell? (ad.add j) = some u := fun w' hb ad e => news_of fun j hj => by
    obtain ⟨a', e', _, hc⟩ := hB.bel hb j hj
    rw [e] at e'; cases e'; exact hc
  have hmx : (140737488355328 : Nat) ≤ maxLen := by decide
  go_enter Try.func4, Try.ntmps4
  go_wp2_with (first
    | (at_make; refine wpList_make_own _ rfl _ _ 25 rfl W.heap.size 22 i0 (.int .u64 0) 1 Try.underlying25 hi hz0 hz1 _ _ _ (Z.length + 3) rfl rfl (by omega) (by rw [hz2]; omega) (by omega) (Nat.le_refl _) ?_; intro w1 hown1 hg1; have hb1 := (Below.refl W.heap.size W).grown hg1 (Nat.le_refl _) (fun k hk => by cases hk))
    | (at_builtin; refine wpList_append_fits_any _ rfl (.tmp 22) (.tmp 23) 25 rfl W.heap.size 22 i0 1 Try.underlying25 hi hz1 _ 0 (Z.length + 3) [] rfl hown1 ao Z.length ca (Z.map fun n : Nat => Value.int .u64 n) rfl (by simp) nA (cA w1 hb1) (one_of Z) (by omega) ?_; intro w2 hown2 hg2; have hb2 := hb1.grown hg2 hb1.size (fun k hk => by cases hk; exact Nat.le_refl _))
    | (at_builtin; refine wpList_append_fits _ rfl (.tmp 24) (.tmp 25) 25 rfl W.heap.size 22 i0 1 Try.underlying25 hi hz1 _ Z.length (Z.length + 3) (Z.map fun n : Nat => Value.int .u64 n) rfl (by have h := hown2; simp only [Nat.zero_add, List.nil_append] at h; exact h.alloc _) ⟨w2.heap.size, 0, none⟩ 3 3 [.int .u64 77, .int .u64 78, .int .u64 79] rfl rfl (three_cells w2) three_one (Nat.le_refl _) ?_; intro w3 hown3 hg3; have hb3 := (hb2.alloc hb2.size (.cells #[.int .u64 77, .int .u64 78, .int .u64 79] 22)).grown hg3 (by simp; exact Nat.le_succ_of_le hb2.size) (fun k hk => by cases hk; exact Nat.le_refl _); obtain ⟨rA, gA1, gA2⟩ := rowK_of hown3 rfl; clear hown1 hown2 hown3 hg1 hg2 hg3)
    | (at_builtin; refine wpList_append_any _ rfl (.tmp 30) (.tmp 31) 25 rfl w3.heap.size 22 i0 (.int .u64 0) 1 8 Try.underlying25 hi hz0 hz1 hz2 rfl (by decide) _ 0 [] rfl (owns_empty w3) bo B.length cb (B.map fun n : Nat => Value.int .u64 n) rfl (by simp) nB (cB _ (hb3.alloc hb3.size _)) (one_of B) (by omega) (by omega) (by simp) ?_; intro v4 w4 hown4 hg4; obtain ⟨bb, cp, rfl, h2, h3, hl4, iB⟩ := own_rowN (Z := B) hown4 (by simp) (by simp); have hb4 := (hb3.alloc hb3.size _).grown hg4 (by simp; exact Nat.le_succ_of_le hb3.size) (fun k hk => by cases hk; exact hb3.size); have rA4 := rA.kept (hg4.block _ (by simp; omega) (fun h => by have h2 : some W.heap.size = some w3.heap.size := h; have := Option.some.inj h2; omega) |>.trans (Below.heap_alloc _ _ _ gA2)); clear rA hown4))
  have z4 : W.heap.size < w4.heap.size := by have := hg4.size; simp at this; omega
  obtain ⟨gb, gb1, gb2, gb3⟩ := liesN_block hl4.out gA2 (by have := hg4.size; simp at this; omega)
  clear hg4 hb1 hb2 hb3 hl4 nA nB cA cB gA1 gA2 hi hz0 hz1 hz2
  refine (new_any w4 _ Z (rA4.ints (by omega) (by omega)) (by omega)).mono ?_
  rintro e w5 ⟨s, gs, rfl, hS5, s1, s2, s3, s4, b5⟩
  have z5 := b5.size
  go_wp2_with fail
  refine (new_any w5 _ B (iB.out.bel b5) (by omega)).mono ?_
  rintro e w6 ⟨t, gt, rfl, hT6, t1, t2, t3, t4, b6⟩
  have z6 := b6.size
  have b46 := hb4.trans ((b5.mono hb4.size).trans (b6.mono (by omega)))
  go_wp2_with fail
  refine (rnew_any w6 _ Z (hI.bel b46) (by omega)).mono ?_
  rintro e w7 ⟨m, gm, rfl, hM7, m1, m2, m3, m4, b7⟩
  have z7 := b7.size
  have b47 := b46.trans (b7.mono (by omega))
  go_wp2_with fail
  refine (rnew_any w7 _ B (hJ.bel b47) (by omega)).mono ?_
  rintro e w8 ⟨q, gq, rfl, hQ8, q1, q2, q3, q4, b8⟩
  have z8 := b8.size
  have b48 := b47.trans (b8.mono (by omega))
  have kp5 : ∀ k, k < w5.heap.size → w8.heap[k]? = w5.heap[k]? := fun k hk => by rw [b8.block k (by omega), b7.block k (by omega), b6.block k hk]
  have kp6 : ∀ k, k < w6.heap.size → w8.heap[k]? = w6.heap[k]? := fun k hk => by rw [b8.block k (by omega), b7.block k hk]
  have P1 : Pair w8 s gs m gm Z := ⟨⟨by omega, by omega, by omega⟩, ⟨by omega, by omega, by omega, by omega⟩, hz, Z, 0, hS5.kept (kp5 _ s2) (kp5 _ s4), hM7.kept (b8.block _ m2) (b8.block _ m4), rfl⟩
  have P2 : Pair w8 t gt q gq B := ⟨⟨by omega, by omega, by omega⟩, ⟨by omega, by omega, by omega, by omega⟩, hy, B, 0, hT6.kept (kp6 _ t2) (kp6 _ t4), hQ8, rfl⟩
  have rA8 : RowK w8 W.heap.size Z 0 := rA4.kept (by rw [kp5 _ (by omega), b5.block _ z4])
  have rB8 : B ≠ [] → RowN w8 gb B.length ∧ bb = some ⟨gb, 0, none⟩ ∧ gb ≠ W.heap.size := fun h => ⟨(gb3 h).1.kept (by rw [kp5 _ (by omega), b5.block _ gb2]), (gb3 h).2⟩
  clear hS5 hT6 hM7 hQ8 kp5 kp6 rA4 gb3 iB b5 b6 b7 b8 b46 b47 hI hJ hB
  go_wp2_with fail
  refine (nnext_any _).mono ?_
  rintro e w' ⟨rfl, rfl⟩
  go_wp2_with fail
  refine (nbelow_any _).mono ?_
  rintro e w' ⟨rfl, rfl⟩
  go_wp2_with fail
  refine (nleft_any _).mono ?_
  rintro e w9 ⟨rfl, rfl⟩
  have kP1 := keep P1
  have kP2 := keep P2
  have kA := keep rA8
  have kB := keep rB8
  have kZ := keep hZ
  have kS := keep hS
  have kb := keep b48
  have sb1 : w4.heap.size ≤ s ∧ w4.heap.size ≤ gs ∧ w4.heap.size ≤ t ∧ w4.heap.size ≤ gt ∧ w4.heap.size ≤ m ∧ w4.heap.size ≤ gm ∧ w4.heap.size ≤ q ∧ w4.heap.size ≤ gq := ⟨by omega, by omega, by omega, by omega, by omega, by omega, by omega, by omega⟩
  have ds : (t ≠ s ∧ gt ≠ s ∧ q ≠ s ∧ gq ≠ s ∧ t ≠ m ∧ gt ≠ m ∧ q ≠ m ∧ gq ≠ m) ∧ (s ≠ t ∧ gs ≠ t ∧ m ≠ t ∧ gm ≠ t ∧ s ≠ q ∧ gs ≠ q ∧ m ≠ q ∧ gm ≠ q) := ⟨⟨by omega, by omega, by omega, by omega, by omega, by omega, by omega, by omega⟩, by omega, by omega, by omega, by omega, by omega, by omega, by omega, by omega⟩
  have ksb := keep sb1
  have kds := keep ds
  clear P1 P2 rA8 rB8 hZ hS b48 sb1 ds hz hy hb4 s1 s2 s3 s4 t1 t2 t3 t4 m1 m2 m3 m4 q1 q2 q3 q4 z5 z6 z7 z8
  go_wp2
  go_loopw [64] (fun i wx => ∃ k : Nat, k ≤ Z.length ∧ i = .int .i64 k ∧ Kept (RowK wx W.heap.size Z k) ∧ Kept (Only W.heap.size w9 wx)) (fun i _ => Z.length - (intOf i).toNat)
  case atStart => exact ⟨0, by omega, rfl, kA, Only.refl _ _⟩
  case round =>
    clear kA
    obtain ⟨k, hk, rfl, kA, kO⟩ := hrel
    by_cases c1 : k < Z.length
    · obtain ⟨a, rfl, ha, hc⟩ := kZ.out.bel kb.out k c1
      obtain ⟨a', e', ha', _⟩ := kZ.out k c1
      cases e'
      have hcA : wr.cell? (a.add k) = some (.int .u64 (Z[k] : Nat)) := by
        rw [World.cell?_of_block (w := w9) (a := a.add k) (kO.out.2.2 _ (by rw [show (a.add k).block = a.block by unfold Addr.add; split <;> rfl]; omega))]
        exact hc
      have hcB : wr.cell? ⟨W.heap.size, k, none⟩ = some (.int .u64 (Z[k] : Nat)) := by
        obtain ⟨cur, h1, _, h3, _⟩ := kA.out
        exact cell_cur h1 (h3 k c1 (Nat.le_refl _))
      have hfB : wr.frozen? ⟨W.heap.size, k, none⟩ = false := by
        obtain ⟨cur, h1, _⟩ := kA.out
        exact free_cur h1
      generalize Z[k] = x at hcA hcB
      clear hc
      go_wp2
      go_quiet (fail)
      go_wp2
      go_roundw
      case rel => exact ⟨k + 1, by omega, by go_num, ((kA.out.kept (w' := wr.drewN _) rfl).store c1 _).1, kO.out.trans ((Only.drewN wr _).trans (storeOnly _ _ _ _))⟩
      case measure => simp [intOf]; omega
    · obtain ⟨cur, e1, e2, e3, e4, e5, e6⟩ := kA.out
      have h77 := cell_cur e1 e4
      have h78 := cell_cur e1 e5
      have h79 := cell_cur e1 e6
      have kP1' : Kept (Pair wr s gs m gm Z) := kP1.out.kept (by rw [kO.out.2.1]; exact Nat.le_refl _) (fun j _ hj => kO.out.2.2 j (by have := ksb.out; omega))
      have kP2' : Kept (Pair wr t gt q gq B) := kP2.out.kept (by rw [kO.out.2.1]; exact Nat.le_refl _) (fun j _ hj => kO.out.2.2 j (by have := ksb.out; omega))
      have kB' : Kept (B ≠ [] → RowN wr gb B.length ∧ bb = some ⟨gb, 0, none⟩) := fun h => ⟨(kB.out h).1.kept (kO.out.2.2 _ (kB.out h).2.2), (kB.out h).2.1⟩
      have kb' : Kept (Below W.heap.size W wr) := kb.out.trans (kO.out.1 _ (Nat.le_refl _))
      clear e1 e2 e3 e4 e5 e6 kP1 kP2 kB kb kA kO kZ cur
      go_wp2
      obtain ⟨wo, hwo⟩ : ∃ x, x = wr := ⟨_, rfl⟩
      subst hwo
      go_loopw [111] (fun i wx => ∃ k : Nat, k ≤ B.length ∧ i = .int .i64 k ∧ Kept (B ≠ [] → RowN wx gb B.length ∧ bb = some ⟨gb, 0, none⟩) ∧ Kept (Only gb wo wx)) (fun i _ => B.length - (intOf i).toNat)
      case atStart => exact ⟨0, by omega, rfl, kB', Only.refl _ _⟩
      case round =>
        clear kB' h77 h78 h79 c1 hk
        obtain ⟨k, hk, rfl, kB, kO⟩ := hrel
        by_cases c1 : k < B.length
        · obtain ⟨rB, rfl⟩ := kB.out (by intro e; subst e; simp at c1)
          have hcB : ∃ v, wr.cell? ⟨gb, k, none⟩ = some v := by
            obtain ⟨cur, h1, h2⟩ := rB
            exact ⟨_, cell_cur h1 (Array.getElem?_eq_getElem (by omega))⟩
          have hfB : wr.frozen? ⟨gb, k, none⟩ = false := by
            obtain ⟨cur, h1, h2⟩ := rB
            exact free_cur h1
          obtain ⟨v, hcB⟩ := hcB
          have kR := keep rB
          clear rB
          go_wp2
          go_roundw
          case rel => exact ⟨k + 1, by omega, by go_num, fun _ => ⟨(kR.out.store k _).1, trivial⟩, kO.out.trans (storeOnly _ _ _ _)⟩
          case measure => simp [intOf]; omega
        · have kP1 : Kept (Pair wr s gs m gm Z) := kP1'.out.kept (by rw [kO.out.2.1]; exact Nat.le_refl _) (fun j _ hj => kO.out.2.2 j (by have := ksb.out; omega))
          have kP2 : Kept (Pair wr t gt q gq B) := kP2'.out.kept (by rw [kO.out.2.1]; exact Nat.le_refl _) (fun j _ hj => kO.out.2.2 j (by have := ksb.out; omega))
          have kb : Kept (Below W.heap.size W wr) := kb'.out.trans (kO.out.1 _ gb1)
          have kz : Kept (W.heap.size ≤ s ∧ W.heap.size ≤ m ∧ W.heap.size ≤ t ∧ W.heap.size ≤ q) := ⟨by have := ksb.out; omega, by have := ksb.out; omega, by have := ksb.out; omega, by have := ksb.out; omega⟩
          clear kP1' kP2' kb' kB kO ksb gb1 gb2 h2 h3 z4
          go_wp2
          clear hk c1
          obtain ⟨wp, hwp⟩ : ∃ x, x = wr := ⟨_, rfl⟩
          subst hwp
          go_loopw [120] (fun i wx => ∃ k : Nat, k ≤ S.length ∧ i = .int .i64 k ∧ Kept (Pair wx s gs m gm Z) ∧ Kept (Pair wx t gt q gq B) ∧ Kept (Below W.heap.size W wx)) (fun i _ => S.length - (intOf i).toNat)
          case atStart => exact ⟨0, by omega, rfl, kP1, kP2, kb⟩
          case round =>
            clear kP1 kP2 kb
            obtain ⟨k, hk, rfl, kP1, kP2, kb⟩ := hrel
            by_cases c1 : k < S.length
            · obtain ⟨a, rfl, ha, e0, e1, e2⟩ := kS.out.bel kb.out k c1
              generalize S[k] = st at e0 e1 e2
              obtain ⟨who, op, nn⟩ := st
              dsimp only at e0 e1 e2
              clear ha
              have kP1n : Kept (Pair (wr.alloc (.cells #[.int .i64 who, .int .i64 op, .int .u64 (nn : Nat)] 35)) s gs m gm Z) := kP1.out.kept (by simp) (fun j hj _ => Below.heap_alloc _ _ _ hj)
              have kP2n : Kept (Pair (wr.alloc (.cells #[.int .i64 who, .int .i64 op, .int .u64 (nn : Nat)] 35)) t gt q gq B) := kP2.out.kept (by simp) (fun j hj _ => Below.heap_alloc _ _ _ hj)
              have kbn : Kept (Below W.heap.size W (wr.alloc (.cells #[.int .i64 who, .int .i64 op, .int .u64 (nn : Nat)] 35))) := kb.out.alloc kb.out.size _
              have hcw : ∀ x y, (x < wr.heap.size ∧ y < wr.heap.size) → ∀ w', Two x y (wr.alloc (.cells #[.int .i64 who, .int .i64 op, .int .u64 (nn : Nat)] 35)) w' → w'.cell? ⟨wr.heap.size, 0, none⟩ = some (.int .i64 who) := by
                intro x y hxy w' ho
                rw [World.cell?_of_block (w := wr.alloc (.cells #[.int .i64 who, .int .i64 op, .int .u64 (nn : Nat)] 35)) (a := ⟨wr.heap.size, 0, none⟩) (ho.2 _ (by simp) (by show wr.heap.size ≠ x; omega) (by show wr.heap.size ≠ y; omega))]
                simp
              have hlt := keep kP1.out.2.1
              have hlt2 := keep kP2.out.2.1
              have kcw := keep hcw
              clear kP1 kP2 kb kS hcw
              by_cases c2 : who = 0
              · subst c2
                go_wp2_with fail
                refine (asks_any _ s gs m gm Z _ _ _ kP1n.out).mono ?_
                rintro e w2 ⟨rfl, hp, ht2⟩
                have hcc := kcw.out s m ⟨hlt.out.1, hlt.out.2.2.1⟩ w2 ht2
                have kp := keep hp
                have kt := keep ht2
                clear hp ht2 kcw
                go_wp2
                go_roundw
                case rel => exact ⟨k + 1, by omega, by go_num, kp, kP2n.out.kept kt.out.size (fun j hj hjj => kt.out.2 j hj (by have := kds.out; omega) (by have := kds.out; omega)), kbn.out.trans (kt.out.1 _ kz.out.1 kz.out.2.1 kbn.out.size)⟩
                case measure => simp [intOf]; omega
              · have c3 : (who == 0) = false := beq_eq_false_iff_ne.2 c2
                have c4 : (who != 0) = true := bne_iff_ne.2 c2
                go_wp2_with fail
                refine (asks_any _ t gt q gq B _ _ _ kP2n.out).mono ?_
                rintro e w2 ⟨rfl, hp, ht2⟩
                have hcc := kcw.out t q ⟨hlt2.out.1, hlt2.out.2.2.1⟩ w2 ht2
                have kp := keep hp
                have kt := keep ht2
                clear hp ht2 kcw
                go_wp2
                go_roundw
                case rel => exact ⟨k + 1, by omega, by go_num, kP1n.out.kept kt.out.size (fun j hj hjj => kt.out.2 j hj (by have := kds.out; omega) (by have := kds.out; omega)), kp, kbn.out.trans (kt.out.1 _ kz.out.2.2.1 kz.out.2.2.2 kbn.out.size)⟩
                case measure => simp [intOf]; omega
            · obtain ⟨_, _, _, L, u, l1, l2, l3⟩ := kP1.out
              obtain ⟨_, _, _, L', u', l1', l2', l3'⟩ := kP2.out
              subst l3 l3'
              have mL := left_any _ s gs _ l1
              have mR := rleft_any _ m gm u Z l2
              have mL' := fun n => left_any (wr.drewN n) t gt _ (l1'.kept rfl rfl)
              have mR' := fun n => rleft_any (wr.drewN n) q gq u' B (l2'.kept rfl rfl)
              clear l1 l2 l1' l2' kP1 kP2 kS
              generalize ((Z.drop u).length : Int) = x at *
              generalize ((B.drop u').length : Int) = y at *
              go_wp2_with fail
              refine mL.mono ?_
              rintro e w' ⟨rfl, rfl⟩
              go_wp2_with fail
              refine mR.mono ?_
              rintro e w' ⟨rfl, n1, rfl⟩
              go_wp2_with fail
              refine (mL' _).mono ?_
              rintro e w' ⟨rfl, rfl⟩
              go_wp2_with fail
              refine (mR' _).mono ?_
              rintro e w' ⟨rfl, n2, rfl⟩
              go_wp2
              go_ret
              exact ⟨rfl, kb.out.trans ⟨rfl, rfl, rfl, Nat.le_refl _, fun _ _ => rfl⟩⟩
end Go.Proofs.Ytghjdnpohbhohaa
