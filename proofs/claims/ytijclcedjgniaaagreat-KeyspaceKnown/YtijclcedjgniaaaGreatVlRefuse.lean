/-
  Contracts over this program: why no value is made of plain data.
-/
import Derived.Test.YtijclcedjgniaaaGreatVlPlain
import Derived.Test.YtijclcedjgniaaaGreatVlCalls
import Derived.Maps.OwnSet
import Derived.Maps.OwnIn
import Derived.Maps.Views
import Derived.Test.YtijclcedjgniaaaGreatVlTwin
/-
  Contracts over this program: plain data that has what its kind has no use for.
-/
namespace Go.Proofs.YtijclcedjgniaaaGreat
open Go.RowKit Go.Shelf
set_option linter.unusedVariables false
set_option linter.unusedSimpArgs false
set_option maxRecDepth 100000
namespace Vl
theorem tx_empty (t : ByteArray) : t.toList.isEmpty = true ↔ t.size = 0 := by
  rw [List.isEmpty_iff, ← List.length_eq_zero_iff]
  rw [ByteArray.toList_eq]
  rfl
theorem fit_iff {kd : Int} {tx : ByteArray} {is : List ByteArray} {ps : List (ByteArray × ByteArray)} {rs : List (ByteArray × Nat)} {n1 n2 n3 : Nat} (h1 : is.length = n1) (h2 : ps.length = n2) (h3 : rs.length = n3) :
    Fit ⟨kd, tx, is, ps, rs⟩ ↔ (kd = 1 ∧ n1 = 0 ∧ n2 = 0 ∧ n3 = 0) ∨ ((kd = 2 ∨ kd = 4) ∧ tx.size = 0 ∧ n2 = 0 ∧ n3 = 0) ∨ (kd = 3 ∧ tx.size = 0 ∧ n1 = 0 ∧ n3 = 0) ∨ (kd = 5 ∧ tx.size = 0 ∧ n1 = 0 ∧ n2 = 0) := by
  unfold Fit
  rw [← h1, ← h2, ← h3, List.length_eq_zero_iff, List.length_eq_zero_iff, List.length_eq_zero_iff]
def Str (d : Dt) (r : Ending) : Prop := ∃ q : Bool, r = .returned (.bool q) ∧ (q = true ↔ ¬ Fit d)
set_option maxHeartbeats 2000000 in
theorem stray_any (w : World) (V : Value) (d : Dt) (h : Pln w V d) :
    Calls Tryz.prog 123 #[V] w fun r w' => Str d r ∧ Below w.heap.size w w' := by
  obtain ⟨iv, pv, rv, rfl, a1, a2, a3⟩ := h
  obtain ⟨io, ic, rfl⟩ := own_sl a1
  obtain ⟨po, pc, rfl⟩ := own_sl a2
  obtain ⟨ro, rc, rfl⟩ := own_sl a3
  have hm1 := own_max a1
  have hm2 := own_max a2
  have hm3 := own_max a3
  unfold maxLen at hm1 hm2 hm3
  obtain ⟨kd, tx, is, ps, rs⟩ := d
  unfold plV
  dsimp only at *
  obtain ⟨n1, h1⟩ : ∃ n, is.length = n := ⟨_, rfl⟩
  obtain ⟨n2, h2⟩ : ∃ n, ps.length = n := ⟨_, rfl⟩
  obtain ⟨n3, h3⟩ : ∃ n, rs.length = n := ⟨_, rfl⟩
  rw [h1] at hm1
  rw [h2] at hm2
  rw [h3] at hm3
  rw [h1, h2, h3]
  have H1 := keep h1
  have H2 := keep h2
  have H3 := keep h3
  obtain ⟨W1, hW1⟩ : ∃ W1, w.alloc (.cells #[.int .i64 kd, .string tx, .slice io n1 ic, .slice po n2 pc, .slice ro n3 rc] 43) = W1 := ⟨_, rfl⟩
  have HB : Kept (Below w.heap.size w W1) := by rw [← hW1]; exact (Below.refl _ w).alloc (Nat.le_refl _) _
  have HW := keep hW1
  clear a1 a2 a3 h1 h2 h3 hW1
  rcases Decidable.em (tx.size = 0) with ht | ht
  · have hte : tx.toList.isEmpty = true := (tx_empty tx).2 ht
    have HT := keep ht
    clear ht
    by_cases hk1 : kd = 1
    · subst hk1
      have hto := HT.out
      clear HT
      have HT := keep hto
      clear hto
      go_enter Tryz.func123, Tryz.ntmps123
      go_wp2
      all_goals
        go_ret
        refine ⟨⟨_, rfl, ?_⟩, by first | exact (Below.refl _ w).alloc (Nat.le_refl _) _ | exact HB.out⟩
        rw [fit_iff H1.out H2.out H3.out]
        have hto := HT.out
        first | omega | (simp only [decide_eq_true_eq]; omega) | (simp [*]; done) | (simp; omega) | (simp [*]; omega)
    by_cases hk2 : kd = 2
    · subst hk2
      have hto := HT.out
      clear HT
      have HT := keep hto
      clear hto
      go_enter Tryz.func123, Tryz.ntmps123
      go_wp2
      all_goals
        go_ret
        refine ⟨⟨_, rfl, ?_⟩, by first | exact (Below.refl _ w).alloc (Nat.le_refl _) _ | exact HB.out⟩
        rw [fit_iff H1.out H2.out H3.out]
        have hto := HT.out
        first | omega | (simp only [decide_eq_true_eq]; omega) | (simp [*]; done) | (simp; omega) | (simp [*]; omega)
    by_cases hk3 : kd = 3
    · subst hk3
      have hto := HT.out
      clear HT
      have HT := keep hto
      clear hto
      go_enter Tryz.func123, Tryz.ntmps123
      go_wp2
      all_goals
        go_ret
        refine ⟨⟨_, rfl, ?_⟩, by first | exact (Below.refl _ w).alloc (Nat.le_refl _) _ | exact HB.out⟩
        rw [fit_iff H1.out H2.out H3.out]
        have hto := HT.out
        first | omega | (simp only [decide_eq_true_eq]; omega) | (simp [*]; done) | (simp; omega) | (simp [*]; omega)
    by_cases hk4 : kd = 4
    · subst hk4
      have hto := HT.out
      clear HT
      have HT := keep hto
      clear hto
      go_enter Tryz.func123, Tryz.ntmps123
      go_wp2
      all_goals
        go_ret
        refine ⟨⟨_, rfl, ?_⟩, by first | exact (Below.refl _ w).alloc (Nat.le_refl _) _ | exact HB.out⟩
        rw [fit_iff H1.out H2.out H3.out]
        have hto := HT.out
        first | omega | (simp only [decide_eq_true_eq]; omega) | (simp [*]; done) | (simp; omega) | (simp [*]; omega)
    by_cases hk5 : kd = 5
    · subst hk5
      have hto := HT.out
      clear HT
      have HT := keep hto
      clear hto
      go_enter Tryz.func123, Tryz.ntmps123
      go_wp2
      all_goals
        go_ret
        refine ⟨⟨_, rfl, ?_⟩, by first | exact (Below.refl _ w).alloc (Nat.le_refl _) _ | exact HB.out⟩
        rw [fit_iff H1.out H2.out H3.out]
        have hto := HT.out
        first | omega | (simp only [decide_eq_true_eq]; omega) | (simp [*]; done) | (simp; omega) | (simp [*]; omega)
    go_enter Tryz.func123, Tryz.ntmps123
    go_wp2
    all_goals
      go_ret
      refine ⟨⟨_, rfl, ?_⟩, by first | exact (Below.refl _ w).alloc (Nat.le_refl _) _ | exact HB.out⟩
      rw [fit_iff H1.out H2.out H3.out]
      have hto := HT.out
      first | omega | (simp only [decide_eq_true_eq]; omega) | (simp [*]; done) | (simp; omega) | (simp [*]; omega)
  · have hte : tx.toList.isEmpty = false := by
      cases e : tx.toList.isEmpty
      · rfl
      · exact absurd ((tx_empty tx).1 e) ht
    have HT := keep ht
    clear ht
    by_cases hk1 : kd = 1
    · subst hk1
      have hto := HT.out
      clear HT
      have HT := keep hto
      clear hto
      go_enter Tryz.func123, Tryz.ntmps123
      go_wp2
      all_goals
        go_ret
        refine ⟨⟨_, rfl, ?_⟩, by first | exact (Below.refl _ w).alloc (Nat.le_refl _) _ | exact HB.out⟩
        rw [fit_iff H1.out H2.out H3.out]
        have hto := HT.out
        first | omega | (simp only [decide_eq_true_eq]; omega) | (simp [*]; done) | (simp; omega) | (simp [*]; omega)
    by_cases hk2 : kd = 2
    · subst hk2
      have hto := HT.out
      clear HT
      have HT := keep hto
      clear hto
      go_enter Tryz.func123, Tryz.ntmps123
      go_wp2
      all_goals
        go_ret
        refine ⟨⟨_, rfl, ?_⟩, by first | exact (Below.refl _ w).alloc (Nat.le_refl _) _ | exact HB.out⟩
        rw [fit_iff H1.out H2.out H3.out]
        have hto := HT.out
        first | omega | (simp only [decide_eq_true_eq]; omega) | (simp [*]; done) | (simp; omega) | (simp [*]; omega)
    by_cases hk3 : kd = 3
    · subst hk3
      have hto := HT.out
      clear HT
      have HT := keep hto
      clear hto
      go_enter Tryz.func123, Tryz.ntmps123
      go_wp2
      all_goals
        go_ret
        refine ⟨⟨_, rfl, ?_⟩, by first | exact (Below.refl _ w).alloc (Nat.le_refl _) _ | exact HB.out⟩
        rw [fit_iff H1.out H2.out H3.out]
        have hto := HT.out
        first | omega | (simp only [decide_eq_true_eq]; omega) | (simp [*]; done) | (simp; omega) | (simp [*]; omega)
    by_cases hk4 : kd = 4
    · subst hk4
      have hto := HT.out
      clear HT
      have HT := keep hto
      clear hto
      go_enter Tryz.func123, Tryz.ntmps123
      go_wp2
      all_goals
        go_ret
        refine ⟨⟨_, rfl, ?_⟩, by first | exact (Below.refl _ w).alloc (Nat.le_refl _) _ | exact HB.out⟩
        rw [fit_iff H1.out H2.out H3.out]
        have hto := HT.out
        first | omega | (simp only [decide_eq_true_eq]; omega) | (simp [*]; done) | (simp; omega) | (simp [*]; omega)
    by_cases hk5 : kd = 5
    · subst hk5
      have hto := HT.out
      clear HT
      have HT := keep hto
      clear hto
      go_enter Tryz.func123, Tryz.ntmps123
      go_wp2
      all_goals
        go_ret
        refine ⟨⟨_, rfl, ?_⟩, by first | exact (Below.refl _ w).alloc (Nat.le_refl _) _ | exact HB.out⟩
        rw [fit_iff H1.out H2.out H3.out]
        have hto := HT.out
        first | omega | (simp only [decide_eq_true_eq]; omega) | (simp [*]; done) | (simp; omega) | (simp [*]; omega)
    go_enter Tryz.func123, Tryz.ntmps123
    go_wp2
    all_goals
      go_ret
      refine ⟨⟨_, rfl, ?_⟩, by first | exact (Below.refl _ w).alloc (Nat.le_refl _) _ | exact HB.out⟩
      rw [fit_iff H1.out H2.out H3.out]
      have hto := HT.out
      first | omega | (simp only [decide_eq_true_eq]; omega) | (simp [*]; done) | (simp; omega) | (simp [*]; omega)
end Vl
end Go.Proofs.YtijclcedjgniaaaGreat

/-
  Contracts over this program: which texts are too long, which scores are none, and whether one of a row is such a one.
-/
namespace Go.Proofs.YtijclcedjgniaaaGreat
open Go.RowKit Go.Shelf
set_option linter.unusedVariables false
set_option linter.unusedSimpArgs false
set_option maxRecDepth 100000
namespace Vl
def Sme {α : Type} (p : α → Bool) (l : List α) : Prop := ∃ x ∈ l, p x = true
def lng (s : ByteArray) : Bool := decide ((1048576 : Int) < (s.size : Int))
theorem lng_iff (s : ByteArray) : lng s = true ↔ 1048576 < s.size := by unfold lng; rw [decide_eq_true_eq]; omega
def lngP (e : ByteArray × ByteArray) : Bool := lng e.1 || lng e.2
def lngM (e : ByteArray × Nat) : Bool := lng e.1
def nanM (e : ByteArray × Nat) : Bool := isNan e.2
set_option maxHeartbeats 400000 in
theorem longtext_any (s : ByteArray) (hs : s.size ≤ maxLen) (w : World) : Calls Tryz.prog 203 #[.string s] w fun e w' => e = .returned (.bool (lng s)) ∧ Below w.heap.size w w' := by
  unfold maxLen at hs
  go_enter Tryz.func203, Tryz.ntmps203
  go_wp2
  go_ret
  exact ⟨rfl, Below.refl _ _⟩
set_option maxHeartbeats 400000 in
theorem longpair_any (e : ByteArray × ByteArray) (h1 : e.1.size ≤ maxLen) (h2 : e.2.size ≤ maxLen) (w : World) : Calls Tryz.prog 205 #[.agg #[.string e.1, .string e.2]] w fun r w' => r = .returned (.bool (lngP e)) ∧ Below w.heap.size w w' := by
  obtain ⟨e1, e2⟩ := e
  dsimp only at h1 h2 ⊢
  have m1 := longtext_any e1 h1
  have m2 := longtext_any e2 h2
  unfold lngP
  dsimp only
  have hb0 : Below w.heap.size w (w.alloc (.cells #[.string e1, .string e2] 211)) := (Below.refl _ w).alloc (Nat.le_refl _) _
  clear h1 h2
  cases hl : lng e1
  · rw [hl] at m1
    go_enter Tryz.func205, Tryz.ntmps205
    go_wp2_with fail
    refine (m1 _).mono ?_
    rintro _ w1 ⟨rfl, hb1⟩
    have c1 : w1.cell? ⟨w.heap.size, 1, none⟩ = some (.string e2) := by
      rw [hb1.cell (p := ⟨w.heap.size, 1, none⟩) (by simp)]
      rw [cell_of_row _ _ _ _ _ _ (heap_alloc_new _ _)]; rfl
    replace hb1 := hb0.trans (hb1.mono hb0.size)
    clear hb0
    go_wp2_with fail
    refine (m2 _).mono ?_
    rintro _ w2 ⟨rfl, hb2⟩
    replace hb2 := hb1.trans (hb2.mono hb1.size)
    clear hb1 c1
    go_wp2
    go_ret
    exact ⟨by simp, hb2⟩
  · rw [hl] at m1
    go_enter Tryz.func205, Tryz.ntmps205
    go_wp2_with fail
    refine (m1 _).mono ?_
    rintro _ w1 ⟨rfl, hb1⟩
    replace hb1 := hb0.trans (hb1.mono hb0.size)
    clear hb0
    go_wp2
    go_ret
    exact ⟨by simp, hb1⟩
set_option maxHeartbeats 400000 in
theorem longrank_any (e : ByteArray × Nat) (h1 : e.1.size ≤ maxLen) (w : World) : Calls Tryz.prog 206 #[.agg #[.string e.1, .float .f64 e.2]] w fun r w' => r = .returned (.bool (lngM e)) ∧ Below w.heap.size w w' := by
  obtain ⟨e1, e2⟩ := e
  dsimp only at h1 ⊢
  have m1 := longtext_any e1 h1
  unfold lngM
  have hb0 : Below w.heap.size w (w.alloc (.cells #[.string e1, .float .f64 e2] 158)) := (Below.refl _ w).alloc (Nat.le_refl _) _
  clear h1
  go_enter Tryz.func206, Tryz.ntmps206
  go_wp2_with fail
  refine (m1 _).mono ?_
  rintro _ w1 ⟨rfl, hb1⟩
  replace hb1 := hb0.trans (hb1.mono hb0.size)
  clear hb0
  go_wp2
  go_ret
  exact ⟨rfl, hb1⟩
set_option maxHeartbeats 400000 in
theorem noscore_any (e : ByteArray × Nat) (w : World) : Calls Tryz.prog 126 #[.agg #[.string e.1, .float .f64 e.2]] w fun r w' => r = .returned (.bool (nanM e)) ∧ Below w.heap.size w w' := by
  obtain ⟨e1, e2⟩ := e
  unfold nanM
  have hb0 : Below w.heap.size w (w.alloc (.cells #[.string e1, .float .f64 e2] 158)) := (Below.refl _ w).alloc (Nat.le_refl _) _
  go_enter Tryz.func126, Tryz.ntmps126
  go_wp2_with fail
  refine (isnan_any _ _).mono ?_
  rintro _ w1 ⟨rfl, rfl⟩
  go_wp2
  go_ret
  exact ⟨rfl, hb0⟩
set_option maxHeartbeats 1000000 in
theorem index_texts (w : World) (v : Value) (l : List (ByteArray)) (hR : It w v l) (m : ∀ x ∈ l, ∀ w' : World, Calls Tryz.prog 203 #[.string x] w' fun r w'' => r = .returned (.bool (lng x)) ∧ Below w'.heap.size w' w'') :
    Calls Tryz.prog 223 #[v, .func (.func 203) #[] #[]] w fun r w' => (∃ z : Int, r = .returned (.int .i64 z) ∧ (0 ≤ z ↔ Sme lng l)) ∧ Below w.heap.size w w' := by
  have hmx := own_max hR
  unfold maxLen at hmx
  obtain ⟨ao, ca, rfl⟩ := own_sl hR
  obtain ⟨L, hL⟩ : ∃ L, l.length = L := ⟨_, rfl⟩
  have HM := keep m
  have HR := keep hR
  have HL := keep hL
  rw [hL] at hmx HR ⊢
  clear hR hL m
  go_enter Tryz.func223, Tryz.ntmps223
  go_wp2
  go_loopw [8] (fun i wr => ∃ k : Nat, k ≤ L ∧ i = .int .i64 k ∧ Kept (∀ j x, j < k → l[j]? = some x → lng x = false) ∧ Kept (Below w.heap.size w wr)) (fun i _ => L - (intOf i).toNat)
  case atStart => exact ⟨0, Nat.zero_le _, rfl, fun j x h => absurd h (Nat.not_lt_zero _), Below.refl _ _⟩
  case round =>
    obtain ⟨k, hk, rfl, KF, KB⟩ := hrel
    by_cases hlt : k < L
    · have hz : (k : Int) < (L : Int) := by omega
      have hz0 : (0 : Int) ≤ (k : Int) := by omega
      have KW : IntKind.i64.wrap ((k : Int) + 1) = ((k + 1 : Nat) : Int) := by rw [IntKind.wrap_i64]; omega
      obtain ⟨x, hx⟩ : ∃ x, l[k]? = some x := ⟨_, List.getElem?_eq_getElem (by rw [HL.out]; exact hlt)⟩
      have hmem := List.mem_of_getElem? hx
      have mF := HM.out x hmem wr
      have HX := keep hx
      have HMEM := keep hmem
      obtain ⟨g, rfl, hg⟩ : ∃ g, ao = some ⟨g, 0, none⟩ ∧ g < w.heap.size := by
        have h1 := HR.out
        unfold It at h1
        rw [HL.out] at h1
        exact own_some h1 (by omega)
      have c1 : wr.cell? ⟨g, k, none⟩ = some (.string x) := (KB.out.cell (p := ⟨g, k, none⟩) hg).trans (It.at HR.out hx)
      clear hx hmem
      cases hp : lng x
      · rw [hp] at mF
        have HP := keep hp
        clear hp
        go_wp2_with fail
        refine mF.mono ?_
        rintro _ w1 ⟨rfl, hb1⟩
        have KB1 := keep (KB.out.trans (hb1.mono KB.out.size))
        clear hb1 mF c1
        go_wp2
        go_roundw
        case measure => simp [intOf]; omega
        case rel =>
          refine ⟨k + 1, by omega, by go_num, fun j y hj hy => ?_, KB1.out⟩
          rcases Nat.lt_succ_iff_lt_or_eq.1 hj with h | h
          · exact KF.out j y h hy
          · subst h
            rw [HX.out] at hy
            cases hy
            exact HP.out
      · rw [hp] at mF
        have HP := keep hp
        clear hp
        go_wp2_with fail
        refine mF.mono ?_
        rintro _ w1 ⟨rfl, hb1⟩
        have KB1 := keep (KB.out.trans (hb1.mono KB.out.size))
        clear hb1 mF c1
        go_wp2
        go_ret
        exact ⟨⟨_, rfl, fun _ => ⟨_, HMEM.out, HP.out⟩, fun _ => hz0⟩, KB1.out⟩
    · have hz : ¬ (k : Int) < (L : Int) := by omega
      go_wp2
      go_ret
      refine ⟨⟨_, rfl, fun h => absurd h (by decide), ?_⟩, KB.out⟩
      rintro ⟨x, hx, hp⟩
      obtain ⟨j, hj, e⟩ := List.mem_iff_getElem.1 hx
      have := KF.out j x (by have := HL.out; omega) (by rw [List.getElem?_eq_getElem hj, e])
      rw [hp] at this; cases this
set_option maxHeartbeats 400000 in
theorem some_texts (w : World) (v : Value) (l : List (ByteArray)) (hR : It w v l) (m : ∀ x ∈ l, ∀ w' : World, Calls Tryz.prog 203 #[.string x] w' fun r w'' => r = .returned (.bool (lng x)) ∧ Below w'.heap.size w' w'') :
    Calls Tryz.prog 156 #[v, .func (.func 203) #[] #[]] w fun r w' => (∃ q, r = .returned (.bool q) ∧ (q = true ↔ Sme lng l)) ∧ Below w.heap.size w w' := by
  have mI := index_texts w v l hR m
  clear m hR
  go_enter Tryz.func156, Tryz.ntmps156
  go_wp2_with fail
  refine mI.mono ?_
  rintro _ w1 ⟨⟨z, rfl, hz⟩, hb⟩
  have HZ := keep hz
  clear hz mI
  go_wp2
  go_ret
  exact ⟨⟨_, rfl, by rw [decide_eq_true_eq]; exact HZ.out⟩, hb⟩
set_option maxHeartbeats 1000000 in
theorem index_pairs (w : World) (v : Value) (l : List (ByteArray × ByteArray)) (hR : Pr w v l) (m : ∀ x ∈ l, ∀ w' : World, Calls Tryz.prog 205 #[.agg #[.string x.1, .string x.2]] w' fun r w'' => r = .returned (.bool (lngP x)) ∧ Below w'.heap.size w' w'') :
    Calls Tryz.prog 243 #[v, .func (.func 205) #[] #[]] w fun r w' => (∃ z : Int, r = .returned (.int .i64 z) ∧ (0 ≤ z ↔ Sme lngP l)) ∧ Below w.heap.size w w' := by
  have hmx := own_max hR
  unfold maxLen at hmx
  obtain ⟨ao, ca, rfl⟩ := own_sl hR
  obtain ⟨L, hL⟩ : ∃ L, l.length = L := ⟨_, rfl⟩
  have HM := keep m
  have HR := keep hR
  have HL := keep hL
  rw [hL] at hmx HR ⊢
  clear hR hL m
  go_enter Tryz.func243, Tryz.ntmps243
  go_wp2
  go_loopw [8] (fun i wr => ∃ k : Nat, k ≤ L ∧ i = .int .i64 k ∧ Kept (∀ j x, j < k → l[j]? = some x → lngP x = false) ∧ Kept (Below w.heap.size w wr)) (fun i _ => L - (intOf i).toNat)
  case atStart => exact ⟨0, Nat.zero_le _, rfl, fun j x h => absurd h (Nat.not_lt_zero _), Below.refl _ _⟩
  case round =>
    obtain ⟨k, hk, rfl, KF, KB⟩ := hrel
    by_cases hlt : k < L
    · have hz : (k : Int) < (L : Int) := by omega
      have hz0 : (0 : Int) ≤ (k : Int) := by omega
      have KW : IntKind.i64.wrap ((k : Int) + 1) = ((k + 1 : Nat) : Int) := by rw [IntKind.wrap_i64]; omega
      obtain ⟨x, hx⟩ : ∃ x, l[k]? = some x := ⟨_, List.getElem?_eq_getElem (by rw [HL.out]; exact hlt)⟩
      have hmem := List.mem_of_getElem? hx
      have mF := HM.out x hmem wr
      have HX := keep hx
      have HMEM := keep hmem
      obtain ⟨g, rfl, hg⟩ : ∃ g, ao = some ⟨g, 0, none⟩ ∧ g < w.heap.size := by
        have h1 := HR.out
        unfold Pr at h1
        rw [HL.out] at h1
        exact own_some h1 (by omega)
      obtain ⟨a1, a2⟩ := Pr.at HR.out hx
      obtain ⟨ok, hok⟩ : ∃ ok, k * 2 = ok := ⟨_, rfl⟩
      rw [hok] at a1 a2
      obtain ⟨x1, x2⟩ := x
      dsimp only at a1 a2
      have c1 := (KB.out.cell (p := ⟨g, ok, none⟩) hg).trans a1
      have c2 := (KB.out.cell (p := ⟨g, ok + 1, none⟩) hg).trans a2
      clear a1 a2
      clear hx hmem
      cases hp : lngP (x1, x2)
      · rw [hp] at mF
        have HP := keep hp
        clear hp
        go_wp2_with fail
        refine mF.mono ?_
        rintro _ w1 ⟨rfl, hb1⟩
        have KB1 := keep (KB.out.trans (hb1.mono KB.out.size))
        clear hb1 mF c1 c2
        go_wp2
        go_roundw
        case measure => simp [intOf]; omega
        case rel =>
          refine ⟨k + 1, by omega, by go_num, fun j y hj hy => ?_, KB1.out⟩
          rcases Nat.lt_succ_iff_lt_or_eq.1 hj with h | h
          · exact KF.out j y h hy
          · subst h
            rw [HX.out] at hy
            cases hy
            exact HP.out
      · rw [hp] at mF
        have HP := keep hp
        clear hp
        go_wp2_with fail
        refine mF.mono ?_
        rintro _ w1 ⟨rfl, hb1⟩
        have KB1 := keep (KB.out.trans (hb1.mono KB.out.size))
        clear hb1 mF c1 c2
        go_wp2
        go_ret
        exact ⟨⟨_, rfl, fun _ => ⟨_, HMEM.out, HP.out⟩, fun _ => hz0⟩, KB1.out⟩
    · have hz : ¬ (k : Int) < (L : Int) := by omega
      go_wp2
      go_ret
      refine ⟨⟨_, rfl, fun h => absurd h (by decide), ?_⟩, KB.out⟩
      rintro ⟨x, hx, hp⟩
      obtain ⟨j, hj, e⟩ := List.mem_iff_getElem.1 hx
      have := KF.out j x (by have := HL.out; omega) (by rw [List.getElem?_eq_getElem hj, e])
      rw [hp] at this; cases this
set_option maxHeartbeats 400000 in
theorem some_pairs (w : World) (v : Value) (l : List (ByteArray × ByteArray)) (hR : Pr w v l) (m : ∀ x ∈ l, ∀ w' : World, Calls Tryz.prog 205 #[.agg #[.string x.1, .string x.2]] w' fun r w'' => r = .returned (.bool (lngP x)) ∧ Below w'.heap.size w' w'') :
    Calls Tryz.prog 204 #[v, .func (.func 205) #[] #[]] w fun r w' => (∃ q, r = .returned (.bool q) ∧ (q = true ↔ Sme lngP l)) ∧ Below w.heap.size w w' := by
  have mI := index_pairs w v l hR m
  clear m hR
  go_enter Tryz.func204, Tryz.ntmps204
  go_wp2_with fail
  refine mI.mono ?_
  rintro _ w1 ⟨⟨z, rfl, hz⟩, hb⟩
  have HZ := keep hz
  clear hz mI
  go_wp2
  go_ret
  exact ⟨⟨_, rfl, by rw [decide_eq_true_eq]; exact HZ.out⟩, hb⟩
set_option maxHeartbeats 1000000 in
theorem index_ranks (w : World) (v : Value) (l : List (ByteArray × Nat)) (hR : Ra w v l) (m : ∀ x ∈ l, ∀ w' : World, Calls Tryz.prog 206 #[.agg #[.string x.1, .float .f64 x.2]] w' fun r w'' => r = .returned (.bool (lngM x)) ∧ Below w'.heap.size w' w'') :
    Calls Tryz.prog 201 #[v, .func (.func 206) #[] #[]] w fun r w' => (∃ z : Int, r = .returned (.int .i64 z) ∧ (0 ≤ z ↔ Sme lngM l)) ∧ Below w.heap.size w w' := by
  have hmx := own_max hR
  unfold maxLen at hmx
  obtain ⟨ao, ca, rfl⟩ := own_sl hR
  obtain ⟨L, hL⟩ : ∃ L, l.length = L := ⟨_, rfl⟩
  have HM := keep m
  have HR := keep hR
  have HL := keep hL
  rw [hL] at hmx HR ⊢
  clear hR hL m
  go_enter Tryz.func201, Tryz.ntmps201
  go_wp2
  go_loopw [8] (fun i wr => ∃ k : Nat, k ≤ L ∧ i = .int .i64 k ∧ Kept (∀ j x, j < k → l[j]? = some x → lngM x = false) ∧ Kept (Below w.heap.size w wr)) (fun i _ => L - (intOf i).toNat)
  case atStart => exact ⟨0, Nat.zero_le _, rfl, fun j x h => absurd h (Nat.not_lt_zero _), Below.refl _ _⟩
  case round =>
    obtain ⟨k, hk, rfl, KF, KB⟩ := hrel
    by_cases hlt : k < L
    · have hz : (k : Int) < (L : Int) := by omega
      have hz0 : (0 : Int) ≤ (k : Int) := by omega
      have KW : IntKind.i64.wrap ((k : Int) + 1) = ((k + 1 : Nat) : Int) := by rw [IntKind.wrap_i64]; omega
      obtain ⟨x, hx⟩ : ∃ x, l[k]? = some x := ⟨_, List.getElem?_eq_getElem (by rw [HL.out]; exact hlt)⟩
      have hmem := List.mem_of_getElem? hx
      have mF := HM.out x hmem wr
      have HX := keep hx
      have HMEM := keep hmem
      obtain ⟨g, rfl, hg⟩ : ∃ g, ao = some ⟨g, 0, none⟩ ∧ g < w.heap.size := by
        have h1 := HR.out
        unfold Ra at h1
        rw [HL.out] at h1
        exact own_some h1 (by omega)
      obtain ⟨a1, a2⟩ := Ra.at HR.out hx
      obtain ⟨ok, hok⟩ : ∃ ok, k * 2 = ok := ⟨_, rfl⟩
      rw [hok] at a1 a2
      obtain ⟨x1, x2⟩ := x
      dsimp only at a1 a2
      have c1 := (KB.out.cell (p := ⟨g, ok, none⟩) hg).trans a1
      have c2 := (KB.out.cell (p := ⟨g, ok + 1, none⟩) hg).trans a2
      clear a1 a2
      clear hx hmem
      cases hp : lngM (x1, x2)
      · rw [hp] at mF
        have HP := keep hp
        clear hp
        go_wp2_with fail
        refine mF.mono ?_
        rintro _ w1 ⟨rfl, hb1⟩
        have KB1 := keep (KB.out.trans (hb1.mono KB.out.size))
        clear hb1 mF c1 c2
        go_wp2
        go_roundw
        case measure => simp [intOf]; omega
        case rel =>
          refine ⟨k + 1, by omega, by go_num, fun j y hj hy => ?_, KB1.out⟩
          rcases Nat.lt_succ_iff_lt_or_eq.1 hj with h | h
          · exact KF.out j y h hy
          · subst h
            rw [HX.out] at hy
            cases hy
            exact HP.out
      · rw [hp] at mF
        have HP := keep hp
        clear hp
        go_wp2_with fail
        refine mF.mono ?_
        rintro _ w1 ⟨rfl, hb1⟩
        have KB1 := keep (KB.out.trans (hb1.mono KB.out.size))
        clear hb1 mF c1 c2
        go_wp2
        go_ret
        exact ⟨⟨_, rfl, fun _ => ⟨_, HMEM.out, HP.out⟩, fun _ => hz0⟩, KB1.out⟩
    · have hz : ¬ (k : Int) < (L : Int) := by omega
      go_wp2
      go_ret
      refine ⟨⟨_, rfl, fun h => absurd h (by decide), ?_⟩, KB.out⟩
      rintro ⟨x, hx, hp⟩
      obtain ⟨j, hj, e⟩ := List.mem_iff_getElem.1 hx
      have := KF.out j x (by have := HL.out; omega) (by rw [List.getElem?_eq_getElem hj, e])
      rw [hp] at this; cases this
set_option maxHeartbeats 400000 in
theorem some_ranks (w : World) (v : Value) (l : List (ByteArray × Nat)) (hR : Ra w v l) (m : ∀ x ∈ l, ∀ w' : World, Calls Tryz.prog 206 #[.agg #[.string x.1, .float .f64 x.2]] w' fun r w'' => r = .returned (.bool (lngM x)) ∧ Below w'.heap.size w' w'') :
    Calls Tryz.prog 125 #[v, .func (.func 206) #[] #[]] w fun r w' => (∃ q, r = .returned (.bool q) ∧ (q = true ↔ Sme lngM l)) ∧ Below w.heap.size w w' := by
  have mI := index_ranks w v l hR m
  clear m hR
  go_enter Tryz.func125, Tryz.ntmps125
  go_wp2_with fail
  refine mI.mono ?_
  rintro _ w1 ⟨⟨z, rfl, hz⟩, hb⟩
  have HZ := keep hz
  clear hz mI
  go_wp2
  go_ret
  exact ⟨⟨_, rfl, by rw [decide_eq_true_eq]; exact HZ.out⟩, hb⟩
set_option maxHeartbeats 1000000 in
theorem index_nans (w : World) (v : Value) (l : List (ByteArray × Nat)) (hR : Ra w v l) (m : ∀ x ∈ l, ∀ w' : World, Calls Tryz.prog 126 #[.agg #[.string x.1, .float .f64 x.2]] w' fun r w'' => r = .returned (.bool (nanM x)) ∧ Below w'.heap.size w' w'') :
    Calls Tryz.prog 201 #[v, .func (.func 126) #[] #[]] w fun r w' => (∃ z : Int, r = .returned (.int .i64 z) ∧ (0 ≤ z ↔ Sme nanM l)) ∧ Below w.heap.size w w' := by
  have hmx := own_max hR
  unfold maxLen at hmx
  obtain ⟨ao, ca, rfl⟩ := own_sl hR
  obtain ⟨L, hL⟩ : ∃ L, l.length = L := ⟨_, rfl⟩
  have HM := keep m
  have HR := keep hR
  have HL := keep hL
  rw [hL] at hmx HR ⊢
  clear hR hL m
  go_enter Tryz.func201, Tryz.ntmps201
  go_wp2
  go_loopw [8] (fun i wr => ∃ k : Nat, k ≤ L ∧ i = .int .i64 k ∧ Kept (∀ j x, j < k → l[j]? = some x → nanM x = false) ∧ Kept (Below w.heap.size w wr)) (fun i _ => L - (intOf i).toNat)
  case atStart => exact ⟨0, Nat.zero_le _, rfl, fun j x h => absurd h (Nat.not_lt_zero _), Below.refl _ _⟩
  case round =>
    obtain ⟨k, hk, rfl, KF, KB⟩ := hrel
    by_cases hlt : k < L
    · have hz : (k : Int) < (L : Int) := by omega
      have hz0 : (0 : Int) ≤ (k : Int) := by omega
      have KW : IntKind.i64.wrap ((k : Int) + 1) = ((k + 1 : Nat) : Int) := by rw [IntKind.wrap_i64]; omega
      obtain ⟨x, hx⟩ : ∃ x, l[k]? = some x := ⟨_, List.getElem?_eq_getElem (by rw [HL.out]; exact hlt)⟩
      have hmem := List.mem_of_getElem? hx
      have mF := HM.out x hmem wr
      have HX := keep hx
      have HMEM := keep hmem
      obtain ⟨g, rfl, hg⟩ : ∃ g, ao = some ⟨g, 0, none⟩ ∧ g < w.heap.size := by
        have h1 := HR.out
        unfold Ra at h1
        rw [HL.out] at h1
        exact own_some h1 (by omega)
      obtain ⟨a1, a2⟩ := Ra.at HR.out hx
      obtain ⟨ok, hok⟩ : ∃ ok, k * 2 = ok := ⟨_, rfl⟩
      rw [hok] at a1 a2
      obtain ⟨x1, x2⟩ := x
      dsimp only at a1 a2
      have c1 := (KB.out.cell (p := ⟨g, ok, none⟩) hg).trans a1
      have c2 := (KB.out.cell (p := ⟨g, ok + 1, none⟩) hg).trans a2
      clear a1 a2
      clear hx hmem
      cases hp : nanM (x1, x2)
      · rw [hp] at mF
        have HP := keep hp
        clear hp
        go_wp2_with fail
        refine mF.mono ?_
        rintro _ w1 ⟨rfl, hb1⟩
        have KB1 := keep (KB.out.trans (hb1.mono KB.out.size))
        clear hb1 mF c1 c2
        go_wp2
        go_roundw
        case measure => simp [intOf]; omega
        case rel =>
          refine ⟨k + 1, by omega, by go_num, fun j y hj hy => ?_, KB1.out⟩
          rcases Nat.lt_succ_iff_lt_or_eq.1 hj with h | h
          · exact KF.out j y h hy
          · subst h
            rw [HX.out] at hy
            cases hy
            exact HP.out
      · rw [hp] at mF
        have HP := keep hp
        clear hp
        go_wp2_with fail
        refine mF.mono ?_
        rintro _ w1 ⟨rfl, hb1⟩
        have KB1 := keep (KB.out.trans (hb1.mono KB.out.size))
        clear hb1 mF c1 c2
        go_wp2
        go_ret
        exact ⟨⟨_, rfl, fun _ => ⟨_, HMEM.out, HP.out⟩, fun _ => hz0⟩, KB1.out⟩
    · have hz : ¬ (k : Int) < (L : Int) := by omega
      go_wp2
      go_ret
      refine ⟨⟨_, rfl, fun h => absurd h (by decide), ?_⟩, KB.out⟩
      rintro ⟨x, hx, hp⟩
      obtain ⟨j, hj, e⟩ := List.mem_iff_getElem.1 hx
      have := KF.out j x (by have := HL.out; omega) (by rw [List.getElem?_eq_getElem hj, e])
      rw [hp] at this; cases this
set_option maxHeartbeats 400000 in
theorem some_nans (w : World) (v : Value) (l : List (ByteArray × Nat)) (hR : Ra w v l) (m : ∀ x ∈ l, ∀ w' : World, Calls Tryz.prog 126 #[.agg #[.string x.1, .float .f64 x.2]] w' fun r w'' => r = .returned (.bool (nanM x)) ∧ Below w'.heap.size w' w'') :
    Calls Tryz.prog 125 #[v, .func (.func 126) #[] #[]] w fun r w' => (∃ q, r = .returned (.bool q) ∧ (q = true ↔ Sme nanM l)) ∧ Below w.heap.size w w' := by
  have mI := index_nans w v l hR m
  clear m hR
  go_enter Tryz.func125, Tryz.ntmps125
  go_wp2_with fail
  refine mI.mono ?_
  rintro _ w1 ⟨⟨z, rfl, hz⟩, hb⟩
  have HZ := keep hz
  clear hz mI
  go_wp2
  go_ret
  exact ⟨⟨_, rfl, by rw [decide_eq_true_eq]; exact HZ.out⟩, hb⟩
end Vl
end Go.Proofs.YtijclcedjgniaaaGreat

namespace Go.Proofs.YtijclcedjgniaaaGreat
open Go.RowKit Go.Shelf
set_option linter.unusedVariables false
set_option linter.unusedSimpArgs false
set_option maxRecDepth 100000
namespace Vl
/-- every text has a length that a text can have -/
def Wf (d : Dt) : Prop := d.text.size ≤ maxLen ∧ (∀ x ∈ d.items, x.size ≤ maxLen) ∧ (∀ x ∈ d.pairs, x.1.size ≤ maxLen ∧ x.2.size ≤ maxLen) ∧ (∀ x ∈ d.ranks, x.1.size ≤ maxLen ∧ x.2 < Dw.M)
/-- plain data in one block -/
def Bx (w : World) (B : Nat) (kd : Int) (tx : ByteArray) (iv pv rv : Value) : Prop := w.heap[B]? = some (.cells #[.int .i64 kd, .string tx, iv, pv, rv] 43 (0, 0))
theorem Bx.bel {w w' : World} {B : Nat} {kd : Int} {tx : ByteArray} {iv pv rv : Value} (h : Bx w B kd tx iv pv rv) (hb : Below w.heap.size w w') : Bx w' B kd tx iv pv rv := (hb.block B (Array.getElem?_eq_some_iff.1 h).1).trans h
def Dbl (d : Dt) (r : Ending) : Prop := ∃ q : Bool, r = .returned (.bool q) ∧ (q = true ↔ Twin d)
def Lgt (d : Dt) (r : Ending) : Prop := ∃ q : Bool, r = .returned (.bool q) ∧ (q = true ↔ Long d)
def Rfe (d : Dt) (r : Ending) : Prop := ∃ c : Int, r = .returned (.int .i64 c) ∧ Rfz d c
set_option maxHeartbeats 2000000 in
theorem doubled_any (w : World) (V : Value) (d : Dt) (h : Pln w V d) (hwf : Wf d) :
    Calls Tryz.prog 124 #[V] w fun r w' => Dbl d r ∧ Below w.heap.size w w' := by
  obtain ⟨iv, pv, rv, rfl, a1, a2, a3⟩ := h
  obtain ⟨io, ic, hio⟩ := own_sl a1
  obtain ⟨po, pc, hpo⟩ := own_sl a2
  obtain ⟨ro, rc, hro⟩ := own_sl a3
  obtain ⟨kd, tx, is, ps, rs⟩ := d
  unfold plV
  obtain ⟨w1, w2, w3, w4⟩ := hwf
  dsimp only at *
  obtain ⟨W1, hW1⟩ : ∃ W1, w.alloc (.cells #[.int .i64 kd, .string tx, iv, pv, rv] 43) = W1 := ⟨_, rfl⟩
  have hb1 : Below w.heap.size w W1 := by rw [← hW1]; exact (Below.refl _ w).alloc (Nat.le_refl _) _
  have g1 : Bx W1 w.heap.size kd tx iv pv rv := by rw [← hW1]; exact heap_alloc_new _ _
  have m1 : ∀ W', Below W1.heap.size W1 W' → _ := fun W' hb => twins_texts W' iv is (kept (kept a1 hb1) hb) w2
  have m2 : ∀ W', Below W1.heap.size W1 W' → _ := fun W' hb => twins_pairs W' pv ps (kept (kept a2 hb1) hb) (fun x hx => (w3 x hx).1)
  have m3 : ∀ W', Below W1.heap.size W1 W' → _ := fun W' hb => twins_ranks W' rv rs (kept (kept a3 hb1) hb) (fun x hx => (w4 x hx).1)
  subst hio hpo hro
  have HB1 := keep hb1
  have HW1 := keep hW1
  have G1 := keep g1
  have eid : is.map (fun x => x) = is := by simp
  rw [eid] at m1
  clear hb1 hW1 g1 eid a1 a2 a3
  by_cases hk : kd = 4
  · obtain ⟨c0, c1, c2, c3, c4⟩ := five_cells G1.out
    subst hk
    go_enter Tryz.func124, Tryz.ntmps124
    go_wp2_with fail
    rw [HW1.out]
    refine (m1 _ (Below.refl _ _)).mono ?_
    rintro _ V2 ⟨⟨q1, rfl, hq1⟩, hb2⟩
    have HQ1 := keep hq1
    clear c0 c1 c2 c3 c4 hq1
    cases q1
    · obtain ⟨c0, c1, c2, c3, c4⟩ := five_cells (G1.out.bel hb2)
      have mm := m2 V2 hb2
      have HB2 := keep hb2
      clear hb2
      go_wp2_with fail
      refine mm.mono ?_
      rintro _ V3 ⟨⟨q2, rfl, hq2⟩, hb3⟩
      have HQ2 := keep hq2
      have HB3 := keep (HB2.out.trans (hb3.mono HB2.out.size))
      clear c0 c1 c2 c3 c4 hq2 hb3 mm
      cases q2
      · obtain ⟨c0, c1, c2, c3, c4⟩ := five_cells (G1.out.bel HB3.out)
        have mm := m3 V3 HB3.out
        go_wp2_with fail
        refine mm.mono ?_
        rintro _ V4 ⟨⟨q3, rfl, hq3⟩, hb4⟩
        have HQ3 := keep hq3
        have HB4 := keep (HB3.out.trans (hb4.mono HB3.out.size))
        clear c0 c1 c2 c3 c4 hq3 hb4 mm
        go_wp2
        go_ret
        refine ⟨⟨_, rfl, ?_⟩, HB1.out.trans (HB4.out.mono HB1.out.size)⟩
        rw [HQ3.out]
        refine ⟨fun h => .inr (.inr h), fun h => ?_⟩
        rcases h with ⟨_, h⟩ | h | h
        · exact absurd (HQ1.out.2 h) (by simp)
        · exact absurd (HQ2.out.2 h) (by simp)
        · exact h
      · go_wp2
        go_ret
        exact ⟨⟨_, rfl, fun _ => .inr (.inl (HQ2.out.1 (by trivial))), fun _ => rfl⟩, HB1.out.trans (HB3.out.mono HB1.out.size)⟩
    · go_wp2
      go_ret
      exact ⟨⟨_, rfl, fun _ => .inl ⟨rfl, HQ1.out.1 (by trivial)⟩, fun _ => rfl⟩, HB1.out.trans (hb2.mono HB1.out.size)⟩
  · obtain ⟨c0, c1, c2, c3, c4⟩ := five_cells G1.out
    go_enter Tryz.func124, Tryz.ntmps124
    go_wp2_with fail
    rw [HW1.out]
    refine (m2 _ (Below.refl _ _)).mono ?_
    rintro _ V3 ⟨⟨q2, rfl, hq2⟩, hb3⟩
    have HQ2 := keep hq2
    have HB3 := keep hb3
    clear c0 c1 c2 c3 c4 hq2 hb3
    cases q2
    · obtain ⟨c0, c1, c2, c3, c4⟩ := five_cells (G1.out.bel HB3.out)
      have mm := m3 V3 HB3.out
      go_wp2_with fail
      refine mm.mono ?_
      rintro _ V4 ⟨⟨q3, rfl, hq3⟩, hb4⟩
      have HQ3 := keep hq3
      have HB4 := keep (HB3.out.trans (hb4.mono HB3.out.size))
      clear c0 c1 c2 c3 c4 hq3 hb4 mm
      go_wp2
      go_ret
      refine ⟨⟨_, rfl, ?_⟩, HB1.out.trans (HB4.out.mono HB1.out.size)⟩
      rw [HQ3.out]
      refine ⟨fun h => .inr (.inr h), fun h => ?_⟩
      rcases h with ⟨h, _⟩ | h | h
      · exact absurd h hk
      · exact absurd (HQ2.out.2 h) (by simp)
      · exact h
    · go_wp2
      go_ret
      exact ⟨⟨_, rfl, fun _ => .inr (.inl (HQ2.out.1 (by trivial))), fun _ => rfl⟩, HB1.out.trans (HB3.out.mono HB1.out.size)⟩
set_option maxHeartbeats 2000000 in
theorem long_any (w : World) (V : Value) (d : Dt) (h : Pln w V d) (hwf : Wf d) :
    Calls Tryz.prog 127 #[V] w fun r w' => Lgt d r ∧ Below w.heap.size w w' := by
  obtain ⟨iv, pv, rv, rfl, a1, a2, a3⟩ := h
  obtain ⟨io, ic, hio⟩ := own_sl a1
  obtain ⟨po, pc, hpo⟩ := own_sl a2
  obtain ⟨ro, rc, hro⟩ := own_sl a3
  obtain ⟨kd, tx, is, ps, rs⟩ := d
  unfold plV
  obtain ⟨w1, w2, w3, w4⟩ := hwf
  dsimp only at *
  obtain ⟨W1, hW1⟩ : ∃ W1, w.alloc (.cells #[.int .i64 kd, .string tx, iv, pv, rv] 43) = W1 := ⟨_, rfl⟩
  have hb1 : Below w.heap.size w W1 := by rw [← hW1]; exact (Below.refl _ w).alloc (Nat.le_refl _) _
  have g1 : Bx W1 w.heap.size kd tx iv pv rv := by rw [← hW1]; exact heap_alloc_new _ _
  have m0 := longtext_any tx w1
  have m1 : ∀ W', Below W1.heap.size W1 W' → _ := fun W' hb => some_texts W' iv is (kept (kept a1 hb1) hb) (fun x hx => longtext_any x (w2 x hx))
  have m2 : ∀ W', Below W1.heap.size W1 W' → _ := fun W' hb => some_pairs W' pv ps (kept (kept a2 hb1) hb) (fun x hx => longpair_any x (w3 x hx).1 (w3 x hx).2)
  have m3 : ∀ W', Below W1.heap.size W1 W' → _ := fun W' hb => some_ranks W' rv rs (kept (kept a3 hb1) hb) (fun x hx => longrank_any x (w4 x hx).1)
  subst hio hpo hro
  have HB1 := keep hb1
  have HW1 := keep hW1
  have G1 := keep g1
  have e1 : Sme lng is ↔ ∃ x ∈ is, 1048576 < x.size := by unfold Sme; simp only [lng_iff]
  have e2 : Sme lngP ps ↔ ∃ x ∈ ps, 1048576 < x.1.size ∨ 1048576 < x.2.size := by unfold Sme lngP; simp only [Bool.or_eq_true, lng_iff]
  have e3 : Sme lngM rs ↔ ∃ x ∈ rs, 1048576 < x.1.size := by unfold Sme lngM; simp only [lng_iff]
  have E0 := keep (lng_iff tx)
  have E1 := keep e1
  have E2 := keep e2
  have E3 := keep e3
  clear hb1 hW1 g1 a1 a2 a3 e1 e2 e3
  obtain ⟨c0, c1, c2, c3, c4⟩ := five_cells G1.out
  cases hl : lng tx
  · rw [hl] at m0
    have HL := keep hl
    clear hl
    go_enter Tryz.func127, Tryz.ntmps127
    go_wp2_with fail
    rw [HW1.out]
    refine (m0 _).mono ?_
    rintro _ V1 ⟨rfl, hb⟩
    have HBa := keep hb
    clear c0 c1 c2 c3 c4 hb m0
    obtain ⟨c0, c1, c2, c3, c4⟩ := five_cells (G1.out.bel HBa.out)
    have mm := m1 V1 HBa.out
    go_wp2_with fail
    refine mm.mono ?_
    rintro _ V2 ⟨⟨q1, rfl, hq1⟩, hb2⟩
    have HQ1 := keep hq1
    have HB2 := keep (HBa.out.trans (hb2.mono HBa.out.size))
    clear c0 c1 c2 c3 c4 hq1 hb2 mm
    cases q1
    · obtain ⟨c0, c1, c2, c3, c4⟩ := five_cells (G1.out.bel HB2.out)
      have mm := m2 V2 HB2.out
      go_wp2_with fail
      refine mm.mono ?_
      rintro _ V3 ⟨⟨q2, rfl, hq2⟩, hb3⟩
      have HQ2 := keep hq2
      have HB3 := keep (HB2.out.trans (hb3.mono HB2.out.size))
      clear c0 c1 c2 c3 c4 hq2 hb3 mm
      cases q2
      · obtain ⟨c0, c1, c2, c3, c4⟩ := five_cells (G1.out.bel HB3.out)
        have mm := m3 V3 HB3.out
        go_wp2_with fail
        refine mm.mono ?_
        rintro _ V4 ⟨⟨q3, rfl, hq3⟩, hb4⟩
        have HQ3 := keep hq3
        have HB4 := keep (HB3.out.trans (hb4.mono HB3.out.size))
        clear c0 c1 c2 c3 c4 hq3 hb4 mm
        go_wp2
        go_ret
        refine ⟨⟨_, rfl, ?_⟩, HB1.out.trans (HB4.out.mono HB1.out.size)⟩
        rw [HQ3.out, E3.out]
        refine ⟨fun h => .inr (.inr (.inr h)), fun h => ?_⟩
        rcases h with h | h | h | h
        · exact absurd (E0.out.2 h) (by rw [HL.out]; simp)
        · exact absurd (HQ1.out.2 (E1.out.2 h)) (by simp)
        · exact absurd (HQ2.out.2 (E2.out.2 h)) (by simp)
        · exact h
      · go_wp2
        go_ret
        exact ⟨⟨_, rfl, fun _ => .inr (.inr (.inl (E2.out.1 (HQ2.out.1 (by trivial))))), fun _ => rfl⟩, HB1.out.trans (HB3.out.mono HB1.out.size)⟩
    · go_wp2
      go_ret
      exact ⟨⟨_, rfl, fun _ => .inr (.inl (E1.out.1 (HQ1.out.1 (by trivial)))), fun _ => rfl⟩, HB1.out.trans (HB2.out.mono HB1.out.size)⟩
  · rw [hl] at m0
    have HL := keep hl
    clear hl
    go_enter Tryz.func127, Tryz.ntmps127
    go_wp2_with fail
    rw [HW1.out]
    refine (m0 _).mono ?_
    rintro _ V1 ⟨rfl, hb⟩
    have HBa := keep hb
    clear c0 c1 c2 c3 c4 hb m0
    go_wp2
    go_ret
    exact ⟨⟨_, rfl, fun _ => .inl (E0.out.1 HL.out), fun _ => rfl⟩, HB1.out.trans (HBa.out.mono HB1.out.size)⟩
set_option maxHeartbeats 2000000 in
theorem refuse_any (w : World) (V : Value) (d : Dt) (h : Pln w V d) (hwf : Wf d) :
    Calls Tryz.prog 75 #[V] w fun r w' => Rfe d r ∧ Below w.heap.size w w' := by
  have hP := h
  obtain ⟨iv, pv, rv, rfl, a1, a2, a3⟩ := h
  obtain ⟨io, ic, hio⟩ := own_sl a1
  obtain ⟨po, pc, hpo⟩ := own_sl a2
  obtain ⟨ro, rc, hro⟩ := own_sl a3
  have hm1 := own_max a1
  have hm2 := own_max a2
  have hm3 := own_max a3
  unfold maxLen at hm1 hm2 hm3
  obtain ⟨W1, hW1⟩ : ∃ W1, w.alloc (.cells #[.int .i64 d.kind, .string d.text, iv, pv, rv] 43) = W1 := ⟨_, rfl⟩
  have hb1 : Below w.heap.size w W1 := by rw [← hW1]; exact (Below.refl _ w).alloc (Nat.le_refl _) _
  have g1 : Bx W1 w.heap.size d.kind d.text iv pv rv := by rw [← hW1]; exact heap_alloc_new _ _
  have m1 : ∀ W', Below W1.heap.size W1 W' → _ := fun W' hb => stray_any W' _ d ((hP.bel hb1).bel hb)
  have m2 : ∀ W', Below W1.heap.size W1 W' → _ := fun W' hb => doubled_any W' _ d ((hP.bel hb1).bel hb) hwf
  have m3 : ∀ W', Below W1.heap.size W1 W' → _ := fun W' hb => some_nans W' rv d.ranks (kept (kept a3 hb1) hb) (fun x _ => noscore_any x)
  have m4 : ∀ W', Below W1.heap.size W1 W' → _ := fun W' hb => long_any W' _ d ((hP.bel hb1).bel hb) hwf
  have e3 : Sme nanM d.ranks ↔ Void d := Iff.rfl
  subst hio hpo hro
  have HB1 := keep hb1
  have HW1 := keep hW1
  have G1 := keep g1
  have E3 := keep e3
  have E1 : Kept (Bad d ↔ (¬ Fit d ∨ Twin d ∨ Void d)) := Iff.rfl
  have E4 : Kept (Full d ↔ (1048576 < d.items.length ∨ 1048576 < d.pairs.length ∨ 1048576 < d.ranks.length)) := Iff.rfl
  unfold plV at m1 m2 m4 ⊢
  generalize d.items.length = n1 at *
  generalize d.pairs.length = n2 at *
  generalize d.ranks.length = n3 at *
  generalize d.kind = kd at *
  generalize d.text = tx at *
  clear hb1 hW1 g1 a1 a2 a3 e3 hP hwf
  obtain ⟨c0, c1, c2, c3, c4⟩ := five_cells G1.out
  have DONE : ∀ (V'' : World) (c : Int), Below W1.heap.size W1 V'' → Rfz d c → Rfe d (.returned (.int .i64 c)) ∧ Below w.heap.size w V'' := fun _ _ hb hc => ⟨⟨_, rfl, hc⟩, HB1.out.trans (hb.mono HB1.out.size)⟩
  have DN := keep DONE
  clear DONE
  go_enter Tryz.func75, Tryz.ntmps75
  go_wp2_with fail
  rw [HW1.out]
  refine (m1 _ (Below.refl _ _)).mono ?_
  rintro _ V1 ⟨⟨q1, rfl, hq1⟩, hb⟩
  have HQ1 := keep hq1
  have HBa := keep hb
  clear c0 c1 c2 c3 c4 hb hq1
  cases q1
  · obtain ⟨c0, c1, c2, c3, c4⟩ := five_cells (G1.out.bel HBa.out)
    have mm := m2 V1 HBa.out
    go_wp2_with fail
    refine mm.mono ?_
    rintro _ V2 ⟨⟨q2, rfl, hq2⟩, hb2⟩
    have HQ2 := keep hq2
    have HB2 := keep (HBa.out.trans (hb2.mono HBa.out.size))
    clear c0 c1 c2 c3 c4 hq2 hb2 mm
    cases q2
    · obtain ⟨c0, c1, c2, c3, c4⟩ := five_cells (G1.out.bel HB2.out)
      have mm := m3 V2 HB2.out
      go_wp2_with fail
      refine mm.mono ?_
      rintro _ V3 ⟨⟨q3, rfl, hq3⟩, hb3⟩
      have HQ3 := keep hq3
      have HB3 := keep (HB2.out.trans (hb3.mono HB2.out.size))
      clear c0 c1 c2 c3 c4 hq3 hb3 mm
      cases q3
      · have NB : Kept (¬ Bad d) := by
          intro hb
          rcases E1.out.1 hb with h | h | h
          · exact absurd (HQ1.out.2 h) (by simp)
          · exact absurd (HQ2.out.2 h) (by simp)
          · exact absurd (HQ3.out.2 (E3.out.2 h)) (by simp)
        obtain ⟨c0, c1, c2, c3, c4⟩ := five_cells (G1.out.bel HB3.out)
        have mm := m4 V3 HB3.out
        go_wp2_with fail
        refine mm.mono ?_
        rintro _ V4 ⟨⟨q4, rfl, hq4⟩, hb4⟩
        have HQ4 := keep hq4
        have HB4 := keep (HB3.out.trans (hb4.mono HB3.out.size))
        clear c0 c1 c2 c3 c4 hq4 hb4 mm
        cases q4
        · have NL : Kept (¬ Long d) := fun h => absurd (HQ4.out.2 h) (by simp)
          obtain ⟨c0, c1, c2, c3, c4⟩ := five_cells (G1.out.bel HB4.out)
          by_cases h12 : n1 < n2
          · by_cases h23 : n2 < n3
            · by_cases hf : 1048576 < n3
              · go_wp2
                all_goals
                  go_ret
                  first | exact DN.out _ _ HB4.out (.inr (.inr (.inl ⟨rfl, NB.out, NL.out, E4.out.2 (by omega)⟩))) | exact DN.out _ _ HB4.out (.inr (.inr (.inr ⟨rfl, NB.out, NL.out, fun h => absurd (E4.out.1 h) (by omega)⟩)))
              · go_wp2
                all_goals
                  go_ret
                  first | exact DN.out _ _ HB4.out (.inr (.inr (.inl ⟨rfl, NB.out, NL.out, E4.out.2 (by omega)⟩))) | exact DN.out _ _ HB4.out (.inr (.inr (.inr ⟨rfl, NB.out, NL.out, fun h => absurd (E4.out.1 h) (by omega)⟩)))
            · by_cases hf : 1048576 < n2
              · go_wp2
                all_goals
                  go_ret
                  first | exact DN.out _ _ HB4.out (.inr (.inr (.inl ⟨rfl, NB.out, NL.out, E4.out.2 (by omega)⟩))) | exact DN.out _ _ HB4.out (.inr (.inr (.inr ⟨rfl, NB.out, NL.out, fun h => absurd (E4.out.1 h) (by omega)⟩)))
              · go_wp2
                all_goals
                  go_ret
                  first | exact DN.out _ _ HB4.out (.inr (.inr (.inl ⟨rfl, NB.out, NL.out, E4.out.2 (by omega)⟩))) | exact DN.out _ _ HB4.out (.inr (.inr (.inr ⟨rfl, NB.out, NL.out, fun h => absurd (E4.out.1 h) (by omega)⟩)))
          · by_cases h13 : n1 < n3
            · by_cases hf : 1048576 < n3
              · go_wp2
                all_goals
                  go_ret
                  first | exact DN.out _ _ HB4.out (.inr (.inr (.inl ⟨rfl, NB.out, NL.out, E4.out.2 (by omega)⟩))) | exact DN.out _ _ HB4.out (.inr (.inr (.inr ⟨rfl, NB.out, NL.out, fun h => absurd (E4.out.1 h) (by omega)⟩)))
              · go_wp2
                all_goals
                  go_ret
                  first | exact DN.out _ _ HB4.out (.inr (.inr (.inl ⟨rfl, NB.out, NL.out, E4.out.2 (by omega)⟩))) | exact DN.out _ _ HB4.out (.inr (.inr (.inr ⟨rfl, NB.out, NL.out, fun h => absurd (E4.out.1 h) (by omega)⟩)))
            · by_cases hf : 1048576 < n1
              · go_wp2
                all_goals
                  go_ret
                  first | exact DN.out _ _ HB4.out (.inr (.inr (.inl ⟨rfl, NB.out, NL.out, E4.out.2 (by omega)⟩))) | exact DN.out _ _ HB4.out (.inr (.inr (.inr ⟨rfl, NB.out, NL.out, fun h => absurd (E4.out.1 h) (by omega)⟩)))
              · go_wp2
                all_goals
                  go_ret
                  first | exact DN.out _ _ HB4.out (.inr (.inr (.inl ⟨rfl, NB.out, NL.out, E4.out.2 (by omega)⟩))) | exact DN.out _ _ HB4.out (.inr (.inr (.inr ⟨rfl, NB.out, NL.out, fun h => absurd (E4.out.1 h) (by omega)⟩)))
        · go_wp2
          go_ret
          exact DN.out _ _ HB4.out (.inr (.inl ⟨rfl, NB.out, HQ4.out.1 (by trivial)⟩))
      · go_wp2
        go_ret
        exact DN.out _ _ HB3.out (.bad (E1.out.2 (.inr (.inr (E3.out.1 (HQ3.out.1 (by trivial)))))))
    · go_wp2
      go_ret
      exact DN.out _ _ HB2.out (.bad (E1.out.2 (.inr (.inl (HQ2.out.1 (by trivial))))))
  · go_wp2
    go_ret
    exact DN.out _ _ HBa.out (.bad (E1.out.2 (.inl (HQ1.out.1 (by trivial)))))
end Vl
end Go.Proofs.YtijclcedjgniaaaGreat
