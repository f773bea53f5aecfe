/-
  Contracts over this program: check of any reply, told as the document tells it.
-/
import Derived.Test.YtoalnfkjpdgbiaaDoorRpBfsV
import Derived.Test.YtoalnfkjpdgbiaaDoorRpCheck
namespace Go.Proofs.YtoalnfkjpdgbiaaDoor
open Go.RowKit
set_option linter.unusedVariables false
/-- how many replies a reply is -/
def cnt : (n : Nat) → Rp.T n → Nat
  | 0 => fun r => nomatch r
  | n + 1 => fun r => 1 + ((Rp.ls r).map (cnt n)).sum
theorem map_same {α β γ : Type} (f : α → γ) (g : β → γ) (L : List α) (M : List β) (hl : L.length = M.length) (h : ∀ (j : Nat) (x : α) (y : β), L[j]? = some x → M[j]? = some y → f x = g y) : L.map f = M.map g := by
  apply List.ext_getElem?
  intro j
  rw [List.getElem?_map, List.getElem?_map]
  cases hx : L[j]? with
  | none =>
    have h1 := List.getElem?_eq_none_iff.1 hx
    have h2 : M[j]? = none := List.getElem?_eq_none_iff.2 (by omega)
    rw [h2]; rfl
  | some x =>
    have h1 := (List.getElem?_eq_some_iff.1 hx).1
    obtain ⟨y, hy⟩ : ∃ y, M[j]? = some y := ⟨_, List.getElem?_eq_getElem (by omega)⟩
    rw [hy]
    simp only [Option.map_some, h j x y hx hy]
theorem well_rep {α : Type} (k : Int) (s : ByteArray) (i : Int) (l : List α) : Rp.wellW k s i (List.replicate l.length ()) = Rp.wellW k s i l := by
  unfold Rp.wellW
  have : (List.replicate l.length ()).isEmpty = l.isEmpty := by cases l <;> rfl
  rw [this]
/-- a told list's replies, as check sees them -/
theorem den_at {P : Nat → Prop} {w : World} {h : Nat} {S : Spot} {c : Nat} {l : List (Rp.T (h + 1))} (h0 : 0 < S.2) (hl : Lst P w (Tel P w (h + 1)) (.slice (some ⟨S.1, 0, none⟩) S.2 c) l) :
    (els w S).length = l.length ∧ ∀ (j : Nat) (e : El) (x : Rp.T (h + 1)), (els w S)[j]? = some e → l[j]? = some x → e.1 = Rp.wellW (Rp.kd x) (Rp.tx x) (Rp.nm x) (Rp.ls x) ∧ e.2.1 = (Rp.kd x == 6) ∧
      ((Rp.ls x = [] ∧ e.2.2 = none) ∨ ∃ g m c', e.2.2 = some ((g, m), c') ∧ 0 < m ∧ Lst P w (Tel P w h) (.slice (some ⟨g, 0, none⟩) m c') (Rp.ls x)) := by
  have hlen : S.2 = l.length := by
    obtain ⟨ao, c, e, _⟩ := hl.form
    injection e
  refine ⟨by rw [els_len]; exact hlen, fun j e x he hx => ?_⟩
  obtain ⟨g, cap, e', hPg, d0, d1, d2, d3, htl, e0, e1, e2, e3⟩ := hl.at hx (fun cs h => h.four)
  obtain ⟨rfl⟩ : S.1 = g := by injection e' with q1 q2 q3; injection q1 with q1; injection q1
  obtain ⟨v, hq, hL, hk, hi, hs⟩ := htl
  obtain ⟨ao, c2, rfl, hmc, hcm⟩ := hL.form
  obtain ⟨rfl, rfl, rfl, rfl⟩ : d0 = .int .i64 (Rp.kd x) ∧ d1 = .string (Rp.tx x) ∧ d2 = .int .i64 (Rp.nm x) ∧ d3 = .slice ao (Rp.ls x).length c2 := by simpa using hq
  have hj : j < S.2 := by have := (List.getElem?_eq_some_iff.1 hx).1; omega
  have hel := els_at hj e0 e1 e2 e3
  rw [he] at hel
  obtain rfl := Option.some.inj hel
  refine ⟨well_rep _ _ _ _, rfl, ?_⟩
  rcases hL with ⟨h1, _⟩ | ⟨g', cap', cur, q, h2, h3⟩
  · refine .inl ⟨h1, ?_⟩
    unfold elC
    rw [h1]
    cases ao <;> rfl
  · obtain ⟨rfl, rfl⟩ : ao = some ⟨g', 0, none⟩ ∧ c2 = cap' := by injection q with q1 q2 q3; exact ⟨q1, q3⟩
    have hz : ¬ (Rp.ls x).length = 0 := fun e => h2 (List.length_eq_zero_iff.1 e)
    refine .inr ⟨g', (Rp.ls x).length, c2, ?_, by omega, .inr ⟨g', c2, cur, rfl, h2, h3⟩⟩
    unfold elC
    simp [hz]
theorem den_all (P : Nat → Prop) (w : World) : ∀ (h : Nat) (S : Spot) (c : Nat) (l : List (Rp.T h)), 0 < S.2 → Lst P w (Tel P w h) (.slice (some ⟨S.1, 0, none⟩) S.2 c) l →
    Hb (els w) h S ∧ rightE (els w) h S = l.all (Rp.right h) ∧ (∀ g, deepE (els w) h g S = l.any (Rp.deep h g)) ∧ wtE (els w) h S = (l.map (cnt h)).sum
  | 0, S, c, l, h0, hl => by
    exfalso
    obtain ⟨ao, c', e, _⟩ := hl.form
    injection e with e1 e2 e3
    cases l with
    | nil => simp at e2; omega
    | cons x l => exact nomatch x
  | h + 1, S, c, l, h0, hl => by
    obtain ⟨hlen, hel⟩ := den_at h0 hl
    have hbb : Hb (els w) (h + 1) S := fun e he q hq => by
      obtain ⟨j, hj⟩ := List.getElem?_of_mem he
      obtain ⟨x, hx⟩ : ∃ x, l[j]? = some x := ⟨_, List.getElem?_eq_getElem (by have := (List.getElem?_eq_some_iff.1 hj).1; omega)⟩
      obtain ⟨_, _, h3⟩ := hel j e x hj hx
      rcases h3 with ⟨_, h3⟩ | ⟨g, m, c', h3, hm, hL⟩
      · rw [h3] at hq; cases hq
      · rw [h3] at hq; cases hq
        exact (den_all P w h (g, m) c' _ hm hL).1
    refine ⟨hbb, ?_, fun g => ?_, ?_⟩
    · have := map_same (fun e : El => e.1 && (match e.2.2 with | none => true | some c => rightE (els w) h c.1)) (Rp.right (h + 1)) (els w S) l hlen (fun j e x he hx => by
        obtain ⟨h1, _, h3⟩ := hel j e x he hx
        show _ = (Rp.wellW (Rp.kd x) (Rp.tx x) (Rp.nm x) (Rp.ls x) && (Rp.ls x).all (Rp.right h))
        rw [h1]
        rcases h3 with ⟨h4, h3⟩ | ⟨g, m, c', h3, hm, hL⟩
        · rw [h3, h4]; rfl
        · rw [h3]; simp only [(den_all P w h (g, m) c' _ hm hL).2.1])
      have h2 := congrArg (fun L : List Bool => L.all id) this
      simp only [List.all_map] at h2
      exact h2
    · have := map_same (fun e : El => (e.2.1 && g == 0) || (match e.2.2 with | none => false | some c => deepE (els w) h (g - 1) c.1)) (Rp.deep (h + 1) g) (els w S) l hlen (fun j e x he hx => by
        obtain ⟨_, h1, h3⟩ := hel j e x he hx
        show _ = ((Rp.kd x == 6 && g == 0) || (Rp.ls x).any (Rp.deep h (g - 1)))
        rw [h1]
        rcases h3 with ⟨h4, h3⟩ | ⟨g', m, c', h3, hm, hL⟩
        · rw [h3, h4]; rfl
        · rw [h3]; simp only [(den_all P w h (g', m) c' _ hm hL).2.2.1 (g - 1)])
      have h2 := congrArg (fun L : List Bool => L.any id) this
      simp only [List.any_map] at h2
      exact h2
    · have := map_same (fun e : El => 1 + cw (wtE (els w) h) e) (cnt (h + 1)) (els w S) l hlen (fun j e x he hx => by
        obtain ⟨_, _, h3⟩ := hel j e x he hx
        show _ = 1 + ((Rp.ls x).map (cnt h)).sum
        unfold cw
        rcases h3 with ⟨h4, h3⟩ | ⟨g', m, c', h3, hm, hL⟩
        · rw [h3, h4]; rfl
        · rw [h3]; simp only [(den_all P w h (g', m) c' _ hm hL).2.2.2])
      exact congrArg List.sum this
theorem els_arr (w : World) : ∀ S e, e ∈ els w S → e.1 = true → e.2.2 ≠ none → e.2.1 = true := by
  intro S e he h1 h2
  unfold els at he
  obtain ⟨j, _, rfl⟩ := List.mem_map.1 he
  generalize cellsAt w S.1 (j * 4) = cs at *
  unfold elC at h1 h2 ⊢
  split at h1
  · rename_i _ k s _ i ao m c
    simp only at h1 h2 ⊢
    cases ao with
    | none => exact absurd rfl h2
    | some a =>
      by_cases hm : m = 0
      · simp [hm] at h2
      · obtain ⟨m', rfl⟩ : ∃ m', m = m' + 1 := ⟨m - 1, by omega⟩
        have he : (List.replicate (m' + 1) ()).isEmpty = false := rfl
        unfold Rp.wellW at h1
        rw [he] at h1
        simp only [Bool.and_false, Bool.false_and] at h1
        by_cases k6 : k = 6
        · simp [k6]
        · simp [k6] at h1
  · rename_i h
    simp_all
/-- what check says -/
def verd (n : Nat) (r : Rp.T n) : Int := if Rp.right n r = true then (if Rp.deep n 8 r = true then 161 else 0) else 160
theorem check_any (n : Nat) (r : Rp.T n) (cs : List Value) (w : World) (hn : n < 900000) (hc : cnt n r ≤ 4000000000000) (hT : Tel (· < w.heap.size) w n cs r) :
    Calls Tryd.prog 43 #[.agg cs.toArray] w fun e w' => e = .returned (.int .i64 (verd n r)) ∧ Below w.heap.size w w' := by
  obtain ⟨k, s, i, ao, m, c, rfl, _⟩ := hT.six
  refine check_walk n r k i s ao m c w (verd n r) hn hT (fun P w0 g hL => ?_)
  obtain ⟨h1, h2, h3, h4⟩ := den_all P w0 n (g, 1) 1 [r] (by show 0 < 1; omega) hL
  rw [bfs_all (els w0) n (g, 1) 1 (els_arr w0) h1 (by rw [h4]; simpa using hc), h2, h3]
  simp [verd]
end Go.Proofs.YtoalnfkjpdgbiaaDoor
