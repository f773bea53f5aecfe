/-
  Contracts over this program: the document's own depth.
-/
import Derived.Test.YtoalnfkjpdgbiaaDoorRpPlainM
import Derived.Test.YtoalnfkjpdgbiaaDoorRpEnc
namespace Go.Proofs.YtoalnfkjpdgbiaaDoor
open Go.RowKit
set_option linter.unusedVariables false
/-- how deep a reply is, by the document -/
def dpt : (n : Nat) → Rp.T n → Nat
  | 0 => fun r => nomatch r
  | n + 1 => fun r => if Rp.kd r = 6 then ((Rp.ls r).map (dpt n)).foldl max 0 + 1 else 0
theorem fold_max (l : List Nat) : ∀ (a : Nat), a ≤ l.foldl max a ∧ (∀ x ∈ l, x ≤ l.foldl max a) ∧ (l.foldl max a = a ∨ l.foldl max a ∈ l) := by
  induction l with
  | nil => intro a; exact ⟨Nat.le_refl _, by simp, .inl rfl⟩
  | cons x l ih =>
    intro a
    rw [List.foldl_cons]
    obtain ⟨h1, h2, h3⟩ := ih (max a x)
    refine ⟨by omega, fun y hy => ?_, ?_⟩
    · rcases List.mem_cons.1 hy with rfl | hy
      · omega
      · exact h2 y hy
    · rcases h3 with h | h
      · rw [h]
        by_cases hax : a ≤ x
        · right; rw [Nat.max_eq_right hax]; exact .head _
        · left; exact Nat.max_eq_left (by omega)
      · right; exact .tail _ h
theorem dpt_le : ∀ (n : Nat) (t : Rp.T n), dpt n t ≤ n
  | 0, t => nomatch t
  | n + 1, t => by
    unfold dpt
    split
    · rcases (fold_max ((Rp.ls t).map (dpt n)) 0).2.2 with h | h
      · rw [h]; omega
      · obtain ⟨x, _, hx⟩ := List.mem_map.1 h
        have := dpt_le n x
        omega
    · omega
/-- where no list hangs but on an array, it is too deep just where one looks deeper than that -/
theorem deep_dpt : ∀ (n d : Nat) (t : Rp.T n), Rp.right n t = true → (Rp.deep n d t = decide (d < dpt n t))
  | 0, _, t, _ => nomatch t
  | n + 1, d, t, h => by
    have h' : (Rp.wellW (Rp.kd t) (Rp.tx t) (Rp.nm t) (Rp.ls t) && (Rp.ls t).all (Rp.right n)) = true := h
    rw [Bool.and_eq_true] at h'
    obtain ⟨hw, ha⟩ := h'
    show ((Rp.kd t == 6 && d == 0) || (Rp.ls t).any (Rp.deep n (d - 1))) = decide (d < if Rp.kd t = 6 then ((Rp.ls t).map (dpt n)).foldl max 0 + 1 else 0)
    by_cases hk : Rp.kd t = 6
    · have e6 : (Rp.kd t == 6) = true := by simp [hk]
      rw [if_pos hk, e6, Bool.true_and]
      cases d with
      | zero =>
        rw [decide_eq_true (Nat.succ_pos _)]
        rfl
      | succ d =>
        show (false || (Rp.ls t).any (Rp.deep n d)) = _
        rw [Bool.false_or, Bool.eq_iff_iff, decide_eq_true_eq, List.any_eq_true]
        constructor
        · rintro ⟨x, hx, hd⟩
          rw [deep_dpt n d x (List.all_eq_true.1 ha x hx), decide_eq_true_eq] at hd
          have := (fold_max ((Rp.ls t).map (dpt n)) 0).2.1 _ (List.mem_map.2 ⟨x, hx, rfl⟩)
          omega
        · intro hd
          rcases (fold_max ((Rp.ls t).map (dpt n)) 0).2.2 with h | h
          · omega
          · obtain ⟨x, hx, he⟩ := List.mem_map.1 h
            refine ⟨x, hx, ?_⟩
            rw [deep_dpt n d x (List.all_eq_true.1 ha x hx), decide_eq_true_eq]
            omega
    · have e6 : (Rp.kd t == 6) = false := by simp [hk]
      have hn : Rp.ls t = [] := by
        have hw2 := hw
        unfold Rp.wellW at hw2
        cases hl : Rp.ls t with
        | nil => rfl
        | cons x l =>
          rw [hl] at hw2
          exfalso
          split at hw2
          · simp at hw2
          · split at hw2
            · simp at hw2
            · split at hw2
              · simp at hw2
              · split at hw2
                · simp at hw2
                · cases hw2
      rw [if_neg hk, e6, hn]
      rfl
/-- what depth answers -/
def NtTold (w : World) (d : Nat) (e : Ending) (w' : World) : Prop := e = .returned (.int .i64 (d : Nat)) ∧ Below w.heap.size w w'
theorem fold_take {α : Type} {l : List α} {f : α → Nat} {j : Nat} {x : α} (hx : l[j]? = some x) : ((l.take (j + 1)).map f).foldl max 0 = max (((l.take j).map f).foldl max 0) (f x) := by
  rw [List.take_add_one, hx, List.map_append, List.foldl_append]
  rfl
set_option maxRecDepth 100000 in
set_option maxHeartbeats 8000000 in
theorem depth_list (n : Nat) (w : World) (k : Int) (s : ByteArray) (i : Int) (lv : Value) (l : List (Rp.T n)) (hn : n ≤ 1000) (hL : Lst (· < w.heap.size) w (Tel (· < w.heap.size) w n) lv l) (hl : l.length ≤ 16777216)
    (IH : ∀ (w' : World) (cs : List Value) (t : Rp.T n), t ∈ l → Tel (· < w'.heap.size) w' n cs t → Calls Tryd.prog 41 #[.agg cs.toArray] w' (NtTold w' (dpt n t))) :
    Calls Tryd.prog 41 #[.agg #[.int .i64 k, .string s, .int .i64 i, lv]] w (NtTold w (if k = 6 then (l.map (dpt n)).foldl max 0 + 1 else 0)) := by
  obtain ⟨D, hD⟩ : ∃ D, D = (if k = 6 then (l.map (dpt n)).foldl max 0 + 1 else 0) := ⟨_, rfl⟩
  rw [← hD]
  obtain ⟨PP, hPP⟩ : ∃ PP : Ending → World → Prop, PP = NtTold w D := ⟨_, rfl⟩
  rw [← hPP]
  have HP := keep hPP
  have HDD := keep hD
  clear hPP hD
  have AT := keep (fun j x (hx : l[j]? = some x) => hL.at hx (fun cs h => h.four))
  obtain ⟨ao, c, rfl, hlc, hcm⟩ := hL.form
  obtain ⟨ln, hln⟩ : ∃ q, l.length = q := ⟨_, rfl⟩
  rw [hln] at AT hlc hl ⊢
  obtain ⟨W1, hW1⟩ : ∃ x, x = w.alloc (.cells #[.int .i64 k, .string s, .int .i64 i, .slice ao ln c] 25) := ⟨_, rfl⟩
  have x1 : Box W1 w.heap.size (.int .i64 k) (.string s) (.int .i64 i) (.slice ao ln c) := hW1 ▸ Box.new w _ _ _ _
  have b1 : Below w.heap.size w W1 := hW1 ▸ (Below.refl _ _).alloc (Nat.le_refl _) _
  have B1 := keep b1
  have hW1' := hW1.symm
  obtain ⟨d0, d1, d2, d3⟩ := x1.cells
  have HLN := keep hln
  have HLL := keep hl
  have IHK := keep IH
  have HNN := keep hn
  clear hW1 x1 b1 hln hl hlc hcm hL IH hn
  go_enter Tryd.func41, Tryd.ntmps41
  by_cases hk : k = 6
  · subst hk
    have HD2 := keep (HDD.out.trans (if_pos rfl))
    go_wp2_with fail
    go_loopw [3, 12] (fun v3 v wr => ∃ (j d : Nat), j ≤ ln ∧ v = .int .i64 (j : Nat) ∧ v3 = .int .i64 (d : Nat) ∧ Kept (Below W1.heap.size W1 wr) ∧ Kept (d = ((l.take j).map (dpt n)).foldl max 0)) (fun _ v _ => ln - (intOf v).toNat)
    case atStart => exact ⟨0, 0, Nat.zero_le _, rfl, rfl, Below.refl _ _, by rw [List.take_zero]; rfl⟩
    case round =>
      obtain ⟨j, d, hj, rfl, rfl, KB, KD⟩ := hrel
      clear d0 d1 d2 d3 hW1'
      by_cases hlt : j < ln
      · have h0 : (0 : Int) ≤ (j : Int) := by omega
        have h1 : (j : Int) < (ln : Int) := by omega
        have nw : IntKind.i64.wrap ((j : Int) + 1) = ((j + 1 : Nat) : Int) := by have := HLL.out; rw [IntKind.wrap_i64]; omega
        obtain ⟨x, hx⟩ : ∃ x, l[j]? = some x := ⟨_, List.getElem?_eq_getElem (by rw [HLN.out]; exact hlt)⟩
        obtain ⟨g, cap, hao, hg, c0, c1, c2, c3, tx, m0, m1, m2, m3⟩ := AT.out j x hx
        obtain ⟨e0, e1, e2, e3, e4, e5, hcs, _⟩ := tx.six
        obtain ⟨rfl, rfl, rfl, rfl⟩ : c0 = .int .i64 e0 ∧ c1 = .string e1 ∧ c2 = .int .i64 e2 ∧ c3 = .slice e3 e4 e5 := by
          injection hcs with h1 h2
          injection h2 with h2 h3
          injection h3 with h3 h4
          injection h4 with h4 _
          exact ⟨h1, h2, h3, h4⟩
        clear hcs
        injection hao with ha1 _ ha3
        subst ha1
        subst ha3
        have BW := keep (B1.out.trans (KB.out.mono B1.out.size))
        have n0 := (BW.out.cell (p := ⟨g, j * 4, none⟩) hg).trans m0
        have n1 := (BW.out.cell (p := ⟨g, j * 4 + 1, none⟩) hg).trans m1
        have n2 := (BW.out.cell (p := ⟨g, j * 4 + 2, none⟩) hg).trans m2
        have n3 := (BW.out.cell (p := ⟨g, j * 4 + 3, none⟩) hg).trans m3
        obtain ⟨WA, hWA⟩ : ∃ x, x = wr.alloc (.cells #[.int .i64 e0, .string e1, .int .i64 e2, .slice e3 e4 e5] 25) := ⟨_, rfl⟩
        have xa : Box WA wr.heap.size (.int .i64 e0) (.string e1) (.int .i64 e2) (.slice e3 e4 e5) := hWA ▸ Box.new wr _ _ _ _
        have ba : Below wr.heap.size wr WA := hWA ▸ (Below.refl _ _).alloc (Nat.le_refl _) _
        obtain ⟨p0, p1, p2, p3⟩ := xa.cells
        have hWA' := hWA.symm
        have telx : Tel (· < WA.heap.size) WA n [.int .i64 e0, .string e1, .int .i64 e2, .slice e3 e4 e5] x :=
          Tel.mono (fun b hb => Nat.lt_of_lt_of_le hb (Nat.le_trans BW.out.size ba.size)) (fun b hb => (ba.block b (Nat.lt_of_lt_of_le hb BW.out.size)).trans (BW.out.block b hb)) _ _ _ tx
        have CALL := keep (IHK.out WA _ x (List.mem_of_getElem? hx) telx)
        have HX := keep hx
        have HLT := keep hlt
        have BA := keep (KB.out.trans (ba.mono KB.out.size))
        clear tx hg m0 m1 m2 m3 hx hWA xa ba telx hlt
        go_wp2_with fail
        refine CALL.out.mono ?_
        rintro e w2 ⟨rfl, b2⟩
        have B2 := keep (BA.out.trans (b2.mono BA.out.size))
        obtain ⟨r, hr⟩ : ∃ r, dpt n x = r := ⟨_, rfl⟩
        rw [hr]
        have HR := keep hr
        have hmx : max (d : Int) (r : Int) = ((max d r : Nat) : Int) := by omega
        clear hr b2 p0 p1 p2 p3 n0 n1 n2 n3 hWA'
        go_wp2_with fail
        go_roundw
        case measure => have := HLT.out; simp [intOf]; omega
        case rel => exact ⟨j + 1, max d r, HLT.out, by rfl, by rfl, B2, keep (by rw [fold_take HX.out, ← KD.out, HR.out])⟩
      · obtain rfl : j = ln := by omega
        have h1 : ¬ (j : Int) < (j : Int) := by omega
        have hd : d = (l.map (dpt n)).foldl max 0 := by
          have := KD.out
          rwa [List.take_of_length_le (by rw [HLN.out]; exact Nat.le_refl _)] at this
        have hdn : d ≤ n := by
          rw [hd]
          rcases (fold_max (l.map (dpt n)) 0).2.2 with h | h
          · rw [h]; omega
          · obtain ⟨x, _, hx⟩ := List.mem_map.1 h
            rw [← hx]
            exact dpt_le n x
        have nw : IntKind.i64.wrap ((d : Int) + 1) = ((d + 1 : Nat) : Int) := by have := HNN.out; rw [IntKind.wrap_i64]; omega
        have HDE := keep (HD2.out.trans (congrArg (· + 1) hd.symm))
        clear hd hdn
        go_wp2_with fail
        rw [HP.out, HDE.out]
        exact ⟨by rfl, B1.out.trans (KB.out.mono B1.out.size)⟩
  · have HD2 := keep (HDD.out.trans (if_neg hk))
    have e6 : (k == 6) = false := by simpa using hk
    go_wp2_with fail
    rw [HP.out, HD2.out]
    exact ⟨by rfl, B1.out⟩
theorem rdepth_any : ∀ (n : Nat) (t : Rp.T n) (cs : List Value) (w : World), n ≤ 1000 → Tel (· < w.heap.size) w n cs t → Rp.wt n t ≤ 2000000 →
    Calls Tryd.prog 41 #[.agg cs.toArray] w (NtTold w (dpt n t))
  | 0, t, _, _, _, _, _ => nomatch t
  | n + 1, t, cs, w, hn, hT, hw => by
    obtain ⟨v, rfl, hL, hk, hi, hs⟩ := hT
    have hw' : Rp.wt (n + 1) t = 4 + (Rp.tx t).size + ((Rp.ls t).map (Rp.wt n)).sum := rfl
    exact depth_list n w (Rp.kd t) (Rp.tx t) (Rp.nm t) v (Rp.ls t) (by omega) hL (by have := Rp.sum_len (Rp.wt n) (Rp.wt_pos n) (Rp.ls t); omega) (fun w' cs' u hu hT' => rdepth_any n u cs' w' (by omega) hT' (by have := Rp.sum_mem (Rp.wt n) _ u hu; omega))
end Go.Proofs.YtoalnfkjpdgbiaaDoor
