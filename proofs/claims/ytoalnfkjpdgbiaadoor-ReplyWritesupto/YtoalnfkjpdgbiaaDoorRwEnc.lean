/-
  Contracts over this program: Encode, the program's own and the document's, at every reply that holds little: one answer.
-/
import Derived.Test.YtoalnfkjpdgbiaaDoorRwRight1
import Derived.Test.YtoalnfkjpdgbiaaDoorRwDepth
import Derived.Test.YtoalnfkjpdgbiaaDoorRwWrit1
import Derived.Test.YtoalnfkjpdgbiaaDoorRpErr
namespace Go.Proofs.YtoalnfkjpdgbiaaDoor
open Go.RowKit
set_option linter.unusedVariables false
theorem sum_leN {α : Type} {f g : α → Nat} : ∀ (l : List α), (∀ x ∈ l, f x ≤ g x) → (l.map f).sum ≤ (l.map g).sum
  | [], _ => Nat.le_refl _
  | y :: l, h => by
    rw [List.map_cons, List.sum_cons, List.map_cons, List.sum_cons]
    have h1 := h y (.head _)
    have h2 := sum_leN l (fun x hx => h x (.tail _ hx))
    omega
theorem sum_seven {α : Type} (f : α → Nat) : ∀ (l : List α), (l.map (fun x => 7 * f x)).sum = 7 * (l.map f).sum
  | [] => rfl
  | y :: l => by
    have := sum_seven f l
    simp only [List.map_cons, List.sum_cons, this]
    omega
theorem cnt_wt : ∀ (n : Nat) (t : Rp.T n), cnt n t ≤ Rp.wt n t
  | 0, t => nomatch t
  | n + 1, t => by
    show 1 + ((Rp.ls t).map (cnt n)).sum ≤ 4 + (Rp.tx t).size + ((Rp.ls t).map (Rp.wt n)).sum
    have := sum_leN (Rp.ls t) (fun x _ => cnt_wt n x)
    omega
theorem enc_wt : ∀ (n : Nat) (t : Rp.T n), Rp.InP n t → Rp.wt n t ≤ 2000000 → (Rp.enc n t).length ≤ 7 * Rp.wt n t
  | 0, t, _, _ => nomatch t
  | n + 1, t, hi, hw => by
    have hw' : Rp.wt (n + 1) t = 4 + (Rp.tx t).size + ((Rp.ls t).map (Rp.wt n)).sum := rfl
    have hc : Rp.crlf.length = 2 := rfl
    have hln := Rp.sum_len (Rp.wt n) (Rp.wt_pos n) (Rp.ls t)
    have i1 := Pl.itoa_len (Rp.nm t) hi.1.1 hi.1.2
    have i2 := Pl.itoa_len ((Rp.tx t).size : Int) (by omega) (by omega)
    have i3 := Pl.itoa_len ((Rp.ls t).length : Int) (by omega) (by omega)
    have h2 := Rp.sum_enc (f := fun x => 7 * Rp.wt n x) (g := Rp.enc n) (Rp.ls t) (fun x hx => enc_wt n x (hi.2 x hx) (by have := Rp.sum_mem (Rp.wt n) _ x hx; omega))
    rw [sum_seven] at h2
    show (Rp.encW (Rp.enc n) (Rp.kd t) (Rp.tx t) (Rp.nm t) (Rp.ls t)).length ≤ _
    unfold Rp.encW
    rw [hw']
    repeat' split
    all_goals (simp only [List.length_cons, List.length_append, Rp.bytes_len, hc, List.length_nil]; omega)
/-- what Encode answers, and the row that is told is a new one -/
def EncT (n : Nat) (r : Rp.T n) (w : World) (e : Ending) (w' : World) : Prop :=
  (∃ ao m c, e = .returned (.tuple #[.slice ao m c, .int .i64 (verd n r)]) ∧ Nb w w' (.slice ao m c) (if verd n r = 0 then Rp.enc n r else [])) ∧ Below w.heap.size w w'
theorem nb_nil (w w' : World) : Nb w w' (.slice none 0 0) [] := ⟨Kb.nil _, fun k hk => by cases hk⟩
theorem verd_right {n : Nat} {r : Rp.T n} (h : verd n r = 0) : Rp.right n r = true ∧ Rp.deep n 8 r = false := by
  unfold verd at h
  split at h
  · rename_i h1
    split at h
    · cases h
    · rename_i h2; exact ⟨h1, by simpa using h2⟩
  · cases h
theorem pencode (n : Nat) (r : Rp.T n) (cs : List Value) (w : World) (hn : n < 900000) (hi : Rp.InP n r) (hw : Rp.wt n r ≤ 2000000) (hT : Tel (· < w.heap.size) w n cs r) (ht : Tab w) :
    Calls Tryd.prog 12 #[.agg cs.toArray] w (EncT n r w) := by
  have hc : cnt n r ≤ 4000000000000 := by have := cnt_wt n r; omega
  by_cases hv : verd n r = 0
  · refine (enc_ok n r cs w hn hc hT ht hv (verd_right hv).1 (by have := enc_wt n r hi hw; omega)).mono ?_
    rintro e w' ⟨⟨ao, m, c, he, hb⟩, hbl⟩
    exact ⟨⟨ao, m, c, by rw [hv]; exact he, by rw [if_pos hv]; exact hb⟩, hbl⟩
  · refine (enc_bad n r cs w hn hc hT hv).mono ?_
    rintro e w' ⟨he, hbl⟩
    exact ⟨⟨_, _, _, he, by rw [if_neg hv]; exact nb_nil _ _⟩, hbl⟩
set_option maxRecDepth 100000 in
set_option maxHeartbeats 4000000 in
theorem rencode (n : Nat) (r : Rp.T n) (cs : List Value) (w : World) (hn : n ≤ 1000) (hi : Rp.InP n r) (hw : Rp.wt n r ≤ 2000000) (hT : Tel (· < w.heap.size) w n cs r) :
    Calls Tryd.prog 11 #[.agg cs.toArray] w (EncT n r w) := by
  obtain ⟨PP, hPP⟩ : ∃ PP : Ending → World → Prop, PP = EncT n r w := ⟨_, rfl⟩
  rw [← hPP]
  have HP := keep hPP
  clear hPP
  obtain ⟨k, s, i, ao, m, c, rfl, _⟩ := hT.six
  obtain ⟨W1, hW1⟩ : ∃ x, x = w.alloc (.cells #[.int .i64 k, .string s, .int .i64 i, .slice ao m c] 25) := ⟨_, rfl⟩
  have x1 : Box W1 w.heap.size (.int .i64 k) (.string s) (.int .i64 i) (.slice ao m c) := hW1 ▸ Box.new w _ _ _ _
  have b1 : Below w.heap.size w W1 := hW1 ▸ (Below.refl _ _).alloc (Nat.le_refl _) _
  have T1 := keep (hT.any b1)
  have X1 := keep x1
  have B1 := keep b1
  have HT := keep hT
  have RI := keep (fun w hT => rright_any n r [.int .i64 k, .string s, .int .i64 i, .slice ao m c] w hT hw)
  have DE := keep (fun w hT => rdepth_any n r [.int .i64 k, .string s, .int .i64 i, .slice ao m c] w hn hT hw)
  have HL := keep (enc_wt n r hi hw)
  have HW := keep hw
  obtain ⟨d0, d1, d2, d3⟩ := x1.cells
  have hW1' := hW1.symm
  clear hn hT x1 b1 hW1 hi hw
  go_enter Tryd.func11, Tryd.ntmps11
  go_wp2_with fail
  refine (RI.out _ T1.out).mono ?_
  rintro e w2 ⟨rfl, b2⟩
  have B2 := keep (B1.out.trans (b2.mono B1.out.size))
  have X2 := keep (X1.out.below b2 X1.out.lt)
  have T2 := keep (HT.out.any B2.out)
  obtain ⟨e0, e1, e2, e3⟩ := X2.out.cells
  obtain ⟨q, hq⟩ : ∃ q, Rp.right n r = q := ⟨_, rfl⟩
  rw [hq]
  have HQ := keep hq
  clear hq b2 d0 d1 d2 d3 hW1'
  cases q with
  | false =>
    have hv : verd n r = 160 := by unfold verd; rw [HQ.out]; rfl
    have HV := keep hv
    clear hv
    go_wp2_with fail
    rw [HP.out]
    exact ⟨⟨_, _, _, by rw [HV.out]; rfl, by rw [HV.out]; exact nb_nil _ _⟩, B2.out⟩
  | true =>
    have DD := keep (deep_dpt n 8 r HQ.out)
    go_wp2_with fail
    refine (DE.out _ T2.out).mono ?_
    rintro e w3 ⟨rfl, b3⟩
    have B3 := keep (B2.out.trans (b3.mono B2.out.size))
    have X3 := keep (X2.out.below b3 X2.out.lt)
    obtain ⟨f0, f1, f2, f3⟩ := X3.out.cells
    obtain ⟨d, hd⟩ : ∃ d, dpt n r = d := ⟨_, rfl⟩
    rw [hd] at DD ⊢
    clear b3 hd e0 e1 e2 e3
    by_cases h8 : 8 < d
    · have h8' : (8 : Int) < (d : Int) := by omega
      have hv : verd n r = 161 := by unfold verd; rw [if_pos HQ.out, DD.out, if_pos (decide_eq_true h8)]
      have HV := keep hv
      clear hv
      go_wp2_with fail
      rw [HP.out]
      exact ⟨⟨_, _, _, by rw [HV.out]; rfl, by rw [HV.out]; exact nb_nil _ _⟩, B3.out⟩
    · have h8' : ¬ (8 : Int) < (d : Int) := by omega
      have hv : verd n r = 0 := by unfold verd; rw [if_pos HQ.out, DD.out, if_neg (by simpa using h8)]
      have HV := keep hv
      have PU := keep (rwrit_any n r (.slice none 0 0) [] _ 16777216 w3 (Tel.mono (fun b hb => ⟨Nat.lt_of_lt_of_le hb B3.out.size, by simp [Value.ownBlock]⟩) (fun b hb => B3.out.block b hb) n _ r HT.out) (Kb.nil _) HQ.out HW.out (by have := HL.out; have := HW.out; simp; omega))
      clear hv
      go_wp2_with fail
      refine PU.out.mono ?_
      rintro e w4 ⟨ao4, n4, c4, l4, rfl, k4, g4, we⟩
      have hl4 : l4 = Rp.enc n r := by
        rcases we.1 with h | h
        · simpa using h
        · exfalso
          have h1 := we.len
          have h2 := HL.out
          have h3 := HW.out
          simp at h1
          omega
      subst hl4
      have hn4 := k4.len
      have K4 : Kept (Nb w w4 (.slice ao4 n4 c4) (Rp.enc n r)) := keep ⟨k4, fun k hk => by
        rcases g4.2 k hk with e | e
        · cases e
        · exact Nat.le_trans B3.out.size e⟩
      have B4 := keep (B3.out.trans (g4.below B3.out.size (fun k hk => by cases hk)))
      have hle : ¬ (16777216 : Int) < (n4 : Int) := by have h2 := HL.out; have h3 := HW.out; omega
      clear k4 g4 hn4 PU we
      go_wp2_with fail
      rw [HP.out]
      exact ⟨⟨_, _, _, by rw [HV.out]; rfl, by rw [if_pos HV.out]; exact K4.out⟩, B4.out⟩
end Go.Proofs.YtoalnfkjpdgbiaaDoor
