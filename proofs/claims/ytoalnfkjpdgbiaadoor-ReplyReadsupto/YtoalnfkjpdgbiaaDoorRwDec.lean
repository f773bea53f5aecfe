/-
  Contracts over this program: the document's own Decode, beside the program's.
-/
import Derived.Test.YtoalnfkjpdgbiaaDoorRwRead
import Derived.Test.YtoalnfkjpdgbiaaDoorRpFormW
namespace Go.Proofs.YtoalnfkjpdgbiaaDoor
open Go.RowKit
set_option linter.unusedVariables false
theorem rread_any : ∀ (n : Nat), n ≤ 8 → ∀ (v : Value) (b : List UInt8) (w : World) (at' : Nat), at' ≤ b.length → Bs (· < w.heap.size) w v b → b.length ≤ 1048576 →
    Calls Tryd.prog 45 #[v, .int .i64 (at' : Int), .int .i64 (8 - (n : Int))] w (RdTold (n + 1) b.length w (Rp.dec n (b.drop at')))
  | 0, _, v, b, w, at', hat, h, hb => read_go 0 v b 8 (fun _ _ => .error 161) (by omega) (.inl ⟨rfl, fun _ _ => rfl⟩) w at' hat h hb
  | n + 1, hn, v, b, w, at', hat, h, hb =>
    read_go (n + 1) v b (8 - ((n + 1 : Nat) : Int)) (Rp.many (Rp.dec n)) (by omega) (.inr ⟨by omega, Rp.dec n, rfl, fun y t r hd => ⟨_, (Rp.form n y t r hd).1⟩, fun y e hd => Rp.dec_err0 n y e hd, fun w at' hat h => by
      rw [show (8 : Int) - ((n + 1 : Nat) : Int) + 1 = 8 - (n : Int) by omega]
      exact rread_any n (by omega) v b w at' hat h hb⟩) w at' hat h hb
namespace Rp
theorem sum_le2 {α : Type} {f : α → Nat} {g : α → List UInt8} : ∀ (l : List α), (∀ x ∈ l, 3 * f x ≤ 4 * (g x).length) → 3 * (l.map f).sum ≤ 4 * (l.flatMap g).length
  | [], _ => by simp
  | x :: l, h => by
    have h1 := h x (by simp)
    have h2 := sum_le2 l (fun y hy => h y (by simp [hy]))
    rw [List.map_cons, List.sum_cons, List.flatMap_cons, List.length_append]
    omega
theorem enc_flat {α : Type} (e : α → List UInt8) (k : Int) (s : ByteArray) (i : Int) (h : wellW k s i ([] : List α) = true) : 3 + s.size ≤ (encW e k s i ([] : List α)).length := by
  have hs : (bytesOf s).length = s.size := bytes_len s
  unfold wellW at h
  unfold encW crlf
  repeat' split at h
  all_goals (repeat' split)
  all_goals simp at h ⊢
  all_goals first | omega | (have e0 : s.size = 0 := by simp [h]
                             omega)
theorem enc_full {n : Nat} {t : T (n + 1)} (h : kd t = 6) : (enc (n + 1) t).length ≥ 3 + ((ls t).flatMap (enc n)).length := by
  show (encW (enc n) (kd t) (tx t) (nm t) (ls t)).length ≥ _
  rw [h]
  unfold encW
  rw [if_neg (by decide), if_neg (by decide), if_neg (by decide), if_neg (by decide), if_neg (by decide), if_neg (by decide)]
  simp only [List.length_cons, List.length_append, crlf, List.length_nil]
  omega
theorem wt_enc : ∀ (n : Nat) (t : T n), right n t = true → 3 * wt n t ≤ 4 * (enc n t).length
  | 0, t, _ => nomatch t
  | n + 1, t, h => by
    have h' : (wellW (kd t) (tx t) (nm t) (ls t) && (ls t).all (right n)) = true := h
    rw [Bool.and_eq_true] at h'
    show 3 * (4 + (tx t).size + ((ls t).map (wt n)).sum) ≤ _
    rcases well_list h'.1 with e | e
    · have h3 : 3 + (tx t).size ≤ (enc (n + 1) t).length := by
        have hw := h'.1
        show _ ≤ (encW (enc n) (kd t) (tx t) (nm t) (ls t)).length
        rw [e] at hw ⊢
        exact enc_flat (enc n) _ _ _ hw
      rw [e]
      simp
      omega
    · have h4 := enc_full e
      have h5 := sum_le2 (f := wt n) (g := enc n) (ls t) (fun x hx => wt_enc n x (List.all_eq_true.1 h'.2 x hx))
      have h6 : (tx t).size = 0 := by
        have hw := h'.1
        unfold wellW at hw
        rw [e] at hw
        simp at hw
        rw [hw.1]; rfl
      omega
end Rp
/-- what Decode answers, either of them -/
def DcT (T : Rp.T 9) (Z C : Int) (w : World) (e : Ending) (w' : World) : Prop := ∃ q0 q1 q2 q3 q4 q5, e = .returned (.tuple #[.agg #[.int .i64 q0, .string q1, .int .i64 q2, .slice q3 q4 q5], .int .i64 Z, .int .i64 C]) ∧ Tel (fun x => w.heap.size ≤ x ∧ x < w'.heap.size) w' 9 [.int .i64 q0, .string q1, .int .i64 q2, .slice q3 q4 q5] T ∧ Below w.heap.size w w'
theorem tel_none2 (P : Nat → Prop) (w : World) (n : Nat) : Tel P w (n + 1) [.int .i64 0, .string ⟨#[]⟩, .int .i64 0, .slice none 0 0] ((0, .empty, 0, []) : Rp.T (n + 1)) :=
  tel_leaf P w n 0 0 .empty (i64s (by decide) (by decide)) (i64s (by decide) (by decide)) (by show (0 : Nat) < 4294967281; decide)
theorem dct_err {w w' : World} {e : Ending} {c : Int} (he : e = .returned (.tuple #[nought, .int .i64 0, .int .i64 c])) (hb : Below w.heap.size w w') : DcT ((0, .empty, 0, []) : Rp.T 9) 0 c w e w' :=
  ⟨0, ⟨#[]⟩, 0, none, 0, 0, he, tel_none2 _ _ _, hb⟩
theorem dct_ok {w w' : World} {e : Ending} {Z : Int} {t : Rp.T 9} {cs : List Value} (he : e = .returned (.tuple #[.agg cs.toArray, .int .i64 Z, .int .i64 0])) (ht : Tel (fun x => w.heap.size ≤ x ∧ x < w'.heap.size) w' 9 cs t) (hb : Below w.heap.size w w') : DcT t Z 0 w e w' := by
  obtain ⟨q0, q1, q2, q3, q4, q5, rfl, _⟩ := ht.six
  exact ⟨q0, q1, q2, q3, q4, q5, he, ht, hb⟩
set_option maxRecDepth 100000 in
set_option maxHeartbeats 4000000 in
theorem rdecode_go (v : Value) (T : Rp.T 9) (Z C : Int) (w : World) (hZ : Z ≤ 16777216) (H : ∀ w', Below w.heap.size w w' → Calls Tryd.prog 45 #[v, .int .i64 0, .int .i64 0] w' (DcT T Z C w')) :
    Calls Tryd.prog 18 #[v] w (DcT T Z C w) := by
  obtain ⟨PP, hPP⟩ : ∃ PP : Ending → World → Prop, PP = DcT T Z C w := ⟨_, rfl⟩
  rw [← hPP]
  have HP := keep hPP
  clear hPP
  obtain ⟨W1, hW1⟩ : ∃ x, x = w.alloc (.cells #[.int .i64 0, .string ⟨#[]⟩, .int .i64 0, .slice none 0 0] 25) := ⟨_, rfl⟩
  have x1 : Box W1 w.heap.size (.int .i64 0) (.string ⟨#[]⟩) (.int .i64 0) (.slice none 0 0) := hW1 ▸ Box.new w _ _ _ _
  have b1 : Below w.heap.size w W1 := hW1 ▸ (Below.refl _ _).alloc (Nat.le_refl _) _
  have X1 := keep x1
  have B1 := keep b1
  have CA := keep (H W1 b1)
  have hW1' := hW1.symm
  clear H hW1 x1 b1
  go_enter Tryd.func18, Tryd.ntmps18
  go_wp2_with fail
  refine CA.out.mono ?_
  rintro e w2 ⟨q0, q1, q2, q3, q4, q5, rfl, tx, b2⟩
  obtain ⟨W4, hW4⟩ : ∃ x, x = w2.alloc (.cells #[.int .i64 0, .string ⟨#[]⟩, .int .i64 0, .slice none 0 0] 25) := ⟨_, rfl⟩
  have x4 : Box W4 w2.heap.size (.int .i64 0) (.string ⟨#[]⟩) (.int .i64 0) (.slice none 0 0) := hW4 ▸ Box.new w2 _ _ _ _
  have b4 : Below w2.heap.size w2 W4 := hW4 ▸ (Below.refl _ _).alloc (Nat.le_refl _) _
  obtain ⟨W5, hW5⟩ : ∃ x, x = set4 W4 w2.heap.size (.int .i64 q0) (.string q1) (.int .i64 q2) (.slice q3 q4 q5) := ⟨_, rfl⟩
  have x5 : Box W5 w2.heap.size (.int .i64 q0) (.string q1) (.int .i64 q2) (.slice q3 q4 q5) := hW5 ▸ Box.four x4 _ _ _ _
  have b5 : Below w2.heap.size w2 W5 := hW5 ▸ Below.four b4 (Nat.le_refl _) _ _ _ _
  have b15 : Below W1.heap.size W1 W5 := b2.trans (b5.mono b2.size)
  have X15 := keep (X1.out.below b15 X1.out.lt)
  have B5 := keep (B1.out.trans (b15.mono B1.out.size))
  have SZ := keep (show w.heap.size < W1.heap.size from X1.out.lt)
  have T5 := keep (show Tel (fun x => W1.heap.size ≤ x ∧ x < W5.heap.size) W5 9 [.int .i64 q0, .string q1, .int .i64 q2, .slice q3 q4 q5] T from Tel.mono (fun b h => ⟨h.1, Nat.lt_of_lt_of_le h.2 b5.size⟩) (fun b h => b5.block b h.2) _ _ _ tx)
  have hW4' := hW4.symm
  have hW5' : (((W4.setCell ⟨w2.heap.size, 0, none⟩ (.int .i64 q0)).setCell ⟨w2.heap.size, 1, none⟩ (.string q1)).setCell ⟨w2.heap.size, 2, none⟩ (.int .i64 q2)).setCell ⟨w2.heap.size, 3, none⟩ (.slice q3 q4 q5) = W5 := hW5.symm
  obtain ⟨y0, y1, y2, y3⟩ := x4.cells
  have v0 := x4.free 0
  have v1 := x4.free 1
  have v2 := x4.free 2
  have v3 := x4.free 3
  obtain ⟨d0, d1, d2, d3⟩ := x5.cells
  obtain ⟨a0, a1, a2, a3⟩ := X15.out.cells
  have f0 := X15.out.free 0
  have f1 := X15.out.free 1
  have f2 := X15.out.free 2
  have f3 := X15.out.free 3
  have hz : decide ((16777216 : Int) < Z) = false := decide_eq_false (by omega)
  have hz' : ¬ (16777216 : Int) < Z := by omega
  clear hW4 hW5 x4 x5 b4 b5 b15 b2 tx hZ
  by_cases hc : C = 0
  · subst hc
    go_wp2_with fail
    refine bodyPost_ret (res_rp3 rfl _ _ w.heap.size _ _ _ _ rfl (Box.four X15.out _ _ _ _)) rfl ?_
    rw [HP.out]
    refine ⟨q0, q1, q2, q3, q4, q5, rfl, Tel.mono (fun b h => ⟨by have := SZ.out; omega, by simpa [set4, World.setCell] using h.2⟩) (fun b h => four_other (by have := SZ.out; omega) _ _ _ _) _ _ _ T5.out, Below.four B5.out (Nat.le_refl _) _ _ _ _⟩
  · have hc' : (C == 0) = false := by simp [hc]
    go_wp2_with fail
    refine bodyPost_ret (res_rp3 rfl _ _ w.heap.size _ _ _ _ rfl (Box.four X15.out _ _ _ _)) rfl ?_
    rw [HP.out]
    refine ⟨q0, q1, q2, q3, q4, q5, rfl, Tel.mono (fun b h => ⟨by have := SZ.out; omega, by simpa [set4, World.setCell] using h.2⟩) (fun b h => four_other (by have := SZ.out; omega) _ _ _ _) _ _ _ T5.out, Below.four B5.out (Nat.le_refl _) _ _ _ _⟩
theorem dec_both (b : List UInt8) (hb : b.length ≤ 1048576) : ∃ (T : Rp.T 9) (Z C : Int), Rp.wt 9 T ≤ 2000000 ∧
    (∀ v w, Bs (· < w.heap.size) w v b → Calls Tryd.prog 18 #[v] w (DcT T Z C w)) ∧
    (∀ v w, Bs (· < w.heap.size) w v b → Vars w → 3 ≤ w.heap.size → Calls Tryd.prog 19 #[v] w (DcT T Z C w)) := by
  match hd : Rp.dec 8 b with
  | .error c =>
    refine ⟨(0, .empty, 0, []), 0, c, by decide, fun v w h => rdecode_go v _ 0 c w (by decide) (fun w' hb' => ?_), fun v w h hv h3 => (Decode_err w v b c h hv h3 (by omega) hd).mono fun e w' ⟨he, hbl⟩ => dct_err he hbl⟩
    refine (rread_any 8 (by decide) v b w' 0 (Nat.zero_le _) (h.later hb') hb).mono fun e w2 he => ?_
    rw [List.drop_zero, hd] at he
    exact dct_err he.1 he.2
  | .ok (t, x) =>
    have hf := Rp.form 8 b t x hd
    have hl : b.length = (Rp.enc 9 t).length + x.length := by rw [hf.1, List.length_append]
    have hw := Rp.wt_enc 9 t hf.2.1
    refine ⟨t, ((b.length - x.length : Nat) : Int), 0, by omega, fun v w h => rdecode_go v _ _ 0 w (by omega) (fun w' hb' => ?_), fun v w h hv h3 => (Decode_ok w v b x t h hv h3 (by omega) hd (by omega)).mono fun e w' ⟨⟨cs, he, ht⟩, hbl⟩ => dct_ok he ht hbl⟩
    refine (rread_any 8 (by decide) v b w' 0 (Nat.zero_le _) (h.later hb') hb).mono fun e w2 he => ?_
    rw [List.drop_zero, hd] at he
    obtain ⟨cs, h1, h2, h3⟩ := he
    exact dct_ok h1 h2 h3
end Go.Proofs.YtoalnfkjpdgbiaaDoor
