/-
  Plain mathematics: two patterns side by side mean what can be cut in two, of which the one means the first and the other the second.
-/
import Derived.Test.YtekkpmonflpenaaGlobTexts
namespace Go.Proofs.Ytekkpmonflpenaa
open Go.RowKit
namespace Gb
theorem M_star_app {p : List Sg} {t : List UInt8} : M (.star :: p) t = true ↔ ∃ x y, t = x ++ y ∧ M p y = true := by
  rw [M_star]
  constructor
  · rintro ⟨k, h⟩; exact ⟨t.take k, t.drop k, (List.take_append_drop k t).symm, h⟩
  · rintro ⟨x, y, rfl, h⟩; exact ⟨x.length, by rw [List.drop_left]; exact h⟩
theorem M_app (p q : List Sg) (t : List UInt8) : M (p ++ q) t = true ↔ ∃ u v, t = u ++ v ∧ M p u = true ∧ M q v = true := by
  induction p generalizing t with
  | nil =>
    constructor
    · intro h; exact ⟨[], t, rfl, rfl, h⟩
    · rintro ⟨u, v, rfl, h1, h2⟩
      have : u = [] := by cases u with
        | nil => rfl
        | cons c r => simp [M] at h1
      subst this; exact h2
  | cons g p ih =>
    cases hg : g.isStar
    · cases t with
      | nil =>
        rw [List.cons_append, M_one_nil hg]
        constructor
        · intro h; cases h
        · rintro ⟨u, v, h0, h1, _⟩
          have : u = [] := by
            cases u with
            | nil => rfl
            | cons c r => cases h0
          subst this
          rw [M_one_nil hg] at h1
          cases h1
      | cons c r =>
        rw [List.cons_append, M_one_cons hg, Bool.and_eq_true, ih]
        constructor
        · rintro ⟨hc, u, v, rfl, h1, h2⟩
          exact ⟨c :: u, v, rfl, by rw [M_one_cons hg, hc, h1]; rfl, h2⟩
        · rintro ⟨u, v, h0, h1, h2⟩
          cases u with
          | nil => rw [M_one_nil hg] at h1; cases h1
          | cons d u =>
            cases h0
            rw [M_one_cons hg, Bool.and_eq_true] at h1
            exact ⟨h1.1, u, v, rfl, h1.2, h2⟩
    · have e : g = .star := by rcases g with _ | _ <;> first | rfl | cases hg
      subst e
      rw [List.cons_append, M_star_app]
      constructor
      · rintro ⟨x, y, rfl, h⟩
        obtain ⟨u, v, rfl, h1, h2⟩ := (ih y).1 h
        exact ⟨x ++ u, v, by simp, M_star_app.2 ⟨x, u, rfl, h1⟩, h2⟩
      · rintro ⟨u, v, rfl, h1, h2⟩
        obtain ⟨x, y, rfl, h⟩ := M_star_app.1 h1
        exact ⟨x, y ++ v, by simp, (ih _).2 ⟨y, v, rfl, h, h2⟩⟩
end Gb
theorem sgs_txt (L : List SgL) (q : List UInt8) : Gb.sgs (txt L ++ q) = L.map (fun g => Gb.sgOf g.k g.a g.b g.l) ++ Gb.sgs q := by
  induction L with
  | nil => rfl
  | cons g L ih =>
    have e : txt (g :: L) ++ q = Gb.wr g.k g.a g.b g.l ++ (txt L ++ q) := by simp [txt, SgL.wr]
    rw [e, Gb.sgs_wr, ih]
    rfl
/-- whether one of the first j cuts fits -/
def cutB (A B s : ByteArray) (j : Nat) : Bool := (List.range j).any fun i => Gb.ans A (s.extract 0 i) && Gb.ans B (s.extract i s.size)
theorem cut_more {A B s : ByteArray} {j : Nat} : cutB A B s (j + 1) = (cutB A B s j || (Gb.ans A (s.extract 0 j) && Gb.ans B (s.extract j s.size))) := by
  unfold cutB
  rw [List.range_succ, List.any_append]
  simp
theorem ext_front (s : ByteArray) (i : Nat) : (s.extract 0 i).data.toList = s.data.toList.take i := by
  rw [Gb.ext_list]; rfl
theorem ext_back (s : ByteArray) (i : Nat) : (s.extract i s.size).data.toList = s.data.toList.drop i := by
  rw [Gb.ext_list]
  exact List.take_of_length_le (by rw [Gb.D_len]; omega)
theorem split_all (L K : List SgL) (s : ByteArray) : Gb.ans (txtB L ++ txtB K) s = cutB (txtB L) (txtB K) s (s.size + 1) := by
  apply Gb.bool_iff
  unfold Gb.ans cutB
  have e1 : Gb.D (txtB L ++ txtB K) 0 = txt L ++ (txt K ++ []) := by rw [Gb.D_zero, Gb.data_app, List.append_nil]; rfl
  have e2 : ∀ J : List SgL, Gb.D (txtB J) 0 = txt J ++ [] := fun J => by rw [List.append_nil]; rfl
  rw [e1, sgs_txt, sgs_txt, Gb.sgs_nil, List.append_nil, Gb.M_app, List.any_eq_true]
  constructor
  · rintro ⟨u, v, h0, h1, h2⟩
    have hl := congrArg List.length h0
    rw [Gb.D_zero, Gb.len, List.length_append] at hl
    refine ⟨u.length, List.mem_range.2 (by omega), ?_⟩
    unfold Gb.ans
    rw [e2, e2, sgs_txt, sgs_txt, Gb.sgs_nil, List.append_nil, List.append_nil, Gb.D_zero, Gb.D_zero, ext_front, ext_back]
    rw [Gb.D_zero] at h0
    rw [h0, List.take_left, List.drop_left, h1, h2]
    rfl
  · rintro ⟨i, _, h⟩
    unfold Gb.ans at h
    rw [e2, e2, sgs_txt, sgs_txt, Gb.sgs_nil, List.append_nil, List.append_nil, Gb.D_zero, Gb.D_zero, ext_front, ext_back, Bool.and_eq_true] at h
    exact ⟨s.data.toList.take i, s.data.toList.drop i, (List.take_append_drop i _).symm, h.1, h.2⟩
theorem txtB_size (L : List SgL) : (txtB L).size = (txt L).length := by
  show (txt L).toArray.size = _
  rw [List.size_toArray]
set_option maxHeartbeats 8000000 in
set_option maxRecDepth 100000 in
theorem splits_walk (vp vq : Value) (L K : List SgL) (s : ByteArray) (w : World) (hL : L.length ≤ 1048576) (hK : K.length ≤ 1048576) (hTL : (txt (L.take 40)).length ≤ 16777216) (hTK : (txt (K.take 40)).length ≤ 16777216) (hs : s.size ≤ 1048576) (hp : hasSigns w vp L) (hq : hasSigns w vq K) :
    Calls Try.prog 5 #[vp, vq, .string s] w fun e w' => e = .returned (.bool true) ∧ Below w.heap.size w w' := by
  have hS : (200 < s.size ∧ decide ((200 : Int) < (s.size : Int)) = true ∧ ∃ S, s.extract 0 200 = S ∧ S.size ≤ 200) ∨ (¬ 200 < s.size ∧ decide ((200 : Int) < (s.size : Int)) = false ∧ ∃ S, S = s ∧ S.size ≤ 200) := by
    by_cases h : 200 < s.size
    · exact .inl ⟨h, decide_eq_true (by omega), _, rfl, by rw [ByteArray.size_extract]; omega⟩
    · exact .inr ⟨h, decide_eq_false (by omega), _, rfl, by omega⟩
  have hl40 : (L.take 40).length ≤ 1048576 := by rw [List.length_take]; omega
  have hk40 : (K.take 40).length ≤ 1048576 := by rw [List.length_take]; omega
  have zA := txtB_size (L.take 40)
  have zB := txtB_size (K.take 40)
  have mM := fun A t w h1 h2 => match_any A t w h1 h2
  have mAB := fun t w h => match_any (txtB (L.take 40) ++ txtB (K.take 40)) t w (by simp; omega) h
  have hsp := fun t => split_all (L.take 40) (K.take 40) t
  have hsp := keep hsp
  have hp := keep hp
  have hq := keep hq
  have fP := fun w h => few_any vp L w hL h
  have fQ := fun w h => few_any vq K w hK h
  have tP := fun v w h => text_any v (L.take 40) w hl40 hTL h
  have tQ := fun v w h => text_any v (K.take 40) w hk40 hTK h
  generalize txtB (L.take 40) = A at *
  generalize txtB (K.take 40) = B at *
  rcases hS with ⟨h0, hd, S, hS, hs2⟩ | ⟨h0, hd, S, rfl, hs2⟩
  all_goals
    go_enter Try.func5, Try.ntmps5
    go_wp2_with fail
    refine (wakes_any _).mono ?_
    rintro e w1 ⟨rfl, b1⟩
    have b1 := keep b1
    go_wp2_with fail
    refine (fP _ (hasSigns_below hp.out b1.out)).mono ?_
    rintro e w2 ⟨v2, rfl, r2, hw⟩; obtain rfl := hw.symm
    go_wp2_with fail
    refine (tP _ _ r2.out).mono ?_
    rintro e w3 ⟨rfl, b3⟩
    have b3 := keep (bel_trans b1.out b3)
    go_wp2_with fail
    refine (fQ _ (hasSigns_below hq.out b3.out)).mono ?_
    rintro e w4 ⟨v4, rfl, r4, hw⟩; obtain rfl := hw.symm
    go_wp2_with fail
    refine (tQ _ _ r4.out).mono ?_
    rintro e w5 ⟨rfl, b5⟩
    have b5 := keep (bel_trans b3.out b5)
    clear b1 b3 r2 r4 fP fQ tP tQ
    go_wp2
    go_loopg [9, 10] (S.size + 1) (fun g v9 v10 wx => ∃ j : Nat, j + g = S.size + 1 ∧ v10 = .int .i64 j ∧ v9 = .bool (cutB A B S j) ∧ Below w.heap.size w wx)
    case atStart => exact ⟨0, by omega, rfl, rfl, b5.out⟩
    case round =>
      obtain ⟨j, hjg, rfl, rfl, hbw⟩ := hrel
      by_cases hlt : j ≤ S.size
      · have hm := keep (cut_more (A := A) (B := B) (s := S) (j := j))
        have z1 := ext_size S 0 j
        have z2 := ext_size S j S.size
        cases hc : cutB A B S j
        · have mA := fun w => mM A (S.extract 0 j) w (by omega) (by omega)
          have mB := fun w => mM B (S.extract j S.size) w (by omega) (by omega)
          obtain ⟨qa, hqa⟩ : ∃ q, Gb.ans A (S.extract 0 j) = q := ⟨_, rfl⟩
          obtain ⟨qb, hqb⟩ : ∃ q, Gb.ans B (S.extract j S.size) = q := ⟨_, rfl⟩
          rw [hqa] at mA
          rw [hqb] at mB
          have hm2 := keep (hm.out.trans (by rw [hc, hqa, hqb] : _ = (false || (qa && qb))))
          clear hqa hqb hm
          clear mM
          cases qa
          · go_wp2_with fail
            refine (mA _).mono ?_
            rintro e w6 ⟨rfl, b6⟩
            have b6 := keep (bel_trans hbw b6)
            clear mA mB
            go_wp2
            go_roundg (S.size - j)
            case measure => omega
            case rel => exact ⟨j + 1, by omega, by go_num, by rw [hm2.out]; rfl, b6.out⟩
          · go_wp2_with fail
            refine (mA _).mono ?_
            rintro e w6 ⟨rfl, b6⟩
            have b6 := keep (bel_trans hbw b6)
            go_wp2_with fail
            refine (mB _).mono ?_
            rintro e w7 ⟨rfl, b7⟩
            have b7 := keep (bel_trans b6.out b7)
            clear mA mB
            go_wp2
            go_roundg (S.size - j)
            case measure => omega
            case rel => exact ⟨j + 1, by omega, by go_num, by rw [hm2.out]; simp, b7.out⟩
        · clear mM
          go_wp2
          go_roundg (S.size - j)
          case measure => omega
          case rel => exact ⟨j + 1, by omega, by go_num, by rw [hm.out, hc]; rfl, hbw⟩
      · have hj : j = S.size + 1 := by omega
        subst hj
        have mF := fun w => mAB S w (by omega)
        rw [hsp.out] at mF
        clear mM
        generalize cutB A B S (S.size + 1) = q at *
        go_wp2_with fail
        refine (mF _).mono ?_
        rintro e w6 ⟨rfl, b6⟩
        go_wp2
        go_ret
        exact ⟨ret_b (by simp), bel_trans hbw b6⟩
end Go.Proofs.Ytekkpmonflpenaa
