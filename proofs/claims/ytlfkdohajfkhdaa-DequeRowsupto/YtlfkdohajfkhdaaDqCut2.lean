/-
  Contracts over this program: cut.
-/
import Derived.Test.YtlfkdohajfkhdaaDqCut1
namespace Go.Proofs.Ytlfkdohajfkhdaa
open Go.RowKit Go.Shelf
set_option linter.unusedVariables false
/-- the chunks behind a cut -/
def cutC (A : List Chk) (c : Nat) (us : List ByteArray) (B : List Chk) : List Chk := if us.length = 0 then A ++ B else A ++ (c, us) :: B
theorem cutC_row (A : List Chk) (c : Nat) (us : List ByteArray) (B : List Chk) : row (cutC A c us B) = row A ++ (us ++ row B) := by
  unfold cutC
  split
  · rename_i h
    rw [List.length_eq_zero_iff.1 h, row_app]; rfl
  · rw [row_app, row_cons]
theorem ck_ties {w : World} {c : Nat} {pv nv pv' nv' : Value} {ts us : List ByteArray} (h : Ck w c pv nv ts) (g : Ck w c pv' nv' us) : pv' = pv ∧ nv' = nv := by
  have a := h.cells
  have b := g.cells
  rw [a.1] at b
  rw [a.2.1] at b
  exact ⟨(Option.some.inj b.1).symm, (Option.some.inj b.2.1).symm⟩
theorem ds_same {w : World} {b : Nat} {f l f' l' : Value} {n k n' k' : Nat} (h : Ds w b f l n k) (g : Ds w b f' l' n' k') : f' = f ∧ l' = l := by
  have a := h.four
  have b := g.four
  rw [a.1] at b
  rw [a.2.1] at b
  exact ⟨(Option.some.inj b.1).symm, (Option.some.inj b.2.1).symm⟩
theorem cut_any (w : World) (b c : Nat) (A B : List Chk) (ts : List ByteArray) (fr to : Nat) (hd : Dq0 w b (A ++ (c, ts) :: B)) (h1 : fr < to) (h2 : to ≤ ts.length) :
    Calls Try.prog 54 #[ptr b, ptr c, .int .i64 fr, .int .i64 to] w fun e w' => e = .returned (.tuple #[]) ∧ Dq0 w' b (cutC A c (ts.take fr ++ ts.drop to) B) ∧ Fd b (A ++ (c, ts) :: B) w w' (cutC A c (ts.take fr ++ ts.drop to) B) := by
  obtain ⟨d1, d2, d3, d4, d5⟩ := id hd
  obtain ⟨n1, n2, n3, n4, n5⟩ := nd_mem d3
  obtain ⟨cA, cC⟩ := ch_app.1 d2
  obtain ⟨X, hX, ht⟩ := cC.1.cx
  have hX32 := cC.1.le
  have hle : ts.length ≤ 32 := hX32
  have hcl := costL_le d4
  have hz : ∀ t ∈ ts, t.size ≤ 1048576 := fun t ht => d4 t (by rw [row_app, row_cons]; simp [ht])
  have e0 : costL (row (A ++ (c, ts) :: B)) = costL (row A) + (costL ts + costL (row B)) := by rw [row_app, row_cons, costL_app, costL_app]
  have e1 : costL ts = costL (ts.take fr) + costL (ts.drop fr) := by rw [← costL_app, List.take_append_drop]
  have e2 : costL (ts.drop fr) = costL ((ts.drop fr).take (to - fr)) + costL (ts.drop to) := by
    have := costL_app ((ts.drop fr).take (to - fr)) ((ts.drop fr).drop (to - fr))
    rw [List.take_append_drop, List.drop_drop, show fr + (to - fr) = to by omega] at this
    exact this
  have l0 : (row (A ++ (c, ts) :: B)).length = (row A).length + (ts.length + (row B).length) := by rw [row_app, row_cons, List.length_append, List.length_append]
  have hul : (ts.take fr ++ ts.drop to).length = fr + (ts.length - to) := by rw [List.length_append, List.length_take, List.length_drop]; omega
  have huc : costL (ts.take fr ++ ts.drop to) = costL (ts.take fr) + costL (ts.drop to) := costL_app _ _
  have huz : ∀ t ∈ ts.take fr ++ ts.drop to, t.size ≤ 1048576 := fun t h => by
    rcases List.mem_append.1 h with h | h
    · exact hz t (List.mem_of_mem_take h)
    · exact hz t (List.mem_of_mem_drop h)
  have hcut := cut_list (f := fr) hX.1 ht (Nat.le_of_lt h1) h2 hle (List.replicate (ts.length - (fr + (ts.length - to))) ByteArray.empty) (by rw [List.length_replicate])
  obtain ⟨left, hleft⟩ : ∃ x, x = fr + (ts.length - to) := ⟨_, rfl⟩
  rw [← hleft] at hcut hul
  obtain ⟨m, hm⟩ : ∃ x, x = (row (A ++ (c, ts) :: B)).length := ⟨_, rfl⟩
  obtain ⟨k, hk⟩ : ∃ x, x = costL (row (A ++ (c, ts) :: B)) := ⟨_, rfl⟩
  rw [← hm] at d1 l0 d5 hcl
  rw [← hk] at d1 e0 hcl
  obtain ⟨m', hm'⟩ : ∃ x, x = m - (to - fr) := ⟨_, rfl⟩
  obtain ⟨k', hk'⟩ : ∃ x, x = k - costL ((ts.drop fr).take (to - fr)) := ⟨_, rfl⟩
  generalize ts.take fr ++ ts.drop to = us at *
  have hrl : (row (cutC A c us B)).length = m' := by rw [cutC_row, List.length_append, List.length_append]; omega
  have hrc : costL (row (cutC A c us B)) = k' := by rw [cutC_row, costL_app, costL_app]; omega
  have hnd' : (b :: (A ++ B).map (·.1)).Nodup := by
    refine d3.sublist ?_
    rw [List.map_append, List.map_append, List.map_cons]
    exact (List.Sublist.append (List.Sublist.refl _) (List.sublist_cons_self _ _)).cons_cons _
  refine (cut_walk w b c _ _ _ _ ts.length m k X fr to ts hX d1 n1 h1 h2 hle (by omega) (by omega) (by omega) rfl ht hz (by omega) left m' k' (to - fr) hleft hm' rfl hk'
    (fun w' => Dq0 w' b (A ++ B) ∧ Fd b (A ++ (c, ts) :: B) w w' (A ++ B)) (fun h0 w5 hF => ?_)).mono ?_
  · obtain ⟨f1, f2, f3, f4, f5⟩ := hF
    have hA5 : Ch w5 nul A (hdv ((c, ts) :: B) nul) := cA.kept (fun x hx => f5 _ (n4 x hx) (n2 x hx))
    have hB5 : Ch w5 (ptr c) B nul := cC.2.kept (fun x hx => f5 _ (n5 x hx) (n3 x hx))
    refine (tie_ch w5 b A B _ _ m' k' nul _ _ nul f2 hA5 hB5 hnd').mono ?_
    rintro _ w' ⟨rfl, t1, t2, t3, t4, t5, t6⟩
    have hu0 : us.length = 0 := by omega
    have hce : cutC A c us B = A ++ B := by unfold cutC; rw [if_pos hu0]
    rw [hce] at hrl hrc
    refine ⟨rfl, ⟨?_, ch_app.2 ⟨t2, t3⟩, hnd', fun t h => d4 t ?_, by omega⟩, ⟨⟨⟨t4.1.trans f3.1, t4.2.1.trans f3.2.1, t4.2.2.trans f3.2.2⟩, by rw [t5, f4]; exact Nat.le_refl _, fun x hx hn => ?_⟩, fun x hx => ?_⟩⟩
    · rw [hrl, hrc]
      have g1 : hdv (A ++ B) nul = (if A.isEmpty then hdv B nul else hdv (A ++ (c, ts) :: B) nul) := by cases A <;> rfl
      have g2 : ltv (A ++ B) nul = (if B.isEmpty then ltv A nul else ltv (A ++ (c, ts) :: B) nul) := by
        rw [ltv_app, ltv_app]
        cases B <;> rfl
      rw [g1, g2]
      exact t1
    · rw [row_app] at h
      rw [row_app, row_cons]
      rcases List.mem_append.1 h with h | h
      · exact List.mem_append_left _ h
      · exact List.mem_append_right _ (List.mem_append_right _ h)
    · have hnb : x ≠ b := fun e => hn (.inl e)
      have hnc : x ≠ c := fun e => hn (.inr ⟨(c, ts), by simp, e.symm⟩)
      rw [t6 x (fun e => hn ?_), f5 x hnb hnc]
      rcases e with e | ⟨q, hq, e⟩
      · exact .inl e
      · rcases List.mem_append.1 hq with hq | hq
        · exact .inr ⟨q, by simp [hq], e⟩
        · exact .inr ⟨q, by simp [hq], e⟩
    · left
      rcases hx with e | ⟨q, hq, e⟩
      · exact .inl e
      · rcases List.mem_append.1 hq with hq | hq
        · exact .inr ⟨q, by simp [hq], e⟩
        · exact .inr ⟨q, by simp [hq], e⟩
  · rintro _ w' ⟨rfl, q1, q2⟩
    refine ⟨rfl, ?_⟩
    by_cases hl0 : left = 0
    · have hce : cutC A c us B = A ++ B := by unfold cutC; rw [if_pos (by omega)]
      rw [hce]
      exact q2 hl0
    · have hce : cutC A c us B = A ++ (c, us) :: B := by unfold cutC; rw [if_neg (by omega)]
      rw [hce] at hrl hrc ⊢
      obtain ⟨f1, f2, f3, f4, f5⟩ := q1 hl0
      refine dq_change hd (fun pv nv hck => ?_) (fun f l hds => ?_) huz (by omega) ⟨f3, f4⟩ f5
      · obtain ⟨rfl, rfl⟩ := ck_ties cC.1 hck
        exact f1.ck (by omega) hcut
      · obtain ⟨rfl, rfl⟩ := ds_same d1 hds
        rw [hrl, hrc]
        exact f2
end Go.Proofs.Ytlfkdohajfkhdaa
