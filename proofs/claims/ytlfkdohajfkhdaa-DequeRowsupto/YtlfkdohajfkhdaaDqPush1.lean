/-
  Contracts over this program: Push behind all.
-/
import Derived.Test.YtlfkdohajfkhdaaDqPush
namespace Go.Proofs.Ytlfkdohajfkhdaa
open Go.RowKit
set_option linter.unusedVariables false
theorem Dq0.drew {w : World} {b : Nat} {cs : List Chk} (h : Dq0 w b cs) : Dq0 w.drew b cs := h.kept (fun _ _ => rfl)
theorem Fd.drew {b : Nat} {cs cs' : List Chk} {w w' : World} (h : Fd b cs w.drew w' cs') : Fd b cs w w' cs' := h
set_option maxRecDepth 100000 in
set_option maxHeartbeats 4000000 in
theorem push_behind (w : World) (b : Nat) (cs : List Chk) (s : ByteArray) (hd : Dq w b cs) (hs : s.size ≤ 1048576) (hn : (row cs).length < 1048576) :
    Calls Try.prog 18 #[ptr b, .bool false, .string s] w fun e w' => e = .returned (.int .i64 0) ∧ ∃ cs', Dq w' b cs' ∧ Fd b cs w w' cs' ∧ tx cs' = pushB s (tx cs) := by
  have MR := keep (refuse_any w b _ _ _ _ s (Nat.le_trans hs (by decide)) hd.1.1)
  have e0 : refC (row cs).length s = 0 := by unfold refC; rw [if_neg (by omega), if_neg (by omega)]
  rw [e0] at MR
  have f0 := hd.1.1.four.2.1
  rcases snoc_or (A := cs) with rfl | ⟨A, c, ts, rfl⟩
  · have MO := keep (open_any w b [] [] hd.1)
    have f0 : w.cell? ⟨b, 1, none⟩ = some (.pointer none) := f0
    clear hd e0 hn
    go_enter Try.func18, Try.ntmps18
    go_wp2_with fail
    refine MR.out.mono ?_
    rintro _ w' ⟨rfl, rfl⟩
    go_wp2_with fail
    refine (room_nil _).mono ?_
    rintro _ w1 ⟨rfl, hw⟩
    obtain rfl := hw.symm
    go_wp2_with fail
    refine Calls.mono MO.out ?_
    rintro _ w2 ⟨rfl, o1, o2⟩
    have MP := keep (put_any w2.drew b w'.heap.size [] [] [] 0 s o1.drew (Nat.le_refl _) (by decide) (by show (0 : Nat) < _; decide) hs)
    have f2 : w2.cell? ⟨b, 1, none⟩ = some (ptr w'.heap.size) := o1.1.four.2.1
    have f3 : w2.cell? ⟨w'.heap.size, 2, none⟩ = some (.int .i64 0) := o1.2.1.1.cells.2.2.1
    have O2 := keep o2
    clear o1 o2 MO
    go_wp2_with fail
    go_region_with (first | (go_at_call 50; refine MP.out.mono ?_; rintro _ w3 ⟨rfl, p1, p2⟩; have P1 := keep p1; have P2 := keep p2; clear p1 p2))
    all_goals
      go_wp2
      go_ret
      exact ⟨rfl, [(w'.heap.size, [s])], ⟨P1.out, by simp⟩, Fd.trans O2.out (Fd.drew P2.out), rfl⟩
  · have hck := (ch_app.1 hd.1.2.1).2.1
    have c2 := hck.cells.2.2.1
    have hle := hck.le
    rw [ltv_snoc] at f0
    have htx : tx (A ++ [(c, ts)]) = tx A ++ [ts] := by simp
    by_cases hr : ts.length < 32
    · have MH := keep (room_any w c ts.length hle c2)
      rw [decide_eq_true hr] at MH
      have MP0 := put_any w.drew b c A [] ts ts.length s hd.1.drew (Nat.le_refl _) hr hn hs
      rw [List.take_length, List.drop_length] at MP0
      have MP := keep MP0
      have hne : ∀ x ∈ A ++ [(c, ts ++ [s])], 1 ≤ x.2.length := fun x hx => by
        rcases List.mem_append.1 hx with hx | hx
        · exact hd.2 x (by simp [hx])
        · simp at hx; subst hx; simp
      have HNE := keep hne
      have e3 : tx (A ++ [(c, ts ++ [s])]) = pushB s (tx (A ++ [(c, ts)])) := by rw [htx, pushB_snoc, if_pos hr]; simp
      have E3 := keep e3
      generalize ts.length = n at *
      clear hd e0 hn hck hle hne e3 htx MP0
      go_enter Try.func18, Try.ntmps18
      go_wp2_with fail
      refine MR.out.mono ?_
      rintro _ w' ⟨rfl, rfl⟩
      go_wp2_with fail
      refine MH.out.mono ?_
      rintro _ w1 ⟨rfl, hw⟩
      obtain rfl := hw.symm
      go_wp2_with fail
      go_region_with (first | (go_at_call 50; refine MP.out.mono ?_; rintro _ w3 ⟨rfl, p1, p2⟩; have P1 := keep p1; have P2 := keep p2; clear p1 p2))
      all_goals
        go_wp2
        go_ret
        exact ⟨rfl, A ++ [(c, ts ++ [s])], ⟨P1.out, HNE.out⟩, Fd.drew P2.out, E3.out⟩
    · have MH := keep (room_any w c ts.length hle c2)
      rw [decide_eq_false hr] at MH
      have MO0 := open_any w b (A ++ [(c, ts)]) [] (by rw [List.append_nil]; exact hd.1)
      rw [ltv_snoc, List.append_nil] at MO0
      have MO := keep MO0
      have hne : ∀ x ∈ (A ++ [(c, ts)]) ++ [(w.heap.size, [s])], 1 ≤ x.2.length := fun x hx => by
        rcases List.mem_append.1 hx with hx | hx
        · exact hd.2 x hx
        · simp at hx; subst hx; simp
      have HNE := keep hne
      have e3 : tx ((A ++ [(c, ts)]) ++ [(w.heap.size, [s])]) = pushB s (tx (A ++ [(c, ts)])) := by rw [htx, pushB_snoc, if_neg hr]; simp
      have E3 := keep e3
      have HN := keep hn
      generalize A ++ [(c, ts)] = cs at *
      clear hd e0 hn hck hle hne e3 htx c2 MO0
      go_enter Try.func18, Try.ntmps18
      go_wp2_with fail
      refine MR.out.mono ?_
      rintro _ w' ⟨rfl, rfl⟩
      go_wp2_with fail
      refine MH.out.mono ?_
      rintro _ w1 ⟨rfl, hw⟩
      obtain rfl := hw.symm
      go_wp2_with fail
      refine Calls.mono MO.out ?_
      rintro _ w2 ⟨rfl, o1, o2⟩
      have MP := keep (put_any w2.drew b w'.heap.size cs [] [] 0 s o1.drew (Nat.le_refl _) (by decide) (by rw [row_app, row_cons, List.length_append]; exact HN.out) hs)
      have f2 : w2.cell? ⟨b, 1, none⟩ = some (ptr w'.heap.size) := by have := o1.1.four.2.1; rw [ltv_snoc] at this; exact this
      have f3 : w2.cell? ⟨w'.heap.size, 2, none⟩ = some (.int .i64 0) := (ch_app.1 o1.2.1).2.1.cells.2.2.1
      have O2 := keep o2
      clear o1 o2 MO f0
      go_wp2_with fail
      go_region_with (first | (go_at_call 50; refine MP.out.mono ?_; rintro _ w3 ⟨rfl, p1, p2⟩; have P1 := keep p1; have P2 := keep p2; clear p1 p2))
      all_goals
        go_wp2
        go_ret
        exact ⟨rfl, cs ++ [(w'.heap.size, [s])], ⟨P1.out, HNE.out⟩, Fd.trans O2.out (Fd.drew P2.out), E3.out⟩
end Go.Proofs.Ytlfkdohajfkhdaa
