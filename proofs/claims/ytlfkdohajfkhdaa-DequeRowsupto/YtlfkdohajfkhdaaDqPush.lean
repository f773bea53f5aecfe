/-
  Contracts over this program: Push.
-/
import Derived.Test.YtlfkdohajfkhdaaDqPut1
namespace Go.Proofs.Ytlfkdohajfkhdaa
open Go.RowKit
set_option linter.unusedVariables false
/-- the rows of the chunks behind a push ahead, and behind one behind -/
def pushF (s : ByteArray) : List (List ByteArray) → List (List ByteArray)
  | [] => [[s]]
  | t :: r => if t.length < 32 then (s :: t) :: r else [s] :: t :: r
def pushB (s : ByteArray) : List (List ByteArray) → List (List ByteArray)
  | [] => [[s]]
  | [t] => if t.length < 32 then [t ++ [s]] else [t, [s]]
  | t :: u :: r => t :: pushB s (u :: r)
theorem pushB_snoc (s : ByteArray) (t : List ByteArray) : ∀ A : List (List ByteArray), pushB s (A ++ [t]) = A ++ (if t.length < 32 then [t ++ [s]] else [t, [s]])
  | [] => rfl
  | [x] => rfl
  | x :: y :: A => by
    show x :: pushB s (y :: A ++ [t]) = _
    rw [pushB_snoc s t (y :: A)]
    rfl
abbrev tx (cs : List Chk) : List (List ByteArray) := cs.map (·.2)
theorem row_tx (cs : List Chk) : row cs = (tx cs).flatten := by
  induction cs with
  | nil => rfl
  | cons x r ih => rw [row_cons, ih]; rfl
theorem pushF_flat (s : ByteArray) (L : List (List ByteArray)) : (pushF s L).flatten = s :: L.flatten := by
  cases L with
  | nil => rfl
  | cons t r =>
    show (if t.length < 32 then (s :: t) :: r else [s] :: t :: r).flatten = _
    split <;> rfl
theorem pushB_flat (s : ByteArray) (L : List (List ByteArray)) : (pushB s L).flatten = L.flatten ++ [s] := by
  rcases List.eq_nil_or_concat L with rfl | ⟨A, t, rfl⟩
  · rfl
  · rw [List.concat_eq_append, pushB_snoc]
    split <;> simp
theorem Fd.row {b : Nat} {cs cs' cs'' : List Chk} {w w' : World} (h : Fd b cs w w' cs') (e : cs'.map (·.1) = cs''.map (·.1)) : Fd b cs w w' cs'' := by
  refine ⟨h.1, fun k hk => h.2 k ?_⟩
  rcases hk with e' | ⟨q, hq, e'⟩
  · exact .inl e'
  · have : k ∈ cs''.map (·.1) := List.mem_map.2 ⟨q, hq, e'⟩
    rw [← e] at this
    obtain ⟨x, hx, hx2⟩ := List.mem_map.1 this
    exact .inr ⟨x, hx, hx2⟩
set_option maxRecDepth 100000 in
set_option maxHeartbeats 2000000 in
theorem push_no (w : World) (b : Nat) (cs : List Chk) (ahead : Bool) (s : ByteArray) (hd : Dq w b cs) (hs : s.size ≤ maxLen) (hc : refC (row cs).length s ≠ 0) :
    Calls Try.prog 18 #[ptr b, .bool ahead, .string s] w fun e w' => e = .returned (.int .i64 (refC (row cs).length s)) ∧ w' = w := by
  have MR := keep (refuse_any w b _ _ _ _ s hs hd.1.1)
  have e1 : (refC (row cs).length s != 0) = true := by simpa using hc
  generalize refC (row cs).length s = q at *
  go_enter Try.func18, Try.ntmps18
  go_wp2_with fail
  refine MR.out.mono ?_
  rintro _ w' ⟨rfl, rfl⟩
  go_wp2
  go_ret
  exact ⟨rfl, rfl⟩
set_option maxRecDepth 100000 in
set_option maxHeartbeats 2000000 in
theorem push_nil (w : World) (ahead : Bool) (s : ByteArray) :
    Calls Try.prog 18 #[nul, .bool ahead, .string s] w fun e w' => e = .returned (.int .i64 1) ∧ w' = w := by
  go_enter Try.func18, Try.ntmps18
  go_wp2
  go_ret
  exact ⟨rfl, rfl⟩
set_option maxRecDepth 100000 in
set_option maxHeartbeats 4000000 in
theorem push_ahead (w : World) (b : Nat) (cs : List Chk) (s : ByteArray) (hd : Dq w b cs) (hs : s.size ≤ 1048576) (hn : (row cs).length < 1048576) :
    Calls Try.prog 18 #[ptr b, .bool true, .string s] w fun e w' => e = .returned (.int .i64 0) ∧ ∃ cs', Dq w' b cs' ∧ Fd b cs w w' cs' ∧ tx cs' = pushF s (tx cs) := by
  have MR := keep (refuse_any w b _ _ _ _ s (Nat.le_trans hs (by decide)) hd.1.1)
  have e0 : refC (row cs).length s = 0 := by unfold refC; rw [if_neg (by omega), if_neg (by omega)]
  rw [e0] at MR
  have f0 := hd.1.1.four.1
  have FZ := keep hd
  cases cs with
  | nil =>
    have MO := keep (open_any w b [] [] hd.1)
    have f0 : w.cell? ⟨b, 0, none⟩ = some (.pointer none) := f0
    clear hd e0 hn
    go_enter Try.func18, Try.ntmps18
    go_wp2_with fail
    refine MR.out.mono ?_
    rintro _ w' ⟨rfl, rfl⟩
    go_wp2_with fail
    refine (room_nil _).mono ?_
    rintro _ w1 ⟨rfl, hw⟩
    obtain rfl := hw.symm
    go_wp2_with fail
    refine Calls.mono MO.out ?_
    rintro _ w2 ⟨rfl, o1, o2⟩
    have MP := keep (put_any w2 b w'.heap.size [] [] [] 0 s o1 (Nat.le_refl _) (by decide) (by show (0 : Nat) < _; decide) hs)
    have f2 : w2.cell? ⟨b, 0, none⟩ = some (ptr w'.heap.size) := o1.1.four.1
    have O2 := keep o2
    clear o1 o2 MO
    go_wp2_with fail
    refine MP.out.mono ?_
    rintro _ w3 ⟨rfl, p1, p2⟩
    have P1 := keep p1
    have P2 := keep p2
    clear p1 p2 f2 f0
    go_wp2
    go_ret
    exact ⟨rfl, [(w'.heap.size, [s])], ⟨P1.out, by simp⟩, Fd.trans O2.out P2.out, rfl⟩
  | cons x r =>
    obtain ⟨c, ts⟩ := x
    have hck := (ch_app (A := []).1 hd.1.2.1).2.1
    have c2 := hck.cells.2.2.1
    have hle := hck.le
    have f0 : w.cell? ⟨b, 0, none⟩ = some (ptr c) := f0
    by_cases hr : ts.length < 32
    · have MH := keep (room_any w c ts.length hle c2)
      rw [decide_eq_true hr] at MH
      have MP := keep (put_any w b c [] r ts 0 s hd.1 (Nat.zero_le _) hr hn hs)
      have hne : ∀ x ∈ (c, s :: ts) :: r, 1 ≤ x.2.length := fun x hx => by
        rcases List.mem_cons.1 hx with rfl | hx
        · simp
        · exact hd.2 x (by simp [hx])
      have HNE := keep hne
      have e3 : pushF s (tx ((c, ts) :: r)) = (s :: ts) :: tx r := by show (if ts.length < 32 then _ else _) = _; rw [if_pos hr]
      have E3 := keep e3
      clear hd e0 hn hck c2 hle hne e3
      go_enter Try.func18, Try.ntmps18
      go_wp2_with fail
      refine MR.out.mono ?_
      rintro _ w' ⟨rfl, rfl⟩
      go_wp2_with fail
      refine MH.out.mono ?_
      rintro _ w1 ⟨rfl, hw⟩
      obtain rfl := hw.symm
      go_wp2_with fail
      refine MP.out.mono ?_
      rintro _ w3 ⟨rfl, p1, p2⟩
      have P1 := keep p1
      have P2 := keep p2
      clear p1 p2 f0
      go_wp2
      go_ret
      exact ⟨rfl, (c, s :: ts) :: r, ⟨P1.out, HNE.out⟩, P2.out, E3.out.symm⟩
    · have MH := keep (room_any w c ts.length hle c2)
      rw [decide_eq_false hr] at MH
      have MO := keep (open_any w b [] ((c, ts) :: r) hd.1)
      have hne : ∀ x ∈ (w.heap.size, [s]) :: (c, ts) :: r, 1 ≤ x.2.length := fun x hx => by
        rcases List.mem_cons.1 hx with rfl | hx
        · simp
        · exact hd.2 x hx
      have HNE := keep hne
      have e3 : pushF s (tx ((c, ts) :: r)) = [s] :: ts :: tx r := by show (if ts.length < 32 then _ else _) = _; rw [if_neg hr]
      have E3 := keep e3
      have HN := keep hn
      clear hd e0 hn hck c2 hle hne e3
      go_enter Try.func18, Try.ntmps18
      go_wp2_with fail
      refine MR.out.mono ?_
      rintro _ w' ⟨rfl, rfl⟩
      go_wp2_with fail
      refine MH.out.mono ?_
      rintro _ w1 ⟨rfl, hw⟩
      obtain rfl := hw.symm
      go_wp2_with fail
      refine Calls.mono MO.out ?_
      rintro _ w2 ⟨rfl, o1, o2⟩
      have MP := keep (put_any w2 b w'.heap.size [] ((c, ts) :: r) [] 0 s o1 (Nat.le_refl _) (by decide) HN.out hs)
      have f2 : w2.cell? ⟨b, 0, none⟩ = some (ptr w'.heap.size) := o1.1.four.1
      have O2 := keep o2
      clear o1 o2 MO
      go_wp2_with fail
      refine MP.out.mono ?_
      rintro _ w3 ⟨rfl, p1, p2⟩
      have P1 := keep p1
      have P2 := keep p2
      clear p1 p2 f2 f0
      go_wp2
      go_ret
      exact ⟨rfl, (w'.heap.size, [s]) :: (c, ts) :: r, ⟨P1.out, HNE.out⟩, Fd.trans O2.out P2.out, E3.out.symm⟩
end Go.Proofs.Ytlfkdohajfkhdaa
