/-
  Contracts over this program: find, the chunk and the place of a text.
-/
import Derived.Test.YtijclcedjgniaaaGreatQDqPut1
import Derived.WalkKit
import Derived.OwnWalkIn
import Derived.TacticsInMore
import Derived.LoopNIn
import Derived.LoopIn
import Derived.Sort.QuietIn
/-
  Contracts over this program: Push.
-/
namespace Go.Proofs.YtijclcedjgniaaaGreat.DQ
open Go.RowKit
set_option linter.unusedVariables false
/-- the rows of the chunks behind a push ahead, and behind one behind -/
def pushF (s : ByteArray) : List (List ByteArray) → List (List ByteArray)
  | [] => [[s]]
  | t :: r => if t.length < 32 then (s :: t) :: r else [s] :: t :: r
def pushB (s : ByteArray) : List (List ByteArray) → List (List ByteArray)
  | [] => [[s]]
  | [t] => if t.length < 32 then [t ++ [s]] else [t, [s]]
  | t :: u :: r => t :: pushB s (u :: r)
theorem pushB_snoc (s : ByteArray) (t : List ByteArray) : ∀ A : List (List ByteArray), pushB s (A ++ [t]) = A ++ (if t.length < 32 then [t ++ [s]] else [t, [s]])
  | [] => rfl
  | [x] => rfl
  | x :: y :: A => by
    show x :: pushB s (y :: A ++ [t]) = _
    rw [pushB_snoc s t (y :: A)]
    rfl
abbrev tx (cs : List Chk) : List (List ByteArray) := cs.map (·.2)
theorem row_tx (cs : List Chk) : row cs = (tx cs).flatten := by
  induction cs with
  | nil => rfl
  | cons x r ih => rw [row_cons, ih]; rfl
theorem pushF_flat (s : ByteArray) (L : List (List ByteArray)) : (pushF s L).flatten = s :: L.flatten := by
  cases L with
  | nil => rfl
  | cons t r =>
    show (if t.length < 32 then (s :: t) :: r else [s] :: t :: r).flatten = _
    split <;> rfl
theorem pushB_flat (s : ByteArray) (L : List (List ByteArray)) : (pushB s L).flatten = L.flatten ++ [s] := by
  rcases List.eq_nil_or_concat L with rfl | ⟨A, t, rfl⟩
  · rfl
  · rw [List.concat_eq_append, pushB_snoc]
    split <;> simp
theorem Fd.row {b : Nat} {cs cs' cs'' : List Chk} {w w' : World} (h : Fd b cs w w' cs') (e : cs'.map (·.1) = cs''.map (·.1)) : Fd b cs w w' cs'' := by
  refine ⟨h.1, fun k hk => h.2 k ?_⟩
  rcases hk with e' | ⟨q, hq, e'⟩
  · exact .inl e'
  · have : k ∈ cs''.map (·.1) := List.mem_map.2 ⟨q, hq, e'⟩
    rw [← e] at this
    obtain ⟨x, hx, hx2⟩ := List.mem_map.1 this
    exact .inr ⟨x, hx, hx2⟩
set_option maxRecDepth 100000 in
set_option maxHeartbeats 2000000 in
theorem push_no (w : World) (b : Nat) (cs : List Chk) (ahead : Bool) (s : ByteArray) (hd : Dq w b cs) (hs : s.size ≤ maxLen) (hc : refC (row cs).length s ≠ 0) :
    Calls Tryz.prog 44 #[ptr b, .bool ahead, .string s] w fun e w' => e = .returned (.int .i64 (refC (row cs).length s)) ∧ w' = w := by
  have MR := keep (refuse_any w b _ _ _ _ s hs hd.1.1)
  have e1 : (refC (row cs).length s != 0) = true := by simpa using hc
  generalize refC (row cs).length s = q at *
  go_enter Tryz.func44, Tryz.ntmps44
  go_wp2_with fail
  refine MR.out.mono ?_
  rintro _ w' ⟨rfl, rfl⟩
  go_wp2
  go_ret
  exact ⟨rfl, rfl⟩
set_option maxRecDepth 100000 in
set_option maxHeartbeats 2000000 in
theorem push_nil (w : World) (ahead : Bool) (s : ByteArray) :
    Calls Tryz.prog 44 #[nul, .bool ahead, .string s] w fun e w' => e = .returned (.int .i64 1) ∧ w' = w := by
  go_enter Tryz.func44, Tryz.ntmps44
  go_wp2
  go_ret
  exact ⟨rfl, rfl⟩
set_option maxRecDepth 100000 in
set_option maxHeartbeats 4000000 in
theorem push_ahead (w : World) (b : Nat) (cs : List Chk) (s : ByteArray) (hd : Dq w b cs) (hs : s.size ≤ 1048576) (hn : (row cs).length < 1048576) :
    Calls Tryz.prog 44 #[ptr b, .bool true, .string s] w fun e w' => e = .returned (.int .i64 0) ∧ ∃ cs', Dq w' b cs' ∧ Fd b cs w w' cs' ∧ tx cs' = pushF s (tx cs) := by
  have MR := keep (refuse_any w b _ _ _ _ s (Nat.le_trans hs (by decide)) hd.1.1)
  have e0 : refC (row cs).length s = 0 := by unfold refC; rw [if_neg (by omega), if_neg (by omega)]
  rw [e0] at MR
  have f0 := hd.1.1.four.1
  have FZ := keep hd
  cases cs with
  | nil =>
    have MO := keep (open_any w b [] [] hd.1)
    have f0 : w.cell? ⟨b, 0, none⟩ = some (.pointer none) := f0
    clear hd e0 hn
    go_enter Tryz.func44, Tryz.ntmps44
    go_wp2_with fail
    refine MR.out.mono ?_
    rintro _ w' ⟨rfl, rfl⟩
    go_wp2_with fail
    refine (room_nil _).mono ?_
    rintro _ w1 ⟨rfl, hw⟩
    obtain rfl := hw.symm
    go_wp2_with fail
    refine Calls.mono MO.out ?_
    rintro _ w2 ⟨rfl, o1, o2⟩
    have MP := keep (put_any w2 b w'.heap.size [] [] [] 0 s o1 (Nat.le_refl _) (by decide) (by show (0 : Nat) < _; decide) hs)
    have f2 : w2.cell? ⟨b, 0, none⟩ = some (ptr w'.heap.size) := o1.1.four.1
    have O2 := keep o2
    clear o1 o2 MO
    go_wp2_with fail
    refine MP.out.mono ?_
    rintro _ w3 ⟨rfl, p1, p2⟩
    have P1 := keep p1
    have P2 := keep p2
    clear p1 p2 f2 f0
    go_wp2
    go_ret
    exact ⟨rfl, [(w'.heap.size, [s])], ⟨P1.out, by simp⟩, Fd.trans O2.out P2.out, rfl⟩
  | cons x r =>
    obtain ⟨c, ts⟩ := x
    have hck := (ch_app (A := []).1 hd.1.2.1).2.1
    have c2 := hck.cells.2.2.1
    have hle := hck.le
    have f0 : w.cell? ⟨b, 0, none⟩ = some (ptr c) := f0
    by_cases hr : ts.length < 32
    · have MH := keep (room_any w c ts.length hle c2)
      rw [decide_eq_true hr] at MH
      have MP := keep (put_any w b c [] r ts 0 s hd.1 (Nat.zero_le _) hr hn hs)
      have hne : ∀ x ∈ (c, s :: ts) :: r, 1 ≤ x.2.length := fun x hx => by
        rcases List.mem_cons.1 hx with rfl | hx
        · simp
        · exact hd.2 x (by simp [hx])
      have HNE := keep hne
      have e3 : pushF s (tx ((c, ts) :: r)) = (s :: ts) :: tx r := by show (if ts.length < 32 then _ else _) = _; rw [if_pos hr]
      have E3 := keep e3
      clear hd e0 hn hck c2 hle hne e3
      go_enter Tryz.func44, Tryz.ntmps44
      go_wp2_with fail
      refine MR.out.mono ?_
      rintro _ w' ⟨rfl, rfl⟩
      go_wp2_with fail
      refine MH.out.mono ?_
      rintro _ w1 ⟨rfl, hw⟩
      obtain rfl := hw.symm
      go_wp2_with fail
      refine MP.out.mono ?_
      rintro _ w3 ⟨rfl, p1, p2⟩
      have P1 := keep p1
      have P2 := keep p2
      clear p1 p2 f0
      go_wp2
      go_ret
      exact ⟨rfl, (c, s :: ts) :: r, ⟨P1.out, HNE.out⟩, P2.out, E3.out.symm⟩
    · have MH := keep (room_any w c ts.length hle c2)
      rw [decide_eq_false hr] at MH
      have MO := keep (open_any w b [] ((c, ts) :: r) hd.1)
      have hne : ∀ x ∈ (w.heap.size, [s]) :: (c, ts) :: r, 1 ≤ x.2.length := fun x hx => by
        rcases List.mem_cons.1 hx with rfl | hx
        · simp
        · exact hd.2 x hx
      have HNE := keep hne
      have e3 : pushF s (tx ((c, ts) :: r)) = [s] :: ts :: tx r := by show (if ts.length < 32 then _ else _) = _; rw [if_neg hr]
      have E3 := keep e3
      have HN := keep hn
      clear hd e0 hn hck c2 hle hne e3
      go_enter Tryz.func44, Tryz.ntmps44
      go_wp2_with fail
      refine MR.out.mono ?_
      rintro _ w' ⟨rfl, rfl⟩
      go_wp2_with fail
      refine MH.out.mono ?_
      rintro _ w1 ⟨rfl, hw⟩
      obtain rfl := hw.symm
      go_wp2_with fail
      refine Calls.mono MO.out ?_
      rintro _ w2 ⟨rfl, o1, o2⟩
      have MP := keep (put_any w2 b w'.heap.size [] ((c, ts) :: r) [] 0 s o1 (Nat.le_refl _) (by decide) HN.out hs)
      have f2 : w2.cell? ⟨b, 0, none⟩ = some (ptr w'.heap.size) := o1.1.four.1
      have O2 := keep o2
      clear o1 o2 MO
      go_wp2_with fail
      refine MP.out.mono ?_
      rintro _ w3 ⟨rfl, p1, p2⟩
      have P1 := keep p1
      have P2 := keep p2
      clear p1 p2 f2 f0
      go_wp2
      go_ret
      exact ⟨rfl, (w'.heap.size, [s]) :: (c, ts) :: r, ⟨P1.out, HNE.out⟩, Fd.trans O2.out P2.out, E3.out.symm⟩
end Go.Proofs.YtijclcedjgniaaaGreat.DQ

/-
  Contracts over this program: Push behind all.
-/
namespace Go.Proofs.YtijclcedjgniaaaGreat.DQ
open Go.RowKit
set_option linter.unusedVariables false
theorem Dq0.drew {w : World} {b : Nat} {cs : List Chk} (h : Dq0 w b cs) : Dq0 w.drew b cs := h.kept (fun _ _ => rfl)
theorem Fd.drew {b : Nat} {cs cs' : List Chk} {w w' : World} (h : Fd b cs w.drew w' cs') : Fd b cs w w' cs' := h
set_option maxRecDepth 100000 in
set_option maxHeartbeats 4000000 in
theorem push_behind (w : World) (b : Nat) (cs : List Chk) (s : ByteArray) (hd : Dq w b cs) (hs : s.size ≤ 1048576) (hn : (row cs).length < 1048576) :
    Calls Tryz.prog 44 #[ptr b, .bool false, .string s] w fun e w' => e = .returned (.int .i64 0) ∧ ∃ cs', Dq w' b cs' ∧ Fd b cs w w' cs' ∧ tx cs' = pushB s (tx cs) := by
  have MR := keep (refuse_any w b _ _ _ _ s (Nat.le_trans hs (by decide)) hd.1.1)
  have e0 : refC (row cs).length s = 0 := by unfold refC; rw [if_neg (by omega), if_neg (by omega)]
  rw [e0] at MR
  have f0 := hd.1.1.four.2.1
  rcases snoc_or (A := cs) with rfl | ⟨A, c, ts, rfl⟩
  · have MO := keep (open_any w b [] [] hd.1)
    have f0 : w.cell? ⟨b, 1, none⟩ = some (.pointer none) := f0
    clear hd e0 hn
    go_enter Tryz.func44, Tryz.ntmps44
    go_wp2_with fail
    refine MR.out.mono ?_
    rintro _ w' ⟨rfl, rfl⟩
    go_wp2_with fail
    refine (room_nil _).mono ?_
    rintro _ w1 ⟨rfl, hw⟩
    obtain rfl := hw.symm
    go_wp2_with fail
    refine Calls.mono MO.out ?_
    rintro _ w2 ⟨rfl, o1, o2⟩
    have MP := keep (put_any w2.drew b w'.heap.size [] [] [] 0 s o1.drew (Nat.le_refl _) (by decide) (by show (0 : Nat) < _; decide) hs)
    have f2 : w2.cell? ⟨b, 1, none⟩ = some (ptr w'.heap.size) := o1.1.four.2.1
    have f3 : w2.cell? ⟨w'.heap.size, 2, none⟩ = some (.int .i64 0) := o1.2.1.1.cells.2.2.1
    have O2 := keep o2
    clear o1 o2 MO
    go_wp2_with fail
    go_region_with (first | (go_at_call 89; refine MP.out.mono ?_; rintro _ w3 ⟨rfl, p1, p2⟩; have P1 := keep p1; have P2 := keep p2; clear p1 p2))
    all_goals
      go_wp2
      go_ret
      exact ⟨rfl, [(w'.heap.size, [s])], ⟨P1.out, by simp⟩, Fd.trans O2.out (Fd.drew P2.out), rfl⟩
  · have hck := (ch_app.1 hd.1.2.1).2.1
    have c2 := hck.cells.2.2.1
    have hle := hck.le
    rw [ltv_snoc] at f0
    have htx : tx (A ++ [(c, ts)]) = tx A ++ [ts] := by simp
    by_cases hr : ts.length < 32
    · have MH := keep (room_any w c ts.length hle c2)
      rw [decide_eq_true hr] at MH
      have MP0 := put_any w.drew b c A [] ts ts.length s hd.1.drew (Nat.le_refl _) hr hn hs
      rw [List.take_length, List.drop_length] at MP0
      have MP := keep MP0
      have hne : ∀ x ∈ A ++ [(c, ts ++ [s])], 1 ≤ x.2.length := fun x hx => by
        rcases List.mem_append.1 hx with hx | hx
        · exact hd.2 x (by simp [hx])
        · simp at hx; subst hx; simp
      have HNE := keep hne
      have e3 : tx (A ++ [(c, ts ++ [s])]) = pushB s (tx (A ++ [(c, ts)])) := by rw [htx, pushB_snoc, if_pos hr]; simp
      have E3 := keep e3
      generalize ts.length = n at *
      clear hd e0 hn hck hle hne e3 htx MP0
      go_enter Tryz.func44, Tryz.ntmps44
      go_wp2_with fail
      refine MR.out.mono ?_
      rintro _ w' ⟨rfl, rfl⟩
      go_wp2_with fail
      refine MH.out.mono ?_
      rintro _ w1 ⟨rfl, hw⟩
      obtain rfl := hw.symm
      go_wp2_with fail
      go_region_with (first | (go_at_call 89; refine MP.out.mono ?_; rintro _ w3 ⟨rfl, p1, p2⟩; have P1 := keep p1; have P2 := keep p2; clear p1 p2))
      all_goals
        go_wp2
        go_ret
        exact ⟨rfl, A ++ [(c, ts ++ [s])], ⟨P1.out, HNE.out⟩, Fd.drew P2.out, E3.out⟩
    · have MH := keep (room_any w c ts.length hle c2)
      rw [decide_eq_false hr] at MH
      have MO0 := open_any w b (A ++ [(c, ts)]) [] (by rw [List.append_nil]; exact hd.1)
      rw [ltv_snoc, List.append_nil] at MO0
      have MO := keep MO0
      have hne : ∀ x ∈ (A ++ [(c, ts)]) ++ [(w.heap.size, [s])], 1 ≤ x.2.length := fun x hx => by
        rcases List.mem_append.1 hx with hx | hx
        · exact hd.2 x hx
        · simp at hx; subst hx; simp
      have HNE := keep hne
      have e3 : tx ((A ++ [(c, ts)]) ++ [(w.heap.size, [s])]) = pushB s (tx (A ++ [(c, ts)])) := by rw [htx, pushB_snoc, if_neg hr]; simp
      have E3 := keep e3
      have HN := keep hn
      generalize A ++ [(c, ts)] = cs at *
      clear hd e0 hn hck hle hne e3 htx c2 MO0
      go_enter Tryz.func44, Tryz.ntmps44
      go_wp2_with fail
      refine MR.out.mono ?_
      rintro _ w' ⟨rfl, rfl⟩
      go_wp2_with fail
      refine MH.out.mono ?_
      rintro _ w1 ⟨rfl, hw⟩
      obtain rfl := hw.symm
      go_wp2_with fail
      refine Calls.mono MO.out ?_
      rintro _ w2 ⟨rfl, o1, o2⟩
      have MP := keep (put_any w2.drew b w'.heap.size cs [] [] 0 s o1.drew (Nat.le_refl _) (by decide) (by rw [row_app, row_cons, List.length_append]; exact HN.out) hs)
      have f2 : w2.cell? ⟨b, 1, none⟩ = some (ptr w'.heap.size) := by have := o1.1.four.2.1; rw [ltv_snoc] at this; exact this
      have f3 : w2.cell? ⟨w'.heap.size, 2, none⟩ = some (.int .i64 0) := (ch_app.1 o1.2.1).2.1.cells.2.2.1
      have O2 := keep o2
      clear o1 o2 MO f0
      go_wp2_with fail
      go_region_with (first | (go_at_call 89; refine MP.out.mono ?_; rintro _ w3 ⟨rfl, p1, p2⟩; have P1 := keep p1; have P2 := keep p2; clear p1 p2))
      all_goals
        go_wp2
        go_ret
        exact ⟨rfl, cs ++ [(w'.heap.size, [s])], ⟨P1.out, HNE.out⟩, Fd.trans O2.out (Fd.drew P2.out), E3.out⟩
end Go.Proofs.YtijclcedjgniaaaGreat.DQ

/-
  Contracts over this program: the chunks of a deque gone through from the first on, by the own law for ranging.
-/
namespace Go.Proofs.YtijclcedjgniaaaGreat.DQ
open Go.RowKit
set_option linter.unusedVariables false
/-- what is told: the place of a chunk's first text, and the chunk -/
def riL : Nat → List Chk → List (Nat × Nat)
  | _, [] => []
  | s, x :: r => (s, x.1) :: riL (s + x.2.length) r
def riV (x : Nat × Nat) : Array Value := #[.int .i64 (x.1 : Int), ptr x.2]
theorem riL_len : ∀ (cs : List Chk) (s : Nat), (riL s cs).length = cs.length
  | [], _ => rfl
  | x :: r, s => by simp [riL, riL_len r]
theorem riL_at : ∀ (A : List Chk) (s c : Nat) (ts : List ByteArray) (B : List Chk), (riL s (A ++ (c, ts) :: B))[A.length]? = some (s + (row A).length, c)
  | [], s, c, ts, B => rfl
  | x :: A, s, c, ts, B => by
    rw [List.cons_append, List.length_cons]
    show (riL (s + x.2.length) (A ++ (c, ts) :: B))[A.length]? = _
    rw [riL_at A _ c ts B, row_cons, List.length_append]
    congr 2
    omega
/-- what is read of the m-th chunk -/
def RdR (Bd b : Nat) (cs : List Chk) (m : Nat) (w : World) : Prop :=
  w.cell? ⟨Bd, 0, none⟩ = some (ptr b) ∧ (m = 0 → w.cell? ⟨b, 0, none⟩ = some (hdv cs nul)) ∧ (∀ A c ts B, cs = A ++ (c, ts) :: B → A.length = m → w.cell? ⟨c, 1, none⟩ = some (hdv B nul) ∧ w.cell? ⟨c, 2, none⟩ = some (.int .i64 (ts.length : Nat)))
theorem below_dr (w : World) (q : Nat) : Below w.heap.size w (w.drewN q) := ⟨rfl, rfl, rfl, Nat.le_refl _, fun _ _ => rfl⟩
set_option maxRecDepth 100000 in
set_option maxHeartbeats 2000000 in
theorem rising_iter (Bd b : Nat) (cs : List Chk) (hne : ∀ x ∈ cs, 1 ≤ x.2.length) (hN : (row cs).length ≤ 1048576) (W : World) :
    Iter Tryz.prog 145 #[.pointer (some ⟨Bd, 0, none⟩)] riV (RdR Bd b cs) (riL 0 cs) W := by
  intro l J Jx hJ hJx hRd hY h0
  obtain ⟨r0, r1, _⟩ := hRd _ _ _ h0
  have r1 := r1 rfl
  have HY := keep hY
  have HRD := keep hRd
  have HJ := keep hJ
  have H0 := keep h0
  have HNE := keep hne
  obtain ⟨N, hNN⟩ : ∃ N, N = (row cs).length := ⟨_, rfl⟩
  rw [← hNN] at hN
  have HN := keep hNN
  have hNb : (N : Int) ≤ 1048576 := by omega
  clear hY hRd hJ h0 hne hNN hJx hN
  refine (callsIn_wide (n := 5)).1 (callsIn_of_wp Tryz.func145 rfl trivial ?_ rfl)
  simp only [Tryz.ntmps145, List.size_toArray, List.length_cons, List.length_nil, Nat.reduceAdd, Nat.reduceSub, Array.replicate_succ, Array.replicate_zero, List.push_toArray, List.append_toArray, List.nil_append, List.cons_append]
  gi_wp2
  clear r0 r1
  gi_loopw [3, 4] (fun u cv wr => ∃ A B : List Chk, Kept (cs = A ++ B) ∧ u = .int .i64 ((row A).length : Nat) ∧ cv = hdv B nul ∧ Kept (J (fun _ => False) A.length wr)) (fun u _ _ => N - (intOf u).toNat)
  case atStart => exact ⟨[], cs, rfl, rfl, rfl, H0⟩
  case round =>
    obtain ⟨A, B, KC, rfl, rfl, KJ⟩ := hrel
    cases B with
    | nil =>
      have e1 : hdv [] nul = .pointer none := rfl
      rw [e1]
      gi_wp2
      go_end0
      refine ⟨⟨_, rfl⟩, fun _ => False, fun _ h => h.elim, .inl ?_⟩
      have := KC.out
      rw [List.append_nil] at this
      rw [riL_len, this]
      exact KJ.out
    | cons x B =>
      obtain ⟨c, ts⟩ := x
      obtain ⟨_, _, r2⟩ := HRD.out _ _ _ KJ.out
      obtain ⟨k1, k2⟩ := r2 A c ts B KC.out rfl
      have e1 : hdv ((c, ts) :: B) nul = ptr c := rfl
      rw [e1]
      have hl : 1 ≤ ts.length := HNE.out (c, ts) (by rw [KC.out]; simp)
      have hr : (row A).length + ts.length ≤ N := by rw [HN.out, KC.out, row_app, row_cons, List.length_append, List.length_append]; dsimp only; omega
      have hx := riL_at A 0 c ts B
      rw [← KC.out, Nat.zero_add] at hx
      obtain ⟨s, hs⟩ : ∃ s, s = (row A).length := ⟨_, rfl⟩
      obtain ⟨t, ht⟩ : ∃ t, t = ts.length := ⟨_, rfl⟩
      rw [← hs]
      rw [← hs] at hx
      rw [← ht] at k2 hl
      rw [← hs, ← ht] at hr
      have hst : (s : Int) + (t : Int) ≤ 1048576 := by omega
      have HS := keep hs
      have HT := keep ht
      have HX := keep hx
      clear hs ht hx r2
      obtain ⟨nv, hnv⟩ : ∃ v, v = hdv B nul := ⟨_, rfl⟩
      rw [← hnv] at k1
      have HNV := keep hnv
      clear hnv
      gi_wp2_with fail
      gi_quiet (fail)
      have J1 := HJ.out _ _ _ _ _ KJ.out (Sep.of_below (below_dr wr nq)) (Ext.refl _ _ _)
      obtain ⟨fn, tmps, assign, body, hy, hR⟩ := (HY.out _ _ _ (wr.drewN nq) J1 HX.out (fun _ h => h.elim)).at (5 - 1)
      unfold riV at hy
      dsimp only at hy
      have HR := keep hR
      have e2 : (row (A ++ [(c, ts)])).length = s + t := by rw [row_app, row_cons, List.length_append, ← HS.out, HT.out]; simp [row]
      have E2 := keep e2
      clear hR J1 KJ k1 k2 e2
      gi_wp2
      refine RoundIn.mono HR.out ?_
      rintro e W3 ⟨_, (⟨rfl, hJ3⟩ | ⟨rfl, hJx3⟩)⟩
      · have K3 := keep hJ3
        clear hJ3
        gi_wp2
        go_roundw
        case rel => exact ⟨A ++ [(c, ts)], B, by show cs = _; rw [KC.out]; simp, by rw [E2.out]; go_num, HNV.out, by show J _ _ _; rw [List.length_append]; exact K3.out⟩
        case measure => simp [intOf]; omega
      · have K3 := keep hJx3
        clear hJx3
        gi_wp2
        refine bodyPost_ret (results_none rfl _ _ _) rfl ?_
        refine ⟨⟨_, rfl⟩, fun _ => False, fun _ h => h.elim, .inr ⟨A.length, by rw [riL_len, KC.out]; simp, K3.out⟩⟩
end Go.Proofs.YtijclcedjgniaaaGreat.DQ

/-
  Contracts over this program: the chunks of a deque gone through from the last one back, by the own law for ranging.
-/
namespace Go.Proofs.YtijclcedjgniaaaGreat.DQ
open Go.RowKit
set_option linter.unusedVariables false
theorem rev_at (A : List Chk) (c : Nat) (ts : List ByteArray) (B : List Chk) : (riL 0 (A ++ (c, ts) :: B)).reverse[B.length]? = some ((row A).length, c) := by
  have hl := riL_len (A ++ (c, ts) :: B) 0
  rw [List.length_append, List.length_cons] at hl
  rw [List.getElem?_reverse (by omega), hl, show A.length + (B.length + 1) - 1 - B.length = A.length by omega, riL_at, Nat.zero_add]
def RdF (Bd b : Nat) (cs : List Chk) (m : Nat) (w : World) : Prop :=
  w.cell? ⟨Bd, 0, none⟩ = some (ptr b) ∧ (m = 0 → w.cell? ⟨b, 1, none⟩ = some (ltv cs nul) ∧ w.cell? ⟨b, 2, none⟩ = some (.int .i64 ((row cs).length : Nat))) ∧ (∀ A c ts B, cs = A ++ (c, ts) :: B → B.length = m → w.cell? ⟨c, 0, none⟩ = some (ltv A nul) ∧ w.cell? ⟨c, 2, none⟩ = some (.int .i64 (ts.length : Nat)))
set_option maxRecDepth 100000 in
set_option maxHeartbeats 2000000 in
theorem falling_iter (Bd b : Nat) (cs : List Chk) (hne : ∀ x ∈ cs, 1 ≤ x.2.length) (hN : (row cs).length ≤ 1048576) (W : World) :
    Iter Tryz.prog 144 #[.pointer (some ⟨Bd, 0, none⟩)] riV (RdF Bd b cs) (riL 0 cs).reverse W := by
  intro l J Jx hJ hJx hRd hY h0
  obtain ⟨r0, r1, _⟩ := hRd _ _ _ h0
  obtain ⟨r1, r2'⟩ := r1 rfl
  have HY := keep hY
  have HRD := keep hRd
  have HJ := keep hJ
  have H0 := keep h0
  have HNE := keep hne
  obtain ⟨N, hNN⟩ : ∃ N, N = (row cs).length := ⟨_, rfl⟩
  rw [← hNN] at hN r2'
  have HN := keep hNN
  have hNb : (N : Int) ≤ 1048576 := by omega
  clear hY hRd hJ h0 hne hNN hJx hN
  refine (callsIn_wide (n := 5)).1 (callsIn_of_wp Tryz.func144 rfl trivial ?_ rfl)
  simp only [Tryz.ntmps144, List.size_toArray, List.length_cons, List.length_nil, Nat.reduceAdd, Nat.reduceSub, Array.replicate_succ, Array.replicate_zero, List.push_toArray, List.append_toArray, List.nil_append, List.cons_append]
  gi_wp2
  clear r0 r1 r2'
  gi_loopw [3, 4] (fun u cv wr => ∃ A B : List Chk, Kept (cs = A ++ B) ∧ u = .int .i64 ((row A).length : Nat) ∧ cv = ltv A nul ∧ Kept (J (fun _ => False) B.length wr)) (fun u _ _ => (intOf u).toNat)
  case atStart => exact ⟨cs, [], (List.append_nil cs).symm, by rw [← HN.out], rfl, H0⟩
  case round =>
    obtain ⟨A, B, KC, rfl, rfl, KJ⟩ := hrel
    rcases snoc_or (A := A) with rfl | ⟨A', c, ts, rfl⟩
    · have e1 : ltv [] nul = .pointer none := rfl
      rw [e1]
      gi_wp2
      go_end0
      refine ⟨⟨_, rfl⟩, fun _ => False, fun _ h => h.elim, .inl ?_⟩
      have := KC.out
      rw [List.nil_append] at this
      rw [List.length_reverse, riL_len, this]
      exact KJ.out
    · obtain ⟨_, _, r2⟩ := HRD.out _ _ _ KJ.out
      have hcs : cs = A' ++ (c, ts) :: B := by rw [KC.out]; simp
      obtain ⟨k1, k2⟩ := r2 A' c ts B hcs rfl
      rw [ltv_snoc]
      have hl : 1 ≤ ts.length := HNE.out (c, ts) (by rw [hcs]; simp)
      have hr : (row A').length + ts.length ≤ N := by rw [HN.out, hcs, row_app, row_cons, List.length_append, List.length_append]; dsimp only; omega
      have hx := rev_at A' c ts B
      rw [← hcs] at hx
      have e2 : (row (A' ++ [(c, ts)])).length = (row A').length + ts.length := by rw [row_app, row_cons, List.length_append]; simp [row]
      obtain ⟨s, hs⟩ : ∃ s, s = (row A').length := ⟨_, rfl⟩
      obtain ⟨t, ht⟩ : ∃ t, t = ts.length := ⟨_, rfl⟩
      rw [← hs] at hx
      rw [← ht] at k2 hl
      rw [← hs, ← ht] at hr e2
      obtain ⟨q, hq⟩ : ∃ q, q = s + t := ⟨_, rfl⟩
      rw [← hq] at e2
      rw [e2]
      have hst : (q : Int) - (t : Int) = (s : Int) := by omega
      have hsb : (s : Int) ≤ 1048576 := by omega
      have HS := keep hs
      have HQ := keep hq
      have HX := keep hx
      have HCS := keep hcs
      clear hs ht hx r2 hcs e2 hr
      obtain ⟨nv, hnv⟩ : ∃ v, v = ltv A' nul := ⟨_, rfl⟩
      rw [← hnv] at k1
      have HNV := keep hnv
      clear hnv
      obtain ⟨fn, tmps, assign, body, hy, hR⟩ := (HY.out _ _ _ wr KJ.out HX.out (fun _ h => h.elim)).at (5 - 1)
      unfold riV at hy
      dsimp only at hy
      have HR := keep hR
      clear hR KJ hq
      gi_wp2
      refine RoundIn.mono HR.out ?_
      rintro e W3 ⟨_, (⟨rfl, hJ3⟩ | ⟨rfl, hJx3⟩)⟩
      · have K3 := keep hJ3
        clear hJ3
        gi_wp2
        go_roundw
        case rel => exact ⟨A', (c, ts) :: B, HCS, by rw [← HS.out], HNV.out, K3⟩
        case measure => have := HQ.out; simp [intOf]; omega
      · have K3 := keep hJx3
        clear hJx3
        gi_wp2
        refine bodyPost_ret (results_none rfl _ _ _) rfl ?_
        refine ⟨⟨_, rfl⟩, fun _ => False, fun _ h => h.elim, .inr ⟨B.length, by rw [List.length_reverse, riL_len, HCS.out, List.length_append, List.length_cons]; omega, K3.out⟩⟩
end Go.Proofs.YtijclcedjgniaaaGreat.DQ

namespace Go.Proofs.YtijclcedjgniaaaGreat.DQ
open Go.RowKit
set_option linter.unusedVariables false
theorem rising_any (w : World) (b : Nat) : Calls Tryz.prog 92 #[ptr b] w fun e w' => e = .returned (.func (.func 145) #[] #[.pointer (some ⟨w.heap.size, 0, none⟩)]) ∧ w' = w.alloc (.cells #[ptr b] 79) := by
  go_enter Tryz.func92, Tryz.ntmps92
  go_wp2
  go_ret
  exact ⟨rfl, rfl⟩
theorem falling_any (w : World) (b : Nat) : Calls Tryz.prog 90 #[ptr b] w fun e w' => e = .returned (.func (.func 144) #[] #[.pointer (some ⟨w.heap.size, 0, none⟩)]) ∧ w' = w.alloc (.cells #[ptr b] 79) := by
  go_enter Tryz.func90, Tryz.ntmps90
  go_wp2
  go_ret
  exact ⟨rfl, rfl⟩
/-- where a text stands -/
structure At (cs : List Chk) (i : Nat) (A : List Chk) (c : Nat) (ts : List ByteArray) (B : List Chk) : Prop where
  is : cs = A ++ (c, ts) :: B
  lo : (row A).length ≤ i
  hi : i < (row A).length + ts.length
/-- what the caller holds while the chunks come; Bi, Bc, Bp, Bd: the boxes of the place, of the answers, of the deque -/
def FiI (w : World) (Bi b i : Nat) (P : Nat → Prop) (M : Nat → Prop) (m : Nat) (W1 : World) : Prop :=
  (¬ M Bi ∧ W1.heap[Bi]? = some (.cells #[.int .i64 (i : Nat)] 3 (0, 0))) ∧ (¬ M (Bi + 1) ∧ W1.heap[Bi + 1]? = some (.cells #[nul] 160 (0, 0))) ∧ (¬ M (Bi + 2) ∧ W1.heap[Bi + 2]? = some (.cells #[.int .i64 0] 3 (0, 0))) ∧
    (¬ M (Bi + 3) ∧ W1.heap[Bi + 3]? = some (.cells #[ptr b] 79 (0, 0))) ∧ Below w.heap.size w W1 ∧ (∀ k, M k → w.heap.size ≤ k) ∧ P m
def FiX (w : World) (Bi i : Nat) (cs : List Chk) (M : Nat → Prop) (W1 : World) : Prop :=
  ∃ A c ts B, At cs i A c ts B ∧ (¬ M (Bi + 1) ∧ W1.heap[Bi + 1]? = some (.cells #[ptr c] 160 (0, 0))) ∧ (¬ M (Bi + 2) ∧ W1.heap[Bi + 2]? = some (.cells #[.int .i64 (i - (row A).length : Nat)] 3 (0, 0))) ∧ Below w.heap.size w W1 ∧ (∀ k, M k → w.heap.size ≤ k)
theorem keepB {M M' : Nat → Prop} {A B : World} (hs : Sep M A B) (hx : Ext M M' A B) (k : Nat) (o : Obj) (hn : ¬ M k) (ho : A.heap[k]? = some o) : ¬ M' k ∧ B.heap[k]? = some o := by
  have hl := (Array.getElem?_eq_some_iff.1 ho).1
  exact ⟨hx.lt hl hn, (hs.2.2 k hl hn).trans ho⟩
theorem FiI.abd {w : World} {Bi b i : Nat} {P : Nat → Prop} : Abd (FiI w Bi b i P) := by
  rintro M M' m A B ⟨⟨h1, h1'⟩, ⟨h2, h2'⟩, ⟨h3, h3'⟩, ⟨h4, h4'⟩, h5, h6, h7⟩ hs hx
  exact ⟨keepB hs hx _ _ h1 h1', keepB hs hx _ _ h2 h2', keepB hs hx _ _ h3 h3', keepB hs hx _ _ h4 h4', h5.trans (hs.below h5.size h6), hx.ge h5.size h6, h7⟩
theorem FiX.abd {w : World} {Bi i : Nat} {cs : List Chk} : Abd (fun M (_ : Nat) => FiX w Bi i cs M) := by
  rintro M M' m A B ⟨A1, c, ts, B1, h0, ⟨h1, h1'⟩, ⟨h2, h2'⟩, h5, h6⟩ hs hx
  exact ⟨A1, c, ts, B1, h0, keepB hs hx _ _ h1 h1', keepB hs hx _ _ h2 h2', h5.trans (hs.below h5.size h6), hx.ge h5.size h6⟩
theorem riL_get {cs : List Chk} {m : Nat} {x : Nat × Nat} (h : (riL 0 cs)[m]? = some x) : ∃ A c ts B, cs = A ++ (c, ts) :: B ∧ A.length = m ∧ x = ((row A).length, c) := by
  have hl := (List.getElem?_eq_some_iff.1 h).1
  rw [riL_len] at hl
  have e : cs = cs.take m ++ (cs[m].1, cs[m].2) :: cs.drop (m + 1) := by
    conv => lhs; rw [← List.take_append_drop m cs]
    rw [List.drop_eq_getElem_cons hl]
  refine ⟨_, _, _, _, e, by rw [List.length_take]; omega, ?_⟩
  have := riL_at (cs.take m) 0 cs[m].1 cs[m].2 (cs.drop (m + 1))
  rw [← e, List.length_take, Nat.min_eq_left (by omega), h, Nat.zero_add] at this
  exact Option.some.inj this
theorem rd_rise {w : World} {Bi b i : Nat} {P : Nat → Prop} {cs : List Chk} (hd : Dq w b cs) (M : Nat → Prop) (m : Nat) (W1 : World) (h : FiI w Bi b i P M m W1) : RdR (Bi + 3) b cs m W1 := by
  obtain ⟨_, _, _, ⟨_, h4⟩, h5, _⟩ := h
  have hd1 := hd.below h5
  refine ⟨by rw [cell_of_row _ _ _ _ _ _ h4]; rfl, fun _ => hd1.1.1.four.1, fun A c ts B e _ => ?_⟩
  subst e
  have := (ch_app.1 hd1.1.2.1).2.1.cells
  exact ⟨this.2.1, this.2.2.1⟩
theorem rd_fall {w : World} {Bi b i : Nat} {P : Nat → Prop} {cs : List Chk} (hd : Dq w b cs) (M : Nat → Prop) (m : Nat) (W1 : World) (h : FiI w Bi b i P M m W1) : RdF (Bi + 3) b cs m W1 := by
  obtain ⟨_, _, _, ⟨_, h4⟩, h5, _⟩ := h
  have hd1 := hd.below h5
  refine ⟨by rw [cell_of_row _ _ _ _ _ _ h4]; rfl, fun _ => ⟨hd1.1.1.four.2.1, hd1.1.1.four.2.2.1⟩, fun A c ts B e _ => ?_⟩
  subst e
  have := (ch_app.1 hd1.1.2.1).2.1.cells
  exact ⟨this.1, this.2.2.1⟩
end Go.Proofs.YtijclcedjgniaaaGreat.DQ
