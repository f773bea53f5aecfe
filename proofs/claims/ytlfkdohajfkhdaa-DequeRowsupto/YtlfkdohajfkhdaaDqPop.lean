/-
  Contracts over this program: Remove, Pop.
-/
import Derived.Test.YtlfkdohajfkhdaaDqCut2
namespace Go.Proofs.Ytlfkdohajfkhdaa
open Go.RowKit Go.Shelf
set_option linter.unusedVariables false
theorem Fd.below_left {b : Nat} {cs cs' : List Chk} {w w1 w' : World} (h : Below w.heap.size w w1) (g : Fd b cs w1 w' cs') (hl : ∀ k, OwD b cs k → k < w.heap.size) : Fd b cs w w' cs' := Fd.trans (Fd.of_below h) g
/-- what is left behind a text is taken away -/
def Rem (cs : List Chk) (i : Nat) (cs' : List Chk) : Prop := ∃ A c ts B, At cs i A c ts B ∧ cs' = cutC A c (ts.take (i - (row A).length) ++ ts.drop (i - (row A).length + 1)) B
theorem Rem.rows {cs cs' : List Chk} {i : Nat} (h : Rem cs i cs') : row cs' = (row cs).take i ++ (row cs).drop (i + 1) := by
  obtain ⟨A, c, ts, B, ⟨h1, h2, h3⟩, rfl⟩ := h
  subst h1
  rw [cutC_row, row_app, row_cons]
  dsimp only
  rw [List.take_append, List.drop_append, List.take_append, List.drop_append]
  rw [List.take_of_length_le h2, List.drop_of_length_le (by omega : (row A).length ≤ i + 1)]
  rw [show i + 1 - (row A).length = i - (row A).length + 1 by omega]
  rw [show i - (row A).length - ts.length = 0 by omega, show i - (row A).length + 1 - ts.length = 0 by omega]
  simp
theorem Rem.ne {cs cs' : List Chk} {i : Nat} (h : Rem cs i cs') (hn : ∀ x ∈ cs, 1 ≤ x.2.length) : ∀ x ∈ cs', 1 ≤ x.2.length := by
  obtain ⟨A, c, ts, B, ⟨h1, h2, h3⟩, rfl⟩ := h
  subst h1
  intro x hx
  unfold cutC at hx
  split at hx
  · rcases List.mem_append.1 hx with hx | hx
    · exact hn x (by simp [hx])
    · exact hn x (by simp [hx])
  · rename_i h0
    rcases List.mem_append.1 hx with hx | hx
    · exact hn x (by simp [hx])
    · rcases List.mem_cons.1 hx with rfl | hx
      · exact Nat.one_le_iff_ne_zero.2 h0
      · exact hn x (by simp [hx])
set_option maxRecDepth 100000 in
set_option maxHeartbeats 1000000 in
theorem remove_in (w : World) (b : Nat) (cs : List Chk) (i : Nat) (hd : Dq w b cs) (hi : i < (row cs).length) :
    Calls Try.prog 22 #[ptr b, .int .i64 i] w fun e w' => e = .returned (.bool true) ∧ ∃ cs', Rem cs i cs' ∧ Dq w' b cs' ∧ Fd b cs w w' cs' := by
  have MF := keep (find_in w b cs i hd hi)
  have HD := keep hd
  have hN := hd.1.2.2.2.2
  have ib : (i : Int) ≤ 1048576 := by omega
  clear hd hi hN
  go_enter Try.func22, Try.ntmps22
  go_wp2_with fail
  refine MF.out.mono ?_
  rintro _ w1 ⟨⟨A, c, ts, B, hA, rfl⟩, hb⟩
  obtain ⟨h1, h2, h3⟩ := id hA
  have hd := HD.out.below hb
  subst h1
  obtain ⟨p, hp⟩ : ∃ p, p = i - (row A).length := ⟨_, rfl⟩
  have M := cut_any w1 b c A B ts p (p + 1) hd.1 (by omega) (by omega)
  rw [← hp]
  have pz : (p : Int) + 1 = ((p + 1 : Nat) : Int) := by omega
  rw [← pz] at M
  have pb : (p : Int) ≤ 1048576 := by omega
  have M := keep M
  have HP := keep hp
  have HA := keep hA
  have HB := keep hb
  clear hp hA hb hd h2 h3 pz MF
  go_wp2_with fail
  refine M.out.mono ?_
  rintro _ w2 ⟨rfl, g1, g2⟩
  have G1 := keep g1
  have G2 := keep g2
  clear g1 g2 M
  go_wp2
  go_ret
  have hr : Rem (A ++ (c, ts) :: B) i (cutC A c (ts.take p ++ ts.drop (p + 1)) B) := ⟨A, c, ts, B, HA.out, by rw [HP.out]⟩
  exact ⟨rfl, _, hr, ⟨G1.out, hr.ne HD.out.2⟩, Fd.trans (Fd.of_below HB.out) G2.out⟩
set_option maxRecDepth 100000 in
set_option maxHeartbeats 1000000 in
theorem remove_out (w : World) (bv : Value) (N : Nat) (i : Int) (hN : N ≤ 1048576) (hL : ∀ w1, Below w.heap.size w w1 → Calls Try.prog 24 #[bv] w1 fun e w' => e = .returned (.int .i64 (N : Nat)) ∧ w' = w1) (hi : i < 0 ∨ (N : Int) ≤ i) :
    Calls Try.prog 22 #[bv, .int .i64 i] w fun e w' => e = .returned (.bool false) ∧ Below w.heap.size w w' := by
  have MF := keep (find_out w bv N i hN hL hi)
  clear hL hi
  go_enter Try.func22, Try.ntmps22
  go_wp2_with fail
  refine MF.out.mono ?_
  rintro _ w1 ⟨rfl, hb⟩
  have HB := keep hb
  clear hb
  go_wp2
  go_ret
  exact ⟨rfl, HB.out⟩
set_option maxRecDepth 100000 in
set_option maxHeartbeats 1000000 in
/-- Pop of a row that has a text: the first, or the last -/
theorem pop_in (w : World) (b : Nat) (cs : List Chk) (first : Bool) (i : Nat) (hd : Dq w b cs) (s : ByteArray) (hi : i = if first then 0 else (row cs).length - 1) (hs : (row cs)[i]? = some s) :
    Calls Try.prog 20 #[ptr b, .bool first] w fun e w' => e = .returned (.tuple #[.string s, .bool true]) ∧ ∃ cs', Rem cs i cs' ∧ Dq w' b cs' ∧ Fd b cs w w' cs' := by
  have hl := (List.getElem?_eq_some_iff.1 hs).1
  have MA := keep (at_in w b cs i hd s hs)
  have MR := keep fun (w1 : World) (hb : Below w.heap.size w w1) => remove_in w1 b cs i (hd.below hb) hl
  have ML := keep (len_any w b _ _ _ _ hd.1.1)
  have hN := hd.1.2.2.2.2
  have HD := keep hd
  clear hd hs
  obtain ⟨N, hNN⟩ : ∃ N, N = (row cs).length := ⟨_, rfl⟩
  rw [← hNN] at hi hl hN ML
  have Nb : (N : Int) ≤ 1048576 := by omega
  have N1 : (1 : Int) ≤ (N : Int) := by omega
  clear hNN hN
  cases first with
  | true =>
    have hi0 : i = 0 := hi
    clear hi hl
    subst hi0
    have MA : Kept (Calls Try.prog 28 #[ptr b, .int .i64 0] w fun e w' => e = .returned (.tuple #[.string s, .bool true]) ∧ Below w.heap.size w w') := MA
    have MR : Kept (∀ w1, Below w.heap.size w w1 → Calls Try.prog 22 #[ptr b, .int .i64 0] w1 fun e w' => e = .returned (.bool true) ∧ ∃ cs', Rem cs 0 cs' ∧ Dq w' b cs' ∧ Fd b cs w1 w' cs') := MR
    go_enter Try.func20, Try.ntmps20
    go_wp2_with fail
    refine MA.out.mono ?_
    rintro _ w1 ⟨rfl, hb⟩
    have M := keep (MR.out w1 hb)
    have HB := keep hb
    clear hb
    go_wp2_with fail
    refine M.out.mono ?_
    rintro _ w2 ⟨rfl, cs', r1, r2, r3⟩
    have R := keep (And.intro r1 (And.intro r2 r3))
    clear r1 r2 r3
    go_wp2
    go_ret2
    exact ⟨rfl, cs', R.out.1, R.out.2.1, Fd.trans (Fd.of_below HB.out) R.out.2.2⟩
  | false =>
    have hi0 : i = N - 1 := hi
    have iz : (N : Int) - 1 = (i : Int) := by omega
    clear hi hi0 hl
    go_enter Try.func20, Try.ntmps20
    go_wp2_with fail
    refine ML.out.mono ?_
    rintro _ w0 ⟨rfl, hw⟩
    obtain rfl := hw.symm
    go_wp2_with fail
    refine MA.out.mono ?_
    rintro _ w1 ⟨rfl, hb⟩
    have M := keep (MR.out w1 hb)
    have HB := keep hb
    clear hb
    go_wp2_with fail
    refine M.out.mono ?_
    rintro _ w2 ⟨rfl, cs', r1, r2, r3⟩
    have R := keep (And.intro r1 (And.intro r2 r3))
    clear r1 r2 r3
    go_wp2
    go_ret2
    exact ⟨rfl, cs', R.out.1, R.out.2.1, Fd.trans (Fd.of_below HB.out) R.out.2.2⟩
set_option maxRecDepth 100000 in
set_option maxHeartbeats 1000000 in
/-- Pop of a row of no texts, and of none at all -/
theorem pop_out (w : World) (bv : Value) (first : Bool) (hL : ∀ w1, Below w.heap.size w w1 → Calls Try.prog 24 #[bv] w1 fun e w' => e = .returned (.int .i64 (0 : Nat)) ∧ w' = w1) :
    Calls Try.prog 20 #[bv, .bool first] w fun e w' => e = .returned (.tuple #[.string .empty, .bool false]) ∧ Below w.heap.size w w' := by
  have ML := keep (hL w (Below.refl _ _))
  have MA := keep fun (i : Int) (hi : i < 0 ∨ ((0 : Nat) : Int) ≤ i) => at_out w bv 0 i (by decide) hL hi
  have MR := keep fun (w1 : World) (hb : Below w.heap.size w w1) (i : Int) (hi : i < 0 ∨ ((0 : Nat) : Int) ≤ i) => remove_out w1 bv 0 i (by decide) (fun w2 hb2 => hL w2 (hb.trans (hb2.mono hb.size))) hi
  clear hL
  cases first with
  | true =>
    go_enter Try.func20, Try.ntmps20
    go_wp2_with fail
    refine (MA.out 0 (by omega)).mono ?_
    rintro _ w1 ⟨rfl, hb⟩
    have M := keep (MR.out w1 hb 0 (by omega))
    have HB := keep hb
    clear hb
    go_wp2_with fail
    refine M.out.mono ?_
    rintro _ w2 ⟨rfl, hb2⟩
    have HB2 := keep (HB.out.trans (hb2.mono HB.out.size))
    clear hb2
    go_wp2
    go_ret2
    exact ⟨rfl, HB2.out⟩
  | false =>
    go_enter Try.func20, Try.ntmps20
    go_wp2_with fail
    refine ML.out.mono ?_
    rintro _ w0 ⟨rfl, hw⟩
    obtain rfl := hw.symm
    go_wp2_with fail
    refine (MA.out (-1) (by omega)).mono ?_
    rintro _ w1 ⟨rfl, hb⟩
    have M := keep (MR.out w1 hb (-1) (by omega))
    have HB := keep hb
    clear hb
    go_wp2_with fail
    refine M.out.mono ?_
    rintro _ w2 ⟨rfl, hb2⟩
    have HB2 := keep (HB.out.trans (hb2.mono HB.out.size))
    clear hb2
    go_wp2
    go_ret2
    exact ⟨rfl, HB2.out⟩
end Go.Proofs.Ytlfkdohajfkhdaa
