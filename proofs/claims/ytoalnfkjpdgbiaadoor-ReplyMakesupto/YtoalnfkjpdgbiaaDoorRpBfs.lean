/-
  What check does, told without its walk: depth by depth, list by list; and the rows in which it keeps the lists.
-/
import Derived.Test.YtoalnfkjpdgbiaaDoorRpMeet
namespace Go.Proofs.YtoalnfkjpdgbiaaDoor
open Go.RowKit
set_option linter.unusedVariables false
/-- what check sees of one reply: is it well made, an array, and where is its list -/
abbrev El : Type := Bool × Bool × Option (Spot × Nat)
/-- the code, the lists below, and what is noted -/
abbrev St : Type := Int × List (Spot × Nat) × (Spot → Int)
def stepE (d : Nat) (e : El) (s : St) : Option St :=
  if e.1 = false then none
  else
    let code := if e.2.1 = true ∧ 8 ≤ d then 161 else s.1
    match e.2.2 with
    | none => some (code, s.2.1, s.2.2)
    | some c => if s.2.2 c.1 = dep (d + 1) then some (code, s.2.1, s.2.2) else some (code, s.2.1 ++ [c], fun x => if x = c.1 then dep (d + 1) else s.2.2 x)
def goE (d : Nat) (k : St → Option Int) : List El → St → Option Int
  | [], s => k s
  | e :: es, s => match stepE d e s with
    | none => some 160
    | some s' => if s'.2.1.length ≤ 4000000000000 then goE d k es s' else none
def goR (d : Nat) (E : Spot → List El) (k : St → Option Int) : List (Spot × Nat) → St → Option Int
  | [], s => k s
  | x :: R, s => goE d (goR d E k R) (E x.1) s
def bfs (E : Spot → List El) : Nat → Nat → Int → List (Spot × Nat) → (Spot → Int) → Option Int
  | 0, _, _, _, _ => none
  | f + 1, d, code, R, N => if R.length = 0 then some code else goR d E (fun s => bfs E f (d + 1) s.1 s.2.1 s.2.2) R (code, [], N)
def elC : List Value → El
  | [.int _ k, .string s, .int _ i, .slice ao m c] => (Rp.wellW k s i (List.replicate m ()), k == 6, match ao with
    | some a => if m = 0 then none else some ((a.block, m), c)
    | none => none)
  | _ => (true, true, none)
def cellsAt (w : World) (g o : Nat) : List Value := [(w.cell? ⟨g, o, none⟩).getD undef, (w.cell? ⟨g, o + 1, none⟩).getD undef, (w.cell? ⟨g, o + 2, none⟩).getD undef, (w.cell? ⟨g, o + 3, none⟩).getD undef]
/-- what check sees of the replies of a list -/
def els (w : World) (S : Spot) : List El := (List.range S.2).map fun j => elC (cellsAt w S.1 (j * 4))
theorem els_at {w : World} {S : Spot} {j : Nat} (hj : j < S.2) {a0 a1 a2 a3 : Value} (h0 : w.cell? ⟨S.1, j * 4, none⟩ = some a0) (h1 : w.cell? ⟨S.1, j * 4 + 1, none⟩ = some a1) (h2 : w.cell? ⟨S.1, j * 4 + 2, none⟩ = some a2) (h3 : w.cell? ⟨S.1, j * 4 + 3, none⟩ = some a3) :
    (els w S)[j]? = some (elC [a0, a1, a2, a3]) := by
  unfold els
  rw [List.getElem?_map, List.getElem?_range hj]
  simp [cellsAt, h0, h1, h2, h3]
theorem els_len (w : World) (S : Spot) : (els w S).length = S.2 := by simp [els]
theorem goE_drop {d : Nat} {k : St → Option Int} {l : List El} {j : Nat} {e : El} {s : St} (h : l[j]? = some e) : goE d k (l.drop j) s = match stepE d e s with | none => some 160 | some s' => if s'.2.1.length ≤ 4000000000000 then goE d k (l.drop (j + 1)) s' else none := by
  rw [List.drop_eq_getElem_cons (List.getElem?_eq_some_iff.1 h).1, (List.getElem?_eq_some_iff.1 h).2]
  rfl
theorem goR_drop {d : Nat} {E : Spot → List El} {k : St → Option Int} {l : List (Spot × Nat)} {j : Nat} {x : Spot × Nat} {s : St} (h : l[j]? = some x) : goR d E k (l.drop j) s = goE d (goR d E k (l.drop (j + 1))) (E x.1) s := by
  rw [List.drop_eq_getElem_cons (List.getElem?_eq_some_iff.1 h).1, (List.getElem?_eq_some_iff.1 h).2]
  rfl
/-- a list that is told -/
def Known (P : Nat → Prop) (w : World) (S : Spot) : Prop := 0 < S.2 ∧ ∃ h c, ∃ l : List (Rp.T h), Lst P w (Tel P w h) (.slice (some ⟨S.1, 0, none⟩) S.2 c) l
theorem Known.lv {P : Nat → Prop} {w : World} {S : Spot} (h : Known P w S) : P S.1 ∧ Lv w S.1 := by
  obtain ⟨h0, n, c, l, hl⟩ := h
  rcases hl with ⟨rfl, ao, e⟩ | ⟨g, cap, cur, e, h2, h3, h4, _⟩
  · injection e with e1 e2 e3; omega
  · injection e with e1 e2 e3
    injection e1 with e1
    injection e1 with e1 _ _
    rw [e1]
    exact ⟨h3, _, _, h4⟩
/-- one of its replies -/
theorem Known.at {P : Nat → Prop} {w : World} {S : Spot} (h : Known P w S) {j : Nat} (hj : j < S.2) :
    ∃ k s i ao m c, w.cell? ⟨S.1, j * 4, none⟩ = some (.int .i64 k) ∧ w.cell? ⟨S.1, j * 4 + 1, none⟩ = some (.string s) ∧ w.cell? ⟨S.1, j * 4 + 2, none⟩ = some (.int .i64 i) ∧ w.cell? ⟨S.1, j * 4 + 3, none⟩ = some (.slice ao m c) ∧
      s.size < 4294967281 ∧ m ≤ c ∧ (m = 0 ∨ ∃ g, ao = some ⟨g, 0, none⟩ ∧ Known P w (g, m)) ∧ (els w S)[j]? = some (Rp.wellW k s i (List.replicate m ()), k == 6, if m = 0 then none else some (((ao.getD ⟨0, 0, none⟩).block, m), c)) := by
  obtain ⟨h0, n, c0, l, hl⟩ := h
  have hlen : S.2 = l.length := by
    obtain ⟨ao, c, e, _⟩ := hl.form
    injection e
  obtain ⟨x, hx⟩ : ∃ x, l[j]? = some x := ⟨_, List.getElem?_eq_getElem (by omega)⟩
  obtain ⟨g, cap, e, hPg, d0, d1, d2, d3, htl, e0, e1, e2, e3⟩ := hl.at hx (fun cs h => h.four)
  obtain ⟨rfl⟩ : S.1 = g := by injection e with q1 q2 q3; injection q1 with q1; injection q1
  cases n with
  | zero => exact nomatch x
  | succ n =>
    obtain ⟨v, hq, hL, hk, hi, hs⟩ := htl
    obtain ⟨ao, c, rfl, hmc, hcm⟩ := hL.form
    obtain ⟨rfl, rfl, rfl, rfl⟩ : d0 = .int .i64 (Rp.kd x) ∧ d1 = .string (Rp.tx x) ∧ d2 = .int .i64 (Rp.nm x) ∧ d3 = .slice ao (Rp.ls x).length c := by simpa using hq
    have hel := els_at hj e0 e1 e2 e3
    refine ⟨_, _, _, ao, (Rp.ls x).length, c, e0, e1, e2, e3, hs, hmc, ?_, ?_⟩
    · by_cases hz : (Rp.ls x).length = 0
      · exact .inl hz
      · rcases hL with ⟨h1, _⟩ | ⟨g', cap', cur, q, h2, h3, h4, h5⟩
        · rw [h1] at hz; simp at hz
        · obtain ⟨rfl, rfl⟩ : ao = some ⟨g', 0, none⟩ ∧ c = cap' := by injection q with q1 q2 q3; exact ⟨q1, q3⟩
          exact .inr ⟨g', rfl, by show 0 < _; omega, n, c, Rp.ls x, .inr ⟨g', c, cur, rfl, h2, h3, h4, h5⟩⟩
    · rw [hel]
      unfold elC
      by_cases hz : (Rp.ls x).length = 0
      · simp only [hz, if_true]
        cases ao <;> rfl
      · rcases hL with ⟨h1, _⟩ | ⟨g', cap', cur, q, _⟩
        · rw [h1] at hz; simp at hz
        · obtain ⟨rfl, rfl⟩ : ao = some ⟨g', 0, none⟩ ∧ c = cap' := by injection q with q1 q2 q3; exact ⟨q1, q3⟩
          simp [hz]
/-- a row of lists -/
def slV (x : Spot × Nat) : Value := .slice (some ⟨x.1.1, 0, none⟩) x.1.2 x.2
def Rl (w : World) (v : Value) (R : List (Spot × Nat)) : Prop := w.ownsRow 0 23 1 v R.length (R.map slV)
theorem Rl.nil (w : World) : Rl w (.slice none 0 0) [] := World.ownsRow_nil _ _ _ _
theorem Rl.kept {w w' : World} {v : Value} {R : List (Spot × Nat)} (h : Rl w v R) (hk : ∀ k, v.ownBlock = some k → w'.heap[k]? = w.heap[k]?) : Rl w' v R := own_kept h hk
theorem Rl.lt {w : World} {v : Value} {R : List (Spot × Nat)} (h : Rl w v R) : ∀ k, v.ownBlock = some k → k < w.heap.size := fun k hk => own_lt h hk
theorem Rl.form {w : World} {v : Value} {R : List (Spot × Nat)} (h : Rl w v R) : ∃ ao n c, v = .slice ao n c ∧ n = R.length := by
  rcases h.2 with ⟨rfl, hn⟩ | ⟨g, cap, cur, rfl, _⟩
  · exact ⟨none, 0, 0, rfl, hn.symm⟩
  · exact ⟨_, _, _, rfl, rfl⟩
theorem Rl.max {w : World} {v : Value} {R : List (Spot × Nat)} (h : Rl w v R) : R.length ≤ maxLen := by
  rcases h.2 with ⟨_, hn⟩ | ⟨g, cap, cur, _, _, _, h1, h2, _⟩
  · omega
  · exact Nat.le_trans h1 h2
theorem Rl.at {w : World} {v : Value} {R : List (Spot × Nat)} (h : Rl w v R) {j : Nat} {x : Spot × Nat} (hx : R[j]? = some x) : ∃ g cap, v = .slice (some ⟨g, 0, none⟩) R.length cap ∧ w.cell? ⟨g, j, none⟩ = some (slV x) := by
  have hl := (List.getElem?_eq_some_iff.1 hx).1
  rcases h.2 with ⟨rfl, hn⟩ | ⟨g, cap, cur, rfl, hb, hg, _⟩
  · omega
  · refine ⟨g, cap, rfl, ?_⟩
    have := World.ownsRow.cells h (g := g) rfl j (slV x) (by rw [List.getElem?_map, hx]; rfl)
    rwa [add_at, Nat.zero_add] at this
theorem info_sl' : (Tryd.prog.info? 23).map (fun i => (i.zero, i.size, i.bytes)) = some (some (.slice none 0 0), 1, 24) := by kernel_rfl
/-- one list more behind a row -/
theorem app_list {w : World} {v : Value} {R : List (Spot × Nat)} (x : Spot × Nat) (h1 : Rl w v R) (hl : R.length ≤ 5000000000000) (ty : TypeId) :
    ∃ v' w', (Builtin.append_ #[72, 72] ty #[v, .slice (some ⟨w.heap.size, 0, none⟩) 1 1]).run Tryd.prog (w.alloc (.cells #[slV x] 23)) = .ok v' w' ∧ Rl w' v' (R ++ [x]) ∧ Gr v v' w w' ∧ ∀ b, Lv w b → Lv w' b := by
  obtain ⟨i0, hi0, hz0, hz1, hz2⟩ := parts_of info_sl'
  have hb3 : Below w.heap.size w (w.alloc (.cells #[slV x] 23)) := (Below.refl _ w).alloc (Nat.le_refl _) _
  have c0 := cell_new w (slV x) 23
  have h1' := h1.kept (fun k hk => hb3.block k (h1.lt k hk))
  obtain ⟨v', w', r1, r2, r3, r4, r5⟩ := app_gen (w.alloc (.cells #[slV x] 23)) 0 72 72 ty 23 i0 _ 1 24 Tryd.underlying72 hi0 hz0 hz1 hz2 rfl (by decide) v R.length _ h1' _ 1 [slV x] (Src.ofSlice _ Tryd.underlying72 ⟨w.heap.size, 0, none⟩ 1 1 [slV x] rfl (fun j u hu => by
    cases j with
    | zero => rw [add_at]; simp at hu; rw [c0, hu]
    | succ j => simp at hu) (fun u hu => by simp at hu; subst hu; rfl)) (by unfold maxLen; omega) (by omega) (Nat.zero_le _)
  refine ⟨v', w', r1, ?_, Gr.ahead hb3 ⟨r3, fun k hk => ?_⟩ h1.lt, fun b ⟨cc, t, hb⟩ => r5 b ⟨cc, t, (hb3.block b (Array.getElem?_eq_some_iff.1 hb).1).trans hb⟩⟩
  · unfold Rl
    rw [List.length_append, List.map_append]
    exact r2
  · rcases r4 with e | e
    · exact .inl (e ▸ hk)
    · rw [e] at hk; cases hk; exact .inr (Nat.le_refl _)
end Go.Proofs.YtoalnfkjpdgbiaaDoor
