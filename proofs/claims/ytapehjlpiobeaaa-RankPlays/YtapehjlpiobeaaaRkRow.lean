/-
  Laws of no program: a piece of a row, a copy into a row, an append as an equation; what stands in a row behind them.
-/
import Derived.Test.YtapehjlpiobeaaaRkMath
import Derived.Deep.AppendLies
import Derived.Laws.CopyOwn
namespace Go.Proofs.Ytapehjlpiobeaaa
open Go.RowKit Go.Shelf
set_option linter.unusedVariables false
theorem add_at (g o j : Nat) : (⟨g, o, none⟩ : Addr).add j = ⟨g, o + j, none⟩ := by unfold Addr.add; split <;> simp_all
theorem slice_run {P : Program} (w : World) (t e : TypeId) (ht : P.underlying t = some (.slice e)) (i : TypeInfo) (hinf : P.info? e = some i) (a : Addr) (n cap l h m : Nat) (lo hi mx : Option Value)
    (hmx : mx = none ∧ m = cap ∨ mx = some (.int .i64 (m : Int)) ∧ m ≤ cap) (hhi : hi = none ∧ h = n ∧ mx = none ∨ hi = some (.int .i64 (h : Int)) ∧ h ≤ m) (hlo : lo = none ∧ l = 0 ∨ lo = some (.int .i64 (l : Int)) ∧ l ≤ h) :
    (Instr.slice t (.slice (some a) n cap) lo hi mx).run P w = .ok (.slice (some (if m = l then a else a.add (l * i.size))) (h - l) (m - l)) w := by
  have hz := size_run w e i hinf
  have hb : ∀ (x y : Nat) code, x ≤ y → (Instr.sliceBound (.int .i64 (x : Int)) y code).run P w = .ok x w := fun x y code hxy => by
    have := run_sliceBound (P := P) (w := w) .i64 (x : Int) y code (by omega) (by omega)
    simpa using this
  rcases hmx with ⟨rfl, rfl⟩ | ⟨rfl, h1⟩ <;> rcases hhi with ⟨rfl, rfl, h2⟩ | ⟨rfl, h2⟩ <;> rcases hlo with ⟨rfl, rfl⟩ | ⟨rfl, h3⟩
  all_goals first | (cases h2; done) | skip
  all_goals
    simp (disch := assumption) only [Instr.slice, Instr.sliceBounds, run_underlying ht, Sem.run_bind, Sem.run_pure, Result.andThen_ok, hb, hz]
    split <;> rfl
/-- copy into a row; k: how many elements -/
theorem copy_to {P : Program} (w : World) (t e ty et : TypeId) (ht : P.underlying t = some (.slice e)) (i : TypeInfo) (hi : P.info? e = some i) (g d n m k cd c2 : Nat) (a : Addr) (cur : Array Value) (cs : List Value)
    (hg : w.heap[g]? = some (.cells cur et (0, 0))) (hk : min m n = k) (hl : cs.length = k * i.size) (hc : ∀ j u, cs[j]? = some u → w.cell? (a.add j) = some u) (hd : d + k * i.size ≤ cur.size) (h1 : ∀ u ∈ cs, u.oneCell' = true) :
    (Builtin.copy_ #[t, t] ty #[.slice (some ⟨g, d, none⟩) n cd, .slice (some a) m c2]).run P w = .ok (.int .i64 (k : Int)) (w.setRow g (cur.toList.take d ++ cs ++ cur.toList.drop (d + k * i.size)).toArray) := by
  have hst := run_storeCells_at P g d et cs 0 cur w hg (by rw [hl]; omega) h1
  rw [hl] at hst
  simp only [Nat.add_zero] at hst
  have hf := run_firstCells_some (P := P) w i.size k a m c2 cs hl hc
  simp [Builtin.copy_, run_underlying ht, sizeOf, typeInfo, hi, Builtin.lenOf, hk, hf, hst, goInt]
theorem wp_app_run {P : Program} {w w' : World} {o : Oper} {a : Act} {K : Act → World → Prop} {Q : Exit → Act → World → Prop} (s x : Operand) (t t2 : TypeId)
    (hop : o.op = Op.call { callee := Callee.builtin Builtin.append, args := #[s, x], argTypes := #[t, t2] }) (v v2 v' : Value) (hs : a.eval s = v) (hx : a.eval x = v2)
    (hrun : (Builtin.append_ #[t, t2] o.type #[v, v2]).run P w = .ok v' w') (hK : K (a.put o.dst v') w') : o.wp P a w K Q := by
  unfold Oper.wp
  simp [execOp, hop, resolve, invoke, builtin, hs, hx, hrun, Result.andThen]
  exact hK
theorem wp_cp_run {P : Program} {w w' : World} {o : Oper} {a : Act} {K : Act → World → Prop} {Q : Exit → Act → World → Prop} (s x : Operand) (t t2 : TypeId)
    (hop : o.op = Op.call { callee := Callee.builtin Builtin.copy, args := #[s, x], argTypes := #[t, t2] }) (v v2 v' : Value) (hs : a.eval s = v) (hx : a.eval x = v2)
    (hrun : (Builtin.copy_ #[t, t2] o.type #[v, v2]).run P w = .ok v' w') (hK : K (a.put o.dst v') w') : o.wp P a w K Q := by
  unfold Oper.wp
  simp [execOp, hop, resolve, invoke, builtin, hs, hx, hrun, Result.andThen]
  exact hK
theorem wpList_app_run {P : Program} {w w' : World} {ops : Array Oper} {rest : List Oper} {o : Oper} {a : Act} {Q : Exit → Act → World → Prop} (hg : o.guard = none) (s x : Operand) (t t2 : TypeId)
    (hop : o.op = Op.call { callee := Callee.builtin Builtin.append, args := #[s, x], argTypes := #[t, t2] }) (v v2 v' : Value) (hs : a.eval s = v) (hx : a.eval x = v2)
    (hrun : (Builtin.append_ #[t, t2] o.type #[v, v2]).run P w = .ok v' w') (hK : wpList P ops Q rest (a.put o.dst v') w') : wpList P ops Q (o :: rest) a w :=
  wpList_plain hg fun K hK' => wp_app_run s x t t2 hop v v2 v' hs hx hrun (hK' _ _ hK)
theorem wpList_cp_run {P : Program} {w w' : World} {ops : Array Oper} {rest : List Oper} {o : Oper} {a : Act} {Q : Exit → Act → World → Prop} (hg : o.guard = none) (s x : Operand) (t t2 : TypeId)
    (hop : o.op = Op.call { callee := Callee.builtin Builtin.copy, args := #[s, x], argTypes := #[t, t2] }) (v v2 v' : Value) (hs : a.eval s = v) (hx : a.eval x = v2)
    (hrun : (Builtin.copy_ #[t, t2] o.type #[v, v2]).run P w = .ok v' w') (hK : wpList P ops Q rest (a.put o.dst v') w') : wpList P ops Q (o :: rest) a w :=
  wpList_plain hg fun K hK' => wp_cp_run s x t t2 hop v v2 v' hs hx hrun (hK' _ _ hK)
/-- what is known of a row's block -/
theorem own_cur {w : World} {e s g n cap : Nat} {xs : List Value} (h : w.ownsRow 0 e s (.slice (some ⟨g, 0, none⟩) n cap) n xs) :
    ∃ cur, w.heap[g]? = some (.cells cur e (0, 0)) ∧ n ≤ cap ∧ cap ≤ maxLen ∧ cur.size = cap * s ∧ cur.toList.take (n * s) = xs ∧ xs.length = n * s := by
  rcases h.2 with ⟨h', _⟩ | ⟨g', cap', cur, h', _, hh, q1, q2, q3, q4⟩
  · cases h'
  · cases h'
    exact ⟨cur, hh, q1, q2, q3, q4, h.1⟩
theorem own_of {w : World} {e s g n cap : Nat} {xs : List Value} {cur : Array Value} (hh : w.heap[g]? = some (.cells cur e (0, 0))) (q1 : n ≤ cap) (q2 : cap ≤ maxLen) (q3 : cur.size = cap * s) (q4 : cur.toList.take (n * s) = xs) (q5 : xs.length = n * s) :
    w.ownsRow 0 e s (.slice (some ⟨g, 0, none⟩) n cap) n xs := ⟨q5, .inr ⟨g, cap, cur, rfl, Nat.zero_le _, hh, q1, q2, q3, q4⟩⟩
theorem only_row {w : World} {g : Nat} (cur : Array Value) : Only g w (w.setRow g cur) := ⟨⟨rfl, rfl, rfl⟩, by simp, fun k hk => setRow_other w g k _ hk⟩
theorem take_pre {cur xs : List Value} {n k : Nat} (h : cur.take n = xs) (hk : k ≤ n) : cur.take k = xs.take k := by rw [← h, List.take_take, Nat.min_eq_left hk]
/-- a stretch goes out of a row -/
theorem row_cut {cur xs : List Value} {n a b N : Nat} (h : cur.take n = xs) (hn : n ≤ cur.length) (ha : a ≤ b) (hb : b ≤ n) : (cur.take a ++ xs.drop b ++ cur.drop N).take (a + (n - b)) = xs.take a ++ xs.drop b := by
  have hl : xs.length = n := by rw [← h, List.length_take]; omega
  rw [take_pre h (by omega : a ≤ n)]
  exact List.take_left' (by rw [List.length_append, List.length_take, List.length_drop, hl]; omega)
/-- a piece comes into a row: what stands behind goes first -/
theorem row_in {cur xs vs : List Value} {n a b c N M : Nat} (h : cur.take n = xs) (hn : n ≤ cur.length) (ha : a ≤ b) (hb : b ≤ n) (hc : a + vs.length = c) (hcl : c ≤ cur.length) (hN : N = c + (n - b)) :
    ((cur.take c ++ xs.drop b ++ cur.drop N).take a ++ vs ++ (cur.take c ++ xs.drop b ++ cur.drop N).drop c).take N = xs.take a ++ vs ++ xs.drop b := by
  have hl : xs.length = n := by rw [← h, List.length_take]; omega
  have hac : a ≤ c := by omega
  have e1 : (cur.take c ++ xs.drop b ++ cur.drop N).take a = xs.take a := by
    rw [List.append_assoc, List.take_append_of_le_length (by rw [List.length_take]; omega), List.take_take, Nat.min_eq_left hac, take_pre h (by omega)]
  have e2 : (cur.take c ++ xs.drop b ++ cur.drop N).drop c = xs.drop b ++ cur.drop N := by
    rw [List.append_assoc]
    exact List.drop_left' (by rw [List.length_take]; omega)
  rw [e1, e2, ← List.append_assoc]
  exact List.take_left' (by simp only [List.length_append, List.length_take, List.length_drop, hl]; omega)
/-- a piece comes into a new row: the piece goes first -/
theorem row_new {cur xs vs : List Value} {n a b c N : Nat} (h : cur.take a = xs.take a) (hl : xs.length = n) (ha : a ≤ b) (hb : b ≤ n) (hc : a + vs.length = c) (hN : N = c + (n - b)) (hcl : N ≤ cur.length) :
    ((cur.take a ++ vs ++ cur.drop c).take c ++ xs.drop b ++ (cur.take a ++ vs ++ cur.drop c).drop N).take N = xs.take a ++ vs ++ xs.drop b := by
  have e1 : (cur.take a ++ vs ++ cur.drop c).take c = xs.take a ++ vs := by
    rw [h]
    exact List.take_left' (by simp only [List.length_append, List.length_take, hl]; omega)
  rw [e1]
  exact List.take_left' (by simp only [List.length_append, List.length_take, List.length_drop, hl]; omega)
end Go.Proofs.Ytapehjlpiobeaaa
