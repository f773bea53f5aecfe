/-
  Laws of no program, and what is told of a row of candidates: its cells, a piece of it, a copy, an append as an equation.
-/
import Derived.Test.YthmmblohfjmbcaaGreatProg
import Derived.WalkKit
import Derived.OpenShut
import Derived.Outline
import Derived.WalkLawsBesides
import Derived.Below
import Derived.OwnWalk
import Derived.Laws.AppendOwn
import Derived.Deep.AppendLies
import Derived.Deep.RegionHeld3
import Derived.Deep.Heap
import Derived.Deep.LoopGhost
import Derived.Laws.CopyOwn
import Derived.Lib.SliceRun
import Derived.StillTactics
import Derived.Shelf.Abstract
namespace Go.Proofs.YthmmblohfjmbcaaGreat.DV
open Go.RowKit Go.Shelf
set_option linter.unusedVariables false
/-- a fact kept out of the walk's sight -/
def Kept (p : Prop) : Prop := p
theorem keep {p : Prop} (h : p) : Kept p := h
theorem Kept.out {p : Prop} (h : Kept p) : p := h
/-- a candidate: its key, its rank -/
abbrev Ent : Type := ByteArray × Int
def enE (e : Ent) : List Value := [.string e.1, .int .u64 e.2]
def agE (e : Ent) : Value := .agg #[.string e.1, .int .u64 e.2]
theorem own_kept {w w' : World} {B e s : Nat} {v : Value} {n : Nat} {xs : List Value} (h : w.ownsRow B e s v n xs) (hk : ∀ k, v.ownBlock = some k → w'.heap[k]? = w.heap[k]?) : w'.ownsRow B e s v n xs := by
  refine ⟨h.1, ?_⟩
  rcases h.2 with hn | ⟨g, cap, cur, rfl, hb, hgg, rest⟩
  · exact .inl hn
  · exact .inr ⟨g, cap, cur, rfl, hb, by rw [hk g rfl]; exact hgg, rest⟩
theorem own_lt {w : World} {B e s : Nat} {v : Value} {n : Nat} {xs : List Value} (h : w.ownsRow B e s v n xs) {k : Nat} (hk : v.ownBlock = some k) : k < w.heap.size := (h.lt k hk).2
/-- block b alone has turned -/
def Only (b : Nat) (w w' : World) : Prop := (w'.os = w.os ∧ w'.tape = w.tape ∧ w'.output = w.output) ∧ w'.heap.size = w.heap.size ∧ ∀ k, k ≠ b → w'.heap[k]? = w.heap[k]?
theorem Only.refl (b : Nat) (w : World) : Only b w w := ⟨⟨rfl, rfl, rfl⟩, rfl, fun _ _ => rfl⟩
theorem Only.trans {b : Nat} {w w1 w2 : World} (h : Only b w w1) (g : Only b w1 w2) : Only b w w2 :=
  ⟨⟨g.1.1.trans h.1.1, g.1.2.1.trans h.1.2.1, g.1.2.2.trans h.1.2.2⟩, g.2.1.trans h.2.1, fun k hk => (g.2.2 k hk).trans (h.2.2 k hk)⟩
theorem Only.setCell {b : Nat} {w w' : World} (h : Only b w w') (i : Nat) (u : Value) : Only b w (w'.setCell ⟨b, i, none⟩ u) :=
  h.trans ⟨⟨rfl, rfl, rfl⟩, by simp [World.setCell], fun k hk => Below.heap_setCell _ _ _ _ hk⟩
theorem Only.drew {b : Nat} {w w' : World} (h : Only b w w') : Only b w w'.drew := ⟨h.1, h.2⟩
theorem size_run {P : Program} (w : World) (e : TypeId) (i : TypeInfo) (hi : P.info? e = some i) : (sizeOf e).run P w = .ok i.size w := by simp [sizeOf, typeInfo, hi]
theorem flat_take (l : List Ent) (p : Nat) : (l.take p).flatMap enE = (l.flatMap enE).take (p * 2) := by
  induction l generalizing p with
  | nil => simp
  | cons a l ih =>
    cases p with
    | zero => simp
    | succ p =>
      rw [List.take_succ_cons, List.flatMap_cons, List.flatMap_cons, ih, show (p + 1) * 2 = (enE a).length + p * 2 by simp [enE]; omega, List.take_length_add_append]
theorem flat_drop (l : List Ent) (p : Nat) : (l.drop p).flatMap enE = (l.flatMap enE).drop (p * 2) := by
  induction l generalizing p with
  | nil => simp
  | cons a l ih =>
    cases p with
    | zero => simp
    | succ p =>
      rw [List.drop_succ_cons, List.flatMap_cons, ih, show (p + 1) * 2 = (enE a).length + p * 2 by simp [enE]; omega, List.drop_length_add_append]
/-- clear of a slice: what stood ahead of it stays -/
theorem clear_run {P : Program} (w : World) (t e ty et : TypeId) (z : Value) (ht : P.underlying t = some (.slice e)) (hv : ∀ w, (zeroValue e).run P w = .ok z w) (h1 : ∀ u ∈ z.cells.toList, u.oneCell' = true) (b o n c : Nat) (cur : Array Value)
    (hg : w.heap[b]? = some (.cells cur et (0, 0))) (hfit : o + n * z.cells.size ≤ cur.size) :
    ∃ cur', (Builtin.clear_ #[t] ty #[.slice (some ⟨b, o, none⟩) n c]).run P w = .ok (.tuple #[]) (w.setRow b cur') ∧ cur'.size = cur.size ∧ cur'.toList.take o = cur.toList.take o := by
  cases n with
  | zero =>
    refine ⟨cur, ?_, rfl, rfl⟩
    rw [setRow_self w b cur et (0, 0) hg]
    simp [Builtin.clear_, run_underlying ht]
  | succ n =>
    have hsz : (Builtin.zeroCells z.cells (n + 1)).toList.length = (n + 1) * z.cells.size := by rw [Array.length_toList, size_zeroCells]
    have hone : ∀ u ∈ (Builtin.zeroCells z.cells (n + 1)).toList, u.oneCell' = true := by
      intro u hu
      unfold Builtin.zeroCells at hu
      rw [Array.toList_map, List.mem_map] at hu
      obtain ⟨i, hi, rfl⟩ := hu
      have hp : 0 < z.cells.size := by
        rcases Nat.eq_zero_or_pos z.cells.size with h | h
        · rw [h, Nat.mul_zero] at hi; simp at hi
        · exact h
      have hlt := Nat.mod_lt i hp
      rw [getElem!_pos z.cells _ hlt]
      exact h1 _ (by simp)
    have hst := run_storeCells_at P b o et _ 0 cur w hg (by rw [hsz]; simpa using hfit) hone
    simp only [Nat.add_zero] at hst
    refine ⟨(cur.toList.take o ++ (Builtin.zeroCells z.cells (n + 1)).toList ++ cur.toList.drop (o + (Builtin.zeroCells z.cells (n + 1)).toList.length)).toArray, by simp [Builtin.clear_, run_underlying ht, hv, hst], ?_, ?_⟩
    · rw [List.size_toArray, List.length_append, List.length_append, List.length_take, List.length_drop, hsz, Array.length_toList]
      omega
    · show List.take o (List.take o cur.toList ++ _ ++ _) = _
      rw [List.append_assoc, List.take_append_of_le_length (by simp; omega), List.take_take, Nat.min_self]
theorem add_at (g o j : Nat) : (⟨g, o, none⟩ : Addr).add j = ⟨g, o + j, none⟩ := by unfold Addr.add; split <;> simp_all
theorem slice_run {P : Program} (w : World) (t e : TypeId) (ht : P.underlying t = some (.slice e)) (i : TypeInfo) (hinf : P.info? e = some i) (a : Addr) (n cap l h m : Nat) (lo hi mx : Option Value)
    (hmx : mx = none ∧ m = cap ∨ mx = some (.int .i64 (m : Int)) ∧ m ≤ cap) (hhi : hi = none ∧ h = n ∧ mx = none ∨ hi = some (.int .i64 (h : Int)) ∧ h ≤ m) (hlo : lo = none ∧ l = 0 ∨ lo = some (.int .i64 (l : Int)) ∧ l ≤ h) :
    (Instr.slice t (.slice (some a) n cap) lo hi mx).run P w = .ok (.slice (some (if m = l then a else a.add (l * i.size))) (h - l) (m - l)) w := by
  have hz := size_run w e i hinf
  have hb : ∀ (x y : Nat) code, x ≤ y → (Instr.sliceBound (.int .i64 (x : Int)) y code).run P w = .ok x w := fun x y code hxy => by
    have := run_sliceBound (P := P) (w := w) .i64 (x : Int) y code (by omega) (by omega)
    simpa using this
  rcases hmx with ⟨rfl, rfl⟩ | ⟨rfl, h1⟩ <;> rcases hhi with ⟨rfl, rfl, h2⟩ | ⟨rfl, h2⟩ <;> rcases hlo with ⟨rfl, rfl⟩ | ⟨rfl, h3⟩
  all_goals first | (cases h2; done) | skip
  all_goals
    simp (disch := assumption) only [Instr.slice, Instr.sliceBounds, run_underlying ht, Sem.run_bind, Sem.run_pure, Result.andThen_ok, hb, hz]
    split <;> rfl
/-- copy into a row; k: how many elements -/
theorem copy_to {P : Program} (w : World) (t e ty et : TypeId) (ht : P.underlying t = some (.slice e)) (i : TypeInfo) (hi : P.info? e = some i) (g d n m k cd c2 : Nat) (a : Addr) (cur : Array Value) (cs : List Value)
    (hg : w.heap[g]? = some (.cells cur et (0, 0))) (hk : min m n = k) (hl : cs.length = k * i.size) (hc : ∀ j u, cs[j]? = some u → w.cell? (a.add j) = some u) (hd : d + k * i.size ≤ cur.size) (h1 : ∀ u ∈ cs, u.oneCell' = true) :
    (Builtin.copy_ #[t, t] ty #[.slice (some ⟨g, d, none⟩) n cd, .slice (some a) m c2]).run P w = .ok (.int .i64 (k : Int)) (w.setRow g (cur.toList.take d ++ cs ++ cur.toList.drop (d + k * i.size)).toArray) := by
  have hst := run_storeCells_at P g d et cs 0 cur w hg (by rw [hl]; omega) h1
  rw [hl] at hst
  simp only [Nat.add_zero] at hst
  have hf := run_firstCells_some (P := P) w i.size k a m c2 cs hl hc
  simp [Builtin.copy_, run_underlying ht, sizeOf, typeInfo, hi, Builtin.lenOf, hk, hf, hst, goInt]
theorem wp_app_run {P : Program} {w w' : World} {o : Oper} {a : Act} {K : Act → World → Prop} {Q : Exit → Act → World → Prop} (s x : Operand) (t t2 : TypeId)
    (hop : o.op = Op.call { callee := Callee.builtin Builtin.append, args := #[s, x], argTypes := #[t, t2] }) (v v2 v' : Value) (hs : a.eval s = v) (hx : a.eval x = v2)
    (hrun : (Builtin.append_ #[t, t2] o.type #[v, v2]).run P w = .ok v' w') (hK : K (a.put o.dst v') w') : o.wp P a w K Q := by
  unfold Oper.wp
  simp [execOp, hop, resolve, invoke, builtin, hs, hx, hrun, Result.andThen]
  exact hK
theorem wp_cp_run {P : Program} {w w' : World} {o : Oper} {a : Act} {K : Act → World → Prop} {Q : Exit → Act → World → Prop} (s x : Operand) (t t2 : TypeId)
    (hop : o.op = Op.call { callee := Callee.builtin Builtin.copy, args := #[s, x], argTypes := #[t, t2] }) (v v2 v' : Value) (hs : a.eval s = v) (hx : a.eval x = v2)
    (hrun : (Builtin.copy_ #[t, t2] o.type #[v, v2]).run P w = .ok v' w') (hK : K (a.put o.dst v') w') : o.wp P a w K Q := by
  unfold Oper.wp
  simp [execOp, hop, resolve, invoke, builtin, hs, hx, hrun, Result.andThen]
  exact hK
theorem wpList_app_run {P : Program} {w w' : World} {ops : Array Oper} {rest : List Oper} {o : Oper} {a : Act} {Q : Exit → Act → World → Prop} (hg : o.guard = none) (s x : Operand) (t t2 : TypeId)
    (hop : o.op = Op.call { callee := Callee.builtin Builtin.append, args := #[s, x], argTypes := #[t, t2] }) (v v2 v' : Value) (hs : a.eval s = v) (hx : a.eval x = v2)
    (hrun : (Builtin.append_ #[t, t2] o.type #[v, v2]).run P w = .ok v' w') (hK : wpList P ops Q rest (a.put o.dst v') w') : wpList P ops Q (o :: rest) a w :=
  wpList_plain hg fun K hK' => wp_app_run s x t t2 hop v v2 v' hs hx hrun (hK' _ _ hK)
theorem wpList_cp_run {P : Program} {w w' : World} {ops : Array Oper} {rest : List Oper} {o : Oper} {a : Act} {Q : Exit → Act → World → Prop} (hg : o.guard = none) (s x : Operand) (t t2 : TypeId)
    (hop : o.op = Op.call { callee := Callee.builtin Builtin.copy, args := #[s, x], argTypes := #[t, t2] }) (v v2 v' : Value) (hs : a.eval s = v) (hx : a.eval x = v2)
    (hrun : (Builtin.copy_ #[t, t2] o.type #[v, v2]).run P w = .ok v' w') (hK : wpList P ops Q rest (a.put o.dst v') w') : wpList P ops Q (o :: rest) a w :=
  wpList_plain hg fun K hK' => wp_cp_run s x t t2 hop v v2 v' hs hx hrun (hK' _ _ hK)
/-- what is known of a row's block -/
theorem own_cur {w : World} {e s g n cap : Nat} {xs : List Value} (h : w.ownsRow 0 e s (.slice (some ⟨g, 0, none⟩) n cap) n xs) :
    ∃ cur, w.heap[g]? = some (.cells cur e (0, 0)) ∧ n ≤ cap ∧ cap ≤ maxLen ∧ cur.size = cap * s ∧ cur.toList.take (n * s) = xs ∧ xs.length = n * s := by
  rcases h.2 with ⟨h', _⟩ | ⟨g', cap', cur, h', _, hh, q1, q2, q3, q4⟩
  · cases h'
  · cases h'
    exact ⟨cur, hh, q1, q2, q3, q4, h.1⟩
theorem own_of {w : World} {e s g n cap : Nat} {xs : List Value} {cur : Array Value} (hh : w.heap[g]? = some (.cells cur e (0, 0))) (q1 : n ≤ cap) (q2 : cap ≤ maxLen) (q3 : cur.size = cap * s) (q4 : cur.toList.take (n * s) = xs) (q5 : xs.length = n * s) :
    w.ownsRow 0 e s (.slice (some ⟨g, 0, none⟩) n cap) n xs := ⟨q5, .inr ⟨g, cap, cur, rfl, Nat.zero_le _, hh, q1, q2, q3, q4⟩⟩
theorem only_row {w : World} {g : Nat} (cur : Array Value) : Only g w (w.setRow g cur) := ⟨⟨rfl, rfl, rfl⟩, by simp, fun k hk => setRow_other w g k _ hk⟩
theorem take_pre {cur xs : List Value} {n k : Nat} (h : cur.take n = xs) (hk : k ≤ n) : cur.take k = xs.take k := by rw [← h, List.take_take, Nat.min_eq_left hk]
/-- a stretch goes out of a row -/
theorem row_cut {cur xs : List Value} {n a b N : Nat} (h : cur.take n = xs) (hn : n ≤ cur.length) (ha : a ≤ b) (hb : b ≤ n) : (cur.take a ++ xs.drop b ++ cur.drop N).take (a + (n - b)) = xs.take a ++ xs.drop b := by
  have hl : xs.length = n := by rw [← h, List.length_take]; omega
  rw [take_pre h (by omega : a ≤ n)]
  exact List.take_left' (by rw [List.length_append, List.length_take, List.length_drop, hl]; omega)
/-- a piece comes into a row: what stands behind goes first -/
theorem row_in {cur xs vs : List Value} {n a b c N M : Nat} (h : cur.take n = xs) (hn : n ≤ cur.length) (ha : a ≤ b) (hb : b ≤ n) (hc : a + vs.length = c) (hcl : c ≤ cur.length) (hN : N = c + (n - b)) :
    ((cur.take c ++ xs.drop b ++ cur.drop N).take a ++ vs ++ (cur.take c ++ xs.drop b ++ cur.drop N).drop c).take N = xs.take a ++ vs ++ xs.drop b := by
  have hl : xs.length = n := by rw [← h, List.length_take]; omega
  have hac : a ≤ c := by omega
  have e1 : (cur.take c ++ xs.drop b ++ cur.drop N).take a = xs.take a := by
    rw [List.append_assoc, List.take_append_of_le_length (by rw [List.length_take]; omega), List.take_take, Nat.min_eq_left hac, take_pre h (by omega)]
  have e2 : (cur.take c ++ xs.drop b ++ cur.drop N).drop c = xs.drop b ++ cur.drop N := by
    rw [List.append_assoc]
    exact List.drop_left' (by rw [List.length_take]; omega)
  rw [e1, e2, ← List.append_assoc]
  exact List.take_left' (by simp only [List.length_append, List.length_take, List.length_drop, hl]; omega)
/-- a piece comes into a new row: the piece goes first -/
theorem row_new {cur xs vs : List Value} {n a b c N : Nat} (h : cur.take a = xs.take a) (hl : xs.length = n) (ha : a ≤ b) (hb : b ≤ n) (hc : a + vs.length = c) (hN : N = c + (n - b)) (hcl : N ≤ cur.length) :
    ((cur.take a ++ vs ++ cur.drop c).take c ++ xs.drop b ++ (cur.take a ++ vs ++ cur.drop c).drop N).take N = xs.take a ++ vs ++ xs.drop b := by
  have e1 : (cur.take a ++ vs ++ cur.drop c).take c = xs.take a ++ vs := by
    rw [h]
    exact List.take_left' (by simp only [List.length_append, List.length_take, hl]; omega)
  rw [e1]
  exact List.take_left' (by simp only [List.length_append, List.length_take, List.length_drop, hl]; omega)
def enR (l : List Ent) : List Value := l.flatMap enE
theorem enR_len (l : List Ent) : (enR l).length = l.length * 2 := by
  unfold enR
  induction l with
  | nil => rfl
  | cons e l ih => rw [List.flatMap_cons, List.length_append, ih]; simp [enE]; omega
theorem enR_one {l : List Ent} : ∀ u ∈ enR l, u.oneCell' = true := by
  intro u h
  unfold enR at h
  obtain ⟨e, _, he⟩ := List.mem_flatMap.1 h
  simp only [enE, List.mem_cons, List.not_mem_nil, or_false] at he
  rcases he with rfl | rfl <;> rfl
theorem enR_take (l : List Ent) (p : Nat) : enR (l.take p) = (enR l).take (p * 2) := flat_take l p
theorem enR_drop (l : List Ent) (p : Nat) : enR (l.drop p) = (enR l).drop (p * 2) := flat_drop l p
theorem enR_app (l m : List Ent) : enR (l ++ m) = enR l ++ enR m := by unfold enR; rw [List.flatMap_append]
theorem enR_cut (l : List Ent) (p : Nat) : enR (l.take p ++ l.drop (p + 1)) = (enR l).take (p * 2) ++ (enR l).drop ((p + 1) * 2) := by
  rw [enR_app, enR_take, enR_drop]
/-- the two cells of a member -/
theorem enR_at {l : List Ent} : ∀ {j : Nat} {e : Ent}, l[j]? = some e → (enR l)[j * 2]? = some (.string e.1) ∧ (enR l)[j * 2 + 1]? = some (.int .u64 e.2) := by
  induction l with
  | nil => intro j e h; simp at h
  | cons d l ih =>
    intro j e h
    cases j with
    | zero => simp at h; subst h; exact ⟨rfl, rfl⟩
    | succ j =>
      rw [List.getElem?_cons_succ] at h
      obtain ⟨h1, h2⟩ := ih h
      have e1 : enR (d :: l) = .string d.1 :: .int .u64 d.2 :: enR l := rfl
      rw [e1, show (j + 1) * 2 = j * 2 + 1 + 1 by omega]
      exact ⟨by simpa using h1, by simpa using h2⟩
/-- texts by their bytes -/
def tls (a b : ByteArray) : Bool := Op.bytesLess a.toList b.toList
theorem less_is : ∀ (x y : List UInt8), Op.bytesLess x y = decide (x < y)
  | [], [] => by simp [Op.bytesLess]
  | _ :: _, [] => by simp [Op.bytesLess]
  | [], _ :: _ => by simp [Op.bytesLess]
  | a :: x, b :: y => by
    rw [Op.bytesLess, less_is x y]
    simp only [List.cons_lt_cons_iff]
    by_cases h1 : a < b <;> by_cases h2 : a = b <;> by_cases h3 : x < y <;> simp [h1, h2, h3]
theorem tl_inj {x y : ByteArray} (h : x.toList = y.toList) : x = y := by
  rw [ByteArray.toList_eq, ByteArray.toList_eq] at h
  obtain ⟨⟨a⟩⟩ := x
  obtain ⟨⟨b⟩⟩ := y
  simp only at h
  rw [h]
theorem tls_irr (a : ByteArray) : tls a a = false := by unfold tls; rw [less_is]; simp [List.lt_irrefl]
theorem tls_trans {a b c : ByteArray} (h : tls a b = true) (g : tls b c = true) : tls a c = true := by
  unfold tls at *
  rw [less_is, decide_eq_true_eq] at *
  exact List.lt_trans h g
theorem tls_tot {a b : ByteArray} (h : tls a b = false) (g : tls b a = false) : a = b := by
  unfold tls at *
  rw [less_is, decide_eq_false_iff_not, List.not_lt] at *
  exact tl_inj (List.le_antisymm g h)
/-- nothing has turned but the blocks M, and new ones; M': those that it is now -/
def Fm (M : List Nat) (w : World) (M' : List Nat) (w' : World) : Prop :=
  (w'.os = w.os ∧ w'.tape = w.tape ∧ w'.output = w.output) ∧ w.heap.size ≤ w'.heap.size ∧ ∀ k, k < w.heap.size → k ∉ M → w'.heap[k]? = w.heap[k]? ∧ k ∉ M'
theorem Fm.refl (M : List Nat) (w : World) : Fm M w M w := ⟨⟨rfl, rfl, rfl⟩, Nat.le_refl _, fun _ _ h => ⟨rfl, h⟩⟩
theorem Fm.trans {M M1 M2 : List Nat} {w w1 w2 : World} (h : Fm M w M1 w1) (g : Fm M1 w1 M2 w2) : Fm M w M2 w2 := by
  obtain ⟨⟨a1, a2, a3⟩, a4, a5⟩ := h
  obtain ⟨⟨b1, b2, b3⟩, b4, b5⟩ := g
  refine ⟨⟨b1.trans a1, b2.trans a2, b3.trans a3⟩, Nat.le_trans a4 b4, fun k hk hr => ?_⟩
  obtain ⟨c1, c2⟩ := a5 k hk hr
  obtain ⟨d1, d2⟩ := b5 k (Nat.lt_of_lt_of_le hk a4) c2
  exact ⟨d1.trans c1, d2⟩
theorem Fm.below {w w' : World} {M : List Nat} (h : Below w.heap.size w w') : Fm M w M w' := ⟨⟨h.os, h.tape, h.output⟩, h.size, fun k hk hr => ⟨h.block k hk, hr⟩⟩
theorem Below.up {w W w' : World} (h : Below w.heap.size w W) (g : Below W.heap.size W w') : Below w.heap.size w w' :=
  h.trans ⟨g.os, g.tape, g.output, g.size, fun k hk => g.block k (Nat.lt_of_lt_of_le hk h.size)⟩
end Go.Proofs.YthmmblohfjmbcaaGreat.DV
