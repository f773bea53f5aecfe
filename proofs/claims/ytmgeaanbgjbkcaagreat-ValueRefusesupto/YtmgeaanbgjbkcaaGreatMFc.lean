/-
  Contracts over this program, put together.
-/
import Derived.Test.YtmgeaanbgjbkcaaGreatMA
import Derived.Test.YtmgeaanbgjbkcaaGreatMFb
import Derived.Deep.AppendLies
import Derived.Laws.CopyOwn
import Derived.Lib.Overlaps
import Derived.Lib.AppendZerosOnto
set_option maxHeartbeats 8000000
namespace Go.Proofs.YtmgeaanbgjbkcaaGreat.DF
open Go.RowKit Go.Shelf
def fk (x : Nat) : Int × Int :=
  match Ieee.double.read x with
  | .number s m i => (0, Ieee.signed s m (i - Ieee.double.leastPlace).toNat)
  | .infinity s => (if s then -1 else 1, 0)
  | .nan _ _ => (2, 0)
def ko (p q : Int × Int) : Ordering := if p.1 < q.1 then .lt else if q.1 < p.1 then .gt else if p.2 < q.2 then .lt else if q.2 < p.2 then .gt else .eq
theorem read_place {x : Nat} {s : Bool} {m : Nat} {i : Int} (h : Ieee.double.read x = .number s m i) : Ieee.double.leastPlace ≤ i := by
  unfold Ieee.Format.read at h
  simp only at h
  split at h
  · cases h; exact Int.le_refl _
  · split at h
    · cases h; omega
    · split at h <;> cases h
theorem signed_up (s : Bool) (m u k : Nat) : Ieee.signed s m (u + k) = Ieee.signed s m u * ((2 ^ k : Nat) : Int) := by
  unfold Ieee.signed
  have e : m <<< (u + k) = m <<< u * 2 ^ k := by rw [Nat.shiftLeft_eq, Nat.shiftLeft_eq, Nat.pow_add, Nat.mul_assoc]
  rw [e]
  split
  · rw [Int.natCast_mul, Int.neg_mul]
  · rw [Int.natCast_mul]
theorem cmp_ko (A B : Int) : compare A B = ko (0, A) (0, B) := by
  show compareOfLessAndEq A B = _
  unfold compareOfLessAndEq ko
  by_cases h1 : A < B
  · simp [h1]
  · by_cases h2 : A = B
    · subst h2; simp
    · have : B < A := by omega
      simp [h1, h2, this]
theorem ko_mul (A B : Int) (c : Nat) (hc : 0 < c) : ko (0, A * (c : Int)) (0, B * (c : Int)) = ko (0, A) (0, B) := by
  have hc' : (0 : Int) < (c : Int) := by omega
  unfold ko
  simp only [Int.lt_irrefl, if_false]
  have h1 : A * (c : Int) < B * (c : Int) ↔ A < B := Int.mul_lt_mul_right hc'
  have h2 : B * (c : Int) < A * (c : Int) ↔ B < A := Int.mul_lt_mul_right hc'
  simp only [h1, h2]
theorem order_key {x y : Nat} (hx : isNan x = false) (hy : isNan y = false) : Ieee.double.order x y = some (ko (fk x) (fk y)) := by
  unfold Ieee.Format.order fk
  unfold isNan at hx hy
  cases ex : Ieee.double.read x with
  | nan s f => rw [ex] at hx; cases hx
  | infinity s =>
    cases ey : Ieee.double.read y with
    | nan s f => rw [ey] at hy; cases hy
    | infinity t => cases s <;> cases t <;> rfl
    | number t n j => cases s <;> simp [Ieee.Datum.order, ko]
  | number s m i =>
    cases ey : Ieee.double.read y with
    | nan s f => rw [ey] at hy; cases hy
    | infinity t => cases t <;> simp [Ieee.Datum.order, ko]
    | number t n j =>
      have hi := read_place ex
      have hj := read_place ey
      generalize Ieee.double.leastPlace = lp at hi hj
      simp only [Ieee.Datum.order]
      rw [cmp_ko]
      have e1 : (i - lp).toNat = (i - min i j).toNat + (min i j - lp).toNat := by omega
      have e2 : (j - lp).toNat = (j - min i j).toNat + (min i j - lp).toNat := by omega
      rw [e1, e2, signed_up, signed_up, ko_mul _ _ _ (Nat.pow_pos (by decide))]
def flt (x y : Nat) : Bool := decide (Ieee.double.order x y = some .lt)
def feq (x y : Nat) : Bool := decide (Ieee.double.order x y = some .eq)
theorem flt_key {x y : Nat} (hx : isNan x = false) (hy : isNan y = false) : flt x y = true ↔ (fk x).1 < (fk y).1 ∨ ((fk x).1 = (fk y).1 ∧ (fk x).2 < (fk y).2) := by
  unfold flt
  rw [order_key hx hy, decide_eq_true_eq, Option.some.injEq]
  unfold ko
  repeat' split
  all_goals simp
  all_goals omega
theorem feq_key {x y : Nat} (hx : isNan x = false) (hy : isNan y = false) : feq x y = true ↔ (fk x).1 = (fk y).1 ∧ (fk x).2 = (fk y).2 := by
  unfold feq
  rw [order_key hx hy, decide_eq_true_eq, Option.some.injEq]
  unfold ko
  repeat' split
  all_goals simp
  all_goals omega
def tls (a b : ByteArray) : Bool := Op.bytesLess a.toList b.toList
theorem less_is : ∀ (x y : List UInt8), Op.bytesLess x y = decide (x < y)
  | [], [] => by simp [Op.bytesLess]
  | _ :: _, [] => by simp [Op.bytesLess]
  | [], _ :: _ => by simp [Op.bytesLess]
  | a :: x, b :: y => by
    rw [Op.bytesLess, less_is x y]
    simp only [List.cons_lt_cons_iff]
    by_cases h1 : a < b <;> by_cases h2 : a = b <;> by_cases h3 : x < y <;> simp [h1, h2, h3]
theorem tl_inj {x y : ByteArray} (h : x.toList = y.toList) : x = y := by
  rw [ByteArray.toList_eq, ByteArray.toList_eq] at h
  obtain ⟨⟨a⟩⟩ := x
  obtain ⟨⟨b⟩⟩ := y
  simp only at h
  rw [h]
theorem tls_irr (a : ByteArray) : tls a a = false := by unfold tls; rw [less_is]; simp [List.lt_irrefl]
theorem tls_trans {a b c : ByteArray} (h : tls a b = true) (g : tls b c = true) : tls a c = true := by
  unfold tls at *
  rw [less_is, decide_eq_true_eq] at *
  exact List.lt_trans h g
theorem tls_tot {a b : ByteArray} (h : tls a b = false) (g : tls b a = false) : a = b := by
  unfold tls at *
  rw [less_is, decide_eq_false_iff_not, List.not_lt] at *
  exact tl_inj (List.le_antisymm g h)
def ahd (a b : Ent) : Bool := flt a.2 b.2 || (feq a.2 b.2 && tls a.1 b.1)
def Num (e : Ent) : Prop := isNan e.2 = false
theorem ahd_irr {a : Ent} (ha : Num a) : ahd a a = false := by
  unfold ahd
  have h1 : flt a.2 a.2 = false := by
    cases h : flt a.2 a.2 with
    | false => rfl
    | true => have := (flt_key ha ha).1 h; omega
  rw [h1, tls_irr]; simp
theorem ahd_trans {a b c : Ent} (ha : Num a) (hb : Num b) (hc : Num c) (h : ahd a b = true) (g : ahd b c = true) : ahd a c = true := by
  unfold ahd at *
  rw [Bool.or_eq_true, Bool.and_eq_true] at *
  rw [flt_key ha hb, feq_key ha hb] at h
  rw [flt_key hb hc, feq_key hb hc] at g
  rw [flt_key ha hc, feq_key ha hc]
  rcases h with h | ⟨h, h'⟩ <;> rcases g with g | ⟨g, g'⟩
  · left; omega
  · left; omega
  · left; omega
  · right; exact ⟨by omega, tls_trans h' g'⟩
theorem ahd_tot {a b : Ent} (ha : Num a) (hb : Num b) (h : ahd a b = false) (g : ahd b a = false) : feq a.2 b.2 = true ∧ a.1 = b.1 := by
  unfold ahd at *
  rw [Bool.or_eq_false_iff] at *
  have n1 : ¬ flt a.2 b.2 = true := by rw [h.1]; simp
  have n2 : ¬ flt b.2 a.2 = true := by rw [g.1]; simp
  rw [flt_key ha hb] at n1
  rw [flt_key hb ha] at n2
  have e1 : feq a.2 b.2 = true := (feq_key ha hb).2 (by omega)
  have e2 : feq b.2 a.2 = true := (feq_key hb ha).2 (by omega)
  have h2 := h.2
  have g2 := g.2
  rw [e1, Bool.true_and] at h2
  rw [e2, Bool.true_and] at g2
  exact ⟨e1, tls_tot h2 g2⟩
theorem ahd_asym {a b : Ent} (ha : Num a) (hb : Num b) (h : ahd a b = true) : ahd b a = false := by
  cases g : ahd b a with
  | false => rfl
  | true => have := ahd_trans ha hb ha h g; rw [ahd_irr ha] at this; cases this
def Ris (l : List Ent) : Prop := l.Pairwise (fun a b => ahd a b = true) ∧ ∀ e ∈ l, Num e
theorem ris_put {l1 l2 : List Ent} {x : Ent} (h : Ris (l1 ++ l2)) (hx : Num x) (h1 : ∀ e ∈ l1, ahd e x = true) (h2 : ∀ e ∈ l2, ahd e x = false) (hn : ∀ e ∈ l1 ++ l2, e.1 ≠ x.1) : Ris (l1 ++ x :: l2) := by
  obtain ⟨hp, hnum⟩ := h
  rw [List.pairwise_append] at hp
  refine ⟨?_, fun e he => ?_⟩
  · rw [List.pairwise_append, List.pairwise_cons]
    refine ⟨hp.1, ⟨fun e he => ?_, hp.2.1⟩, fun a ha b hb => ?_⟩
    · cases g : ahd x e with
      | true => rfl
      | false => exact absurd (ahd_tot (hnum e (by simp [he])) hx (h2 e he) g).2 (hn e (by simp [he]))
    · rcases List.mem_cons.1 hb with rfl | hb
      · exact h1 a ha
      · exact hp.2.2 a ha b hb
  · rcases List.mem_append.1 he with he | he
    · exact hnum e (by simp [he])
    · rcases List.mem_cons.1 he with rfl | he
      · exact hx
      · exact hnum e (by simp [he])
end Go.Proofs.YtmgeaanbgjbkcaaGreat.DF

namespace Go.Proofs.YtmgeaanbgjbkcaaGreat.DF
open Go.RowKit Go.Shelf
set_option linter.unusedVariables false
theorem add_at (g o j : Nat) : (⟨g, o, none⟩ : Addr).add j = ⟨g, o + j, none⟩ := by unfold Addr.add; split <;> simp_all
theorem slice_run {P : Program} (w : World) (t e : TypeId) (ht : P.underlying t = some (.slice e)) (i : TypeInfo) (hinf : P.info? e = some i) (a : Addr) (n cap l h m : Nat) (lo hi mx : Option Value)
    (hmx : mx = none ∧ m = cap ∨ mx = some (.int .i64 (m : Int)) ∧ m ≤ cap) (hhi : hi = none ∧ h = n ∧ mx = none ∨ hi = some (.int .i64 (h : Int)) ∧ h ≤ m) (hlo : lo = none ∧ l = 0 ∨ lo = some (.int .i64 (l : Int)) ∧ l ≤ h) :
    (Instr.slice t (.slice (some a) n cap) lo hi mx).run P w = .ok (.slice (some (if m = l then a else a.add (l * i.size))) (h - l) (m - l)) w := by
  have hz := size_run w e i hinf
  have hb : ∀ (x y : Nat) code, x ≤ y → (Instr.sliceBound (.int .i64 (x : Int)) y code).run P w = .ok x w := fun x y code hxy => by
    have := run_sliceBound (P := P) (w := w) .i64 (x : Int) y code (by omega) (by omega)
    simpa using this
  rcases hmx with ⟨rfl, rfl⟩ | ⟨rfl, h1⟩ <;> rcases hhi with ⟨rfl, rfl, h2⟩ | ⟨rfl, h2⟩ <;> rcases hlo with ⟨rfl, rfl⟩ | ⟨rfl, h3⟩
  all_goals first | (cases h2; done) | skip
  all_goals
    simp (disch := assumption) only [Instr.slice, Instr.sliceBounds, run_underlying ht, Sem.run_bind, Sem.run_pure, Result.andThen_ok, hb, hz]
    split <;> rfl
theorem copy_to {P : Program} (w : World) (t e ty et : TypeId) (ht : P.underlying t = some (.slice e)) (i : TypeInfo) (hi : P.info? e = some i) (g d n m k cd c2 : Nat) (a : Addr) (cur : Array Value) (cs : List Value)
    (hg : w.heap[g]? = some (.cells cur et (0, 0))) (hk : min m n = k) (hl : cs.length = k * i.size) (hc : ∀ j u, cs[j]? = some u → w.cell? (a.add j) = some u) (hd : d + k * i.size ≤ cur.size) (h1 : ∀ u ∈ cs, u.oneCell' = true) :
    (Builtin.copy_ #[t, t] ty #[.slice (some ⟨g, d, none⟩) n cd, .slice (some a) m c2]).run P w = .ok (.int .i64 (k : Int)) (w.setRow g (cur.toList.take d ++ cs ++ cur.toList.drop (d + k * i.size)).toArray) := by
  have hst := run_storeCells_at P g d et cs 0 cur w hg (by rw [hl]; omega) h1
  rw [hl] at hst
  simp only [Nat.add_zero] at hst
  have hf := run_firstCells_some (P := P) w i.size k a m c2 cs hl hc
  simp [Builtin.copy_, run_underlying ht, sizeOf, typeInfo, hi, Builtin.lenOf, hk, hf, hst, goInt]
theorem wp_app_run {P : Program} {w w' : World} {o : Oper} {a : Act} {K : Act → World → Prop} {Q : Exit → Act → World → Prop} (s x : Operand) (t t2 : TypeId)
    (hop : o.op = Op.call { callee := Callee.builtin Builtin.append, args := #[s, x], argTypes := #[t, t2] }) (v v2 v' : Value) (hs : a.eval s = v) (hx : a.eval x = v2)
    (hrun : (Builtin.append_ #[t, t2] o.type #[v, v2]).run P w = .ok v' w') (hK : K (a.put o.dst v') w') : o.wp P a w K Q := by
  unfold Oper.wp
  simp [execOp, hop, resolve, invoke, builtin, hs, hx, hrun, Result.andThen]
  exact hK
theorem wp_cp_run {P : Program} {w w' : World} {o : Oper} {a : Act} {K : Act → World → Prop} {Q : Exit → Act → World → Prop} (s x : Operand) (t t2 : TypeId)
    (hop : o.op = Op.call { callee := Callee.builtin Builtin.copy, args := #[s, x], argTypes := #[t, t2] }) (v v2 v' : Value) (hs : a.eval s = v) (hx : a.eval x = v2)
    (hrun : (Builtin.copy_ #[t, t2] o.type #[v, v2]).run P w = .ok v' w') (hK : K (a.put o.dst v') w') : o.wp P a w K Q := by
  unfold Oper.wp
  simp [execOp, hop, resolve, invoke, builtin, hs, hx, hrun, Result.andThen]
  exact hK
theorem wpList_app_run {P : Program} {w w' : World} {ops : Array Oper} {rest : List Oper} {o : Oper} {a : Act} {Q : Exit → Act → World → Prop} (hg : o.guard = none) (s x : Operand) (t t2 : TypeId)
    (hop : o.op = Op.call { callee := Callee.builtin Builtin.append, args := #[s, x], argTypes := #[t, t2] }) (v v2 v' : Value) (hs : a.eval s = v) (hx : a.eval x = v2)
    (hrun : (Builtin.append_ #[t, t2] o.type #[v, v2]).run P w = .ok v' w') (hK : wpList P ops Q rest (a.put o.dst v') w') : wpList P ops Q (o :: rest) a w :=
  wpList_plain hg fun K hK' => wp_app_run s x t t2 hop v v2 v' hs hx hrun (hK' _ _ hK)
theorem own_cur {w : World} {e s g n cap : Nat} {xs : List Value} (h : w.ownsRow 0 e s (.slice (some ⟨g, 0, none⟩) n cap) n xs) :
    ∃ cur, w.heap[g]? = some (.cells cur e (0, 0)) ∧ n ≤ cap ∧ cap ≤ maxLen ∧ cur.size = cap * s ∧ cur.toList.take (n * s) = xs ∧ xs.length = n * s := by
  rcases h.2 with ⟨h', _⟩ | ⟨g', cap', cur, h', _, hh, q1, q2, q3, q4⟩
  · cases h'
  · cases h'
    exact ⟨cur, hh, q1, q2, q3, q4, h.1⟩
theorem own_of {w : World} {e s g n cap : Nat} {xs : List Value} {cur : Array Value} (hh : w.heap[g]? = some (.cells cur e (0, 0))) (q1 : n ≤ cap) (q2 : cap ≤ maxLen) (q3 : cur.size = cap * s) (q4 : cur.toList.take (n * s) = xs) (q5 : xs.length = n * s) :
    w.ownsRow 0 e s (.slice (some ⟨g, 0, none⟩) n cap) n xs := ⟨q5, .inr ⟨g, cap, cur, rfl, Nat.zero_le _, hh, q1, q2, q3, q4⟩⟩
theorem only_row {w : World} {g : Nat} (cur : Array Value) : Only g w (w.setRow g cur) := ⟨⟨rfl, rfl, rfl⟩, by simp, fun k hk => setRow_other w g k _ hk⟩
theorem take_pre {cur xs : List Value} {n k : Nat} (h : cur.take n = xs) (hk : k ≤ n) : cur.take k = xs.take k := by rw [← h, List.take_take, Nat.min_eq_left hk]
theorem row_in {cur xs vs : List Value} {n a b c N M : Nat} (h : cur.take n = xs) (hn : n ≤ cur.length) (ha : a ≤ b) (hb : b ≤ n) (hc : a + vs.length = c) (hcl : c ≤ cur.length) (hN : N = c + (n - b)) :
    ((cur.take c ++ xs.drop b ++ cur.drop N).take a ++ vs ++ (cur.take c ++ xs.drop b ++ cur.drop N).drop c).take N = xs.take a ++ vs ++ xs.drop b := by
  have hl : xs.length = n := by rw [← h, List.length_take]; omega
  have hac : a ≤ c := by omega
  have e1 : (cur.take c ++ xs.drop b ++ cur.drop N).take a = xs.take a := by
    rw [List.append_assoc, List.take_append_of_le_length (by rw [List.length_take]; omega), List.take_take, Nat.min_eq_left hac, take_pre h (by omega)]
  have e2 : (cur.take c ++ xs.drop b ++ cur.drop N).drop c = xs.drop b ++ cur.drop N := by
    rw [List.append_assoc]
    exact List.drop_left' (by rw [List.length_take]; omega)
  rw [e1, e2, ← List.append_assoc]
  exact List.take_left' (by simp only [List.length_append, List.length_take, List.length_drop, hl]; omega)
theorem row_new {cur xs vs : List Value} {n a b c N : Nat} (h : cur.take a = xs.take a) (hl : xs.length = n) (ha : a ≤ b) (hb : b ≤ n) (hc : a + vs.length = c) (hN : N = c + (n - b)) (hcl : N ≤ cur.length) :
    ((cur.take a ++ vs ++ cur.drop c).take c ++ xs.drop b ++ (cur.take a ++ vs ++ cur.drop c).drop N).take N = xs.take a ++ vs ++ xs.drop b := by
  have e1 : (cur.take a ++ vs ++ cur.drop c).take c = xs.take a ++ vs := by
    rw [h]
    exact List.take_left' (by simp only [List.length_append, List.length_take, hl]; omega)
  rw [e1]
  exact List.take_left' (by simp only [List.length_append, List.length_take, List.length_drop, hl]; omega)
end Go.Proofs.YtmgeaanbgjbkcaaGreat.DF

namespace Go.Proofs.YtmgeaanbgjbkcaaGreat.DF
open Go.RowKit Go.Shelf
set_option linter.unusedVariables false
set_option linter.unusedSimpArgs false
theorem info_rk : (Tryz.prog.info? 73).map (fun i => (i.zero, i.size, i.bytes)) = some (some (.agg #[.string .empty, .float .f64 0]), 2, 24) := by kernel_rfl
theorem info_rw : (Tryz.prog.info? 28).map (fun i => (i.zero, i.size, i.bytes)) = some (some (.slice none 0 0), 1, 24) := by kernel_rfl
end Go.Proofs.YtmgeaanbgjbkcaaGreat.DF

namespace Go.Proofs.YtmgeaanbgjbkcaaGreat.DF
open Go.RowKit Go.Shelf
set_option linter.unusedVariables false
set_option linter.unusedSimpArgs false
def mc (k : ByteArray) (x : Nat) : List Value := [.string k, .float .f64 x]
theorem mc_one {k : ByteArray} {x : Nat} : ∀ u ∈ mc k x, u.oneCell' = true := by
  intro u hu
  simp only [mc, List.mem_cons, List.not_mem_nil, or_false] at hu
  rcases hu with rfl | rfl <;> rfl
theorem mc_cell {w : World} {vb : Nat} {k : ByteArray} {x : Nat} {t : TypeId} (h : w.heap[vb]? = some (.cells #[.string k, .float .f64 x] t (0, 0))) : ∀ j u, (mc k x)[j]? = some u → w.cell? ((⟨vb, 0, none⟩ : Addr).add j) = some u := by
  intro j u hu
  rw [add_at, Nat.zero_add, cell_of_row w vb j _ _ _ h]
  have : (#[Value.string k, Value.float .f64 x] : Array Value)[j]? = (mc k x)[j]? := by simp [mc]
  rw [this, hu]
theorem row_cells {w : World} {g : Nat} {cur : Array Value} {t : TypeId} {xs : List Value} {n a : Nat} (hcur : w.heap[g]? = some (.cells cur t (0, 0))) (htk : cur.toList.take n = xs) : ∀ j u, (xs.drop a)[j]? = some u → w.cell? ((⟨g, a, none⟩ : Addr).add j) = some u := by
  intro j u hu
  rw [add_at, cell_of_row w g _ cur _ _ hcur]
  rw [List.getElem?_drop, ← htk, List.getElem?_take] at hu
  split at hu
  · simpa using hu
  · cases hu
def Insd (w : World) (g n : Nat) (ys : List Value) (e : Ending) (w' : World) : Prop :=
  ∃ g' cap', e = .returned (.slice (some ⟨g', 0, none⟩) (n + 1) cap') ∧ w'.ownsRow 0 73 2 (.slice (some ⟨g', 0, none⟩) (n + 1) cap') (n + 1) ys ∧ (g' = g ∨ w.heap.size ≤ g') ∧ w.grownBy w' (some g)
set_option maxRecDepth 100000 in
theorem insM_end (w : World) (g n cap vb : Nat) (xs : List Value) (k : ByteArray) (x : Nat) (hC : w.ownsRow 0 73 2 (.slice (some ⟨g, 0, none⟩) n cap) n xs) (hv : w.heap[vb]? = some (.cells #[.string k, .float .f64 x] 73 (0, 0))) (hn : n ≤ 100000) :
    Calls Tryz.prog 217 #[.slice (some ⟨g, 0, none⟩) n cap, .int .i64 n, .slice (some ⟨vb, 0, none⟩) 1 1] w fun e w' => Insd w g n (xs ++ mc k x) e w' := by
  obtain ⟨i0, hi0, hz0, hz1, hz2⟩ := info_parts info_rk
  obtain ⟨cur, hcur, hcc, hcm, hsz, htk, hxl⟩ := own_cur hC
  have uT := Tryz.underlying28
  have hs0 : ∃ v, ∀ w, (Instr.slice 28 (.slice (some ⟨g, 0, none⟩) n cap) (some (.int .i64 (n : Int))) none none).run Tryz.prog w = .ok v w :=
    ⟨_, fun w => slice_run w _ _ uT i0 hi0 ⟨g, 0, none⟩ n cap n n cap _ _ _ (.inl ⟨rfl, rfl⟩) (.inl ⟨rfl, rfl, rfl⟩) (.inr ⟨rfl, by omega⟩)⟩
  obtain ⟨v0, hs0⟩ := hs0
  obtain ⟨g', cap', W, r1, r2, r3, r4, r5⟩ := run_append_lies (P := Tryz.prog) w 28 28 0 73 i0 _ 2 24 uT hi0 hz0 hz1 hz2 (by simp [Value.cells]) (by decide) _ n xs hC ⟨vb, 0, none⟩ 1 1 (mc k x) rfl (mc_cell hv) mc_one (by decide) (by unfold maxLen; omega) (by omega) (Nat.zero_le _) w.heap.size rfl
  have R1 := keep r1
  have HP : Kept (Insd w g n (xs ++ mc k x) (.returned (.slice (some ⟨g', 0, none⟩) (n + 1) cap')) W) :=
    ⟨g', cap', rfl, r2, r4.imp (fun e => (Option.some.inj e).symm) (fun e => Nat.le_of_eq e.symm), r3⟩
  clear hC hv hn hcur hcc hcm hsz htk hxl r1 r2 r3 r4 r5
  go_enter Tryz.func217, Tryz.ntmps217
  go_wp2_with (at_builtin; refine wpList_app_run rfl _ _ _ _ rfl _ _ _ rfl rfl R1.out ?_)
  go_ret
  exact HP.out
set_option maxRecDepth 100000 in
theorem insM_room (w : World) (g n cap vb p : Nat) (xs : List Value) (k : ByteArray) (x : Nat) (hC : w.ownsRow 0 73 2 (.slice (some ⟨g, 0, none⟩) n cap) n xs) (hv : w.heap[vb]? = some (.cells #[.string k, .float .f64 x] 73 (0, 0))) (hvg : vb ≠ g) (hn : n ≤ 100000) (hp : p < n) (hr : n + 1 ≤ cap) (h1 : ∀ u ∈ xs, u.oneCell' = true) :
    Calls Tryz.prog 217 #[.slice (some ⟨g, 0, none⟩) n cap, .int .i64 p, .slice (some ⟨vb, 0, none⟩) 1 1] w fun e w' => Insd w g n (xs.take (p * 2) ++ mc k x ++ xs.drop (p * 2)) e w' := by
  obtain ⟨i0, hi0, hz0, hz1, hz2⟩ := info_parts info_rk
  obtain ⟨cur, hcur, hcc, hcm, hsz, htk, hxl⟩ := own_cur hC
  unfold maxLen at hcm
  have uT := Tryz.underlying28
  obtain ⟨n1, hn1⟩ : ∃ n1, n1 = n + 1 := ⟨_, rfl⟩
  obtain ⟨p1, hp1⟩ : ∃ p1, p1 = p + 1 := ⟨_, rfl⟩
  have hw1 : IntKind.i64.wrap ((n : Int) + 1) = (n1 : Int) := by rw [IntKind.wrap_i64]; omega
  have hw2 : IntKind.i64.wrap ((p : Int) + 1) = (p1 : Int) := by rw [IntKind.wrap_i64]; omega
  have hs0 : ∃ v, ∀ w, (Instr.slice 28 (.slice (some ⟨g, 0, none⟩) n cap) (some (.int .i64 (p : Int))) none none).run Tryz.prog w = .ok v w :=
    ⟨_, fun w => slice_run w _ _ uT i0 hi0 ⟨g, 0, none⟩ n cap p n cap _ _ _ (.inl ⟨rfl, rfl⟩) (.inl ⟨rfl, rfl, rfl⟩) (.inr ⟨rfl, by omega⟩)⟩
  obtain ⟨v0, hs0⟩ := hs0
  have hs1 : ∀ w, (Instr.slice 28 (.slice (some ⟨g, 0, none⟩) n cap) none (some (.int .i64 (n1 : Int))) none).run Tryz.prog w = .ok (.slice (some ⟨g, 0, none⟩) n1 cap) w := fun w => by
    rw [slice_run w _ _ uT i0 hi0 ⟨g, 0, none⟩ n cap 0 n1 cap _ _ _ (.inl ⟨rfl, rfl⟩) (.inr ⟨rfl, by omega⟩) (.inl ⟨rfl, rfl⟩)]
    rw [Nat.zero_mul, add_at, Nat.zero_add, ite_self]; rfl
  obtain ⟨oP, hoP⟩ : ∃ o, o = p * 2 := ⟨_, rfl⟩
  obtain ⟨oQ, hoQ⟩ : ∃ o, o = p1 * 2 := ⟨_, rfl⟩
  obtain ⟨lP, hlP⟩ : ∃ o, o = n1 - p := ⟨_, rfl⟩
  obtain ⟨lQ, hlQ⟩ : ∃ o, o = n1 - p1 := ⟨_, rfl⟩
  obtain ⟨cP, hcP⟩ : ∃ o, o = cap - p := ⟨_, rfl⟩
  obtain ⟨cQ, hcQ⟩ : ∃ o, o = cap - p1 := ⟨_, rfl⟩
  have hs2 : ∀ w, (Instr.slice 28 (.slice (some ⟨g, 0, none⟩) n1 cap) (some (.int .i64 (p1 : Int))) none none).run Tryz.prog w = .ok (.slice (some ⟨g, oQ, none⟩) lQ cQ) w := fun w => by
    rw [slice_run w _ _ uT i0 hi0 ⟨g, 0, none⟩ n1 cap p1 n1 cap _ _ _ (.inl ⟨rfl, rfl⟩) (.inl ⟨rfl, rfl, rfl⟩) (.inr ⟨rfl, by omega⟩), if_neg (by omega), hz1, add_at, Nat.zero_add, hoQ, hlQ, hcQ]
  have hs3 : ∀ w, (Instr.slice 28 (.slice (some ⟨g, 0, none⟩) n1 cap) (some (.int .i64 (p : Int))) none none).run Tryz.prog w = .ok (.slice (some ⟨g, oP, none⟩) lP cP) w := fun w => by
    rw [slice_run w _ _ uT i0 hi0 ⟨g, 0, none⟩ n1 cap p n1 cap _ _ _ (.inl ⟨rfl, rfl⟩) (.inl ⟨rfl, rfl, rfl⟩) (.inr ⟨rfl, by omega⟩), if_neg (by omega), hz1, add_at, Nat.zero_add, hoP, hlP, hcP]
  have hov : (callFunc 251 #[.slice (some ⟨vb, 0, none⟩) 1 1, .slice (some ⟨g, oQ, none⟩) lQ cQ]).run Tryz.prog w = .ok (.value (.bool false)) w := by
    rw [run_callFunc_extern Tryz.func251 (by kernel_rfl) (by kernel_rfl) (by kernel_rfl) (e := Extern.SlicesOverlaps.overlaps #[28, 28] #[4]) (by kernel_rfl),
      Lib.run_overlaps_apart w 28 4 73 uT 2 (fun w => by rw [size_run w _ i0 hi0, hz1]) ⟨vb, 0, none⟩ ⟨g, oQ, none⟩ 1 1 lQ cQ hvg 73 73 2 (cap * 2) (by simp [World.shape?, hv]) (by simp [World.shape?, hcur, hsz]) (by omega) (by simp [World.frozen?, hv]) (by simp [World.frozen?, hv])]
    rfl
  have hl2 : (xs.drop (p * 2)).length = lQ * 2 := by rw [List.length_drop, hxl]; omega
  have hcp1 := copy_to (P := Tryz.prog) w.drew 28 73 3 73 uT i0 hi0 g oQ lQ lP lQ cQ cP ⟨g, oP, none⟩ cur (xs.drop (p * 2)) hcur (Nat.min_eq_right (by omega)) (by rw [hz1]; exact hl2) (by rw [hoP]; exact row_cells (w := w.drew) hcur htk) (by rw [hz1, hsz]; omega) (fun u hu => h1 u (List.mem_of_mem_drop hu))
  rw [hz1] at hcp1
  obtain ⟨L1, hL1⟩ : ∃ L1, L1 = cur.toList.take oQ ++ xs.drop (p * 2) ++ cur.toList.drop (oQ + lQ * 2) := ⟨_, rfl⟩
  rw [← hL1] at hcp1
  have hL1l : L1.length = cap * 2 := by rw [hL1]; simp only [List.length_append, List.length_take, hl2, List.length_drop, Array.length_toList, hsz]; omega
  obtain ⟨W1, hW1⟩ : ∃ W1, W1 = w.drew.setRow g L1.toArray := ⟨_, rfl⟩
  rw [← hW1] at hcp1
  have hg1 : W1.heap[g]? = some (.cells L1.toArray 73 (0, 0)) := by rw [hW1]; exact setRow_heap w.drew g cur _ _ _ hcur
  have hv1 : W1.heap[vb]? = some (.cells #[.string k, .float .f64 x] 73 (0, 0)) := by rw [hW1, setRow_other w.drew g vb _ hvg]; exact hv
  have hcp2 := copy_to (P := Tryz.prog) W1 28 73 3 73 uT i0 hi0 g oP lP 1 1 cP 1 ⟨vb, 0, none⟩ L1.toArray (mc k x) hg1 (Nat.min_eq_left (by omega)) (by rw [hz1]; rfl) (mc_cell hv1) (by rw [hz1]; simp [hL1l]; omega) mc_one
  rw [hz1] at hcp2
  have hfin : ((L1.take oP ++ mc k x ++ L1.drop (oP + 1 * 2)).take (n1 * 2)) = xs.take (p * 2) ++ mc k x ++ xs.drop (p * 2) := by
    have := row_in (vs := mc k x) (c := oQ) (N := n1 * 2) (M := 0) htk (by rw [Array.length_toList, hsz]; omega) (a := p * 2) (b := p * 2) (Nat.le_refl _) (by omega) (by simp [mc]; omega) (by rw [Array.length_toList, hsz]; omega) (by omega)
    rw [show oQ + lQ * 2 = n1 * 2 by omega] at hL1
    rw [← hL1] at this
    rw [hoP, show p * 2 + 1 * 2 = oQ by omega]
    exact this
  obtain ⟨W2, hW2⟩ : ∃ W2, W2 = W1.setRow g (L1.toArray.toList.take oP ++ mc k x ++ L1.toArray.toList.drop (oP + 1 * 2)).toArray := ⟨_, rfl⟩
  rw [← hW2] at hcp2
  have hO : Only g w W2 := by
    rw [hW2, hW1]
    exact (only_row (w := w.drew) (g := g) _).trans (only_row _)
  have HP : Kept (Insd w g n (xs.take (p * 2) ++ mc k x ++ xs.drop (p * 2)) (.returned (.slice (some ⟨g, 0, none⟩) n1 cap)) W2) := by
    subst hn1
    refine ⟨g, cap, rfl, own_of (by rw [hW2]; exact setRow_heap W1 g _ _ _ _ hg1) hr (by unfold maxLen; omega) ?_ (by simpa using hfin) ?_, .inl rfl, ⟨hO.1.1, hO.1.2.1, hO.1.2.2, Nat.le_of_eq hO.2.1.symm, fun k _ hk => hO.2.2 k (fun e => hk (by rw [e]))⟩⟩
    · simp [mc, List.length_take, List.length_drop, hL1l]; omega
    · simp [mc, List.length_take, List.length_drop, hxl]; omega
  have C1 := keep hcp1
  have C2 := keep hcp2
  have hne : ((p : Int) == (n : Int)) = false := beq_eq_false_iff_ne.2 (by omega)
  have hne' : ¬ (p : Int) = (n : Int) := by omega
  have hgt : ¬ (cap : Int) < (n1 : Int) := by omega
  have hgt' : decide ((cap : Int) < (n1 : Int)) = false := decide_eq_false hgt
  clear hC hv hn hcur hcc hcm hsz htk hxl hl2 hcp1 hcp2 hL1 hL1l hW1 hW2 hg1 hv1 hfin hO hp hr h1 hvg hn1 hp1 hoP hoQ hlP hlQ hcP hcQ
  go_enter Tryz.func217, Tryz.ntmps217
  go_wp2_with (simp only [hov])
  refine wp_region_held_drew (S := fun _ => True) (by kernel_rfl) trivial (fun hHeld => ?_)
  refine wpAnyH_take (i := 0) (oi := ⟨some 69, _, _, _, _, _⟩) (v := ?v15) rfl (by kernel_rfl) (by kernel_rfl) (by kernel_rfl) (fun _ _ _ h => h) (Or.inl ⟨by rfl, ?hy15⟩) (by assumption) ?rest15
  case hy15 => (intro w hSw; go_simp; try with_reducible rfl)
  try simp only [Act.put, List.setIfInBounds_toArray, List.set_cons_zero, List.set_cons_succ]
  refine wpAnyH_take (i := 1) (oi := ⟨some 70, _, _, _, _, _⟩) (v := ?v16) rfl (by kernel_rfl) (by kernel_rfl) (by kernel_rfl) (fun _ _ _ h => h) (Or.inl ⟨by rfl, ?hy16⟩) (by assumption) ?rest16
  case hy16 => (intro w hSw; go_simp; try with_reducible rfl)
  try simp only [Act.put, List.setIfInBounds_toArray, List.set_cons_zero, List.set_cons_succ]
  refine wpAnyH_take (i := 2) (oi := ⟨some 71, _, _, _, _, _⟩) (v := ?v17) rfl (by kernel_rfl) (by kernel_rfl) (by kernel_rfl) (fun _ _ _ h => h) (Or.inl ⟨by rfl, ?hy17⟩) (by assumption) ?rest17
  case hy17 => (intro w hSw; go_simp; try with_reducible rfl)
  try simp only [Act.put, List.setIfInBounds_toArray, List.set_cons_zero, List.set_cons_succ]
  refine wpAnyH_take (i := 3) (oi := ⟨some 72, _, _, _, _, _⟩) (v := (.int .i64 (p1 : Int))) rfl (by kernel_rfl) (by kernel_rfl) (by kernel_rfl) (fun _ _ _ h => h) (Or.inl ⟨by rfl, ?hy18⟩) (by assumption) ?rest18
  case hy18 => (intro w hSw; first | (go_simp; done) | (go_simp; simp [*]; done) | (simp [*]; go_simp; done))
  try simp only [Act.put, List.setIfInBounds_toArray, List.set_cons_zero, List.set_cons_succ]
  refine wpAnyH_take (i := 4) (oi := ⟨some 73, _, _, _, _, _⟩) (v := (.slice (some ⟨g, oQ, none⟩) lQ cQ)) rfl (by kernel_rfl) (by kernel_rfl) (by kernel_rfl) (fun _ _ _ h => h) (Or.inl ⟨by rfl, ?hy19⟩) (by assumption) ?rest19
  case hy19 => (intro w hSw; first | (go_simp; done) | (go_simp; simp [*]; done) | (simp [*]; go_simp; done))
  try simp only [Act.put, List.setIfInBounds_toArray, List.set_cons_zero, List.set_cons_succ]
  refine wpAnyH_take (i := 5) (oi := ⟨some 74, _, _, _, _, _⟩) (v := ?v20) rfl (by kernel_rfl) (by kernel_rfl) (by kernel_rfl) (fun _ _ _ h => h) (Or.inl ⟨by rfl, ?hy20⟩) (by assumption) ?rest20
  case hy20 => (intro w hSw; go_simp; try with_reducible rfl)
  try simp only [Act.put, List.setIfInBounds_toArray, List.set_cons_zero, List.set_cons_succ]
  refine wpAnyH_take (i := 6) (oi := ⟨some 75, _, _, _, _, _⟩) (v := ?v21) rfl (by kernel_rfl) (by kernel_rfl) (by kernel_rfl) (fun _ _ _ h => h) (Or.inl ⟨by rfl, ?hy21⟩) (by assumption) ?rest21
  case hy21 => (intro w hSw; go_simp; try with_reducible rfl)
  try simp only [Act.put, List.setIfInBounds_toArray, List.set_cons_zero, List.set_cons_succ]
  refine wpAnyH_take (i := 7) (oi := ⟨some 76, _, _, _, _, _⟩) (v := (.slice (some ⟨g, oP, none⟩) lP cP)) rfl (by kernel_rfl) (by kernel_rfl) (by kernel_rfl) (fun _ _ _ h => h) (Or.inl ⟨by rfl, ?hy22⟩) (by assumption) ?rest22
  case hy22 => (intro w hSw; first | (go_simp; done) | (go_simp; simp [*]; done) | (simp [*]; go_simp; done))
  try simp only [Act.put, List.setIfInBounds_toArray, List.set_cons_zero, List.set_cons_succ]
  refine wpAnyH_ready (rs := [8]) (by kernel_rfl) (by simp) ?_
  refine AllReadyH.cons (o := ⟨some 77, _, _, _, _, _⟩) rfl (fun K hK => ?_) AllReadyH.nil
  rw [if_pos (by rfl)]
  refine wp_cp_run (.tmp 73) (.tmp 76) 28 28 rfl _ _ _ rfl rfl C1.out ?_
  refine hK.out _ _ trivial (fun hHeld => ?_)
  try simp only [Act.put, List.setIfInBounds_toArray, List.set_cons_zero, List.set_cons_succ]
  clear hK
  refine wpAnyH_done (by kernel_rfl) ?_ _
  clear hHeld C1
  have c2 := C2.out
  clear C2
  go_wp2
  go_ret
  exact HP.out
end Go.Proofs.YtmgeaanbgjbkcaaGreat.DF

namespace Go.Proofs.YtmgeaanbgjbkcaaGreat.DF
open Go.RowKit Go.Shelf
set_option linter.unusedVariables false
set_option linter.unusedSimpArgs false
set_option maxRecDepth 100000 in
theorem insM_grow (w : World) (g n cap vb p : Nat) (xs : List Value) (k : ByteArray) (x : Nat) (hC : w.ownsRow 0 73 2 (.slice (some ⟨g, 0, none⟩) n cap) n xs) (hv : w.heap[vb]? = some (.cells #[.string k, .float .f64 x] 73 (0, 0))) (hvg : vb ≠ g) (hn : n ≤ 100000) (hp : p < n) (hr : cap < n + 1) (h1 : ∀ u ∈ xs, u.oneCell' = true) :
    Calls Tryz.prog 217 #[.slice (some ⟨g, 0, none⟩) n cap, .int .i64 p, .slice (some ⟨vb, 0, none⟩) 1 1] w fun e w' => Insd w g n (xs.take (p * 2) ++ mc k x ++ xs.drop (p * 2)) e w' := by
  obtain ⟨i0, hi0, hz0, hz1, hz2⟩ := info_parts info_rk
  obtain ⟨cur, hcur, hcc, hcm, hsz, htk, hxl⟩ := own_cur hC
  unfold maxLen at hcm
  have uT := Tryz.underlying28
  obtain ⟨n1, hn1⟩ : ∃ n1, n1 = n + 1 := ⟨_, rfl⟩
  obtain ⟨p1, hp1⟩ : ∃ p1, p1 = p + 1 := ⟨_, rfl⟩
  obtain ⟨oP, hoP⟩ : ∃ o, o = p * 2 := ⟨_, rfl⟩
  obtain ⟨oQ, hoQ⟩ : ∃ o, o = p1 * 2 := ⟨_, rfl⟩
  obtain ⟨lP, hlP⟩ : ∃ o, o = n1 - p := ⟨_, rfl⟩
  obtain ⟨lQ, hlQ⟩ : ∃ o, o = n1 - p1 := ⟨_, rfl⟩
  have hw1 : IntKind.i64.wrap ((n : Int) + 1) = (n1 : Int) := by rw [IntKind.wrap_i64]; omega
  have hw2 : IntKind.i64.wrap ((p : Int) + 1) = (p1 : Int) := by rw [IntKind.wrap_i64]; omega
  have hw3 : IntKind.i64.wrap ((n1 : Int) - (p : Int)) = (lP : Int) := by rw [IntKind.wrap_i64]; omega
  have hs0 : ∀ w, (Instr.slice 28 (.slice (some ⟨g, 0, none⟩) n cap) (some (.int .i64 (p : Int))) none none).run Tryz.prog w = .ok (.slice (some ⟨g, oP, none⟩) lQ (cap - p)) w := fun w => by
    rw [slice_run w _ _ uT i0 hi0 ⟨g, 0, none⟩ n cap p n cap _ _ _ (.inl ⟨rfl, rfl⟩) (.inl ⟨rfl, rfl, rfl⟩) (.inr ⟨rfl, by omega⟩), if_neg (by omega), hz1, add_at, Nat.zero_add, hoP, show n - p = lQ by omega]
  obtain ⟨cP, hcP⟩ : ∃ o, o = cap - p := ⟨_, rfl⟩
  rw [← hcP] at hs0
  have hs1 : ∀ w, (Instr.slice 28 (.slice (some ⟨g, 0, none⟩) n cap) none (some (.int .i64 (p : Int))) none).run Tryz.prog w = .ok (.slice (some ⟨g, 0, none⟩) p cap) w := fun w => by
    rw [slice_run w _ _ uT i0 hi0 ⟨g, 0, none⟩ n cap 0 p cap _ _ _ (.inl ⟨rfl, rfl⟩) (.inr ⟨rfl, by omega⟩) (.inl ⟨rfl, rfl⟩)]
    rw [Nat.zero_mul, add_at, Nat.zero_add, ite_self]; rfl
  have hold : (Builtin.firstCells i0.size p (.slice (some ⟨g, 0, none⟩) p cap)).run Tryz.prog w.drew = .ok (xs.take (p * 2)).toArray w.drew := by
    rw [hz1]
    refine run_firstCells_some w.drew 2 p ⟨g, 0, none⟩ p cap (xs.take (p * 2)) (by rw [List.length_take, hxl]; omega) (fun j v hj => ?_)
    rw [List.getElem?_take] at hj
    split at hj
    · exact row_cells (a := 0) (w := w.drew) hcur htk j v (by simpa using hj)
    · cases hj
  have hap := Lib.run_append_grow_zeros (P := Tryz.prog) w 28 3 28 73 i0 _ .i64 .i64 uT Tryz.underlying3 hi0 hz0 (some ⟨g, 0, none⟩) p cap (xs.take (p * 2)) hold lP (by omega) (by omega) (by omega) (by omega) (by rw [hz2]; omega) (by rw [hz2]; exact growslice_fits (by omega) (by omega))
  rw [show p + lP = n1 by omega] at hap
  obtain ⟨G, hG⟩ : ∃ G, G = grownCap w n1 cap 73 := ⟨_, rfl⟩
  rw [← hG] at hap
  have hGn : n1 ≤ G := by rw [hG]; exact grownCap_ge w _ _ _
  have hGm : G ≤ maxLen := by rw [hG]; exact grownCap_le_maxLen w n1 cap _ (by unfold maxLen; omega)
  obtain ⟨ROW, hROW⟩ : ∃ ROW : Array Value, ROW = (xs.take (p * 2)).toArray ++ Builtin.zeroCells (Value.agg #[.string .empty, .float .f64 0]).cells lP ++ Builtin.zeroCells (Value.agg #[.string .empty, .float .f64 0]).cells (G - n1) := ⟨_, rfl⟩
  rw [← hROW] at hap
  have hRl : ROW.size = G * 2 := by
    rw [hROW]
    simp only [Array.size_append, List.size_toArray, size_zeroCells, List.length_take, hxl]
    simp only [Value.cells, List.size_toArray, List.length_cons, List.length_nil]
    omega
  have hRt : ROW.toList.take (p * 2) = xs.take (p * 2) := by
    rw [hROW]
    simp only [Array.toList_append, List.append_assoc]
    exact List.take_left' (by rw [List.length_take, hxl]; omega)
  obtain ⟨H, hH⟩ : ∃ H, H = w.heap.size := ⟨_, rfl⟩
  obtain ⟨W1, hW1⟩ : ∃ W1, W1 = w.drew.alloc (.cells ROW 73) := ⟨_, rfl⟩
  rw [← hW1, ← hH] at hap
  have hgl : g < w.heap.size := (Array.getElem?_eq_some_iff.1 hcur).1
  have hvl : vb < w.heap.size := (Array.getElem?_eq_some_iff.1 hv).1
  have hg1 : W1.heap[H]? = some (.cells ROW 73 (0, 0)) := by rw [hW1, hH]; exact heap_alloc_new w.drew _
  have hk1 : ∀ j, j < w.heap.size → W1.heap[j]? = w.heap[j]? := fun j hj => by rw [hW1]; exact Below.heap_alloc w.drew _ j hj
  have hs2 : ∀ w, (Instr.slice 28 (.slice (some ⟨H, 0, none⟩) n1 G) (some (.int .i64 (p : Int))) none none).run Tryz.prog w = .ok (.slice (some ⟨H, oP, none⟩) lP (G - p)) w := fun w => by
    rw [slice_run w _ _ uT i0 hi0 ⟨H, 0, none⟩ n1 G p n1 G _ _ _ (.inl ⟨rfl, rfl⟩) (.inl ⟨rfl, rfl, rfl⟩) (.inr ⟨rfl, by omega⟩), if_neg (by omega), hz1, add_at, Nat.zero_add, hoP, hlP]
  have hs3 : ∀ w, (Instr.slice 28 (.slice (some ⟨H, 0, none⟩) n1 G) (some (.int .i64 (p1 : Int))) none none).run Tryz.prog w = .ok (.slice (some ⟨H, oQ, none⟩) lQ (G - p1)) w := fun w => by
    rw [slice_run w _ _ uT i0 hi0 ⟨H, 0, none⟩ n1 G p1 n1 G _ _ _ (.inl ⟨rfl, rfl⟩) (.inl ⟨rfl, rfl, rfl⟩) (.inr ⟨rfl, by omega⟩), if_neg (by omega), hz1, add_at, Nat.zero_add, hoQ, hlQ]
  obtain ⟨cA, hcA⟩ : ∃ o, o = G - p := ⟨_, rfl⟩
  obtain ⟨cB, hcB⟩ : ∃ o, o = G - p1 := ⟨_, rfl⟩
  rw [← hcA] at hs2
  rw [← hcB] at hs3
  have hcp1 := copy_to (P := Tryz.prog) W1 28 73 3 73 uT i0 hi0 H oP lP 1 1 cA 1 ⟨vb, 0, none⟩ ROW (mc k x) hg1 (Nat.min_eq_left (by omega)) (by rw [hz1]; rfl) (mc_cell ((hk1 vb hvl).trans hv)) (by rw [hz1, hRl]; omega) mc_one
  rw [hz1] at hcp1
  obtain ⟨L1, hL1⟩ : ∃ L1, L1 = ROW.toList.take oP ++ mc k x ++ ROW.toList.drop (oP + 1 * 2) := ⟨_, rfl⟩
  rw [← hL1] at hcp1
  have hL1l : L1.length = G * 2 := by rw [hL1]; simp only [List.length_append, List.length_take, mc, List.length_cons, List.length_nil, List.length_drop, Array.length_toList, hRl]; omega
  obtain ⟨W2, hW2⟩ : ∃ W2, W2 = W1.setRow H L1.toArray := ⟨_, rfl⟩
  rw [← hW2] at hcp1
  have hg2 : W2.heap[H]? = some (.cells L1.toArray 73 (0, 0)) := by rw [hW2]; exact setRow_heap W1 H ROW _ _ _ hg1
  have hk2 : ∀ j, j < w.heap.size → W2.heap[j]? = w.heap[j]? := fun j hj => by rw [hW2, setRow_other W1 H j _ (by omega)]; exact hk1 j hj
  have hl2 : (xs.drop (p * 2)).length = lQ * 2 := by rw [List.length_drop, hxl]; omega
  have hcp2 := copy_to (P := Tryz.prog) W2.drew 28 73 3 73 uT i0 hi0 H oQ lQ lQ lQ cB cP ⟨g, oP, none⟩ L1.toArray (xs.drop (p * 2)) hg2 (Nat.min_self _) (by rw [hz1]; exact hl2) (by rw [hoP]; exact row_cells (w := W2.drew) ((hk2 g hgl).trans hcur) htk) (by rw [hz1]; simp [hL1l]; omega) (fun u hu => h1 u (List.mem_of_mem_drop hu))
  rw [hz1] at hcp2
  have hfin : (L1.take oQ ++ xs.drop (p * 2) ++ L1.drop (oQ + lQ * 2)).take (n1 * 2) = xs.take (p * 2) ++ mc k x ++ xs.drop (p * 2) := by
    have := row_new (vs := mc k x) (c := oQ) (N := n1 * 2) (n := n * 2) hRt hxl (a := p * 2) (b := p * 2) (Nat.le_refl _) (by omega) (by simp [mc]; omega) (by omega) (by rw [Array.length_toList, hRl]; omega)
    rw [hoP, show p * 2 + 1 * 2 = oQ by omega] at hL1
    rw [← hL1] at this
    rw [show oQ + lQ * 2 = n1 * 2 by omega]
    exact this
  obtain ⟨W3, hW3⟩ : ∃ W3, W3 = W2.drew.setRow H (L1.toArray.toList.take oQ ++ xs.drop (p * 2) ++ L1.toArray.toList.drop (oQ + lQ * 2)).toArray := ⟨_, rfl⟩
  rw [← hW3] at hcp2
  have hsz3 : w.heap.size ≤ W3.heap.size := by rw [hW3, hW2, hW1]; simp
  have HP : Kept (Insd w g n (xs.take (p * 2) ++ mc k x ++ xs.drop (p * 2)) (.returned (.slice (some ⟨H, 0, none⟩) n1 G)) W3) := by
    subst hn1
    refine ⟨H, G, rfl, own_of (by rw [hW3]; exact setRow_heap W2.drew H _ _ _ _ hg2) hGn hGm ?_ (by simpa using hfin) ?_, .inr (by omega), ⟨by rw [hW3, hW2, hW1]; rfl, by rw [hW3, hW2, hW1]; rfl, by rw [hW3, hW2, hW1]; rfl, hsz3, fun j hj _ => ?_⟩⟩
    · simp [List.length_take, List.length_drop, hL1l, hxl]; omega
    · simp [mc, List.length_take, List.length_drop, hxl]; omega
    · rw [hW3, setRow_other W2.drew H j _ (by omega)]; exact hk2 j hj
  have AP := keep hap
  have C1 := keep hcp1
  have C2 := keep hcp2
  have hne : ((p : Int) == (n : Int)) = false := beq_eq_false_iff_ne.2 (by omega)
  have hne' : ¬ (p : Int) = (n : Int) := by omega
  have hgt : (cap : Int) < (n1 : Int) := by omega
  have hgt' : decide ((cap : Int) < (n1 : Int)) = true := decide_eq_true hgt
  clear hC hv hn hcur hcc hcm hsz htk hxl hl2 hap hcp1 hcp2 hL1 hL1l hW1 hW2 hW3 hg1 hg2 hk1 hk2 hfin hp hr h1 hvg hn1 hp1 hoP hoQ hlP hlQ hcP hcA hcB hold hG hGn hGm hROW hRl hRt hgl hvl hsz3 hH
  go_enter Tryz.func217, Tryz.ntmps217
  have c1 := C1.out
  go_wp2_with (at_builtin; refine wpList_app_run rfl _ _ _ _ rfl _ _ _ rfl rfl AP.out ?_)
  clear AP C1
  refine wp_region_held_drew (S := fun _ => True) (by kernel_rfl) trivial (fun hHeld => ?_)
  refine wpAnyH_take (i := 0) (oi := ⟨some 46, _, _, _, _, _⟩) (v := ?v23) rfl (by kernel_rfl) (by kernel_rfl) (by kernel_rfl) (fun _ _ _ h => h) (Or.inl ⟨by rfl, ?hy23⟩) (by assumption) ?rest23
  case hy23 => (intro w hSw; go_simp; try with_reducible rfl)
  try simp only [Act.put, List.setIfInBounds_toArray, List.set_cons_zero, List.set_cons_succ]
  refine wpAnyH_take (i := 1) (oi := ⟨some 47, _, _, _, _, _⟩) (v := ?v24) rfl (by kernel_rfl) (by kernel_rfl) (by kernel_rfl) (fun _ _ _ h => h) (Or.inl ⟨by rfl, ?hy24⟩) (by assumption) ?rest24
  case hy24 => (intro w hSw; go_simp; try with_reducible rfl)
  try simp only [Act.put, List.setIfInBounds_toArray, List.set_cons_zero, List.set_cons_succ]
  refine wpAnyH_take (i := 2) (oi := ⟨some 48, _, _, _, _, _⟩) (v := ?v25) rfl (by kernel_rfl) (by kernel_rfl) (by kernel_rfl) (fun _ _ _ h => h) (Or.inl ⟨by rfl, ?hy25⟩) (by assumption) ?rest25
  case hy25 => (intro w hSw; go_simp; try with_reducible rfl)
  try simp only [Act.put, List.setIfInBounds_toArray, List.set_cons_zero, List.set_cons_succ]
  refine wpAnyH_take (i := 3) (oi := ⟨some 49, _, _, _, _, _⟩) (v := (.int .i64 (p1 : Int))) rfl (by kernel_rfl) (by kernel_rfl) (by kernel_rfl) (fun _ _ _ h => h) (Or.inl ⟨by rfl, ?hy26⟩) (by assumption) ?rest26
  case hy26 => (intro w hSw; first | (go_simp; done) | (go_simp; simp [*]; done) | (simp [*]; go_simp; done))
  try simp only [Act.put, List.setIfInBounds_toArray, List.set_cons_zero, List.set_cons_succ]
  refine wpAnyH_take (i := 4) (oi := ⟨some 50, _, _, _, _, _⟩) (v := (.slice (some ⟨H, oQ, none⟩) lQ cB)) rfl (by kernel_rfl) (by kernel_rfl) (by kernel_rfl) (fun _ _ _ h => h) (Or.inl ⟨by rfl, ?hy27⟩) (by assumption) ?rest27
  case hy27 => (intro w hSw; first | (go_simp; done) | (go_simp; simp [*]; done) | (simp [*]; go_simp; done))
  try simp only [Act.put, List.setIfInBounds_toArray, List.set_cons_zero, List.set_cons_succ]
  refine wpAnyH_take (i := 5) (oi := ⟨some 51, _, _, _, _, _⟩) (v := ?v28) rfl (by kernel_rfl) (by kernel_rfl) (by kernel_rfl) (fun _ _ _ h => h) (Or.inl ⟨by rfl, ?hy28⟩) (by assumption) ?rest28
  case hy28 => (intro w hSw; go_simp; try with_reducible rfl)
  try simp only [Act.put, List.setIfInBounds_toArray, List.set_cons_zero, List.set_cons_succ]
  refine wpAnyH_take (i := 6) (oi := ⟨some 52, _, _, _, _, _⟩) (v := ?v29) rfl (by kernel_rfl) (by kernel_rfl) (by kernel_rfl) (fun _ _ _ h => h) (Or.inl ⟨by rfl, ?hy29⟩) (by assumption) ?rest29
  case hy29 => (intro w hSw; go_simp; try with_reducible rfl)
  try simp only [Act.put, List.setIfInBounds_toArray, List.set_cons_zero, List.set_cons_succ]
  refine wpAnyH_take (i := 7) (oi := ⟨some 53, _, _, _, _, _⟩) (v := (.slice (some ⟨g, oP, none⟩) lQ cP)) rfl (by kernel_rfl) (by kernel_rfl) (by kernel_rfl) (fun _ _ _ h => h) (Or.inl ⟨by rfl, ?hy30⟩) (by assumption) ?rest30
  case hy30 => (intro w hSw; first | (go_simp; done) | (go_simp; simp [*]; done) | (simp [*]; go_simp; done))
  try simp only [Act.put, List.setIfInBounds_toArray, List.set_cons_zero, List.set_cons_succ]
  refine wpAnyH_ready (rs := [8]) (by kernel_rfl) (by simp) ?_
  refine AllReadyH.cons (o := ⟨some 54, _, _, _, _, _⟩) rfl (fun K hK => ?_) AllReadyH.nil
  rw [if_pos (by rfl)]
  refine wp_cp_run (.tmp 50) (.tmp 53) 28 28 rfl _ _ _ rfl rfl C2.out ?_
  refine hK.out _ _ trivial (fun hHeld => ?_)
  try simp only [Act.put, List.setIfInBounds_toArray, List.set_cons_zero, List.set_cons_succ]
  clear hK
  refine wpAnyH_done (by kernel_rfl) ?_ _
  clear hHeld C2
  go_wp2
  go_ret
  exact HP.out
theorem insM_any (w : World) (g n cap vb p : Nat) (xs : List Value) (k : ByteArray) (x : Nat) (hC : w.ownsRow 0 73 2 (.slice (some ⟨g, 0, none⟩) n cap) n xs) (hv : w.heap[vb]? = some (.cells #[.string k, .float .f64 x] 73 (0, 0))) (hvg : vb ≠ g) (hn : n ≤ 100000) (hp : p ≤ n) (h1 : ∀ u ∈ xs, u.oneCell' = true) :
    Calls Tryz.prog 217 #[.slice (some ⟨g, 0, none⟩) n cap, .int .i64 p, .slice (some ⟨vb, 0, none⟩) 1 1] w fun e w' => Insd w g n (xs.take (p * 2) ++ mc k x ++ xs.drop (p * 2)) e w' := by
  rcases Nat.lt_or_eq_of_le hp with h | rfl
  · rcases Nat.lt_or_ge cap (n + 1) with h' | h'
    · exact insM_grow w g n cap vb p xs k x hC hv hvg hn h h' h1
    · exact insM_room w g n cap vb p xs k x hC hv hvg hn h h' h1
  · have hl := hC.1
    rw [List.take_of_length_le (by omega), List.drop_of_length_le (by omega), List.append_nil]
    exact insM_end w g p cap vb xs k x hC hv hn
end Go.Proofs.YtmgeaanbgjbkcaaGreat.DF

namespace Go.Proofs.YtmgeaanbgjbkcaaGreat.DF
open Go.RowKit Go.Shelf
set_option linter.unusedVariables false
set_option linter.unusedSimpArgs false
theorem two_one {va vb : Value} (ha : va.oneCell' = true) (hb : vb.oneCell' = true) : ∀ u ∈ [va, vb], u.oneCell' = true := by
  intro u hu
  simp only [List.mem_cons, List.not_mem_nil, or_false] at hu
  rcases hu with rfl | rfl <;> assumption
theorem duo_cell {w : World} {g : Nat} {va vb : Value} {t : TypeId} (h : w.heap[g]? = some (.cells #[va, vb] t (0, 0))) : ∀ j u, [va, vb][j]? = some u → w.cell? ((⟨g, 0, none⟩ : Addr).add j) = some u := by
  intro j u hu
  rw [add_at, Nat.zero_add, cell_of_row w g j _ _ _ h]
  have : (#[va, vb] : Array Value)[j]? = [va, vb][j]? := by simp
  rw [this, hu]
def rp (xs : List Value) (p : Nat) (va vb : Value) : List Value := xs.take p ++ [va, vb] ++ xs.drop (p + 1)
def Repd (w : World) (g n : Nat) (ys : List Value) (e : Ending) (w' : World) : Prop :=
  ∃ g' cap', e = .returned (.slice (some ⟨g', 0, none⟩) (n + 1) cap') ∧ w'.ownsRow 0 28 1 (.slice (some ⟨g', 0, none⟩) (n + 1) cap') (n + 1) ys ∧ (g' = g ∨ w.heap.size ≤ g') ∧ w.grownBy w' (some g)
set_option maxRecDepth 100000 in
theorem rep_end (w : World) (g n cap vg p : Nat) (xs : List Value) (va vb : Value) (hC : w.ownsRow 0 28 1 (.slice (some ⟨g, 0, none⟩) n cap) n xs) (hv : w.heap[vg]? = some (.cells #[va, vb] 28 (0, 0))) (hvg : vg ≠ g) (hn : n ≤ 2000000) (hp : p + 1 = n) (h1 : ∀ u ∈ xs, u.oneCell' = true) (ha1 : va.oneCell' = true) (hb1 : vb.oneCell' = true) :
    Calls Tryz.prog 253 #[.slice (some ⟨g, 0, none⟩) n cap, .int .i64 p, .int .i64 ((p : Int) + 1), .slice (some ⟨vg, 0, none⟩) 2 2] w fun e w' => Repd w g n (rp xs p va vb) e w' := by
  obtain ⟨i0, hi0, hz0, hz1, hz2⟩ := info_parts info_rw
  obtain ⟨cur, hcur, hcc, hcm, hsz, htk, hxl⟩ := own_cur hC
  rw [Nat.mul_one] at hsz htk hxl
  have hcm' := hcm
  unfold maxLen at hcm
  have uT := Tryz.underlying199
  obtain ⟨q1, hq1⟩ : ∃ q : Int, (p : Int) + 1 = q := ⟨_, rfl⟩
  obtain ⟨p1, hp1⟩ : ∃ p1, p1 = p + 1 := ⟨_, rfl⟩
  have hq1' : q1 = (p1 : Int) := by omega
  rw [hq1]
  subst hq1'
  obtain ⟨n1, hn1⟩ : ∃ n1, n1 = n + 1 := ⟨_, rfl⟩
  obtain ⟨p2, hp2⟩ : ∃ p2, p2 = p + 2 := ⟨_, rfl⟩
  have hs0 : ∃ v, ∀ w, (Instr.slice 199 (.slice (some ⟨g, 0, none⟩) n cap) (some (.int .i64 (p : Int))) (some (.int .i64 (p1 : Int))) none).run Tryz.prog w = .ok v w :=
    ⟨_, fun w => slice_run w _ _ uT i0 hi0 ⟨g, 0, none⟩ n cap p p1 cap _ _ _ (.inl ⟨rfl, rfl⟩) (.inr ⟨rfl, by omega⟩) (.inr ⟨rfl, by omega⟩)⟩
  obtain ⟨v0, hs0⟩ := hs0
  have hs1 : ∀ w, (Instr.slice 199 (.slice (some ⟨g, 0, none⟩) n cap) none (some (.int .i64 (p : Int))) none).run Tryz.prog w = .ok (.slice (some ⟨g, 0, none⟩) p cap) w := fun w => by
    rw [slice_run w _ _ uT i0 hi0 ⟨g, 0, none⟩ n cap 0 p cap _ _ _ (.inl ⟨rfl, rfl⟩) (.inr ⟨rfl, by omega⟩) (.inl ⟨rfl, rfl⟩)]
    rw [Nat.zero_mul, add_at, Nat.zero_add, ite_self]; rfl
  have hne : ((p : Int) == (p1 : Int)) = false := beq_eq_false_iff_ne.2 (by omega)
  have hne' : ¬ (p : Int) = (p1 : Int) := by omega
  have hw2 : IntKind.i64.wrap ((p : Int) + 2) = (p2 : Int) := by rw [IntKind.wrap_i64]; omega
  have hCp : w.ownsRow 0 28 1 (.slice (some ⟨g, 0, none⟩) p cap) p (xs.take p) := own_of hcur (by omega) hcm' (by rw [Nat.mul_one]; exact hsz) (by rw [Nat.mul_one]; exact take_pre htk (by omega)) (by rw [List.length_take, hxl]; omega)
  obtain ⟨g', cap', W, r1, r2, r3, r4, r5⟩ := run_append_lies (P := Tryz.prog) w 199 199 0 28 i0 _ 1 24 uT hi0 hz0 hz1 hz2 (by simp [Value.cells]) (by decide) _ p _ hCp ⟨vg, 0, none⟩ 2 2 [va, vb] rfl (duo_cell hv) (two_one ha1 hb1) (by decide) (by unfold maxLen; omega) (by omega) (Nat.zero_le _) w.heap.size rfl
  rw [← hp2] at r1 r2
  have R1 := keep r1
  have hpn : p2 = n + 1 := by omega
  have HP : Kept (Repd w g n (rp xs p va vb) (.returned (.slice (some ⟨g', 0, none⟩) p2 cap')) W) := by
    unfold rp
    rw [List.drop_of_length_le (by omega), List.append_nil]
    subst hpn
    exact ⟨g', cap', rfl, r2, r4.imp (fun e => (Option.some.inj e).symm) (fun e => Nat.le_of_eq e.symm), r3⟩
  have he : ((p1 : Int) == (n : Int)) = true := beq_iff_eq.2 (by omega)
  have hl : decide ((p2 : Int) < (n : Int)) = false := decide_eq_false (by omega)
  have hl' : ¬ (p2 : Int) < (n : Int) := by omega
  have he' : (p1 : Int) = (n : Int) := by omega
  have hpn1 : p1 = n := by omega
  clear hC hv hn hcur hcc hcm hcm' hsz htk hxl r1 r2 r3 r4 r5 hvg hp h1 ha1 hb1 hq1 hp2 hn1 hw2 hCp hpn he'
  subst hpn1
  clear hp1 he
  go_enter Tryz.func253, Tryz.ntmps253
  go_wp2_with (at_builtin; refine wpList_app_run rfl _ _ _ _ rfl _ _ _ rfl rfl R1.out ?_)
  go_ret
  exact HP.out
set_option maxRecDepth 100000 in
theorem rep_grow (w : World) (g n cap vg p : Nat) (xs : List Value) (va vb : Value) (hC : w.ownsRow 0 28 1 (.slice (some ⟨g, 0, none⟩) n cap) n xs) (hv : w.heap[vg]? = some (.cells #[va, vb] 28 (0, 0))) (hvg : vg ≠ g) (hn : n ≤ 2000000) (hp : p + 1 < n) (hr : cap < n + 1) (h1 : ∀ u ∈ xs, u.oneCell' = true) (ha1 : va.oneCell' = true) (hb1 : vb.oneCell' = true) :
    Calls Tryz.prog 253 #[.slice (some ⟨g, 0, none⟩) n cap, .int .i64 p, .int .i64 ((p : Int) + 1), .slice (some ⟨vg, 0, none⟩) 2 2] w fun e w' => Repd w g n (rp xs p va vb) e w' := by
  obtain ⟨i0, hi0, hz0, hz1, hz2⟩ := info_parts info_rw
  obtain ⟨cur, hcur, hcc, hcm, hsz, htk, hxl⟩ := own_cur hC
  rw [Nat.mul_one] at hsz htk hxl
  have hcm' := hcm
  unfold maxLen at hcm
  have uT := Tryz.underlying199
  obtain ⟨q1, hq1⟩ : ∃ q : Int, (p : Int) + 1 = q := ⟨_, rfl⟩
  obtain ⟨p1, hp1⟩ : ∃ p1, p1 = p + 1 := ⟨_, rfl⟩
  have hq1' : q1 = (p1 : Int) := by omega
  rw [hq1]
  subst hq1'
  obtain ⟨n1, hn1⟩ : ∃ n1, n1 = n + 1 := ⟨_, rfl⟩
  obtain ⟨p2, hp2⟩ : ∃ p2, p2 = p + 2 := ⟨_, rfl⟩
  have hs0 : ∃ v, ∀ w, (Instr.slice 199 (.slice (some ⟨g, 0, none⟩) n cap) (some (.int .i64 (p : Int))) (some (.int .i64 (p1 : Int))) none).run Tryz.prog w = .ok v w :=
    ⟨_, fun w => slice_run w _ _ uT i0 hi0 ⟨g, 0, none⟩ n cap p p1 cap _ _ _ (.inl ⟨rfl, rfl⟩) (.inr ⟨rfl, by omega⟩) (.inr ⟨rfl, by omega⟩)⟩
  obtain ⟨v0, hs0⟩ := hs0
  have hs1 : ∀ w, (Instr.slice 199 (.slice (some ⟨g, 0, none⟩) n cap) none (some (.int .i64 (p : Int))) none).run Tryz.prog w = .ok (.slice (some ⟨g, 0, none⟩) p cap) w := fun w => by
    rw [slice_run w _ _ uT i0 hi0 ⟨g, 0, none⟩ n cap 0 p cap _ _ _ (.inl ⟨rfl, rfl⟩) (.inr ⟨rfl, by omega⟩) (.inl ⟨rfl, rfl⟩)]
    rw [Nat.zero_mul, add_at, Nat.zero_add, ite_self]; rfl
  have hne : ((p : Int) == (p1 : Int)) = false := beq_eq_false_iff_ne.2 (by omega)
  have hne' : ¬ (p : Int) = (p1 : Int) := by omega
  have hw2 : IntKind.i64.wrap ((p : Int) + 2) = (p2 : Int) := by rw [IntKind.wrap_i64]; omega
  obtain ⟨lJ, hlJ⟩ : ∃ o, o = n - p1 := ⟨_, rfl⟩
  obtain ⟨cJ, hcJ⟩ : ∃ o, o = cap - p1 := ⟨_, rfl⟩
  have hs2 : ∀ w, (Instr.slice 199 (.slice (some ⟨g, 0, none⟩) n cap) (some (.int .i64 (p1 : Int))) none none).run Tryz.prog w = .ok (.slice (some ⟨g, p1, none⟩) lJ cJ) w := fun w => by
    rw [slice_run w _ _ uT i0 hi0 ⟨g, 0, none⟩ n cap p1 n cap _ _ _ (.inl ⟨rfl, rfl⟩) (.inl ⟨rfl, rfl, rfl⟩) (.inr ⟨rfl, by omega⟩), if_neg (by omega), hz1, add_at, Nat.zero_add, Nat.mul_one, hlJ, hcJ]
  have hw3 : IntKind.i64.wrap ((p2 : Int) + (lJ : Int)) = (n1 : Int) := by rw [IntKind.wrap_i64]; omega
  have he : ((p1 : Int) == (n : Int)) = false := beq_eq_false_iff_ne.2 (by omega)
  have he' : ¬ (p1 : Int) = (n : Int) := by omega
  have hl2 : (xs.drop p1).length = lJ := by rw [List.length_drop, hxl]; omega
  obtain ⟨lP, hlP⟩ : ∃ o, o = n1 - p := ⟨_, rfl⟩
  have hw4 : IntKind.i64.wrap ((n1 : Int) - (p : Int)) = (lP : Int) := by rw [IntKind.wrap_i64]; omega
  have hold : (Builtin.firstCells i0.size p (.slice (some ⟨g, 0, none⟩) p cap)).run Tryz.prog w.drew.drew = .ok (xs.take p).toArray w.drew.drew := by
    rw [hz1]
    refine run_firstCells_some w.drew.drew 1 p ⟨g, 0, none⟩ p cap (xs.take p) (by rw [List.length_take, hxl]; omega) (fun j v hj => ?_)
    rw [List.getElem?_take] at hj
    split at hj
    · exact row_cells (a := 0) (w := w.drew.drew) hcur htk j v (by simpa using hj)
    · cases hj
  have hap := Lib.run_append_grow_zeros (P := Tryz.prog) w.drew 199 3 199 28 i0 _ .i64 .i64 uT Tryz.underlying3 hi0 hz0 (some ⟨g, 0, none⟩) p cap (xs.take p) hold lP (by omega) (by omega) (by omega) (by omega) (by rw [hz2]; omega) (by rw [hz2]; exact growslice_fits (by omega) (by omega))
  rw [show p + lP = n1 by omega] at hap
  obtain ⟨G, hG⟩ : ∃ G, G = grownCap w.drew n1 cap 28 := ⟨_, rfl⟩
  rw [← hG] at hap
  have hGn : n1 ≤ G := by rw [hG]; exact grownCap_ge w.drew _ _ _
  have hGm : G ≤ maxLen := by rw [hG]; exact grownCap_le_maxLen w.drew n1 cap _ (by unfold maxLen; omega)
  obtain ⟨ROW, hROW⟩ : ∃ ROW : Array Value, ROW = (xs.take p).toArray ++ Builtin.zeroCells (Value.slice none 0 0).cells lP ++ Builtin.zeroCells (Value.slice none 0 0).cells (G - n1) := ⟨_, rfl⟩
  rw [← hROW] at hap
  have hRl : ROW.size = G := by
    rw [hROW]
    simp only [Array.size_append, List.size_toArray, size_zeroCells, List.length_take, hxl]
    simp only [Value.cells, List.size_toArray, List.length_cons, List.length_nil]
    omega
  have hRt : ROW.toList.take p = xs.take p := by
    rw [hROW]
    simp only [Array.toList_append, List.append_assoc]
    exact List.take_left' (by rw [List.length_take, hxl]; omega)
  obtain ⟨H, hH⟩ : ∃ H, H = w.heap.size := ⟨_, rfl⟩
  obtain ⟨W1, hW1⟩ : ∃ W1, W1 = w.drew.drew.alloc (.cells ROW 28) := ⟨_, rfl⟩
  rw [← hW1, show w.drew.heap.size = H from hH.symm] at hap
  have hgl : g < w.heap.size := (Array.getElem?_eq_some_iff.1 hcur).1
  have hvl : vg < w.heap.size := (Array.getElem?_eq_some_iff.1 hv).1
  have hg1 : W1.heap[H]? = some (.cells ROW 28 (0, 0)) := by rw [hW1, hH]; exact heap_alloc_new w.drew.drew _
  have hk1 : ∀ j, j < w.heap.size → W1.heap[j]? = w.heap[j]? := fun j hj => by rw [hW1]; exact Below.heap_alloc w.drew.drew _ j hj
  obtain ⟨cA, hcA⟩ : ∃ o, o = G - p := ⟨_, rfl⟩
  obtain ⟨cB, hcB⟩ : ∃ o, o = G - p2 := ⟨_, rfl⟩
  have hs3 : ∀ w, (Instr.slice 199 (.slice (some ⟨H, 0, none⟩) n1 G) (some (.int .i64 (p : Int))) none none).run Tryz.prog w = .ok (.slice (some ⟨H, p, none⟩) lP cA) w := fun w => by
    rw [slice_run w _ _ uT i0 hi0 ⟨H, 0, none⟩ n1 G p n1 G _ _ _ (.inl ⟨rfl, rfl⟩) (.inl ⟨rfl, rfl, rfl⟩) (.inr ⟨rfl, by omega⟩), if_neg (by omega), hz1, add_at, Nat.zero_add, Nat.mul_one, hlP, hcA]
  have hs4 : ∀ w, (Instr.slice 199 (.slice (some ⟨H, 0, none⟩) n1 G) (some (.int .i64 (p2 : Int))) none none).run Tryz.prog w = .ok (.slice (some ⟨H, p2, none⟩) lJ cB) w := fun w => by
    rw [slice_run w _ _ uT i0 hi0 ⟨H, 0, none⟩ n1 G p2 n1 G _ _ _ (.inl ⟨rfl, rfl⟩) (.inl ⟨rfl, rfl, rfl⟩) (.inr ⟨rfl, by omega⟩), if_neg (by omega), hz1, add_at, Nat.zero_add, Nat.mul_one, show n1 - p2 = lJ by omega, hcB]
  have hcp1 := copy_to (P := Tryz.prog) W1 199 28 3 28 uT i0 hi0 H p lP 2 2 cA 2 ⟨vg, 0, none⟩ ROW [va, vb] hg1 (Nat.min_eq_left (by omega)) (by rw [hz1]; rfl) (duo_cell ((hk1 vg hvl).trans hv)) (by rw [hz1, hRl]; omega) (two_one ha1 hb1)
  rw [hz1] at hcp1
  obtain ⟨L1, hL1⟩ : ∃ L1, L1 = ROW.toList.take p ++ [va, vb] ++ ROW.toList.drop (p + 2 * 1) := ⟨_, rfl⟩
  rw [← hL1] at hcp1
  have hL1l : L1.length = G := by rw [hL1]; simp only [List.length_append, List.length_take, List.length_cons, List.length_nil, List.length_drop, Array.length_toList, hRl]; omega
  obtain ⟨W2, hW2⟩ : ∃ W2, W2 = W1.setRow H L1.toArray := ⟨_, rfl⟩
  rw [← hW2] at hcp1
  have hg2 : W2.heap[H]? = some (.cells L1.toArray 28 (0, 0)) := by rw [hW2]; exact setRow_heap W1 H ROW _ _ _ hg1
  have hk2 : ∀ j, j < w.heap.size → W2.heap[j]? = w.heap[j]? := fun j hj => by rw [hW2, setRow_other W1 H j _ (by omega)]; exact hk1 j hj
  have hcp2 := copy_to (P := Tryz.prog) W2.drew 199 28 3 28 uT i0 hi0 H p2 lJ lJ lJ cB cJ ⟨g, p1, none⟩ L1.toArray (xs.drop p1) hg2 (Nat.min_self _) (by rw [hz1, Nat.mul_one]; exact hl2) (row_cells (w := W2.drew) ((hk2 g hgl).trans hcur) htk) (by rw [hz1]; simp [hL1l]; omega) (fun u hu => h1 u (List.mem_of_mem_drop hu))
  rw [hz1] at hcp2
  have hfin : (L1.take p2 ++ xs.drop p1 ++ L1.drop (p2 + lJ * 1)).take n1 = xs.take p ++ [va, vb] ++ xs.drop p1 := by
    have := row_new (vs := [va, vb]) (c := p2) (N := n1) (n := n) hRt hxl (a := p) (b := p1) (by omega) (by omega) (by simp; omega) (by omega) (by rw [Array.length_toList, hRl]; omega)
    rw [show p + 2 * 1 = p2 by omega] at hL1
    rw [← hL1] at this
    rw [show p2 + lJ * 1 = n1 by omega]
    exact this
  obtain ⟨W3, hW3⟩ : ∃ W3, W3 = W2.drew.setRow H (L1.toArray.toList.take p2 ++ xs.drop p1 ++ L1.toArray.toList.drop (p2 + lJ * 1)).toArray := ⟨_, rfl⟩
  rw [← hW3] at hcp2
  have hsz3 : w.heap.size ≤ W3.heap.size := by rw [hW3, hW2, hW1]; simp
  have HP : Kept (Repd w g n (rp xs p va vb) (.returned (.slice (some ⟨H, 0, none⟩) n1 G)) W3) := by
    unfold rp
    rw [← hp1]
    subst hn1
    refine ⟨H, G, rfl, own_of (by rw [hW3]; exact setRow_heap W2.drew H _ _ _ _ hg2) hGn hGm ?_ (by simpa using hfin) ?_, .inr (by omega), ⟨by rw [hW3, hW2, hW1]; rfl, by rw [hW3, hW2, hW1]; rfl, by rw [hW3, hW2, hW1]; rfl, hsz3, fun j hj _ => ?_⟩⟩
    · simp [List.length_take, List.length_drop, hL1l, hxl]; omega
    · simp [List.length_take, List.length_drop, hxl]; omega
    · rw [hW3, setRow_other W2.drew H j _ (by omega)]; exact hk2 j hj
  have AP := keep hap
  have C1 := keep hcp1
  have C2 := keep hcp2
  have hgt : (cap : Int) < (n1 : Int) := by omega
  have hgt' : decide ((cap : Int) < (n1 : Int)) = true := decide_eq_true hgt
  clear hC hv hn hcur hcc hcm hcm' hsz htk hxl hl2 hap hcp1 hcp2 hL1 hL1l hW1 hW2 hW3 hg1 hg2 hk1 hk2 hfin hp hr h1 hvg hn1 hp1 hp2 hq1 hlP hlJ hcJ hcA hcB hold hG hGn hGm hROW hRl hRt hgl hvl hsz3 hH ha1 hb1
  go_enter Tryz.func253, Tryz.ntmps253
  have c1 := C1.out
  go_wp2_with fail
  refine wp_region_held_drew (S := fun _ => True) (by kernel_rfl) trivial (fun hHeld => ?_)
  refine wpAnyH_take (i := 0) (oi := ⟨some 45, _, _, _, _, _⟩) (v := ?v31) rfl (by kernel_rfl) (by kernel_rfl) (by kernel_rfl) (fun _ _ _ h => h) (Or.inl ⟨by rfl, ?hy31⟩) (by assumption) ?rest31
  case hy31 => (intro w hSw; go_simp; try with_reducible rfl)
  try simp only [Act.put, List.setIfInBounds_toArray, List.set_cons_zero, List.set_cons_succ]
  refine wpAnyH_take (i := 1) (oi := ⟨some 46, _, _, _, _, _⟩) (v := ?v32) rfl (by kernel_rfl) (by kernel_rfl) (by kernel_rfl) (fun _ _ _ h => h) (Or.inl ⟨by rfl, ?hy32⟩) (by assumption) ?rest32
  case hy32 => (intro w hSw; go_simp; try with_reducible rfl)
  try simp only [Act.put, List.setIfInBounds_toArray, List.set_cons_zero, List.set_cons_succ]
  refine wpAnyH_take (i := 2) (oi := ⟨some 47, _, _, _, _, _⟩) (v := (.slice (some ⟨g, 0, none⟩) p cap)) rfl (by kernel_rfl) (by kernel_rfl) (by kernel_rfl) (fun _ _ _ h => h) (Or.inl ⟨by rfl, ?hy33⟩) (by assumption) ?rest33
  case hy33 => (intro w hSw; first | (go_simp; done) | (go_simp; simp [*]; done) | (simp [*]; go_simp; done))
  try simp only [Act.put, List.setIfInBounds_toArray, List.set_cons_zero, List.set_cons_succ]
  refine wpAnyH_take (i := 3) (oi := ⟨some 48, _, _, _, _, _⟩) (v := (.int .i64 (p : Int))) rfl (by kernel_rfl) (by kernel_rfl) (by kernel_rfl) (fun _ _ _ h => h) (Or.inl ⟨by rfl, ?hy34⟩) (by assumption) ?rest34
  case hy34 => (intro w hSw; first | (go_simp; done) | (go_simp; simp [*]; done) | (simp [*]; go_simp; done))
  try simp only [Act.put, List.setIfInBounds_toArray, List.set_cons_zero, List.set_cons_succ]
  refine wpAnyH_take (i := 4) (oi := ⟨some 49, _, _, _, _, _⟩) (v := ?v35) rfl (by kernel_rfl) (by kernel_rfl) (by kernel_rfl) (fun _ _ _ h => h) (Or.inl ⟨by rfl, ?hy35⟩) (by assumption) ?rest35
  case hy35 => (intro w hSw; go_simp; try with_reducible rfl)
  try simp only [Act.put, List.setIfInBounds_toArray, List.set_cons_zero, List.set_cons_succ]
  refine wpAnyH_take (i := 5) (oi := ⟨some 50, _, _, _, _, _⟩) (v := (.int .i64 2)) rfl (by kernel_rfl) (by kernel_rfl) (by kernel_rfl) (fun _ _ _ h => h) (Or.inl ⟨by rfl, ?hy36⟩) (by assumption) ?rest36
  case hy36 => (intro w hSw; first | (go_simp; done) | (go_simp; simp [*]; done) | (simp [*]; go_simp; done))
  try simp only [Act.put, List.setIfInBounds_toArray, List.set_cons_zero, List.set_cons_succ]
  refine wpAnyH_take (i := 6) (oi := ⟨some 51, _, _, _, _, _⟩) (v := (.int .i64 (p2 : Int))) rfl (by kernel_rfl) (by kernel_rfl) (by kernel_rfl) (fun _ _ _ h => h) (Or.inl ⟨by rfl, ?hy37⟩) (by assumption) ?rest37
  case hy37 => (intro w hSw; first | (go_simp; done) | (go_simp; simp [*]; done) | (simp [*]; go_simp; done))
  try simp only [Act.put, List.setIfInBounds_toArray, List.set_cons_zero, List.set_cons_succ]
  refine wpAnyH_take (i := 7) (oi := ⟨some 52, _, _, _, _, _⟩) (v := ?v38) rfl (by kernel_rfl) (by kernel_rfl) (by kernel_rfl) (fun _ _ _ h => h) (Or.inl ⟨by rfl, ?hy38⟩) (by assumption) ?rest38
  case hy38 => (intro w hSw; go_simp; try with_reducible rfl)
  try simp only [Act.put, List.setIfInBounds_toArray, List.set_cons_zero, List.set_cons_succ]
  refine wpAnyH_take (i := 8) (oi := ⟨some 53, _, _, _, _, _⟩) (v := ?v39) rfl (by kernel_rfl) (by kernel_rfl) (by kernel_rfl) (fun _ _ _ h => h) (Or.inl ⟨by rfl, ?hy39⟩) (by assumption) ?rest39
  case hy39 => (intro w hSw; go_simp; try with_reducible rfl)
  try simp only [Act.put, List.setIfInBounds_toArray, List.set_cons_zero, List.set_cons_succ]
  refine wpAnyH_take (i := 9) (oi := ⟨some 54, _, _, _, _, _⟩) (v := (.slice (some ⟨g, p1, none⟩) lJ cJ)) rfl (by kernel_rfl) (by kernel_rfl) (by kernel_rfl) (fun _ _ _ h => h) (Or.inl ⟨by rfl, ?hy40⟩) (by assumption) ?rest40
  case hy40 => (intro w hSw; first | (go_simp; done) | (go_simp; simp [*]; done) | (simp [*]; go_simp; done))
  try simp only [Act.put, List.setIfInBounds_toArray, List.set_cons_zero, List.set_cons_succ]
  refine wpAnyH_take (i := 10) (oi := ⟨some 55, _, _, _, _, _⟩) (v := (.int .i64 (lJ : Int))) rfl (by kernel_rfl) (by kernel_rfl) (by kernel_rfl) (fun _ _ _ h => h) (Or.inl ⟨by rfl, ?hy41⟩) (by assumption) ?rest41
  case hy41 => (intro w hSw; first | (go_simp; done) | (go_simp; simp [*]; done) | (simp [*]; go_simp; done))
  try simp only [Act.put, List.setIfInBounds_toArray, List.set_cons_zero, List.set_cons_succ]
  refine wpAnyH_take (i := 11) (oi := ⟨some 56, _, _, _, _, _⟩) (v := (.int .i64 (n1 : Int))) rfl (by kernel_rfl) (by kernel_rfl) (by kernel_rfl) (fun _ _ _ h => h) (Or.inl ⟨by rfl, ?hy42⟩) (by assumption) ?rest42
  case hy42 => (intro w hSw; first | (go_simp; done) | (go_simp; simp [*]; done) | (simp [*]; go_simp; done))
  try simp only [Act.put, List.setIfInBounds_toArray, List.set_cons_zero, List.set_cons_succ]
  refine wpAnyH_take (i := 12) (oi := ⟨some 10, _, _, _, _, _⟩) (v := ?v43) rfl (by kernel_rfl) (by kernel_rfl) (by kernel_rfl) (fun _ _ _ h => h) (Or.inl ⟨by rfl, ?hy43⟩) (by assumption) ?rest43
  case hy43 => (intro w hSw; go_simp; try with_reducible rfl)
  try simp only [Act.put, List.setIfInBounds_toArray, List.set_cons_zero, List.set_cons_succ]
  refine wpAnyH_done (by kernel_rfl) ?_ _
  clear hHeld
  go_wp2_with (at_builtin; refine wpList_app_run rfl _ _ _ _ rfl _ _ _ rfl rfl AP.out ?_)
  clear AP C1
  refine wp_region_held_drew (S := fun _ => True) (by kernel_rfl) trivial (fun hHeld => ?_)
  refine wpAnyH_take (i := 0) (oi := ⟨some 73, _, _, _, _, _⟩) (v := ?v44) rfl (by kernel_rfl) (by kernel_rfl) (by kernel_rfl) (fun _ _ _ h => h) (Or.inl ⟨by rfl, ?hy44⟩) (by assumption) ?rest44
  case hy44 => (intro w hSw; go_simp; try with_reducible rfl)
  try simp only [Act.put, List.setIfInBounds_toArray, List.set_cons_zero, List.set_cons_succ]
  refine wpAnyH_take (i := 1) (oi := ⟨some 74, _, _, _, _, _⟩) (v := ?v45) rfl (by kernel_rfl) (by kernel_rfl) (by kernel_rfl) (fun _ _ _ h => h) (Or.inl ⟨by rfl, ?hy45⟩) (by assumption) ?rest45
  case hy45 => (intro w hSw; go_simp; try with_reducible rfl)
  try simp only [Act.put, List.setIfInBounds_toArray, List.set_cons_zero, List.set_cons_succ]
  refine wpAnyH_take (i := 2) (oi := ⟨some 75, _, _, _, _, _⟩) (v := ?v46) rfl (by kernel_rfl) (by kernel_rfl) (by kernel_rfl) (fun _ _ _ h => h) (Or.inl ⟨by rfl, ?hy46⟩) (by assumption) ?rest46
  case hy46 => (intro w hSw; go_simp; try with_reducible rfl)
  try simp only [Act.put, List.setIfInBounds_toArray, List.set_cons_zero, List.set_cons_succ]
  refine wpAnyH_take (i := 3) (oi := ⟨some 76, _, _, _, _, _⟩) (v := (.int .i64 2)) rfl (by kernel_rfl) (by kernel_rfl) (by kernel_rfl) (fun _ _ _ h => h) (Or.inl ⟨by rfl, ?hy47⟩) (by assumption) ?rest47
  case hy47 => (intro w hSw; first | (go_simp; done) | (go_simp; simp [*]; done) | (simp [*]; go_simp; done))
  try simp only [Act.put, List.setIfInBounds_toArray, List.set_cons_zero, List.set_cons_succ]
  refine wpAnyH_take (i := 4) (oi := ⟨some 77, _, _, _, _, _⟩) (v := (.int .i64 (p2 : Int))) rfl (by kernel_rfl) (by kernel_rfl) (by kernel_rfl) (fun _ _ _ h => h) (Or.inl ⟨by rfl, ?hy48⟩) (by assumption) ?rest48
  case hy48 => (intro w hSw; first | (go_simp; done) | (go_simp; simp [*]; done) | (simp [*]; go_simp; done))
  try simp only [Act.put, List.setIfInBounds_toArray, List.set_cons_zero, List.set_cons_succ]
  refine wpAnyH_take (i := 5) (oi := ⟨some 78, _, _, _, _, _⟩) (v := (.slice (some ⟨H, p2, none⟩) lJ cB)) rfl (by kernel_rfl) (by kernel_rfl) (by kernel_rfl) (fun _ _ _ h => h) (Or.inl ⟨by rfl, ?hy49⟩) (by assumption) ?rest49
  case hy49 => (intro w hSw; first | (go_simp; done) | (go_simp; simp [*]; done) | (simp [*]; go_simp; done))
  try simp only [Act.put, List.setIfInBounds_toArray, List.set_cons_zero, List.set_cons_succ]
  refine wpAnyH_take (i := 6) (oi := ⟨some 79, _, _, _, _, _⟩) (v := ?v50) rfl (by kernel_rfl) (by kernel_rfl) (by kernel_rfl) (fun _ _ _ h => h) (Or.inl ⟨by rfl, ?hy50⟩) (by assumption) ?rest50
  case hy50 => (intro w hSw; go_simp; try with_reducible rfl)
  try simp only [Act.put, List.setIfInBounds_toArray, List.set_cons_zero, List.set_cons_succ]
  refine wpAnyH_take (i := 7) (oi := ⟨some 80, _, _, _, _, _⟩) (v := ?v51) rfl (by kernel_rfl) (by kernel_rfl) (by kernel_rfl) (fun _ _ _ h => h) (Or.inl ⟨by rfl, ?hy51⟩) (by assumption) ?rest51
  case hy51 => (intro w hSw; go_simp; try with_reducible rfl)
  try simp only [Act.put, List.setIfInBounds_toArray, List.set_cons_zero, List.set_cons_succ]
  refine wpAnyH_take (i := 8) (oi := ⟨some 81, _, _, _, _, _⟩) (v := (.slice (some ⟨g, p1, none⟩) lJ cJ)) rfl (by kernel_rfl) (by kernel_rfl) (by kernel_rfl) (fun _ _ _ h => h) (Or.inl ⟨by rfl, ?hy52⟩) (by assumption) ?rest52
  case hy52 => (intro w hSw; first | (go_simp; done) | (go_simp; simp [*]; done) | (simp [*]; go_simp; done))
  try simp only [Act.put, List.setIfInBounds_toArray, List.set_cons_zero, List.set_cons_succ]
  refine wpAnyH_ready (rs := [9]) (by kernel_rfl) (by simp) ?_
  refine AllReadyH.cons (o := ⟨some 82, _, _, _, _, _⟩) rfl (fun K hK => ?_) AllReadyH.nil
  rw [if_pos (by rfl)]
  refine wp_cp_run (.tmp 78) (.tmp 81) 199 199 rfl _ _ _ rfl rfl C2.out ?_
  refine hK.out _ _ trivial (fun hHeld => ?_)
  try simp only [Act.put, List.setIfInBounds_toArray, List.set_cons_zero, List.set_cons_succ]
  clear hK
  refine wpAnyH_done (by kernel_rfl) ?_ _
  clear hHeld C2
  go_wp2
  go_ret
  exact HP.out
set_option maxRecDepth 100000 in
theorem rep_room (w : World) (g n cap vg p : Nat) (xs : List Value) (va vb : Value) (hC : w.ownsRow 0 28 1 (.slice (some ⟨g, 0, none⟩) n cap) n xs) (hv : w.heap[vg]? = some (.cells #[va, vb] 28 (0, 0))) (hvg : vg ≠ g) (hn : n ≤ 2000000) (hp : p + 1 < n) (hr : n + 1 ≤ cap) (h1 : ∀ u ∈ xs, u.oneCell' = true) (ha1 : va.oneCell' = true) (hb1 : vb.oneCell' = true) :
    Calls Tryz.prog 253 #[.slice (some ⟨g, 0, none⟩) n cap, .int .i64 p, .int .i64 ((p : Int) + 1), .slice (some ⟨vg, 0, none⟩) 2 2] w fun e w' => Repd w g n (rp xs p va vb) e w' := by
  obtain ⟨i0, hi0, hz0, hz1, hz2⟩ := info_parts info_rw
  obtain ⟨cur, hcur, hcc, hcm, hsz, htk, hxl⟩ := own_cur hC
  rw [Nat.mul_one] at hsz htk hxl
  have hcm' := hcm
  unfold maxLen at hcm
  have uT := Tryz.underlying199
  obtain ⟨q1, hq1⟩ : ∃ q : Int, (p : Int) + 1 = q := ⟨_, rfl⟩
  obtain ⟨p1, hp1⟩ : ∃ p1, p1 = p + 1 := ⟨_, rfl⟩
  have hq1' : q1 = (p1 : Int) := by omega
  rw [hq1]
  subst hq1'
  obtain ⟨n1, hn1⟩ : ∃ n1, n1 = n + 1 := ⟨_, rfl⟩
  obtain ⟨p2, hp2⟩ : ∃ p2, p2 = p + 2 := ⟨_, rfl⟩
  have hs0 : ∃ v, ∀ w, (Instr.slice 199 (.slice (some ⟨g, 0, none⟩) n cap) (some (.int .i64 (p : Int))) (some (.int .i64 (p1 : Int))) none).run Tryz.prog w = .ok v w :=
    ⟨_, fun w => slice_run w _ _ uT i0 hi0 ⟨g, 0, none⟩ n cap p p1 cap _ _ _ (.inl ⟨rfl, rfl⟩) (.inr ⟨rfl, by omega⟩) (.inr ⟨rfl, by omega⟩)⟩
  obtain ⟨v0, hs0⟩ := hs0
  have hs1 : ∀ w, (Instr.slice 199 (.slice (some ⟨g, 0, none⟩) n cap) none (some (.int .i64 (p : Int))) none).run Tryz.prog w = .ok (.slice (some ⟨g, 0, none⟩) p cap) w := fun w => by
    rw [slice_run w _ _ uT i0 hi0 ⟨g, 0, none⟩ n cap 0 p cap _ _ _ (.inl ⟨rfl, rfl⟩) (.inr ⟨rfl, by omega⟩) (.inl ⟨rfl, rfl⟩)]
    rw [Nat.zero_mul, add_at, Nat.zero_add, ite_self]; rfl
  have hne : ((p : Int) == (p1 : Int)) = false := beq_eq_false_iff_ne.2 (by omega)
  have hne' : ¬ (p : Int) = (p1 : Int) := by omega
  have hw2 : IntKind.i64.wrap ((p : Int) + 2) = (p2 : Int) := by rw [IntKind.wrap_i64]; omega
  obtain ⟨lJ, hlJ⟩ : ∃ o, o = n - p1 := ⟨_, rfl⟩
  obtain ⟨cJ, hcJ⟩ : ∃ o, o = cap - p1 := ⟨_, rfl⟩
  have hs2 : ∀ w, (Instr.slice 199 (.slice (some ⟨g, 0, none⟩) n cap) (some (.int .i64 (p1 : Int))) none none).run Tryz.prog w = .ok (.slice (some ⟨g, p1, none⟩) lJ cJ) w := fun w => by
    rw [slice_run w _ _ uT i0 hi0 ⟨g, 0, none⟩ n cap p1 n cap _ _ _ (.inl ⟨rfl, rfl⟩) (.inl ⟨rfl, rfl, rfl⟩) (.inr ⟨rfl, by omega⟩), if_neg (by omega), hz1, add_at, Nat.zero_add, Nat.mul_one, hlJ, hcJ]
  have hw3 : IntKind.i64.wrap ((p2 : Int) + (lJ : Int)) = (n1 : Int) := by rw [IntKind.wrap_i64]; omega
  have he : ((p1 : Int) == (n : Int)) = false := beq_eq_false_iff_ne.2 (by omega)
  have he' : ¬ (p1 : Int) = (n : Int) := by omega
  have hl2 : (xs.drop p1).length = lJ := by rw [List.length_drop, hxl]; omega
  obtain ⟨lP, hlP⟩ : ∃ o, o = n1 - p := ⟨_, rfl⟩
  obtain ⟨cA, hcA⟩ : ∃ o, o = cap - p := ⟨_, rfl⟩
  obtain ⟨cB, hcB⟩ : ∃ o, o = cap - p2 := ⟨_, rfl⟩
  have hs3 : ∀ w, (Instr.slice 199 (.slice (some ⟨g, 0, none⟩) n cap) none (some (.int .i64 (n1 : Int))) none).run Tryz.prog w = .ok (.slice (some ⟨g, 0, none⟩) n1 cap) w := fun w => by
    rw [slice_run w _ _ uT i0 hi0 ⟨g, 0, none⟩ n cap 0 n1 cap _ _ _ (.inl ⟨rfl, rfl⟩) (.inr ⟨rfl, by omega⟩) (.inl ⟨rfl, rfl⟩)]
    rw [Nat.zero_mul, add_at, Nat.zero_add, ite_self]; rfl
  have hs4 : ∀ w, (Instr.slice 199 (.slice (some ⟨g, 0, none⟩) n1 cap) (some (.int .i64 (p2 : Int))) none none).run Tryz.prog w = .ok (.slice (some ⟨g, p2, none⟩) lJ cB) w := fun w => by
    rw [slice_run w _ _ uT i0 hi0 ⟨g, 0, none⟩ n1 cap p2 n1 cap _ _ _ (.inl ⟨rfl, rfl⟩) (.inl ⟨rfl, rfl, rfl⟩) (.inr ⟨rfl, by omega⟩), if_neg (by omega), hz1, add_at, Nat.zero_add, Nat.mul_one, show n1 - p2 = lJ by omega, hcB]
  have hs5 : ∀ w, (Instr.slice 199 (.slice (some ⟨g, 0, none⟩) n1 cap) (some (.int .i64 (p : Int))) none none).run Tryz.prog w = .ok (.slice (some ⟨g, p, none⟩) lP cA) w := fun w => by
    rw [slice_run w _ _ uT i0 hi0 ⟨g, 0, none⟩ n1 cap p n1 cap _ _ _ (.inl ⟨rfl, rfl⟩) (.inl ⟨rfl, rfl, rfl⟩) (.inr ⟨rfl, by omega⟩), if_neg (by omega), hz1, add_at, Nat.zero_add, Nat.mul_one, hlP, hcA]
  have hov : (callFunc 274 #[.slice (some ⟨g, p2, none⟩) lJ cB, .slice (some ⟨vg, 0, none⟩) 2 2]).run Tryz.prog w.drew = .ok (.value (.bool false)) w.drew := by
    rw [run_callFunc_extern Tryz.func274 (by kernel_rfl) (by kernel_rfl) (by kernel_rfl) (e := Extern.SlicesOverlaps.overlaps #[199, 199] #[4]) (by kernel_rfl),
      Lib.run_overlaps_apart w.drew 199 4 28 uT 1 (fun w => by rw [size_run w _ i0 hi0, hz1]) ⟨g, p2, none⟩ ⟨vg, 0, none⟩ lJ cB 2 2 (fun e => hvg e.symm) 28 28 cap 2 (by show w.shape? g = _; simp [World.shape?, hcur, hsz]) (by show w.shape? vg = _; simp [World.shape?, hv]) (by decide) (by show w.frozen? _ = _; simp [World.frozen?, hcur]) (by show w.frozen? _ = _; simp [World.frozen?, hcur])]
    rfl
  have hcp1 := copy_to (P := Tryz.prog) w.drew.drew 199 28 3 28 uT i0 hi0 g p2 lJ lJ lJ cB cJ ⟨g, p1, none⟩ cur (xs.drop p1) hcur (Nat.min_self _) (by rw [hz1, Nat.mul_one]; exact hl2) (row_cells (w := w.drew.drew) hcur htk) (by rw [hz1, hsz]; omega) (fun u hu => h1 u (List.mem_of_mem_drop hu))
  rw [hz1] at hcp1
  obtain ⟨L1, hL1⟩ : ∃ L1, L1 = cur.toList.take p2 ++ xs.drop p1 ++ cur.toList.drop (p2 + lJ * 1) := ⟨_, rfl⟩
  rw [← hL1] at hcp1
  have hL1l : L1.length = cap := by rw [hL1]; simp only [List.length_append, List.length_take, hl2, List.length_drop, Array.length_toList, hsz]; omega
  obtain ⟨W1, hW1⟩ : ∃ W1, W1 = w.drew.drew.setRow g L1.toArray := ⟨_, rfl⟩
  rw [← hW1] at hcp1
  have hg1 : W1.heap[g]? = some (.cells L1.toArray 28 (0, 0)) := by rw [hW1]; exact setRow_heap w.drew.drew g cur _ _ _ hcur
  have hv1 : W1.heap[vg]? = some (.cells #[va, vb] 28 (0, 0)) := by rw [hW1, setRow_other w.drew.drew g vg _ hvg]; exact hv
  have hcp2 := copy_to (P := Tryz.prog) W1 199 28 3 28 uT i0 hi0 g p lP 2 2 cA 2 ⟨vg, 0, none⟩ L1.toArray [va, vb] hg1 (Nat.min_eq_left (by omega)) (by rw [hz1]; rfl) (duo_cell hv1) (by rw [hz1]; simp [hL1l]; omega) (two_one ha1 hb1)
  rw [hz1] at hcp2
  have hfin : ((L1.take p ++ [va, vb] ++ L1.drop (p + 2 * 1)).take n1) = xs.take p ++ [va, vb] ++ xs.drop p1 := by
    have := row_in (vs := [va, vb]) (c := p2) (N := n1) (M := 0) htk (by rw [Array.length_toList, hsz]; omega) (a := p) (b := p1) (by omega) (by omega) (by simp; omega) (by rw [Array.length_toList, hsz]; omega) (by omega)
    rw [show p2 + lJ * 1 = n1 by omega] at hL1
    rw [← hL1] at this
    rw [show p + 2 * 1 = p2 by omega]
    exact this
  obtain ⟨W2, hW2⟩ : ∃ W2, W2 = W1.setRow g (L1.toArray.toList.take p ++ [va, vb] ++ L1.toArray.toList.drop (p + 2 * 1)).toArray := ⟨_, rfl⟩
  rw [← hW2] at hcp2
  have hO : Only g w W2 := by
    rw [hW2, hW1]
    exact (only_row (w := w.drew.drew) (g := g) _).trans (only_row _)
  have HP : Kept (Repd w g n (rp xs p va vb) (.returned (.slice (some ⟨g, 0, none⟩) n1 cap)) W2) := by
    unfold rp
    rw [← hp1]
    subst hn1
    refine ⟨g, cap, rfl, own_of (by rw [hW2]; exact setRow_heap W1 g _ _ _ _ hg1) hr hcm' ?_ (by simpa using hfin) ?_, .inl rfl, ⟨hO.1.1, hO.1.2.1, hO.1.2.2, Nat.le_of_eq hO.2.1.symm, fun k _ hk => hO.2.2 k (fun e => hk (by rw [e]))⟩⟩
    · simp [List.length_take, List.length_drop, hL1l]; omega
    · simp [List.length_take, List.length_drop, hxl]; omega
  have C1 := keep hcp1
  have C2 := keep hcp2
  have hgt : ¬ (cap : Int) < (n1 : Int) := by omega
  have hgt' : decide ((cap : Int) < (n1 : Int)) = false := decide_eq_false hgt
  have hle : ¬ (p2 : Int) ≤ (p1 : Int) := by omega
  have hle' : decide ((p2 : Int) ≤ (p1 : Int)) = false := decide_eq_false hle
  clear hC hv hn hcur hcc hcm hcm' hsz htk hxl hl2 hcp1 hcp2 hL1 hL1l hW1 hW2 hg1 hv1 hfin hO hp hr h1 hvg hn1 hp1 hp2 hq1 hlP hlJ hcJ hcA hcB ha1 hb1
  go_enter Tryz.func253, Tryz.ntmps253
  go_wp2_with fail
  refine wp_region_held_drew (S := fun _ => True) (by kernel_rfl) trivial (fun hHeld => ?_)
  refine wpAnyH_take (i := 0) (oi := ⟨some 45, _, _, _, _, _⟩) (v := ?v53) rfl (by kernel_rfl) (by kernel_rfl) (by kernel_rfl) (fun _ _ _ h => h) (Or.inl ⟨by rfl, ?hy53⟩) (by assumption) ?rest53
  case hy53 => (intro w hSw; go_simp; try with_reducible rfl)
  try simp only [Act.put, List.setIfInBounds_toArray, List.set_cons_zero, List.set_cons_succ]
  refine wpAnyH_take (i := 1) (oi := ⟨some 46, _, _, _, _, _⟩) (v := ?v54) rfl (by kernel_rfl) (by kernel_rfl) (by kernel_rfl) (fun _ _ _ h => h) (Or.inl ⟨by rfl, ?hy54⟩) (by assumption) ?rest54
  case hy54 => (intro w hSw; go_simp; try with_reducible rfl)
  try simp only [Act.put, List.setIfInBounds_toArray, List.set_cons_zero, List.set_cons_succ]
  refine wpAnyH_take (i := 2) (oi := ⟨some 47, _, _, _, _, _⟩) (v := (.slice (some ⟨g, 0, none⟩) p cap)) rfl (by kernel_rfl) (by kernel_rfl) (by kernel_rfl) (fun _ _ _ h => h) (Or.inl ⟨by rfl, ?hy55⟩) (by assumption) ?rest55
  case hy55 => (intro w hSw; first | (go_simp; done) | (go_simp; simp [*]; done) | (simp [*]; go_simp; done))
  try simp only [Act.put, List.setIfInBounds_toArray, List.set_cons_zero, List.set_cons_succ]
  refine wpAnyH_take (i := 3) (oi := ⟨some 48, _, _, _, _, _⟩) (v := (.int .i64 (p : Int))) rfl (by kernel_rfl) (by kernel_rfl) (by kernel_rfl) (fun _ _ _ h => h) (Or.inl ⟨by rfl, ?hy56⟩) (by assumption) ?rest56
  case hy56 => (intro w hSw; first | (go_simp; done) | (go_simp; simp [*]; done) | (simp [*]; go_simp; done))
  try simp only [Act.put, List.setIfInBounds_toArray, List.set_cons_zero, List.set_cons_succ]
  refine wpAnyH_take (i := 4) (oi := ⟨some 49, _, _, _, _, _⟩) (v := ?v57) rfl (by kernel_rfl) (by kernel_rfl) (by kernel_rfl) (fun _ _ _ h => h) (Or.inl ⟨by rfl, ?hy57⟩) (by assumption) ?rest57
  case hy57 => (intro w hSw; go_simp; try with_reducible rfl)
  try simp only [Act.put, List.setIfInBounds_toArray, List.set_cons_zero, List.set_cons_succ]
  refine wpAnyH_take (i := 5) (oi := ⟨some 50, _, _, _, _, _⟩) (v := (.int .i64 2)) rfl (by kernel_rfl) (by kernel_rfl) (by kernel_rfl) (fun _ _ _ h => h) (Or.inl ⟨by rfl, ?hy58⟩) (by assumption) ?rest58
  case hy58 => (intro w hSw; first | (go_simp; done) | (go_simp; simp [*]; done) | (simp [*]; go_simp; done))
  try simp only [Act.put, List.setIfInBounds_toArray, List.set_cons_zero, List.set_cons_succ]
  refine wpAnyH_take (i := 6) (oi := ⟨some 51, _, _, _, _, _⟩) (v := (.int .i64 (p2 : Int))) rfl (by kernel_rfl) (by kernel_rfl) (by kernel_rfl) (fun _ _ _ h => h) (Or.inl ⟨by rfl, ?hy59⟩) (by assumption) ?rest59
  case hy59 => (intro w hSw; first | (go_simp; done) | (go_simp; simp [*]; done) | (simp [*]; go_simp; done))
  try simp only [Act.put, List.setIfInBounds_toArray, List.set_cons_zero, List.set_cons_succ]
  refine wpAnyH_take (i := 7) (oi := ⟨some 52, _, _, _, _, _⟩) (v := ?v60) rfl (by kernel_rfl) (by kernel_rfl) (by kernel_rfl) (fun _ _ _ h => h) (Or.inl ⟨by rfl, ?hy60⟩) (by assumption) ?rest60
  case hy60 => (intro w hSw; go_simp; try with_reducible rfl)
  try simp only [Act.put, List.setIfInBounds_toArray, List.set_cons_zero, List.set_cons_succ]
  refine wpAnyH_take (i := 8) (oi := ⟨some 53, _, _, _, _, _⟩) (v := ?v61) rfl (by kernel_rfl) (by kernel_rfl) (by kernel_rfl) (fun _ _ _ h => h) (Or.inl ⟨by rfl, ?hy61⟩) (by assumption) ?rest61
  case hy61 => (intro w hSw; go_simp; try with_reducible rfl)
  try simp only [Act.put, List.setIfInBounds_toArray, List.set_cons_zero, List.set_cons_succ]
  refine wpAnyH_take (i := 9) (oi := ⟨some 54, _, _, _, _, _⟩) (v := (.slice (some ⟨g, p1, none⟩) lJ cJ)) rfl (by kernel_rfl) (by kernel_rfl) (by kernel_rfl) (fun _ _ _ h => h) (Or.inl ⟨by rfl, ?hy62⟩) (by assumption) ?rest62
  case hy62 => (intro w hSw; first | (go_simp; done) | (go_simp; simp [*]; done) | (simp [*]; go_simp; done))
  try simp only [Act.put, List.setIfInBounds_toArray, List.set_cons_zero, List.set_cons_succ]
  refine wpAnyH_take (i := 10) (oi := ⟨some 55, _, _, _, _, _⟩) (v := (.int .i64 (lJ : Int))) rfl (by kernel_rfl) (by kernel_rfl) (by kernel_rfl) (fun _ _ _ h => h) (Or.inl ⟨by rfl, ?hy63⟩) (by assumption) ?rest63
  case hy63 => (intro w hSw; first | (go_simp; done) | (go_simp; simp [*]; done) | (simp [*]; go_simp; done))
  try simp only [Act.put, List.setIfInBounds_toArray, List.set_cons_zero, List.set_cons_succ]
  refine wpAnyH_take (i := 11) (oi := ⟨some 56, _, _, _, _, _⟩) (v := (.int .i64 (n1 : Int))) rfl (by kernel_rfl) (by kernel_rfl) (by kernel_rfl) (fun _ _ _ h => h) (Or.inl ⟨by rfl, ?hy64⟩) (by assumption) ?rest64
  case hy64 => (intro w hSw; first | (go_simp; done) | (go_simp; simp [*]; done) | (simp [*]; go_simp; done))
  try simp only [Act.put, List.setIfInBounds_toArray, List.set_cons_zero, List.set_cons_succ]
  refine wpAnyH_take (i := 12) (oi := ⟨some 10, _, _, _, _, _⟩) (v := ?v65) rfl (by kernel_rfl) (by kernel_rfl) (by kernel_rfl) (fun _ _ _ h => h) (Or.inl ⟨by rfl, ?hy65⟩) (by assumption) ?rest65
  case hy65 => (intro w hSw; go_simp; try with_reducible rfl)
  try simp only [Act.put, List.setIfInBounds_toArray, List.set_cons_zero, List.set_cons_succ]
  refine wpAnyH_done (by kernel_rfl) ?_ _
  clear hHeld
  go_wp2_with (simp only [hov])
  refine wp_region_held_drew (S := fun _ => True) (by kernel_rfl) trivial (fun hHeld => ?_)
  refine wpAnyH_take (i := 0) (oi := ⟨some 121, _, _, _, _, _⟩) (v := ?v66) rfl (by kernel_rfl) (by kernel_rfl) (by kernel_rfl) (fun _ _ _ h => h) (Or.inl ⟨by rfl, ?hy66⟩) (by assumption) ?rest66
  case hy66 => (intro w hSw; go_simp; try with_reducible rfl)
  try simp only [Act.put, List.setIfInBounds_toArray, List.set_cons_zero, List.set_cons_succ]
  refine wpAnyH_take (i := 1) (oi := ⟨some 122, _, _, _, _, _⟩) (v := ?v67) rfl (by kernel_rfl) (by kernel_rfl) (by kernel_rfl) (fun _ _ _ h => h) (Or.inl ⟨by rfl, ?hy67⟩) (by assumption) ?rest67
  case hy67 => (intro w hSw; go_simp; try with_reducible rfl)
  try simp only [Act.put, List.setIfInBounds_toArray, List.set_cons_zero, List.set_cons_succ]
  refine wpAnyH_take (i := 2) (oi := ⟨some 123, _, _, _, _, _⟩) (v := ?v68) rfl (by kernel_rfl) (by kernel_rfl) (by kernel_rfl) (fun _ _ _ h => h) (Or.inl ⟨by rfl, ?hy68⟩) (by assumption) ?rest68
  case hy68 => (intro w hSw; go_simp; try with_reducible rfl)
  try simp only [Act.put, List.setIfInBounds_toArray, List.set_cons_zero, List.set_cons_succ]
  refine wpAnyH_take (i := 3) (oi := ⟨some 124, _, _, _, _, _⟩) (v := (.int .i64 2)) rfl (by kernel_rfl) (by kernel_rfl) (by kernel_rfl) (fun _ _ _ h => h) (Or.inl ⟨by rfl, ?hy69⟩) (by assumption) ?rest69
  case hy69 => (intro w hSw; first | (go_simp; done) | (go_simp; simp [*]; done) | (simp [*]; go_simp; done))
  try simp only [Act.put, List.setIfInBounds_toArray, List.set_cons_zero, List.set_cons_succ]
  refine wpAnyH_take (i := 4) (oi := ⟨some 125, _, _, _, _, _⟩) (v := (.int .i64 (p2 : Int))) rfl (by kernel_rfl) (by kernel_rfl) (by kernel_rfl) (fun _ _ _ h => h) (Or.inl ⟨by rfl, ?hy70⟩) (by assumption) ?rest70
  case hy70 => (intro w hSw; first | (go_simp; done) | (go_simp; simp [*]; done) | (simp [*]; go_simp; done))
  try simp only [Act.put, List.setIfInBounds_toArray, List.set_cons_zero, List.set_cons_succ]
  refine wpAnyH_take (i := 5) (oi := ⟨some 126, _, _, _, _, _⟩) (v := (.slice (some ⟨g, p2, none⟩) lJ cB)) rfl (by kernel_rfl) (by kernel_rfl) (by kernel_rfl) (fun _ _ _ h => h) (Or.inl ⟨by rfl, ?hy71⟩) (by assumption) ?rest71
  case hy71 => (intro w hSw; first | (go_simp; done) | (go_simp; simp [*]; done) | (simp [*]; go_simp; done))
  try simp only [Act.put, List.setIfInBounds_toArray, List.set_cons_zero, List.set_cons_succ]
  refine wpAnyH_take (i := 6) (oi := ⟨some 127, _, _, _, _, _⟩) (v := ?v72) rfl (by kernel_rfl) (by kernel_rfl) (by kernel_rfl) (fun _ _ _ h => h) (Or.inl ⟨by rfl, ?hy72⟩) (by assumption) ?rest72
  case hy72 => (intro w hSw; go_simp; try with_reducible rfl)
  try simp only [Act.put, List.setIfInBounds_toArray, List.set_cons_zero, List.set_cons_succ]
  refine wpAnyH_take (i := 7) (oi := ⟨some 128, _, _, _, _, _⟩) (v := ?v73) rfl (by kernel_rfl) (by kernel_rfl) (by kernel_rfl) (fun _ _ _ h => h) (Or.inl ⟨by rfl, ?hy73⟩) (by assumption) ?rest73
  case hy73 => (intro w hSw; go_simp; try with_reducible rfl)
  try simp only [Act.put, List.setIfInBounds_toArray, List.set_cons_zero, List.set_cons_succ]
  refine wpAnyH_take (i := 8) (oi := ⟨some 129, _, _, _, _, _⟩) (v := (.slice (some ⟨g, p1, none⟩) lJ cJ)) rfl (by kernel_rfl) (by kernel_rfl) (by kernel_rfl) (fun _ _ _ h => h) (Or.inl ⟨by rfl, ?hy74⟩) (by assumption) ?rest74
  case hy74 => (intro w hSw; first | (go_simp; done) | (go_simp; simp [*]; done) | (simp [*]; go_simp; done))
  try simp only [Act.put, List.setIfInBounds_toArray, List.set_cons_zero, List.set_cons_succ]
  refine wpAnyH_ready (rs := [9]) (by kernel_rfl) (by simp) ?_
  refine AllReadyH.cons (o := ⟨some 130, _, _, _, _, _⟩) rfl (fun K hK => ?_) AllReadyH.nil
  rw [if_pos (by rfl)]
  refine wp_cp_run (.tmp 126) (.tmp 129) 199 199 rfl _ _ _ rfl rfl C1.out ?_
  refine hK.out _ _ trivial (fun hHeld => ?_)
  try simp only [Act.put, List.setIfInBounds_toArray, List.set_cons_zero, List.set_cons_succ]
  clear hK
  refine wpAnyH_done (by kernel_rfl) ?_ _
  clear hHeld C1
  have c2 := C2.out
  clear C2
  go_wp2
  go_ret
  exact HP.out
theorem rep_any (w : World) (g n cap vg p : Nat) (xs : List Value) (va vb : Value) (hC : w.ownsRow 0 28 1 (.slice (some ⟨g, 0, none⟩) n cap) n xs) (hv : w.heap[vg]? = some (.cells #[va, vb] 28 (0, 0))) (hvg : vg ≠ g) (hn : n ≤ 2000000) (hp : p < n) (h1 : ∀ u ∈ xs, u.oneCell' = true) (ha1 : va.oneCell' = true) (hb1 : vb.oneCell' = true) :
    Calls Tryz.prog 253 #[.slice (some ⟨g, 0, none⟩) n cap, .int .i64 p, .int .i64 ((p : Int) + 1), .slice (some ⟨vg, 0, none⟩) 2 2] w fun e w' => Repd w g n (rp xs p va vb) e w' := by
  rcases Nat.lt_or_eq_of_le (show p + 1 ≤ n from hp) with h | h
  · rcases Nat.lt_or_ge cap (n + 1) with h' | h'
    · exact rep_grow w g n cap vg p xs va vb hC hv hvg hn h h' h1 ha1 hb1
    · exact rep_room w g n cap vg p xs va vb hC hv hvg hn h h' h1 ha1 hb1
  · exact rep_end w g n cap vg p xs va vb hC hv hvg hn h h1 ha1 hb1
end Go.Proofs.YtmgeaanbgjbkcaaGreat.DF
