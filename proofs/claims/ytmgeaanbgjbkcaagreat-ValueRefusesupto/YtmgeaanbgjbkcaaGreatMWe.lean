/-
  Contracts over this program, put together.
-/
import Derived.Test.YtmgeaanbgjbkcaaGreatMVb
import Derived.Laws.AppendOwn
import Derived.Laws.OwnMore
import Derived.Deep.CutRange
set_option maxHeartbeats 16000000
namespace Go.Proofs.YtmgeaanbgjbkcaaGreat
open Go.RowKit Go.Shelf
set_option linter.unusedVariables false
set_option maxRecDepth 100000
namespace Vl
theorem app_list {P : Program} {w w' : World} {ops : Array Oper} {rest : List Oper} {o : Oper} {a : Act} {Q : Exit → Act → World → Prop} (hg : o.guard = none) (s x : Operand) (t t2 : TypeId)
    (hop : o.op = Op.call { callee := Callee.builtin Builtin.append, args := #[s, x], argTypes := #[t, t2] }) (v v2 v' : Value) (hs : a.eval s = v) (hx : a.eval x = v2)
    (hrun : (Builtin.append_ #[t, t2] o.type #[v, v2]).run P w = .ok v' w') (hK : wpList P ops Q rest (a.put o.dst v') w') : wpList P ops Q (o :: rest) a w := by
  refine wpList_plain hg fun K hK' => ?_
  unfold Oper.wp
  simp [execOp, hop, resolve, invoke, builtin, hs, hx, hrun, Result.andThen]
  exact hK' _ _ hK
theorem app_one {P : Program} {w w' : World} {o : Oper} {a : Act} {K : Act → World → Prop} {Q : Exit → Act → World → Prop} (s x : Operand) (t : TypeId)
    (hop : o.op = Op.call { callee := Callee.builtin Builtin.append, args := #[s, x], argTypes := #[t, t] }) (v v2 v' : Value) (hs : a.eval s = v) (hx : a.eval x = v2)
    (hrun : (Builtin.append_ #[t, t] o.type #[v, v2]).run P w = .ok v' w') (hK : K (a.put o.dst v') w') : o.wp P a w K Q := by
  unfold Oper.wp
  simp [execOp, hop, resolve, invoke, builtin, hs, hx, hrun, Result.andThen]
  exact hK
theorem info_of {P : Program} {t : TypeId} {z : Value} {s b : Nat} (h : (P.info? t).map (fun i => (i.zero, i.size, i.bytes)) = some (some z, s, b)) : ∃ i, P.info? t = some i ∧ i.zero = some z ∧ i.size = s ∧ i.bytes = b := by
  cases e : P.info? t with
  | none => rw [e] at h; cases h
  | some i =>
    rw [e] at h
    simp only [Option.map_some, Option.some.injEq, Prod.mk.injEq] at h
    exact ⟨i, rfl, h.1, h.2.1, h.2.2⟩
theorem info_s : (Tryz.prog.info? 9).map (fun i => (i.zero, i.size, i.bytes)) = some (some (.string .empty), 1, 16) := by kernel_rfl
theorem info_p : (Tryz.prog.info? 70).map (fun i => (i.zero, i.size, i.bytes)) = some (some (.agg #[.string .empty, .string .empty]), 2, 32) := by kernel_rfl
theorem info_r : (Tryz.prog.info? 73).map (fun i => (i.zero, i.size, i.bytes)) = some (some (.agg #[.string .empty, .float .f64 0]), 2, 24) := by kernel_rfl
def In (w : World) (so : Option Addr) (us : List Value) : Prop := ∀ j u, us[j]? = some u → ∃ a, so = some a ∧ a.block < w.heap.size ∧ w.cell? (a.add j) = some u
theorem add_block' (a : Addr) (j : Nat) : (a.add j).block = a.block := by unfold Addr.add; split <;> rfl
theorem In.bel {w w' : World} {B : Nat} {so : Option Addr} {us : List Value} (h : In w so us) (hb : Below w.heap.size w w') : In w' so us := fun j u hu => by
  obtain ⟨a, h1, h2, h3⟩ := h j u hu
  exact ⟨a, h1, Nat.lt_of_lt_of_le h2 hb.size, (hb.cell (by rw [add_block']; exact h2)).trans h3⟩
theorem app_in {t e : TypeId} {z : Value} {sz by' : Nat} (ht : Tryz.prog.underlying t = some (.slice e)) (hinfo : (Tryz.prog.info? e).map (fun i => (i.zero, i.size, i.bytes)) = some (some z, sz, by')) (hzs : z.cells.size = sz) (hsz : 0 < sz)
    {B : Nat} {w : World} {v : Value} {n : Nat} {xs : List Value} (h : w.ownsRow B e sz v n xs) {so : Option Addr} {m c : Nat} {us : List Value} (hl : us.length = m * sz) (hin : In w so us) (hso : so = none → c = 0) (h1 : ∀ u ∈ us, u.oneCell' = true)
    (hm : n + m ≤ maxLen) (hbytes : (n + m) * by' ≤ 140737488355328) (hB : B ≤ w.heap.size) :
    ∃ v' w', (Builtin.append_ #[t, t] t #[v, .slice so m c]).run Tryz.prog w = .ok v' w' ∧ w'.ownsRow B e sz v' (n + m) (xs ++ us) ∧ w.grownBy w' v.ownBlock := by
  obtain ⟨i, hi, hz, hs, hb⟩ := info_of hinfo
  cases so with
  | none =>
    have hu : us = [] := by
      cases us with
      | nil => rfl
      | cons u us => obtain ⟨a, h, _⟩ := hin 0 u rfl; cases h
    subst hu
    have hm0 : m = 0 := by
      have : m * sz = 0 := hl.symm
      rcases Nat.mul_eq_zero.1 this with h | h
      · exact h
      · omega
    subst hm0
    rw [hso rfl]
    refine ⟨v, w, run_append_owned_none w B t t e i sz ht hi v n xs h, by rw [Nat.add_zero, List.append_nil]; exact h, ⟨rfl, rfl, rfl, Nat.le_refl _, fun _ _ _ => rfl⟩⟩
  | some a =>
    obtain ⟨v', w', q1, q2, q3, _⟩ := run_append_own (P := Tryz.prog) (w := w) B t t e i z sz by' ht hi hz hs hb hzs hsz v n xs h a m c us hl (fun j u hu => by
      obtain ⟨a', e1, _, e2⟩ := hin j u hu
      cases e1
      exact e2) h1 hm hbytes hB
    exact ⟨v', w', q1, q2, q3⟩
def Pb (W : World) (b : Nat) (kd : Int) (tx : ByteArray) (iv pv rv : Value) (I : List ByteArray) (P : List (ByteArray × ByteArray)) (R : List (ByteArray × Nat)) (w : World) : Prop :=
  Bx w b kd tx iv pv rv ∧ w.ownsRow W.heap.size 9 1 iv I.length (I.map Value.string) ∧ w.ownsRow W.heap.size 70 2 pv P.length (enP P) ∧ w.ownsRow W.heap.size 73 2 rv R.length (enM R) ∧ Below W.heap.size W w ∧ W.heap.size ≤ b
theorem own_nil' (w : World) (B t s : Nat) : w.ownsRow B t s (.slice none 0 0) 0 [] := ⟨by simp, .inl ⟨rfl, rfl⟩⟩
theorem Pb.new (W : World) (kd : Int) (tx : ByteArray) : Pb W W.heap.size kd tx (.slice none 0 0) (.slice none 0 0) (.slice none 0 0) [] [] [] (W.alloc (.cells #[.int .i64 kd, .string tx, .slice none 0 0, .slice none 0 0, .slice none 0 0] 30)) :=
  ⟨heap_alloc_new _ _, own_nil' _ _ _ _, own_nil' _ _ _ _, own_nil' _ _ _ _, (Below.refl _ _).alloc (Nat.le_refl _) _, Nat.le_refl _⟩
theorem Pb.bel {W : World} {b : Nat} {kd : Int} {tx : ByteArray} {iv pv rv : Value} {I : List ByteArray} {P : List (ByteArray × ByteArray)} {R : List (ByteArray × Nat)} {w w' : World} (h : Pb W b kd tx iv pv rv I P R w) (hb : Below w.heap.size w w') : Pb W b kd tx iv pv rv I P R w' :=
  ⟨h.1.bel hb, kept h.2.1 hb, kept h.2.2.1 hb, kept h.2.2.2.1 hb, h.2.2.2.2.1.trans (hb.mono h.2.2.2.2.1.size), h.2.2.2.2.2⟩
theorem Pb.pln {W : World} {b : Nat} {kd : Int} {tx : ByteArray} {iv pv rv : Value} {I : List ByteArray} {P : List (ByteArray × ByteArray)} {R : List (ByteArray × Nat)} {w : World} (h : Pb W b kd tx iv pv rv I P R w) : Pln w (plV ⟨kd, tx, I, P, R⟩ iv pv rv) ⟨kd, tx, I, P, R⟩ :=
  ⟨iv, pv, rv, rfl, base0 h.2.1, base0 h.2.2.1, base0 h.2.2.2.1⟩
theorem row_ne {w : World} {B B' e e' s s' n n' : Nat} {v v' : Value} {xs xs' : List Value} (h : w.ownsRow B e s v n xs) (h' : w.ownsRow B' e' s' v' n' xs') (hne : e ≠ e') {k : Nat} (hk : v.ownBlock = some k) : v'.ownBlock ≠ some k := by
  rcases h.2 with ⟨rfl, _⟩ | ⟨g, cap, cur, rfl, _, hh, _⟩
  · cases hk
  · cases hk
    exact own_ne h' hh hne
theorem cell_setCell {w : World} {b i : Nat} {cur : Array Value} {t : TypeId} {fr : Nat × Nat} {u : Value} (h : w.heap[b]? = some (.cells cur t fr)) : (w.setCell ⟨b, i, none⟩ u).heap[b]? = some (.cells (cur.setIfInBounds i u) t fr) := by
  have hlt := (Array.getElem?_eq_some_iff.1 h).1
  simp [World.setCell, Array.getElem?_modify, h]
theorem grow_below {W w w1 : World} {B b : Nat} {v u : Value} {i : Nat} (h : Below B W w) (hB : B ≤ w.heap.size) (hg : w.grownBy w1 v.ownBlock) (hv : ∀ k, v.ownBlock = some k → B ≤ k) (hb : B ≤ b) : Below B W (w1.setCell ⟨b, i, none⟩ u) :=
  (h.grown hg hB hv).setCell hb _
theorem keep_row {w w1 : World} {b : Nat} {v u : Value} {i B e s n : Nat} {x : Value} {xs : List Value} {cs : Array Value} {t : TypeId} {fr : Nat × Nat} (hg : w.grownBy w1 v.ownBlock) (hx : w.ownsRow B e s x n xs) (hne : ∀ k, x.ownBlock = some k → v.ownBlock ≠ some k) (hb : w.heap[b]? = some (.cells cs t fr)) (ht : t ≠ e) : (w1.setCell ⟨b, i, none⟩ u).ownsRow B e s x n xs := by
  refine ⟨hx.1, ?_⟩
  rcases hx.2 with hn | ⟨g, cap, cur, rfl, hg', hgg, rest⟩
  · exact .inl hn
  · refine .inr ⟨g, cap, cur, rfl, hg', ?_, rest⟩
    rw [Below.heap_setCell _ _ _ _ (fun e' => by subst e'; rw [hb] at hgg; cases hgg; exact ht rfl), hg.block g (Array.getElem?_eq_some_iff.1 hgg).1 (fun e' => hne g rfl e'.symm)]
    exact hgg
theorem keep_box {w w1 : World} {b : Nat} {v : Value} {B e s n : Nat} {xs : List Value} {cs : Array Value} {t : TypeId} {fr : Nat × Nat} (hg : w.grownBy w1 v.ownBlock) (hv : w.ownsRow B e s v n xs) (hb : w.heap[b]? = some (.cells cs t fr)) (ht : t ≠ e) : w1.heap[b]? = some (.cells cs t fr) := by
  rw [hg.block b (Array.getElem?_eq_some_iff.1 hb).1 (fun e' => own_ne hv hb ht e'.symm)]; exact hb
theorem row_set {w1 : World} {b i B e s n : Nat} {v u : Value} {xs : List Value} {cs : Array Value} {t : TypeId} {fr : Nat × Nat} (h : w1.ownsRow B e s v n xs) (hb : w1.heap[b]? = some (.cells cs t fr)) (ht : t ≠ e) : (w1.setCell ⟨b, i, none⟩ u).ownsRow B e s v n xs :=
  kept_but h (fun k hk => Below.heap_setCell _ _ _ _ hk) (own_ne h hb ht)
theorem Pb.setI {W : World} {b : Nat} {kd : Int} {tx : ByteArray} {iv pv rv : Value} {I : List ByteArray} {P : List (ByteArray × ByteArray)} {R : List (ByteArray × Nat)} {w : World} (h : Pb W b kd tx iv pv rv I P R w) {so : Option Addr} {m c : Nat} {J : List ByteArray} (hl : J.length = m) (hin : In w so (J.map Value.string)) (hso : so = none → c = 0) (hm : I.length + m ≤ 7000000000000) :
    ∃ v' w1, (Builtin.append_ #[22, 22] 22 #[iv, .slice so m c]).run Tryz.prog w = .ok v' w1 ∧ Bx w1 b kd tx iv pv rv ∧ Pb W b kd tx v' pv rv (I ++ J) P R (w1.setCell ⟨b, 2, none⟩ v') := by
  obtain ⟨h1, h2, h3, h4, h5, h6⟩ := h
  obtain ⟨v', w1, q1, q2, q3⟩ := app_in Tryz.underlying22 info_s rfl (by decide) h2 (m := m) (c := c) (so := so) (us := J.map Value.string) (by rw [List.length_map, hl, Nat.mul_one]) hin hso (fun u hu => by obtain ⟨y, _, rfl⟩ := List.mem_map.1 hu; rfl) (by unfold maxLen; omega) (by omega) h5.size
  have hbx : Bx w1 b kd tx iv pv rv := keep_box q3 h2 h1 (by decide)
  refine ⟨v', w1, q1, hbx, by unfold Bx at hbx ⊢; rw [cell_setCell hbx]; rfl, ?_, keep_row q3 h3 (fun k hk => row_ne h3 h2 (by decide) hk) h1 (by decide), keep_row q3 h4 (fun k hk => row_ne h4 h2 (by decide) hk) h1 (by decide), grow_below h5 h5.size q3 (fun k hk => (h2.lt k hk).1) h6, h6⟩
  rw [List.length_append, List.map_append, hl]
  exact row_set q2 hbx (by decide)
theorem enP_len (l : List (ByteArray × ByteArray)) : (enP l).length = l.length * 2 := by
  unfold enP; induction l with
  | nil => rfl
  | cons a l ih => rw [List.flatMap_cons, List.length_append, ih]; simp; omega
theorem enM_len (l : List (ByteArray × Nat)) : (enM l).length = l.length * 2 := by
  unfold enM; induction l with
  | nil => rfl
  | cons a l ih => rw [List.flatMap_cons, List.length_append, ih]; simp; omega
theorem enP_one {l : List (ByteArray × ByteArray)} {u : Value} (h : u ∈ enP l) : u.oneCell' = true := by
  unfold enP at h
  obtain ⟨a, _, h⟩ := List.mem_flatMap.1 h
  simp at h
  rcases h with rfl | rfl <;> rfl
theorem enM_one {l : List (ByteArray × Nat)} {u : Value} (h : u ∈ enM l) : u.oneCell' = true := by
  unfold enM at h
  obtain ⟨a, _, h⟩ := List.mem_flatMap.1 h
  simp at h
  rcases h with rfl | rfl <;> rfl
theorem Pb.setP {W : World} {b : Nat} {kd : Int} {tx : ByteArray} {iv pv rv : Value} {I : List ByteArray} {P : List (ByteArray × ByteArray)} {R : List (ByteArray × Nat)} {w : World} (h : Pb W b kd tx iv pv rv I P R w) {so : Option Addr} {m c : Nat} {J : List (ByteArray × ByteArray)} (hl : J.length = m) (hin : In w so (enP J)) (hso : so = none → c = 0) (hm : P.length + m ≤ 4000000000000) :
    ∃ v' w1, (Builtin.append_ #[23, 23] 23 #[pv, .slice so m c]).run Tryz.prog w = .ok v' w1 ∧ Bx w1 b kd tx iv pv rv ∧ Pb W b kd tx iv v' rv I (P ++ J) R (w1.setCell ⟨b, 3, none⟩ v') := by
  obtain ⟨h1, h2, h3, h4, h5, h6⟩ := h
  obtain ⟨v', w1, q1, q2, q3⟩ := app_in Tryz.underlying23 info_p rfl (by decide) h3 (m := m) (c := c) (so := so) (us := enP J) (by rw [enP_len, hl]) hin hso (fun u hu => enP_one hu) (by unfold maxLen; omega) (by omega) h5.size
  have hbx : Bx w1 b kd tx iv pv rv := keep_box q3 h3 h1 (by decide)
  refine ⟨v', w1, q1, hbx, by unfold Bx at hbx ⊢; rw [cell_setCell hbx]; rfl, keep_row q3 h2 (fun k hk => row_ne h2 h3 (by decide) hk) h1 (by decide), ?_, keep_row q3 h4 (fun k hk => row_ne h4 h3 (by decide) hk) h1 (by decide), grow_below h5 h5.size q3 (fun k hk => (h3.lt k hk).1) h6, h6⟩
  rw [List.length_append, hl, show enP (P ++ J) = enP P ++ enP J from List.flatMap_append]
  exact row_set q2 hbx (by decide)
theorem Pb.setR {W : World} {b : Nat} {kd : Int} {tx : ByteArray} {iv pv rv : Value} {I : List ByteArray} {P : List (ByteArray × ByteArray)} {R : List (ByteArray × Nat)} {w : World} (h : Pb W b kd tx iv pv rv I P R w) {so : Option Addr} {m c : Nat} {J : List (ByteArray × Nat)} (hl : J.length = m) (hin : In w so (enM J)) (hso : so = none → c = 0) (hm : R.length + m ≤ 5000000000000) :
    ∃ v' w1, (Builtin.append_ #[28, 28] 28 #[rv, .slice so m c]).run Tryz.prog w = .ok v' w1 ∧ Bx w1 b kd tx iv pv rv ∧ Pb W b kd tx iv pv v' I P (R ++ J) (w1.setCell ⟨b, 4, none⟩ v') := by
  obtain ⟨h1, h2, h3, h4, h5, h6⟩ := h
  obtain ⟨v', w1, q1, q2, q3⟩ := app_in Tryz.underlying28 info_r rfl (by decide) h4 (m := m) (c := c) (so := so) (us := enM J) (by rw [enM_len, hl]) hin hso (fun u hu => enM_one hu) (by unfold maxLen; omega) (by omega) h5.size
  have hbx : Bx w1 b kd tx iv pv rv := keep_box q3 h4 h1 (by decide)
  refine ⟨v', w1, q1, hbx, by unfold Bx at hbx ⊢; rw [cell_setCell hbx]; rfl, keep_row q3 h2 (fun k hk => row_ne h2 h4 (by decide) hk) h1 (by decide), keep_row q3 h3 (fun k hk => row_ne h3 h4 (by decide) hk) h1 (by decide), ?_, grow_below h5 h5.size q3 (fun k hk => (h4.lt k hk).1) h6, h6⟩
  rw [List.length_append, hl, show enM (R ++ J) = enM R ++ enM J from List.flatMap_append]
  exact row_set q2 hbx (by decide)
theorem in_lit (w : World) (cs : Array Value) (t : TypeId) (us : List Value) (hu : us = cs.toList) : In (w.alloc (.cells cs t)) (some ⟨w.heap.size, 0, none⟩) us := fun j u h => by
  refine ⟨_, rfl, by simp, ?_⟩
  rw [add0, cell_of_row _ _ _ _ _ _ (heap_alloc_new _ _)]
  rw [hu] at h
  simpa using h
end Vl
end Go.Proofs.YtmgeaanbgjbkcaaGreat

namespace Go.Proofs.YtmgeaanbgjbkcaaGreat
open Go.RowKit Go.Shelf
set_option linter.unusedVariables false
set_option linter.unusedSimpArgs false
set_option maxRecDepth 100000
namespace Vl
def f15 : Nat := 4609434218613702656
def rkz (N : List ByteArray) (S : List Nat) : List (ByteArray × Nat) := (List.range N.length).map fun i => (N.getD i .empty, S.getD i f15)
theorem rkz_len (N : List ByteArray) (S : List Nat) : (rkz N S).length = N.length := by simp [rkz]
theorem rkz_at {N : List ByteArray} {S : List Nat} {k : Nat} {x : ByteArray} (h : N[k]? = some x) : (rkz N S)[k]? = some (x, S.getD k f15) := by
  have hk := (List.getElem?_eq_some_iff.1 h).1
  unfold rkz
  rw [List.getElem?_map, List.getElem?_range hk]
  simp [h]
def dtV (kd : Int) (tx : ByteArray) (io po no so : Option Addr) (n1 n2 n3 n4 c1 c2 c3 c4 : Nat) : Array Value := #[.int .i64 kd, .string tx, .slice io n1 c1, .slice po n2 c2, .slice no n3 c3, .slice so n4 c4]
theorem six_cells {w : World} {b : Nat} {v0 v1 v2 v3 v4 v5 : Value} {t : TypeId} (h : w.heap[b]? = some (.cells #[v0, v1, v2, v3, v4, v5] t (0, 0))) :
    w.cell? ⟨b, 0, none⟩ = some v0 ∧ w.cell? ⟨b, 1, none⟩ = some v1 ∧ w.cell? ⟨b, 2, none⟩ = some v2 ∧ w.cell? ⟨b, 3, none⟩ = some v3 ∧ w.cell? ⟨b, 4, none⟩ = some v4 ∧ w.cell? ⟨b, 5, none⟩ = some v5 := by
  refine ⟨?_, ?_, ?_, ?_, ?_, ?_⟩ <;> simp [World.cell?, h]
theorem Pb.box {W : World} {b : Nat} {kd : Int} {tx : ByteArray} {iv pv rv : Value} {I : List ByteArray} {P : List (ByteArray × ByteArray)} {R : List (ByteArray × Nat)} {w : World} (h : Pb W b kd tx iv pv rv I P R w) :
    (w.cell? ⟨b, 0, none⟩ = some (.int .i64 kd) ∧ w.cell? ⟨b, 1, none⟩ = some (.string tx) ∧ w.cell? ⟨b, 2, none⟩ = some iv ∧ w.cell? ⟨b, 3, none⟩ = some pv ∧ w.cell? ⟨b, 4, none⟩ = some rv) ∧ ∀ i, w.frozen? ⟨b, i, none⟩ = false :=
  ⟨five_cells h.1, fun i => by have := h.1; unfold Bx at this; simp [World.frozen?, this]⟩
theorem bx_free {w : World} {b : Nat} {kd : Int} {tx : ByteArray} {iv pv rv : Value} (h : Bx w b kd tx iv pv rv) (i : Nat) : w.frozen? ⟨b, i, none⟩ = false := by unfold Bx at h; simp [World.frozen?, h]
theorem take_more' {α : Type} {l : List α} {k : Nat} {x : α} (hx : l[k]? = some x) : l.take (k + 1) = l.take k ++ [x] := by
  rw [List.take_add_one, hx]; rfl
theorem over_belowB' {w W2 : World} {B n : Nat} (h : Below n w W2) (hB : n ≤ B) (v0 v1 v2 v3 v4 : Value) :
    Below n w (((((W2.setCell ⟨B, 0, none⟩ v0).setCell ⟨B, 1, none⟩ v1).setCell ⟨B, 2, none⟩ v2).setCell ⟨B, 3, none⟩ v3).setCell ⟨B, 4, none⟩ v4) :=
  ((((h.setCell hB _).setCell hB _).setCell hB _).setCell hB _).setCell hB _
end Vl
end Go.Proofs.YtmgeaanbgjbkcaaGreat
namespace Go.Proofs.YtmgeaanbgjbkcaaGreat
open Go.RowKit Go.Shelf
set_option linter.unusedVariables false
set_option linter.unusedSimpArgs false
set_option maxRecDepth 100000
namespace Vl
theorem baseLe {w : World} {B B' e s : Nat} {v : Value} {n : Nat} {xs : List Value} (h : w.ownsRow B e s v n xs) (hle : B' ≤ B) : w.ownsRow B' e s v n xs := by
  refine ⟨h.1, ?_⟩
  rcases h.2 with hn | ⟨g, cap, cur, rfl, hg, rest⟩
  · exact .inl hn
  · exact .inr ⟨g, cap, cur, rfl, Nat.le_trans hle hg, rest⟩
def PlO (B : Nat) (w : World) (V : Value) (d : Dt) : Prop := ∃ iv pv rv, V = plV d iv pv rv ∧ w.ownsRow B 9 1 iv d.items.length (d.items.map Value.string) ∧ w.ownsRow B 70 2 pv d.pairs.length (enP d.pairs) ∧ w.ownsRow B 73 2 rv d.ranks.length (enM d.ranks)
theorem dplain_own (w : World) (kd : Int) (tx : ByteArray) (io po no so : Option Addr) (n1 n2 n3 n4 k1 k2 k3 k4 : Nat) (I : List ByteArray) (P : List (ByteArray × ByteArray)) (N : List ByteArray) (S : List Nat)
    (h1 : I.length = n1) (h2 : P.length = n2) (h3 : N.length = n3) (h4 : S.length = n4) (q1 : In w io (I.map Value.string)) (q2 : In w po (enP P)) (q3 : In w no (N.map Value.string)) (q4 : In w so (S.map fun (x : Nat) => Value.int .u64 (x : Int)))
    (z1 : io = none → k1 = 0) (z2 : po = none → k2 = 0) (hs1 : n1 ≤ 1048576) (hs2 : n2 ≤ 1048576) (hs3 : n3 ≤ 1048576) :
    Calls Tryz.prog 9 #[.agg (dtV kd tx io po no so n1 n2 n3 n4 k1 k2 k3 k4)] w fun e w' => (∃ V, e = .returned V ∧ PlO w.heap.size w' V ⟨kd, tx, I, P, rkz N S⟩) ∧ Below w.heap.size w w' := by
  obtain ⟨W0, hW0⟩ : ∃ W0, w.alloc (.cells (dtV kd tx io po no so n1 n2 n3 n4 k1 k2 k3 k4) 26) = W0 := ⟨_, rfl⟩
  obtain ⟨W1, hW1⟩ : ∃ W1, W0.alloc (.cells #[.int .i64 0, .string { data := #[] }, .slice none 0 0, .slice none 0 0, .slice none 0 0] 30) = W1 := ⟨_, rfl⟩
  have hz0 : W0.heap.size = w.heap.size + 1 := by rw [← hW0]; simp
  have hz1 : W1.heap.size = w.heap.size + 2 := by rw [← hW1]; simp [hz0]
  have hb0 : Below w.heap.size w W0 := by rw [← hW0]; exact (Below.refl _ w).alloc (Nat.le_refl _) _
  have hb1 : Below w.heap.size w W1 := hb0.trans (by rw [← hW1]; exact (Below.refl _ W0).alloc hb0.size _)
  have g0 : W1.heap[w.heap.size]? = some (.cells (dtV kd tx io po no so n1 n2 n3 n4 k1 k2 k3 k4) 26 (0, 0)) := by
    rw [← hW1, Below.heap_alloc _ _ _ (by omega), ← hW0]; exact heap_alloc_new _ _
  have g1 : W1.heap[w.heap.size + 1]? = some (.cells #[.int .i64 0, .string { data := #[] }, .slice none 0 0, .slice none 0 0, .slice none 0 0] 30 (0, 0)) := by rw [← hW1, ← hz0]; exact heap_alloc_new _ _
  obtain ⟨W2, hW2⟩ : ∃ W2, W1.alloc (.cells #[.int .i64 kd, .string tx, .slice none 0 0, .slice none 0 0, .slice none 0 0] 30) = W2 := ⟨_, rfl⟩
  have p2 : Pb W1 W1.heap.size kd tx (.slice none 0 0) (.slice none 0 0) (.slice none 0 0) [] [] [] W2 := by rw [← hW2]; exact Pb.new W1 kd tx
  have hb2 := p2.2.2.2.2.1
  obtain ⟨iv, W3, r3, x3, p4⟩ := p2.setI h1 ((q1.bel (B := 0) hb1).bel (B := 0) hb2) z1 (by simp; omega)
  obtain ⟨W4, hW4⟩ : ∃ W4, W3.setCell ⟨W1.heap.size, 2, none⟩ iv = W4 := ⟨_, rfl⟩
  rw [hW4, List.nil_append] at p4
  have hb4 := p4.2.2.2.2.1
  obtain ⟨pv, W5, r5, x5, p6⟩ := p4.setP h2 ((q2.bel (B := 0) hb1).bel (B := 0) hb4) z2 (by simp; omega)
  obtain ⟨W6, hW6⟩ : ∃ W6, W5.setCell ⟨W1.heap.size, 3, none⟩ pv = W6 := ⟨_, rfl⟩
  rw [hW6, List.nil_append] at p6
  have hb6 := p6.2.2.2.2.1
  rw [hz1] at p2 x3 p4 x5 p6 hW4 hW6
  have Q3 := keep (q3.bel (B := 0) hb1)
  have Q4 := keep (q4.bel (B := 0) hb1)
  have HB1 := keep hb1
  have HZ1 := keep hz1
  have G0 := keep g0
  have G1 := keep g1
  have P2 := keep p2
  have P4 := keep p4
  have P6 := keep p6
  have X3 := keep x3
  have X5 := keep x5
  have R3 := keep r3
  have R5 := keep r5
  have HW : Kept ((w.alloc (.cells (dtV kd tx io po no so n1 n2 n3 n4 k1 k2 k3 k4) 26)).alloc (.cells #[.int .i64 0, .string { data := #[] }, .slice none 0 0, .slice none 0 0, .slice none 0 0] 30) = W1) := by rw [hW0]; exact hW1
  have HW2 := keep hW2
  have HW4 := keep hW4
  have HW6 := keep hW6
  have H3 := keep h3
  have H4 := keep h4
  obtain ⟨io2, ic2, hiv⟩ := own_sl p4.2.1
  obtain ⟨po2, pc2, hpv⟩ := own_sl p6.2.2.1
  rw [h1] at hiv
  rw [h2] at hpv
  subst hiv hpv
  unfold dtV at g0 HW
  obtain ⟨a0, a1, a2, a3, a4, a5⟩ := six_cells g0
  obtain ⟨⟨b0, b1, b2, b3, b4⟩, bf⟩ := p2.box
  obtain ⟨⟨d0, d1, d2, d3, d4⟩, df⟩ := p4.box
  obtain ⟨e0, e1, e2, e3, e4⟩ := five_cells x3
  have ef := bx_free x3 2
  obtain ⟨m0, m1, m2, m3, m4⟩ := five_cells x5
  have mf := bx_free x5 3
  have nu2 : ∀ {p : Addr} {v : Value}, W1.cell? p = some v → W2.cell? p = some v := fun {p v} h => (hb2.cell (p := p) (World.block_lt_of_cell? _ _ h)).trans h
  have nu4 : ∀ {p : Addr} {v : Value}, W1.cell? p = some v → W4.cell? p = some v := fun {p v} h => (hb4.cell (p := p) (World.block_lt_of_cell? _ _ h)).trans h
  have nu6 : ∀ {p : Addr} {v : Value}, W1.cell? p = some v → W6.cell? p = some v := fun {p v} h => (hb6.cell (p := p) (World.block_lt_of_cell? _ _ h)).trans h
  have s2 := nu2 a2
  have s3 := nu4 a3
  have A4 := keep a4
  have A5 := keep a5
  clear hW0 hW1 hz0 hz1 hb0 hb1 g0 g1 hW2 hW4 hW6 p2 p4 p6 x3 x5 r3 r5 q1 q2 q3 q4 h1 h2 h3 h4 z1 z2 nu2 nu4 nu6 hb2 hb4 hb6
  unfold dtV
  go_enter Tryz.func9, Tryz.ntmps9
  go_upto_region 2 with fail
  rw [HW.out, HW2.out]
  clear a0 a1 a2 a3 a4 a5
  go_upto_region 3 with (first | (at_builtin; refine app_list rfl _ _ _ _ rfl _ _ _ rfl rfl R3.out ?_))
  rw [HW4.out]
  go_upto_region 4 with (first | (at_builtin; refine app_list rfl _ _ _ _ rfl _ _ _ rfl rfl R5.out ?_))
  rw [HW6.out]
  clear s2 s3 b0 b1 b2 b3 b4 bf d0 d1 d2 d3 d4 df e0 e1 e2 e3 e4 ef m0 m1 m2 m3 m4 mf
  obtain ⟨B2, hB2⟩ : ∃ B2, w.heap.size + 1 + 1 = B2 := ⟨_, rfl⟩
  have HB2 := keep hB2
  rw [show w.heap.size + 2 = B2 from hB2] at P6
  have hrl : (rkz N S).length = n3 := by rw [rkz_len]; exact H3.out
  have HRL := keep hrl
  have fb := run_frombits
  clear hrl P2 P4 X3 X5 R3 R5 HW2 HW4 HW6
  go_wp2_with fail
  rw [hB2]
  clear hB2
  go_loopw [4] (fun i wr => ∃ k : Nat, k ≤ n3 ∧ i = .int .i64 k ∧ Kept (∃ rv, Pb W1 B2 kd tx (.slice io2 n1 ic2) (.slice po2 n2 pc2) rv I P ((rkz N S).take k) wr)) (fun i _ => n3 - (intOf i).toNat)
  case atStart => exact ⟨0, Nat.zero_le _, rfl, ⟨_, P6.out⟩⟩
  case round =>
    obtain ⟨k, hk, rfl, KP⟩ := hrel
    obtain ⟨rv, hp⟩ := KP.out
    have hbw := hp.2.2.2.2.1
    have nu : ∀ {p : Addr} {v : Value}, W1.cell? p = some v → wr.cell? p = some v := fun {p v} h => (hbw.cell (p := p) (World.block_lt_of_cell? _ _ h)).trans h
    have a4 := nu A4.out
    have a5 := nu A5.out
    have htk : ((rkz N S).take k).length = k := by rw [List.length_take, HRL.out]; omega
    obtain ⟨ro, rc, hrv⟩ := own_sl hp.2.2.2.1
    rw [htk] at hrv
    subst hrv
    by_cases hlt : k < n3
    · have hz : (k : Int) < (n3 : Int) := by omega
      have hz0 : (0 : Int) ≤ (k : Int) := by omega
      have KW : IntKind.i64.wrap ((k : Int) + 1) = ((k + 1 : Nat) : Int) := by rw [IntKind.wrap_i64]; omega
      obtain ⟨x, hx⟩ : ∃ x, N[k]? = some x := ⟨_, List.getElem?_eq_getElem (by rw [H3.out]; exact hlt)⟩
      obtain ⟨a, rfl, hal, hac⟩ := Q3.out k (.string x) (by rw [List.getElem?_map, hx]; rfl)
      have c1 := nu hac
      have HAC := keep hac
      have htm : (rkz N S).take (k + 1) = (rkz N S).take k ++ [(x, S.getD k f15)] := take_more' (rkz_at hx)
      have HTM := keep htm
      have HPB := keep hp
      have HTK := keep htk
      clear hx hac htm hp htk hbw
      by_cases hl4 : k < n4
      · obtain ⟨s, hs⟩ : ∃ s, S[k]? = some s := ⟨_, List.getElem?_eq_getElem (by rw [H4.out]; exact hl4)⟩
        obtain ⟨a', rfl, _, hac'⟩ := Q4.out k (.int .u64 (s : Int)) (by rw [List.getElem?_map, hs]; rfl)
        have c2 := nu hac'
        have hgd : S.getD k f15 = s := by simp [hs]
        have HGD := keep hgd
        have h4z : (k : Int) < (n4 : Int) := by omega
        clear hs hac' hgd nu
        go_upto_region 10 with fail
        have hpd := HPB.out.bel (Below.refl _ wr).drew
        have hba : Below wr.drew.heap.size wr.drew (wr.drew.alloc (.cells #[.string x, .float .f64 s] 73)) := (Below.refl _ _).alloc (Nat.le_refl _) _
        obtain ⟨v1, V3, r3, x3, p4⟩ := (hpd.bel hba).setR (J := [(x, s)]) (so := some ⟨wr.drew.heap.size, 0, none⟩) (m := 1) (c := 1) rfl (in_lit wr.drew #[.string x, .float .f64 s] 73 _ rfl) (fun h => by cases h) (by rw [HTK.out]; omega)
        have R3 := keep r3
        have P4 := keep p4
        have X3 := keep x3
        obtain ⟨e0, e1, e2, e3, e4⟩ := five_cells x3
        have ef := bx_free x3 4
        have rb : wr.cell? ⟨B2, 4, none⟩ = some (.slice ro k rc) := HPB.out.box.1.2.2.2.2
        have HS : Kept (wr.drew.cell? ⟨w.heap.size, 4, none⟩ = some (.slice (some a) n3 k3) ∧ wr.drew.cell? (a.add k) = some (.string x)) := ⟨a4, c1⟩
        have RB : Kept (wr.drew.cell? ⟨B2, 4, none⟩ = some (.slice ro k rc)) := rb
        have HSa : Kept ((wr.drew.alloc (.cells #[.string x, .float .f64 s] 73)).cell? ⟨w.heap.size, 4, none⟩ = some (.slice (some a) n3 k3) ∧ (wr.drew.alloc (.cells #[.string x, .float .f64 s] 73)).cell? (a.add k) = some (.string x)) := ⟨(hba.cell (World.block_lt_of_cell? _ _ HS.out.1)).trans HS.out.1, (hba.cell (World.block_lt_of_cell? _ _ HS.out.2)).trans HS.out.2⟩
        have RBa : Kept ((wr.drew.alloc (.cells #[.string x, .float .f64 s] 73)).cell? ⟨B2, 4, none⟩ = some (.slice ro k rc)) := (hba.cell (World.block_lt_of_cell? _ _ RB.out)).trans RB.out
        have c4W : W1.cell? ⟨w.heap.size, 4, none⟩ = some (.slice (some a) n3 k3) := A4.out
        have hbW3 : Below W1.heap.size W1 (V3.setCell ⟨B2, 4, none⟩ v1) := p4.2.2.2.2.1
        have HS4 : Kept ((V3.setCell ⟨B2, 4, none⟩ v1).cell? ⟨w.heap.size, 4, none⟩ = some (.slice (some a) n3 k3) ∧ (V3.setCell ⟨B2, 4, none⟩ v1).cell? (a.add k) = some (.string x)) := ⟨(hbW3.cell (World.block_lt_of_cell? _ _ c4W)).trans c4W, (hbW3.cell (World.block_lt_of_cell? _ _ HAC.out)).trans HAC.out⟩
        have hneB : w.heap.size ≠ B2 := by have := HB2.out; omega
        have hnea : (a.add k).block ≠ B2 := by have h1 := World.block_lt_of_cell? _ _ HAC.out; have h2 := HZ1.out; have h3 := HB2.out; omega
        have HS3 : Kept (V3.cell? ⟨w.heap.size, 4, none⟩ = some (.slice (some a) n3 k3) ∧ V3.cell? (a.add k) = some (.string x)) := by
          refine ⟨?_, ?_⟩
          · rw [← HS4.out.1]; exact (World.cell?_of_block (a := ⟨w.heap.size, 4, none⟩) (Below.heap_setCell _ _ _ _ hneB)).symm
          · rw [← HS4.out.2]; exact (World.cell?_of_block (a := a.add k) (Below.heap_setCell _ _ _ _ hnea)).symm
        obtain ⟨ro1, rc1, hv1⟩ := own_sl p4.2.2.2.1
        rw [List.length_append, HTK.out] at hv1
        subst hv1
        clear hpd hba r3 x3 p4 rb c1 a4 a5 hbW3 c4W hneB hnea c2
        refine wp_region_held_drew (S := fun W => W.cell? ⟨w.heap.size, 4, none⟩ = some (.slice (some a) n3 k3) ∧ W.cell? (a.add k) = some (.string x)) (by kernel_rfl) HS.out (fun hHeld => ?_)
        refine wpAnyH_take (i := 0) (oi := ⟨some 41, _, _, _, _, _⟩) (v := (.pointer (some ⟨B2, 4, none⟩))) rfl (by kernel_rfl) (by kernel_rfl) (by kernel_rfl) (fun _ _ _ h => h) (Or.inl ⟨by rfl, ?hy1⟩) (by assumption) ?rest1
        case hy1 => (intro w hSw; obtain ⟨p0,p1⟩ := hSw; first | (go_simp; done) | (go_simp; simp [*]; done) | (simp [*]; go_simp; done))
        try simp only [Act.put, List.setIfInBounds_toArray, List.set_cons_zero, List.set_cons_succ]
        refine wpAnyH_take (i := 2) (oi := ⟨some 43, _, _, _, _, _⟩) (v := (.pointer (some ⟨w.heap.size, 4, none⟩))) rfl (by kernel_rfl) (by kernel_rfl) (by kernel_rfl) (fun _ _ _ h => h) (Or.inl ⟨by rfl, ?hy2⟩) (by assumption) ?rest2
        case hy2 => (intro w hSw; obtain ⟨p0,p1⟩ := hSw; first | (go_simp; done) | (go_simp; simp [*]; done) | (simp [*]; go_simp; done))
        try simp only [Act.put, List.setIfInBounds_toArray, List.set_cons_zero, List.set_cons_succ]
        refine wpAnyH_take (i := 3) (oi := ⟨some 44, _, _, _, _, _⟩) (v := (.slice (some a) n3 k3)) rfl (by kernel_rfl) (by kernel_rfl) (by kernel_rfl) (fun _ _ _ h => h) (Or.inl ⟨by rfl, ?hy3⟩) (by assumption) ?rest3
        case hy3 => (intro w hSw; obtain ⟨p0,p1⟩ := hSw; first | (go_simp; done) | (go_simp; simp [*]; done) | (simp [*]; go_simp; done))
        try simp only [Act.put, List.setIfInBounds_toArray, List.set_cons_zero, List.set_cons_succ]
        refine wpAnyH_take (i := 4) (oi := ⟨some 45, _, _, _, _, _⟩) (v := ?v4) rfl (by kernel_rfl) (by kernel_rfl) (by kernel_rfl) (fun _ _ _ h => h) (Or.inl ⟨by rfl, ?hy4⟩) (by assumption) ?rest4
        case hy4 => (intro w hSw; obtain ⟨p0,p1⟩ := hSw; go_simp; try with_reducible rfl)
        try simp only [Act.put, List.setIfInBounds_toArray, List.set_cons_zero, List.set_cons_succ]
        refine wpAnyH_take (i := 5) (oi := ⟨some 46, _, _, _, _, _⟩) (v := (.pointer (some (a.add k)))) rfl (by kernel_rfl) (by kernel_rfl) (by kernel_rfl) (fun _ _ _ h => h) (Or.inl ⟨by rfl, ?hy5⟩) (by assumption) ?rest5
        case hy5 => (intro w hSw; obtain ⟨p0,p1⟩ := hSw; first | (go_simp; done) | (go_simp; simp [*]; done) | (simp [*]; go_simp; done))
        try simp only [Act.put, List.setIfInBounds_toArray, List.set_cons_zero, List.set_cons_succ]
        refine wpAnyH_take (i := 6) (oi := ⟨some 47, _, _, _, _, _⟩) (v := (.string x)) rfl (by kernel_rfl) (by kernel_rfl) (by kernel_rfl) (fun _ _ _ h => h) (Or.inl ⟨by rfl, ?hy6⟩) (by assumption) ?rest6
        case hy6 => (intro w hSw; obtain ⟨p0,p1⟩ := hSw; first | (go_simp; done) | (go_simp; simp [*]; done) | (simp [*]; go_simp; done))
        try simp only [Act.put, List.setIfInBounds_toArray, List.set_cons_zero, List.set_cons_succ]
        refine wpAnyH_take (i := 7) (oi := ⟨some 48, _, _, _, _, _⟩) (v := (.float .f64 s)) rfl (by kernel_rfl) (by kernel_rfl) (by kernel_rfl) (fun _ _ _ h => h) (Or.inl ⟨by rfl, ?hy7⟩) (by assumption) ?rest7
        case hy7 => (intro w hSw; obtain ⟨p0,p1⟩ := hSw; first | (go_simp; done) | (go_simp; simp [*]; done) | (simp [*]; go_simp; done))
        try simp only [Act.put, List.setIfInBounds_toArray, List.set_cons_zero, List.set_cons_succ]
        refine wpAnyH_take (i := 8) (oi := ⟨some 49, _, _, _, _, _⟩) (v := (.agg #[.string x, .float .f64 s])) rfl (by kernel_rfl) (by kernel_rfl) (by kernel_rfl) (fun _ _ _ h => h) (Or.inl ⟨by rfl, ?hy8⟩) (by assumption) ?rest8
        case hy8 => (intro w hSw; obtain ⟨p0,p1⟩ := hSw; first | (go_simp; done) | (go_simp; simp [*]; done) | (simp [*]; go_simp; done))
        try simp only [Act.put, List.setIfInBounds_toArray, List.set_cons_zero, List.set_cons_succ]
        refine wpAnyH_ready (rs := [1, 9]) (by kernel_rfl) (by simp) ?_
        refine AllReadyH.cons (o := ⟨some 42, _, _, _, _, _⟩) rfl (fun K hK => ?_) (AllReadyH.cons (o := ⟨some 50, _, _, _, _, _⟩) rfl (fun K hK => ?_) AllReadyH.nil)
        · have rb : wr.drew.cell? ⟨B2, 4, none⟩ = some (.slice ro k rc) := RB.out
          go_simp
          refine hK.out _ _ HS.out (fun hHeld => ?_)
          try simp only [Act.put, List.setIfInBounds_toArray, List.set_cons_zero, List.set_cons_succ]
          clear hK rb
          refine wpAnyH_ready (rs := [9]) (by kernel_rfl) (by simp) ?_
          refine AllReadyH.cons (o := ⟨some 50, _, _, _, _, _⟩) rfl (fun K hK => ?_) AllReadyH.nil
          go_simp
          refine hK.out _ _ HSa.out (fun hHeld => ?_)
          try simp only [Act.put, List.setIfInBounds_toArray, List.set_cons_zero, List.set_cons_succ]
          clear hK
          refine wpAnyH_ready (rs := [10]) (by kernel_rfl) (by simp) ?_
          refine AllReadyH.cons (o := ⟨some 51, _, _, _, _, _⟩) rfl (fun K hK => ?_) AllReadyH.nil
          rw [if_pos (by rfl)]
          refine app_one (.tmp 42) (.tmp 50) 28 rfl _ _ _ rfl rfl R3.out ?_
          refine hK.out _ _ HS3.out (fun hHeld => ?_)
          try simp only [Act.put, List.setIfInBounds_toArray, List.set_cons_zero, List.set_cons_succ]
          clear hK
          refine wpAnyH_take (i := 11) (oi := ⟨some 52, _, _, _, _, _⟩) (v := (.pointer (some ⟨B2, 4, none⟩))) rfl (by kernel_rfl) (by kernel_rfl) (by kernel_rfl) (fun _ _ _ h => h) (Or.inl ⟨by rfl, ?hy9⟩) (by assumption) ?rest9
          case hy9 => (intro w hSw; first | (go_simp; done) | (go_simp; simp [*]; done) | (simp [*]; go_simp; done))
          try simp only [Act.put, List.setIfInBounds_toArray, List.set_cons_zero, List.set_cons_succ]
          refine wpAnyH_ready (rs := [12]) (by kernel_rfl) (by simp) ?_
          refine AllReadyH.cons (o := ⟨none, _, _, _, _, _⟩) rfl (fun K hK => ?_) AllReadyH.nil
          go_simp
          refine hK.out _ _ HS4.out (fun hHeld => ?_)
          try simp only [Act.put, List.setIfInBounds_toArray, List.set_cons_zero, List.set_cons_succ]
          clear hK
          refine wpAnyH_done (by kernel_rfl) ?_ _
          clear hHeld e0 e1 e2 e3 e4 ef
          go_wp2
          go_roundw
          case measure => simp [intOf]; omega
          case rel => exact ⟨k + 1, by omega, by go_num, ⟨_, by rw [HTM.out, HGD.out]; exact P4.out⟩⟩
        · go_simp
          refine hK.out _ _ HSa.out (fun hHeld => ?_)
          try simp only [Act.put, List.setIfInBounds_toArray, List.set_cons_zero, List.set_cons_succ]
          clear hK
          have rb : (wr.alloc (.cells #[.string x, .float .f64 s] 73)).cell? ⟨B2, 4, none⟩ = some (.slice ro k rc) := RBa.out
          refine wpAnyH_ready (rs := [1]) (by kernel_rfl) (by simp) ?_
          refine AllReadyH.cons (o := ⟨some 42, _, _, _, _, _⟩) rfl (fun K hK => ?_) AllReadyH.nil
          go_simp
          refine hK.out _ _ HSa.out (fun hHeld => ?_)
          try simp only [Act.put, List.setIfInBounds_toArray, List.set_cons_zero, List.set_cons_succ]
          clear hK rb
          refine wpAnyH_ready (rs := [10]) (by kernel_rfl) (by simp) ?_
          refine AllReadyH.cons (o := ⟨some 51, _, _, _, _, _⟩) rfl (fun K hK => ?_) AllReadyH.nil
          rw [if_pos (by rfl)]
          refine app_one (.tmp 42) (.tmp 50) 28 rfl _ _ _ rfl rfl R3.out ?_
          refine hK.out _ _ HS3.out (fun hHeld => ?_)
          try simp only [Act.put, List.setIfInBounds_toArray, List.set_cons_zero, List.set_cons_succ]
          clear hK
          refine wpAnyH_take (i := 11) (oi := ⟨some 52, _, _, _, _, _⟩) (v := (.pointer (some ⟨B2, 4, none⟩))) rfl (by kernel_rfl) (by kernel_rfl) (by kernel_rfl) (fun _ _ _ h => h) (Or.inl ⟨by rfl, ?hy10⟩) (by assumption) ?rest10
          case hy10 => (intro w hSw; first | (go_simp; done) | (go_simp; simp [*]; done) | (simp [*]; go_simp; done))
          try simp only [Act.put, List.setIfInBounds_toArray, List.set_cons_zero, List.set_cons_succ]
          refine wpAnyH_ready (rs := [12]) (by kernel_rfl) (by simp) ?_
          refine AllReadyH.cons (o := ⟨none, _, _, _, _, _⟩) rfl (fun K hK => ?_) AllReadyH.nil
          go_simp
          refine hK.out _ _ HS4.out (fun hHeld => ?_)
          try simp only [Act.put, List.setIfInBounds_toArray, List.set_cons_zero, List.set_cons_succ]
          clear hK
          refine wpAnyH_done (by kernel_rfl) ?_ _
          clear hHeld e0 e1 e2 e3 e4 ef
          go_wp2
          go_roundw
          case measure => simp [intOf]; omega
          case rel => exact ⟨k + 1, by omega, by go_num, ⟨_, by rw [HTM.out, HGD.out]; exact P4.out⟩⟩
      · have hgd : S.getD k f15 = f15 := by
          rw [List.getD_eq_getElem?_getD, List.getElem?_eq_none (by rw [H4.out]; omega)]; rfl
        have h4z : ¬ (k : Int) < (n4 : Int) := by omega
        have HGD := keep hgd
        clear nu hgd
        go_upto_region 10 with fail
        have hpd := HPB.out.bel (Below.refl _ wr).drew
        have hba : Below wr.drew.heap.size wr.drew (wr.drew.alloc (.cells #[.string x, .float .f64 4609434218613702656] 73)) := (Below.refl _ _).alloc (Nat.le_refl _) _
        obtain ⟨v1, V3, r3, x3, p4⟩ := (hpd.bel hba).setR (J := [(x, 4609434218613702656)]) (so := some ⟨wr.drew.heap.size, 0, none⟩) (m := 1) (c := 1) rfl (in_lit wr.drew #[.string x, .float .f64 4609434218613702656] 73 _ rfl) (fun h => by cases h) (by rw [HTK.out]; omega)
        have R3 := keep r3
        have P4 := keep p4
        have X3 := keep x3
        obtain ⟨e0, e1, e2, e3, e4⟩ := five_cells x3
        have ef := bx_free x3 4
        have rb : wr.cell? ⟨B2, 4, none⟩ = some (.slice ro k rc) := HPB.out.box.1.2.2.2.2
        have HS : Kept (wr.drew.cell? ⟨w.heap.size, 4, none⟩ = some (.slice (some a) n3 k3) ∧ wr.drew.cell? (a.add k) = some (.string x)) := ⟨a4, c1⟩
        have RB : Kept (wr.drew.cell? ⟨B2, 4, none⟩ = some (.slice ro k rc)) := rb
        have HSa : Kept ((wr.drew.alloc (.cells #[.string x, .float .f64 4609434218613702656] 73)).cell? ⟨w.heap.size, 4, none⟩ = some (.slice (some a) n3 k3) ∧ (wr.drew.alloc (.cells #[.string x, .float .f64 4609434218613702656] 73)).cell? (a.add k) = some (.string x)) := ⟨(hba.cell (World.block_lt_of_cell? _ _ HS.out.1)).trans HS.out.1, (hba.cell (World.block_lt_of_cell? _ _ HS.out.2)).trans HS.out.2⟩
        have RBa : Kept ((wr.drew.alloc (.cells #[.string x, .float .f64 4609434218613702656] 73)).cell? ⟨B2, 4, none⟩ = some (.slice ro k rc)) := (hba.cell (World.block_lt_of_cell? _ _ RB.out)).trans RB.out
        have c4W : W1.cell? ⟨w.heap.size, 4, none⟩ = some (.slice (some a) n3 k3) := A4.out
        have hbW3 : Below W1.heap.size W1 (V3.setCell ⟨B2, 4, none⟩ v1) := p4.2.2.2.2.1
        have HS4 : Kept ((V3.setCell ⟨B2, 4, none⟩ v1).cell? ⟨w.heap.size, 4, none⟩ = some (.slice (some a) n3 k3) ∧ (V3.setCell ⟨B2, 4, none⟩ v1).cell? (a.add k) = some (.string x)) := ⟨(hbW3.cell (World.block_lt_of_cell? _ _ c4W)).trans c4W, (hbW3.cell (World.block_lt_of_cell? _ _ HAC.out)).trans HAC.out⟩
        have hneB : w.heap.size ≠ B2 := by have := HB2.out; omega
        have hnea : (a.add k).block ≠ B2 := by have h1 := World.block_lt_of_cell? _ _ HAC.out; have h2 := HZ1.out; have h3 := HB2.out; omega
        have HS3 : Kept (V3.cell? ⟨w.heap.size, 4, none⟩ = some (.slice (some a) n3 k3) ∧ V3.cell? (a.add k) = some (.string x)) := by
          refine ⟨?_, ?_⟩
          · rw [← HS4.out.1]; exact (World.cell?_of_block (a := ⟨w.heap.size, 4, none⟩) (Below.heap_setCell _ _ _ _ hneB)).symm
          · rw [← HS4.out.2]; exact (World.cell?_of_block (a := a.add k) (Below.heap_setCell _ _ _ _ hnea)).symm
        obtain ⟨ro1, rc1, hv1⟩ := own_sl p4.2.2.2.1
        rw [List.length_append, HTK.out] at hv1
        subst hv1
        clear hpd hba r3 x3 p4 rb c1 a4 a5 hbW3 c4W hneB hnea
        refine wp_region_held_drew (S := fun W => W.cell? ⟨w.heap.size, 4, none⟩ = some (.slice (some a) n3 k3) ∧ W.cell? (a.add k) = some (.string x)) (by kernel_rfl) HS.out (fun hHeld => ?_)
        refine wpAnyH_take (i := 0) (oi := ⟨some 41, _, _, _, _, _⟩) (v := (.pointer (some ⟨B2, 4, none⟩))) rfl (by kernel_rfl) (by kernel_rfl) (by kernel_rfl) (fun _ _ _ h => h) (Or.inl ⟨by rfl, ?hy11⟩) (by assumption) ?rest11
        case hy11 => (intro w hSw; obtain ⟨p0,p1⟩ := hSw; first | (go_simp; done) | (go_simp; simp [*]; done) | (simp [*]; go_simp; done))
        try simp only [Act.put, List.setIfInBounds_toArray, List.set_cons_zero, List.set_cons_succ]
        refine wpAnyH_take (i := 2) (oi := ⟨some 43, _, _, _, _, _⟩) (v := (.pointer (some ⟨w.heap.size, 4, none⟩))) rfl (by kernel_rfl) (by kernel_rfl) (by kernel_rfl) (fun _ _ _ h => h) (Or.inl ⟨by rfl, ?hy12⟩) (by assumption) ?rest12
        case hy12 => (intro w hSw; obtain ⟨p0,p1⟩ := hSw; first | (go_simp; done) | (go_simp; simp [*]; done) | (simp [*]; go_simp; done))
        try simp only [Act.put, List.setIfInBounds_toArray, List.set_cons_zero, List.set_cons_succ]
        refine wpAnyH_take (i := 3) (oi := ⟨some 44, _, _, _, _, _⟩) (v := (.slice (some a) n3 k3)) rfl (by kernel_rfl) (by kernel_rfl) (by kernel_rfl) (fun _ _ _ h => h) (Or.inl ⟨by rfl, ?hy13⟩) (by assumption) ?rest13
        case hy13 => (intro w hSw; obtain ⟨p0,p1⟩ := hSw; first | (go_simp; done) | (go_simp; simp [*]; done) | (simp [*]; go_simp; done))
        try simp only [Act.put, List.setIfInBounds_toArray, List.set_cons_zero, List.set_cons_succ]
        refine wpAnyH_take (i := 4) (oi := ⟨some 45, _, _, _, _, _⟩) (v := ?v14) rfl (by kernel_rfl) (by kernel_rfl) (by kernel_rfl) (fun _ _ _ h => h) (Or.inl ⟨by rfl, ?hy14⟩) (by assumption) ?rest14
        case hy14 => (intro w hSw; obtain ⟨p0,p1⟩ := hSw; go_simp; try with_reducible rfl)
        try simp only [Act.put, List.setIfInBounds_toArray, List.set_cons_zero, List.set_cons_succ]
        refine wpAnyH_take (i := 5) (oi := ⟨some 46, _, _, _, _, _⟩) (v := (.pointer (some (a.add k)))) rfl (by kernel_rfl) (by kernel_rfl) (by kernel_rfl) (fun _ _ _ h => h) (Or.inl ⟨by rfl, ?hy15⟩) (by assumption) ?rest15
        case hy15 => (intro w hSw; obtain ⟨p0,p1⟩ := hSw; first | (go_simp; done) | (go_simp; simp [*]; done) | (simp [*]; go_simp; done))
        try simp only [Act.put, List.setIfInBounds_toArray, List.set_cons_zero, List.set_cons_succ]
        refine wpAnyH_take (i := 6) (oi := ⟨some 47, _, _, _, _, _⟩) (v := (.string x)) rfl (by kernel_rfl) (by kernel_rfl) (by kernel_rfl) (fun _ _ _ h => h) (Or.inl ⟨by rfl, ?hy16⟩) (by assumption) ?rest16
        case hy16 => (intro w hSw; obtain ⟨p0,p1⟩ := hSw; first | (go_simp; done) | (go_simp; simp [*]; done) | (simp [*]; go_simp; done))
        try simp only [Act.put, List.setIfInBounds_toArray, List.set_cons_zero, List.set_cons_succ]
        refine wpAnyH_take (i := 7) (oi := ⟨some 48, _, _, _, _, _⟩) (v := (.float .f64 4609434218613702656)) rfl (by kernel_rfl) (by kernel_rfl) (by kernel_rfl) (fun _ _ _ h => h) (Or.inl ⟨by rfl, ?hy17⟩) (by assumption) ?rest17
        case hy17 => (intro w hSw; obtain ⟨p0,p1⟩ := hSw; first | (go_simp; done) | (go_simp; simp [*]; done) | (simp [*]; go_simp; done))
        try simp only [Act.put, List.setIfInBounds_toArray, List.set_cons_zero, List.set_cons_succ]
        refine wpAnyH_take (i := 8) (oi := ⟨some 49, _, _, _, _, _⟩) (v := (.agg #[.string x, .float .f64 4609434218613702656])) rfl (by kernel_rfl) (by kernel_rfl) (by kernel_rfl) (fun _ _ _ h => h) (Or.inl ⟨by rfl, ?hy18⟩) (by assumption) ?rest18
        case hy18 => (intro w hSw; obtain ⟨p0,p1⟩ := hSw; first | (go_simp; done) | (go_simp; simp [*]; done) | (simp [*]; go_simp; done))
        try simp only [Act.put, List.setIfInBounds_toArray, List.set_cons_zero, List.set_cons_succ]
        refine wpAnyH_ready (rs := [1, 9]) (by kernel_rfl) (by simp) ?_
        refine AllReadyH.cons (o := ⟨some 42, _, _, _, _, _⟩) rfl (fun K hK => ?_) (AllReadyH.cons (o := ⟨some 50, _, _, _, _, _⟩) rfl (fun K hK => ?_) AllReadyH.nil)
        · have rb : wr.drew.cell? ⟨B2, 4, none⟩ = some (.slice ro k rc) := RB.out
          go_simp
          refine hK.out _ _ HS.out (fun hHeld => ?_)
          try simp only [Act.put, List.setIfInBounds_toArray, List.set_cons_zero, List.set_cons_succ]
          clear hK rb
          refine wpAnyH_ready (rs := [9]) (by kernel_rfl) (by simp) ?_
          refine AllReadyH.cons (o := ⟨some 50, _, _, _, _, _⟩) rfl (fun K hK => ?_) AllReadyH.nil
          go_simp
          refine hK.out _ _ HSa.out (fun hHeld => ?_)
          try simp only [Act.put, List.setIfInBounds_toArray, List.set_cons_zero, List.set_cons_succ]
          clear hK
          refine wpAnyH_ready (rs := [10]) (by kernel_rfl) (by simp) ?_
          refine AllReadyH.cons (o := ⟨some 51, _, _, _, _, _⟩) rfl (fun K hK => ?_) AllReadyH.nil
          rw [if_pos (by rfl)]
          refine app_one (.tmp 42) (.tmp 50) 28 rfl _ _ _ rfl rfl R3.out ?_
          refine hK.out _ _ HS3.out (fun hHeld => ?_)
          try simp only [Act.put, List.setIfInBounds_toArray, List.set_cons_zero, List.set_cons_succ]
          clear hK
          refine wpAnyH_take (i := 11) (oi := ⟨some 52, _, _, _, _, _⟩) (v := (.pointer (some ⟨B2, 4, none⟩))) rfl (by kernel_rfl) (by kernel_rfl) (by kernel_rfl) (fun _ _ _ h => h) (Or.inl ⟨by rfl, ?hy19⟩) (by assumption) ?rest19
          case hy19 => (intro w hSw; first | (go_simp; done) | (go_simp; simp [*]; done) | (simp [*]; go_simp; done))
          try simp only [Act.put, List.setIfInBounds_toArray, List.set_cons_zero, List.set_cons_succ]
          refine wpAnyH_ready (rs := [12]) (by kernel_rfl) (by simp) ?_
          refine AllReadyH.cons (o := ⟨none, _, _, _, _, _⟩) rfl (fun K hK => ?_) AllReadyH.nil
          go_simp
          refine hK.out _ _ HS4.out (fun hHeld => ?_)
          try simp only [Act.put, List.setIfInBounds_toArray, List.set_cons_zero, List.set_cons_succ]
          clear hK
          refine wpAnyH_done (by kernel_rfl) ?_ _
          clear hHeld e0 e1 e2 e3 e4 ef
          go_wp2
          go_roundw
          case measure => simp [intOf]; omega
          case rel => exact ⟨k + 1, by omega, by go_num, ⟨_, by rw [HTM.out, HGD.out]; exact P4.out⟩⟩
        · go_simp
          refine hK.out _ _ HSa.out (fun hHeld => ?_)
          try simp only [Act.put, List.setIfInBounds_toArray, List.set_cons_zero, List.set_cons_succ]
          clear hK
          have rb : (wr.alloc (.cells #[.string x, .float .f64 4609434218613702656] 73)).cell? ⟨B2, 4, none⟩ = some (.slice ro k rc) := RBa.out
          refine wpAnyH_ready (rs := [1]) (by kernel_rfl) (by simp) ?_
          refine AllReadyH.cons (o := ⟨some 42, _, _, _, _, _⟩) rfl (fun K hK => ?_) AllReadyH.nil
          go_simp
          refine hK.out _ _ HSa.out (fun hHeld => ?_)
          try simp only [Act.put, List.setIfInBounds_toArray, List.set_cons_zero, List.set_cons_succ]
          clear hK rb
          refine wpAnyH_ready (rs := [10]) (by kernel_rfl) (by simp) ?_
          refine AllReadyH.cons (o := ⟨some 51, _, _, _, _, _⟩) rfl (fun K hK => ?_) AllReadyH.nil
          rw [if_pos (by rfl)]
          refine app_one (.tmp 42) (.tmp 50) 28 rfl _ _ _ rfl rfl R3.out ?_
          refine hK.out _ _ HS3.out (fun hHeld => ?_)
          try simp only [Act.put, List.setIfInBounds_toArray, List.set_cons_zero, List.set_cons_succ]
          clear hK
          refine wpAnyH_take (i := 11) (oi := ⟨some 52, _, _, _, _, _⟩) (v := (.pointer (some ⟨B2, 4, none⟩))) rfl (by kernel_rfl) (by kernel_rfl) (by kernel_rfl) (fun _ _ _ h => h) (Or.inl ⟨by rfl, ?hy20⟩) (by assumption) ?rest20
          case hy20 => (intro w hSw; first | (go_simp; done) | (go_simp; simp [*]; done) | (simp [*]; go_simp; done))
          try simp only [Act.put, List.setIfInBounds_toArray, List.set_cons_zero, List.set_cons_succ]
          refine wpAnyH_ready (rs := [12]) (by kernel_rfl) (by simp) ?_
          refine AllReadyH.cons (o := ⟨none, _, _, _, _, _⟩) rfl (fun K hK => ?_) AllReadyH.nil
          go_simp
          refine hK.out _ _ HS4.out (fun hHeld => ?_)
          try simp only [Act.put, List.setIfInBounds_toArray, List.set_cons_zero, List.set_cons_succ]
          clear hK
          refine wpAnyH_done (by kernel_rfl) ?_ _
          clear hHeld e0 e1 e2 e3 e4 ef
          go_wp2
          go_roundw
          case measure => simp [intOf]; omega
          case rel => exact ⟨k + 1, by omega, by go_num, ⟨_, by rw [HTM.out, HGD.out]; exact P4.out⟩⟩
    · have hz : ¬ (k : Int) < (n3 : Int) := by omega
      have hp1 : Pb W1 B2 kd tx (.slice io2 n1 ic2) (.slice po2 n2 pc2) (.slice ro k rc) I P (rkz N S) wr := by rwa [List.take_of_length_le (by rw [HRL.out]; omega)] at hp
      have g1 : wr.heap[w.heap.size + 1]? = some (.cells #[.int .i64 0, .string { data := #[] }, .slice none 0 0, .slice none 0 0, .slice none 0 0] 30 (0, 0)) := (hbw.block _ (by have := HZ1.out; omega)).trans G1.out
      obtain ⟨z0, z1, z2, z3, z4⟩ := five_cells g1
      have zf : ∀ i, wr.frozen? ⟨w.heap.size + 1, i, none⟩ = false := fun i => by simp [World.frozen?, g1]
      have y0 := zf 0
      have y1 := zf 1
      have y2 := zf 2
      have y3 := zf 3
      have y4 := zf 4
      obtain ⟨⟨e0, e1, e2, e3, e4⟩, _⟩ := hp1.box
      have hne : B2 ≠ w.heap.size + 1 := by have := HB2.out; omega
      have HP1 := keep hp1
      have GG1 := keep g1
      have HBW := keep hbw
      have HNE := keep hne
      clear hp hp1 g1 zf hbw htk nu KP hne
      go_wp2
      have HX := over (v0 := .int .i64 kd) (v1 := .string tx) (v2 := .slice io2 n1 ic2) (v3 := .slice po2 n2 pc2) (v4 := .slice ro k rc) GG1.out
      have HY := over_same wr (w.heap.size + 1) (.int .i64 kd) (.string tx) (.slice io2 n1 ic2) (.slice po2 n2 pc2) (.slice ro k rc)
      have HZ := over_belowB' (B := w.heap.size + 1) (HB1.out.trans (HBW.out.mono HB1.out.size)) (by omega) (.int .i64 kd) (.string tx) (.slice io2 n1 ic2) (.slice po2 n2 pc2) (.slice ro k rc)
      generalize ((((wr.setCell ⟨w.heap.size + 1, 0, none⟩ (.int .i64 kd)).setCell ⟨w.heap.size + 1, 1, none⟩ (.string tx)).setCell ⟨w.heap.size + 1, 2, none⟩ (.slice io2 n1 ic2)).setCell ⟨w.heap.size + 1, 3, none⟩ (.slice po2 n2 pc2)).setCell ⟨w.heap.size + 1, 4, none⟩ (.slice ro k rc) = W9 at HX HY HZ ⊢
      obtain ⟨k0, k1, k2, k3, k4⟩ := five_cells HX
      have hr := HP1.out
      have hle : w.heap.size ≤ W1.heap.size := HB1.out.size
      refine bodyPost_ret (v := plV ⟨kd, tx, I, P, rkz N S⟩ (.slice io2 n1 ic2) (.slice po2 n2 pc2) (.slice ro k rc)) (by unfold plV; simp [results, Tryz.results9, go_sem, k0, k1, k2, k3, k4]) rfl ⟨⟨_, rfl, ⟨_, _, _, rfl, ?_, ?_, ?_⟩⟩, HZ⟩
      · exact kept_but (baseLe hr.2.1 hle) HY (own_ne (base0 hr.2.1) GG1.out (by decide))
      · exact kept_but (baseLe hr.2.2.1 hle) HY (own_ne (base0 hr.2.2.1) GG1.out (by decide))
      · exact kept_but (baseLe hr.2.2.2.1 hle) HY (own_ne (base0 hr.2.2.2.1) GG1.out (by decide))
end Vl
end Go.Proofs.YtmgeaanbgjbkcaaGreat
