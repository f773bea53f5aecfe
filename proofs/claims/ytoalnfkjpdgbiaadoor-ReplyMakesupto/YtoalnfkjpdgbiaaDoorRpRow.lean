/-
  Rows of one's own in the memory, whatever is appended: laws of no program; and rows of bytes.
-/
import Derived.Test.YtoalnfkjpdgbiaaDoorProg
import Derived.Test.YtoalnfkjpdgbiaaDoorRpMath
import Derived.WalkKit
import Derived.OpenShut
import Derived.Outline
import Derived.WalkLawsBesides
import Derived.Below
import Derived.OwnWalk
import Derived.Laws.AppendOwn
import Derived.Deep.AppendSrc
import Derived.Deep.AppendLies
import Derived.Deep.Heap
import Derived.Laws.CopyOwn
import Derived.Lib.SliceRun
import Derived.Laws.IdiomStrings
namespace Go.Proofs.YtoalnfkjpdgbiaaDoor
open Go.RowKit
set_option linter.unusedVariables false
theorem own_kept {w w' : World} {B e s : Nat} {v : Value} {n : Nat} {xs : List Value} (h : w.ownsRow B e s v n xs) (hk : ∀ k, v.ownBlock = some k → w'.heap[k]? = w.heap[k]?) : w'.ownsRow B e s v n xs := by
  refine ⟨h.1, ?_⟩
  rcases h.2 with hn | ⟨g, cap, cur, rfl, hb, hgg, rest⟩
  · exact .inl hn
  · exact .inr ⟨g, cap, cur, rfl, hb, by rw [hk g rfl]; exact hgg, rest⟩
theorem own_lt {w : World} {B e s : Nat} {v : Value} {n : Nat} {xs : List Value} (h : w.ownsRow B e s v n xs) {k : Nat} (hk : v.ownBlock = some k) : k < w.heap.size := (h.lt k hk).2
theorem own_low {w : World} {B B' e s : Nat} {v : Value} {n : Nat} {xs : List Value} (h : w.ownsRow B e s v n xs) (hB : B' ≤ B) : w.ownsRow B' e s v n xs := by
  refine ⟨h.1, ?_⟩
  rcases h.2 with hn | ⟨g, cap, cur, rfl, hb, rest⟩
  · exact .inl hn
  · exact .inr ⟨g, cap, cur, rfl, Nat.le_trans hB hb, rest⟩
theorem add_at (g o j : Nat) : (⟨g, o, none⟩ : Addr).add j = ⟨g, o + j, none⟩ := by unfold Addr.add; split <;> simp_all
theorem Srcs.drew {P : Program} {size : Nat} {tx : TypeId} {x : Value} {m : Nat} {news : List Value} {w : World} (h : Src P size tx x m news w) : (Builtin.firstCells size m x).run P w.drew = .ok news.toArray w.drew := h.cellsD
/-- a block of cells that may be written -/
def Lv (w : World) (b : Nat) : Prop := ∃ c t, w.heap[b]? = some (.cells c t (0, 0))
/-- append to a row of one's own, of whatever is appended -/
theorem app_gen {P : Program} (w : World) (B t tx ty e : Nat) (i : TypeInfo) (z : Value) (size bytes : Nat) (ht : P.underlying t = some (.slice e)) (hi : P.info? e = some i) (hz : i.zero = some z)
    (hsize : i.size = size) (hby : i.bytes = bytes) (hzs : z.cells.size = size) (hsz : 0 < size) (v : Value) (n : Nat) (xs : List Value) (hown : w.ownsRow B e size v n xs)
    (x : Value) (m : Nat) (news : List Value) (hs : Src P size tx x m news w) (h63 : n + m ≤ maxLen) (hbytes : (n + m) * bytes ≤ 140737488355328) (hbase : B ≤ w.heap.size) :
    ∃ v' w', (Builtin.append_ #[t, tx] ty #[v, x]).run P w = .ok v' w' ∧ w'.ownsRow B e size v' (n + m) (xs ++ news) ∧ w.grownBy w' v.ownBlock ∧ (v'.ownBlock = v.ownBlock ∨ v'.ownBlock = some w.heap.size) ∧ ∀ b, Lv w b → Lv w' b := by
  subst hsize
  subst hby
  have hl : (xs ++ news).length = (n + m) * i.size := by rw [List.length_append, hown.1, hs.newsLen, Nat.add_mul]
  have h63' : ((n + m : Nat) : Int) ≤ 9223372036854775807 := by unfold maxLen at h63; omega
  have grown : ∀ (old : Nat), old < n + m → ∀ (row : Option Nat),
      (w.drew.alloc (.cells ((xs ++ news).toArray ++ Builtin.zeroCells z.cells (grownCap w (n + m) old e - (n + m))) e)).ownsRow B e i.size
        (.slice (some ⟨w.heap.size, 0, none⟩) (n + m) (grownCap w (n + m) old e)) (n + m) (xs ++ news) ∧
      w.grownBy (w.drew.alloc (.cells ((xs ++ news).toArray ++ Builtin.zeroCells z.cells (grownCap w (n + m) old e - (n + m))) e)) row := by
    intro old ho row
    have hge := grownCap_ge w (n + m) old e
    refine ⟨⟨hl, .inr ⟨w.heap.size, _, _, rfl, hbase, heap_alloc_new w.drew _, hge, grownCap_le_maxLen w (n + m) old e h63, ?_, ?_⟩⟩, ⟨rfl, rfl, rfl, by simp, fun k hk _ => Below.heap_alloc w.drew _ k hk⟩⟩
    · rw [Array.size_append, List.size_toArray, size_zeroCells, hzs, hl, ← Nat.add_mul]
      congr 1
      omega
    · rw [Array.toList_append, ← hl]
      exact List.take_left
  have lvd : ∀ (o : Obj) b, Lv w b → Lv (w.drew.alloc o) b := fun o b ⟨cc, t, hb⟩ => ⟨cc, t, (Below.heap_alloc w.drew o b (Array.getElem?_eq_some_iff.1 hb).1).trans hb⟩
  have fit : ∀ old, old < n + m → Builtin.nextslicecap (n + m) old * i.bytes ≤ 281474976710656 := fun old ho => by
    have h1 := nextslicecap_le (need := n + m) (old := old) (by omega)
    have h2 : Builtin.nextslicecap (n + m) old * i.bytes ≤ 2 * (n + m) * i.bytes := Nat.mul_le_mul_right _ (by omega)
    have h3 : 2 * (n + m) * i.bytes = 2 * ((n + m) * i.bytes) := Nat.mul_assoc _ _ _
    omega
  rcases hown.2 with ⟨rfl, rfl⟩ | ⟨g, cap, cur, rfl, hb, hg, q1, q2, q3, q4⟩
  · obtain rfl : xs = [] := List.length_eq_zero_iff.1 (by rw [hown.1]; omega)
    cases m with
    | zero =>
      have hn0 : news = [] := List.length_eq_zero_iff.1 (by rw [hs.newsLen]; omega)
      subst hn0
      have hlen := hs.len
      have hcel := hs.cells
      refine ⟨.slice none 0 0, w, ?_, World.ownsRow_nil _ _ _ _, ⟨rfl, rfl, rfl, Nat.le_refl _, fun _ _ _ => rfl⟩, .inl rfl, fun _ h => h⟩
      rcases hs.kind with ⟨e', hk⟩ | hk <;> simp [Builtin.append_, run_underlying ht, run_underlying hk, sizeOf, typeInfo, hi, hlen, hcel]
    | succ m =>
      obtain ⟨g1, g2⟩ := grown 0 (by omega) (Value.ownBlock (.slice none 0 0))
      refine ⟨_, _, run_append_grow_src w t tx ty e i z ht hi hz none 0 0 [] (run_firstCells_none w.drew i.size 0 0 0) x (m + 1) news hs (by omega) h63' (fit 0 (by omega)), g1, g2, .inr rfl, lvd _⟩
  · by_cases hr : n + m ≤ cap
    · have hlen := hs.len
      have hcel := hs.cells
      have hst := run_storeCells_at P g (n * i.size) e news 0 cur w hg (by rw [hs.newsLen, q3, Nat.add_zero, ← Nat.add_mul]; exact Nat.mul_le_mul_right _ hr) hs.one
      simp only [Nat.add_zero] at hst
      have hst' : (storeCells ((⟨g, 0, none⟩ : Addr).add (n * i.size)) news).run P w = .ok () (w.setRow g (cur.toList.take (n * i.size) ++ news ++ cur.toList.drop (n * i.size + news.length)).toArray) := by
        rw [add_at, Nat.zero_add]; exact hst
      have hgrow : w.grownBy (w.setRow g (cur.toList.take (n * i.size) ++ news ++ cur.toList.drop (n * i.size + news.length)).toArray) (some g) :=
        ⟨rfl, rfl, rfl, by simp, fun k _ hk => setRow_other w g k _ (fun e => hk (congrArg some e))⟩
      refine ⟨.slice (some ⟨g, 0, none⟩) (n + m) cap, _, ?_, ?_, hgrow, .inl rfl, fun b hb => ?_⟩
      · rcases hs.kind with ⟨e', hk⟩ | hk <;> simp [Builtin.append_, run_underlying ht, run_underlying hk, sizeOf, typeInfo, hi, hlen, hr, hcel, hst']
      · refine ⟨hl, .inr ⟨g, cap, _, rfl, hb, setRow_heap w g cur _ e (0, 0) hg, hr, q2, ?_, ?_⟩⟩
        · have hcl : cur.toList.length = cap * i.size := by rw [Array.length_toList]; exact q3
          have h2 : n * i.size + news.length ≤ cap * i.size := by rw [hs.newsLen, ← Nat.add_mul]; exact Nat.mul_le_mul_right _ hr
          simp only [List.size_toArray, List.length_append, List.length_take, List.length_drop, hcl]
          omega
        · show List.take _ (cur.toList.take (n * i.size) ++ news ++ _) = _
          rw [q4, ← hl]
          exact List.take_left
      · by_cases e : b = g
        · subst e; exact ⟨_, _, setRow_heap w b cur _ _ (0, 0) hg⟩
        · obtain ⟨cc, t, h1⟩ := hb
          exact ⟨cc, t, (setRow_other w g b _ e).trans h1⟩
    · have hold := run_firstCells_some (P := P) w.drew i.size n ⟨g, 0, none⟩ n cap xs hown.1 (fun j u hu => hown.cells rfl j u hu)
      obtain ⟨g1, g2⟩ := grown cap (by omega) (some g)
      exact ⟨_, _, run_append_grow_src w t tx ty e i z ht hi hz (some ⟨g, 0, none⟩) n cap xs hold x m news hs (by omega) h63' (fit cap (by omega)), g1, g2, .inr rfl, lvd _⟩
theorem wp_app_run {P : Program} {w w' : World} {o : Oper} {a : Act} {K : Act → World → Prop} {Q : Exit → Act → World → Prop} (s x : Operand) (t t2 : TypeId)
    (hop : o.op = Op.call { callee := Callee.builtin Builtin.append, args := #[s, x], argTypes := #[t, t2] }) (v v2 v' : Value) (hs : a.eval s = v) (hx : a.eval x = v2)
    (hrun : (Builtin.append_ #[t, t2] o.type #[v, v2]).run P w = .ok v' w') (hK : K (a.put o.dst v') w') : o.wp P a w K Q := by
  unfold Oper.wp
  simp [execOp, hop, resolve, invoke, builtin, hs, hx, hrun, Result.andThen]
  exact hK
theorem wpList_app_run {P : Program} {w w' : World} {ops : Array Oper} {rest : List Oper} {o : Oper} {a : Act} {Q : Exit → Act → World → Prop} (hg : o.guard = none) (s x : Operand) (t t2 : TypeId)
    (hop : o.op = Op.call { callee := Callee.builtin Builtin.append, args := #[s, x], argTypes := #[t, t2] }) (v v2 v' : Value) (hs : a.eval s = v) (hx : a.eval x = v2)
    (hrun : (Builtin.append_ #[t, t2] o.type #[v, v2]).run P w = .ok v' w') (hK : wpList P ops Q rest (a.put o.dst v') w') : wpList P ops Q (o :: rest) a w :=
  wpList_plain hg fun K hK' => wp_app_run s x t t2 hop v v2 v' hs hx hrun (hK' _ _ hK)
/-- what an append to v leaves: v's own block and new ones alone have turned -/
def Gr (v v' : Value) (w w' : World) : Prop := w.grownBy w' v.ownBlock ∧ ∀ k, v'.ownBlock = some k → v.ownBlock = some k ∨ w.heap.size ≤ k
theorem Gr.refl (v : Value) (w : World) : Gr v v w w := ⟨⟨rfl, rfl, rfl, Nat.le_refl _, fun _ _ _ => rfl⟩, fun k hk => .inl hk⟩
theorem Gr.size {v v' : Value} {w w' : World} (h : Gr v v' w w') : w.heap.size ≤ w'.heap.size := h.1.size
theorem Gr.trans {v v1 v2 : Value} {w w1 w2 : World} (h : Gr v v1 w w1) (g : Gr v1 v2 w1 w2) : Gr v v2 w w2 := by
  refine ⟨⟨g.1.os.trans h.1.os, g.1.tape.trans h.1.tape, g.1.output.trans h.1.output, Nat.le_trans h.size g.size, fun k hk hne => ?_⟩, fun k hk => ?_⟩
  · rw [g.1.block k (Nat.lt_of_lt_of_le hk h.size) (fun e => ?_)]
    · exact h.1.block k hk hne
    · rcases h.2 k e.symm with e1 | e1
      · exact hne e1.symm
      · omega
  · rcases g.2 k hk with e | e
    · exact h.2 k e
    · exact .inr (Nat.le_trans h.size e)
/-- blocks that are new, ahead of it -/
theorem Gr.ahead {v v' : Value} {w w1 w' : World} (hb : Below w.heap.size w w1) (h : Gr v v' w1 w') (hv : ∀ k, v.ownBlock = some k → k < w.heap.size) : Gr v v' w w' := by
  refine ⟨⟨h.1.os.trans hb.os, h.1.tape.trans hb.tape, h.1.output.trans hb.output, Nat.le_trans hb.size h.size, fun k hk hne => ?_⟩, fun k hk => ?_⟩
  · rw [h.1.block k (Nat.lt_of_lt_of_le hk hb.size) hne]
    exact hb.block k hk
  · rcases h.2 k hk with e | e
    · exact .inl e
    · exact .inr (Nat.le_trans hb.size e)
/-- and behind it -/
theorem Gr.behind {v v' : Value} {w w1 w' : World} (h : Gr v v' w w1) (hb : Below w1.heap.size w1 w') : Gr v v' w w' := by
  refine ⟨⟨hb.os.trans h.1.os, hb.tape.trans h.1.tape, hb.output.trans h.1.output, Nat.le_trans h.size hb.size, fun k hk hne => ?_⟩, h.2⟩
  rw [hb.block k (Nat.lt_of_lt_of_le hk h.size)]
  exact h.1.block k hk hne
theorem Gr.below {v v' : Value} {w w' : World} {B : Nat} (h : Gr v v' w w') (hB : B ≤ w.heap.size) (hv : ∀ k, v.ownBlock = some k → B ≤ k) : Below B w w' :=
  (Below.refl B w).grown h.1 hB hv
/-- a block that an append to v leaves as it is -/
def Far (v : Value) (w : World) (b : Nat) : Prop := b < w.heap.size ∧ v.ownBlock ≠ some b
theorem Gr.far {v v' : Value} {w w' : World} (h : Gr v v' w w') {b : Nat} (hb : Far v w b) : Far v' w' b :=
  ⟨Nat.lt_of_lt_of_le hb.1 h.size, fun e => by rcases h.2 b e with e1 | e1; exact hb.2 e1; have := hb.1; omega⟩
theorem Gr.same {v v' : Value} {w w' : World} (h : Gr v v' w w') {b : Nat} (hb : Far v w b) : w'.heap[b]? = w.heap[b]? := h.1.block b hb.1 (fun e => hb.2 e.symm)
/-- a row of bytes of one's own -/
def bcells (l : List UInt8) : List Value := l.map fun x => Value.int .u8 (x.toNat : Int)
def Kb (w : World) (v : Value) (l : List UInt8) : Prop := w.ownsRow 0 5 1 v l.length (bcells l)
theorem bcells_app (l m : List UInt8) : bcells (l ++ m) = bcells l ++ bcells m := by simp [bcells]
theorem bcells_len (l : List UInt8) : (bcells l).length = l.length := by simp [bcells]
theorem info_u8' : (Tryd.prog.info? 5).map (fun i => (i.zero, i.size, i.bytes)) = some (some (.int .u8 0), 1, 1) := by kernel_rfl
theorem parts_of {e size bytes : Nat} {z : Value} (h : (Tryd.prog.info? e).map (fun i => (i.zero, i.size, i.bytes)) = some (some z, size, bytes)) : ∃ i : TypeInfo, Tryd.prog.info? e = some i ∧ i.zero = some z ∧ i.size = size ∧ i.bytes = bytes := by
  cases hq : Tryd.prog.info? e with
  | none => rw [hq] at h; cases h
  | some i => rw [hq] at h; simp at h; exact ⟨i, rfl, h.1, h.2.1, h.2.2⟩
theorem Kb.nil (w : World) : Kb w (.slice none 0 0) [] := World.ownsRow_nil _ _ _ _
theorem Kb.lt {w : World} {v : Value} {l : List UInt8} (h : Kb w v l) : ∀ k, v.ownBlock = some k → k < w.heap.size := fun k hk => own_lt h hk
theorem Kb.later {w w' : World} {v : Value} {l : List UInt8} (h : Kb w v l) (hb : Below w.heap.size w w') : Kb w' v l := own_kept h (fun k hk => hb.block k (own_lt h hk))
theorem Kb.form {w : World} {v : Value} {l : List UInt8} (h : Kb w v l) : ∃ ao c, v = .slice ao l.length c := by
  rcases h.2 with ⟨rfl, hn⟩ | ⟨g, cap, cur, rfl, _⟩
  · exact ⟨none, 0, by rw [hn]⟩
  · exact ⟨_, _, rfl⟩
theorem Kb.len {w : World} {ao : Option Addr} {n c : Nat} {l : List UInt8} (h : Kb w (.slice ao n c) l) : n = l.length := by
  obtain ⟨ao', c', e⟩ := h.form
  cases e; rfl
/-- a text more, behind a row of bytes -/
theorem app_text {w : World} {v : Value} {l : List UInt8} (h : Kb w v l) (s : ByteArray) (hs : l.length + s.size ≤ 140737488351232) (ty : TypeId) :
    ∃ v' w', (Builtin.append_ #[29, 9] ty #[v, .string s]).run Tryd.prog w = .ok v' w' ∧ Kb w' v' (l ++ Rp.bytesOf s) ∧ Gr v v' w w' := by
  obtain ⟨i0, hi0, hz0, hz1, hz2⟩ := parts_of info_u8'
  obtain ⟨v', w', r1, r2, r3, r4, _⟩ := app_gen w 0 29 9 ty 5 i0 _ 1 1 Tryd.underlying29 hi0 hz0 hz1 hz2 rfl (by decide) v l.length _ h (.string s) s.size (byteCells s) (Src.ofString w Tryd.underlying9 s) (by unfold maxLen; omega) (by omega) (Nat.zero_le _)
  refine ⟨v', w', r1, ?_, r3, fun k hk => ?_⟩
  · have e : (Rp.bytesOf s).length = s.size := Rp.bytes_len s
    unfold Kb
    rw [List.length_append, e, bcells_app]
    exact r2
  · rcases r4 with e | e
    · exact .inl (e ▸ hk)
    · rw [e] at hk; cases hk; exact .inr (Nat.le_refl _)
theorem cell_new (w : World) (x : Value) (t : TypeId) : (w.alloc (.cells #[x] t)).cell? ⟨w.heap.size, 0, none⟩ = some x := by rw [cell_of_row _ _ _ _ _ _ (heap_alloc_new _ _)]; rfl
/-- one byte more -/
theorem app_byte {w : World} {v : Value} {l : List UInt8} (z : UInt8) (h1 : Kb w v l) (hl : l.length + 1 ≤ 140737488351232) (ty : TypeId) :
    ∃ v' w', (Builtin.append_ #[29, 29] ty #[v, .slice (some ⟨w.heap.size, 0, none⟩) 1 1]).run Tryd.prog (w.alloc (.cells #[.int .u8 z.toNat] 5)) = .ok v' w' ∧ Kb w' v' (l ++ [z]) ∧ Gr v v' w w' := by
  obtain ⟨i0, hi0, hz0, hz1, hz2⟩ := parts_of info_u8'
  have hb3 : Below w.heap.size w (w.alloc (.cells #[.int .u8 z.toNat] 5)) := (Below.refl _ w).alloc (Nat.le_refl _) _
  have c0 := cell_new w (.int .u8 z.toNat) 5
  have h1' := h1.later hb3
  obtain ⟨v', w', r1, r2, r3, r4, _⟩ := app_gen (w.alloc (.cells #[.int .u8 z.toNat] 5)) 0 29 29 ty 5 i0 _ 1 1 Tryd.underlying29 hi0 hz0 hz1 hz2 rfl (by decide) v l.length _ h1' _ 1 [.int .u8 z.toNat] (Src.ofSlice _ Tryd.underlying29 ⟨w.heap.size, 0, none⟩ 1 1 [.int .u8 z.toNat] rfl (fun j x hx => by
    cases j with
    | zero => rw [add_at]; simp at hx; rw [c0, hx]
    | succ j => simp at hx) (fun u hu => by simp at hu; subst hu; rfl)) (by unfold maxLen; omega) (by omega) (Nat.zero_le _)
  refine ⟨v', w', r1, ?_, Gr.ahead hb3 ⟨r3, fun k hk => ?_⟩ h1.lt⟩
  · unfold Kb
    rw [List.length_append, bcells_app]
    exact r2
  · rcases r4 with e | e
    · exact .inl (e ▸ hk)
    · rw [e] at hk; cases hk; exact .inr (Nat.le_refl _)
end Go.Proofs.YtoalnfkjpdgbiaaDoor
