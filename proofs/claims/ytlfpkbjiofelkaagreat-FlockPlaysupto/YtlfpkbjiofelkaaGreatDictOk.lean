/-
  What is so of a table between two calls, and how a change of one entry turns the memory.
-/
import Derived.Test.YtlfpkbjiofelkaaGreatDictIter
import Derived.Deep.QuietTactic
import Derived.BigQuiet
import Derived.WalkSmall
/-
  Contracts over this program: a chain goes over, from its first entry on.
-/
namespace Go.Proofs.YtlfpkbjiofelkaaGreat
open Go.RowKit Go.Shelf
attribute [local go_sem] Oper.semAt_some
/-- clear of a slice: what stood ahead of it stays -/
theorem clear_run {P : Program} (w : World) (t e ty et : TypeId) (z : Value) (ht : P.underlying t = some (.slice e)) (hv : ∀ w, (zeroValue e).run P w = .ok z w) (h1 : ∀ u ∈ z.cells.toList, u.oneCell' = true) (b o n c : Nat) (cur : Array Value)
    (hg : w.heap[b]? = some (.cells cur et (0, 0))) (hfit : o + n * z.cells.size ≤ cur.size) :
    ∃ cur', (Builtin.clear_ #[t] ty #[.slice (some ⟨b, o, none⟩) n c]).run P w = .ok (.tuple #[]) (w.setRow b cur') ∧ cur'.size = cur.size ∧ cur'.toList.take o = cur.toList.take o := by
  cases n with
  | zero =>
    refine ⟨cur, ?_, rfl, rfl⟩
    rw [setRow_self w b cur et (0, 0) hg]
    simp [Builtin.clear_, run_underlying ht]
  | succ n =>
    have hsz : (Builtin.zeroCells z.cells (n + 1)).toList.length = (n + 1) * z.cells.size := by rw [Array.length_toList, size_zeroCells]
    have hone : ∀ u ∈ (Builtin.zeroCells z.cells (n + 1)).toList, u.oneCell' = true := by
      intro u hu
      unfold Builtin.zeroCells at hu
      rw [Array.toList_map, List.mem_map] at hu
      obtain ⟨i, hi, rfl⟩ := hu
      have hp : 0 < z.cells.size := by
        rcases Nat.eq_zero_or_pos z.cells.size with h | h
        · rw [h, Nat.mul_zero] at hi; simp at hi
        · exact h
      have hlt := Nat.mod_lt i hp
      rw [getElem!_pos z.cells _ hlt]
      exact h1 _ (by simp)
    have hst := run_storeCells_at P b o et _ 0 cur w hg (by rw [hsz]; simpa using hfit) hone
    simp only [Nat.add_zero] at hst
    refine ⟨(cur.toList.take o ++ (Builtin.zeroCells z.cells (n + 1)).toList ++ cur.toList.drop (o + (Builtin.zeroCells z.cells (n + 1)).toList.length)).toArray, by simp [Builtin.clear_, run_underlying ht, hv, hst], ?_, ?_⟩
    · rw [List.size_toArray, List.length_append, List.length_append, List.length_take, List.length_drop, hsz, Array.length_toList]
      omega
    · show List.take o (List.take o cur.toList ++ _ ++ _) = _
      rw [List.append_assoc, List.take_append_of_le_length (by simp; omega), List.take_take, Nat.min_self]
/-- the turn of a block that holds no cells -/
theorem own_turn {w w' : World} {B e s : Nat} {v : Value} {n : Nat} {xs : List Value} {row : Option Nat} (h : w.ownsRow B e s v n xs) (hg : w.grownBy w' row) (hr : ∀ k, row = some k → ∃ o : Obj, w.heap[k]? = some o ∧ o.isCells = false) : w'.ownsRow B e s v n xs := by
  refine own_kept h (fun k hk => hg.block k (own_lt h hk) (fun e => ?_))
  obtain ⟨o, h1, h2⟩ := hr k e.symm
  rcases h.2 with ⟨rfl, _⟩ | ⟨g, cap, cur, rfl, _, hh, _⟩
  · cases hk
  · cases hk
    rw [hh] at h1
    cases h1
    cases h2
theorem Tb.turn {w w' : World} {r : Roles} {t : Nat} {tv : Value} {T : Dc.Tab ByteArray Unit} {row : Option Nat} (h : Tb w r t tv T) (hg : w.grownBy w' row) (hr : ∀ k, row = some k → ∃ o : Obj, w.heap[k]? = some o ∧ o.isCells = false) : Tb w' r t tv T := by
  obtain ⟨vs, h1, h2, h3⟩ := h
  refine ⟨vs, own_turn h1 hg hr, h2, fun i c hc => ?_⟩
  obtain ⟨v, e1, e2, e3⟩ := h3 i c hc
  exact ⟨v, e1, own_turn e2 hg hr, e3⟩
theorem Tr.turn {t : Nat} {w w1 w2 : World} {r r1 : Roles} {row : Option Nat} (h : Tr t w r w1 r1) (hg : w1.grownBy w2 row) (hr : ∀ k, row = some k → w.heap.size ≤ k) : Tr t w r w2 r1 := by
  obtain ⟨⟨a1, a2, a3⟩, a4, a5, a6, a7⟩ := h
  have same : ∀ k, k < w.heap.size → w2.heap[k]? = w1.heap[k]? := fun k hk => hg.block k (by omega) (fun e => by have := hr k e.symm; omega)
  refine ⟨⟨hg.os.trans a1, hg.tape.trans a2, hg.output.trans a3⟩, Nat.le_trans a4 hg.size, fun k hk h1 h2 => ?_, fun k hk => ?_, fun k o hk ho => ?_⟩
  · rw [same k hk]; exact a5 k hk h1 h2
  · rcases a6 k hk with h | ⟨h1, h2⟩
    · exact .inl h
    · exact .inr ⟨h1, by have := hg.size; omega⟩
  · rw [same k (Array.getElem?_eq_some_iff.1 hk).1]; exact a7 k o hk ho
theorem Tr.trans {t : Nat} {w w1 w2 : World} {r r1 r2 : Roles} (h : Tr t w r w1 r1) (g : Tr t w1 r1 w2 r2) : Tr t w r w2 r2 := by
  obtain ⟨⟨a1, a2, a3⟩, a4, a5, a6, a7⟩ := h
  obtain ⟨⟨b1, b2, b3⟩, b4, b5, b6, b7⟩ := g
  refine ⟨⟨b1.trans a1, b2.trans a2, b3.trans a3⟩, Nat.le_trans a4 b4, fun k hk h1 h2 => ?_, fun k hk => ?_, fun k o hk ho => b7 k o (a7 k o hk ho) ho⟩
  · obtain ⟨c1, c2⟩ := a5 k hk h1 h2
    obtain ⟨d1, d2⟩ := b5 k (by omega) (by rw [c2]; exact h1) (by rw [c2]; exact h2)
    exact ⟨d1.trans c1, d2.trans c2⟩
  · rcases b6 k hk with h | ⟨h1, h2⟩
    · rcases a6 k h with h | ⟨h1, h2⟩
      · exact .inl h
      · exact .inr ⟨h1, by omega⟩
    · exact .inr ⟨by omega, h2⟩
theorem Tr.refl (t : Nat) (w : World) (r : Roles) : Tr t w r w r := ⟨⟨rfl, rfl, rfl⟩, Nat.le_refl _, fun _ _ _ _ => ⟨rfl, rfl⟩, fun _ h => .inl h, fun _ _ h _ => h⟩
theorem Tr.drew {t : Nat} {w w' : World} {r r' : Roles} (h : Tr t w r w' r') : Tr t w r w'.drew r' := h
/-- between two rounds: the young table has what came -/
def MvI (h : ByteArray → Nat) (W0 : World) (r : Roles) (yv : Value) (young : Dc.Tab ByteArray Unit) (c : List Ent) (pre : List (Bk c)) (W : World) : Prop := ∃ r1, Tb W r1 1 yv (Dc.pour h young (bks pre)) ∧ Tr 1 W0 r W r1
theorem MvI_own {h : ByteArray → Nat} {W0 : World} {r : Roles} {yv : Value} {young : Dc.Tab ByteArray Unit} {c : List Ent} : OwnFrom W0.heap.size (MvI h W0 r yv young c) := by
  rintro pre W W' row ⟨r1, hT, hTr⟩ hg hr
  exact ⟨r1, hT.turn hg (fun k e => (hr k e).2), hTr.turn hg (fun k e => (hr k e).1)⟩
/-- the entry's box of this round -/
def MvX (b H n1 n2 : Nat) (v v8 v11 v12 v13 : Value) {c : List Ent} (x : Bk c) (a : Act) (W : World) : Prop :=
  ∃ Bx, W.heap[Bx]? = some (.cells #[.string x.1.2.1] 105 (0, 0)) ∧ a = { tmps := #[.pointer (some ⟨b, 0, none⟩), .pointer (some ⟨H, 0, none⟩), v, undef, .pointer (some ⟨Bx, 0, none⟩), .pointer (some ⟨b, 0, none⟩), .pointer (some ⟨b, 0, none⟩), .pointer (some ⟨b, 2, none⟩), v8, .pointer (some ⟨b, 0, none⟩), .pointer (some ⟨b, 0, none⟩), v11, v12, v13, v, v, .func (.func n1) #[] #[.pointer (some ⟨n2, 0, none⟩)], .int .i64 (x.1.1 : Int), .agg #[.string x.1.2.1], undef, undef, undef, undef, undef, undef, undef, undef, undef, undef, undef, undef, undef, undef, undef, undef, undef, undef, undef, undef, undef, undef, undef, undef, undef, undef, undef], defers := [] }
theorem MvX_own {B b H n1 n2 : Nat} {v v8 v11 v12 v13 : Value} {c : List Ent} (x : Bk c) (a : Act) : OwnFrom B (fun (_ : Unit) W => MvX b H n1 n2 v v8 v11 v12 v13 x a W) := by
  rintro _ W W' row ⟨Bx, h1, h2⟩ hg hr
  refine ⟨Bx, ?_, h2⟩
  rw [hg.block Bx (Array.getElem?_eq_some_iff.1 h1).1 (fun e => ?_)]
  · exact h1
  · obtain ⟨_, o, h3, h4⟩ := hr Bx e.symm
    rw [h1] at h3
    cases h3
    cases h4
theorem pour_le {h : ByteArray → Nat} {young : Dc.Tab ByteArray Unit} {l c : List Ent} {m : Nat} (hc : c ∈ Dc.pour h young l) (hy : 0 < young.length) (hm : young.flatten.length + l.length ≤ m) : c.length ≤ m := by
  have h1 := (List.sublist_flatten_of_mem hc).length_le
  have h2 := (Dc.pour_perm h l young hy).length_eq
  rw [List.length_append] at h2
  omega
/-- what a round reads of the struct -/
def heldM (H b seed : Nat) (yv : Value) (w : World) : Prop := w.cell? ⟨H, 0, none⟩ = some (.pointer (some ⟨b, 0, none⟩)) ∧ w.cell? ⟨b, 3, none⟩ = some yv ∧ w.cell? ⟨b, 0, none⟩ = some (.int .u64 seed)
theorem heldM_kept {H b seed : Nat} {yv : Value} {w w' : World} (h : heldM H b seed yv w) (h1 : w'.heap[H]? = w.heap[H]?) (h2 : w'.heap[b]? = w.heap[b]?) : heldM H b seed yv w' :=
  ⟨(World.cell?_of_block (w := w) (a := ⟨H, 0, none⟩) h1).trans h.1, (World.cell?_of_block (w := w) (a := ⟨b, 3, none⟩) h2).trans h.2.1, (World.cell?_of_block (w := w) (a := ⟨b, 0, none⟩) h2).trans h.2.2⟩
set_option maxRecDepth 100000 in
set_option maxHeartbeats 2000000 in
theorem move_any {h : ByteArray → Nat} {seed : Nat} (hH : HashIs seed h) (w : World) (r : Roles) (b n : Nat) (s : Dc.St ByteArray Unit) (e : Ent) (c : List Ent) (hD : Dct w r b seed n s) (hc : s.old[s.pos]? = some (e :: c)) (hy : 0 < s.young.length)
    (hm0 : s.old.length ≤ maxLen) (hm1 : s.young.length ≤ maxLen) (hk : ∀ x ∈ e :: c, x.1.size ≤ maxLen) (hl : s.young.flatten.length + (e :: c).length ≤ 2600000000000) :
    Calls Tryz.prog 85 #[.pointer (some ⟨b, 0, none⟩)] w fun x w' => x = .returned (.tuple #[]) ∧ ∃ r', Dct w' r' b seed n (Dc.carry h s) ∧ Fr w r w' r' := by
  obtain ⟨ao, ca, bo, cb, h4, h5, h3⟩ := hD.cells
  have hpl : s.pos < s.old.length := (List.getElem?_eq_some_iff.1 hc).1
  obtain ⟨g, ca', e4, hrg, hgl⟩ := h4.form (by omega)
  have e5 : ao = some ⟨g, 0, none⟩ := by injection e4
  subst e5
  clear e4
  obtain ⟨v, hv1, hv2, hv3⟩ := h4.at hc
  obtain ⟨co, cc, rfl⟩ := chn_len hv2
  obtain ⟨c0, c1, c2, c3, c4, cf⟩ := five h3
  have hrb := hD.2.1
  have hbl : b < w.heap.size := hD.1 b (by rw [hrb]; simp)
  have hrH : r w.heap.size = (0, 0) := Classical.byContradiction fun hh => by have := hD.1 _ hh; omega
  have hp0 : (0 : Int) ≤ (s.pos : Int) := by omega
  have hp1 : (s.pos : Int) < (s.old.length : Int) := by omega
  have hneb : ¬ b = w.heap.size := by omega
  have hneg : ¬ g = w.heap.size := by omega
  refine callsIn_wide (n := 5) |>.1 (callsIn_of_wp_marks Tryz.func85 rfl trivial (wpIn_wide.2 ?_) rfl)
  simp only [Tryz.ntmps85, List.size_toArray, List.length_cons, List.length_nil, Nat.reduceAdd, Nat.reduceSub, Array.replicate_succ, Array.replicate_zero, List.push_toArray, List.append_toArray, List.nil_append, List.cons_append]
  go_wp2_with fail
  go_region
  go_wp2_with fail
  refine (back_any _ _ _ _).mono ?_
  rintro _ w' ⟨rfl, rfl⟩
  go_wp2
  have hsz : (((w.alloc (.cells #[.pointer (some ⟨b, 0, none⟩)] 52)).alloc (.cells #[.slice co (c.length + 1) cc] 107)).drew).heap.size = w.heap.size + 2 := by show ((w.alloc _).alloc _).heap.size = _; simp
  have hB0 : Below w.heap.size w (((w.alloc (.cells #[.pointer (some ⟨b, 0, none⟩)] 52)).alloc (.cells #[.slice co (c.length + 1) cc] 107)).drew) := (((Below.refl _ w).alloc (Nat.le_refl _) _).alloc (by simp) _).drew
  have hn0 : (((w.alloc (.cells #[.pointer (some ⟨b, 0, none⟩)] 52)).alloc (.cells #[.slice co (c.length + 1) cc] 107)).drew).cell? ⟨w.heap.size, 0, none⟩ = some (.pointer (some ⟨b, 0, none⟩)) := by simp
  have hn1 : (((w.alloc (.cells #[.pointer (some ⟨b, 0, none⟩)] 52)).alloc (.cells #[.slice co (c.length + 1) cc] 107)).drew).cell? ⟨w.heap.size + 1, 0, none⟩ = some (.slice co (c.length + 1) cc) := by simp
  generalize (((w.alloc (.cells #[.pointer (some ⟨b, 0, none⟩)] 52)).alloc (.cells #[.slice co (c.length + 1) cc] 107)).drew) = W0 at hsz hB0 hn0 hn1 ⊢
  have hv2' : Chn W0 (.slice co (c.length + 1) cc) (e :: c) := own_kept hv2 (fun k hk => hB0.block k (own_lt hv2 hk))
  have h5' : Tb W0 r 1 (.slice bo s.young.length cb) s.young := h5.kept (fun k hk _ => ⟨hB0.block k hk, rfl⟩)
  have hvk : ∀ k, (Value.slice co (c.length + 1) cc).ownBlock = some k → k < w.heap.size := fun k hk => own_lt hv2 hk
  have hrz : ∀ k, w.heap.size ≤ k → r k = (0, 0) := fun k hk => Classical.byContradiction fun hh => by have := hD.1 _ hh; omega
  have hHB : heldM w.heap.size b seed (.slice bo s.young.length cb) W0 := ⟨hn0, (hB0.cell (p := ⟨b, 3, none⟩) hbl).trans c3, (hB0.cell (p := ⟨b, 0, none⟩) hbl).trans c0⟩
  obtain ⟨yg, ycb, ye, hryg, hygl⟩ := h5.form hy
  have ye5 : bo = some ⟨yg, 0, none⟩ := by injection ye
  clear ye
  subst ye5
  refine wpIn_wide (n := 5).1 (wpIn_rangeFunc_ownH (α := Bk (e :: c)) rfl (by decide) (gf := 115) (lb := #[.pointer (some ⟨w.heap.size + 1, 0, none⟩)]) rfl trivial (enters_of Tryz.func115 (by kernel_rfl) rfl)
    (back_stops 4 (w.heap.size + 1) (.slice co (c.length + 1) cc) (e :: c) W0 (by omega) hn1 hv2') (fun h k => h.trans k) (kpB_b (by omega) (fun k hk => by have := hvk k hk; omega)) (Below.refl _ _) (fun _ => rfl)
    (MvI h W0 r (.slice (some ⟨yg, 0, none⟩) s.young.length cb) s.young (e :: c)) (fun _ _ _ => False) MvI_own (fun _ _ _ _ _ hs _ _ => hs) ⟨r, h5', Tr.refl _ _ _⟩
    (MvX b w.heap.size 115 (w.heap.size + 1) (.slice co (c.length + 1) cc) (.slice (some ⟨g, 0, none⟩) s.old.length ca) (.pointer (some ⟨b, 4, none⟩)) (.int .i64 s.pos) (.pointer (some ⟨g, s.pos, none⟩))) (fun x a => MvX_own x a) ?assign ?body ?done ?stop)
  case assign =>
    rintro l pre ⟨⟨m, e1, e2⟩, hx⟩ W K ⟨r1, hT, hTr⟩ hK
    have HK := keep hK
    clear hK
    unfold bkE
    gi_wp2
    have hW := hTr.2.1
    exact HK.out _ _ ((KeepsOthers.alloc _ _).from _) ⟨Below.heap_alloc _ _ _ (by omega), fun k hk => Below.heap_alloc _ _ _ (by have := hvk k hk; omega)⟩
      ⟨r1, hT.turn (World.grownBy_alloc _ _ none) (fun k h => by cases h), hTr.turn (World.grownBy_alloc _ _ none) (fun k h => by cases h)⟩ ⟨W.heap.size, heap_alloc_new _ _, rfl⟩
  case body =>
    rintro l pre ⟨⟨m, e1, e2⟩, hx⟩ a' W hl' ⟨rc, hrc⟩ ⟨r1, hT, hTr⟩ ⟨Bx, hBx, rfl⟩ hlt
    have eL : (Dc.pour h s.young (bks pre)).length = s.young.length := Dc.pour_len _ _ _
    have hW := hTr.2.1
    have hone : ∀ k, k < W0.heap.size → (r k).1 ≠ 2 → (r k).1 ≠ 4 → W.heap[k]? = W0.heap[k]? ∧ r1 k = r k := fun k hk h1 h2 => hTr.2.2.1 k hk (by omega) (by omega)
    have mP := push_any hH W.drew r1 1 yg cb (Dc.pour h s.young (bks pre)) (e1, e2) (by rw [eL]; exact hT) (by omega) (by omega) (hk _ hx)
      (fun k hk => by
        rcases hTr.2.2.2.1 k hk with h' | ⟨_, h'⟩
        · have := hD.1 k h'; show k < W.heap.size; omega
        · exact h')
      (fun c' hc' => pour_le hc' (by omega) (by have : pre.length < (e :: c).length := hlt; simp only [bks, List.length_map]; omega))
    rw [eL] at mP
    have hS := heldM_kept hHB (hone _ (by omega) (by rw [hrH]; simp) (by rw [hrH]; simp)).1 (hone _ (by omega) (by rw [hrb]; simp) (by rw [hrb]; simp)).1
    have b0 : W.cell? ⟨Bx, 0, none⟩ = some (.string e1) := by rw [cell_of_row _ _ _ _ _ _ hBx]; rfl
    dsimp only
    have HP := keep mP
    have HONE := keep hone
    have HTR := keep hTr
    clear mP hone hTr hT hD h4 h5 h3 c0 c1 c2 c3 c4 cf hv1 hv2' h5' hk hl hlt hn0 hn1 hHB hBx
    gi_wp2
    refine region_round (S := heldM w.heap.size b seed (.slice (some ⟨yg, 0, none⟩) s.young.length cb)) (by kernel_rfl) (by kernel_rfl) (by rintro ⟨a, w, h⟩; exact h) hS (fun hHeld => ?_)
    refine wpAnyH_take (i := 0) (oi := { dst := some 19, op := _, type := _, pos := _, after := _, guard := _ }) (v := ?v1) rfl (by kernel_rfl) (by kernel_rfl) (by kernel_rfl) (fun _ _ _ h => h) (Or.inl ⟨by rfl, ?hy1⟩) (by assumption) ?rest1
    case hy1 => (intro w hSw; obtain ⟨q0, q1, q2⟩ := hSw; go_simp; try with_reducible rfl)
    try simp only [Act.put, List.setIfInBounds_toArray, List.set_cons_zero, List.set_cons_succ]
    refine wpAnyH_take (i := 1) (oi := { dst := some 20, op := _, type := _, pos := _, after := _, guard := _ }) (v := ?v2) rfl (by kernel_rfl) (by kernel_rfl) (by kernel_rfl) (fun _ _ _ h => h) (Or.inl ⟨by rfl, ?hy2⟩) (by assumption) ?rest2
    case hy2 => (intro w hSw; obtain ⟨q0, q1, q2⟩ := hSw; go_simp; try with_reducible rfl)
    try simp only [Act.put, List.setIfInBounds_toArray, List.set_cons_zero, List.set_cons_succ]
    refine wpAnyH_take (i := 2) (oi := { dst := some 21, op := _, type := _, pos := _, after := _, guard := _ }) (v := ?v3) rfl (by kernel_rfl) (by kernel_rfl) (by kernel_rfl) (fun _ _ _ h => h) (Or.inl ⟨by rfl, ?hy3⟩) (by assumption) ?rest3
    case hy3 => (intro w hSw; obtain ⟨q0, q1, q2⟩ := hSw; go_simp; try with_reducible rfl)
    try simp only [Act.put, List.setIfInBounds_toArray, List.set_cons_zero, List.set_cons_succ]
    refine wpAnyH_take (i := 3) (oi := { dst := some 22, op := _, type := _, pos := _, after := _, guard := _ }) (v := ?v4) rfl (by kernel_rfl) (by kernel_rfl) (by kernel_rfl) (fun _ _ _ h => h) (Or.inl ⟨by rfl, ?hy4⟩) (by assumption) ?rest4
    case hy4 => (intro w hSw; obtain ⟨q0, q1, q2⟩ := hSw; go_simp; try with_reducible rfl)
    try simp only [Act.put, List.setIfInBounds_toArray, List.set_cons_zero, List.set_cons_succ]
    refine wpAnyH_take (i := 4) (oi := { dst := some 23, op := _, type := _, pos := _, after := _, guard := _ }) (v := ?v5) rfl (by kernel_rfl) (by kernel_rfl) (by kernel_rfl) (fun _ _ _ h => h) (Or.inl ⟨by rfl, ?hy5⟩) (by assumption) ?rest5
    case hy5 => (intro w hSw; obtain ⟨q0, q1, q2⟩ := hSw; go_simp; try with_reducible rfl)
    try simp only [Act.put, List.setIfInBounds_toArray, List.set_cons_zero, List.set_cons_succ]
    refine wpAnyH_take (i := 5) (oi := { dst := some 24, op := _, type := _, pos := _, after := _, guard := _ }) (v := ?v6) rfl (by kernel_rfl) (by kernel_rfl) (by kernel_rfl) (fun _ _ _ h => h) (Or.inl ⟨by rfl, ?hy6⟩) (by assumption) ?rest6
    case hy6 => (intro w hSw; obtain ⟨q0, q1, q2⟩ := hSw; go_simp; try with_reducible rfl)
    try simp only [Act.put, List.setIfInBounds_toArray, List.set_cons_zero, List.set_cons_succ]
    refine wpAnyH_take (i := 6) (oi := { dst := some 25, op := _, type := _, pos := _, after := _, guard := _ }) (v := ?v7) rfl (by kernel_rfl) (by kernel_rfl) (by kernel_rfl) (fun _ _ _ h => h) (Or.inl ⟨by rfl, ?hy7⟩) (by assumption) ?rest7
    case hy7 => (intro w hSw; obtain ⟨q0, q1, q2⟩ := hSw; go_simp; try with_reducible rfl)
    try simp only [Act.put, List.setIfInBounds_toArray, List.set_cons_zero, List.set_cons_succ]
    refine wpAnyH_take (i := 7) (oi := { dst := some 26, op := _, type := _, pos := _, after := _, guard := _ }) (v := ?v8) rfl (by kernel_rfl) (by kernel_rfl) (by kernel_rfl) (fun _ _ _ h => h) (Or.inl ⟨by rfl, ?hy8⟩) (by assumption) ?rest8
    case hy8 => (intro w hSw; obtain ⟨q0, q1, q2⟩ := hSw; go_simp; try with_reducible rfl)
    try simp only [Act.put, List.setIfInBounds_toArray, List.set_cons_zero, List.set_cons_succ]
    refine wpAnyH_ready (rs := [8]) (by kernel_rfl) (by simp) ?_
    refine AllReadyH.cons (o := { dst := some 27, op := _, type := _, pos := _, after := _, guard := _ }) rfl (fun K hK => ?_) AllReadyH.nil
    have b0' : W.drew.cell? ⟨Bx, 0, none⟩ = some (.string e1) := b0
    go_simp
    refine hK.out _ _ hHeld (fun hHeld => ?_)
    try simp only [Act.put, List.setIfInBounds_toArray, List.set_cons_zero, List.set_cons_succ]
    refine wpAnyH_ready (rs := [9]) (by kernel_rfl) (by simp) ?_
    refine AllReadyH.cons (o := { dst := some 28, op := _, type := _, pos := _, after := _, guard := _ }) rfl (fun K hK => ?_) AllReadyH.nil
    go_simp
    refine HP.out.mono ?_
    rintro _ W' ⟨rfl, r2, hT2, hTr2⟩
    have same : ∀ k, k < W0.heap.size → (r k).1 ≠ 2 → (r k).1 ≠ 4 → W'.heap[k]? = W.heap[k]? := fun k hk h1 h2 => by
      obtain ⟨_, e'⟩ := HONE.out k hk h1 h2
      exact (hTr2.2.2.1 k (by show k < W.heap.size; omega) (by rw [e']; omega) (by rw [e']; omega)).1
    refine hK.out _ _ (heldM_kept hHeld (same _ (by omega) (by rw [hrH]; simp) (by rw [hrH]; simp)) (same _ (by omega) (by rw [hrb]; simp) (by rw [hrb]; simp))) (fun _ => ?_)
    refine wpAnyH_done (by kernel_rfl) ?_ _
    refine ⟨⟨hTr2.2.1, fun k o _ h1 h2 => hTr2.2.2.2.2 k o h1 h2⟩, ⟨same _ (by omega) (by rw [hrz _ (by omega)]; simp) (by rw [hrz _ (by omega)]; simp), fun k hk' => same k (by have := hvk k hk'; omega) (by rw [hv3 k hk']; simp) (by rw [hv3 k hk']; simp)⟩, r2, ?_, HTR.out.trans hTr2⟩
    rw [bks_snoc rfl, Dc.pour, List.foldl_append]
    exact hT2
  case done =>
    rintro D xs W hD' hS ⟨r1, hT, hTr⟩ hK
    rw [hS] at hT
    have hW := hTr.2.1
    have hone : ∀ k, k < W0.heap.size → (r k).1 ≠ 2 → (r k).1 ≠ 4 → W.heap[k]? = W0.heap[k]? ∧ r1 k = r k := fun k hk h1 h2 => hTr.2.2.1 k hk (by omega) (by omega)
    have hold : ∀ k, k < w.heap.size → (r k).1 ≠ 2 → (r k).1 ≠ 4 → W.heap[k]? = w.heap[k]? ∧ r1 k = r k := fun k hk h1 h2 => ⟨(hone k (by omega) h1 h2).1.trans (hB0.block k hk), (hone k (by omega) h1 h2).2⟩
    have hT0 : Tb W r1 0 (.slice (some ⟨g, 0, none⟩) s.old.length ca) s.old := h4.kept (fun k hk hr => hold k hk (by omega) (by omega))
    rcases hv2.form with ⟨_, hh⟩ | ⟨gv, cap, hh, hgv, hcap, hm⟩
    · cases hh
    have hco : co = some ⟨gv, 0, none⟩ := by injection hh
    clear hh
    subst hco
    have hrgv := hv3 gv rfl
    have hbW : W.heap[b]? = _ := (hold b hbl (by rw [hrb]; simp) (by rw [hrb]; simp)).1.trans h3
    have hHW : W.cell? ⟨w.heap.size, 0, none⟩ = some (.pointer (some ⟨b, 0, none⟩)) := (World.cell?_of_block (w := W0) (a := ⟨w.heap.size, 0, none⟩) (hone w.heap.size (by omega) (by rw [hrH]; simp) (by rw [hrH]; simp)).1).trans hn0
    have hC : Chn W (.slice (some ⟨gv, 0, none⟩) (e :: c).length cc) (e :: c) := own_kept hv2 (fun k hk => (hold k (own_lt hv2 hk) (by rw [hv3 k hk]; simp) (by rw [hv3 k hk]; simp)).1)
    obtain ⟨cur, hcur, hfit⟩ : ∃ cur, W.heap[gv]? = some (.cells cur 105 (0, 0)) ∧ (c.length + 1) ≤ cur.size := by
      rcases hC.2 with ⟨h', _⟩ | ⟨g', cap', cur, h', _, hh, q1, _, q2, _⟩
      · cases h'
      · cases h'
        exact ⟨cur, hh, by rw [q2, Nat.mul_one]; exact q1⟩
    obtain ⟨cur', hcl, hcs, _⟩ := clear_run (P := Tryz.prog) W 107 105 0 105 _ Tryz.underlying107 Tryz.zeroValue105 (by simp [Value.cells, Value.oneCell']) gv 0 (c.length + 1) cc cur hcur (by simpa [Value.cells] using hfit)
    have hneg2 : gv ≠ g := fun e' => by rw [e', hrg] at hrgv; simp at hrgv
    have hneb2 : gv ≠ b := fun e' => by rw [e', hrb] at hrgv; simp at hrgv
    have hgb : g ≠ b := fun e' => by rw [e', hrb] at hrg; simp at hrg
    obtain ⟨W2, hW2⟩ : ∃ W2, W2 = W.setRow gv cur' := ⟨_, rfl⟩
    rw [← hW2] at hcl
    have h2o : ∀ k, k ≠ gv → W2.heap[k]? = W.heap[k]? := fun k hk => by rw [hW2]; exact setRow_other W gv k _ hk
    have h2s : W2.heap.size = W.heap.size := by rw [hW2]; simp
    have h2w : W2.os = W.os ∧ W2.tape = W.tape ∧ W2.output = W.output := by rw [hW2]; exact ⟨rfl, rfl, rfl⟩
    clear hW2
    have hb2 : W2.heap[b]? = _ := (h2o b (Ne.symm hneb2)).trans hbW
    obtain ⟨d0, d1, d2, d3, d4, df⟩ := five hb2
    have hH2 : W2.cell? ⟨w.heap.size, 0, none⟩ = some (.pointer (some ⟨b, 0, none⟩)) := (World.cell?_of_block (w := W) (a := ⟨w.heap.size, 0, none⟩) (h2o w.heap.size (by omega))).trans hHW
    have hg2 : W2.cell? ⟨g, s.pos, none⟩ = some (.slice (some ⟨gv, 0, none⟩) (c.length + 1) cc) := by
      rw [World.cell?_of_block (w := W) (a := ⟨g, s.pos, none⟩) (h2o g (Ne.symm hneg2)), World.cell?_of_block (w := w) (a := ⟨g, s.pos, none⟩) (hold g hgl (by rw [hrg]; simp) (by rw [hrg]; simp)).1]
      exact hv1
    have hf2 : W2.frozen? ⟨g, s.pos, none⟩ = false := by
      rw [World.frozen?_of_block (w := W) (a := ⟨g, s.pos, none⟩) (h2o g (Ne.symm hneg2))]
      exact hT0.free _
    have f4 := df 4
    clear c0 c1 c2 c3 c4 cf d0 d1 d3 df
    have hw1 : IntKind.i64.wrap ((s.pos : Int) + 1) = ((s.pos + 1 : Nat) : Int) := by unfold maxLen at hm0; rw [IntKind.wrap_i64]; omega
    go_wp2_with fail
    go_region_held3 (fun w' => w'.cell? ⟨w.heap.size, 0, none⟩ = some (.pointer (some ⟨b, 0, none⟩)) ∧ w'.cell? ⟨b, 2, none⟩ = some (.slice (some ⟨g, 0, none⟩) s.old.length ca) ∧ w'.cell? ⟨b, 4, none⟩ = some (.int .i64 s.pos)) (first | go_keep) (fail)
    go_wp2
    have hDg : D ≠ g := by omega
    have hDb : D ≠ b := by omega
    have hDv : D ≠ gv := by omega
    have hKD : ((W2.drew.setCell ⟨g, s.pos, none⟩ (.slice none 0 0)).setCell ⟨b, 4, none⟩ (.int .i64 ((s.pos + 1 : Nat) : Int))).heap[D]? = some (.deferred (some [])) := by
      rw [Below.heap_setCell _ _ _ _ hDb, Below.heap_setCell _ _ _ _ hDg]
      exact (h2o D hDv).trans hK
    refine ⟨by simp, .inl ⟨_, _, rfl, run_takeDeferred hKD, ?_⟩⟩
    refine ⟨_, results_none rfl _ _ _, rfl, ?_⟩
    show ∃ r', Dct (((W2.drew.setCell ⟨g, s.pos, none⟩ (.slice none 0 0)).setCell ⟨b, 4, none⟩ (.int .i64 ((s.pos + 1 : Nat) : Int))).putObj D (.deferred none)) r' b seed n (Dc.carry h s) ∧ Fr w r (((W2.drew.setCell ⟨g, s.pos, none⟩ (.slice none 0 0)).setCell ⟨b, 4, none⟩ (.int .i64 ((s.pos + 1 : Nat) : Int))).putObj D (.deferred none)) r'
    refine ⟨r1, ?_⟩
    have hTold : Tb (W2.drew.setCell ⟨g, s.pos, none⟩ (.slice none 0 0)) r1 0 (.slice (some ⟨g, 0, none⟩) s.old.length ca) (s.old.set s.pos []) := by
      have := hT0.put (w1 := W2.drew) (c' := []) (v' := .slice none 0 0) hc (h2o g (Ne.symm hneg2)) (fun k j hk hr hj => h2o k (fun e' => ?_)) ⟨rfl, .inl ⟨rfl, rfl⟩⟩ (fun k hk => by cases hk)
      · have e2 : role r1 (.slice none 0 0) (3 + 0, s.pos) = r1 := by funext k; simp [role, Value.ownBlock]
        rw [e2] at this
        exact this
      · rw [e', (hold gv hgv (by rw [hrgv]; simp) (by rw [hrgv]; simp)).2, hrgv] at hr
        simp at hr
        exact hj hr.symm
    have hr1b : r1 b = (5, 0) := (hold b hbl (by rw [hrb]; simp) (by rw [hrb]; simp)).2.trans hrb
    have hr1g : r1 g = (1 + 0, 0) := (hold g hgl (by rw [hrg]; simp) (by rw [hrg]; simp)).2.trans hrg
    have hr1v : r1 gv = (3 + 0, s.pos) := (hold gv hgv (by rw [hrgv]; simp) (by rw [hrgv]; simp)).2.trans hrgv
    have hDW : D < W.heap.size := (Array.getElem?_eq_some_iff.1 hK).1
    have f5 : ∀ k, k ≠ g → k ≠ b → k ≠ D → k ≠ gv → (((W2.drew.setCell ⟨g, s.pos, none⟩ (.slice none 0 0)).setCell ⟨b, 4, none⟩ (.int .i64 ((s.pos + 1 : Nat) : Int))).putObj D (.deferred none)).heap[k]? = W.heap[k]? := fun k q1 q2 q3 q4 => by
      rw [World.putObj_heap_other q3, Below.heap_setCell _ _ _ _ q2, Below.heap_setCell _ _ _ _ q1]
      exact h2o k q4
    have s5 : (((W2.drew.setCell ⟨g, s.pos, none⟩ (.slice none 0 0)).setCell ⟨b, 4, none⟩ (.int .i64 ((s.pos + 1 : Nat) : Int))).putObj D (.deferred none)).heap.size = W.heap.size := by
      rw [← h2s]; simp [World.setCell, World.putObj]
    have hcar : Dc.carry h s = { old := s.old.set s.pos [], young := Dc.pour h s.young (e :: c), pos := s.pos + 1 } := by unfold Dc.carry; rw [hc]
    have f4' : ∀ k, k ≠ g → k ≠ b → k ≠ gv → ((W2.drew.setCell ⟨g, s.pos, none⟩ (.slice none 0 0)).setCell ⟨b, 4, none⟩ (.int .i64 ((s.pos + 1 : Nat) : Int))).heap[k]? = W.heap[k]? := fun k q1 q2 q4 => by
      rw [Below.heap_setCell _ _ _ _ q2, Below.heap_setCell _ _ _ _ q1]
      exact h2o k q4
    have hrow : ∀ k, some D = some k → ∃ o : Obj, ((W2.drew.setCell ⟨g, s.pos, none⟩ (.slice none 0 0)).setCell ⟨b, 4, none⟩ (.int .i64 ((s.pos + 1 : Nat) : Int))).heap[k]? = some o ∧ o.isCells = false := fun k e' => by cases e'; exact ⟨_, hKD, rfl⟩
    refine ⟨?_, ⟨?_, ?_⟩, by rw [s5]; omega, fun k hk' hr => ?_⟩
    · rw [hcar]
      refine ⟨fun k hk => ?_, hr1b, .slice (some ⟨g, 0, none⟩) s.old.length ca, .slice (some ⟨yg, 0, none⟩) s.young.length cb, ?_, ?_, ?_⟩
      · rw [s5]
        rcases hTr.2.2.2.1 k hk with h' | ⟨_, h'⟩
        · have := hD.1 k h'; omega
        · exact h'
      · rw [World.putObj_heap_other (Ne.symm hDb)]
        have hb3 : (W2.drew.setCell ⟨g, s.pos, none⟩ (.slice none 0 0)).heap[b]? = _ := (Below.heap_setCell _ _ _ _ (Ne.symm hgb)).trans hb2
        exact cells_setCell hb3
      · exact (hTold.kept (w' := (W2.drew.setCell ⟨g, s.pos, none⟩ (.slice none 0 0)).setCell ⟨b, 4, none⟩ (.int .i64 ((s.pos + 1 : Nat) : Int))) (r' := r1) (fun k _ hr => ⟨Below.heap_setCell _ _ _ _ (fun e' => by rw [e', hr1b] at hr; simp at hr), rfl⟩)).turn (grownBy_putObj' _ D _) hrow
      · exact (hT.kept (w' := (W2.drew.setCell ⟨g, s.pos, none⟩ (.slice none 0 0)).setCell ⟨b, 4, none⟩ (.int .i64 ((s.pos + 1 : Nat) : Int))) (r' := r1) (fun k _ hr => ⟨f4' k (fun e' => by rw [e', hr1g] at hr; simp at hr) (fun e' => by rw [e', hr1b] at hr; simp at hr) (fun e' => by rw [e', hr1v] at hr; simp at hr), rfl⟩)).turn (grownBy_putObj' _ D _) hrow
    · exact h2w.1.trans (hTr.1.1.trans hB0.os)
    · exact ⟨h2w.2.1.trans (hTr.1.2.1.trans hB0.tape), h2w.2.2.trans (hTr.1.2.2.trans hB0.output)⟩
    · have q := hold k hk' (by rw [hr]; simp) (by rw [hr]; simp)
      exact ⟨(f5 k (fun e' => by rw [e', hrg] at hr; simp at hr) (fun e' => by rw [e', hrb] at hr; simp at hr) (by omega) (fun e' => by rw [e', hrgv] at hr; simp at hr)).trans q.1, q.2.trans hr⟩
  case stop =>
    rintro D c pre W _ _ h _
    exact h.elim
end Go.Proofs.YtlfpkbjiofelkaaGreat

/-
  What a change of one entry makes of a table: plain mathematics, and the memory.
-/
namespace Go.Proofs.YtlfpkbjiofelkaaGreat
open Go.RowKit Go.Shelf
theorem split_at {α : Type} {l : List α} {p : Nat} {a : α} (h : l[p]? = some a) : l = l.take p ++ a :: l.drop (p + 1) := by
  have hl := (List.getElem?_eq_some_iff.1 h).1
  rw [List.getElem?_eq_getElem hl] at h
  rw [← Option.some.inj h, ← List.drop_eq_getElem_cons hl, List.take_append_drop]
theorem rest_ne {l : List Ent} {p : Nat} {key : ByteArray} {x : Unit} (hn : (Dc.keys l).Nodup) (h : l[p]? = some (key, x)) : (∀ e ∈ l.take p, e.1 ≠ key) ∧ ∀ e ∈ l.drop (p + 1), e.1 ≠ key := by
  have hs := split_at h
  rw [hs] at hn
  simp only [Dc.keys, List.map_append, List.map_cons] at hn
  obtain ⟨_, h2, h3⟩ := List.nodup_append.1 hn
  obtain ⟨h4, _⟩ := List.nodup_cons.1 h2
  refine ⟨fun e he hk => h3 e.1 (List.mem_map.2 ⟨e, he, rfl⟩) key (by simp) hk, fun e he hk => h4 (List.mem_map.2 ⟨e, he, hk⟩)⟩
theorem map_same {α : Type} {f : α → α} {l : List α} (h : ∀ e ∈ l, f e = e) : l.map f = l := by
  conv => rhs; rw [← List.map_id l]
  exact List.map_congr_left h
theorem keys_rev {c : List Ent} (hn : (Dc.keys c).Nodup) : (Dc.keys c.reverse).Nodup := by
  unfold Dc.keys at *
  rw [List.map_reverse]
  exact (List.reverse_perm _).nodup_iff.2 hn
theorem alter_at {c : List Ent} {p : Nat} {key : ByteArray} {x v : Unit} (hn : (Dc.keys c).Nodup) (h : c.reverse[p]? = some (key, x)) : (c.reverse.set p (key, v)).reverse = Dc.alter key v c := by
  obtain ⟨h1, h2⟩ := rest_ne (keys_rev hn) h
  have hs := split_at h
  have e1 : c.reverse.set p (key, v) = Dc.alter key v c.reverse := by
    have hl := (List.getElem?_eq_some_iff.1 h).1
    rw [List.set_eq_take_append_cons_drop, if_pos hl]
    unfold Dc.alter
    conv => rhs; rw [hs]
    rw [List.map_append, List.map_cons, if_pos rfl]
    congr 1
    · exact (map_same (fun e he => if_neg (h1 e he))).symm
    · congr 1
      exact (map_same (fun e he => if_neg (h2 e he))).symm
  rw [e1]
  unfold Dc.alter
  rw [List.map_reverse, List.reverse_reverse]
theorem without_at {c : List Ent} {p : Nat} {key : ByteArray} {x : Unit} (hn : (Dc.keys c).Nodup) (h : c.reverse[p]? = some (key, x)) : (c.reverse.eraseIdx p).reverse = Dc.without key c := by
  obtain ⟨h1, h2⟩ := rest_ne (keys_rev hn) h
  have hs := split_at h
  have e1 : c.reverse.eraseIdx p = Dc.without key c.reverse := by
    rw [List.eraseIdx_eq_take_drop_succ]
    unfold Dc.without
    conv => rhs; rw [hs]
    rw [List.filter_append, List.filter_cons, if_neg (by simp), List.filter_eq_self.2 (fun e he => decide_eq_true (h1 e he)), List.filter_eq_self.2 (fun e he => decide_eq_true (h2 e he))]
  rw [e1]
  unfold Dc.without
  rw [List.filter_reverse, List.reverse_reverse]
theorem chain_nodup {h : ByteArray → Nat} {s : Dc.St ByteArray Unit} (hI : Dc.Inv h s) {T : Dc.Tab ByteArray Unit} (hT : T = s.old ∨ T = s.young) {c : List Ent} (hc : c ∈ T) : (Dc.keys c).Nodup := by
  have hn := hI.nodup
  simp only [Dc.keys, List.map_append] at hn
  obtain ⟨h0, h1, _⟩ := List.nodup_append.1 hn
  have hsl : (Dc.keys c).Sublist (Dc.keys T.flatten) := (List.sublist_flatten_of_mem hc).map _
  rcases hT with rfl | rfl
  · exact hsl.nodup h0
  · exact hsl.nodup h1
theorem mod_set {T : Dc.Tab ByteArray Unit} {i : Nat} {c : List Ent} (f : List Ent → List Ent) (hc : T[i]? = some c) : T.modify i f = T.set i (f c) := by
  rw [List.modify_eq_set, hc]; rfl
theorem every_old {h : ByteArray → Nat} {s : Dc.St ByteArray Unit} (hI : Dc.Inv h s) {key : ByteArray} {x : Unit} {c : List Ent} (f : List Ent → List Ent) (hf : ∀ c : List Ent, (∀ e ∈ c, e.1 ≠ key) → f c = c) (hc : s.old[h key % s.old.length]? = some c) (hx : (key, x) ∈ c) :
    Dc.every f s = { s with old := s.old.set (h key % s.old.length) (f c) } := by
  unfold Dc.every
  rw [← Dc.modify_map hI.put0 key f hf, mod_set f hc]
  congr 1
  refine map_same (fun d hd => hf d (fun e he hk => ?_))
  have hn := hI.nodup
  simp only [Dc.keys, List.map_append] at hn
  exact (List.nodup_append.1 hn).2.2 key (List.mem_map.2 ⟨(key, x), List.mem_flatten.2 ⟨c, List.mem_of_getElem? hc, hx⟩, rfl⟩) e.1 (List.mem_map.2 ⟨e, List.mem_flatten.2 ⟨d, hd, he⟩, rfl⟩) hk.symm
theorem every_young {h : ByteArray → Nat} {s : Dc.St ByteArray Unit} (hI : Dc.Inv h s) {key : ByteArray} {x : Unit} {c : List Ent} (f : List Ent → List Ent) (hf : ∀ c : List Ent, (∀ e ∈ c, e.1 ≠ key) → f c = c) (hc : s.young[h key % s.young.length]? = some c) (hx : (key, x) ∈ c) :
    Dc.every f s = { s with young := s.young.set (h key % s.young.length) (f c) } := by
  unfold Dc.every
  rw [← Dc.modify_map hI.put1 key f hf, mod_set f hc]
  congr 1
  refine map_same (fun d hd => hf d (fun e he hk => ?_))
  have hn := hI.nodup
  simp only [Dc.keys, List.map_append] at hn
  exact (List.nodup_append.1 hn).2.2 e.1 (List.mem_map.2 ⟨e, List.mem_flatten.2 ⟨d, hd, he⟩, rfl⟩) key (List.mem_map.2 ⟨(key, x), List.mem_flatten.2 ⟨c, List.mem_of_getElem? hc, hx⟩, rfl⟩) hk
theorem look_found {h : ByteArray → Nat} {s : Dc.St ByteArray Unit} (hI : Dc.Inv h s) {T : Dc.Tab ByteArray Unit} (hT : T = s.old ∨ T = s.young) {key : ByteArray} {x : Unit} {c : List Ent} (hc : c ∈ T) (hx : (key, x) ∈ c) : Dc.look key (Dc.all s) = some x := by
  rw [Dc.all_eq hI]
  refine (Dc.look_mem hI.nodup key x).2 (List.mem_append.2 ?_)
  rcases hT with rfl | rfl
  · exact .inl (List.mem_flatten.2 ⟨c, hc, hx⟩)
  · exact .inr (List.mem_flatten.2 ⟨c, hc, hx⟩)
theorem look_missed {h : ByteArray → Nat} {s : Dc.St ByteArray Unit} (hI : Dc.Inv h s) {key : ByteArray} (h0 : ∀ x ∈ Dc.chain h s.old key, x.1 ≠ key) (h1 : ∀ x ∈ Dc.chain h s.young key, x.1 ≠ key) : Dc.look key (Dc.all s) = none := by
  rw [← Dc.seek hI key]
  have n0 : Dc.look key (Dc.chain h s.old key) = none := (Dc.look_none key).2 (fun hm => by obtain ⟨e, he, hk⟩ := List.mem_map.1 hm; exact h0 e he hk)
  have n1 : Dc.look key (Dc.chain h s.young key) = none := (Dc.look_none key).2 (fun hm => by obtain ⟨e, he, hk⟩ := List.mem_map.1 hm; exact h1 e he hk)
  rw [n0, n1]; rfl
/- the memory -/
/-- a chain turns within its own block -/
theorem Tb.swap {w w' : World} {r : Roles} {t g cap n i : Nat} {T : Dc.Tab ByteArray Unit} {c c' : List Ent} {v : Value} (h : Tb w r t (.slice (some ⟨g, 0, none⟩) n cap) T) (hi : T[i]? = some c) (hv : w.cell? ⟨g, i, none⟩ = some v) (hC : Chn w' v c') (hr : ∀ k, v.ownBlock = some k → r k = (3 + t, i))
    (hk : ∀ k, k < w.heap.size → v.ownBlock ≠ some k → w'.heap[k]? = w.heap[k]?) : Tb w' r t (.slice (some ⟨g, 0, none⟩) n cap) (T.set i c') := by
  obtain ⟨vs, h1, h2, h3⟩ := h
  have hil : i < T.length := (List.getElem?_eq_some_iff.1 hi).1
  have hvg : v.ownBlock ≠ some g := fun e => by have := hr g e; rw [h2 g rfl] at this; simp at this
  refine ⟨vs, by rw [List.length_set]; exact own_kept h1 (fun k e => hk k (own_lt h1 e) (by cases e; exact hvg)), h2, fun j d hd => ?_⟩
  rw [List.getElem?_set] at hd
  by_cases hij : i = j
  · subst hij
    rw [if_pos rfl, if_pos hil] at hd
    cases hd
    obtain ⟨v', e1, e2, e3⟩ := h3 i c hi
    have := h1.cells (g := g) rfl i v' e1
    rw [show (⟨g, 0, none⟩ : Addr).add i = ⟨g, i, none⟩ by unfold Addr.add; split <;> simp_all, hv] at this
    cases this
    exact ⟨v, e1, hC, e3⟩
  · rw [if_neg hij] at hd
    obtain ⟨v', e1, e2, e3⟩ := h3 j d hd
    refine ⟨v', e1, own_kept e2 (fun k e => hk k (own_lt e2 e) (fun e' => ?_)), e3⟩
    have a := e3 k e
    rw [hr k e'] at a
    simp at a
    exact hij a
end Go.Proofs.YtlfpkbjiofelkaaGreat

/-
  Contracts over this program: in which table, in which bucket of it and at which place a key stands.
-/
namespace Go.Proofs.YtlfpkbjiofelkaaGreat
open Go.RowKit Go.Shelf
/-- what find hands back -/
def Sought (w : World) (r : Roles) (b : Nat) (s : Dc.St ByteArray Unit) (h : ByteArray → Nat) (key : ByteArray) (e : Ending) : Prop :=
  (e = .returned (.tuple #[.slice none 0 0, .int .i64 0, .int .i64 (-1)]) ∧ (∀ x ∈ Dc.chain h s.old key, x.1 ≠ key) ∧ ∀ x ∈ Dc.chain h s.young key, x.1 ≠ key) ∨
  ∃ (t g cap p : Nat) (T : Dc.Tab ByteArray Unit) (x : Unit), ((t = 0 ∧ T = s.old) ∨ (t = 1 ∧ T = s.young)) ∧ 0 < T.length ∧ Tb w r t (.slice (some ⟨g, 0, none⟩) T.length cap) T ∧ w.cell? ⟨b, 2 + t, none⟩ = some (.slice (some ⟨g, 0, none⟩) T.length cap) ∧ (Dc.chain h T key).reverse[p]? = some (key, x) ∧
    e = .returned (.tuple #[.slice (some ⟨g, 0, none⟩) T.length cap, .int .i64 ((h key % T.length : Nat) : Int), .int .i64 p])
theorem sought_at {w : World} {r : Roles} {b : Nat} {s : Dc.St ByteArray Unit} {h : ByteArray → Nat} {key : ByteArray} {t g cap p : Nat} {T : Dc.Tab ByteArray Unit} {x : Unit} (h1 : (t = 0 ∧ T = s.old) ∨ (t = 1 ∧ T = s.young)) (h2 : 0 < T.length) (h3 : Tb w r t (.slice (some ⟨g, 0, none⟩) T.length cap) T) (h5 : w.cell? ⟨b, 2 + t, none⟩ = some (.slice (some ⟨g, 0, none⟩) T.length cap)) (h4 : (Dc.chain h T key).reverse[p]? = some (key, x)) :
    Sought w r b s h key (.returned (.tuple #[.slice (some ⟨g, 0, none⟩) T.length cap, .int .i64 ((h key % T.length : Nat) : Int), .int .i64 p])) := .inr ⟨t, g, cap, p, T, x, h1, h2, h3, h5, h4, rfl⟩
theorem chain_none {h : ByteArray → Nat} {T : Dc.Tab ByteArray Unit} {key : ByteArray} (hT : T.length = 0) : ∀ x ∈ Dc.chain h T key, x.1 ≠ key := by
  rw [List.length_eq_zero_iff.1 hT]
  intro x hx
  simp [Dc.chain] at hx
theorem idx0 (a b : Option Addr) (n c m d : Nat) (w : World) : (Instr.index 127 (.agg #[.slice a n c, .slice b m d]) (.int .i64 0)).run Tryz.prog w = .ok (.slice a n c) w := by kernel_rfl
theorem idx1 (a b : Option Addr) (n c m d : Nat) (w : World) : (Instr.index 127 (.agg #[.slice a n c, .slice b m d]) (.int .i64 1)).run Tryz.prog w = .ok (.slice b m d) w := by kernel_rfl
set_option maxRecDepth 100000 in
set_option maxHeartbeats 2000000 in
theorem seek_any {h : ByteArray → Nat} {seed : Nat} (hH : HashIs seed h) (w : World) (r : Roles) (b n : Nat) (s : Dc.St ByteArray Unit) (key : ByteArray) (hD : Dct w r b seed n s) (hk : key.size ≤ maxLen) (hm0 : s.old.length ≤ maxLen) (hm1 : s.young.length ≤ maxLen) :
    Calls Tryz.prog 61 #[.pointer (some ⟨b, 0, none⟩), .string key] w fun e w' => Sought w r b s h key e ∧ Below w.heap.size w w' := by
  obtain ⟨ao, ca, bo, cb, h4, h5, h3⟩ := hD.cells
  obtain ⟨c0, c1, c2, c3, c4, cf⟩ := five h3
  have H4 := keep h4
  have H5 := keep h5
  have mH := (hH key hk).2 w
  clear h3 h4 h5 c1 c4 cf hD
  go_enter Tryz.func61, Tryz.ntmps61
  go_wp2_with fail
  refine mH.mono ?_
  rintro _ w' ⟨rfl, hw'⟩
  subst hw'
  go_wp2_with fail
  go_quiet (fail)
  go_wp2
  clear mH c0
  go_loopw [27] (fun i wr => ∃ k : Nat, k ≤ 2 ∧ i = .int .i64 k ∧ Kept (Below w'.heap.size w' wr) ∧ Kept (0 < k → ∀ x ∈ Dc.chain h s.old key, x.1 ≠ key) ∧ Kept (1 < k → ∀ x ∈ Dc.chain h s.young key, x.1 ≠ key)) (fun i _ => 2 - (intOf i).toNat)
  case atStart => exact ⟨0, by omega, rfl, below_drewN (Below.refl _ _) _, fun h => absurd h (by omega), fun h => absurd h (by omega)⟩
  case round =>
    obtain ⟨k, hk2, rfl, BW, N0, N1⟩ := hrel
    have hk3 : k = 0 ∨ k = 1 ∨ k = 2 := by omega
    rcases hk3 with rfl | rfl | rfl
    · have ix := idx0 ao bo s.old.length ca s.young.length cb wr
      by_cases hT0 : (s.old).length = 0
      · have e0 : ((s.old.length : Int) == 0) = true := by rw [hT0]; rfl
        have hnone := keep (chain_none (h := h) (key := key) hT0)
        clear hT0
        go_wp2
        go_roundw
        case measure => simp [intOf]
        case rel => exact ⟨1, by omega, rfl, BW, fun _ => hnone.out, fun h => absurd h (by omega)⟩
      · obtain ⟨g, cap, e5, hrg, hgl⟩ := H4.out.form (by omega)
        have e6 : ao = some ⟨g, 0, none⟩ := by injection e5
        clear e5
        subst e6
        have hlen : ((s.old.length : Int) == 0) = false := beq_eq_false_iff_ne.2 (by omega)
        have hlt : h key % s.old.length < s.old.length := Nat.mod_lt _ (by omega)
        obtain ⟨c, hc⟩ : ∃ c, s.old[h key % s.old.length]? = some c := ⟨_, List.getElem?_eq_getElem hlt⟩
        have hch : Dc.chain h s.old key = c := by unfold Dc.chain; rw [hc]; rfl
        obtain ⟨v, hv1, hv2, _⟩ := H4.out.at hc
        have mO := of_any wr (some ⟨g, 0, none⟩) s.old.length ca (h key) (by omega) hm0 (hH key hk).1
        have mF := cfind_any wr v c key (own_kept hv2 (fun k hk => BW.out.block k (own_lt hv2 hk)))
        have hcell : wr.cell? ⟨g, h key % s.old.length, none⟩ = some v := (BW.out.cell (p := ⟨g, h key % s.old.length, none⟩) hgl).trans hv1
        have HF := keep (fun (p : Nat) (x : Unit) (hp : c.reverse[p]? = some (key, x)) => sought_at (s := s) (key := key) (h := h) (t := 0) (T := s.old) (g := g) (cap := ca) (w := w') (r := r) (p := p) (x := x) (.inl ⟨rfl, rfl⟩) (by omega) H4.out c2 (by rw [hch]; exact hp))
        have HCH := keep hch
        clear hv1 hv2 hc hch
        generalize hix : h key % s.old.length = i at *
        have HIX := keep hix
        clear hix
        have hi0 : (0 : Int) ≤ (i : Int) := by omega
        have hi1 : (i : Int) < (s.old.length : Int) := by omega
        obtain ⟨wo, hwo⟩ : ∃ x, x = wr := ⟨_, rfl⟩
        subst hwo
        go_wp2_with fail
        refine mO.mono ?_
        rintro _ w' ⟨rfl, hw'⟩
        obtain rfl := hw'.symm
        go_wp2_with fail
        refine mF.mono ?_
        rintro _ w2 ⟨⟨q, rfl, hq⟩, hb2⟩
        have HB2 := keep hb2
        clear hb2 mO mF
        rcases hq with ⟨rfl, hno⟩ | ⟨p, x, rfl, hpl, hp⟩
        · have HNO := keep hno
          clear hno
          go_wp2
          go_roundw
          case measure => simp [intOf]
          case rel => exact ⟨1, by omega, rfl, BW.out.trans (HB2.out.mono BW.out.size), fun _ => by show ∀ x ∈ Dc.chain h s.old key, _; rw [HCH.out]; exact HNO.out, fun h => absurd h (by omega)⟩
        · have HP := keep hp
          clear hp
          have hp0 : (0 : Int) ≤ (p : Int) := by omega
          go_wp2
          refine bodyPost_ret (results_tmp3 rfl _ _ _) rfl ?_
          exact ⟨HF.out p x HP.out, BW.out.trans (HB2.out.mono BW.out.size)⟩
    · have ix := idx1 ao bo s.old.length ca s.young.length cb wr
      by_cases hT0 : (s.young).length = 0
      · have e0 : ((s.young.length : Int) == 0) = true := by rw [hT0]; rfl
        have hnone := keep (chain_none (h := h) (key := key) hT0)
        clear hT0
        go_wp2
        go_roundw
        case measure => simp [intOf]
        case rel => exact ⟨2, by omega, rfl, BW, fun _ => N0.out (by omega), fun _ => hnone.out⟩
      · obtain ⟨g, cap, e5, hrg, hgl⟩ := H5.out.form (by omega)
        have e6 : bo = some ⟨g, 0, none⟩ := by injection e5
        clear e5
        subst e6
        have hlen : ((s.young.length : Int) == 0) = false := beq_eq_false_iff_ne.2 (by omega)
        have hlt : h key % s.young.length < s.young.length := Nat.mod_lt _ (by omega)
        obtain ⟨c, hc⟩ : ∃ c, s.young[h key % s.young.length]? = some c := ⟨_, List.getElem?_eq_getElem hlt⟩
        have hch : Dc.chain h s.young key = c := by unfold Dc.chain; rw [hc]; rfl
        obtain ⟨v, hv1, hv2, _⟩ := H5.out.at hc
        have mO := of_any wr (some ⟨g, 0, none⟩) s.young.length cb (h key) (by omega) hm1 (hH key hk).1
        have mF := cfind_any wr v c key (own_kept hv2 (fun k hk => BW.out.block k (own_lt hv2 hk)))
        have hcell : wr.cell? ⟨g, h key % s.young.length, none⟩ = some v := (BW.out.cell (p := ⟨g, h key % s.young.length, none⟩) hgl).trans hv1
        have HF := keep (fun (p : Nat) (x : Unit) (hp : c.reverse[p]? = some (key, x)) => sought_at (s := s) (key := key) (h := h) (t := 1) (T := s.young) (g := g) (cap := cb) (w := w') (r := r) (p := p) (x := x) (.inr ⟨rfl, rfl⟩) (by omega) H5.out c3 (by rw [hch]; exact hp))
        have HCH := keep hch
        clear hv1 hv2 hc hch
        generalize hix : h key % s.young.length = i at *
        have HIX := keep hix
        clear hix
        have hi0 : (0 : Int) ≤ (i : Int) := by omega
        have hi1 : (i : Int) < (s.young.length : Int) := by omega
        obtain ⟨wo, hwo⟩ : ∃ x, x = wr := ⟨_, rfl⟩
        subst hwo
        go_wp2_with fail
        refine mO.mono ?_
        rintro _ w' ⟨rfl, hw'⟩
        obtain rfl := hw'.symm
        go_wp2_with fail
        refine mF.mono ?_
        rintro _ w2 ⟨⟨q, rfl, hq⟩, hb2⟩
        have HB2 := keep hb2
        clear hb2 mO mF
        rcases hq with ⟨rfl, hno⟩ | ⟨p, x, rfl, hpl, hp⟩
        · have HNO := keep hno
          clear hno
          go_wp2
          go_roundw
          case measure => simp [intOf]
          case rel => exact ⟨2, by omega, rfl, BW.out.trans (HB2.out.mono BW.out.size), fun _ => N0.out (by omega), fun _ => by show ∀ x ∈ Dc.chain h s.young key, _; rw [HCH.out]; exact HNO.out⟩
        · have HP := keep hp
          clear hp
          have hp0 : (0 : Int) ≤ (p : Int) := by omega
          go_wp2
          refine bodyPost_ret (results_tmp3 rfl _ _ _) rfl ?_
          exact ⟨HF.out p x HP.out, BW.out.trans (HB2.out.mono BW.out.size)⟩
    · go_wp2
      refine bodyPost_ret (results_tmp3 rfl _ _ _) rfl ?_
      exact ⟨.inl ⟨rfl, N0.out (by omega), N1.out (by omega)⟩, BW.out⟩
end Go.Proofs.YtlfpkbjiofelkaaGreat

/-
  Contracts over this program: a step.
-/
namespace Go.Proofs.YtlfpkbjiofelkaaGreat
open Go.RowKit Go.Shelf
/-- the roles when young becomes old -/
def shiftR (r : Roles) : Roles := fun k => if (r k).1 = 2 ∨ (r k).1 = 4 then ((r k).1 - 1, (r k).2) else if (r k).1 = 1 ∨ (r k).1 = 3 then (9, 0) else r k
theorem shiftR_zero {r : Roles} {k : Nat} (h : r k = (0, 0)) : shiftR r k = (0, 0) := by unfold shiftR; rw [h]; simp
theorem shiftR_ne {r : Roles} {k : Nat} (h : shiftR r k ≠ (0, 0)) : r k ≠ (0, 0) := fun e => h (shiftR_zero e)
theorem Tb.shift {w w' : World} {r : Roles} {tv : Value} {T : Dc.Tab ByteArray Unit} (h : Tb w r 1 tv T) (hk : ∀ k, k < w.heap.size → ((r k).1 = 2 ∨ (r k).1 = 4) → w'.heap[k]? = w.heap[k]?) : Tb w' (shiftR r) 0 tv T := by
  obtain ⟨vs, h1, h2, h3⟩ := h
  refine ⟨vs, own_kept h1 (fun k e => hk k (own_lt h1 e) (.inl (by rw [h2 k e]))), fun k e => ?_, fun i c hc => ?_⟩
  · unfold shiftR; rw [h2 k e]; simp
  · obtain ⟨v, e1, e2, e3⟩ := h3 i c hc
    refine ⟨v, e1, own_kept e2 (fun k e => hk k (own_lt e2 e) (.inr (by rw [e3 k e]))), fun k e => ?_⟩
    unfold shiftR; rw [e3 k e]; simp
theorem Tb.new {w : World} {r : Roles} {t : Nat} : Tb w r t (.slice none 0 0) [] := ⟨[], ⟨rfl, .inl ⟨rfl, rfl⟩⟩, (fun k e => by cases e), (fun i c hc => by simp at hc)⟩
theorem shift_mem {w w' : World} {r : Roles} {b seed n : Nat} {s : Dc.St ByteArray Unit} {yv : Value} (hD : Dct w r b seed n s) (hy : Tb w r 1 yv s.young) (ho : Only b w w') (hb : w'.heap[b]? = some (.cells #[.int .u64 seed, .int .i64 n, yv, .slice none 0 0, .int .i64 0] 88 (0, 0))) :
    Dct w' (shiftR r) b seed n { old := s.young, young := [], pos := 0 } ∧ Fr w r w' (shiftR r) := by
  have hrb := hD.2.1
  refine ⟨⟨fun k hk => by rw [ho.2.1]; exact hD.1 k (shiftR_ne hk), by unfold shiftR; rw [hrb]; simp, yv, .slice none 0 0, hb, ?_, Tb.new⟩, ho.1, by rw [ho.2.1]; exact Nat.le_refl _, fun k _ hr => ⟨ho.2.2 k (fun e => by rw [e, hrb] at hr; simp at hr), shiftR_zero hr⟩⟩
  exact hy.shift (fun k _ hr => ho.2.2 k (fun e => by rw [e, hrb] at hr; simp at hr))
theorem set3 {a0 a1 a2 a3 a4 u2 u3 u4 : Value} : (((#[a0, a1, a2, a3, a4] : Array Value).setIfInBounds 2 u2).setIfInBounds 3 u3).setIfInBounds 4 u4 = #[a0, a1, u2, u3, u4] := rfl
theorem set3_mem {w : World} {b : Nat} {a0 a1 a2 a3 a4 u2 u3 u4 : Value} {t : TypeId} {fr : Nat × Nat} (h : w.heap[b]? = some (.cells #[a0, a1, a2, a3, a4] t fr)) : (((w.setCell ⟨b, 2, none⟩ u2).setCell ⟨b, 3, none⟩ u3).setCell ⟨b, 4, none⟩ u4).heap[b]? = some (.cells #[a0, a1, u2, u3, u4] t fr) :=
  cells_setCell (cells_setCell (cells_setCell h))
theorem step_done {h : ByteArray → Nat} {s : Dc.St ByteArray Unit} (hne : s.young ≠ []) {s' : Dc.St ByteArray Unit} (hs : Dc.shift (Dc.carry h { s with pos := Dc.skip 10 s.old s.pos }) = s') : Dc.step h s = s' := by
  unfold Dc.step
  rw [if_neg (by rw [Dc.empty_iff]; exact hne)]
  exact hs
theorem carry_not {h : ByteArray → Nat} {s : Dc.St ByteArray Unit} (hc : s.old[s.pos]? = none ∨ s.old[s.pos]? = some []) : Dc.carry h s = s := by
  unfold Dc.carry
  rcases hc with hc | hc <;> rw [hc]
theorem shift_is {s s' : Dc.St ByteArray Unit} (hc : s' = s) (hp : s.pos = s.old.length) : Dc.shift s' = { old := s.young, young := [], pos := 0 } := by
  rw [hc]; unfold Dc.shift; rw [if_pos hp]
theorem shift_not {s s' : Dc.St ByteArray Unit} (hc : s' = s) (hp : ¬ s.pos = s.old.length) : Dc.shift s' = s := by
  rw [hc]; unfold Dc.shift; rw [if_neg hp]
set_option maxRecDepth 100000 in
set_option maxHeartbeats 2000000 in
theorem step_any {h : ByteArray → Nat} {seed : Nat} (hH : HashIs seed h) (w : World) (r : Roles) (b n : Nat) (s : Dc.St ByteArray Unit) (hD : Dct w r b seed n s) (hI : Dc.Inv h s)
    (hm0 : s.old.length ≤ maxLen) (hm1 : s.young.length ≤ maxLen) (hk : ∀ x ∈ s.old.flatten, x.1.size ≤ maxLen) (hl : s.young.flatten.length + s.old.flatten.length ≤ 2600000000000) :
    Calls Tryz.prog 60 #[.pointer (some ⟨b, 0, none⟩)] w fun x w' => x = .returned (.tuple #[]) ∧ ∃ r', Dct w' r' b seed n (Dc.step h s) ∧ Fr w r w' r' := by
  obtain ⟨ao, ca, bo, cb, h4, h5, h3⟩ := hD.cells
  obtain ⟨c0, c1, c2, c3, c4, cf⟩ := five h3
  have mM := moving_any w b bo _ cb c3
  by_cases hy0 : s.young = []
  · have hd : decide (0 < s.young.length) = false := by rw [hy0]; rfl
    rw [hd] at mM
    have hst := Dc.step_still h hy0
    have HD := keep hD
    clear hD hI h4 h5 h3 c0 c1 c2 c3 c4 cf hk
    go_enter Tryz.func60, Tryz.ntmps60
    go_wp2_with fail
    refine mM.mono ?_
    rintro _ w' ⟨rfl, rfl⟩
    go_wp2
    refine bodyPost_ret (results_none rfl _ _ _) rfl ?_
    exact ⟨rfl, r, by rw [hst]; exact HD.out, Fr.refl _ _⟩
  · have hyl : 0 < s.young.length := by cases hs : s.young with | nil => exact absurd hs hy0 | cons _ _ => simp
    have hd : decide (0 < s.young.length) = true := decide_eq_true hyl
    rw [hd] at mM
    have hpos := hI.move hy0
    have mP := pass_any w r b seed n s hD (by omega) hm0
    have hrb := hD.2.1
    have hsk := Dc.skip_len 10 s.old s.pos (by omega)
    have HST := keep (fun s' => step_done (h := h) (s := s) hy0 (s' := s'))
    have HFR := keep (fun w' (ho : Only b w w') => Only.fr (r := r) ho hrb)
    generalize hs1 : ({ s with pos := Dc.skip 10 s.old s.pos } : Dc.St ByteArray Unit) = s1 at mP HST
    have eo : s1.old = s.old := by rw [← hs1]
    have ey : s1.young = s.young := by rw [← hs1]
    have ep : s1.pos = Dc.skip 10 s.old s.pos := by rw [← hs1]
    clear hs1
    rw [← ep] at hsk
    rw [← eo] at hm0 hk hl hsk
    rw [← ey] at hm1 hl hyl
    clear hD hI h4 h5 h3 c0 c1 c2 c3 c4 cf hpos eo ey ep hd
    go_enter Tryz.func60, Tryz.ntmps60
    go_wp2_with fail
    refine mM.mono ?_
    rintro _ w' ⟨rfl, hw'⟩
    subst hw'
    go_wp2_with fail
    refine mP.mono ?_
    rintro _ w1 ⟨rfl, hD1, ho1⟩
    clear mM mP
    obtain ⟨ao, ca, bo, cb, h4, h5, h3⟩ := hD1.cells
    obtain ⟨c0, c1, c2, c3, c4, cf⟩ := five h3
    have HF1 := keep (HFR.out _ ho1)
    have HD1 := keep hD1
    have H3 := keep h3
    have H4 := keep h4
    have H5 := keep h5
    have f2 := cf 2
    have f3 := cf 3
    have f4 := cf 4
    clear hD1 h3 h4 h5 cf c0 c1 ho1
    rcases Nat.lt_or_ge s1.pos s1.old.length with hlt | hge
    · have he : ((s1.pos : Int) == (s1.old.length : Int)) = false := beq_eq_false_iff_ne.2 (by omega)
      have hlt' : (s1.pos : Int) < (s1.old.length : Int) := by omega
      have hp0 : (0 : Int) ≤ (s1.pos : Int) := by omega
      obtain ⟨g, ca', e4, hrg, hgl⟩ := H4.out.form (by omega)
      have e5 : ao = some ⟨g, 0, none⟩ := by injection e4
      subst e5
      clear e4
      obtain ⟨c, hc⟩ : ∃ c, s1.old[s1.pos]? = some c := ⟨_, List.getElem?_eq_getElem hlt⟩
      obtain ⟨v, hv1, hv2, _⟩ := H4.out.at hc
      obtain ⟨co, cc, rfl⟩ := chn_len hv2
      clear hv2
      cases c with
      | nil =>
        have hcar := keep (shift_not (carry_not (h := h) (.inr hc)) (by omega))
        have hv1 : w1.cell? ⟨g, s1.pos, none⟩ = some (.slice co 0 cc) := hv1
        clear hc
        go_wp2_with fail
        go_region
        go_wp2_with fail
        go_region
        go_wp2
        go_end0
        exact ⟨rfl, r, by rw [HST.out _ hcar.out]; exact HD1.out.below (Below.refl _ _).drew.drew, HF1.out⟩
      | cons e c =>
        have mV := move_any hH w1.drew r b n s1 e c (HD1.out.below (Below.refl _ _).drew) hc hyl hm0 hm1 (fun x hx => hk x (List.mem_flatten.2 ⟨_, List.mem_of_getElem? hc, hx⟩)) (by have := (List.sublist_flatten_of_mem (List.mem_of_getElem? hc)).length_le; omega)
        have hcar : (Dc.carry h s1).old.length = s1.old.length ∧ (Dc.carry h s1).pos = s1.pos + 1 := by unfold Dc.carry; rw [hc]; simp
        generalize Dc.carry h s1 = s2 at mV hcar HST
        have hz : decide (0 < (e :: c).length) = true := by simp
        generalize (e :: c).length = m at *
        clear hc
        go_wp2_with fail
        go_region
        go_wp2_with fail
        refine mV.mono ?_
        rintro _ w2 ⟨rfl, r2, hD2, hF2⟩
        clear mV
        have HF2 := keep hF2
        have HD2 := keep hD2
        obtain ⟨ao2, ca2, bo2, cb2, h4, h5, h3⟩ := hD2.cells
        obtain ⟨c0, c1, d2, d3, d4, cf⟩ := five h3
        have K3 := keep h3
        have K5 := keep h5
        have f2' := cf 2
        have f3' := cf 3
        have f4' := cf 4
        have hlen := hcar.1
        have hpo := keep hcar.2
        clear hD2 h3 h4 h5 cf c0 c1 hF2 hcar c2 c3 c4 f2 f3 f4 hv1
        by_cases hend : s2.pos = s2.old.length
        · have he2 : ((s2.pos : Int) == (s2.old.length : Int)) = true := by rw [hend]; simp
          have hsh := keep (shift_is rfl hend)
          clear hend he hlen
          go_wp2_with fail
          go_region
          go_wp2
          go_end0
          obtain ⟨q1, q2⟩ := shift_mem HD2.out K5.out (((((Only.refl b w2).drew).setCell 2 (.slice bo2 s2.young.length cb2)).setCell 3 (.slice none 0 0)).setCell 4 (.int .i64 0)) (set3_mem K3.out)
          exact ⟨rfl, _, by rw [HST.out _ hsh.out]; exact q1, (HF1.out.trans (Fr.of_below (Below.refl _ _).drew)).trans (HF2.out.trans q2)⟩
        · have he2 : ((s2.pos : Int) == (s2.old.length : Int)) = false := beq_eq_false_iff_ne.2 (by omega)
          have hsh := keep (shift_not rfl hend)
          clear hend he hlen
          go_wp2_with fail
          go_region
          go_wp2
          go_end0
          exact ⟨rfl, r2, by rw [HST.out _ hsh.out]; exact HD2.out.below (Below.refl _ _).drew, (HF1.out.trans (Fr.of_below (Below.refl _ _).drew)).trans (HF2.out.trans (Fr.of_below (Below.refl _ _).drew))⟩
    · have hpe : s1.pos = s1.old.length := by omega
      have he : ((s1.pos : Int) == (s1.old.length : Int)) = true := by rw [hpe]; simp
      have hlt' : ¬ (s1.pos : Int) < (s1.old.length : Int) := by omega
      have hcar := keep (shift_is (carry_not (h := h) (.inl (List.getElem?_eq_none (by omega)))) hpe)
      have hlt2 : ¬ s1.pos < s1.old.length := by omega
      clear hpe hge
      go_wp2_with fail
      go_region
      go_wp2_with fail
      go_region
      go_wp2
      go_end0
      obtain ⟨q1, q2⟩ := shift_mem HD1.out H5.out (((((Only.refl b w1).drew.drew).setCell 2 (.slice bo s1.young.length cb)).setCell 3 (.slice none 0 0)).setCell 4 (.int .i64 0)) (set3_mem H3.out)
      exact ⟨rfl, _, by rw [HST.out _ hcar.out]; exact q1, HF1.out.trans q2⟩
end Go.Proofs.YtlfpkbjiofelkaaGreat

namespace Go.Proofs.YtlfpkbjiofelkaaGreat
open Go.RowKit Go.Shelf
/-- N: a bound of the keys that there were -/
def Okd (h : ByteArray → Nat) (N : Nat) (s : Dc.St ByteArray Unit) : Prop :=
  Dc.Inv h s ∧ (∀ e ∈ Dc.all s, e.1.size ≤ maxLen) ∧ (Dc.all s).length ≤ N ∧ s.old.length ≤ 2 * N + 4 ∧ s.young.length ≤ 2 * N + 4
theorem Okd.more {h : ByteArray → Nat} {N N' : Nat} {s : Dc.St ByteArray Unit} (hO : Okd h N s) (hN : N ≤ N') : Okd h N' s := ⟨hO.1, hO.2.1, Nat.le_trans hO.2.2.1 hN, by have := hO.2.2.2.1; omega, by have := hO.2.2.2.2; omega⟩
theorem okd_none (h : ByteArray → Nat) (N : Nat) : Okd h N Dc.none0 := ⟨Dc.none0_inv h, fun e he => by simp [Dc.all, Dc.none0] at he, by simp [Dc.all, Dc.none0], by simp [Dc.none0], by simp [Dc.none0]⟩
theorem okd_step {h : ByteArray → Nat} {N : Nat} {s : Dc.St ByteArray Unit} (hO : Okd h N s) : Okd h N (Dc.step h s) ∧ (Dc.all (Dc.step h s)).length = (Dc.all s).length := by
  obtain ⟨h1, h2, h3, h4, h5⟩ := hO
  obtain ⟨q1, q2⟩ := Dc.step_inv h1
  refine ⟨⟨q1, fun e he => h2 e (q2.mem_iff.1 he), by rw [q2.length_eq]; exact h3, ?_, ?_⟩, q2.length_eq⟩
  · by_cases hy : s.young = []
    · rw [Dc.step_still h hy]; exact h4
    · rcases Dc.step_little h1 hy with ⟨_, _, e⟩ | ⟨_, _, e, _⟩
      · rw [e]; exact h5
      · rw [e]; exact h4
  · by_cases hy : s.young = []
    · rw [Dc.step_still h hy]; exact h5
    · rcases Dc.step_little h1 hy with ⟨e, _, _⟩ | ⟨_, _, _, e⟩
      · rw [e]; simp
      · rw [e]; exact h5
theorem fitF_le2 (f : Nat) : ∀ m n : Nat, Dc.fitF f m n ≤ max m (2 * n) := by
  induction f with
  | zero => intro m n; simp only [Dc.fitF]; omega
  | succ f ih =>
    intro m n
    simp only [Dc.fitF]
    split
    · have := ih (2 * m) n; omega
    · omega
theorem fit_le2 (n : Nat) : Dc.fit n ≤ 2 * n + 4 := by have := fitF_le2 n 4 n; unfold Dc.fit; omega
theorem grow_len {n N : Nat} {s : Dc.St ByteArray Unit} (hn : n ≤ N) (h4 : s.old.length ≤ 2 * N + 4) (h5 : s.young.length ≤ 2 * N + 4) : (Dc.grow n s).old.length ≤ 2 * N + 4 ∧ (Dc.grow n s).young.length ≤ 2 * N + 4 := by
  unfold Dc.grow
  split
  · exact ⟨by simp, by simp⟩
  · split
    · rename_i hc
      rw [Bool.and_eq_true, decide_eq_true_iff] at hc
      refine ⟨h4, ?_⟩
      rw [List.length_replicate]; omega
    · exact ⟨h4, h5⟩
theorem lay_len {h : ByteArray → Nat} {M : Nat} {s : Dc.St ByteArray Unit} {e : Ent} (hh : s.old.length ≤ M ∧ s.young.length ≤ M) : (Dc.lay h s e).old.length ≤ M ∧ (Dc.lay h s e).young.length ≤ M := by
  unfold Dc.lay
  split
  · exact ⟨by rw [Dc.push_len]; exact hh.1, hh.2⟩
  · exact ⟨hh.1, by rw [Dc.push_len]; exact hh.2⟩
theorem okd_set {h : ByteArray → Nat} {N : Nat} {s : Dc.St ByteArray Unit} (hO : Okd h N s) {key : ByteArray} (hk : key.size ≤ maxLen) (v : Unit) : Okd h (N + 1) (Dc.set h s key v).1 := by
  obtain ⟨h1, h2, h3, h4, h5⟩ := hO
  obtain ⟨q1, q2, q3, q4⟩ := Dc.set_inv h1 key v
  have hS := (okd_step ⟨h1, h2, h3, h4, h5⟩).1
  refine ⟨q1, fun e he => ?_, by rw [q4]; split <;> omega, ?_⟩
  · have hn : (Dc.keys (Dc.all (Dc.set h s key v).1)).Nodup := by rw [Dc.all_eq q1]; exact q1.nodup
    have hl := (Dc.look_mem hn e.1 e.2).2 he
    rw [q3] at hl
    by_cases hke : e.1 = key
    · rw [hke]; exact hk
    · rw [if_neg hke] at hl
      have hn1 : (Dc.keys (Dc.all s)).Nodup := by rw [Dc.all_eq h1]; exact h1.nodup
      exact h2 e ((Dc.look_mem hn1 e.1 e.2).1 hl)
  · obtain ⟨_, _, s3, s4, s5⟩ := hS
    unfold Dc.set
    split
    · unfold Dc.every
      simp only [List.length_map]
      omega
    · have := grow_len (n := (Dc.all (Dc.step h s)).length) (N := N + 1) (s := Dc.step h s) (by omega) (by omega) (by omega)
      exact lay_len this
theorem okd_delete {h : ByteArray → Nat} {N : Nat} {s : Dc.St ByteArray Unit} (hO : Okd h N s) (key : ByteArray) : Okd h N (Dc.delete h s key).1 := by
  obtain ⟨h1, h2, h3, h4, h5⟩ := hO
  obtain ⟨q1, q2, q3, q4⟩ := Dc.delete_inv h1 key
  have hS := (okd_step ⟨h1, h2, h3, h4, h5⟩).1
  refine ⟨q1, fun e he => ?_, by rw [q4]; omega, ?_⟩
  · have hn : (Dc.keys (Dc.all (Dc.delete h s key).1)).Nodup := by rw [Dc.all_eq q1]; exact q1.nodup
    have hl := (Dc.look_mem hn e.1 e.2).2 he
    rw [q3] at hl
    by_cases hke : e.1 = key
    · rw [if_pos hke] at hl; cases hl
    · rw [if_neg hke] at hl
      have hn1 : (Dc.keys (Dc.all s)).Nodup := by rw [Dc.all_eq h1]; exact h1.nodup
      exact h2 e ((Dc.look_mem hn1 e.1 e.2).1 hl)
  · obtain ⟨_, _, s3, s4, s5⟩ := hS
    unfold Dc.delete
    split
    · unfold Dc.shrink
      split
      · have := fit_le2 ((Dc.all (Dc.step h s)).length - 1)
        unfold Dc.every
        simp only [List.length_map, List.length_replicate]
        omega
      · unfold Dc.every
        simp only [List.length_map]
        omega
    · exact ⟨s4, s5⟩
/-- an entry is taken out; n: the keys that were counted -/
theorem del_mem {h : ByteArray → Nat} {w w3 : World} {r : Roles} {b seed n : Nat} {s : Dc.St ByteArray Unit} {key : ByteArray} {t g cap p gc cc m : Nat} {T : Dc.Tab ByteArray Unit} {x : Unit} {c : List Ent} (hI : Dc.Inv h s) (hD : Dct w r b seed n s) (hT : (t = 0 ∧ T = s.old) ∨ (t = 1 ∧ T = s.young)) (hTb : Tb w r t (.slice (some ⟨g, 0, none⟩) T.length cap) T) (hfc : w.cell? ⟨b, 2 + t, none⟩ = some (.slice (some ⟨g, 0, none⟩) T.length cap))
    (hc : T[h key % T.length]? = some c) (hp : c.reverse[p]? = some (key, x)) (hr : r gc = (3 + t, h key % T.length)) (ho : Only gc w w3) (hC : Chn w3 (.slice (some ⟨gc, 0, none⟩) m cc) (c.reverse.eraseIdx p).reverse) :
    Dct ((w3.setCell ⟨g, h key % T.length, none⟩ (.slice (some ⟨gc, 0, none⟩) m cc)).setCell ⟨b, 1, none⟩ (.int .i64 ((n - 1 : Nat) : Int))) r b seed (n - 1) (Dc.every (Dc.without key) s) ∧ Fr w r ((w3.setCell ⟨g, h key % T.length, none⟩ (.slice (some ⟨gc, 0, none⟩) m cc)).setCell ⟨b, 1, none⟩ (.int .i64 ((n - 1 : Nat) : Int))) r := by
  have hcm : c ∈ T := List.mem_of_getElem? hc
  have hxm : (key, x) ∈ c := List.mem_reverse.1 (List.mem_of_getElem? hp)
  have hnd := chain_nodup hI (T := T) (hT.imp (fun h => h.2) (fun h => h.2)) hcm
  rw [without_at hnd hp] at hC
  have hrg : r g = (1 + t, 0) := by obtain ⟨_, _, a2, _⟩ := hTb; exact a2 g rfl
  obtain ⟨d1, d2, ov, yv, d3, d4, d5⟩ := hD
  have hbc : b ≠ gc := fun e => by rw [← e, d2] at hr; simp at hr; omega
  have hbg : b ≠ g := fun e => by rw [← e, d2] at hrg; simp at hrg; omega
  have hgg : g ≠ gc := fun e => by rw [← e, hrg] at hr; simp at hr
  have e2 : role r (.slice (some ⟨gc, 0, none⟩) m cc) (3 + t, h key % T.length) = r := by
    funext k
    unfold role
    split
    · rename_i hh; cases hh; exact hr.symm
    · rfl
  have hT' := hTb.put (w1 := w3) (v' := .slice (some ⟨gc, 0, none⟩) m cc) hc (ho.2.2 g hgg) (fun k j hk hrk hj => ho.2.2 k (fun e => by rw [e, hr] at hrk; simp at hrk; exact hj hrk.symm)) hC (fun k e => by cases e; exact .inl hr)
  rw [e2] at hT'
  have hsz : ((w3.setCell ⟨g, h key % T.length, none⟩ (.slice (some ⟨gc, 0, none⟩) m cc)).setCell ⟨b, 1, none⟩ (.int .i64 ((n - 1 : Nat) : Int))).heap.size = w.heap.size := by rw [← ho.2.1]; simp [World.setCell]
  have hk : ∀ k, k ≠ gc → k ≠ g → k ≠ b → ((w3.setCell ⟨g, h key % T.length, none⟩ (.slice (some ⟨gc, 0, none⟩) m cc)).setCell ⟨b, 1, none⟩ (.int .i64 ((n - 1 : Nat) : Int))).heap[k]? = w.heap[k]? := fun k h1 h2 h3 => by
    rw [Below.heap_setCell _ _ _ _ h3, Below.heap_setCell _ _ _ _ h2]; exact ho.2.2 k h1
  have hT2 : Tb ((w3.setCell ⟨g, h key % T.length, none⟩ (.slice (some ⟨gc, 0, none⟩) m cc)).setCell ⟨b, 1, none⟩ (.int .i64 ((n - 1 : Nat) : Int))) r t (.slice (some ⟨g, 0, none⟩) T.length cap) (T.set (h key % T.length) (Dc.without key c)) :=
    hT'.kept (fun k _ hrk => ⟨Below.heap_setCell _ _ _ _ (fun e => by have e : k = b := e; rw [e, d2] at hrk; simp at hrk; rcases hT with ⟨rfl, _⟩ | ⟨rfl, _⟩ <;> omega), rfl⟩)
  have hb3 : (w3.setCell ⟨g, h key % T.length, none⟩ (.slice (some ⟨gc, 0, none⟩) m cc)).heap[b]? = w.heap[b]? := (Below.heap_setCell _ _ _ _ hbg).trans (ho.2.2 b hbc)
  refine ⟨?_, ho.1, by rw [hsz]; exact Nat.le_refl _, fun k _ h0 => ⟨hk k (fun e => by rw [e, hr] at h0; simp at h0) (fun e => by rw [e, hrg] at h0; simp at h0) (fun e => by rw [e, d2] at h0; simp at h0), h0⟩⟩
  rcases hT with ⟨rfl, rfl⟩ | ⟨rfl, rfl⟩
  · rw [every_old hI _ (Dc.without_id key) hc hxm]
    have eqv : ov = .slice (some ⟨g, 0, none⟩) s.old.length cap := Option.some.inj ((five d3).2.2.1.symm.trans hfc)
    rw [eqv] at d3
    exact ⟨fun k hk' => by rw [hsz]; exact d1 k hk', d2, _, yv, cells_setCell (hb3.trans d3), hT2, d5.kept (fun k _ hr' => ⟨hk k (fun e => by rw [e, hr] at hr'; simp at hr') (fun e => by rw [e, hrg] at hr'; simp at hr') (fun e => by rw [e, d2] at hr'; simp at hr'), rfl⟩)⟩
  · rw [every_young hI _ (Dc.without_id key) hc hxm]
    have eqv : yv = .slice (some ⟨g, 0, none⟩) s.young.length cap := Option.some.inj ((five d3).2.2.2.1.symm.trans hfc)
    rw [eqv] at d3
    exact ⟨fun k hk' => by rw [hsz]; exact d1 k hk', d2, ov, _, cells_setCell (hb3.trans d3), d4.kept (fun k _ hr' => ⟨hk k (fun e => by rw [e, hr] at hr'; simp at hr') (fun e => by rw [e, hrg] at hr'; simp at hr') (fun e => by rw [e, d2] at hr'; simp at hr'), rfl⟩), hT2⟩
/-- an entry has been pushed, and the keys are counted -/
theorem push_mem {h : ByteArray → Nat} {w w' : World} {r r' : Roles} {b seed n t g cap : Nat} {s : Dc.St ByteArray Unit} {T : Dc.Tab ByteArray Unit} {e : Ent} (hD : Dct w r b seed n s) (hT : (t = 0 ∧ T = s.old) ∨ (t = 1 ∧ T = s.young)) (hfc : w.cell? ⟨b, 2 + t, none⟩ = some (.slice (some ⟨g, 0, none⟩) T.length cap))
    (hT' : Tb w' r' t (.slice (some ⟨g, 0, none⟩) T.length cap) (Dc.push h T e)) (hTr : Tr t w r w' r') :
    Dct (w'.setCell ⟨b, 1, none⟩ (.int .i64 ((n + 1 : Nat) : Int))) r' b seed (n + 1) (if t = 0 then { s with old := Dc.push h s.old e } else { s with young := Dc.push h s.young e }) ∧ Fr w r (w'.setCell ⟨b, 1, none⟩ (.int .i64 ((n + 1 : Nat) : Int))) r' := by
  obtain ⟨d1, d2, ov, yv, d3, d4, d5⟩ := hD
  obtain ⟨a1, a2, a3, a4, _⟩ := hTr
  have hbl := d1 b (by rw [d2]; simp)
  have ht : t ≤ 1 := by rcases hT with ⟨rfl, _⟩ | ⟨rfl, _⟩ <;> omega
  obtain ⟨b1, b2⟩ := a3 b hbl (by rw [d2]; simp; omega) (by rw [d2]; simp; omega)
  have hsz : (w'.setCell ⟨b, 1, none⟩ (.int .i64 ((n + 1 : Nat) : Int))).heap.size = w'.heap.size := by simp [World.setCell]
  have hnb : ∀ k, r k ≠ (5, 0) → k ≠ b := fun k h1 h2 => h1 (by rw [h2]; exact d2)
  have hrest : ∀ k, r' k ≠ (0, 0) → k < (w'.setCell ⟨b, 1, none⟩ (.int .i64 ((n + 1 : Nat) : Int))).heap.size := fun k hk => by
    rw [hsz]
    rcases a4 k hk with h' | ⟨_, h'⟩
    · have := d1 k h'; omega
    · exact h'
  have hT2 : Tb (w'.setCell ⟨b, 1, none⟩ (.int .i64 ((n + 1 : Nat) : Int))) r' t (.slice (some ⟨g, 0, none⟩) T.length cap) (Dc.push h T e) :=
    hT'.kept (fun k _ hrk => ⟨Below.heap_setCell _ _ _ _ (fun e => by have e : k = b := e; rw [e, b2, d2] at hrk; simp at hrk; omega), rfl⟩)
  have keepT : ∀ {u : Nat} {tv : Value} {U : Dc.Tab ByteArray Unit}, u ≤ 1 → u ≠ t → Tb w r u tv U → Tb (w'.setCell ⟨b, 1, none⟩ (.int .i64 ((n + 1 : Nat) : Int))) r' u tv U := fun hu hne hU =>
    hU.kept (fun k hk hrk => by
      obtain ⟨c1, c2⟩ := a3 k hk (by omega) (by omega)
      exact ⟨(Below.heap_setCell _ _ _ _ (hnb k (fun e => by rw [e] at hrk; simp at hrk; omega))).trans c1, c2⟩)
  refine ⟨?_, a1, by rw [hsz]; exact a2, fun k hk h0 => ?_⟩
  · rcases hT with ⟨rfl, rfl⟩ | ⟨rfl, rfl⟩
    · rw [if_pos rfl]
      have eqv : ov = .slice (some ⟨g, 0, none⟩) s.old.length cap := Option.some.inj ((five d3).2.2.1.symm.trans hfc)
      rw [eqv] at d3
      exact ⟨hrest, b2.trans d2, _, yv, cells_setCell (b1.trans d3), hT2, keepT (by omega) (by omega) d5⟩
    · rw [if_neg (by omega)]
      have eqv : yv = .slice (some ⟨g, 0, none⟩) s.young.length cap := Option.some.inj ((five d3).2.2.2.1.symm.trans hfc)
      rw [eqv] at d3
      exact ⟨hrest, b2.trans d2, ov, _, cells_setCell (b1.trans d3), keepT (by omega) (by omega) d4, hT2⟩
  · obtain ⟨c1, c2⟩ := a3 k hk (by rw [h0]; simp; omega) (by rw [h0]; simp; omega)
    exact ⟨(Below.heap_setCell _ _ _ _ (hnb k (fun e => by rw [h0] at e; cases e))).trans c1, c2.trans h0⟩
end Go.Proofs.YtlfpkbjiofelkaaGreat
