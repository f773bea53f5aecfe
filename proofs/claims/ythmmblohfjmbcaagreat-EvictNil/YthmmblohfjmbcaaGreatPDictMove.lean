/-
  Contracts over this program: a chain goes over, from its first entry on.
-/
import Derived.Test.YthmmblohfjmbcaaGreatPDictIter
namespace Go.Proofs.YthmmblohfjmbcaaGreat.DP
open Go.RowKit Go.Shelf
attribute [local go_sem] Oper.semAt_some
/-- clear of a slice: what stood ahead of it stays -/
theorem clear_run {P : Program} (w : World) (t e ty et : TypeId) (z : Value) (ht : P.underlying t = some (.slice e)) (hv : ∀ w, (zeroValue e).run P w = .ok z w) (h1 : ∀ u ∈ z.cells.toList, u.oneCell' = true) (b o n c : Nat) (cur : Array Value)
    (hg : w.heap[b]? = some (.cells cur et (0, 0))) (hfit : o + n * z.cells.size ≤ cur.size) :
    ∃ cur', (Builtin.clear_ #[t] ty #[.slice (some ⟨b, o, none⟩) n c]).run P w = .ok (.tuple #[]) (w.setRow b cur') ∧ cur'.size = cur.size ∧ cur'.toList.take o = cur.toList.take o := by
  cases n with
  | zero =>
    refine ⟨cur, ?_, rfl, rfl⟩
    rw [setRow_self w b cur et (0, 0) hg]
    simp [Builtin.clear_, run_underlying ht]
  | succ n =>
    have hsz : (Builtin.zeroCells z.cells (n + 1)).toList.length = (n + 1) * z.cells.size := by rw [Array.length_toList, size_zeroCells]
    have hone : ∀ u ∈ (Builtin.zeroCells z.cells (n + 1)).toList, u.oneCell' = true := by
      intro u hu
      unfold Builtin.zeroCells at hu
      rw [Array.toList_map, List.mem_map] at hu
      obtain ⟨i, hi, rfl⟩ := hu
      have hp : 0 < z.cells.size := by
        rcases Nat.eq_zero_or_pos z.cells.size with h | h
        · rw [h, Nat.mul_zero] at hi; simp at hi
        · exact h
      have hlt := Nat.mod_lt i hp
      rw [getElem!_pos z.cells _ hlt]
      exact h1 _ (by simp)
    have hst := run_storeCells_at P b o et _ 0 cur w hg (by rw [hsz]; simpa using hfit) hone
    simp only [Nat.add_zero] at hst
    refine ⟨(cur.toList.take o ++ (Builtin.zeroCells z.cells (n + 1)).toList ++ cur.toList.drop (o + (Builtin.zeroCells z.cells (n + 1)).toList.length)).toArray, by simp [Builtin.clear_, run_underlying ht, hv, hst], ?_, ?_⟩
    · rw [List.size_toArray, List.length_append, List.length_append, List.length_take, List.length_drop, hsz, Array.length_toList]
      omega
    · show List.take o (List.take o cur.toList ++ _ ++ _) = _
      rw [List.append_assoc, List.take_append_of_le_length (by simp; omega), List.take_take, Nat.min_self]
/-- the turn of a block that holds no cells -/
theorem own_turn {w w' : World} {B e s : Nat} {v : Value} {n : Nat} {xs : List Value} {row : Option Nat} (h : w.ownsRow B e s v n xs) (hg : w.grownBy w' row) (hr : ∀ k, row = some k → ∃ o : Obj, w.heap[k]? = some o ∧ o.isCells = false) : w'.ownsRow B e s v n xs := by
  refine own_kept h (fun k hk => hg.block k (own_lt h hk) (fun e => ?_))
  obtain ⟨o, h1, h2⟩ := hr k e.symm
  rcases h.2 with ⟨rfl, _⟩ | ⟨g, cap, cur, rfl, _, hh, _⟩
  · cases hk
  · cases hk
    rw [hh] at h1
    cases h1
    cases h2
theorem Tb.turn {w w' : World} {r : Roles} {t : Nat} {tv : Value} {T : Dc.Tab ByteArray (Option Addr)} {row : Option Nat} (h : Tb w r t tv T) (hg : w.grownBy w' row) (hr : ∀ k, row = some k → ∃ o : Obj, w.heap[k]? = some o ∧ o.isCells = false) : Tb w' r t tv T := by
  obtain ⟨vs, h1, h2, h3⟩ := h
  refine ⟨vs, own_turn h1 hg hr, h2, fun i c hc => ?_⟩
  obtain ⟨v, e1, e2, e3⟩ := h3 i c hc
  exact ⟨v, e1, own_turn e2 hg hr, e3⟩
theorem Tr.turn {t : Nat} {w w1 w2 : World} {r r1 : Roles} {row : Option Nat} (h : Tr t w r w1 r1) (hg : w1.grownBy w2 row) (hr : ∀ k, row = some k → w.heap.size ≤ k) : Tr t w r w2 r1 := by
  obtain ⟨⟨a1, a2, a3⟩, a4, a5, a6, a7⟩ := h
  have same : ∀ k, k < w.heap.size → w2.heap[k]? = w1.heap[k]? := fun k hk => hg.block k (by omega) (fun e => by have := hr k e.symm; omega)
  refine ⟨⟨hg.os.trans a1, hg.tape.trans a2, hg.output.trans a3⟩, Nat.le_trans a4 hg.size, fun k hk h1 h2 => ?_, fun k hk => ?_, fun k o hk ho => ?_⟩
  · rw [same k hk]; exact a5 k hk h1 h2
  · rcases a6 k hk with h | ⟨h1, h2⟩
    · exact .inl h
    · exact .inr ⟨h1, by have := hg.size; omega⟩
  · rw [same k (Array.getElem?_eq_some_iff.1 hk).1]; exact a7 k o hk ho
theorem Tr.trans {t : Nat} {w w1 w2 : World} {r r1 r2 : Roles} (h : Tr t w r w1 r1) (g : Tr t w1 r1 w2 r2) : Tr t w r w2 r2 := by
  obtain ⟨⟨a1, a2, a3⟩, a4, a5, a6, a7⟩ := h
  obtain ⟨⟨b1, b2, b3⟩, b4, b5, b6, b7⟩ := g
  refine ⟨⟨b1.trans a1, b2.trans a2, b3.trans a3⟩, Nat.le_trans a4 b4, fun k hk h1 h2 => ?_, fun k hk => ?_, fun k o hk ho => b7 k o (a7 k o hk ho) ho⟩
  · obtain ⟨c1, c2⟩ := a5 k hk h1 h2
    obtain ⟨d1, d2⟩ := b5 k (by omega) (by rw [c2]; exact h1) (by rw [c2]; exact h2)
    exact ⟨d1.trans c1, d2.trans c2⟩
  · rcases b6 k hk with h | ⟨h1, h2⟩
    · rcases a6 k h with h | ⟨h1, h2⟩
      · exact .inl h
      · exact .inr ⟨h1, by omega⟩
    · exact .inr ⟨by omega, h2⟩
theorem Tr.refl (t : Nat) (w : World) (r : Roles) : Tr t w r w r := ⟨⟨rfl, rfl, rfl⟩, Nat.le_refl _, fun _ _ _ _ => ⟨rfl, rfl⟩, fun _ h => .inl h, fun _ _ h _ => h⟩
theorem Tr.drew {t : Nat} {w w' : World} {r r' : Roles} (h : Tr t w r w' r') : Tr t w r w'.drew r' := h
/-- between two rounds: the young table has what came -/
def MvI (h : ByteArray → Nat) (W0 : World) (r : Roles) (yv : Value) (young : Dc.Tab ByteArray (Option Addr)) (c : List Ent) (pre : List (Bk c)) (W : World) : Prop := ∃ r1, Tb W r1 1 yv (Dc.pour h young (bks pre)) ∧ Tr 1 W0 r W r1
theorem MvI_own {h : ByteArray → Nat} {W0 : World} {r : Roles} {yv : Value} {young : Dc.Tab ByteArray (Option Addr)} {c : List Ent} : OwnFrom W0.heap.size (MvI h W0 r yv young c) := by
  rintro pre W W' row ⟨r1, hT, hTr⟩ hg hr
  exact ⟨r1, hT.turn hg (fun k e => (hr k e).2), hTr.turn hg (fun k e => (hr k e).1)⟩
/-- the entry's box of this round -/
def MvX (b H n1 n2 : Nat) (v v8 v11 v12 v13 : Value) {c : List Ent} (x : Bk c) (a : Act) (W : World) : Prop :=
  ∃ Bx, W.heap[Bx]? = some (.cells #[.string x.1.2.1, .pointer x.1.2.2] 139 (0, 0)) ∧ a = { tmps := #[.pointer (some ⟨b, 0, none⟩), .pointer (some ⟨H, 0, none⟩), v, undef, .pointer (some ⟨Bx, 0, none⟩), .pointer (some ⟨b, 0, none⟩), .pointer (some ⟨b, 0, none⟩), .pointer (some ⟨b, 2, none⟩), v8, .pointer (some ⟨b, 0, none⟩), .pointer (some ⟨b, 0, none⟩), v11, v12, v13, v, v, .func (.func n1) #[] #[.pointer (some ⟨n2, 0, none⟩)], .int .i64 (x.1.1 : Int), .agg #[.string x.1.2.1, .pointer x.1.2.2], undef, undef, undef, undef, undef, undef, undef, undef, undef, undef, undef, undef, undef, undef, undef, undef, undef, undef, undef, undef, undef, undef, undef, undef, undef, undef, undef], defers := [] }
theorem MvX_own {B b H n1 n2 : Nat} {v v8 v11 v12 v13 : Value} {c : List Ent} (x : Bk c) (a : Act) : OwnFrom B (fun (_ : Unit) W => MvX b H n1 n2 v v8 v11 v12 v13 x a W) := by
  rintro _ W W' row ⟨Bx, h1, h2⟩ hg hr
  refine ⟨Bx, ?_, h2⟩
  rw [hg.block Bx (Array.getElem?_eq_some_iff.1 h1).1 (fun e => ?_)]
  · exact h1
  · obtain ⟨_, o, h3, h4⟩ := hr Bx e.symm
    rw [h1] at h3
    cases h3
    cases h4
theorem pour_le {h : ByteArray → Nat} {young : Dc.Tab ByteArray (Option Addr)} {l c : List Ent} {m : Nat} (hc : c ∈ Dc.pour h young l) (hy : 0 < young.length) (hm : young.flatten.length + l.length ≤ m) : c.length ≤ m := by
  have h1 := (List.sublist_flatten_of_mem hc).length_le
  have h2 := (Dc.pour_perm h l young hy).length_eq
  rw [List.length_append] at h2
  omega
/-- what a round reads of the struct -/
def heldM (H b seed : Nat) (yv : Value) (w : World) : Prop := w.cell? ⟨H, 0, none⟩ = some (.pointer (some ⟨b, 0, none⟩)) ∧ w.cell? ⟨b, 3, none⟩ = some yv ∧ w.cell? ⟨b, 0, none⟩ = some (.int .u64 seed)
theorem heldM_kept {H b seed : Nat} {yv : Value} {w w' : World} (h : heldM H b seed yv w) (h1 : w'.heap[H]? = w.heap[H]?) (h2 : w'.heap[b]? = w.heap[b]?) : heldM H b seed yv w' :=
  ⟨(World.cell?_of_block (w := w) (a := ⟨H, 0, none⟩) h1).trans h.1, (World.cell?_of_block (w := w) (a := ⟨b, 3, none⟩) h2).trans h.2.1, (World.cell?_of_block (w := w) (a := ⟨b, 0, none⟩) h2).trans h.2.2⟩
set_option maxRecDepth 100000 in
set_option maxHeartbeats 2000000 in
theorem move_any {h : ByteArray → Nat} {seed : Nat} (hH : HashIs seed h) (w : World) (r : Roles) (b n : Nat) (s : Dc.St ByteArray (Option Addr)) (e : Ent) (c : List Ent) (hD : Dct w r b seed n s) (hc : s.old[s.pos]? = some (e :: c)) (hy : 0 < s.young.length)
    (hm0 : s.old.length ≤ maxLen) (hm1 : s.young.length ≤ maxLen) (hk : ∀ x ∈ e :: c, x.1.size ≤ maxLen) (hl : s.young.flatten.length + (e :: c).length ≤ 2600000000000) :
    Calls Tryz.prog 104 #[.pointer (some ⟨b, 0, none⟩)] w fun x w' => x = .returned (.tuple #[]) ∧ ∃ r', Dct w' r' b seed n (Dc.carry h s) ∧ Fr w r w' r' := by
  obtain ⟨ao, ca, bo, cb, h4, h5, h3⟩ := hD.cells
  have hpl : s.pos < s.old.length := (List.getElem?_eq_some_iff.1 hc).1
  obtain ⟨g, ca', e4, hrg, hgl⟩ := h4.form (by omega)
  have e5 : ao = some ⟨g, 0, none⟩ := by injection e4
  subst e5
  clear e4
  obtain ⟨v, hv1, hv2, hv3⟩ := h4.at hc
  obtain ⟨co, cc, rfl⟩ := chn_len hv2
  obtain ⟨c0, c1, c2, c3, c4, cf⟩ := five h3
  have hrb := hD.2.1
  have hbl : b < w.heap.size := hD.1 b (by rw [hrb]; simp)
  have hrH : r w.heap.size = (0, 0) := Classical.byContradiction fun hh => by have := hD.1 _ hh; omega
  have hp0 : (0 : Int) ≤ (s.pos : Int) := by omega
  have hp1 : (s.pos : Int) < (s.old.length : Int) := by omega
  have hneb : ¬ b = w.heap.size := by omega
  have hneg : ¬ g = w.heap.size := by omega
  refine callsIn_wide (n := 5) |>.1 (callsIn_of_wp_marks Tryz.func104 rfl trivial (wpIn_wide.2 ?_) rfl)
  simp only [Tryz.ntmps104, List.size_toArray, List.length_cons, List.length_nil, Nat.reduceAdd, Nat.reduceSub, Array.replicate_succ, Array.replicate_zero, List.push_toArray, List.append_toArray, List.nil_append, List.cons_append]
  go_wp2_with fail
  go_region
  go_wp2_with fail
  refine (back_any _ _ _ _).mono ?_
  rintro _ w' ⟨rfl, rfl⟩
  go_wp2
  have hsz : (((w.alloc (.cells #[.pointer (some ⟨b, 0, none⟩)] 41)).alloc (.cells #[.slice co (c.length + 1) cc] 136)).drew).heap.size = w.heap.size + 2 := by show ((w.alloc _).alloc _).heap.size = _; simp
  have hB0 : Below w.heap.size w (((w.alloc (.cells #[.pointer (some ⟨b, 0, none⟩)] 41)).alloc (.cells #[.slice co (c.length + 1) cc] 136)).drew) := (((Below.refl _ w).alloc (Nat.le_refl _) _).alloc (by simp) _).drew
  have hn0 : (((w.alloc (.cells #[.pointer (some ⟨b, 0, none⟩)] 41)).alloc (.cells #[.slice co (c.length + 1) cc] 136)).drew).cell? ⟨w.heap.size, 0, none⟩ = some (.pointer (some ⟨b, 0, none⟩)) := by simp
  have hn1 : (((w.alloc (.cells #[.pointer (some ⟨b, 0, none⟩)] 41)).alloc (.cells #[.slice co (c.length + 1) cc] 136)).drew).cell? ⟨w.heap.size + 1, 0, none⟩ = some (.slice co (c.length + 1) cc) := by simp
  generalize (((w.alloc (.cells #[.pointer (some ⟨b, 0, none⟩)] 41)).alloc (.cells #[.slice co (c.length + 1) cc] 136)).drew) = W0 at hsz hB0 hn0 hn1 ⊢
  have hv2' : Chn W0 (.slice co (c.length + 1) cc) (e :: c) := own_kept hv2 (fun k hk => hB0.block k (own_lt hv2 hk))
  have h5' : Tb W0 r 1 (.slice bo s.young.length cb) s.young := h5.kept (fun k hk _ => ⟨hB0.block k hk, rfl⟩)
  have hvk : ∀ k, (Value.slice co (c.length + 1) cc).ownBlock = some k → k < w.heap.size := fun k hk => own_lt hv2 hk
  have hrz : ∀ k, w.heap.size ≤ k → r k = (0, 0) := fun k hk => Classical.byContradiction fun hh => by have := hD.1 _ hh; omega
  have hHB : heldM w.heap.size b seed (.slice bo s.young.length cb) W0 := ⟨hn0, (hB0.cell (p := ⟨b, 3, none⟩) hbl).trans c3, (hB0.cell (p := ⟨b, 0, none⟩) hbl).trans c0⟩
  obtain ⟨yg, ycb, ye, hryg, hygl⟩ := h5.form hy
  have ye5 : bo = some ⟨yg, 0, none⟩ := by injection ye
  clear ye
  subst ye5
  refine wpIn_wide (n := 5).1 (wpIn_rangeFunc_ownH (α := Bk (e :: c)) rfl (by decide) (gf := 111) (lb := #[.pointer (some ⟨w.heap.size + 1, 0, none⟩)]) rfl trivial (enters_of Tryz.func111 (by kernel_rfl) rfl)
    (back_stops 4 (w.heap.size + 1) (.slice co (c.length + 1) cc) (e :: c) W0 (by omega) hn1 hv2') (fun h k => h.trans k) (kpB_b (by omega) (fun k hk => by have := hvk k hk; omega)) (Below.refl _ _) (fun _ => rfl)
    (MvI h W0 r (.slice (some ⟨yg, 0, none⟩) s.young.length cb) s.young (e :: c)) (fun _ _ _ => False) MvI_own (fun _ _ _ _ _ hs _ _ => hs) ⟨r, h5', Tr.refl _ _ _⟩
    (MvX b w.heap.size 111 (w.heap.size + 1) (.slice co (c.length + 1) cc) (.slice (some ⟨g, 0, none⟩) s.old.length ca) (.pointer (some ⟨b, 4, none⟩)) (.int .i64 s.pos) (.pointer (some ⟨g, s.pos, none⟩))) (fun x a => MvX_own x a) ?assign ?body ?done ?stop)
  case assign =>
    rintro l pre ⟨⟨m, e1, e2⟩, hx⟩ W K ⟨r1, hT, hTr⟩ hK
    have HK := keep hK
    clear hK
    unfold bkE
    gi_wp2
    have hW := hTr.2.1
    exact HK.out _ _ ((KeepsOthers.alloc _ _).from _) ⟨Below.heap_alloc _ _ _ (by omega), fun k hk => Below.heap_alloc _ _ _ (by have := hvk k hk; omega)⟩
      ⟨r1, hT.turn (World.grownBy_alloc _ _ none) (fun k h => by cases h), hTr.turn (World.grownBy_alloc _ _ none) (fun k h => by cases h)⟩ ⟨W.heap.size, heap_alloc_new _ _, rfl⟩
  case body =>
    rintro l pre ⟨⟨m, e1, e2⟩, hx⟩ a' W hl' ⟨rc, hrc⟩ ⟨r1, hT, hTr⟩ ⟨Bx, hBx, rfl⟩ hlt
    have eL : (Dc.pour h s.young (bks pre)).length = s.young.length := Dc.pour_len _ _ _
    have hW := hTr.2.1
    have hone : ∀ k, k < W0.heap.size → (r k).1 ≠ 2 → (r k).1 ≠ 4 → W.heap[k]? = W0.heap[k]? ∧ r1 k = r k := fun k hk h1 h2 => hTr.2.2.1 k hk (by omega) (by omega)
    have mP := push_any hH W.drew r1 1 yg cb (Dc.pour h s.young (bks pre)) (e1, e2) (by rw [eL]; exact hT) (by omega) (by omega) (hk _ hx)
      (fun k hk => by
        rcases hTr.2.2.2.1 k hk with h' | ⟨_, h'⟩
        · have := hD.1 k h'; show k < W.heap.size; omega
        · exact h')
      (fun c' hc' => pour_le hc' (by omega) (by have : pre.length < (e :: c).length := hlt; simp only [bks, List.length_map]; omega))
    rw [eL] at mP
    have hS := heldM_kept hHB (hone _ (by omega) (by rw [hrH]; simp) (by rw [hrH]; simp)).1 (hone _ (by omega) (by rw [hrb]; simp) (by rw [hrb]; simp)).1
    have b0 : W.cell? ⟨Bx, 0, none⟩ = some (.string e1) := by rw [cell_of_row _ _ _ _ _ _ hBx]; rfl
    have b1 : W.cell? ⟨Bx, 1, none⟩ = some (.pointer e2) := by rw [cell_of_row _ _ _ _ _ _ hBx]; rfl
    dsimp only
    have HP := keep mP
    have HONE := keep hone
    have HTR := keep hTr
    clear mP hone hTr hT hD h4 h5 h3 c0 c1 c2 c3 c4 cf hv1 hv2' h5' hk hl hlt hn0 hn1 hHB hBx
    gi_wp2
    refine region_round (S := heldM w.heap.size b seed (.slice (some ⟨yg, 0, none⟩) s.young.length cb)) (by kernel_rfl) (by kernel_rfl) (by rintro ⟨a, w, h⟩; exact h) hS (fun hHeld => ?_)
    refine wpAnyH_take (i := 0) (oi := { dst := some 19, op := _, type := _, pos := _, after := _, guard := _ }) (v := ?v1) rfl (by kernel_rfl) (by kernel_rfl) (by kernel_rfl) (fun _ _ _ h => h) (Or.inl ⟨by rfl, ?hy1⟩) (by assumption) ?rest1
    case hy1 => (intro w hSw; obtain ⟨q0, q1, q2⟩ := hSw; go_simp; try with_reducible rfl)
    try simp only [Act.put, List.setIfInBounds_toArray, List.set_cons_zero, List.set_cons_succ]
    refine wpAnyH_take (i := 1) (oi := { dst := some 20, op := _, type := _, pos := _, after := _, guard := _ }) (v := ?v2) rfl (by kernel_rfl) (by kernel_rfl) (by kernel_rfl) (fun _ _ _ h => h) (Or.inl ⟨by rfl, ?hy2⟩) (by assumption) ?rest2
    case hy2 => (intro w hSw; obtain ⟨q0, q1, q2⟩ := hSw; go_simp; try with_reducible rfl)
    try simp only [Act.put, List.setIfInBounds_toArray, List.set_cons_zero, List.set_cons_succ]
    refine wpAnyH_take (i := 2) (oi := { dst := some 21, op := _, type := _, pos := _, after := _, guard := _ }) (v := ?v3) rfl (by kernel_rfl) (by kernel_rfl) (by kernel_rfl) (fun _ _ _ h => h) (Or.inl ⟨by rfl, ?hy3⟩) (by assumption) ?rest3
    case hy3 => (intro w hSw; obtain ⟨q0, q1, q2⟩ := hSw; go_simp; try with_reducible rfl)
    try simp only [Act.put, List.setIfInBounds_toArray, List.set_cons_zero, List.set_cons_succ]
    refine wpAnyH_take (i := 3) (oi := { dst := some 22, op := _, type := _, pos := _, after := _, guard := _ }) (v := ?v4) rfl (by kernel_rfl) (by kernel_rfl) (by kernel_rfl) (fun _ _ _ h => h) (Or.inl ⟨by rfl, ?hy4⟩) (by assumption) ?rest4
    case hy4 => (intro w hSw; obtain ⟨q0, q1, q2⟩ := hSw; go_simp; try with_reducible rfl)
    try simp only [Act.put, List.setIfInBounds_toArray, List.set_cons_zero, List.set_cons_succ]
    refine wpAnyH_take (i := 4) (oi := { dst := some 23, op := _, type := _, pos := _, after := _, guard := _ }) (v := ?v5) rfl (by kernel_rfl) (by kernel_rfl) (by kernel_rfl) (fun _ _ _ h => h) (Or.inl ⟨by rfl, ?hy5⟩) (by assumption) ?rest5
    case hy5 => (intro w hSw; obtain ⟨q0, q1, q2⟩ := hSw; go_simp; try with_reducible rfl)
    try simp only [Act.put, List.setIfInBounds_toArray, List.set_cons_zero, List.set_cons_succ]
    refine wpAnyH_take (i := 5) (oi := { dst := some 24, op := _, type := _, pos := _, after := _, guard := _ }) (v := ?v6) rfl (by kernel_rfl) (by kernel_rfl) (by kernel_rfl) (fun _ _ _ h => h) (Or.inl ⟨by rfl, ?hy6⟩) (by assumption) ?rest6
    case hy6 => (intro w hSw; obtain ⟨q0, q1, q2⟩ := hSw; go_simp; try with_reducible rfl)
    try simp only [Act.put, List.setIfInBounds_toArray, List.set_cons_zero, List.set_cons_succ]
    refine wpAnyH_take (i := 6) (oi := { dst := some 25, op := _, type := _, pos := _, after := _, guard := _ }) (v := ?v7) rfl (by kernel_rfl) (by kernel_rfl) (by kernel_rfl) (fun _ _ _ h => h) (Or.inl ⟨by rfl, ?hy7⟩) (by assumption) ?rest7
    case hy7 => (intro w hSw; obtain ⟨q0, q1, q2⟩ := hSw; go_simp; try with_reducible rfl)
    try simp only [Act.put, List.setIfInBounds_toArray, List.set_cons_zero, List.set_cons_succ]
    refine wpAnyH_take (i := 7) (oi := { dst := some 26, op := _, type := _, pos := _, after := _, guard := _ }) (v := ?v8) rfl (by kernel_rfl) (by kernel_rfl) (by kernel_rfl) (fun _ _ _ h => h) (Or.inl ⟨by rfl, ?hy8⟩) (by assumption) ?rest8
    case hy8 => (intro w hSw; obtain ⟨q0, q1, q2⟩ := hSw; go_simp; try with_reducible rfl)
    try simp only [Act.put, List.setIfInBounds_toArray, List.set_cons_zero, List.set_cons_succ]
    refine wpAnyH_ready (rs := [8]) (by kernel_rfl) (by simp) ?_
    refine AllReadyH.cons (o := { dst := some 27, op := _, type := _, pos := _, after := _, guard := _ }) rfl (fun K hK => ?_) AllReadyH.nil
    have b0' : W.drew.cell? ⟨Bx, 0, none⟩ = some (.string e1) := b0
    have b1' : W.drew.cell? ⟨Bx, 1, none⟩ = some (.pointer e2) := b1
    go_simp
    refine hK.out _ _ hHeld (fun hHeld => ?_)
    try simp only [Act.put, List.setIfInBounds_toArray, List.set_cons_zero, List.set_cons_succ]
    refine wpAnyH_ready (rs := [9]) (by kernel_rfl) (by simp) ?_
    refine AllReadyH.cons (o := { dst := some 28, op := _, type := _, pos := _, after := _, guard := _ }) rfl (fun K hK => ?_) AllReadyH.nil
    go_simp
    refine HP.out.mono ?_
    rintro _ W' ⟨rfl, r2, hT2, hTr2⟩
    have same : ∀ k, k < W0.heap.size → (r k).1 ≠ 2 → (r k).1 ≠ 4 → W'.heap[k]? = W.heap[k]? := fun k hk h1 h2 => by
      obtain ⟨_, e'⟩ := HONE.out k hk h1 h2
      exact (hTr2.2.2.1 k (by show k < W.heap.size; omega) (by rw [e']; omega) (by rw [e']; omega)).1
    refine hK.out _ _ (heldM_kept hHeld (same _ (by omega) (by rw [hrH]; simp) (by rw [hrH]; simp)) (same _ (by omega) (by rw [hrb]; simp) (by rw [hrb]; simp))) (fun _ => ?_)
    refine wpAnyH_done (by kernel_rfl) ?_ _
    refine ⟨⟨hTr2.2.1, fun k o _ h1 h2 => hTr2.2.2.2.2 k o h1 h2⟩, ⟨same _ (by omega) (by rw [hrz _ (by omega)]; simp) (by rw [hrz _ (by omega)]; simp), fun k hk' => same k (by have := hvk k hk'; omega) (by rw [hv3 k hk']; simp) (by rw [hv3 k hk']; simp)⟩, r2, ?_, HTR.out.trans hTr2⟩
    rw [bks_snoc rfl, Dc.pour, List.foldl_append]
    exact hT2
  case done =>
    rintro D xs W hD' hS ⟨r1, hT, hTr⟩ hK
    rw [hS] at hT
    have hW := hTr.2.1
    have hone : ∀ k, k < W0.heap.size → (r k).1 ≠ 2 → (r k).1 ≠ 4 → W.heap[k]? = W0.heap[k]? ∧ r1 k = r k := fun k hk h1 h2 => hTr.2.2.1 k hk (by omega) (by omega)
    have hold : ∀ k, k < w.heap.size → (r k).1 ≠ 2 → (r k).1 ≠ 4 → W.heap[k]? = w.heap[k]? ∧ r1 k = r k := fun k hk h1 h2 => ⟨(hone k (by omega) h1 h2).1.trans (hB0.block k hk), (hone k (by omega) h1 h2).2⟩
    have hT0 : Tb W r1 0 (.slice (some ⟨g, 0, none⟩) s.old.length ca) s.old := h4.kept (fun k hk hr => hold k hk (by omega) (by omega))
    rcases hv2.form with ⟨_, hh⟩ | ⟨gv, cap, hh, hgv, hcap, hm⟩
    · cases hh
    have hco : co = some ⟨gv, 0, none⟩ := by injection hh
    clear hh
    subst hco
    have hrgv := hv3 gv rfl
    have hbW : W.heap[b]? = _ := (hold b hbl (by rw [hrb]; simp) (by rw [hrb]; simp)).1.trans h3
    have hHW : W.cell? ⟨w.heap.size, 0, none⟩ = some (.pointer (some ⟨b, 0, none⟩)) := (World.cell?_of_block (w := W0) (a := ⟨w.heap.size, 0, none⟩) (hone w.heap.size (by omega) (by rw [hrH]; simp) (by rw [hrH]; simp)).1).trans hn0
    have hC : Chn W (.slice (some ⟨gv, 0, none⟩) (e :: c).length cc) (e :: c) := own_kept hv2 (fun k hk => (hold k (own_lt hv2 hk) (by rw [hv3 k hk]; simp) (by rw [hv3 k hk]; simp)).1)
    obtain ⟨cur, hcur, hfit⟩ : ∃ cur, W.heap[gv]? = some (.cells cur 139 (0, 0)) ∧ (c.length + 1) * 2 ≤ cur.size := by
      rcases hC.2 with ⟨h', _⟩ | ⟨g', cap', cur, h', _, hh, q1, _, q2, _⟩
      · cases h'
      · cases h'
        exact ⟨cur, hh, by rw [q2]; exact Nat.mul_le_mul_right _ q1⟩
    obtain ⟨cur', hcl, hcs, _⟩ := clear_run (P := Tryz.prog) W 136 139 0 139 _ Tryz.underlying136 Tryz.zeroValue139 (by simp [Value.cells, Value.oneCell']) gv 0 (c.length + 1) cc cur hcur (by simpa [Value.cells] using hfit)
    have hneg2 : gv ≠ g := fun e' => by rw [e', hrg] at hrgv; simp at hrgv
    have hneb2 : gv ≠ b := fun e' => by rw [e', hrb] at hrgv; simp at hrgv
    have hgb : g ≠ b := fun e' => by rw [e', hrb] at hrg; simp at hrg
    obtain ⟨W2, hW2⟩ : ∃ W2, W2 = W.setRow gv cur' := ⟨_, rfl⟩
    rw [← hW2] at hcl
    have h2o : ∀ k, k ≠ gv → W2.heap[k]? = W.heap[k]? := fun k hk => by rw [hW2]; exact setRow_other W gv k _ hk
    have h2s : W2.heap.size = W.heap.size := by rw [hW2]; simp
    have h2w : W2.os = W.os ∧ W2.tape = W.tape ∧ W2.output = W.output := by rw [hW2]; exact ⟨rfl, rfl, rfl⟩
    clear hW2
    have hb2 : W2.heap[b]? = _ := (h2o b (Ne.symm hneb2)).trans hbW
    obtain ⟨d0, d1, d2, d3, d4, df⟩ := five hb2
    have hH2 : W2.cell? ⟨w.heap.size, 0, none⟩ = some (.pointer (some ⟨b, 0, none⟩)) := (World.cell?_of_block (w := W) (a := ⟨w.heap.size, 0, none⟩) (h2o w.heap.size (by omega))).trans hHW
    have hg2 : W2.cell? ⟨g, s.pos, none⟩ = some (.slice (some ⟨gv, 0, none⟩) (c.length + 1) cc) := by
      rw [World.cell?_of_block (w := W) (a := ⟨g, s.pos, none⟩) (h2o g (Ne.symm hneg2)), World.cell?_of_block (w := w) (a := ⟨g, s.pos, none⟩) (hold g hgl (by rw [hrg]; simp) (by rw [hrg]; simp)).1]
      exact hv1
    have hf2 : W2.frozen? ⟨g, s.pos, none⟩ = false := by
      rw [World.frozen?_of_block (w := W) (a := ⟨g, s.pos, none⟩) (h2o g (Ne.symm hneg2))]
      exact hT0.free _
    have f4 := df 4
    clear c0 c1 c2 c3 c4 cf d0 d1 d3 df
    have hw1 : IntKind.i64.wrap ((s.pos : Int) + 1) = ((s.pos + 1 : Nat) : Int) := by unfold maxLen at hm0; rw [IntKind.wrap_i64]; omega
    go_wp2_with fail
    go_region_held3 (fun w' => w'.cell? ⟨w.heap.size, 0, none⟩ = some (.pointer (some ⟨b, 0, none⟩)) ∧ w'.cell? ⟨b, 2, none⟩ = some (.slice (some ⟨g, 0, none⟩) s.old.length ca) ∧ w'.cell? ⟨b, 4, none⟩ = some (.int .i64 s.pos)) (first | go_keep) (fail)
    go_wp2
    have hDg : D ≠ g := by omega
    have hDb : D ≠ b := by omega
    have hDv : D ≠ gv := by omega
    have hKD : ((W2.drew.setCell ⟨g, s.pos, none⟩ (.slice none 0 0)).setCell ⟨b, 4, none⟩ (.int .i64 ((s.pos + 1 : Nat) : Int))).heap[D]? = some (.deferred (some [])) := by
      rw [Below.heap_setCell _ _ _ _ hDb, Below.heap_setCell _ _ _ _ hDg]
      exact (h2o D hDv).trans hK
    refine ⟨by simp, .inl ⟨_, _, rfl, run_takeDeferred hKD, ?_⟩⟩
    refine ⟨_, results_none rfl _ _ _, rfl, ?_⟩
    show ∃ r', Dct (((W2.drew.setCell ⟨g, s.pos, none⟩ (.slice none 0 0)).setCell ⟨b, 4, none⟩ (.int .i64 ((s.pos + 1 : Nat) : Int))).putObj D (.deferred none)) r' b seed n (Dc.carry h s) ∧ Fr w r (((W2.drew.setCell ⟨g, s.pos, none⟩ (.slice none 0 0)).setCell ⟨b, 4, none⟩ (.int .i64 ((s.pos + 1 : Nat) : Int))).putObj D (.deferred none)) r'
    refine ⟨r1, ?_⟩
    have hTold : Tb (W2.drew.setCell ⟨g, s.pos, none⟩ (.slice none 0 0)) r1 0 (.slice (some ⟨g, 0, none⟩) s.old.length ca) (s.old.set s.pos []) := by
      have := hT0.put (w1 := W2.drew) (c' := []) (v' := .slice none 0 0) hc (h2o g (Ne.symm hneg2)) (fun k j hk hr hj => h2o k (fun e' => ?_)) ⟨rfl, .inl ⟨rfl, rfl⟩⟩ (fun k hk => by cases hk)
      · have e2 : role r1 (.slice none 0 0) (3 + 0, s.pos) = r1 := by funext k; simp [role, Value.ownBlock]
        rw [e2] at this
        exact this
      · rw [e', (hold gv hgv (by rw [hrgv]; simp) (by rw [hrgv]; simp)).2, hrgv] at hr
        simp at hr
        exact hj hr.symm
    have hr1b : r1 b = (5, 0) := (hold b hbl (by rw [hrb]; simp) (by rw [hrb]; simp)).2.trans hrb
    have hr1g : r1 g = (1 + 0, 0) := (hold g hgl (by rw [hrg]; simp) (by rw [hrg]; simp)).2.trans hrg
    have hr1v : r1 gv = (3 + 0, s.pos) := (hold gv hgv (by rw [hrgv]; simp) (by rw [hrgv]; simp)).2.trans hrgv
    have hDW : D < W.heap.size := (Array.getElem?_eq_some_iff.1 hK).1
    have f5 : ∀ k, k ≠ g → k ≠ b → k ≠ D → k ≠ gv → (((W2.drew.setCell ⟨g, s.pos, none⟩ (.slice none 0 0)).setCell ⟨b, 4, none⟩ (.int .i64 ((s.pos + 1 : Nat) : Int))).putObj D (.deferred none)).heap[k]? = W.heap[k]? := fun k q1 q2 q3 q4 => by
      rw [World.putObj_heap_other q3, Below.heap_setCell _ _ _ _ q2, Below.heap_setCell _ _ _ _ q1]
      exact h2o k q4
    have s5 : (((W2.drew.setCell ⟨g, s.pos, none⟩ (.slice none 0 0)).setCell ⟨b, 4, none⟩ (.int .i64 ((s.pos + 1 : Nat) : Int))).putObj D (.deferred none)).heap.size = W.heap.size := by
      rw [← h2s]; simp [World.setCell, World.putObj]
    have hcar : Dc.carry h s = { old := s.old.set s.pos [], young := Dc.pour h s.young (e :: c), pos := s.pos + 1 } := by unfold Dc.carry; rw [hc]
    have f4' : ∀ k, k ≠ g → k ≠ b → k ≠ gv → ((W2.drew.setCell ⟨g, s.pos, none⟩ (.slice none 0 0)).setCell ⟨b, 4, none⟩ (.int .i64 ((s.pos + 1 : Nat) : Int))).heap[k]? = W.heap[k]? := fun k q1 q2 q4 => by
      rw [Below.heap_setCell _ _ _ _ q2, Below.heap_setCell _ _ _ _ q1]
      exact h2o k q4
    have hrow : ∀ k, some D = some k → ∃ o : Obj, ((W2.drew.setCell ⟨g, s.pos, none⟩ (.slice none 0 0)).setCell ⟨b, 4, none⟩ (.int .i64 ((s.pos + 1 : Nat) : Int))).heap[k]? = some o ∧ o.isCells = false := fun k e' => by cases e'; exact ⟨_, hKD, rfl⟩
    refine ⟨?_, ⟨?_, ?_⟩, by rw [s5]; omega, fun k hk' hr => ?_⟩
    · rw [hcar]
      refine ⟨fun k hk => ?_, hr1b, .slice (some ⟨g, 0, none⟩) s.old.length ca, .slice (some ⟨yg, 0, none⟩) s.young.length cb, ?_, ?_, ?_⟩
      · rw [s5]
        rcases hTr.2.2.2.1 k hk with h' | ⟨_, h'⟩
        · have := hD.1 k h'; omega
        · exact h'
      · rw [World.putObj_heap_other (Ne.symm hDb)]
        have hb3 : (W2.drew.setCell ⟨g, s.pos, none⟩ (.slice none 0 0)).heap[b]? = _ := (Below.heap_setCell _ _ _ _ (Ne.symm hgb)).trans hb2
        exact cells_setCell hb3
      · exact (hTold.kept (w' := (W2.drew.setCell ⟨g, s.pos, none⟩ (.slice none 0 0)).setCell ⟨b, 4, none⟩ (.int .i64 ((s.pos + 1 : Nat) : Int))) (r' := r1) (fun k _ hr => ⟨Below.heap_setCell _ _ _ _ (fun e' => by rw [e', hr1b] at hr; simp at hr), rfl⟩)).turn (grownBy_putObj' _ D _) hrow
      · exact (hT.kept (w' := (W2.drew.setCell ⟨g, s.pos, none⟩ (.slice none 0 0)).setCell ⟨b, 4, none⟩ (.int .i64 ((s.pos + 1 : Nat) : Int))) (r' := r1) (fun k _ hr => ⟨f4' k (fun e' => by rw [e', hr1g] at hr; simp at hr) (fun e' => by rw [e', hr1b] at hr; simp at hr) (fun e' => by rw [e', hr1v] at hr; simp at hr), rfl⟩)).turn (grownBy_putObj' _ D _) hrow
    · exact h2w.1.trans (hTr.1.1.trans hB0.os)
    · exact ⟨h2w.2.1.trans (hTr.1.2.1.trans hB0.tape), h2w.2.2.trans (hTr.1.2.2.trans hB0.output)⟩
    · have q := hold k hk' (by rw [hr]; simp) (by rw [hr]; simp)
      exact ⟨(f5 k (fun e' => by rw [e', hrg] at hr; simp at hr) (fun e' => by rw [e', hrb] at hr; simp at hr) (by omega) (fun e' => by rw [e', hrgv] at hr; simp at hr)).trans q.1, q.2.trans hr⟩
  case stop =>
    rintro D c pre W _ _ h _
    exact h.elim
end Go.Proofs.YthmmblohfjmbcaaGreat.DP
