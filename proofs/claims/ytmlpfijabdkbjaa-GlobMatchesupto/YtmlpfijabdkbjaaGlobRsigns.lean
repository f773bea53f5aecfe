/-
  Contracts over this program: which signs the document's own answer reads in a pattern.
-/
import Derived.Test.YtmlpfijabdkbjaaGlobRsetA
import Derived.Test.YtmlpfijabdkbjaaGlobRsetB
import Derived.Test.YtmlpfijabdkbjaaGlobRsetC
import Derived.Test.YtmlpfijabdkbjaaGlobFill
namespace Go.Proofs.Ytmlpfijabdkbjaa
open Go.RowKit
/-- which bytes the set at a place means -/
def setF (p : ByteArray) (a : Nat) : Nat → Bool := fun i => Gb.setM (Gb.ins p a) (UInt8.ofNat i)
theorem rset_any (p : ByteArray) (a : Nat) (w : World) (hp : p.size ≤ 1099511627776) (ha : a ≤ p.size) :
    Calls Try.prog 15 #[.string p, .int .i64 a] w fun e w' => ∃ n : Nat, e = .returned (.tuple #[.agg (row false (setF p a) 0 false).toArray, .int .i64 n]) ∧ Below w.heap.size w w' ∧ Kept (Gb.beh p a = Gb.D p n) ∧ a ≤ n ∧ n ≤ p.size := by
  by_cases hlt : a < p.size
  · by_cases h94 : (p[a].toNat : Int) = 94
    · exact rset_caret p a w hp hlt h94
    · exact rset_none p a w hp hlt h94
  · exact rset_end p a w ha hlt
namespace Gb
theorem rsStar {s : ByteArray} {a : Nat} (h : a < s.size) (hb : (s[a].toNat : Int) = 42) : rs (D s a) = (.star, D s (a + 1)) := by
  rw [D_cons s a h, byte_is (b := 42) hb]; rfl
theorem rsAny {s : ByteArray} {a : Nat} (h : a < s.size) (hb : (s[a].toNat : Int) = 63) : rs (D s a) = (.any, D s (a + 1)) := by
  rw [D_cons s a h, byte_is (b := 63) hb]; rfl
theorem rsSet {s : ByteArray} {a n : Nat} {t : List UInt8} (h : a < s.size) (hb : (s[a].toNat : Int) = 91) (hc : setCut (D s (a + 1)) = (t, D s n)) : rs (D s a) = (.set t, D s n) := by
  rw [D_cons s a h, byte_is (b := 91) hb]
  simp only [rs]
  rw [hc]
  rfl
theorem rsByte {s : ByteArray} {a n : Nat} {b : UInt8} (h : a < s.size) (h1 : ¬ (s[a].toNat : Int) = 42) (h2 : ¬ (s[a].toNat : Int) = 63) (h3 : ¬ (s[a].toNat : Int) = 91) (hr : rb (D s a) = (b, D s n)) : rs (D s a) = (.byte b, D s n) := by
  rw [D_cons s a h] at hr ⊢
  simp only [rs]
  rw [if_neg (byte_no (b := 42) h1), if_neg (byte_no (b := 63) h2), if_neg (byte_no (b := 91) h3), hr]
end Gb
/-- the cells of a sign -/
def sgRow : Gb.Sg → List Value
  | none => row true (fun _ => false) 0 false
  | some none => row false (fun _ => true) 0 false
  | some (some (.inl b)) => row false (upd (fun _ => false) b.toNat true) b true
  | some (some (.inr l)) => row false (fun i => Gb.setM l (UInt8.ofNat i)) 0 false
theorem sgRow_len (g : Gb.Sg) : (sgRow g).length = 259 := by
  rcases g with _ | _ | _ | _ <;> exact row_len _ _ _ _
theorem row_one_list (s : Bool) (f : Nat → Bool) (o : UInt8) (p : Bool) : ∀ u ∈ row s f o p, u.oneCell' = true := by
  intro u hu
  have h := row_one_cell s f o p
  rw [Array.all_eq_true_iff_forall_mem] at h
  exact h u (by simpa using hu)
def cellsOf (l : List Gb.Sg) : List Value := l.flatMap sgRow
theorem cellsOf_snoc (l : List Gb.Sg) (g : Gb.Sg) : cellsOf (l ++ [g]) = cellsOf l ++ sgRow g := by simp [cellsOf]
theorem info_sign : ∃ i, Try.prog.info? 36 = some i ∧ i.zero = some (.agg zeroRow) ∧ i.size = 259 ∧ i.bytes = 259 := by
  have h : (Try.prog.info? 36).map (fun i => (i.zero, i.size, i.bytes)) = some (some (.agg zeroRow), 259, 259) := by kernel_rfl
  obtain ⟨i0, hi, hx⟩ := Option.map_eq_some_iff.1 h
  simp only [Prod.mk.injEq] at hx
  exact ⟨i0, hi, hx.1, hx.2.1, hx.2.2⟩
/-- the signs so far, and those to come -/
def sofar (p : ByteArray) (l : List Gb.Sg) (n : Nat) : Prop := Gb.sgs (Gb.D p 0) = l ++ Gb.sgs (Gb.D p n)
theorem sofar_more {p : ByteArray} {l : List Gb.Sg} {n m : Nat} {g : Gb.Sg} (h : sofar p l n) (hn : n < p.size) (hr : Gb.rs (Gb.D p n) = (g, Gb.D p m)) : sofar p (l ++ [g]) m := by
  unfold sofar at *
  rw [h, Gb.sgs_cons (Gb.D_ne p n hn), hr]
  simp
theorem sofar_end {p : ByteArray} {l : List Gb.Sg} {n : Nat} (h : sofar p l n) (hn : p.size ≤ n) : l = Gb.sgs (Gb.D p 0) := by
  unfold sofar at h
  rw [h, Gb.D_nil p n hn, Gb.sgs_nil, List.append_nil]
theorem tab_made (w : World) (s : Bool) (f : Nat → Bool) (o : UInt8) (p : Bool) : tabAt (w.alloc (Obj.cells (row s f o p).toArray 36)) w.heap.size s f o p := by
  have hb := heap_alloc_last w (Obj.cells (row s f o p).toArray 36)
  refine ⟨fun j v hv => ?_, fun j hj => ?_⟩
  · rw [Nat.zero_add, cell_of_row _ _ j (row s f o p).toArray 36 (0, 0) hb]
    simpa using hv
  · rw [Nat.zero_add, cell_of_row _ _ j (row s f o p).toArray 36 (0, 0) hb]
    refine ⟨by rw [Array.getElem?_eq_getElem (by rw [row_arr]; exact hj)]; rfl, ?_⟩
    unfold World.frozen?
    rw [hb]
    simp
theorem row_set {s s' : Bool} {f f' : Nat → Bool} {o o' : UInt8} {p p' : Bool} (i : Nat) (v : Value) (hi : i < 259) (hv : (row s' f' o' p')[i]? = some v)
    (hr : ∀ j u, (row s' f' o' p')[j]? = some u → j ≠ i → (row s f o p)[j]? = some u) : (row s f o p).toArray.setIfInBounds i v = (row s' f' o' p').toArray := by
  rw [List.setIfInBounds_toArray]
  congr 1
  apply List.ext_getElem?
  intro j
  by_cases hj : j < 259
  · have hu : (row s' f' o' p')[j]? = some ((row s' f' o' p')[j]'(by rw [row_len]; exact hj)) := List.getElem?_eq_getElem _
    by_cases hij : j = i
    · subst hij
      rw [List.getElem?_set_self (by rw [row_len]; exact hi), hv]
    · rw [List.getElem?_set_ne (fun e => hij e.symm), hu]
      exact hr j _ hu hij
  · rw [List.getElem?_eq_none (by rw [List.length_set, row_len]; omega), List.getElem?_eq_none (by rw [row_len]; omega)]
theorem made_cell (w : World) (s : Bool) (f : Nat → Bool) (o : UInt8) (p : Bool) : ∀ j u, (row s f o p)[j]? = some u → (w.alloc (Obj.cells (row s f o p).toArray 36)).cell? ((⟨w.heap.size, 0, none⟩ : Addr).add j) = some u := by
  intro j u h
  rw [Addr.add_mid]
  exact (tab_made w s f o p).1 j u h
theorem ownBelow {w w' : World} {base : Nat} {e : TypeId} {size : Nat} {v : Value} {n : Nat} {xs : List Value} (h : w.ownsRow base e size v n xs) (hb : Below w.heap.size w w') : w'.ownsRow base e size v n xs := by
  obtain ⟨h1, h2⟩ := h
  refine ⟨h1, ?_⟩
  rcases h2 with h2 | ⟨g, cap, cur, h3, h4, h5, h6⟩
  · exact .inl h2
  · refine .inr ⟨g, cap, cur, h3, h4, ?_, h6⟩
    rw [hb.block g ?_, h5]
    apply Decidable.byContradiction
    intro hn
    rw [Array.getElem?_eq_none (by omega)] at h5
    cases h5
theorem bel_store (w : World) (o : Obj) (vs : List Value) : ∀ w', Below (w.alloc o).heap.size (w.alloc o) w' → Below w.heap.size w (w'.setCells w.heap.size 0 vs) := by
  intro w' h
  exact Go.Lib.below_setCells w.heap.size (Nat.le_refl _) vs 0 (belTrans (bel_alloc0 w o) h)
theorem set_byte (b : UInt8) : ((zeroRow.setIfInBounds (1 + b.toNat) (.bool true)).setIfInBounds 257 (.int .u8 b.toNat)).setIfInBounds 258 (.bool true) = (row false (upd (fun _ => false) b.toNat true) b true).toArray := by
  have hb := b.toNat_lt
  have e1 : zeroRow.setIfInBounds (1 + b.toNat) (.bool true) = (row false (upd (fun _ => false) b.toNat true) 0 false).toArray := by
    unfold zeroRow
    refine row_set (1 + b.toNat) (.bool true) (by omega) (by rw [row_byte _ _ _ _ (by omega)]; unfold upd; rw [if_pos rfl]) (fun j u hu hj => ?_)
    by_cases j0 : j = 0
    · subst j0; rw [row_star] at hu ⊢; exact hu
    · by_cases j1 : j < 257
      · have e : j = 1 + (j - 1) := by omega
        rw [e, row_byte _ _ _ _ (by omega)] at hu ⊢
        unfold upd at hu
        rw [if_neg (by omega)] at hu
        exact hu
      · by_cases j2 : j = 257
        · subst j2; rw [row_one] at hu ⊢; exact hu
        · by_cases j3 : j = 258
          · subst j3; rw [row_plain] at hu ⊢; exact hu
          · rw [List.getElem?_eq_none (by rw [row_len]; omega)] at hu; cases hu
  have e2 : (row false (upd (fun _ => false) b.toNat true) 0 false).toArray.setIfInBounds 257 (.int .u8 b.toNat) = (row false (upd (fun _ => false) b.toNat true) b false).toArray := by
    refine row_set 257 _ (by omega) (row_one _ _ _ _) (fun j u hu hj => ?_)
    by_cases j1 : j < 257
    · by_cases j0 : j = 0
      · subst j0; rw [row_star] at hu ⊢; exact hu
      · have e : j = 1 + (j - 1) := by omega
        rw [e, row_byte _ _ _ _ (by omega)] at hu ⊢
        exact hu
    · by_cases j3 : j = 258
      · subst j3; rw [row_plain] at hu ⊢; exact hu
      · rw [List.getElem?_eq_none (by rw [row_len]; omega)] at hu; cases hu
  rw [e1, e2]
  refine row_set 258 _ (by omega) (row_plain _ _ _ _) (fun j u hu hj => ?_)
  by_cases j1 : j < 257
  · by_cases j0 : j = 0
    · subst j0; rw [row_star] at hu ⊢; exact hu
    · have e : j = 1 + (j - 1) := by omega
      rw [e, row_byte _ _ _ _ (by omega)] at hu ⊢
      exact hu
  · by_cases j3 : j = 257
    · subst j3; rw [row_one] at hu ⊢; exact hu
    · rw [List.getElem?_eq_none (by rw [row_len]; omega)] at hu; cases hu
theorem all_upd {f : Nat → Bool} {x : Nat} (h : ∀ i, i < x → f i = true) : ∀ i, i < x + 1 → upd f x true i = true := by
  intro i hi
  unfold upd
  by_cases e : i = x
  · rw [if_pos e]
  · rw [if_neg e]; exact h i (by omega)
theorem wpList_newsign {ops : Array Oper} {rest : List Oper} {o : Oper} {a : Act} {w : World} {Q : Exit → Act → World → Prop} (hg : o.guard = none) (ho : o.op = .alloc 36)
    (h : ∀ w1, Kept (tabAt w1 w.heap.size false (fun _ => false) 0 false) → Kept (Below w.heap.size w w1) → w.heap.size < w1.heap.size → wpList Try.prog ops Q rest (a.put o.dst (.pointer (some ⟨w.heap.size, 0, none⟩))) w1) : wpList Try.prog ops Q (o :: rest) a w := by
  refine wpList_plain hg fun K hK => ?_
  have hz := zero_sign.1
  unfold Oper.wp
  simp [execOp, ho, Instr.alloc, hz, Result.andThen, Value.cells, go_sem]
  exact hK _ _ (h _ (tab_new w) (bel_alloc0 w _) (by simp))
theorem made_cellL (w : World) (L : List Value) : ∀ j u, L[j]? = some u → (w.alloc (Obj.cells L.toArray 36)).cell? ((⟨w.heap.size, 0, none⟩ : Addr).add j) = some u := by
  intro j u h
  have hb := heap_alloc_last w (Obj.cells L.toArray 36)
  rw [Addr.add_mid, cell_of_row _ _ _ L.toArray 36 (0, 0) hb]
  simpa using h
theorem rset_list (p : ByteArray) (a : Nat) (w : World) (hp : p.size ≤ 1099511627776) (ha : a ≤ p.size) :
    Calls Try.prog 15 #[.string p, .int .i64 a] w fun e w' => ∃ (L : List Value) (n : Nat), e = .returned (.tuple #[.agg L.toArray, .int .i64 n]) ∧ Kept (L = row false (setF p a) 0 false) ∧ Kept (Below w.heap.size w w') ∧ Kept (Gb.beh p a = Gb.D p n) ∧ a ≤ n ∧ n ≤ p.size := by
  refine (rset_any p a w hp ha).mono ?_
  rintro e w' ⟨n, rfl, h1, h2, h3, h4⟩
  exact ⟨_, n, rfl, rfl, h1, h2, h3, h4⟩
/-- what is wanted of a sign's cells when it is stored, loaded and appended -/
theorem list_facts {L : List Value} {s : Bool} {f : Nat → Bool} {o : UInt8} {p : Bool} (h : L = row s f o p) : L.length = 259 ∧ L.toArray.size = 259 ∧ L.toArray.all (·.oneCell') = true ∧ (∀ u ∈ L, u.oneCell' = true) ∧ (Try.prog.info? 36).map (·.size) = some L.length ∧ (Try.prog.info? 36).map (·.size) = some L.toArray.size := by
  subst h
  exact ⟨row_len _ _ _ _, row_arr _ _ _ _, row_one_cell _ _ _ _, row_one_list _ _ _ _, info_list _ _ _ _, info_arr _ _ _ _⟩
theorem byte_facts {w0 : World} {g : Nat} (B : UInt8) (k : Nat) (v : Int) (hk : 1 + B.toNat = k) (hv : (B.toNat : Int) = v) (h : tabAt w0 g false (fun _ => false) 0 false) : ∃ L : List Value, Kept (L = sgRow (Gb.Sg.byte B)) ∧
    w0.cell? ⟨g, k, none⟩ = some (.bool false) ∧ w0.frozen? ⟨g, k, none⟩ = false ∧
    (w0.setCell ⟨g, k, none⟩ (.bool true)).cell? ⟨g, 257, none⟩ = some (.int .u8 0) ∧ w0.frozen? ⟨g, 257, none⟩ = false ∧
    ((w0.setCell ⟨g, k, none⟩ (.bool true)).setCell ⟨g, 257, none⟩ (.int .u8 v)).cell? ⟨g, 258, none⟩ = some (.bool false) ∧ w0.frozen? ⟨g, 258, none⟩ = false ∧
    Kept ((((w0.setCell ⟨g, k, none⟩ (.bool true)).setCell ⟨g, 257, none⟩ (.int .u8 v)).setCell ⟨g, 258, none⟩ (.bool true)).rangeAt g 0 L) := by
  subst hk hv
  have hb := B.toNat_lt
  have t1 := tab_upd h B.toNat true (by omega)
  have t2 : tabAt ((w0.setCell ⟨g, 1 + B.toNat, none⟩ (.bool true)).setCell ⟨g, 257, none⟩ (.int .u8 B.toNat)) g false (upd (fun _ => false) B.toNat true) B false := by
    refine tab_set t1 257 _ (by omega) (fun j u hu hj => ?_) (row_one _ _ _ _)
    by_cases j1 : j < 257
    · by_cases j0 : j = 0
      · subst j0; rw [row_star] at hu ⊢; exact hu
      · have e : j = 1 + (j - 1) := by omega
        rw [e, row_byte _ _ _ _ (by omega)] at hu ⊢
        exact hu
    · by_cases j3 : j = 258
      · subst j3; rw [row_plain] at hu ⊢; exact hu
      · rw [List.getElem?_eq_none (by rw [row_len]; omega)] at hu; cases hu
  have t3 : tabAt (((w0.setCell ⟨g, 1 + B.toNat, none⟩ (.bool true)).setCell ⟨g, 257, none⟩ (.int .u8 B.toNat)).setCell ⟨g, 258, none⟩ (.bool true)) g false (upd (fun _ => false) B.toNat true) B true := by
    refine tab_set t2 258 _ (by omega) (fun j u hu hj => ?_) (row_plain _ _ _ _)
    by_cases j1 : j < 257
    · by_cases j0 : j = 0
      · subst j0; rw [row_star] at hu ⊢; exact hu
      · have e : j = 1 + (j - 1) := by omega
        rw [e, row_byte _ _ _ _ (by omega)] at hu ⊢
        exact hu
    · by_cases j3 : j = 257
      · subst j3; rw [row_one] at hu ⊢; exact hu
      · rw [List.getElem?_eq_none (by rw [row_len]; omega)] at hu; cases hu
  exact ⟨_, rfl, tab_cell h (1 + B.toNat) (row_byte _ _ _ _ (by omega)), tab_free h (by omega), tab_cell t1 257 (row_one _ _ _ _), tab_free h (by omega), tab_cell t2 258 (row_plain _ _ _ _), tab_free h (by omega), t3.1⟩
theorem byte_all {wr w0 : World} (B : UInt8) (k : Nat) (v : Int) (hk : 1 + B.toNat = k) (hv : (B.toNat : Int) = v) (h : tabAt w0 wr.heap.size false (fun _ => false) 0 false) (hb : Below wr.heap.size wr w0) : ∃ L : List Value, Kept (L = sgRow (Gb.Sg.byte B)) ∧
    w0.cell? ⟨wr.heap.size, k, none⟩ = some (.bool false) ∧ w0.frozen? ⟨wr.heap.size, k, none⟩ = false ∧
    (w0.setCell ⟨wr.heap.size, k, none⟩ (.bool true)).cell? ⟨wr.heap.size, 257, none⟩ = some (.int .u8 0) ∧ w0.frozen? ⟨wr.heap.size, 257, none⟩ = false ∧
    ((w0.setCell ⟨wr.heap.size, k, none⟩ (.bool true)).setCell ⟨wr.heap.size, 257, none⟩ (.int .u8 v)).cell? ⟨wr.heap.size, 258, none⟩ = some (.bool false) ∧ w0.frozen? ⟨wr.heap.size, 258, none⟩ = false ∧
    Kept ((((w0.setCell ⟨wr.heap.size, k, none⟩ (.bool true)).setCell ⟨wr.heap.size, 257, none⟩ (.int .u8 v)).setCell ⟨wr.heap.size, 258, none⟩ (.bool true)).rangeAt wr.heap.size 0 L) ∧
    Kept (L.length = 259) ∧ Kept (L.toArray.size = 259) ∧ Kept (∀ u ∈ L, u.oneCell' = true) ∧ Kept ((Try.prog.info? 36).map (·.size) = some L.length) ∧
    Kept (Below wr.heap.size wr (((w0.setCell ⟨wr.heap.size, k, none⟩ (.bool true)).setCell ⟨wr.heap.size, 257, none⟩ (.int .u8 v)).setCell ⟨wr.heap.size, 258, none⟩ (.bool true))) := by
  obtain ⟨L, hrw, c1, z1, c2, z2, c3, z3, T1⟩ := byte_facts B k v hk hv h
  obtain ⟨g1, g2, _, g4, g5, _⟩ := list_facts (show L = row false (upd (fun _ => false) B.toNat true) B true from hrw.out)
  exact ⟨L, hrw, c1, z1, c2, z2, c3, z3, T1, g1, g2, g4, g5, ((hb.setCell (Nat.le_refl _) _).setCell (Nat.le_refl _) _).setCell (Nat.le_refl _) _⟩
theorem set_star : zeroRow.setIfInBounds 0 (.bool true) = (row true (fun _ => false) 0 false).toArray := by
  unfold zeroRow
  refine row_set 0 (.bool true) (by omega) rfl (fun j u hu hj => ?_)
  unfold row at hu ⊢
  cases j with
  | zero => exact absurd rfl hj
  | succ j => exact hu
set_option maxHeartbeats 20000000 in
set_option maxRecDepth 100000 in
theorem signs_any (p : ByteArray) (w : World) (hp : p.size ≤ 1048576) :
    Calls Try.prog 11 #[.string p] w fun e w' => ∃ v, e = .returned v ∧ Kept (w'.ownsRow w.heap.size 36 259 v (Gb.sgs (Gb.D p 0)).length (cellsOf (Gb.sgs (Gb.D p 0)))) ∧ Below w.heap.size w w' := by
  have hz := zero_sign.1
  have zs := zeroRow_size
  obtain ⟨i0, hi, hz0, hz1, hz2⟩ := info_sign
  go_enter Try.func11, Try.ntmps11
  go_wp2
  go_loopg [3, 4] p.size (fun g v3 v4 wx => ∃ (n : Nat) (l : List Gb.Sg), n + g = p.size ∧ l.length ≤ n ∧ v4 = .int .i64 n ∧ Kept (wx.ownsRow w.heap.size 36 259 v3 l.length (cellsOf l)) ∧ Kept (sofar p l n) ∧ Below w.heap.size w wx)
  case atStart => exact ⟨0, [], by omega, by simp, rfl, World.ownsRow_nil _ _ _ _, rfl, Below.refl _ _⟩
  case round =>
    obtain ⟨n, l, hng, hln, rfl, hown, hso, hbw⟩ := hrel
    have hsz := hbw.size
    by_cases hlt : n < p.size
    · have T0 := keep (tab_new wr)
      have hown0 := keep (hown.out.alloc (Obj.cells zeroRow 36))
      have hbw0 := keep (belTrans hbw (bel_alloc0 wr (Obj.cells zeroRow 36)))
      have hbw := keep hbw
      by_cases h42 : (p[n].toNat : Int) = 42
      · have hso2 := keep (sofar_more hso.out hlt (Gb.rsStar hlt h42))
        have e1 := set_star
        have T1 := keep (tab_made wr true (fun _ => false) 0 false).1
        have hbr := keep (bel_alloc0 wr (Obj.cells (row true (fun _ => false) 0 false).toArray 36))
        have hrw := keep (show row true (fun _ => false) 0 false = sgRow (Gb.Sg.star) from rfl)
        go_wp2_with (first
          | (refine wpList_load_mid rfl 36 (.tmp 5) rfl wr.heap.size 0 rfl (row true (fun _ => false) 0 false) _ T1.out Try.underlying36 rfl (info_list _ _ _ _) ?_)
          | (refine wpList_sign rfl rfl rfl (row true (fun _ => false) 0 false).toArray (row_arr _ _ _ _) rfl ?_)
          | (at_builtin; refine wpList_append_own _ rfl (.tmp 70) (.tmp 72) 31 rfl w.heap.size 36 i0 (.agg zeroRow) 259 259 Try.underlying31 hi hz0 hz1 hz2 zeroRow_size (by decide) _ l.length (cellsOf l) rfl ((ownBelow hown.out hbr.out).alloc _) _ 1 1 (row true (fun _ => false) 0 false) rfl (row_len _ _ _ _) (made_cell _ _ _ _ _) (row_one_list _ _ _ _) ?c3 ?c4 ?c5 ?c6))
        case c3 => unfold maxLen; omega
        case c4 => omega
        case c5 => have h1 := hbr.out.size; simp; omega
        case c6 =>
          intro v' w3 hown3 hgrow3 _
          have hb3 : Below w.heap.size w w3 := Below.grown (belTrans (belTrans hbw.out hbr.out) (bel_alloc0 _ _)) hgrow3 (by have h1 := hbr.out.size; simp; omega) (fun k hk => (hown.out.lt k hk).1)
          have hown4 : Kept (w3.ownsRow w.heap.size 36 259 v' (l ++ [Gb.Sg.star]).length (cellsOf (l ++ [Gb.Sg.star]))) := by
            show World.ownsRow _ _ _ _ _ _ _
            rw [List.length_append, cellsOf_snoc, ← hrw.out]
            exact hown3
          clear hown3 hgrow3
          go_wp2
          go_roundg (p.size - (n + 1))
          case measure => omega
          case rel => exact ⟨n + 1, l ++ [Gb.Sg.star], by omega, by simp; omega, by first | rfl | go_num, hown4, hso2, hb3⟩
      · by_cases h63 : (p[n].toNat : Int) = 63
        · have hso2 := keep (sofar_more hso.out hlt (Gb.rsAny hlt h63))
          go_wp2
          obtain ⟨wo, hwo⟩ : ∃ x, x = wr := ⟨_, rfl⟩
          subst hwo
          go_loopg [6] 256 (fun g v6 wy => ∃ (x : Nat) (f : Nat → Bool), x + g = 256 ∧ v6 = .int .i64 x ∧ Kept (tabAt wy wo.heap.size false f 0 false) ∧ Kept (∀ i, i < x → f i = true) ∧ Below wo.heap.size wo wy)
          case atStart => exact ⟨0, fun _ => false, by omega, rfl, T0, fun i hi => absurd hi (by omega), bel_alloc0 _ _⟩
          case round =>
            clear T0
            obtain ⟨x, f, hxg, rfl, hT, hF, hbr⟩ := hrel
            by_cases hx : x < 256
            · have c1 := tab_cell hT.out (1 + x) (row_byte false f 0 false hx)
              have c2 := tab_free hT.out (j := 1 + x) (by omega)
              go_wp2
              go_roundg (255 - x)
              case measure => omega
              case rel => exact ⟨x + 1, upd f x true, by omega, by go_num, tab_upd hT.out x true hx, all_upd hF.out, hbr.setCell (Nat.le_refl _) _⟩
            · have hx' : x = 256 := by omega
              subst hx'
              have hbr := keep hbr
              have T1 := keep hT.out.1
              have hrw := keep (show row false f 0 false = sgRow (Gb.Sg.any) from row_same (fun i hi => hF.out i hi))
              go_wp2_with (first
                | (refine wpList_load_mid rfl 36 (.tmp 5) rfl wo.heap.size 0 rfl (row false f 0 false) _ T1.out Try.underlying36 rfl (info_list _ _ _ _) ?_)
                | (refine wpList_sign rfl rfl rfl (row false f 0 false).toArray (row_arr _ _ _ _) rfl ?_)
                | (at_builtin; refine wpList_append_own _ rfl (.tmp 70) (.tmp 72) 31 rfl w.heap.size 36 i0 (.agg zeroRow) 259 259 Try.underlying31 hi hz0 hz1 hz2 zeroRow_size (by decide) _ l.length (cellsOf l) rfl ((ownBelow hown.out hbr.out).alloc _) _ 1 1 (row false f 0 false) rfl (row_len _ _ _ _) (made_cell _ _ _ _ _) (row_one_list _ _ _ _) ?c3 ?c4 ?c5 ?c6))
              case c3 => unfold maxLen; omega
              case c4 => omega
              case c5 => have h1 := hbr.out.size; simp; omega
              case c6 =>
                intro v' w3 hown3 hgrow3 _
                have hb3 : Below w.heap.size w w3 := Below.grown (belTrans (belTrans hbw.out hbr.out) (bel_alloc0 _ _)) hgrow3 (by have h1 := hbr.out.size; simp; omega) (fun k hk => (hown.out.lt k hk).1)
                have hown4 : Kept (w3.ownsRow w.heap.size 36 259 v' (l ++ [Gb.Sg.any]).length (cellsOf (l ++ [Gb.Sg.any]))) := by
                  show World.ownsRow _ _ _ _ _ _ _
                  rw [List.length_append, cellsOf_snoc, ← hrw.out]
                  exact hown3
                clear hown3 hgrow3
                go_wp2
                go_roundg (p.size - (n + 1))
                case measure => omega
                case rel => exact ⟨n + 1, l ++ [Gb.Sg.any], by omega, by simp; omega, by first | rfl | go_num, hown4, hso2, hb3⟩
        · by_cases h91 : (p[n].toNat : Int) = 91
          · clear T0 hown0 hbw0 hz
            go_wp2_with (first | (refine wpList_newsign rfl rfl ?_; intro w0 T0 hb0 hs0))
            refine (rset_list p (n + 1) _ (by omega) (by omega)).mono ?_
            rintro e w1 ⟨L, m, rfl, hL, hb1, hbe, hm1, hm2⟩
            have hso2 := keep (sofar_more hso.out hlt (Gb.rsSet (t := Gb.ins p (n + 1)) hlt h91 (by rw [← hbe.out]; rfl)))
            obtain ⟨g1, g2, g3, g4, g5, g6⟩ := list_facts hL.out
            have f1 := keep g1
            have f2 := keep g2
            have f3 := keep g3
            have f4 := keep g4
            have f5 := keep g5
            have f6 := keep g6
            clear g1 g2 g3 g4 g5 g6
            have hth0 := (tab_below T0.out hb1.out).2
            have hth : Kept (w1.there wr.heap.size 0 L.toArray.size) := by show World.there _ _ _ _; rw [f2.out]; exact hth0
            have T1 : Kept ((w1.setCells wr.heap.size 0 L).rangeAt wr.heap.size 0 L) := World.rangeAt_setCells_same w1 wr.heap.size 0 L (by rw [f1.out]; exact hth0)
            have hbr : Kept (Below wr.heap.size wr (w1.setCells wr.heap.size 0 L)) := Go.Lib.below_setCells wr.heap.size (Nat.le_refl _) L 0 (belTrans hb0.out hb1.out)
            have hrw : Kept (L = sgRow (Gb.Sg.set (Gb.ins p (n + 1)))) := hL
            clear T0 hL hth0 hb0 hb1 hbe
            go_wp2_with (first
              | (refine wpList_store_mid rfl 36 (.tmp 5) (.tmp 68) rfl wr.heap.size 0 L.toArray rfl rfl hth.out f6.out f3.out ?_)
              | (refine wpList_load_mid rfl 36 (.tmp 5) rfl wr.heap.size 0 rfl (L) _ T1.out Try.underlying36 rfl f5.out ?_)
              | (refine wpList_sign rfl rfl rfl (L).toArray f2.out rfl ?_)
              | (at_builtin; refine wpList_append_own _ rfl (.tmp 70) (.tmp 72) 31 rfl w.heap.size 36 i0 (.agg zeroRow) 259 259 Try.underlying31 hi hz0 hz1 hz2 zeroRow_size (by decide) _ l.length (cellsOf l) rfl ((ownBelow hown.out hbr.out).alloc _) _ 1 1 (L) rfl (by rw [f1.out]) (made_cellL _ _) f4.out ?c3 ?c4 ?c5 ?c6))
            case c3 => unfold maxLen; omega
            case c4 => omega
            case c5 => have h1 := hbr.out.size; simp; omega
            case c6 =>
              intro v' w3 hown3 hgrow3 _
              have hb3 : Below w.heap.size w w3 := Below.grown (belTrans (belTrans hbw.out hbr.out) (bel_alloc0 _ _)) hgrow3 (by have h1 := hbr.out.size; simp; omega) (fun k hk => (hown.out.lt k hk).1)
              have hown4 : Kept (w3.ownsRow w.heap.size 36 259 v' (l ++ [Gb.Sg.set (Gb.ins p (n + 1))]).length (cellsOf (l ++ [Gb.Sg.set (Gb.ins p (n + 1))]))) := by
                show World.ownsRow _ _ _ _ _ _ _
                rw [List.length_append, cellsOf_snoc, ← hrw.out]
                exact hown3
              clear hown3 hgrow3
              go_wp2
              go_roundg (p.size - (m))
              case measure => omega
              case rel => exact ⟨m, l ++ [Gb.Sg.set (Gb.ins p (n + 1))], by omega, by simp; omega, by first | rfl | go_num, hown4, hso2, hb3⟩
          · have d42 : ((p[n].toNat : Int) == 42) = false := beq_eq_false_iff_ne.2 h42
            have d63 : ((p[n].toNat : Int) == 63) = false := beq_eq_false_iff_ne.2 h63
            have d91 : ((p[n].toNat : Int) == 91) = false := beq_eq_false_iff_ne.2 h91
            by_cases h92 : (p[n].toNat : Int) = 92
            · by_cases hn1 : n + 1 < p.size
              · skip
                have hso2 := keep (sofar_more hso.out hlt (Gb.rsByte hlt h42 h63 h91 (Gb.rb_two hn1 hlt h92)))
                have hbl := UInt8.toNat_lt (p[n + 1])
                clear T0 hown0 hbw0 hz
                go_wp2_with (first
                  | (refine wpList_newsign rfl rfl ?_; intro w0 T0 hb0 hs0; obtain ⟨L, hrw, c1, z1, c2, z2, c3, z3, T1, f1, f2, f4, f5, hbr⟩ := byte_all (p[n + 1]) (1 + (p[n + 1]).toNat) ((p[n + 1]).toNat) rfl rfl T0.out hb0.out; clear T0 hb0)
                  | (refine wpList_load_mid rfl 36 (.tmp 5) rfl wr.heap.size 0 rfl (L) _ T1.out Try.underlying36 rfl f5.out ?_)
                  | (refine wpList_sign rfl rfl rfl (L).toArray f2.out rfl ?_)
                  | (at_builtin; refine wpList_append_own _ rfl (.tmp 70) (.tmp 72) 31 rfl w.heap.size 36 i0 (.agg zeroRow) 259 259 Try.underlying31 hi hz0 hz1 hz2 zeroRow_size (by decide) _ l.length (cellsOf l) rfl ((ownBelow hown.out hbr.out).alloc _) _ 1 1 (L) rfl (by rw [f1.out]) (made_cellL _ _) f4.out ?c3 ?c4 ?c5 ?c6))
                case c3 => unfold maxLen; omega
                case c4 => omega
                case c5 => have h1 := hbr.out.size; simp; omega
                case c6 =>
                  intro v' w3 hown3 hgrow3 _
                  have hb3 : Below w.heap.size w w3 := Below.grown (belTrans (belTrans hbw.out hbr.out) (bel_alloc0 _ _)) hgrow3 (by have h1 := hbr.out.size; simp; omega) (fun k hk => (hown.out.lt k hk).1)
                  have hown4 : Kept (w3.ownsRow w.heap.size 36 259 v' (l ++ [Gb.Sg.byte p[n + 1]]).length (cellsOf (l ++ [Gb.Sg.byte p[n + 1]]))) := by
                    show World.ownsRow _ _ _ _ _ _ _
                    rw [List.length_append, cellsOf_snoc, ← hrw.out]
                    exact hown3
                  clear hown3 hgrow3
                  go_wp2
                  go_roundg (p.size - (n + 2))
                  case measure => omega
                  case rel => exact ⟨n + 2, l ++ [Gb.Sg.byte p[n + 1]], by omega, by simp; omega, by first | rfl | go_num, hown4, hso2, hb3⟩
              · skip
                have hso2 := keep (sofar_more hso.out hlt (Gb.rsByte hlt h42 h63 h91 (Gb.rb_last hlt hn1)))
                rw [show p[n] = 92 from Gb.byte_is (b := 92) h92] at hso2
                have hbl := UInt8.toNat_lt ((92 : UInt8))
                clear T0 hown0 hbw0 hz
                go_wp2_with (first
                  | (refine wpList_newsign rfl rfl ?_; intro w0 T0 hb0 hs0; obtain ⟨L, hrw, c1, z1, c2, z2, c3, z3, T1, f1, f2, f4, f5, hbr⟩ := byte_all ((92 : UInt8)) (93) (92) rfl rfl T0.out hb0.out; clear T0 hb0)
                  | (refine wpList_load_mid rfl 36 (.tmp 5) rfl wr.heap.size 0 rfl (L) _ T1.out Try.underlying36 rfl f5.out ?_)
                  | (refine wpList_sign rfl rfl rfl (L).toArray f2.out rfl ?_)
                  | (at_builtin; refine wpList_append_own _ rfl (.tmp 70) (.tmp 72) 31 rfl w.heap.size 36 i0 (.agg zeroRow) 259 259 Try.underlying31 hi hz0 hz1 hz2 zeroRow_size (by decide) _ l.length (cellsOf l) rfl ((ownBelow hown.out hbr.out).alloc _) _ 1 1 (L) rfl (by rw [f1.out]) (made_cellL _ _) f4.out ?c3 ?c4 ?c5 ?c6))
                case c3 => unfold maxLen; omega
                case c4 => omega
                case c5 => have h1 := hbr.out.size; simp; omega
                case c6 =>
                  intro v' w3 hown3 hgrow3 _
                  have hb3 : Below w.heap.size w w3 := Below.grown (belTrans (belTrans hbw.out hbr.out) (bel_alloc0 _ _)) hgrow3 (by have h1 := hbr.out.size; simp; omega) (fun k hk => (hown.out.lt k hk).1)
                  have hown4 : Kept (w3.ownsRow w.heap.size 36 259 v' (l ++ [Gb.Sg.byte (92 : UInt8)]).length (cellsOf (l ++ [Gb.Sg.byte (92 : UInt8)]))) := by
                    show World.ownsRow _ _ _ _ _ _ _
                    rw [List.length_append, cellsOf_snoc, ← hrw.out]
                    exact hown3
                  clear hown3 hgrow3
                  go_wp2
                  go_roundg (p.size - (n + 1))
                  case measure => omega
                  case rel => exact ⟨n + 1, l ++ [Gb.Sg.byte (92 : UInt8)], by omega, by simp; omega, by first | rfl | go_num, hown4, hso2, hb3⟩
            · have d92 : ((p[n].toNat : Int) == 92) = false := beq_eq_false_iff_ne.2 h92
              have hso2 := keep (sofar_more hso.out hlt (Gb.rsByte hlt h42 h63 h91 (Gb.rb_one hlt h92)))
              have hbl := UInt8.toNat_lt (p[n])
              clear T0 hown0 hbw0 hz
              go_wp2_with (first
                | (refine wpList_newsign rfl rfl ?_; intro w0 T0 hb0 hs0; obtain ⟨L, hrw, c1, z1, c2, z2, c3, z3, T1, f1, f2, f4, f5, hbr⟩ := byte_all (p[n]) (1 + (p[n]).toNat) ((p[n]).toNat) rfl rfl T0.out hb0.out; clear T0 hb0)
                | (refine wpList_load_mid rfl 36 (.tmp 5) rfl wr.heap.size 0 rfl (L) _ T1.out Try.underlying36 rfl f5.out ?_)
                | (refine wpList_sign rfl rfl rfl (L).toArray f2.out rfl ?_)
                | (at_builtin; refine wpList_append_own _ rfl (.tmp 70) (.tmp 72) 31 rfl w.heap.size 36 i0 (.agg zeroRow) 259 259 Try.underlying31 hi hz0 hz1 hz2 zeroRow_size (by decide) _ l.length (cellsOf l) rfl ((ownBelow hown.out hbr.out).alloc _) _ 1 1 (L) rfl (by rw [f1.out]) (made_cellL _ _) f4.out ?c3 ?c4 ?c5 ?c6))
              case c3 => unfold maxLen; omega
              case c4 => omega
              case c5 => have h1 := hbr.out.size; simp; omega
              case c6 =>
                intro v' w3 hown3 hgrow3 _
                have hb3 : Below w.heap.size w w3 := Below.grown (belTrans (belTrans hbw.out hbr.out) (bel_alloc0 _ _)) hgrow3 (by have h1 := hbr.out.size; simp; omega) (fun k hk => (hown.out.lt k hk).1)
                have hown4 : Kept (w3.ownsRow w.heap.size 36 259 v' (l ++ [Gb.Sg.byte p[n]]).length (cellsOf (l ++ [Gb.Sg.byte p[n]]))) := by
                  show World.ownsRow _ _ _ _ _ _ _
                  rw [List.length_append, cellsOf_snoc, ← hrw.out]
                  exact hown3
                clear hown3 hgrow3
                go_wp2
                go_roundg (p.size - (n + 1))
                case measure => omega
                case rel => exact ⟨n + 1, l ++ [Gb.Sg.byte p[n]], by omega, by simp; omega, by first | rfl | go_num, hown4, hso2, hb3⟩
    · have hl := sofar_end hso.out (by omega)
      subst hl
      go_wp2
      go_ret
      exact ⟨_, rfl, hown, hbw⟩
end Go.Proofs.Ytmlpfijabdkbjaa
