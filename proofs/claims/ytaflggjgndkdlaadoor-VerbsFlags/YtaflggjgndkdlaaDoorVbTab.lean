/-
  Contracts over this program: the table of commands as an array of 210 cells, and one of its rows.
-/
import Derived.Test.YtaflggjgndkdlaaDoorProg
import Derived.Test.YtaflggjgndkdlaaDoorVbMath
import Derived.Below
import Derived.Deep.WholeRow
import Derived.Deep.MidRow
import Derived.WalkLawsBesides
import Derived.Deep.Cut
import Derived.Laws.ResultCell
namespace Go.Proofs.YtaflggjgndkdlaaDoor
open Go.RowKit
def rowL (n : ByteArray) (r : Vb.Row) : List Value := [.string n, .int .i64 r.1, .int .i64 r.2.1, .int .i64 r.2.2.1, .int .i64 r.2.2.2.1, .int .i64 r.2.2.2.2]
def rowV (n : ByteArray) (r : Vb.Row) : Value := .agg (rowL n r).toArray
def tabL : List Value := Vb.kinL.flatMap fun k => rowL (Vb.ofL k.1) k.2
def tabV : Array Value := tabL.toArray
theorem tab_size : tabV.size = 210 := by decide +kernel
theorem info_tab : (∀ w, (zeroValue 45).run Tryd.prog w = .ok (.agg ((List.replicate 35 (rowL ByteArray.empty Vb.zeroR)).flatten.toArray)) w) ∧ (Tryd.prog.info? 45).map (·.size) = some 210 :=
  zero_of_info (by kernel_rfl)
theorem tab_one : tabV.all (·.oneCell') = true := by kernel_rfl
theorem tab_row0 (w : World) : (Instr.index 45 (.agg tabV) (.int .i64 0)).run Tryd.prog w = .ok (rowV (Vb.ofL (Vb.kinL.getD 0 ([], Vb.zeroR)).1) (Vb.kinL.getD 0 ([], Vb.zeroR)).2) w := by kernel_rfl
theorem tab_row1 (w : World) : (Instr.index 45 (.agg tabV) (.int .i64 1)).run Tryd.prog w = .ok (rowV (Vb.ofL (Vb.kinL.getD 1 ([], Vb.zeroR)).1) (Vb.kinL.getD 1 ([], Vb.zeroR)).2) w := by kernel_rfl
theorem tab_row2 (w : World) : (Instr.index 45 (.agg tabV) (.int .i64 2)).run Tryd.prog w = .ok (rowV (Vb.ofL (Vb.kinL.getD 2 ([], Vb.zeroR)).1) (Vb.kinL.getD 2 ([], Vb.zeroR)).2) w := by kernel_rfl
theorem tab_row3 (w : World) : (Instr.index 45 (.agg tabV) (.int .i64 3)).run Tryd.prog w = .ok (rowV (Vb.ofL (Vb.kinL.getD 3 ([], Vb.zeroR)).1) (Vb.kinL.getD 3 ([], Vb.zeroR)).2) w := by kernel_rfl
theorem tab_row4 (w : World) : (Instr.index 45 (.agg tabV) (.int .i64 4)).run Tryd.prog w = .ok (rowV (Vb.ofL (Vb.kinL.getD 4 ([], Vb.zeroR)).1) (Vb.kinL.getD 4 ([], Vb.zeroR)).2) w := by kernel_rfl
theorem tab_row5 (w : World) : (Instr.index 45 (.agg tabV) (.int .i64 5)).run Tryd.prog w = .ok (rowV (Vb.ofL (Vb.kinL.getD 5 ([], Vb.zeroR)).1) (Vb.kinL.getD 5 ([], Vb.zeroR)).2) w := by kernel_rfl
theorem tab_row6 (w : World) : (Instr.index 45 (.agg tabV) (.int .i64 6)).run Tryd.prog w = .ok (rowV (Vb.ofL (Vb.kinL.getD 6 ([], Vb.zeroR)).1) (Vb.kinL.getD 6 ([], Vb.zeroR)).2) w := by kernel_rfl
theorem tab_row7 (w : World) : (Instr.index 45 (.agg tabV) (.int .i64 7)).run Tryd.prog w = .ok (rowV (Vb.ofL (Vb.kinL.getD 7 ([], Vb.zeroR)).1) (Vb.kinL.getD 7 ([], Vb.zeroR)).2) w := by kernel_rfl
theorem tab_row8 (w : World) : (Instr.index 45 (.agg tabV) (.int .i64 8)).run Tryd.prog w = .ok (rowV (Vb.ofL (Vb.kinL.getD 8 ([], Vb.zeroR)).1) (Vb.kinL.getD 8 ([], Vb.zeroR)).2) w := by kernel_rfl
theorem tab_row9 (w : World) : (Instr.index 45 (.agg tabV) (.int .i64 9)).run Tryd.prog w = .ok (rowV (Vb.ofL (Vb.kinL.getD 9 ([], Vb.zeroR)).1) (Vb.kinL.getD 9 ([], Vb.zeroR)).2) w := by kernel_rfl
theorem tab_row10 (w : World) : (Instr.index 45 (.agg tabV) (.int .i64 10)).run Tryd.prog w = .ok (rowV (Vb.ofL (Vb.kinL.getD 10 ([], Vb.zeroR)).1) (Vb.kinL.getD 10 ([], Vb.zeroR)).2) w := by kernel_rfl
theorem tab_row11 (w : World) : (Instr.index 45 (.agg tabV) (.int .i64 11)).run Tryd.prog w = .ok (rowV (Vb.ofL (Vb.kinL.getD 11 ([], Vb.zeroR)).1) (Vb.kinL.getD 11 ([], Vb.zeroR)).2) w := by kernel_rfl
theorem tab_row12 (w : World) : (Instr.index 45 (.agg tabV) (.int .i64 12)).run Tryd.prog w = .ok (rowV (Vb.ofL (Vb.kinL.getD 12 ([], Vb.zeroR)).1) (Vb.kinL.getD 12 ([], Vb.zeroR)).2) w := by kernel_rfl
theorem tab_row13 (w : World) : (Instr.index 45 (.agg tabV) (.int .i64 13)).run Tryd.prog w = .ok (rowV (Vb.ofL (Vb.kinL.getD 13 ([], Vb.zeroR)).1) (Vb.kinL.getD 13 ([], Vb.zeroR)).2) w := by kernel_rfl
theorem tab_row14 (w : World) : (Instr.index 45 (.agg tabV) (.int .i64 14)).run Tryd.prog w = .ok (rowV (Vb.ofL (Vb.kinL.getD 14 ([], Vb.zeroR)).1) (Vb.kinL.getD 14 ([], Vb.zeroR)).2) w := by kernel_rfl
theorem tab_row15 (w : World) : (Instr.index 45 (.agg tabV) (.int .i64 15)).run Tryd.prog w = .ok (rowV (Vb.ofL (Vb.kinL.getD 15 ([], Vb.zeroR)).1) (Vb.kinL.getD 15 ([], Vb.zeroR)).2) w := by kernel_rfl
theorem tab_row16 (w : World) : (Instr.index 45 (.agg tabV) (.int .i64 16)).run Tryd.prog w = .ok (rowV (Vb.ofL (Vb.kinL.getD 16 ([], Vb.zeroR)).1) (Vb.kinL.getD 16 ([], Vb.zeroR)).2) w := by kernel_rfl
theorem tab_row17 (w : World) : (Instr.index 45 (.agg tabV) (.int .i64 17)).run Tryd.prog w = .ok (rowV (Vb.ofL (Vb.kinL.getD 17 ([], Vb.zeroR)).1) (Vb.kinL.getD 17 ([], Vb.zeroR)).2) w := by kernel_rfl
theorem tab_row18 (w : World) : (Instr.index 45 (.agg tabV) (.int .i64 18)).run Tryd.prog w = .ok (rowV (Vb.ofL (Vb.kinL.getD 18 ([], Vb.zeroR)).1) (Vb.kinL.getD 18 ([], Vb.zeroR)).2) w := by kernel_rfl
theorem tab_row19 (w : World) : (Instr.index 45 (.agg tabV) (.int .i64 19)).run Tryd.prog w = .ok (rowV (Vb.ofL (Vb.kinL.getD 19 ([], Vb.zeroR)).1) (Vb.kinL.getD 19 ([], Vb.zeroR)).2) w := by kernel_rfl
theorem tab_row20 (w : World) : (Instr.index 45 (.agg tabV) (.int .i64 20)).run Tryd.prog w = .ok (rowV (Vb.ofL (Vb.kinL.getD 20 ([], Vb.zeroR)).1) (Vb.kinL.getD 20 ([], Vb.zeroR)).2) w := by kernel_rfl
theorem tab_row21 (w : World) : (Instr.index 45 (.agg tabV) (.int .i64 21)).run Tryd.prog w = .ok (rowV (Vb.ofL (Vb.kinL.getD 21 ([], Vb.zeroR)).1) (Vb.kinL.getD 21 ([], Vb.zeroR)).2) w := by kernel_rfl
theorem tab_row22 (w : World) : (Instr.index 45 (.agg tabV) (.int .i64 22)).run Tryd.prog w = .ok (rowV (Vb.ofL (Vb.kinL.getD 22 ([], Vb.zeroR)).1) (Vb.kinL.getD 22 ([], Vb.zeroR)).2) w := by kernel_rfl
theorem tab_row23 (w : World) : (Instr.index 45 (.agg tabV) (.int .i64 23)).run Tryd.prog w = .ok (rowV (Vb.ofL (Vb.kinL.getD 23 ([], Vb.zeroR)).1) (Vb.kinL.getD 23 ([], Vb.zeroR)).2) w := by kernel_rfl
theorem tab_row24 (w : World) : (Instr.index 45 (.agg tabV) (.int .i64 24)).run Tryd.prog w = .ok (rowV (Vb.ofL (Vb.kinL.getD 24 ([], Vb.zeroR)).1) (Vb.kinL.getD 24 ([], Vb.zeroR)).2) w := by kernel_rfl
theorem tab_row25 (w : World) : (Instr.index 45 (.agg tabV) (.int .i64 25)).run Tryd.prog w = .ok (rowV (Vb.ofL (Vb.kinL.getD 25 ([], Vb.zeroR)).1) (Vb.kinL.getD 25 ([], Vb.zeroR)).2) w := by kernel_rfl
theorem tab_row26 (w : World) : (Instr.index 45 (.agg tabV) (.int .i64 26)).run Tryd.prog w = .ok (rowV (Vb.ofL (Vb.kinL.getD 26 ([], Vb.zeroR)).1) (Vb.kinL.getD 26 ([], Vb.zeroR)).2) w := by kernel_rfl
theorem tab_row27 (w : World) : (Instr.index 45 (.agg tabV) (.int .i64 27)).run Tryd.prog w = .ok (rowV (Vb.ofL (Vb.kinL.getD 27 ([], Vb.zeroR)).1) (Vb.kinL.getD 27 ([], Vb.zeroR)).2) w := by kernel_rfl
theorem tab_row28 (w : World) : (Instr.index 45 (.agg tabV) (.int .i64 28)).run Tryd.prog w = .ok (rowV (Vb.ofL (Vb.kinL.getD 28 ([], Vb.zeroR)).1) (Vb.kinL.getD 28 ([], Vb.zeroR)).2) w := by kernel_rfl
theorem tab_row29 (w : World) : (Instr.index 45 (.agg tabV) (.int .i64 29)).run Tryd.prog w = .ok (rowV (Vb.ofL (Vb.kinL.getD 29 ([], Vb.zeroR)).1) (Vb.kinL.getD 29 ([], Vb.zeroR)).2) w := by kernel_rfl
theorem tab_row30 (w : World) : (Instr.index 45 (.agg tabV) (.int .i64 30)).run Tryd.prog w = .ok (rowV (Vb.ofL (Vb.kinL.getD 30 ([], Vb.zeroR)).1) (Vb.kinL.getD 30 ([], Vb.zeroR)).2) w := by kernel_rfl
theorem tab_row31 (w : World) : (Instr.index 45 (.agg tabV) (.int .i64 31)).run Tryd.prog w = .ok (rowV (Vb.ofL (Vb.kinL.getD 31 ([], Vb.zeroR)).1) (Vb.kinL.getD 31 ([], Vb.zeroR)).2) w := by kernel_rfl
theorem tab_row32 (w : World) : (Instr.index 45 (.agg tabV) (.int .i64 32)).run Tryd.prog w = .ok (rowV (Vb.ofL (Vb.kinL.getD 32 ([], Vb.zeroR)).1) (Vb.kinL.getD 32 ([], Vb.zeroR)).2) w := by kernel_rfl
theorem tab_row33 (w : World) : (Instr.index 45 (.agg tabV) (.int .i64 33)).run Tryd.prog w = .ok (rowV (Vb.ofL (Vb.kinL.getD 33 ([], Vb.zeroR)).1) (Vb.kinL.getD 33 ([], Vb.zeroR)).2) w := by kernel_rfl
theorem tab_row34 (w : World) : (Instr.index 45 (.agg tabV) (.int .i64 34)).run Tryd.prog w = .ok (rowV (Vb.ofL (Vb.kinL.getD 34 ([], Vb.zeroR)).1) (Vb.kinL.getD 34 ([], Vb.zeroR)).2) w := by kernel_rfl
theorem tab_row (w : World) : ∀ (i : Nat), i < 35 → (Instr.index 45 (.agg tabV) (.int .i64 (i : Nat))).run Tryd.prog w = .ok (rowV (Vb.ofL (Vb.kinL.getD i ([], Vb.zeroR)).1) (Vb.kinL.getD i ([], Vb.zeroR)).2) w
  | 0, _ => tab_row0 w
  | 1, _ => tab_row1 w
  | 2, _ => tab_row2 w
  | 3, _ => tab_row3 w
  | 4, _ => tab_row4 w
  | 5, _ => tab_row5 w
  | 6, _ => tab_row6 w
  | 7, _ => tab_row7 w
  | 8, _ => tab_row8 w
  | 9, _ => tab_row9 w
  | 10, _ => tab_row10 w
  | 11, _ => tab_row11 w
  | 12, _ => tab_row12 w
  | 13, _ => tab_row13 w
  | 14, _ => tab_row14 w
  | 15, _ => tab_row15 w
  | 16, _ => tab_row16 w
  | 17, _ => tab_row17 w
  | 18, _ => tab_row18 w
  | 19, _ => tab_row19 w
  | 20, _ => tab_row20 w
  | 21, _ => tab_row21 w
  | 22, _ => tab_row22 w
  | 23, _ => tab_row23 w
  | 24, _ => tab_row24 w
  | 25, _ => tab_row25 w
  | 26, _ => tab_row26 w
  | 27, _ => tab_row27 w
  | 28, _ => tab_row28 w
  | 29, _ => tab_row29 w
  | 30, _ => tab_row30 w
  | 31, _ => tab_row31 w
  | 32, _ => tab_row32 w
  | 33, _ => tab_row33 w
  | 34, _ => tab_row34 w
  | (n + 35), h => absurd h (by omega)
theorem setCells_below {B b : Nat} {a : World} (hb : B ≤ b) : ∀ (vs : List Value) (o : Nat) (w : World), Below B a w → Below B a (w.setCells b o vs)
  | [], _, _, h => h
  | v :: r, o, w, h => setCells_below hb r (o + 1) _ (h.setCell (by exact hb) v)
theorem results_cell {fn : Func} {p : Tmp} {ty : TypeId} (h : fn.results = #[.cell p ty]) (tmps : Array Value) (P : Program) (w : World) :
    (results fn tmps).run P w = ((asAddr (tmps.getD p undef)).run P w).andThen fun a w₁ => (loadVar ty a).run P w₁ := by
  simp only [results, h]
  simp [Sem.run_bind, Result.andThen]
theorem results_cells {fn : Func} {p q : Tmp} {ty tz : TypeId} (h : fn.results = #[.cell p ty, .cell q tz]) (tmps : Array Value) (P : Program) (w : World) :
    (results fn tmps).run P w = ((asAddr (tmps.getD p undef)).run P w).andThen fun a w₁ => ((loadVar ty a).run P w₁).andThen fun v w₂ => ((asAddr (tmps.getD q undef)).run P w₂).andThen fun b w₃ => ((loadVar tz b).run P w₃).andThen fun u w₄ => .ok (.tuple #[v, u]) w₄ := by
  simp only [results, h]
  simp [Sem.run_bind, Result.andThen]
theorem wpList_pure {P : Program} {w : World} {ops : Array Oper} {rest : List Oper} {o : Oper} {a : Act} {Q : Exit → Act → World → Prop} (v : Value) (hg : o.guard = none) (hrun : (execOp a.eval o).run P w = .ok (.value v) w) (h : wpList P ops Q rest (a.put o.dst v) w) : wpList P ops Q (o :: rest) a w :=
  wpList_plain hg fun K hK => by
    unfold Oper.wp
    rw [hrun, Oper.upon_value]
    exact hK _ _ h
set_option maxRecDepth 100000 in
set_option maxHeartbeats 4000000 in
theorem table_any (w : World) : Calls Tryd.prog 23 #[] w fun e w' => e = .returned (.agg tabV) ∧ Below w.heap.size w w' := by
  obtain ⟨Z, hZ⟩ : ∃ Z, Z = (List.replicate 35 (rowL ByteArray.empty Vb.zeroR)).flatten.toArray := ⟨_, rfl⟩
  have zt := info_tab.1
  rw [← hZ] at zt
  have hzs : Z.size = 210 := by rw [hZ]; decide +kernel
  have HT : Kept ((w.alloc (.cells Z 45)).there w.heap.size 0 tabV.size) := fun j hj => by
    rw [tab_size] at hj
    have hc := cell_of_row (w.alloc (.cells Z 45)) w.heap.size (0 + j) Z 45 (0, 0) (heap_alloc_new _ _)
    refine ⟨by rw [hc, Array.getElem?_eq_getElem (by omega)]; rfl, ?_⟩
    rw [World.frozen?_alloc_mark]
    simp
  clear hzs
  clear hZ
  go_enter Tryd.func23, Tryd.ntmps23
  go_upto_region 1 with fail
  refine wp_region_lit ?_
  refine wpList_pure (rowV (Vb.ofL (Vb.kinL.getD 0 ([], Vb.zeroR)).1) (Vb.kinL.getD 0 ([], Vb.zeroR)).2) rfl (by kernel_rfl) ?_
  refine wpList_pure (rowV (Vb.ofL (Vb.kinL.getD 1 ([], Vb.zeroR)).1) (Vb.kinL.getD 1 ([], Vb.zeroR)).2) rfl (by kernel_rfl) ?_
  refine wpList_pure (rowV (Vb.ofL (Vb.kinL.getD 2 ([], Vb.zeroR)).1) (Vb.kinL.getD 2 ([], Vb.zeroR)).2) rfl (by kernel_rfl) ?_
  refine wpList_pure (rowV (Vb.ofL (Vb.kinL.getD 3 ([], Vb.zeroR)).1) (Vb.kinL.getD 3 ([], Vb.zeroR)).2) rfl (by kernel_rfl) ?_
  refine wpList_pure (rowV (Vb.ofL (Vb.kinL.getD 4 ([], Vb.zeroR)).1) (Vb.kinL.getD 4 ([], Vb.zeroR)).2) rfl (by kernel_rfl) ?_
  refine wpList_pure (rowV (Vb.ofL (Vb.kinL.getD 5 ([], Vb.zeroR)).1) (Vb.kinL.getD 5 ([], Vb.zeroR)).2) rfl (by kernel_rfl) ?_
  refine wpList_pure (rowV (Vb.ofL (Vb.kinL.getD 6 ([], Vb.zeroR)).1) (Vb.kinL.getD 6 ([], Vb.zeroR)).2) rfl (by kernel_rfl) ?_
  refine wpList_pure (rowV (Vb.ofL (Vb.kinL.getD 7 ([], Vb.zeroR)).1) (Vb.kinL.getD 7 ([], Vb.zeroR)).2) rfl (by kernel_rfl) ?_
  refine wpList_pure (rowV (Vb.ofL (Vb.kinL.getD 8 ([], Vb.zeroR)).1) (Vb.kinL.getD 8 ([], Vb.zeroR)).2) rfl (by kernel_rfl) ?_
  refine wpList_pure (rowV (Vb.ofL (Vb.kinL.getD 9 ([], Vb.zeroR)).1) (Vb.kinL.getD 9 ([], Vb.zeroR)).2) rfl (by kernel_rfl) ?_
  refine wpList_pure (rowV (Vb.ofL (Vb.kinL.getD 10 ([], Vb.zeroR)).1) (Vb.kinL.getD 10 ([], Vb.zeroR)).2) rfl (by kernel_rfl) ?_
  refine wpList_pure (rowV (Vb.ofL (Vb.kinL.getD 11 ([], Vb.zeroR)).1) (Vb.kinL.getD 11 ([], Vb.zeroR)).2) rfl (by kernel_rfl) ?_
  refine wpList_pure (rowV (Vb.ofL (Vb.kinL.getD 12 ([], Vb.zeroR)).1) (Vb.kinL.getD 12 ([], Vb.zeroR)).2) rfl (by kernel_rfl) ?_
  refine wpList_pure (rowV (Vb.ofL (Vb.kinL.getD 13 ([], Vb.zeroR)).1) (Vb.kinL.getD 13 ([], Vb.zeroR)).2) rfl (by kernel_rfl) ?_
  refine wpList_pure (rowV (Vb.ofL (Vb.kinL.getD 14 ([], Vb.zeroR)).1) (Vb.kinL.getD 14 ([], Vb.zeroR)).2) rfl (by kernel_rfl) ?_
  refine wpList_pure (rowV (Vb.ofL (Vb.kinL.getD 15 ([], Vb.zeroR)).1) (Vb.kinL.getD 15 ([], Vb.zeroR)).2) rfl (by kernel_rfl) ?_
  refine wpList_pure (rowV (Vb.ofL (Vb.kinL.getD 16 ([], Vb.zeroR)).1) (Vb.kinL.getD 16 ([], Vb.zeroR)).2) rfl (by kernel_rfl) ?_
  refine wpList_pure (rowV (Vb.ofL (Vb.kinL.getD 17 ([], Vb.zeroR)).1) (Vb.kinL.getD 17 ([], Vb.zeroR)).2) rfl (by kernel_rfl) ?_
  refine wpList_pure (rowV (Vb.ofL (Vb.kinL.getD 18 ([], Vb.zeroR)).1) (Vb.kinL.getD 18 ([], Vb.zeroR)).2) rfl (by kernel_rfl) ?_
  refine wpList_pure (rowV (Vb.ofL (Vb.kinL.getD 19 ([], Vb.zeroR)).1) (Vb.kinL.getD 19 ([], Vb.zeroR)).2) rfl (by kernel_rfl) ?_
  refine wpList_pure (rowV (Vb.ofL (Vb.kinL.getD 20 ([], Vb.zeroR)).1) (Vb.kinL.getD 20 ([], Vb.zeroR)).2) rfl (by kernel_rfl) ?_
  refine wpList_pure (rowV (Vb.ofL (Vb.kinL.getD 21 ([], Vb.zeroR)).1) (Vb.kinL.getD 21 ([], Vb.zeroR)).2) rfl (by kernel_rfl) ?_
  refine wpList_pure (rowV (Vb.ofL (Vb.kinL.getD 22 ([], Vb.zeroR)).1) (Vb.kinL.getD 22 ([], Vb.zeroR)).2) rfl (by kernel_rfl) ?_
  refine wpList_pure (rowV (Vb.ofL (Vb.kinL.getD 23 ([], Vb.zeroR)).1) (Vb.kinL.getD 23 ([], Vb.zeroR)).2) rfl (by kernel_rfl) ?_
  refine wpList_pure (rowV (Vb.ofL (Vb.kinL.getD 24 ([], Vb.zeroR)).1) (Vb.kinL.getD 24 ([], Vb.zeroR)).2) rfl (by kernel_rfl) ?_
  refine wpList_pure (rowV (Vb.ofL (Vb.kinL.getD 25 ([], Vb.zeroR)).1) (Vb.kinL.getD 25 ([], Vb.zeroR)).2) rfl (by kernel_rfl) ?_
  refine wpList_pure (rowV (Vb.ofL (Vb.kinL.getD 26 ([], Vb.zeroR)).1) (Vb.kinL.getD 26 ([], Vb.zeroR)).2) rfl (by kernel_rfl) ?_
  refine wpList_pure (rowV (Vb.ofL (Vb.kinL.getD 27 ([], Vb.zeroR)).1) (Vb.kinL.getD 27 ([], Vb.zeroR)).2) rfl (by kernel_rfl) ?_
  refine wpList_pure (rowV (Vb.ofL (Vb.kinL.getD 28 ([], Vb.zeroR)).1) (Vb.kinL.getD 28 ([], Vb.zeroR)).2) rfl (by kernel_rfl) ?_
  refine wpList_pure (rowV (Vb.ofL (Vb.kinL.getD 29 ([], Vb.zeroR)).1) (Vb.kinL.getD 29 ([], Vb.zeroR)).2) rfl (by kernel_rfl) ?_
  refine wpList_pure (rowV (Vb.ofL (Vb.kinL.getD 30 ([], Vb.zeroR)).1) (Vb.kinL.getD 30 ([], Vb.zeroR)).2) rfl (by kernel_rfl) ?_
  refine wpList_pure (rowV (Vb.ofL (Vb.kinL.getD 31 ([], Vb.zeroR)).1) (Vb.kinL.getD 31 ([], Vb.zeroR)).2) rfl (by kernel_rfl) ?_
  refine wpList_pure (rowV (Vb.ofL (Vb.kinL.getD 32 ([], Vb.zeroR)).1) (Vb.kinL.getD 32 ([], Vb.zeroR)).2) rfl (by kernel_rfl) ?_
  refine wpList_pure (rowV (Vb.ofL (Vb.kinL.getD 33 ([], Vb.zeroR)).1) (Vb.kinL.getD 33 ([], Vb.zeroR)).2) rfl (by kernel_rfl) ?_
  refine wpList_pure (rowV (Vb.ofL (Vb.kinL.getD 34 ([], Vb.zeroR)).1) (Vb.kinL.getD 34 ([], Vb.zeroR)).2) rfl (by kernel_rfl) ?_
  refine wpList_pure (.agg tabV) rfl (by kernel_rfl) ?_
  refine wpList_store_mid rfl 45 (.tmp 0) (.tmp 36) rfl w.heap.size 0 tabV (by kernel_rfl) (by kernel_rfl) HT.out (by rw [tab_size]; exact info_tab.2) tab_one ?_
  simp only [Act.put, List.setIfInBounds_toArray, List.set_cons_zero, List.set_cons_succ]
  go_wp2_with fail
  refine bodyPost_ret (v := .agg tabV) ?_ rfl ⟨rfl, setCells_below (Nat.le_refl _) _ _ _ ((Below.refl _ w).alloc (Nat.le_refl _) _)⟩
  rw [results_cell rfl]
  have hld := run_loadVar_mid (P := Tryd.prog) _ _ _ 45 _ _ (World.rangeAt_setCells_same (w.alloc (.cells Z 45)) w.heap.size 0 tabV.toList (fun j hj => HT.out j (by simpa using hj))) Tryd.underlying45 rfl (by rw [Array.length_toList, tab_size]; exact info_tab.2)
  simp [asAddr, Result.andThen, hld]
end Go.Proofs.YtaflggjgndkdlaaDoor
