/-
  Contracts over this program: verbs.Find at every name.
-/
import Derived.Test.YtaflggjgndkdlaaDoorVbFind0
import Derived.Shelf.RegionOpen
namespace Go.Proofs.YtaflggjgndkdlaaDoor
open Go.RowKit
set_option linter.unusedVariables false
attribute [local go_sem] Oper.semAt_some
def zeroC : Array Value := (rowL ByteArray.empty Vb.zeroR).toArray
/-- what Find answers: the row under that name, if there is one -/
def findV (u : ByteArray) : Value × Bool := match Vb.find u.toList with
  | some r => (rowV u r, true)
  | none => (rowV ByteArray.empty Vb.zeroR, false)
def FndE (u : ByteArray) (e : Ending) : Prop := e = .returned (.tuple #[(findV u).1, .bool (findV u).2])
/-- Find's blocks: name, row, answer, and marks -/
def FB (n0 : Nat) (U : ByteArray) (vc : Array Value) (bc : Bool) (Ds : List Nat) : List (Nat × Obj) :=
  [(n0, .cells #[.string U] 9), (n0 + 1, .cells vc 23), (n0 + 2, .cells #[.bool bc] 4)] ++ Ds.map fun D => (D, .deferred (some []))
/-- between two rows -/
def FS (w : World) (U : ByteArray) (i : Nat) (Ds : List Nat) (W : World) : Prop :=
  Stay (FB w.heap.size U zeroC false Ds) (fun _ => False) W ∧ Below w.heap.size w W ∧ Ds.Nodup ∧ (∀ D ∈ Ds, w.heap.size + 3 ≤ D) ∧ ∀ k ∈ Vb.kinL.take i, U.toList ∉ Vb.pieces k.1
theorem FB.n {n0 : Nat} {U : ByteArray} {vc : Array Value} {bc : Bool} {Ds : List Nat} {M : Nat → Prop} {W : World} (h : Stay (FB n0 U vc bc Ds) M W) :
    W.heap[n0]? = some (.cells #[.string U] 9) ∧ W.heap[n0 + 1]? = some (.cells vc 23) ∧ W.heap[n0 + 2]? = some (.cells #[.bool bc] 4) ∧ ∀ D ∈ Ds, ¬ M D ∧ W.heap[D]? = some (.deferred (some [])) :=
  ⟨(h _ (.head _)).2, (h _ (.tail _ (.head _))).2, (h _ (.tail _ (.tail _ (.head _)))).2, fun D hD => h (D, .deferred (some [])) (by unfold FB; simp [hD])⟩
/-- what stays beside the range's own blocks -/
def Okk (w : World) (Bs : List (Nat × Obj)) (M : Nat → Prop) (W : World) : Prop := Stay Bs M W ∧ Below w.heap.size w W ∧ (∀ k, M k → w.heap.size + 3 ≤ k) ∧ w.heap.size + 3 ≤ W.heap.size
theorem Okk.abd {w : World} {Bs : List (Nat × Obj)} {M M' : Nat → Prop} {A B : World} (h : Okk w Bs M A) (hs : Sep M A B) (hx : Ext M M' A B) : Okk w Bs M' B :=
  ⟨h.1.abd hs hx, h.2.1.trans (hs.below h.2.1.size (fun k hk => by have := h.2.2.1 k hk; omega)), hx.ge h.2.2.2 h.2.2.1, by have := hs.2.1; have := h.2.2.2; omega⟩
theorem Okk.put {w : World} {Bs : List (Nat × Obj)} {M : Nat → Prop} {A : World} (h : Okk w Bs M A) {l : Nat} (hl : M l) (o : Obj) : Okk w Bs M (A.putObj l o) := h.abd (Sep.put _ _ hl) (Ext.refl _ _ _)
theorem find_out (n0 : Nat) (vc : Array Value) (bc : Bool) (tmps : Array Value) (W : World) (h2 : tmps.getD 2 undef = .pointer (some ⟨n0 + 1, 0, none⟩)) (h3 : tmps.getD 3 undef = .pointer (some ⟨n0 + 1 + 1, 0, none⟩))
    (f2 : W.heap[n0 + 1]? = some (.cells vc 23 (0, 0))) (f3 : W.heap[n0 + 2]? = some (.cells #[.bool bc] 4 (0, 0))) (hs : vc.size = 6) :
    (results Tryd.f9 tmps).run Tryd.prog W = .ok (.tuple #[.agg vc, .bool bc]) W := by
  have hld := run_loadVar_row (P := Tryd.prog) W (n0 + 1) 23 23 vc (0, 0) _ f2 Tryd.underlying23 rfl (by rw [hs]; kernel_rfl)
  have hc : W.cell? ⟨n0 + 1 + 1, 0, none⟩ = some (.bool bc) := by rw [cell_of_row _ _ _ _ _ _ f3]; rfl
  have hlb : (loadVar 4 ⟨n0 + 1 + 1, 0, none⟩).run Tryd.prog W = .ok (.bool bc) W := by
    go_simp
  rw [results_cells rfl, h2, h3]
  simp [asAddr, Result.andThen, hld, hlb]
theorem six_set (W : World) (g : Nat) (v0 v1 v2 v3 v4 v5 : Value) (h : W.heap[g]? = some (.cells zeroC 23 (0, 0))) :
    ((((((W.setCell ⟨g, 0, none⟩ v0).setCell ⟨g, 1, none⟩ v1).setCell ⟨g, 2, none⟩ v2).setCell ⟨g, 3, none⟩ v3).setCell ⟨g, 4, none⟩ v4).setCell ⟨g, 5, none⟩ v5).heap[g]? = some (.cells #[v0, v1, v2, v3, v4, v5] 23 (0, 0)) := by
  rw [heap_setCell_same _ _ _ _ _ _ (heap_setCell_same _ _ _ _ _ _ (heap_setCell_same _ _ _ _ _ _ (heap_setCell_same _ _ _ _ _ _ (heap_setCell_same _ _ _ _ _ _ (heap_setCell_same _ _ _ _ _ _ h)))))]
  rfl
theorem six_other (W : World) (g k : Nat) (v0 v1 v2 v3 v4 v5 : Value) (h : k ≠ g) :
    ((((((W.setCell ⟨g, 0, none⟩ v0).setCell ⟨g, 1, none⟩ v1).setCell ⟨g, 2, none⟩ v2).setCell ⟨g, 3, none⟩ v3).setCell ⟨g, 4, none⟩ v4).setCell ⟨g, 5, none⟩ v5).heap[k]? = W.heap[k]? := by
  rw [heap_setCell_other _ _ _ _ h, heap_setCell_other _ _ _ _ h, heap_setCell_other _ _ _ _ h, heap_setCell_other _ _ _ _ h, heap_setCell_other _ _ _ _ h, heap_setCell_other _ _ _ _ h]
theorem six_below {B : Nat} {w W : World} (hb : Below B w W) (g : Nat) (hg : B ≤ g) (v0 v1 v2 v3 v4 v5 : Value) :
    Below B w ((((((W.setCell ⟨g, 0, none⟩ v0).setCell ⟨g, 1, none⟩ v1).setCell ⟨g, 2, none⟩ v2).setCell ⟨g, 3, none⟩ v3).setCell ⟨g, 4, none⟩ v4).setCell ⟨g, 5, none⟩ v5) :=
  (((((hb.setCell (by exact hg) _).setCell (by exact hg) _).setCell (by exact hg) _).setCell (by exact hg) _).setCell (by exact hg) _).setCell (by exact hg) _
theorem kin_small : ∀ k ∈ Vb.kinL, k.1.length < 4294967281 := by decide +kernel
set_option maxRecDepth 100000 in
set_option maxHeartbeats 4000000 in
theorem find_any (s : ByteArray) (w : World) (hs : s.size ≤ 9223372036854775807) : Calls Tryd.prog 9 #[.string s] w fun e w' => FndE (Vb.up s) e ∧ Below w.heap.size w w' := by
  obtain ⟨U, hU⟩ : ∃ U, U = Vb.up s := ⟨_, rfl⟩
  rw [← hU]
  have mU := keep (fun w => upper_any s w hs)
  rw [← hU] at mU
  have mT := keep table_any
  have mS := keep seq_any
  have mR := keep row_any
  obtain ⟨T, hT⟩ : ∃ T, T = tabV := ⟨_, rfl⟩
  have ix := tab_row
  rw [← hT] at mT ix
  have IX := keep ix
  clear hT ix hU hs
  obtain ⟨PP, hPP⟩ : ∃ PP : Ending → World → Prop, PP = fun e w' => FndE U e ∧ Below w.heap.size w w' := ⟨_, rfl⟩
  have HP := keep hPP
  rw [← hPP]
  clear hPP
  refine callsIn_wide (n := 9) |>.1 (callsIn_of_wp_marks Tryd.func9 rfl trivial (wpIn_wide.2 ?_) rfl)
  simp only [Tryd.ntmps9, List.size_toArray, List.length_cons, List.length_nil, Nat.reduceAdd, Nat.reduceSub, Array.replicate_succ, Array.replicate_zero, List.push_toArray, List.append_toArray, List.nil_append, List.cons_append]
  go_wp2_with fail
  refine (mU.out _).mono ?_
  rintro _ w1 ⟨rfl, hb1⟩
  have hs1 : Stay [(w.heap.size, .cells #[.string s] 9), (w.heap.size + 1, .cells zeroC 23), (w.heap.size + 2, .cells #[.bool false] 4)] (fun _ => False) w1 := by
    refine Stay.below (fun x hx => ⟨id, ?_⟩) hb1
    simp only [List.mem_cons, List.not_mem_nil, or_false] at hx
    rcases hx with rfl | rfl | rfl
    · rw [heap_alloc_old _ _ (by simp; omega), heap_alloc_old _ _ (by simp)]; exact heap_alloc_new _ _
    · rw [heap_alloc_old _ _ (by simp)]; have := heap_alloc_new (w.alloc (.cells #[.string s] 9)) (.cells zeroC 23); rw [World.size_alloc] at this; exact this
    · have := heap_alloc_new ((w.alloc (.cells #[.string s] 9)).alloc (.cells zeroC 23)) (.cells #[.bool false] 4); rw [World.size_alloc, World.size_alloc] at this; exact this
  have hB1 : Below w.heap.size w w1 := (((((Below.refl _ w).alloc (Nat.le_refl _) _).alloc (by simp) _).alloc (by simp; omega) _)).trans (hb1.mono (by simp; omega))
  obtain ⟨h1, h2, h3⟩ := List.forall_mem_cons.1 hs1 |>.imp_right fun h => (List.forall_mem_cons.1 h).imp_right fun h => (List.forall_mem_cons.1 h).1
  have n1 : w1.cell? ⟨w.heap.size, 0, none⟩ = some (.string s) := by rw [cell_of_row _ _ _ _ _ _ h1.2]; rfl
  have n2 : w1.frozen? ⟨w.heap.size, 0, none⟩ = false := frozen_of_row _ _ _ _ _ h1.2
  have S1 : Kept (Stay [(w.heap.size, .cells #[.string U] 9), (w.heap.size + 1, .cells zeroC 23), (w.heap.size + 2, .cells #[.bool false] 4)] (fun _ => False) (w1.setCell ⟨w.heap.size, 0, none⟩ (.string U))) := by
    intro x hx
    refine ⟨id, ?_⟩
    simp only [List.mem_cons, List.not_mem_nil, or_false] at hx
    rcases hx with rfl | rfl | rfl
    · rw [heap_setCell_same _ _ _ _ _ _ h1.2]; rfl
    · rw [heap_setCell_other _ _ _ _ (by simp)]; exact h2.2
    · rw [heap_setCell_other _ _ _ _ (by simp)]; exact h3.2
  have B1 : Kept (Below w.heap.size w (w1.setCell ⟨w.heap.size, 0, none⟩ (.string U))) := hB1.setCell (by exact Nat.le_refl _) _
  clear hb1 hs1 hB1 h1 h2 h3
  go_wp2_with fail
  clear n1 n2
  refine (mT.out _).mono ?_
  rintro _ w2 ⟨rfl, hb2⟩
  have HS : Kept (FS w U 0 [] w2) := ⟨by unfold FB; rw [List.map_nil, List.append_nil]; exact S1.out.below hb2, B1.out.trans (hb2.mono B1.out.size), List.nodup_nil, by simp, by simp⟩
  clear hb2 S1 B1
  go_wp2_with fail
  refine wp_loop (fun a w' => ∃ (i : Nat) (Ds : List Nat) (v5 v6 v11 v12 v13 v14 v15 v16 v17 v18 v19 v20 v21 v22 v23 : Value), i ≤ 35 ∧ a = { tmps := #[.string s, .pointer (some ⟨w.heap.size, 0, none⟩), .pointer (some ⟨w.heap.size + 1, 0, none⟩), .pointer (some ⟨w.heap.size + 1 + 1, 0, none⟩), undef, v5, v6, .string s, .string U, .agg T, .int .i64 i, v11, v12, v13, v14, v15, v16, v17, v18, v19, v20, v21, v22, v23, undef], defers := Ds.map fun D => { target := .collected D, args := #[] } } ∧ Kept (FS w U i Ds w')) (fun a _ => 35 - (intOf (a.tmps.getD 10 undef)).toNat) ⟨0, [], _, _, _, _, _, _, _, _, _, _, _, _, _, _, _, Nat.zero_le _, rfl, HS⟩ ?_
  rintro a wr ⟨i, Ds, v5, v6, v11, v12, v13, v14, v15, v16, v17, v18, v19, v20, v21, v22, v23, hi, rfl, KS⟩
  clear HS
  by_cases hlt : i < 35
  · have hltz : (i : Int) < 35 := by omega
    obtain ⟨K, hK⟩ : ∃ K, Vb.kinL.getD i ([], Vb.zeroR) = K := ⟨_, rfl⟩
    have hmem : Vb.kinL[i]? = some K := by rw [← hK, List.getD_eq_getElem?_getD, List.getElem?_eq_getElem (by rw [Vb.kin_len]; exact hlt)]; rfl
    have hsz := kin_small K (List.mem_of_getElem? hmem)
    obtain ⟨ks, ra, rf, rx, ry, rz⟩ := K
    have ixf : ∀ wx, (Instr.index 45 (.agg T) (.int .i64 (i : Nat))).run Tryd.prog wx = .ok (rowV (Vb.ofL ks) (ra, rf, rx, ry, rz)) wx := fun wx => by
      have := IX.out wx i hlt
      rwa [hK] at this
    have hrow : rowV (Vb.ofL ks) (ra, rf, rx, ry, rz) = .agg #[.string (Vb.ofL ks), .int .i64 ra, .int .i64 rf, .int .i64 rx, .int .i64 ry, .int .i64 rz] := rfl
    rw [hrow] at ixf
    obtain ⟨KK, hKK⟩ : ∃ KK, KK = Vb.ofL ks := ⟨_, rfl⟩
    rw [← hKK] at ixf
    have HMEM := keep hmem
    have HSZ := keep hsz
    have HKK := keep hKK
    clear hK hrow hmem hsz hKK
    go_wp2_with fail
    refine (mS.out _ _).mono ?_
    rintro _ w4 ⟨rfl, hb4, hq4, hz4⟩
    obtain ⟨KO, hKO⟩ : ∃ KO : Obj, KO = .cells #[.string KK, .int .i64 ra, .int .i64 rf, .int .i64 rx, .int .i64 ry, .int .i64 rz] 44 := ⟨_, rfl⟩
    rw [World.size_alloc] at hb4 hq4 hz4 ⊢
    rw [← hKO] at hb4
    obtain ⟨st, bl, nd, dge, npc⟩ := KS.out
    have hn3 : w.heap.size + 3 ≤ wr.heap.size := by have := (Array.getElem?_eq_some_iff.1 (FB.n st).2.2.1).1; omega
    have hbw : Below wr.heap.size wr w4 := ((Below.refl _ wr).alloc (Nat.le_refl _) KO).trans (hb4.mono (by omega))
    have hok : Okk w ((wr.heap.size, KO) :: FB w.heap.size U zeroC false Ds) (Sq0 (wr.heap.size + 1)) w4 := by
      refine ⟨fun x hx => ?_, bl.trans (hbw.mono (by omega)), fun k hk => by rcases hk with rfl | rfl | rfl <;> omega, by omega⟩
      rcases List.mem_cons.1 hx with rfl | hx
      · exact ⟨fun h => by rcases h with h | h | h <;> omega, (hb4.block _ (by omega)).trans (heap_alloc_new wr KO)⟩
      · obtain ⟨_, q⟩ := st x hx
        have ql := (Array.getElem?_eq_some_iff.1 q).1
        exact ⟨fun h => by rcases h with h | h | h <;> omega, (hbw.block _ ql).trans q⟩
    have HOK := keep hok
    have HQ4 := keep hq4
    have HZ4 := keep hz4
    have HN3 := keep hn3
    have ND := keep nd
    have DGE := keep dge
    have NPC := keep npc
    have HKO := keep hKO
    clear hok hq4 hb4 hbw hn3 nd dge npc st bl hKO hz4
    go_wp2_with fail
    refine (wpIn_wide (n := 9)).1 (range_own (α := List UInt8) (gf := 36) (lb := #[ptr (wr.heap.size + 1 + 1), ptr (wr.heap.size + 1), ptr (wr.heap.size + 1 + 2)]) rfl (enters_of Tryd.func36 (by kernel_rfl) rfl) (encs := pcV) (L := Vb.pieces KK.data.toList) (fun _ => rfl) (M0 := Sq0 (wr.heap.size + 1))
      (fun k hk => by have := HQ4.out.lt; rcases hk with rfl | rfl | rfl <;> omega)
      (fun W1 hb => seq_iter (wr.heap.size + 1) KK W1 (HQ4.out.below hb) (by rw [HKK.out, Vb.ofL_size]; exact HSZ.out))
      (fun M m W1 => Okk w ((wr.heap.size, KO) :: FB w.heap.size U zeroC false Ds) M W1 ∧ U.toList ∉ (Vb.pieces KK.data.toList).take m)
      (fun c M m W1 => c = .ret ∧ Okk w (FB w.heap.size U (rowL U (ra, rf, rx, ry, rz)).toArray true Ds) M W1 ∧ U.toList ∈ Vb.pieces KK.data.toList)
      (fun M M' m A B h hs hx => ⟨h.1.abd hs hx, h.2⟩) ?ax ⟨HOK.out, by simp⟩ (fun _ _ _ _ => trivial) ?round ?done ?stop)
    case ax => exact fun c M M' m A B h hs hx => ⟨h.1, h.2.1.abd hs hx, h.2.2⟩
    case round =>
      intro M l' m x W1 hI hx hl hrec hM
      obtain ⟨hO, hnp⟩ := hI
      have hll : l' < W1.heap.size := (hM l' hl).2
      have hxU : (((Vb.ofL x).toList == U.toList) = true ∧ x = U.toList) ∨ (((Vb.ofL x).toList == U.toList) = false ∧ x ≠ U.toList) := by
        rw [Vb.ofL_list]
        cases hb : (x == U.toList)
        · exact .inr ⟨rfl, by simpa using hb⟩
        · exact .inl ⟨rfl, by simpa using hb⟩
      have hput : ∀ rl, Okk w ((wr.heap.size, KO) :: FB w.heap.size U zeroC false Ds) M (W1.putObj l' (.loop rl)) := fun rl => hO.put hl _
      obtain ⟨X, hX⟩ : ∃ X, X = Vb.ofL x := ⟨_, rfl⟩
      rw [← hX] at hxU
      have HPUT := keep hput
      have HX := keep hX
      have HXM := keep hx
      have HNP := keep hnp
      have HL := keep hl
      have HM := keep hM
      clear hO hput hnp hx hM hrec
      unfold pcV
      rw [← hX]
      clear hX
      gi_wp2_with fail
      refine ⟨Mk.refl _ _, fun rl => ?_⟩
      have hO2 := HPUT.out rl
      obtain ⟨W2, hW2⟩ : ∃ W2, W1.putObj l' (.loop rl) = W2 := ⟨_, rfl⟩
      have hz2 : W2.heap.size = W1.heap.size := by rw [← hW2]; simp
      have HZ2 := keep hz2
      clear hz2
      rw [hW2] at hO2 ⊢
      have hk0 := (hO2.1 _ (.head _)).2
      rw [HKO.out] at hk0
      obtain ⟨f1, f2, f3, f4⟩ := FB.n (fun y hy => hO2.1 y (.tail _ hy))
      have c0 : W2.cell? ⟨w.heap.size, 0, none⟩ = some (.string U) := by rw [cell_of_row _ _ _ _ _ _ f1]; rfl
      have HO2 := keep hO2
      clear hW2
      rcases hxU with ⟨hq, hxe⟩ | ⟨hq, hxe⟩
      · have k0 : W2.cell? ⟨wr.heap.size, 0, none⟩ = some (.string KK) := by rw [cell_of_row _ _ _ _ _ _ hk0]; rfl
        have k1 : W2.cell? ⟨wr.heap.size, 1, none⟩ = some (.int .i64 ra) := by rw [cell_of_row _ _ _ _ _ _ hk0]; rfl
        have k2 : W2.cell? ⟨wr.heap.size, 2, none⟩ = some (.int .i64 rf) := by rw [cell_of_row _ _ _ _ _ _ hk0]; rfl
        have k3 : W2.cell? ⟨wr.heap.size, 3, none⟩ = some (.int .i64 rx) := by rw [cell_of_row _ _ _ _ _ _ hk0]; rfl
        have k4 : W2.cell? ⟨wr.heap.size, 4, none⟩ = some (.int .i64 ry) := by rw [cell_of_row _ _ _ _ _ _ hk0]; rfl
        have k5 : W2.cell? ⟨wr.heap.size, 5, none⟩ = some (.int .i64 rz) := by rw [cell_of_row _ _ _ _ _ _ hk0]; rfl
        have m := keep (mR.out KK X (ra, rf, rx, ry, rz) W2)
        have HXE := keep hxe
        clear hO2 hk0 f1 f2 f3 f4 hxe
        unfold rowV rowL at m
        dsimp only at m
        gi_wp2_with fail
        clear k0 k1 k2 k3 k4 k5
        refine ⟨trivial, rfl, CallsIn.inRound l' (callsIn_wide.2 (m.out.mono ?_))⟩
        rintro _ w3 ⟨rfl, hb3⟩
        obtain ⟨f1, f2, f3, f4⟩ := FB.n (fun y hy => HO2.out.1 y (.tail _ hy))
        have g2 := (hb3.block _ (Array.getElem?_eq_some_iff.1 f2).1).trans f2
        have g3 := (hb3.block _ (Array.getElem?_eq_some_iff.1 f3).1).trans f3
        have cc : ∀ j v, zeroC[j]? = some v → w3.cell? ⟨w.heap.size + 1, j, none⟩ = some v := fun j v h => by rw [cell_of_row _ _ _ _ _ _ g2, h]
        have cf : ∀ j, w3.frozen? ⟨w.heap.size + 1, j, none⟩ = false := fun j => frozen_of_row _ _ _ _ _ g2
        have c0 := cc 0 _ rfl
        have c1 := cc 1 _ rfl
        have c2 := cc 2 _ rfl
        have c3 := cc 3 _ rfl
        have c4 := cc 4 _ rfl
        have c5 := cc 5 _ rfl
        have d0 := cf 0
        have d1 := cf 1
        have d2 := cf 2
        have d3 := cf 3
        have d4 := cf 4
        have d5 := cf 5
        have c6 : w3.cell? ⟨w.heap.size + 1 + 1, 0, none⟩ = some (.bool false) := by rw [cell_of_row _ _ _ _ _ _ g3]; rfl
        have d6 : w3.frozen? ⟨w.heap.size + 1 + 1, 0, none⟩ = false := frozen_of_row _ _ _ _ _ g3
        have fin : ∀ Wf, Wf = ((((((w3.setCell ⟨w.heap.size + 1, 0, none⟩ (.string X)).setCell ⟨w.heap.size + 1, 1, none⟩ (.int .i64 ra)).setCell ⟨w.heap.size + 1, 2, none⟩ (.int .i64 rf)).setCell ⟨w.heap.size + 1, 3, none⟩ (.int .i64 rx)).setCell ⟨w.heap.size + 1, 4, none⟩ (.int .i64 ry)).setCell ⟨w.heap.size + 1, 5, none⟩ (.int .i64 rz)).setCell ⟨w.heap.size + 1 + 1, 0, none⟩ (.bool true) →
            Mk M W2 Wf ∧ Okk w (FB w.heap.size U (rowL U (ra, rf, rx, ry, rz)).toArray true Ds) M Wf := by
          rintro Wf rfl
          have hXU : X = U := by rw [HX.out, HXE.out, ByteArray.toList_eq, Vb.ofL_of]
          have other : ∀ k, k ≠ w.heap.size + 1 → k ≠ w.heap.size + 1 + 1 → k < W2.heap.size → (((((((w3.setCell ⟨w.heap.size + 1, 0, none⟩ (.string X)).setCell ⟨w.heap.size + 1, 1, none⟩ (.int .i64 ra)).setCell ⟨w.heap.size + 1, 2, none⟩ (.int .i64 rf)).setCell ⟨w.heap.size + 1, 3, none⟩ (.int .i64 rx)).setCell ⟨w.heap.size + 1, 4, none⟩ (.int .i64 ry)).setCell ⟨w.heap.size + 1, 5, none⟩ (.int .i64 rz)).setCell ⟨w.heap.size + 1 + 1, 0, none⟩ (.bool true)).heap[k]? = W2.heap[k]? := fun k h1 h2 h3 => by
            rw [heap_setCell_other _ _ _ _ h2, six_other _ _ _ _ _ _ _ _ _ h1]
            exact hb3.block k h3
          have hsz : (((((((w3.setCell ⟨w.heap.size + 1, 0, none⟩ (.string X)).setCell ⟨w.heap.size + 1, 1, none⟩ (.int .i64 ra)).setCell ⟨w.heap.size + 1, 2, none⟩ (.int .i64 rf)).setCell ⟨w.heap.size + 1, 3, none⟩ (.int .i64 rx)).setCell ⟨w.heap.size + 1, 4, none⟩ (.int .i64 ry)).setCell ⟨w.heap.size + 1, 5, none⟩ (.int .i64 rz)).setCell ⟨w.heap.size + 1 + 1, 0, none⟩ (.bool true)).heap.size = w3.heap.size := by simp [World.setCell]
          have hMk : ∀ k, M k → k < W2.heap.size := fun k hk => by rw [HZ2.out]; exact (HM.out k hk).2
          refine ⟨⟨by rw [hsz]; exact hb3.size, fun k hk => other k (by have := HO2.out.2.2.1 k hk; omega) (by have := HO2.out.2.2.1 k hk; omega) (hMk k hk)⟩, fun y hy => ?_, ?_, HO2.out.2.2.1, by rw [hsz]; have := hb3.size; have := HO2.out.2.2.2; omega⟩
          · unfold FB at hy
            simp only [List.cons_append, List.nil_append, List.mem_cons, List.mem_map] at hy
            rcases hy with rfl | rfl | rfl | ⟨D', h, rfl⟩
            · exact ⟨(HO2.out.1 _ (.tail _ (.head _))).1, (other _ (by omega) (by omega) (by have := (Array.getElem?_eq_some_iff.1 f1).1; omega)).trans f1⟩
            · refine ⟨(HO2.out.1 _ (.tail _ (.tail _ (.head _)))).1, ?_⟩
              rw [heap_setCell_other _ _ _ _ (by show w.heap.size + 1 ≠ w.heap.size + 1 + 1; omega), six_set _ _ _ _ _ _ _ _ g2, hXU]
              rfl
            · refine ⟨(HO2.out.1 _ (.tail _ (.tail _ (.tail _ (.head _))))).1, ?_⟩
              show (World.setCell _ ⟨w.heap.size + 1 + 1, 0, none⟩ _).heap[w.heap.size + 1 + 1]? = _
              rw [heap_setCell_same _ _ _ _ _ _ ((six_other _ _ _ _ _ _ _ _ _ (by omega)).trans g3)]
              rfl
            · obtain ⟨q1, q2⟩ := f4 D' h
              have := DGE.out D' h
              exact ⟨q1, (other _ (by show D' ≠ _; omega) (by show D' ≠ _; omega) ((Array.getElem?_eq_some_iff.1 q2).1)).trans q2⟩
          · exact (six_below (HO2.out.2.1.trans (hb3.mono HO2.out.2.1.size)) _ (by omega) _ _ _ _ _ _).setCell (by show _ ≤ w.heap.size + 1 + 1; omega) _
        have FIN := keep fin
        have UIN : Kept (U.toList ∈ Vb.pieces KK.data.toList) := by rw [← HXE.out]; exact List.mem_of_getElem? HXM.out
        clear hb3 f1 f2 f3 f4 g2 g3 cc cf fin
        gi_wp2_with fail
        exact ⟨(FIN.out _ rfl).1, rfl, (FIN.out _ rfl).2, UIN.out⟩
      · clear hO2 hk0 f1 f2 f3 f4
        have HXE := keep hxe
        clear hxe
        gi_wp2_with fail
        refine ⟨Mk.refl _ _, HO2.out, ?_⟩
        rw [List.take_add_one, HXM.out]
        simp only [Option.toList_some, List.mem_append, List.mem_singleton, not_or]
        exact ⟨HNP.out, fun h => HXE.out h.symm⟩
    case done =>
      intro M D W5 hI hD hDk hM
      obtain ⟨hO, hnp⟩ := hI
      rw [List.take_length] at hnp
      obtain ⟨f1, f2, f3, f4⟩ := FB.n (fun y hy => hO.1 y (.tail _ hy))
      have KS5 : Kept (FS w U (i + 1) (D :: Ds) W5) := by
        refine ⟨fun y hy => ⟨id, ?_⟩, hO.2.1, List.nodup_cons.2 ⟨fun h => (f4 D h).1 hD, ND.out⟩, fun D' h => ?_, fun k hk => ?_⟩
        · unfold FB at hy
          simp only [List.map_cons, List.cons_append, List.nil_append, List.mem_cons, List.mem_map] at hy
          rcases hy with rfl | rfl | rfl | rfl | ⟨D', h, rfl⟩
          · exact f1
          · exact f2
          · exact f3
          · exact hDk
          · exact (f4 D' h).2
        · rcases List.mem_cons.1 h with rfl | h
          · exact hO.2.2.1 _ hD
          · exact DGE.out D' h
        · rw [List.take_add_one, HMEM.out] at hk
          simp only [Option.toList_some, List.mem_append, List.mem_singleton] at hk
          rcases hk with hk | rfl
          · exact NPC.out k hk
          · rw [HKK.out, Vb.ofL_data] at hnp
            exact hnp
      clear hO hnp f1 f2 f3 f4 hM hDk hD HOK HQ4 HZ4 KS ixf
      go_wp2_with fail
      exact ⟨⟨i + 1, D :: Ds, _, _, _, _, _, _, _, _, _, _, _, _, _, _, _, by omega, rfl, KS5⟩, by simp [intOf]; omega⟩
    case stop =>
      rintro c M D m W5 hm ⟨rfl, hO, hin⟩ hD hDk hM
      refine (wpIn_wide (n := 9)).2 ?_
      dsimp only
      obtain ⟨f1, f2, f3, f4⟩ := FB.n hO.1
      have HIN := keep hin
      have HO := keep hO
      clear HOK KS ixf hin hO
      go_wp2_with fail
      refine leave_marks (D :: Ds) W5 (List.nodup_cons.2 ⟨fun h => (f4 D h).1 hD, ND.out⟩) (fun D' hD' => ?_) (fun W' hs => ?_)
      · rcases List.mem_cons.1 hD' with rfl | h
        · exact hDk
        · exact (f4 D' h).2
      have e2 : W'.heap[w.heap.size + 1]? = some (.cells (rowL U (ra, rf, rx, ry, rz)).toArray 23 (0, 0)) := (hs.2.2 _ (Array.getElem?_eq_some_iff.1 f2).1 (fun h => by
        rcases List.mem_cons.1 h with h | h
        · exact (HO.out.1 _ (.tail _ (.head _))).1 (h ▸ hD)
        · have := DGE.out _ h; omega)).trans f2
      have e3 : W'.heap[w.heap.size + 2]? = some (.cells #[.bool true] 4 (0, 0)) := (hs.2.2 _ (Array.getElem?_eq_some_iff.1 f3).1 (fun h => by
        rcases List.mem_cons.1 h with h | h
        · exact (HO.out.1 _ (.tail _ (.tail _ (.head _)))).1 (h ▸ hD)
        · have := DGE.out _ h; omega)).trans f3
      refine ⟨_, find_out w.heap.size _ true _ _ rfl rfl e2 e3 rfl, ?_⟩
      rw [HP.out]
      refine ⟨?_, HO.out.2.1.trans (hs.below HO.out.2.1.size (fun k hk => ?_))⟩
      · have hf : Vb.find U.toList = some (ra, rf, rx, ry, rz) := by
          unfold Vb.find
          obtain ⟨h1, h2⟩ := List.getElem?_eq_some_iff.1 HMEM.out
          have hsp : Vb.kinL = Vb.kinL.take i ++ (ks, ra, rf, rx, ry, rz) :: Vb.kinL.drop (i + 1) := by
            rw [← h2, ← List.drop_eq_getElem_cons h1, List.take_append_drop]
          rw [hsp]
          exact Vb.findIn_some NPC.out (by have := HIN.out; rw [HKK.out, Vb.ofL_data] at this; exact this) _
        unfold FndE findV
        rw [hf]
        rfl
      · rcases List.mem_cons.1 hk with rfl | h
        · have := HO.out.2.2.1 _ hD; omega
        · have := DGE.out _ h; omega
  · obtain rfl : i = 35 := by omega
    have hltz : ¬ ((35 : Nat) : Int) < 35 := by omega
    obtain ⟨st, bl, nd, dge, npc⟩ := KS.out
    obtain ⟨f1, f2, f3, f4⟩ := FB.n st
    have g2 := setCells_whole wr (w.heap.size + 1) 23 zeroC zeroC.toList f2 (by simp)
    have g3 : (wr.setCells (w.heap.size + 1) 0 zeroC.toList).heap[w.heap.size + 2]? = some (.cells #[.bool false] 4 (0, 0)) := (setCells_other _ _ (by omega) _ _ _).trans f3
    have c6 : (wr.setCells (w.heap.size + 1) 0 zeroC.toList).cell? ⟨w.heap.size + 1 + 1, 0, none⟩ = some (.bool false) := by rw [cell_of_row _ _ _ _ _ _ g3]; rfl
    have d6 : (wr.setCells (w.heap.size + 1) 0 zeroC.toList).frozen? ⟨w.heap.size + 1 + 1, 0, none⟩ = false := frozen_of_row _ _ _ _ _ g3
    have hth := there_row wr (w.heap.size + 1) 6 _ _ f2 (by decide)
    have G2 := keep g2
    have G3 := keep g3
    have F4 := keep f4
    have BL := keep bl
    have ND := keep nd
    have DGE := keep dge
    have NPC := keep npc
    clear st bl nd dge npc f1 f2 f3 f4 g2 g3 KS
    go_upto_region 10 with fail
    refine wp_region_lit ?_
    refine wpList_pure (.agg zeroC) rfl (by kernel_rfl) ?_
    refine wpList_store_mid rfl 23 (.tmp 2) (.tmp 24) rfl (w.heap.size + 1) 0 zeroC (by rfl) (by rfl) hth (by kernel_rfl) (by kernel_rfl) ?_
    simp only [Act.put, List.setIfInBounds_toArray, List.set_cons_zero, List.set_cons_succ]
    clear hth
    go_wp2_with fail
    obtain ⟨WW, hWW⟩ : ∃ WW, WW = (wr.setCells (w.heap.size + 1) 0 zeroC.toList).setCell ⟨w.heap.size + 1 + 1, 0, none⟩ (.bool false) := ⟨_, rfl⟩
    have e2 : WW.heap[w.heap.size + 1]? = some (.cells zeroC 23 (0, 0)) := by
      rw [hWW, heap_setCell_other _ _ _ _ (by show w.heap.size + 1 ≠ w.heap.size + 1 + 1; omega)]
      exact G2.out
    have e3 : WW.heap[w.heap.size + 2]? = some (.cells #[.bool false] 4 (0, 0)) := by
      rw [hWW]
      show (World.setCell _ ⟨w.heap.size + 1 + 1, 0, none⟩ _).heap[w.heap.size + 1 + 1]? = _
      rw [heap_setCell_same _ _ _ _ _ _ G3.out]
      rfl
    have eB : Below w.heap.size w WW := by
      rw [hWW]
      exact (setCells_below (by omega) _ _ _ BL.out).setCell (by show _ ≤ w.heap.size + 1 + 1; omega) _
    have eo : ∀ D ∈ Ds, WW.heap[D]? = some (.deferred (some [])) := fun D hD => by
      have := DGE.out D hD
      rw [hWW, heap_setCell_other _ _ _ _ (by show D ≠ w.heap.size + 1 + 1; omega), setCells_other _ _ (by omega)]
      exact (F4.out D hD).2
    rw [← hWW]
    clear hWW
    refine leave_marks Ds WW ND.out eo (fun W' hs => ?_)
    have e2' : W'.heap[w.heap.size + 1]? = some (.cells zeroC 23 (0, 0)) := (hs.2.2 _ (Array.getElem?_eq_some_iff.1 e2).1 (fun h => by have := DGE.out _ h; omega)).trans e2
    have e3' : W'.heap[w.heap.size + 2]? = some (.cells #[.bool false] 4 (0, 0)) := (hs.2.2 _ (Array.getElem?_eq_some_iff.1 e3).1 (fun h => by have := DGE.out _ h; omega)).trans e3
    refine ⟨_, find_out w.heap.size _ false _ _ rfl rfl e2' e3' rfl, ?_⟩
    rw [HP.out]
    refine ⟨?_, eB.trans (hs.below eB.size (fun k hk => by have := DGE.out _ hk; omega))⟩
    have hf : Vb.find U.toList = none := by
      unfold Vb.find
      refine Vb.findIn_none fun k hk => NPC.out k ?_
      rw [List.take_of_length_le (by rw [Vb.kin_len]; exact Nat.le_refl _)]
      exact hk
    unfold FndE findV
    rw [hf]
    rfl
end Go.Proofs.YtaflggjgndkdlaaDoor
