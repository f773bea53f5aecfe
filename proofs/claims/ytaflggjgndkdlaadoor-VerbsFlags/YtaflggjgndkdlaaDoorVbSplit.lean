/-
  Contracts over this program: strings.SplitSeq at one blank: an iterator that tells the pieces, one by one, and turns a cell of its own.
-/
import Derived.Test.YtaflggjgndkdlaaDoorVbIdx
import Derived.Test.YtaflggjgndkdlaaDoorItersM
import Derived.WalkKit
import Derived.TacticsInMore
import Derived.LoopNIn
import Derived.LoopIn
import Derived.Sort.QuietIn
namespace Go.Proofs.YtaflggjgndkdlaaDoor
open Go.RowKit
set_option linter.unusedVariables false
abbrev ptr (b : Nat) : Value := .pointer (some ⟨b, 0, none⟩)
abbrev sp : ByteArray := ⟨#[32]⟩
/-- the three cells that an iterator of strings.SplitSeq has -/
def Sq (W : World) (b : Nat) (s : ByteArray) : Prop := W.cell? ⟨b, 0, none⟩ = some (.string s) ∧ W.frozen? ⟨b, 0, none⟩ = false ∧ W.cell? ⟨b + 1, 0, none⟩ = some (.string sp) ∧ W.cell? ⟨b + 2, 0, none⟩ = some (.int .i64 0)
def Sq0 (b k : Nat) : Prop := k = b ∨ k = b + 1 ∨ k = b + 2
theorem Sq.lt {W : World} {b : Nat} {s : ByteArray} (h : Sq W b s) : b + 2 < W.heap.size := World.block_lt_of_cell? W _ h.2.2.2
theorem Sq.mk {W W' : World} {b : Nat} {s : ByteArray} (h : Sq W b s) (hk : Mk (Sq0 b) W W') : Sq W' b s := by
  obtain ⟨h1, h2, h3, h4⟩ := h
  have e0 := hk.2 b (.inl rfl)
  refine ⟨(World.cell?_of_block e0).trans h1, ?_, (World.cell?_of_block (hk.2 (b + 1) (.inr (.inl rfl)))).trans h3, (World.cell?_of_block (hk.2 (b + 2) (.inr (.inr rfl)))).trans h4⟩
  rw [← h2]
  unfold World.frozen?
  rw [e0]
theorem Sq.below {W W' : World} {b : Nat} {s : ByteArray} (h : Sq W b s) (hb : Below W.heap.size W W') : Sq W' b s := h.mk (Mk.below hb (fun k hk => by have := h.lt; rcases hk with rfl | rfl | rfl <;> omega))
def pcV (x : List UInt8) : Array Value := #[.string (Vb.ofL x)]
theorem splitSeq_any (s : ByteArray) (w : World) : Calls Tryd.prog 32 #[.string s, .string sp, .int .i64 0] w fun e w' =>
    e = .returned (.func (.func 36) #[] #[ptr (w.heap.size + 1), ptr w.heap.size, ptr (w.heap.size + 2)]) ∧ Below w.heap.size w w' ∧ Sq w' w.heap.size s ∧ w'.heap.size = w.heap.size + 3 := by
  go_enter Tryd.func32, Tryd.ntmps32
  go_wp2
  go_ret
  refine ⟨rfl, (((Below.refl _ w).alloc (Nat.le_refl _) _).alloc (by simp) _).alloc (by simp; omega) _, ⟨?_, ?_, ?_, ?_⟩, by simp⟩
  · go_simp
  · go_simp
  · go_simp
  · go_simp
theorem seq_any (s : ByteArray) (w : World) : Calls Tryd.prog 24 #[.string s, .string sp] w fun e w' =>
    e = .returned (.func (.func 36) #[] #[ptr (w.heap.size + 1), ptr w.heap.size, ptr (w.heap.size + 2)]) ∧ Below w.heap.size w w' ∧ Sq w' w.heap.size s ∧ w'.heap.size = w.heap.size + 3 := by
  have m := keep (splitSeq_any s)
  go_enter Tryd.func24, Tryd.ntmps24
  go_wp2_with fail
  refine (m.out _).mono ?_
  rintro _ w' ⟨rfl, h⟩
  go_wp2
  go_ret
  exact ⟨rfl, h⟩
theorem Sq.put {W : World} {b : Nat} {s : ByteArray} (h : Sq W b s) (r : ByteArray) : Sq (W.setCell ⟨b, 0, none⟩ (.string r)) b r := by
  obtain ⟨h1, h2, h3, h4⟩ := h
  refine ⟨World.cell?_setCell_same _ _ _ h1, by rw [World.frozen?_setCell]; exact h2, ?_, ?_⟩
  · rw [World.cell?_setCell_other _ _ _ _ (by simp)]; exact h3
  · rw [World.cell?_setCell_other _ _ _ _ (by simp)]; exact h4
theorem Sep.setCell {M : Nat → Prop} (W : World) (b : Nat) (v : Value) (hb : M b) : Sep M W (W.setCell ⟨b, 0, none⟩ v) :=
  ⟨⟨rfl, rfl, rfl⟩, by simp [World.setCell], fun k _ hk => heap_setCell_other W ⟨b, 0, none⟩ k v (fun e => hk (e ▸ hb))⟩
/-- how long the text in a cell is -/
def tlen (W : World) (b : Nat) : Nat := match W.cell? ⟨b, 0, none⟩ with
  | some (.string s) => s.size
  | _ => 0
theorem Sq.tlen {W : World} {b : Nat} {s : ByteArray} (h : Sq W b s) : tlen W b = s.size := by unfold Go.Proofs.YtaflggjgndkdlaaDoor.tlen; rw [h.1]
set_option maxRecDepth 100000 in
set_option maxHeartbeats 2000000 in
theorem seq_iter (b : Nat) (s : ByteArray) (W : World) (hS : Sq W b s) (hs : s.size < 4294967281) :
    Iter Tryd.prog 36 #[ptr (b + 1), ptr b, ptr (b + 2)] pcV (fun _ _ => True) (Vb.pieces s.data.toList) (Sq0 b) W := by
  intro l J Jx hJ hJx hRd hY h0
  have HY := keep hY
  have HJ := keep hJ
  have H0 := keep h0
  have HSL := keep hs
  have HS := keep hS
  obtain ⟨s1, s2, s3, s4⟩ := hS
  clear hY hJ hRd h0 hJx hs
  refine (callsIn_wide (n := 5)).1 (callsIn_of_wp Tryd.func36 rfl trivial ?_ rfl)
  simp only [Tryd.ntmps36, List.size_toArray, List.length_cons, List.length_nil, Nat.reduceAdd, Nat.reduceSub, Array.replicate_succ, Array.replicate_zero, List.push_toArray, List.append_toArray, List.nil_append, List.cons_append]
  gi_wp2_with fail
  clear s1 s2 s3 s4
  gi_loopw [7, 8] (fun v7 v8 wr => ∃ (A : List (List UInt8)) (r : List UInt8), Kept (Vb.pieces s.data.toList = A ++ Vb.pieces r) ∧ Kept (r.length ≤ s.size) ∧ Kept (Sq wr b (Vb.ofL r)) ∧ Kept (J (Sq0 b) A.length wr)) (fun _ _ wr => tlen wr b)
  case atStart => exact ⟨[], s.data.toList, rfl, Nat.le_of_eq (Vb.size_list s), by rw [Vb.ofL_of]; exact HS, H0⟩
  case round =>
    obtain ⟨A, r, KP, KR, KS, KJ⟩ := hrel
    obtain ⟨s1, s2, s3, s4⟩ := KS.out
    have hM : ∀ wx, Sq wx b (Vb.ofL r) → ∀ k, Sq0 b k → (Sq0 b k ∨ W.heap.size ≤ k) ∧ k < wx.heap.size := fun wx h k hk => ⟨.inl hk, by have := h.lt; rcases hk with rfl | rfl | rfl <;> omega⟩
    have HM := keep hM
    clear hM
    have mI := keep (index_any (Vb.ofL r))
    have hr63 : r.length < 4294967281 := by have := KR.out; have := HSL.out; omega
    have hbl := Vb.blank_le r
    have hbi : bidx (Vb.ofL r) = if Vb.blank r < r.length then (Vb.blank r : Int) else -1 := blank_is r
    rcases Nat.lt_or_ge (Vb.blank r) r.length with hc | hc
    · rw [if_pos hc] at hbi
      have hp := Vb.pieces_some r hc
      obtain ⟨i, hi⟩ : ∃ i, Vb.blank r = i := ⟨_, rfl⟩
      rw [hi] at hbi hc hp
      rw [hp] at KP
      have hx : (Vb.pieces s.data.toList)[A.length]? = some (r.take i) := by rw [KP.out]; simp
      have sl1 : ∀ wx, (Instr.slice 9 (.string (Vb.ofL r)) none (some (.int .i64 (i : Int))) none).run Tryd.prog wx = .ok (.string (Vb.ofL (r.take i))) wx := fun wx => by
        rw [run_slice_string_h wx 9 (Vb.ofL r) Tryd.underlying9 .i64 (i : Int) (by omega) (by rw [Vb.ofL_size]; omega)]
        congr 2
        apply ByteArray.ext
        apply Array.toList_inj.1
        rw [ByteArray.data_extract, Array.toList_extract, List.extract_eq_take_drop]
        simp [Vb.ofL_data]
      have sl2 : ∀ wx, (Instr.slice 9 (.string (Vb.ofL r)) (some (.int .i64 ((i : Int) + 1))) none none).run Tryd.prog wx = .ok (.string (Vb.ofL (r.drop (i + 1)))) wx := fun wx => by
        rw [run_slice_string_l wx 9 (Vb.ofL r) Tryd.underlying9 .i64 ((i : Int) + 1) (by omega) (by rw [Vb.ofL_size]; omega)]
        congr 2
        apply ByteArray.ext
        apply Array.toList_inj.1
        rw [ByteArray.data_extract, Array.toList_extract, List.extract_eq_take_drop]
        rw [Vb.ofL_data, Vb.ofL_data, Vb.ofL_size, show ((i : Int) + 1).toNat = i + 1 by omega]
        exact List.take_of_length_le (by simp)
      have hdl : (r.drop (i + 1)).length < r.length := by rw [List.length_drop]; omega
      have hi0 : ¬ (i : Int) < 0 := by omega
      have hiw : IntKind.i64.wrap ((i : Int) + 1) = (i : Int) + 1 := by rw [IntKind.wrap_i64]; omega
      have hiw0 : IntKind.i64.wrap ((i : Int)) = (i : Int) := by rw [IntKind.wrap_i64]; omega
      obtain ⟨F, hF⟩ : ∃ F, F = Vb.ofL (r.take i) := ⟨_, rfl⟩
      obtain ⟨D, hD⟩ : ∃ D, D = Vb.ofL (r.drop (i + 1)) := ⟨_, rfl⟩
      obtain ⟨R, hR⟩ : ∃ R, R = Vb.ofL r := ⟨_, rfl⟩
      have hRs : R.size = r.length := by rw [hR, Vb.ofL_size]
      rw [← hF, ← hR] at sl1
      rw [← hD, ← hR] at sl2
      rw [← hR] at s1 mI hbi
      obtain ⟨fn, tmps, assign, body, hy, hRo⟩ := (HY.out _ _ _ wr KJ.out hx (HM.out _ KS.out)).at (5 - 1)
      unfold pcV at hy
      rw [← hF] at hy
      have HRo := keep hRo
      have HF := keep hF
      have HD := keep hD
      have HR := keep hR
      have HDL := keep hdl
      have HX := keep hx
      clear hF hD hR hdl hp hi hbl hc hr63 hRo hx hRs
      gi_wp2_with fail
      refine ⟨trivial, callsIn_wide.2 ((mI.out _).mono ?_)⟩
      rintro _ w2 ⟨rfl, rfl⟩
      rw [hbi]
      clear mI hbi
      gi_wp2_with fail
      clear s1 s2 s3 s4
      refine RoundIn.mono HRo.out ?_
      rintro e W3 ⟨hk3, (⟨rfl, hJ3⟩ | ⟨rfl, hJx3⟩)⟩
      · have KS3 := KS.out.mk hk3
        obtain ⟨s1, s2, s3, s4⟩ := KS3
        rw [← HR.out] at s1
        have fin : Kept (Sq (W3.setCell ⟨b, 0, none⟩ (.string D)) b (Vb.ofL (r.drop (i + 1))) ∧ J (Sq0 b) (A ++ [r.take i]).length (W3.setCell ⟨b, 0, none⟩ (.string D)) ∧ tlen (W3.setCell ⟨b, 0, none⟩ (.string D)) b < tlen w2 b) := by
          have q1 : Sq (W3.setCell ⟨b, 0, none⟩ (.string D)) b (Vb.ofL (r.drop (i + 1))) := by rw [← HD.out]; exact (KS.out.mk hk3).put D
          refine ⟨q1, ?_, ?_⟩
          · rw [List.length_append]
            exact HJ.out _ _ _ _ _ hJ3 (Sep.setCell W3 b _ (.inl rfl)) (Ext.refl _ _ _)
          · rw [q1.tlen, KS.out.tlen, Vb.ofL_size, Vb.ofL_size]
            exact HDL.out
        clear hk3 hJ3
        gi_wp2_with fail
        go_roundw
        case rel => exact ⟨A ++ [r.take i], r.drop (i + 1), by show _ = _; rw [KP.out]; simp, by have := KR.out; have := HDL.out; show _ ≤ _; omega, fin.out.1, fin.out.2.1⟩
        case measure => exact fin.out.2.2
      · have K3 := keep hJx3
        have M3 := keep (HM.out _ (KS.out.mk hk3))
        clear hJx3 hk3
        gi_wp2_with fail
        refine bodyPost_ret (results_none rfl _ _ _) rfl ?_
        exact ⟨⟨_, rfl⟩, Sq0 b, M3.out, .inr ⟨A.length, by rw [KP.out]; simp, K3.out⟩⟩
    · rw [if_neg (by omega)] at hbi
      have hp := Vb.pieces_none r (by omega)
      rw [hp] at KP
      have hx : (Vb.pieces s.data.toList)[A.length]? = some r := by rw [KP.out]; simp
      obtain ⟨fn, tmps, assign, body, hy, hRo⟩ := (HY.out _ _ _ wr KJ.out hx (HM.out _ KS.out)).at (5 - 1)
      unfold pcV at hy
      obtain ⟨R, hR⟩ : ∃ R, R = Vb.ofL r := ⟨_, rfl⟩
      rw [← hR] at s1 mI hbi hy
      have HRo := keep hRo
      have HR := keep hR
      clear hR hp hbl hc hr63 hRo hx
      gi_wp2_with fail
      refine ⟨trivial, callsIn_wide.2 ((mI.out _).mono ?_)⟩
      rintro _ w2 ⟨rfl, rfl⟩
      rw [hbi]
      clear mI hbi
      gi_wp2_with fail
      refine RoundIn.mono HRo.out ?_
      clear s1 s2 s3 s4
      have hL : A.length + 1 = (Vb.pieces s.data.toList).length := by rw [KP.out]; simp
      have HL := keep hL
      clear hL
      rintro e W3 ⟨hk3, hJ3⟩
      have M3 := keep (HM.out _ (KS.out.mk hk3))
      clear hk3
      have fin : Kept ((∃ v, e = .returned v) ∧ ∃ M, (∀ k, M k → (Sq0 b k ∨ W.heap.size ≤ k) ∧ k < W3.heap.size) ∧ (J M (Vb.pieces s.data.toList).length W3 ∨ ∃ m, m < (Vb.pieces s.data.toList).length ∧ Jx M (m + 1) W3)) := by
        rcases hJ3 with ⟨rfl, h⟩ | ⟨rfl, h⟩
        · exact ⟨⟨_, rfl⟩, Sq0 b, M3.out, .inl (by rw [← HL.out]; exact h)⟩
        · exact ⟨⟨_, rfl⟩, Sq0 b, M3.out, .inr ⟨A.length, by rw [← HL.out]; omega, h⟩⟩
      have he : (e = .returned (.bool true)) ∨ (e = .returned (.bool false)) := by rcases hJ3 with ⟨h, _⟩ | ⟨h, _⟩ <;> simp [h]
      clear hJ3
      rcases he with rfl | rfl
      · gi_wp2_with fail
        go_end0
        exact ⟨⟨_, rfl⟩, fin.out.2⟩
      · gi_wp2_with fail
        go_end0
        exact ⟨⟨_, rfl⟩, fin.out.2⟩
end Go.Proofs.YtaflggjgndkdlaaDoor
