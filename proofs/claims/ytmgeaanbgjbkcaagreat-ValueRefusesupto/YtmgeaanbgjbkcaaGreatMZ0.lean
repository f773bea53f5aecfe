/-
  Contracts over this program, put together.
-/
import Derived.Test.YtmgeaanbgjbkcaaGreatMWe
import Derived.Test.YtmgeaanbgjbkcaaGreatMWg
import Derived.Laws.IdiomStrings
import Derived.Laws.MakeOwn
set_option maxHeartbeats 16000000
namespace Go.Proofs.YtmgeaanbgjbkcaaGreat
open Go.RowKit Go.Shelf
set_option linter.unusedVariables false
set_option linter.unusedSimpArgs false
set_option maxRecDepth 100000
namespace Vl
theorem nan_drawn (t : Nat) (x y : Nat) : isNan ((Question.nanBits .f64 x y).cut t) = true := by
  have h1 : (t / 2) % (2 ^ 52 - 1) < 2 ^ 52 - 1 := Nat.mod_lt _ (by decide)
  have h2 : t % 2 < 2 := Nat.mod_lt _ (by decide)
  have e : (Question.nanBits .f64 x y).cut t = (t % 2) * 2 ^ 63 + 0x7ff0000000000000 + 1 + (t / 2) % (2 ^ 52 - 1) := rfl
  rw [e]
  generalize (t / 2) % (2 ^ 52 - 1) = r at *
  generalize t % 2 = s at *
  have hs : (s * 2 ^ 63 + 0x7ff0000000000000 + 1 + r) % 9223372036854775808 = 0x7ff0000000000001 + r := by omega
  unfold isNan Ieee.Format.read
  have sw : Ieee.double.signWeight = 9223372036854775808 := by decide
  have bn : Ieee.double.binade = 4503599627370496 := by decide
  have ir : Ieee.double.infRung = 9218868437227405312 := by decide
  simp only [sw, bn, ir, hs]
  rw [if_neg (by omega), if_neg (by omega), if_neg (by omega)]
  rfl
theorem Arg.plainO {w w' : World} {kd : Int} {tx : ByteArray} {io po no so : Option Addr} {n1 n2 n3 n4 k1 k2 k3 k4 : Nat} {d : Dt} (h : Arg w kd tx io po no so n1 n2 n3 n4 k1 k2 d) (hb : Below w.heap.size w w') :
    Calls Tryz.prog 9 #[.agg #[.int .i64 kd, .string tx, .slice io n1 k1, .slice po n2 k2, .slice no n3 k3, .slice so n4 k4]] w' fun e w'' => (∃ V, e = .returned V ∧ PlO w'.heap.size w'' V d) ∧ Below w'.heap.size w' w'' := by
  obtain ⟨I, P, N, S, rfl, h1, h2, h3, h4, q1, q2, q3, q4, z1, z2, s1, s2, s3⟩ := h
  exact dplain_own w' kd tx io po no so n1 n2 n3 n4 k1 k2 k3 k4 I P N S h1 h2 h3 h4 (q1.bel (B := 0) hb) (q2.bel (B := 0) hb) (q3.bel (B := 0) hb) (q4.bel (B := 0) hb) z1 z2 s1 s2 s3
theorem Pb.put0 {W : World} {b : Nat} {kd : Int} {tx : ByteArray} {iv pv rv : Value} {I : List ByteArray} {P : List (ByteArray × ByteArray)} {R : List (ByteArray × Nat)} {w : World} (h : Pb W b kd tx iv pv rv I P R w) (kd' : Int) : Pb W b kd' tx iv pv rv I P R (w.setCell ⟨b, 0, none⟩ (.int .i64 kd')) := by
  obtain ⟨h1, h2, h3, h4, h5, h6⟩ := h
  exact ⟨by unfold Bx at h1 ⊢; rw [cell_setCell h1]; rfl, row_set h2 h1 (by decide), row_set h3 h1 (by decide), row_set h4 h1 (by decide), h5.setCell h6 _, h6⟩
theorem Pb.put1 {W : World} {b : Nat} {kd : Int} {tx : ByteArray} {iv pv rv : Value} {I : List ByteArray} {P : List (ByteArray × ByteArray)} {R : List (ByteArray × Nat)} {w : World} (h : Pb W b kd tx iv pv rv I P R w) (tx' : ByteArray) : Pb W b kd tx' iv pv rv I P R (w.setCell ⟨b, 1, none⟩ (.string tx')) := by
  obtain ⟨h1, h2, h3, h4, h5, h6⟩ := h
  exact ⟨by unfold Bx at h1 ⊢; rw [cell_setCell h1]; rfl, row_set h2 h1 (by decide), row_set h3 h1 (by decide), row_set h4 h1 (by decide), h5.setCell h6 _, h6⟩
def At (aa : Act) (ww : World) : Exit → Act → World → Prop
  | .normal, a, w => a = aa ∧ w = ww
  | _, _, _ => False
theorem wp_at {P : Program} {c : Code} {Q : Exit → Act → World → Prop} {a : Act} {w : World} (aa : Act) (ww : World) (h : c.wp P (At aa ww) a w) (hq : Q .normal aa ww) : c.wp P Q a w :=
  Code.wp_mono (fun e a' w' h => by
    cases e
    case normal => obtain ⟨rfl, rfl⟩ := h; exact hq
    all_goals exact (h : False).elim) h
theorem twin_app {α : Type} {l : List α} {x : α} (h : x ∈ l) : ¬ (l ++ [x]).Nodup := fun e => (List.nodup_append.1 e).2.2 x h x (by simp) rfl
theorem info_u8 : (Tryz.prog.info? 5).map (fun i => (i.zero, i.size, i.bytes)) = some (some (.int .u8 0), 1, 1) := by kernel_rfl
theorem zeros_text (w : World) (n : Nat) (hn : n ≤ 2097152) :
    ∃ w' z, (Instr.makeSlice 74 (.int .i64 (n : Int)) (.int .i64 (n : Int))).run Tryz.prog w = .ok (.slice (some ⟨w.heap.size, 0, none⟩) n n) w' ∧ (convert 74 9 (.slice (some ⟨w.heap.size, 0, none⟩) n n)).run Tryz.prog w' = .ok (.string z) w' ∧ z.size = n ∧ Below w.heap.size w w' := by
  obtain ⟨i0, hi0, hz0, hz1, hz2⟩ := info_of info_u8
  obtain ⟨w', h1, h2, h3⟩ := run_make_full (P := Tryz.prog) w w.heap.size 74 5 i0 (.int .u8 0) 1 Tryz.underlying74 hi0 hz0 hz1 .i64 .i64 n (by rw [hz2]; omega) (by unfold maxLen; omega) (Nat.le_refl _)
  have hl : (List.replicate n (0 : UInt8)).length = n := List.length_replicate
  refine ⟨w', ⟨(List.replicate n (0 : UInt8)).toArray⟩, h1, ?_, by show (List.replicate n (0 : UInt8)).toArray.size = n; simp, (Below.refl _ w).grown h3 (Nat.le_refl _) (fun k hk => by cases hk)⟩
  have hb := run_convert_bytes_back (P := Tryz.prog) w' 74 9 5 ⟨w.heap.size, 0, none⟩ n (List.replicate n 0) Tryz.underlying74 Tryz.underlying5 Tryz.underlying9 (fun j hj => by
    rw [hl] at hj
    rw [add0, List.getElem_replicate]
    have hc := h2.cells (g := w.heap.size) rfl j (.int .u8 0) (by
      show (madeCells #[.int .u8 0] (n * 1)).toList[j]? = _
      rw [toList_madeCells_one, Nat.mul_one, List.getElem?_replicate, if_pos hj])
    rw [add0] at hc
    exact hc)
  rw [hl] at hb
  exact hb
theorem nan_lt (t x y : Nat) : (Question.nanBits .f64 x y).cut t < Dw.M := by
  have h1 : (t / 2) % (2 ^ 52 - 1) < 2 ^ 52 - 1 := Nat.mod_lt _ (by decide)
  have h2 : t % 2 < 2 := Nat.mod_lt _ (by decide)
  have e : (Question.nanBits .f64 x y).cut t = (t % 2) * 2 ^ 63 + 0x7ff0000000000000 + 1 + (t / 2) % (2 ^ 52 - 1) := rfl
  rw [e]
  unfold Dw.M
  generalize (t / 2) % (2 ^ 52 - 1) = r at *
  generalize t % 2 = u at *
  omega
def Nul (y : Nat) : Prop := isNan y = true ∨ y = 0 ∨ y = 9223372036854775808
theorem run_mul0 (w : World) (t : TypeId) (y : Nat) (hy : isNan y = false) : ∃ r w', (binOp .mul t (.float .f64 y) (.float .f64 0)).run Tryz.prog w = .ok (.float .f64 r) w' ∧ (w' = w ∨ w' = w.drew) ∧ r < Dw.M ∧ Nul r := by
  have z0 : Ieee.double.read 0 = .number false 0 Ieee.double.leastPlace := by decide
  unfold isNan at hy
  cases e : Ieee.double.read y with
  | number neg m p =>
    have h : FloatKind.f64.format.mul y 0 = some (Ieee.double.nearest neg 0 (p + Ieee.double.leastPlace)) := by
      show Ieee.double.mul y 0 = _
      unfold Ieee.Format.mul
      rw [e, z0]
      simp [Ieee.Datum.product, Ieee.Format.write]
    refine ⟨Ieee.double.nearest neg 0 (p + Ieee.double.leastPlace), w, run_float_arith w .mul t .f64 y 0 _ h, .inl rfl, ?_, ?_⟩
    · unfold Ieee.Format.nearest
      rw [if_pos rfl]
      cases neg <;> decide
    · unfold Nul Ieee.Format.nearest
      rw [if_pos rfl]
      cases neg
      · exact .inr (.inl (by decide))
      · exact .inr (.inr (by decide))
  | infinity neg =>
    have h : FloatKind.f64.format.mul y 0 = none := by
      show Ieee.double.mul y 0 = _
      unfold Ieee.Format.mul
      rw [e, z0]
      simp [Ieee.Datum.product]
    refine ⟨(Question.nanBits .f64 y 0).cut (w.tape w.drawn (.nanBits .f64 y 0)), w.drew, ?_, .inr rfl, nan_lt _ _ _, .inl (nan_drawn _ _ _)⟩
    simp [binOp, Op.floatArith, h, Question.forced]
  | nan neg f => rw [e] at hy; simp [Ieee.Datum.isNaN] at hy
theorem run_quo0 (w : World) (t : TypeId) (y : Nat) (hy : Nul y) : ∃ r, (binOp .quo t (.float .f64 y) (.float .f64 y)).run Tryz.prog w = .ok (.float .f64 r) w.drew ∧ r < Dw.M ∧ isNan r = true := by
  have h : FloatKind.f64.format.div y y = none := by
    show Ieee.double.div y y = none
    unfold Ieee.Format.div
    rcases hy with hy | rfl | rfl
    · unfold isNan at hy
      cases e : Ieee.double.read y with
      | nan neg f => simp [Ieee.Datum.quotient]
      | number neg m p => rw [e] at hy; simp [Ieee.Datum.isNaN] at hy
      | infinity neg => rw [e] at hy; simp [Ieee.Datum.isNaN] at hy
    · decide
    · decide
  refine ⟨(Question.nanBits .f64 y y).cut (w.tape w.drawn (.nanBits .f64 y y)), ?_, nan_lt _ _ _, nan_drawn _ _ _⟩
  simp [binOp, Op.floatArith, h, Question.forced]
theorem Pb.score {W : World} {b : Nat} {kd : Int} {tx : ByteArray} {iv pv : Value} {g n c : Nat} {I : List ByteArray} {P : List (ByteArray × ByteArray)} {x : ByteArray} {y : Nat} {R : List (ByteArray × Nat)} {w : World} (h : Pb W b kd tx iv pv (.slice (some ⟨g, 0, none⟩) n c) I P ((x, y) :: R) w) (y' : Nat) :
    Pb W b kd tx iv pv (.slice (some ⟨g, 0, none⟩) n c) I P ((x, y') :: R) (w.setCell ⟨g, 1, none⟩ (.float .f64 y')) := by
  obtain ⟨h1, h2, h3, h4, h5, h6⟩ := h
  rcases h4.2 with ⟨hh, _⟩ | ⟨g', cap, cur, hh, hg, hgg, q1, q2, q3, q4⟩
  · cases hh
  · cases hh
    refine ⟨?_, kept_but h2 (fun k hk => Below.heap_setCell _ _ _ _ hk) (own_ne h2 hgg (by decide)), kept_but h3 (fun k hk => Below.heap_setCell _ _ _ _ hk) (own_ne h3 hgg (by decide)), ⟨?_, .inr ⟨g, _, _, rfl, hg, cell_setCell hgg, q1, q2, ?_, ?_⟩⟩, h5.setCell hg _, h6⟩
    · unfold Bx at h1 ⊢
      rw [Below.heap_setCell _ _ _ _ (fun e => by subst e; rw [hgg] at h1; cases h1)]
      exact h1
    · rw [enM_len]
    · rw [Array.size_setIfInBounds]; exact q3
    · rw [Array.toList_setIfInBounds, List.take_set]
      rw [show cur.toList.take (((x, y') :: R).length * 2) = enM ((x, y) :: R) from q4]
      rfl
theorem Pb.free {W : World} {b : Nat} {kd : Int} {tx : ByteArray} {iv pv : Value} {g n c : Nat} {I : List ByteArray} {P : List (ByteArray × ByteArray)} {x : ByteArray} {y : Nat} {R : List (ByteArray × Nat)} {w : World} (h : Pb W b kd tx iv pv (.slice (some ⟨g, 0, none⟩) n c) I P ((x, y) :: R) w) :
    w.cell? ⟨g, 1, none⟩ = some (.float .f64 y) ∧ w.frozen? ⟨g, 1, none⟩ = false := by
  obtain ⟨h1, h2, h3, h4, h5, h6⟩ := h
  rcases h4.2 with ⟨hh, _⟩ | ⟨g', cap, cur, hh, hg, hgg, q1, q2, q3, q4⟩
  · cases hh
  · cases hh
    refine ⟨?_, by simp [World.frozen?, hgg]⟩
    have hc := h4.cells (g := g) rfl 1 (.float .f64 y) rfl
    rwa [add0] at hc
theorem fit_kind {d : Dt} (h : Fit d) : 1 ≤ d.kind ∧ d.kind ≤ 5 := by
  rcases h with ⟨h, _⟩ | ⟨h, _⟩ | ⟨h, _⟩ | ⟨h, _⟩ <;> omega
end Vl
end Go.Proofs.YtmgeaanbgjbkcaaGreat
