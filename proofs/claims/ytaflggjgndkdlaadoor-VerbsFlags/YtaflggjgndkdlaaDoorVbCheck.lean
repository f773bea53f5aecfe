/-
  Contracts over this program: verbs.Check at any words.
-/
import Derived.Test.YtaflggjgndkdlaaDoorVbChk0
namespace Go.Proofs.YtaflggjgndkdlaaDoor
open Go.RowKit
set_option linter.unusedVariables false
/-- what Check answers: a name, its row, an error's number -/
def chk : List ByteArray → ByteArray × Vb.Row × Int
  | [] => (ByteArray.empty, Vb.zeroR, 3)
  | s :: r => if longW (s :: r) then (ByteArray.empty, Vb.zeroR, 2) else match Vb.find (Vb.up s).toList with
    | none => (ByteArray.empty, Vb.zeroR, 180)
    | some v => if many (s :: r).length v.1 then (Vb.up s, v, 0) else (ByteArray.empty, Vb.zeroR, 181)
/-- what all rows have in common -/
def okRow (r : Vb.Row) : Bool := decide (-1000 ≤ r.1 ∧ r.1 ≤ 1000 ∧ r.1 ≠ 0) && decide (0 ≤ r.2.1 ∧ r.2.1 ≤ 15) && (decide (r.2.2.1 = 0) || (decide (r.2.2.1 = 1) && (decide (r.2.2.2.1 = -1) || decide (r.2.2.2.1 = 1) || decide (r.2.2.2.1 = 2)) && (decide (r.2.2.2.2 = 1) || decide (r.2.2.2.2 = 2)) && decide (r.2.2.2.1 < r.1 ∨ r.2.2.2.1 < -r.1) && decide (2 ≤ r.1 ∨ 2 ≤ -r.1)) )
theorem rows_ok : Vb.kinL.all (fun k => okRow k.2) = true := by decide +kernel
theorem find_okRow {u : List UInt8} {r : Vb.Row} (h : Vb.find u = some r) : okRow r = true := by
  obtain ⟨k, h1, _, rfl⟩ := Vb.findIn_mem h
  exact List.all_eq_true.1 rows_ok k h1
theorem find_arity {u : List UInt8} {r : Vb.Row} (h : Vb.find u = some r) : -1000 ≤ r.1 ∧ r.1 ≤ 1000 := by
  have := find_okRow h
  unfold okRow at this
  simp only [Bool.and_eq_true, decide_eq_true_eq] at this
  exact ⟨this.1.1.1, this.1.1.2.1⟩
def ChkE (S : List ByteArray) (e : Ending) : Prop := e = .returned (.tuple #[rowV (chk S).1 (chk S).2.1, .int .i64 (chk S).2.2])
theorem row_form (n : ByteArray) (r : Vb.Row) : rowV n r = .agg #[.string n, .int .i64 r.1, .int .i64 r.2.1, .int .i64 r.2.2.1, .int .i64 r.2.2.2.1, .int .i64 r.2.2.2.2] := rfl
theorem check_out (b : Nat) (cs : Array Value) (t u : Nat) (c : Int) (tmps : Array Value) (W : World) (h2 : tmps.getD 2 undef = .pointer (some ⟨b, 0, none⟩)) (h3 : tmps.getD 3 undef = .int .i64 c)
    (f2 : W.heap[b]? = some (.cells cs 23 (0, 0))) (hs : cs.size = 6) : (results Tryd.f13 tmps).run Tryd.prog W = .ok (.tuple #[.agg cs, .int .i64 c]) W := by
  have hld := run_loadVar_row (P := Tryd.prog) W b 23 23 cs (0, 0) _ f2 Tryd.underlying23 rfl (by rw [hs]; kernel_rfl)
  rw [results_cell_tmp rfl, h2, h3]
  simp [asAddr, Result.andThen, hld]
theorem chk_long {s : ByteArray} {r : List ByteArray} (h : longW (s :: r) = true) : chk (s :: r) = (ByteArray.empty, Vb.zeroR, 2) := by unfold chk; dsimp only; rw [if_pos h]
theorem chk_none {s : ByteArray} {r : List ByteArray} (h : longW (s :: r) = false) (hf : Vb.find (Vb.up s).toList = none) : chk (s :: r) = (ByteArray.empty, Vb.zeroR, 180) := by unfold chk; dsimp only; rw [if_neg (by rw [h]; decide), hf]
theorem chk_ok {s : ByteArray} {r : List ByteArray} {v : Vb.Row} (h : longW (s :: r) = false) (hf : Vb.find (Vb.up s).toList = some v) (hm : many (s :: r).length v.1 = true) : chk (s :: r) = (Vb.up s, v, 0) := by unfold chk; dsimp only; rw [if_neg (by rw [h]; decide), hf]; dsimp only; rw [hm, if_pos rfl]
theorem chk_few {s : ByteArray} {r : List ByteArray} {v : Vb.Row} (h : longW (s :: r) = false) (hf : Vb.find (Vb.up s).toList = some v) (hm : many (s :: r).length v.1 = false) : chk (s :: r) = (ByteArray.empty, Vb.zeroR, 181) := by unfold chk; dsimp only; rw [if_neg (by rw [h]; decide), hf]; dsimp only; rw [hm, if_neg (by decide)]
theorem not_long {S : List ByteArray} (h : longW S = false) : S.length ≤ 1024 ∧ (∀ s ∈ S, s.size ≤ 1048576) ∧ (S.map ByteArray.size).sum ≤ 4194304 := by
  unfold longW at h
  simp only [Bool.or_eq_false_iff, decide_eq_false_iff_not, List.any_eq_false, decide_eq_true_eq] at h
  exact ⟨by omega, fun s hs => by have := h.2.1 s hs; omega, by omega⟩
theorem findV_form (u : ByteArray) : ∃ n r q, findV u = (rowV n r, q) ∧ ((q = true ∧ Vb.find u.toList = some r ∧ n = u) ∨ (q = false ∧ Vb.find u.toList = none)) := by
  unfold findV
  cases h : Vb.find u.toList with
  | none => exact ⟨_, _, _, rfl, .inr ⟨rfl, rfl⟩⟩
  | some r => exact ⟨_, _, _, rfl, .inl ⟨rfl, rfl, rfl⟩⟩
set_option maxRecDepth 100000 in
set_option maxHeartbeats 4000000 in
theorem check_any (so : Option Addr) (cap : Nat) (S : List ByteArray) (w : World) (hT : Wd w so S) (hl : S.length ≤ maxLen) : Calls Tryd.prog 13 #[.slice so S.length cap] w fun e w' => ChkE S e ∧ Below w.heap.size w w' := by
  obtain ⟨PP, hPP⟩ : ∃ PP : Ending → World → Prop, PP = fun e w' => ChkE S e ∧ Below w.heap.size w w' := ⟨_, rfl⟩
  rw [← hPP]
  have HP := keep hPP
  clear hPP
  have mL := keep (fun w (h : Wd w so S) => tooLong_any so cap S w h)
  have m63 : ((S.length : Nat) : Int) ≤ 9223372036854775807 := by unfold maxLen at hl; omega
  have h20 := heap_alloc_new w (.cells zeroC 23)
  have b20 : Below w.heap.size w (w.alloc (.cells zeroC 23)) := (Below.refl _ w).alloc (Nat.le_refl _) _
  cases S with
  | nil =>
    go_enter Tryd.func13, Tryd.ntmps13
    go_wp2_with fail
    refine bodyPost_ret (check_out w.heap.size _ 0 0 _ _ _ rfl rfl h20 rfl) rfl ?_
    rw [HP.out]
    exact ⟨rfl, b20⟩
  | cons s r =>
    have hT0 := hT
    obtain ⟨a, rfl, h2, h3, h4⟩ := hT 0 (by simp)
    have mF := keep (find_any s)
    obtain ⟨N, hN⟩ : ∃ N, (s :: r).length = N := ⟨_, rfl⟩
    have hN1 : 1 ≤ N := by rw [← hN]; simp
    rw [hN] at mL m63 ⊢
    have h4' : w.cell? a = some (.string s) := by rw [show a.add 0 = a from if_pos rfl] at h4; exact h4
    have k4 : (w.alloc (.cells zeroC 23)).cell? a = some (.string s) := (b20.cell h2).trans h4'
    have hN0 : ((N : Int) == 0) = false := by simp; omega
    have hN0' : ¬ N = 0 := by omega
    have hNp : (0 : Int) < (N : Int) := by omega
    have HTT := keep hT0
    have HN := keep hN
    have M63 := keep m63
    have K20 := keep h20
    have B20 := keep b20
    have K4 := keep k4
    clear hT hT0 hN h2 h3 hl m63 h20 b20 h4 h4' k4
    go_enter Tryd.func13, Tryd.ntmps13
    go_wp2_with fail
    refine (mL.out _ (HTT.out.below ((Below.refl _ w).alloc (Nat.le_refl _) _))).mono ?_
    rintro _ w2 ⟨rfl, hw2⟩
    have hw2' : w2 = w.alloc (.cells zeroC 23) := hw2
    have h20 : w2.heap[w.heap.size]? = some (.cells zeroC 23) := by rw [hw2']; exact K20.out
    have b20 : Below w.heap.size w w2 := by rw [hw2']; exact B20.out
    have k4 : w2.cell? a = some (.string s) := by rw [hw2']; exact K4.out
    have k4' : w2.cell? (a.add 0) = some (.string s) := by rw [show a.add 0 = a from if_pos rfl]; exact k4
    have H20 := keep h20
    have C20 := keep b20
    clear hw2 hw2' K20 B20 K4 b20
    cases hlg : longW (s :: r) with
    | true =>
      have HLG := keep hlg
      clear hlg
      have zc0 : w2.cell? ⟨w.heap.size, 0, none⟩ = some (.string ⟨#[]⟩) := by rw [cell_of_row _ _ _ _ _ _ h20]; rfl
      have zc1 : w2.cell? ⟨w.heap.size, 1, none⟩ = some (.int .i64 0) := by rw [cell_of_row _ _ _ _ _ _ h20]; rfl
      have zc2 : w2.cell? ⟨w.heap.size, 2, none⟩ = some (.int .i64 0) := by rw [cell_of_row _ _ _ _ _ _ h20]; rfl
      have zc3 : w2.cell? ⟨w.heap.size, 3, none⟩ = some (.int .i64 0) := by rw [cell_of_row _ _ _ _ _ _ h20]; rfl
      have zc4 : w2.cell? ⟨w.heap.size, 4, none⟩ = some (.int .i64 0) := by rw [cell_of_row _ _ _ _ _ _ h20]; rfl
      have zc5 : w2.cell? ⟨w.heap.size, 5, none⟩ = some (.int .i64 0) := by rw [cell_of_row _ _ _ _ _ _ h20]; rfl
      have zf0 : w2.frozen? ⟨w.heap.size, 0, none⟩ = false := frozen_of_row _ _ _ _ _ h20
      have zf1 : w2.frozen? ⟨w.heap.size, 1, none⟩ = false := frozen_of_row _ _ _ _ _ h20
      have zf2 : w2.frozen? ⟨w.heap.size, 2, none⟩ = false := frozen_of_row _ _ _ _ _ h20
      have zf3 : w2.frozen? ⟨w.heap.size, 3, none⟩ = false := frozen_of_row _ _ _ _ _ h20
      have zf4 : w2.frozen? ⟨w.heap.size, 4, none⟩ = false := frozen_of_row _ _ _ _ _ h20
      have zf5 : w2.frozen? ⟨w.heap.size, 5, none⟩ = false := frozen_of_row _ _ _ _ _ h20
      clear h20
      go_wp2_with fail
      refine bodyPost_ret (check_out w.heap.size _ 0 0 _ _ _ rfl rfl (six_set _ _ _ _ _ _ _ _ H20.out) rfl) rfl ?_
      rw [HP.out]
      exact ⟨by unfold ChkE; rw [chk_long HLG.out]; rfl, six_below C20.out _ (Nat.le_refl _) _ _ _ _ _ _⟩
    | false =>
      have HS3 := keep (show s.size ≤ 9223372036854775807 by have := (not_long hlg).2.1 s (by simp); omega)
      have HLG := keep hlg
      clear hlg h20
      go_wp2_with fail
      refine (mF.out _ HS3.out).mono ?_
      rintro _ w3 ⟨hE, hb3⟩
      obtain ⟨n, ⟨ra, rf, rx, ry, rz⟩, q, hV, hq⟩ := findV_form (Vb.up s)
      unfold FndE at hE
      rw [hV, row_form] at hE
      dsimp only at hE
      subst hE
      have h30 : w3.heap[w.heap.size]? = some (.cells zeroC 23) := (hb3.block _ (Array.getElem?_eq_some_iff.1 H20.out).1).trans H20.out
      have b30 : Below w.heap.size w w3 := C20.out.trans (hb3.mono C20.out.size)
      have hlt3 : w.heap.size < w3.heap.size := (Array.getElem?_eq_some_iff.1 h30).1
      have b40 : Below w.heap.size w (w3.alloc (.cells #[.string n, .int .i64 ra, .int .i64 rf, .int .i64 rx, .int .i64 ry, .int .i64 rz] 23)) := b30.alloc b30.size _
      have h40 : (w3.alloc (.cells #[.string n, .int .i64 ra, .int .i64 rf, .int .i64 rx, .int .i64 ry, .int .i64 rz] 23)).heap[w.heap.size]? = some (.cells zeroC 23) := (heap_alloc_old _ _ hlt3).trans h30
      have HQ := keep hq
      have H40 := keep h40
      have B40 := keep b40
      have LT3 := keep hlt3
      clear hb3 hV hq h30 b30 hlt3 b40 k4 k4'
      have HA : Kept (q = true → -1000 ≤ ra ∧ ra ≤ 1000) := fun hq => by
        rcases HQ.out with ⟨_, hf, _⟩ | ⟨h, _⟩
        · exact find_arity hf
        · rw [h] at hq; cases hq
      have mA := keep (asMany_any N ra)
      cases q with
      | false =>
        have zc0 : (w3.alloc (.cells #[.string n, .int .i64 ra, .int .i64 rf, .int .i64 rx, .int .i64 ry, .int .i64 rz] 23)).cell? ⟨w.heap.size, 0, none⟩ = some (.string ⟨#[]⟩) := by rw [cell_of_row _ _ _ _ _ _ h40]; rfl
        have zc1 : (w3.alloc (.cells #[.string n, .int .i64 ra, .int .i64 rf, .int .i64 rx, .int .i64 ry, .int .i64 rz] 23)).cell? ⟨w.heap.size, 1, none⟩ = some (.int .i64 0) := by rw [cell_of_row _ _ _ _ _ _ h40]; rfl
        have zc2 : (w3.alloc (.cells #[.string n, .int .i64 ra, .int .i64 rf, .int .i64 rx, .int .i64 ry, .int .i64 rz] 23)).cell? ⟨w.heap.size, 2, none⟩ = some (.int .i64 0) := by rw [cell_of_row _ _ _ _ _ _ h40]; rfl
        have zc3 : (w3.alloc (.cells #[.string n, .int .i64 ra, .int .i64 rf, .int .i64 rx, .int .i64 ry, .int .i64 rz] 23)).cell? ⟨w.heap.size, 3, none⟩ = some (.int .i64 0) := by rw [cell_of_row _ _ _ _ _ _ h40]; rfl
        have zc4 : (w3.alloc (.cells #[.string n, .int .i64 ra, .int .i64 rf, .int .i64 rx, .int .i64 ry, .int .i64 rz] 23)).cell? ⟨w.heap.size, 4, none⟩ = some (.int .i64 0) := by rw [cell_of_row _ _ _ _ _ _ h40]; rfl
        have zc5 : (w3.alloc (.cells #[.string n, .int .i64 ra, .int .i64 rf, .int .i64 rx, .int .i64 ry, .int .i64 rz] 23)).cell? ⟨w.heap.size, 5, none⟩ = some (.int .i64 0) := by rw [cell_of_row _ _ _ _ _ _ h40]; rfl
        have zf0 : (w3.alloc (.cells #[.string n, .int .i64 ra, .int .i64 rf, .int .i64 rx, .int .i64 ry, .int .i64 rz] 23)).frozen? ⟨w.heap.size, 0, none⟩ = false := frozen_of_row _ _ _ _ _ h40
        have zf1 : (w3.alloc (.cells #[.string n, .int .i64 ra, .int .i64 rf, .int .i64 rx, .int .i64 ry, .int .i64 rz] 23)).frozen? ⟨w.heap.size, 1, none⟩ = false := frozen_of_row _ _ _ _ _ h40
        have zf2 : (w3.alloc (.cells #[.string n, .int .i64 ra, .int .i64 rf, .int .i64 rx, .int .i64 ry, .int .i64 rz] 23)).frozen? ⟨w.heap.size, 2, none⟩ = false := frozen_of_row _ _ _ _ _ h40
        have zf3 : (w3.alloc (.cells #[.string n, .int .i64 ra, .int .i64 rf, .int .i64 rx, .int .i64 ry, .int .i64 rz] 23)).frozen? ⟨w.heap.size, 3, none⟩ = false := frozen_of_row _ _ _ _ _ h40
        have zf4 : (w3.alloc (.cells #[.string n, .int .i64 ra, .int .i64 rf, .int .i64 rx, .int .i64 ry, .int .i64 rz] 23)).frozen? ⟨w.heap.size, 4, none⟩ = false := frozen_of_row _ _ _ _ _ h40
        have zf5 : (w3.alloc (.cells #[.string n, .int .i64 ra, .int .i64 rf, .int .i64 rx, .int .i64 ry, .int .i64 rz] 23)).frozen? ⟨w.heap.size, 5, none⟩ = false := frozen_of_row _ _ _ _ _ h40
        clear h40
        go_wp2_with fail
        refine bodyPost_ret (check_out w.heap.size _ 0 0 _ _ _ rfl rfl (six_set _ _ _ _ _ _ _ _ H40.out) rfl) rfl ?_
        rw [HP.out]
        exact ⟨by
          have hf : Vb.find (Vb.up s).toList = none := by
            rcases HQ.out with ⟨h, _⟩ | ⟨_, h⟩
            · cases h
            · exact h
          unfold ChkE; rw [chk_none HLG.out hf]; rfl, six_below B40.out _ (Nat.le_refl _) _ _ _ _ _ _⟩
      | true =>
        have ha := HA.out rfl
        obtain ⟨ha1, ha2⟩ := ha
        have HA1 := keep ha1
        have HA2 := keep ha2
        clear ha1 ha2
        have h40' := h40
        clear h40
        go_wp2_with fail
        refine (mA.out _ HA1.out HA2.out).mono ?_
        rintro _ w5 ⟨rfl, hw5⟩
        have h40 : w5.heap[w.heap.size]? = some (.cells zeroC 23) := by rw [hw5]; exact h40'
        have b50 : Below w.heap.size w w5 := by rw [hw5]; exact B40.out
        have g50 : w5.heap[w3.heap.size]? = some (.cells #[.string n, .int .i64 ra, .int .i64 rf, .int .i64 rx, .int .i64 ry, .int .i64 rz] 23) := by rw [hw5]; exact heap_alloc_new _ _
        have zc0 : w5.cell? ⟨w.heap.size, 0, none⟩ = some (.string ⟨#[]⟩) := by rw [cell_of_row _ _ _ _ _ _ h40]; rfl
        have zc1 : w5.cell? ⟨w.heap.size, 1, none⟩ = some (.int .i64 0) := by rw [cell_of_row _ _ _ _ _ _ h40]; rfl
        have zc2 : w5.cell? ⟨w.heap.size, 2, none⟩ = some (.int .i64 0) := by rw [cell_of_row _ _ _ _ _ _ h40]; rfl
        have zc3 : w5.cell? ⟨w.heap.size, 3, none⟩ = some (.int .i64 0) := by rw [cell_of_row _ _ _ _ _ _ h40]; rfl
        have zc4 : w5.cell? ⟨w.heap.size, 4, none⟩ = some (.int .i64 0) := by rw [cell_of_row _ _ _ _ _ _ h40]; rfl
        have zc5 : w5.cell? ⟨w.heap.size, 5, none⟩ = some (.int .i64 0) := by rw [cell_of_row _ _ _ _ _ _ h40]; rfl
        have zf0 : w5.frozen? ⟨w.heap.size, 0, none⟩ = false := frozen_of_row _ _ _ _ _ h40
        have zf1 : w5.frozen? ⟨w.heap.size, 1, none⟩ = false := frozen_of_row _ _ _ _ _ h40
        have zf2 : w5.frozen? ⟨w.heap.size, 2, none⟩ = false := frozen_of_row _ _ _ _ _ h40
        have zf3 : w5.frozen? ⟨w.heap.size, 3, none⟩ = false := frozen_of_row _ _ _ _ _ h40
        have zf4 : w5.frozen? ⟨w.heap.size, 4, none⟩ = false := frozen_of_row _ _ _ _ _ h40
        have zf5 : w5.frozen? ⟨w.heap.size, 5, none⟩ = false := frozen_of_row _ _ _ _ _ h40
        have g0 : w5.cell? ⟨w3.heap.size, 0, none⟩ = some (.string n) := by rw [cell_of_row _ _ _ _ _ _ g50]; rfl
        have g1 : w5.cell? ⟨w3.heap.size, 1, none⟩ = some (.int .i64 ra) := by rw [cell_of_row _ _ _ _ _ _ g50]; rfl
        have g2 : w5.cell? ⟨w3.heap.size, 2, none⟩ = some (.int .i64 rf) := by rw [cell_of_row _ _ _ _ _ _ g50]; rfl
        have g3 : w5.cell? ⟨w3.heap.size, 3, none⟩ = some (.int .i64 rx) := by rw [cell_of_row _ _ _ _ _ _ g50]; rfl
        have g4 : w5.cell? ⟨w3.heap.size, 4, none⟩ = some (.int .i64 ry) := by rw [cell_of_row _ _ _ _ _ _ g50]; rfl
        have g5 : w5.cell? ⟨w3.heap.size, 5, none⟩ = some (.int .i64 rz) := by rw [cell_of_row _ _ _ _ _ _ g50]; rfl
        have H50 := keep h40
        have B50 := keep b50
        have HF : Kept (Vb.find (Vb.up s).toList = some (ra, rf, rx, ry, rz) ∧ n = Vb.up s) := by
          rcases HQ.out with ⟨_, h⟩ | ⟨h, _⟩
          · exact h
          · cases h
        clear hw5 h40 b50 g50 h40'
        cases hm : many N ra with
        | true =>
          have HM := keep hm
          clear hm
          go_wp2_with fail
          refine bodyPost_ret (check_out w.heap.size _ 0 0 _ _ _ rfl rfl (six_set _ _ _ _ _ _ _ _ H50.out) rfl) rfl ?_
          rw [HP.out]
          exact ⟨by unfold ChkE; rw [chk_ok HLG.out HF.out.1 (by rw [HN.out]; exact HM.out), HF.out.2]; rfl, six_below B50.out _ (Nat.le_refl _) _ _ _ _ _ _⟩
        | false =>
          have HM := keep hm
          clear hm g0 g1 g2 g3 g4 g5
          go_wp2_with fail
          refine bodyPost_ret (check_out w.heap.size _ 0 0 _ _ _ rfl rfl (six_set _ _ _ _ _ _ _ _ H50.out) rfl) rfl ?_
          rw [HP.out]
          exact ⟨by unfold ChkE; rw [chk_few HLG.out HF.out.1 (by rw [HN.out]; exact HM.out)]; rfl, six_below B50.out _ (Nat.le_refl _) _ _ _ _ _ _⟩
end Go.Proofs.YtaflggjgndkdlaaDoor
