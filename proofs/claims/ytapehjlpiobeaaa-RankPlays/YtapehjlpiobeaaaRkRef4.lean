/-
  Contracts over this program: Delete and Copy of the document's own ranks.
-/
import Derived.Test.YtapehjlpiobeaaaRkRef0
import Derived.Test.YtapehjlpiobeaaaRkStr0
/-
  Contracts over this program: Score, Cost, Rank of the document's own ranks.
-/
namespace Go.Proofs.Ytapehjlpiobeaaa
open Go.RowKit Go.Shelf
set_option linter.unusedVariables false
set_option linter.unusedSimpArgs false
set_option maxRecDepth 100000
theorem look_no {M : List Ent} {key : ByteArray} (h : ∀ e ∈ M, e.1 ≠ key) : Dc.look key M = none := (Dc.look_none key).2 (fun hm => by obtain ⟨e, he, hek⟩ := List.mem_map.1 hm; exact h e he hek)
theorem look_at {M : List Ent} (hn : (Dc.keys M).Nodup) {j : Nat} {key : ByteArray} {x : Nat} (h : M[j]? = some (key, x)) : Dc.look key M = some x := (Dc.look_mem hn key x).2 (List.mem_of_getElem? h)
theorem two_c0 {w : World} {b : Nat} {v0 v1 : Value} {t : TypeId} (h : w.heap[b]? = some (.cells #[v0, v1] t (0, 0))) : w.cell? ⟨b, 0, none⟩ = some v0 ∧ w.cell? ⟨b, 1, none⟩ = some v1 ∧ ∀ i, w.frozen? ⟨b, i, none⟩ = false := by
  refine ⟨?_, ?_, fun i => ?_⟩
  · simp [World.cell?, h]
  · simp [World.cell?, h]
  · simp [World.frozen?, h]
set_option maxHeartbeats 2000000 in
theorem rscore_any (w : World) (b : Nat) (v : Value) (M : List Ent) (key : ByteArray) (h : Rp w b v M) (hn : M.length ≤ 2000000) (hk : (Dc.keys M).Nodup) :
    Calls Try.prog 30 #[.pointer (some ⟨b, 0, none⟩), .string key] w fun e w' => e = .returned (got (Dc.look key M)) ∧ Below w.heap.size w w' := by
  have MX := keep (rat_any w b v M key h hn)
  have HK := keep hk
  have HP : Kept (∀ w2, Below w.heap.size w w2 → Rp w2 b v M) := fun w2 hb => h.bel hb
  obtain ⟨ao, cp, rfl, hao⟩ := h.2.1.form
  have HAO := keep hao
  obtain ⟨n, hln⟩ : ∃ n, M.length = n := ⟨_, rfl⟩
  rw [hln] at HP HAO
  have HL := keep hln
  clear h hn hk hao hln
  go_enter Try.func30, Try.ntmps30
  go_wp2_with fail
  refine MX.out.mono ?_
  rintro _ w2 ⟨⟨r, rfl, hf⟩, hb2⟩
  have B2 := keep hb2
  clear MX hb2
  rcases hf with ⟨rfl, hne⟩ | ⟨j, x, rfl, hj⟩
  · have hl := keep (look_no hne)
    clear hne
    go_wp2
    refine bodyPost_ret (results_tmp2 rfl _ _ _) rfl ?_
    exact ⟨by rw [hl.out]; rfl, B2.out⟩
  · have hjl := (List.getElem?_eq_some_iff.1 hj).1
    have hl := keep (look_at HK.out hj)
    obtain ⟨g, hg⟩ := HAO.out (by have := HL.out; omega)
    subst hg
    obtain ⟨oJ, hoJ⟩ : ∃ o, o = j * 2 := ⟨_, rfl⟩
    have rp := HP.out w2 B2.out
    obtain ⟨e0, e1⟩ := rp.2.1.at hj
    obtain ⟨k0, _⟩ := rp.cells
    rw [← hoJ] at e0 e1
    have hoJ' : j * 2 = oJ := hoJ.symm
    have j0 : (0 : Int) ≤ (j : Int) := by omega
    have j1 : (j : Int) < (n : Int) := by have := HL.out; omega
    have j2 : ¬ (j : Int) < 0 := by omega
    dsimp only at e0 e1
    clear rp hoJ hj hjl
    go_wp2
    refine bodyPost_ret (results_tmp2 rfl _ _ _) rfl ?_
    exact ⟨by rw [hl.out]; rfl, B2.out⟩
theorem rcst_snoc {M : List Ent} {i : Nat} {e : Ent} (h : M[i]? = some e) : rcst (M.take (i + 1)) = rcst (M.take i) + (40 + e.1.size) := by
  rw [List.take_add_one, h]
  simp [rcst]
set_option maxHeartbeats 2000000 in
theorem rcost_any (w : World) (b : Nat) (v : Value) (M : List Ent) (h : Rp w b v M) (hn : M.length ≤ 1048576) (hs : ∀ e ∈ M, e.1.size ≤ 1048576) :
    Calls Try.prog 35 #[.pointer (some ⟨b, 0, none⟩)] w fun e w' => e = .returned (.int .i64 ((rcst M : Nat) : Int)) ∧ Below w.heap.size w w' := by
  have sf : ∀ (x : Nat) (w : World) (a : Addr), (store a (.float .f64 x)).run Try.prog w = stored Try.prog w a (.float .f64 x) .plain := fun x w a => run_store _ w a _ _ rfl
  obtain ⟨k0, _⟩ := h.cells
  have HR := keep h
  obtain ⟨o, cp, rfl, hao⟩ := h.2.1.form
  obtain ⟨n, hln⟩ : ∃ n, M.length = n := ⟨_, rfl⟩
  have HL := keep hln
  rw [hln] at k0 hao hn HR
  have HAO := keep hao
  have HN := keep hn
  have HC : Kept (∀ i, rcst (M.take i) ≤ 1200000000000) := fun i => by
    have h1 := rcst_le (l := M.take i) (fun e he => hs e (List.mem_of_mem_take he))
    have h2 : (M.take i).length ≤ 1048576 := by rw [List.length_take]; omega
    omega
  have HQ : Kept (∀ w', Below w.heap.size w w' → (Ending.returned (.int .i64 ((rcst (M.take n) : Nat) : Int)) = .returned (.int .i64 ((rcst M : Nat) : Int)) ∧ Below w.heap.size w w')) := fun w' h2 => ⟨by rw [List.take_of_length_le (by omega)], h2⟩
  clear h hln hao hn hs
  go_enter Try.func35, Try.ntmps35
  go_wp2
  go_loopg [3, 13] n (fun kx s3 s13 wr => ∃ i : Nat, s13 = .int .i64 i ∧ i ≤ n ∧ n - i ≤ kx ∧ s3 = .int .i64 ((rcst (M.take i) : Nat) : Int) ∧ Kept (Below w.heap.size w wr))
  case atStart => exact ⟨0, rfl, Nat.zero_le _, by omega, rfl, Below.refl _ _⟩
  case round =>
    obtain ⟨i, rfl, hin, hg, rfl, BW⟩ := hrel
    by_cases hlt : i < n
    · obtain ⟨x, hx⟩ : ∃ x, M[i]? = some x := ⟨_, List.getElem?_eq_getElem (by have := HL.out; omega)⟩
      obtain ⟨g, hg'⟩ := HAO.out (by omega)
      subst hg'
      obtain ⟨oM, hoM⟩ : ∃ o, o = i * 2 := ⟨_, rfl⟩
      obtain ⟨e0, e1⟩ := (HR.out.bel BW.out).2.1.at hx
      rw [← hoM] at e0 e1
      have hoM' : i * 2 = oM := hoM.symm
      have i0 : (0 : Int) ≤ (i : Int) := by omega
      have i1 : (i : Int) < (n : Int) := by omega
      obtain ⟨D, hD⟩ : ∃ D, wr.heap.size = D := ⟨_, rfl⟩
      have hst := rcst_snoc hx
      have c1 := HC.out i
      have c2 := HC.out (i + 1)
      obtain ⟨x1, x2⟩ := x
      dsimp only at e0 e1 hst
      obtain ⟨W7, hW7⟩ : ∃ W7, wr.alloc (.cells #[.string x1, .float .f64 x2] 46) = W7 := ⟨_, rfl⟩
      have hb7 : Below wr.heap.size wr W7 := by rw [← hW7]; exact (Below.refl _ wr).alloc (Nat.le_refl _) _
      have f0 : W7.cell? ⟨D, 0, none⟩ = some (.string x1) := by rw [← hW7, ← hD]; simp
      have B7 := keep (Below.up BW.out hb7)
      obtain ⟨c, hc⟩ : ∃ c, rcst (M.take i) = c := ⟨_, rfl⟩
      rw [hc] at hst c1 ⊢
      have ST : Kept (rcst (M.take (i + 1)) = c + (40 + x1.size)) := hst
      have hw1 : IntKind.i64.wrap (40 + (x1.size : Int)) = 40 + (x1.size : Int) := by rw [IntKind.wrap_i64]; omega
      have hw2 : IntKind.i64.wrap ((c : Int) + (40 + (x1.size : Int))) = (c : Int) + (40 + (x1.size : Int)) := by rw [IntKind.wrap_i64]; omega
      have hwi : IntKind.i64.wrap ((i : Int) + 1) = (i : Int) + 1 := by have := HN.out; rw [IntKind.wrap_i64]; omega
      clear hx hoM hb7 hst c1 c2 hc
      go_wp2
      go_roundg (n - (i + 1))
      case measure => omega
      case rel => exact ⟨i + 1, by simp, by omega, Nat.le_refl _, by rw [ST.out]; first | rfl | (simp; done) | (congr 1; omega), B7.out⟩
    · obtain rfl : i = n := by omega
      have HF := keep (HQ.out _ BW.out)
      go_wp2
      go_ret
      exact HF.out
/-- what Rank answers -/
def rkA (M : List Ent) (key : ByteArray) : Value := match Dc.look key M with
  | none => .tuple #[.int .i64 0, .bool false]
  | some x => .tuple #[.int .i64 ((rnk M (key, x) : Nat) : Int), .bool true]
set_option maxHeartbeats 4000000 in
theorem rrank_any (w : World) (b : Nat) (v : Value) (M : List Ent) (key : ByteArray) (h : Rp w b v M) (hn : M.length ≤ 2000000) (hk : (Dc.keys M).Nodup) :
    Calls Try.prog 31 #[.pointer (some ⟨b, 0, none⟩), .string key] w fun e w' => e = .returned (rkA M key) ∧ Below w.heap.size w w' := by
  have sf : ∀ (x : Nat) (w : World) (a : Addr), (store a (.float .f64 x)).run Try.prog w = stored Try.prog w a (.float .f64 x) .plain := fun x w a => run_store _ w a _ _ rfl
  have MX := keep (rat_any w b v M key h hn)
  have HK := keep hk
  have HP : Kept (∀ w2, Below w.heap.size w w2 → Rp w2 b v M) := fun w2 hb => h.bel hb
  obtain ⟨ao, cp, rfl, hao⟩ := h.2.1.form
  have HAO := keep hao
  obtain ⟨n, hln⟩ : ∃ n, M.length = n := ⟨_, rfl⟩
  rw [hln] at HP HAO hn
  have HL := keep hln
  have HN := keep hn
  clear h hn hk hao hln
  go_enter Try.func31, Try.ntmps31
  go_wp2_with fail
  refine MX.out.mono ?_
  rintro _ w2 ⟨⟨r, rfl, hf⟩, hb2⟩
  have B2 := keep hb2
  clear MX hb2
  rcases hf with ⟨rfl, hne⟩ | ⟨j, x, rfl, hj⟩
  · have hl := keep (look_no hne)
    clear hne
    go_wp2
    refine bodyPost_ret (results_tmp2 rfl _ _ _) rfl ?_
    exact ⟨by unfold rkA; rw [hl.out]; rfl, B2.out⟩
  · have hjl := (List.getElem?_eq_some_iff.1 hj).1
    have hl := keep (look_at HK.out hj)
    obtain ⟨g, hg⟩ := HAO.out (by have := HL.out; omega)
    subst hg
    obtain ⟨oJ, hoJ⟩ : ∃ o, o = j * 2 := ⟨_, rfl⟩
    obtain ⟨k0, _⟩ := (HP.out w2 B2.out).cells
    have hoJ' : j * 2 = oJ := hoJ.symm
    have j0 : (0 : Int) ≤ (j : Int) := by omega
    have j1 : (j : Int) < (n : Int) := by have := HL.out; omega
    have j2 : ¬ (j : Int) < 0 := by omega
    have HJ : Kept (∀ w3, Below w.heap.size w w3 → w3.cell? ⟨b, 0, none⟩ = some (.slice (some ⟨g, 0, none⟩) n cp) ∧ w3.cell? ⟨g, oJ, none⟩ = some (.string key) ∧ w3.cell? ⟨g, oJ + 1, none⟩ = some (.float .f64 x)) := fun w3 hb => by
      have rp := HP.out w3 hb
      obtain ⟨e0, e1⟩ := rp.2.1.at hj
      rw [← hoJ] at e0 e1
      exact ⟨rp.cells.1, e0, e1⟩
    have HQ : Kept (∀ w', Below w.heap.size w w' → (Ending.returned (.tuple #[.int .i64 (((M.take n).countP (fun a => ahd a (key, x)) : Nat) : Int), .bool true]) = .returned (rkA M key) ∧ Below w.heap.size w w')) := fun w' h2 => ⟨by unfold rkA; rw [hl.out, List.take_of_length_le (by have := HL.out; omega)]; rfl, h2⟩
    clear hoJ hj hjl
    go_wp2
    go_loopg [7, 20] n (fun kx s7 s20 wr => ∃ i : Nat, s20 = .int .i64 i ∧ i ≤ n ∧ n - i ≤ kx ∧ s7 = .int .i64 (((M.take i).countP (fun a => ahd a (key, x)) : Nat) : Int) ∧ Kept (Below w.heap.size w wr))
    case atStart => exact ⟨0, rfl, Nat.zero_le _, by omega, rfl, B2.out⟩
    case round =>
      obtain ⟨i, rfl, hin, hg, rfl, BW⟩ := hrel
      by_cases hlt : i < n
      · obtain ⟨y, hy⟩ : ∃ y, M[i]? = some y := ⟨_, List.getElem?_eq_getElem (by have := HL.out; omega)⟩
        obtain ⟨oM, hoM⟩ : ∃ o, o = i * 2 := ⟨_, rfl⟩
        obtain ⟨e0, e1⟩ := (HP.out wr BW.out).2.1.at hy
        rw [← hoM] at e0 e1
        have hoM' : i * 2 = oM := hoM.symm
        have i0 : (0 : Int) ≤ (i : Int) := by omega
        have i1 : (i : Int) < (n : Int) := by omega
        have cst := count_take (f := fun a => ahd a (key, x)) hy
        have cle : (M.take i).countP (fun a => ahd a (key, x)) ≤ i := Nat.le_trans List.countP_le_length (by rw [List.length_take]; omega)
        obtain ⟨D, hD⟩ : ∃ D, wr.heap.size = D := ⟨_, rfl⟩
        obtain ⟨y1, y2⟩ := y
        dsimp only at e0 e1 cst
        obtain ⟨W7, hW7⟩ : ∃ W7, wr.alloc (.cells #[.string y1, .float .f64 y2] 46) = W7 := ⟨_, rfl⟩
        have hb7 : Below wr.heap.size wr W7 := by rw [← hW7]; exact (Below.refl _ wr).alloc (Nat.le_refl _) _
        have g7 : W7.heap[D]? = some (.cells #[.string y1, .float .f64 y2] 46 (0, 0)) := by rw [← hW7, ← hD]; exact heap_alloc_new _ _
        obtain ⟨f0, f1, _⟩ := two_c0 g7
        have B7 := keep (Below.up BW.out hb7)
        obtain ⟨c, hc⟩ : ∃ c, (M.take i).countP (fun a => ahd a (key, x)) = c := ⟨_, rfl⟩
        rw [hc] at cst cle ⊢
        have CST := keep cst
        have hwi : IntKind.i64.wrap ((i : Int) + 1) = (i : Int) + 1 := by have := HN.out; rw [IntKind.wrap_i64]; omega
        have hwc : IntKind.i64.wrap ((c : Int) + 1) = (c : Int) + 1 := by have := HN.out; rw [IntKind.wrap_i64]; omega
        obtain ⟨z0, z1, z2⟩ := HJ.out W7 B7.out
        have mS := rahead_any (y1, y2) (key, x) W7.drew
        unfold agE at mS
        dsimp only at mS
        have MS := keep mS
        have SL : Kept (W7.drew.cell? ⟨D, 0, none⟩ = some (.string y1) ∧ W7.drew.cell? ⟨D, 1, none⟩ = some (.float .f64 y2) ∧ W7.drew.cell? ⟨b, 0, none⟩ = some (.slice (some ⟨g, 0, none⟩) n cp) ∧ W7.drew.cell? ⟨g, oJ, none⟩ = some (.string key) ∧ W7.drew.cell? ⟨g, oJ + 1, none⟩ = some (.float .f64 x)) := ⟨f0, f1, z0, z1, z2⟩
        clear hy hoM hb7 g7 f0 f1 z0 z1 z2 mS cst cle hc
        cases hah : ahd (y1, y2) (key, x) <;> rw [hah] at MS CST
        all_goals
          clear hah
          go_wp2_with fail
          refine wp_region_held_drew (S := fun W => W.cell? ⟨D, 0, none⟩ = some (.string y1) ∧ W.cell? ⟨D, 1, none⟩ = some (.float .f64 y2) ∧ W.cell? ⟨b, 0, none⟩ = some (.slice (some ⟨g, 0, none⟩) n cp) ∧ W.cell? ⟨g, oJ, none⟩ = some (.string key) ∧ W.cell? ⟨g, oJ + 1, none⟩ = some (.float .f64 x)) (by kernel_rfl) SL.out (fun hHeld => ?_)
          refine wpAnyH_take (i := 0) (oi := { dst := some 24, op := _, type := _, pos := _, after := _, guard := _ }) (v := (.agg #[.string y1, .float .f64 y2])) rfl (by kernel_rfl) (by kernel_rfl) (by kernel_rfl) (fun _ _ _ h => h) (Or.inl ⟨by rfl, by intro w hSw; obtain ⟨p0,p1,p2,p3,p4⟩ := hSw; first | (go_simp; done) | (go_simp; simp [*]; done) | (simp [*]; go_simp; done)⟩) (by assumption) ?_
          try simp only [Act.put, List.setIfInBounds_toArray, List.set_cons_zero, List.set_cons_succ]
          refine wpAnyH_take (i := 1) (oi := { dst := some 25, op := _, type := _, pos := _, after := _, guard := _ }) (v := (.pointer (some ⟨b, 0, none⟩))) rfl (by kernel_rfl) (by kernel_rfl) (by kernel_rfl) (fun _ _ _ h => h) (Or.inl ⟨by rfl, by intro w hSw; obtain ⟨p0,p1,p2,p3,p4⟩ := hSw; first | (go_simp; done) | (go_simp; simp [*]; done) | (simp [*]; go_simp; done)⟩) (by assumption) ?_
          try simp only [Act.put, List.setIfInBounds_toArray, List.set_cons_zero, List.set_cons_succ]
          refine wpAnyH_take (i := 2) (oi := { dst := some 26, op := _, type := _, pos := _, after := _, guard := _ }) (v := (.pointer (some ⟨b, 0, none⟩))) rfl (by kernel_rfl) (by kernel_rfl) (by kernel_rfl) (fun _ _ _ h => h) (Or.inl ⟨by rfl, by intro w hSw; obtain ⟨p0,p1,p2,p3,p4⟩ := hSw; first | (go_simp; done) | (go_simp; simp [*]; done) | (simp [*]; go_simp; done)⟩) (by assumption) ?_
          try simp only [Act.put, List.setIfInBounds_toArray, List.set_cons_zero, List.set_cons_succ]
          refine wpAnyH_take (i := 3) (oi := { dst := some 27, op := _, type := _, pos := _, after := _, guard := _ }) (v := (.pointer (some ⟨b, 0, none⟩))) rfl (by kernel_rfl) (by kernel_rfl) (by kernel_rfl) (fun _ _ _ h => h) (Or.inl ⟨by rfl, by intro w hSw; obtain ⟨p0,p1,p2,p3,p4⟩ := hSw; first | (go_simp; done) | (go_simp; simp [*]; done) | (simp [*]; go_simp; done)⟩) (by assumption) ?_
          try simp only [Act.put, List.setIfInBounds_toArray, List.set_cons_zero, List.set_cons_succ]
          refine wpAnyH_take (i := 4) (oi := { dst := some 28, op := _, type := _, pos := _, after := _, guard := _ }) (v := (.slice (some ⟨g, 0, none⟩) n cp)) rfl (by kernel_rfl) (by kernel_rfl) (by kernel_rfl) (fun _ _ _ h => h) (Or.inl ⟨by rfl, by intro w hSw; obtain ⟨p0,p1,p2,p3,p4⟩ := hSw; first | (go_simp; done) | (go_simp; simp [*]; done) | (simp [*]; go_simp; done)⟩) (by assumption) ?_
          try simp only [Act.put, List.setIfInBounds_toArray, List.set_cons_zero, List.set_cons_succ]
          refine wpAnyH_take (i := 5) (oi := { dst := some 29, op := _, type := _, pos := _, after := _, guard := _ }) (v := (.int .i64 (j : Int))) rfl (by kernel_rfl) (by kernel_rfl) (by kernel_rfl) (fun _ _ _ h => h) (Or.inl ⟨by rfl, by intro w hSw; obtain ⟨p0,p1,p2,p3,p4⟩ := hSw; first | (go_simp; done) | (go_simp; simp [*]; done) | (simp [*]; go_simp; done)⟩) (by assumption) ?_
          try simp only [Act.put, List.setIfInBounds_toArray, List.set_cons_zero, List.set_cons_succ]
          refine wpAnyH_take (i := 6) (oi := { dst := some 30, op := _, type := _, pos := _, after := _, guard := _ }) (v := (.pointer (some ⟨g, oJ, none⟩))) rfl (by kernel_rfl) (by kernel_rfl) (by kernel_rfl) (fun _ _ _ h => h) (Or.inl ⟨by rfl, by intro w hSw; obtain ⟨p0,p1,p2,p3,p4⟩ := hSw; first | (go_simp; done) | (go_simp; simp [*]; done) | (simp [*]; go_simp; done)⟩) (by assumption) ?_
          try simp only [Act.put, List.setIfInBounds_toArray, List.set_cons_zero, List.set_cons_succ]
          refine wpAnyH_take (i := 7) (oi := { dst := some 31, op := _, type := _, pos := _, after := _, guard := _ }) (v := (.agg #[.string key, .float .f64 x])) rfl (by kernel_rfl) (by kernel_rfl) (by kernel_rfl) (fun _ _ _ h => h) (Or.inl ⟨by rfl, by intro w hSw; obtain ⟨p0,p1,p2,p3,p4⟩ := hSw; first | (go_simp; done) | (go_simp; simp [*]; done) | (simp [*]; go_simp; done)⟩) (by assumption) ?_
          try simp only [Act.put, List.setIfInBounds_toArray, List.set_cons_zero, List.set_cons_succ]
          refine wpAnyH_ready (rs := [8]) (by kernel_rfl) (by simp) ?_
          refine AllReadyH.cons (o := { dst := some 32, op := _, type := _, pos := _, after := _, guard := _ }) rfl (fun K hK => ?_) AllReadyH.nil
          go_simp
          refine MS.out.mono ?_
          rintro _ w8 ⟨rfl, hb8⟩
          have nu8 : ∀ {a : Addr} {u : Value}, W7.drew.cell? a = some u → w8.cell? a = some u := fun {a u} h => (hb8.cell (p := a) (World.block_lt_of_cell? _ _ h)).trans h
          have B8 : Kept (Below w.heap.size w w8) := Below.up B7.out ((Below.refl _ W7).drew.trans hb8)
          refine hK.out _ _ ⟨nu8 SL.out.1, nu8 SL.out.2.1, nu8 SL.out.2.2.1, nu8 SL.out.2.2.2.1, nu8 SL.out.2.2.2.2⟩ (fun hHeld => ?_)
          try simp only [Act.put, List.setIfInBounds_toArray, List.set_cons_zero, List.set_cons_succ]
          clear hK hb8 nu8 MS
          refine wpAnyH_done (by kernel_rfl) ?_ _
          clear hHeld
          go_wp2
          go_roundg (n - (i + 1))
          case measure => omega
          case rel => exact ⟨i + 1, by simp, by omega, Nat.le_refl _, by rw [CST.out]; simp, B8.out⟩
      · obtain rfl : i = n := by omega
        have HF := keep (HQ.out _ BW.out)
        go_wp2
        refine bodyPost_ret (results_tmp2 rfl _ _ _) rfl ?_
        exact HF.out
end Go.Proofs.Ytapehjlpiobeaaa

/-
  Contracts over this program: Set, Delete, Copy of the document's own ranks.
-/
namespace Go.Proofs.Ytapehjlpiobeaaa
open Go.RowKit Go.Shelf
set_option linter.unusedVariables false
set_option linter.unusedSimpArgs false
set_option maxRecDepth 100000
theorem Rn.bel {w w' : World} {v : Value} {M : List Ent} (h : Rn w v M) (hb : Below w.heap.size w w') : Rn w' v M := h.kept (fun k hk => hb.block k (own_lt h hk))
/-- a row of one's own, made since w0 -/
def Mine (w0 w : World) (u : Value) (l : List Ent) : Prop := Rn w u l ∧ (∀ k, u.ownBlock = some k → w0.heap.size ≤ k) ∧ Below w0.heap.size w0 w
/-- some are laid behind a row of one's own -/
theorem mine_cat {w0 w : World} {u : Value} {l l2 : List Ent} {ad : Addr} {m c : Nat} (h : Mine w0 w u l) (hm : l2.length = m) (hs : ∀ j x, (enR l2)[j]? = some x → w.cell? (ad.add j) = some x) (hn : (l.length + l2.length) * 24 ≤ 140737488355328) :
    ∃ v' w', (Builtin.append_ #[41, 41] 41 #[u, .slice (some ad) m c]).run Try.prog w = .ok v' w' ∧ Mine w0 w' v' (l ++ l2) ∧ w.grownBy w' u.ownBlock := by
  obtain ⟨i0, hi0, hz0, hz1, hz2⟩ := info_parts info_rk
  have uT := Try.underlying41
  subst hm
  obtain ⟨v', W, r1, r2, r3, r4, r5⟩ := run_append_own_at (P := Try.prog) w 0 41 41 46 i0 _ 2 24 uT hi0 hz0 hz1 hz2 (by simp [Value.cells]) (by decide) u l.length (enR l) h.1 ad l2.length c (enR l2) (enR_len l2) hs enR_one (by unfold maxLen; omega) hn (Nat.zero_le _)
  refine ⟨v', W, r1, ⟨?_, ?_, ?_⟩, r3⟩
  · unfold Rn
    rw [List.length_append, enR_app]
    exact r2
  · intro k hk
    rcases r5 with e | e
    · exact h.2.1 k (by rw [← e]; exact hk)
    · rw [e] at hk; cases hk; exact h.2.2.size
  · exact h.2.2.grown r3 h.2.2.size h.2.1
theorem mine0 (w : World) : Mine w w (.slice none 0 0) [] := ⟨⟨rfl, .inl ⟨rfl, rfl⟩⟩, fun k hk => (by cases hk), Below.refl _ _⟩
/-- one's own copy of a whole row -/
theorem mine_all {w0 w : World} {lv : Value} {M : List Ent} (hb : Below w0.heap.size w0 w) (h : Rn w lv M) (hn : M.length ≤ 2000000) :
    ∃ v' w', (Builtin.append_ #[41, 41] 41 #[.slice none 0 0, lv]).run Try.prog w = .ok v' w' ∧ Mine w0 w' v' M ∧ w.grownBy w' none := by
  rcases h.2 with ⟨e1, e2⟩ | ⟨g, cap, cur, e1, e2, e3, rest⟩
  · obtain ⟨i0, hi0, hz0, hz1, hz2⟩ := info_parts info_rk
    have uT := Try.underlying41
    have hM : M = [] := List.length_eq_zero_iff.1 e2
    subst hM e1
    refine ⟨.slice none 0 0, w, ?_, ⟨⟨rfl, .inl ⟨rfl, rfl⟩⟩, fun k hk => (by cases hk), hb⟩, ⟨rfl, rfl, rfl, Nat.le_refl _, fun _ _ _ => rfl⟩⟩
    have hf : (Builtin.firstCells 2 0 (.slice none 0 0)).run Try.prog w = .ok #[] w := run_firstCells_none (P := Try.prog) w _ _ _ _
    simp [Builtin.append_, run_underlying uT, hi0, typeInfo, Builtin.lenOf, hf, hz1]
    try rfl
  · subst e1
    have hm0 : Mine w0 w (.slice none 0 0) [] := ⟨⟨rfl, .inl ⟨rfl, rfl⟩⟩, fun k hk => (by cases hk), hb⟩
    obtain ⟨v', w', r1, r2, r3⟩ := mine_cat (ad := ⟨g, 0, none⟩) (m := M.length) (c := cap) (l2 := M) hm0 rfl (fun j x hj => World.ownsRow.cells h (g := g) rfl j x hj) (by simp only [List.length_nil]; omega)
    exact ⟨v', w', r1, r2, r3⟩
theorem mine_slice {w0 w : World} {u : Value} {l : List Ent} (h : Mine w0 w u l) : ∃ o n c, u = .slice o n c := by
  obtain ⟨o, c, e, _⟩ := h.1.form
  exact ⟨o, _, c, e⟩
theorem cellsSet {w : World} {b i : Nat} {cur : Array Value} {t : TypeId} {fr : Nat × Nat} {u : Value} (h : w.heap[b]? = some (.cells cur t fr)) : (w.setCell ⟨b, i, none⟩ u).heap[b]? = some (.cells (cur.setIfInBounds i u) t fr) := by
  have hlt := (Array.getElem?_eq_some_iff.1 h).1
  simp [World.setCell, Array.getElem?_modify, h]
set_option maxHeartbeats 1000000 in
/-- one block of one cell is written -/
theorem one_set {w W : World} {b : Nat} {v u : Value} {t : TypeId} (h : w.heap[b]? = some (.cells #[v] t (0, 0))) (hW : w.setCell ⟨b, 0, none⟩ u = W) : W.heap[b]? = some (.cells #[u] t (0, 0)) ∧ Only b w W := by
  refine ⟨?_, ?_⟩
  · rw [← hW]; exact cellsSet h
  · rw [← hW]; exact (Only.refl b w).setCell 0 _
theorem rset_long {w : World} {b : Nat} (key : ByteArray) (x : Nat) (hk : 1048576 < key.size) :
    Calls Try.prog 25 #[.pointer (some ⟨b, 0, none⟩), .string key, .float .f64 x] w fun e w' => e = .returned (.tuple #[.bool false, .int .i64 2]) ∧ w' = w := by
  have h1 : decide ((1048576 : Int) < (key.size : Int)) = true := decide_eq_true (by omega)
  have h2 : (1048576 : Int) < (key.size : Int) := by omega
  clear hk
  go_enter Try.func25, Try.ntmps25
  go_wp2
  refine bodyPost_ret (results_tmp2 rfl _ _ _) rfl ?_
  exact ⟨rfl, rfl⟩
theorem rset_nan {w : World} {b : Nat} (key : ByteArray) (x : Nat) (hk : key.size ≤ 1048576) (hx : isNan x = true) :
    Calls Try.prog 25 #[.pointer (some ⟨b, 0, none⟩), .string key, .float .f64 x] w fun e w' => e = .returned (.tuple #[.bool false, .int .i64 20]) ∧ w' = w := by
  have h1 : decide ((1048576 : Int) < (key.size : Int)) = false := decide_eq_false (by omega)
  have h2 : ¬ (1048576 : Int) < (key.size : Int) := by omega
  have ox : FloatKind.f64.format.order x x = none := order_of_nan (Or.inl hx)
  clear hk hx
  go_enter Try.func25, Try.ntmps25
  go_wp2
  refine bodyPost_ret (results_tmp2 rfl _ _ _) rfl ?_
  exact ⟨rfl, rfl⟩
/-- what Set of the document's own ranks makes of the list, and what it answers -/
def rsL (M : List Ent) (key : ByteArray) (x : Nat) : Option (Nat × Nat) → List Ent × Value
  | none => if 1048576 ≤ M.length then (M, .tuple #[.bool false, .int .i64 4]) else (M ++ [(key, x)], .tuple #[.bool true, .int .i64 0])
  | some (j, was) => (if feq was x then M else M.set j (key, x), .tuple #[.bool false, .int .i64 0])
def AtO (M : List Ent) (key : ByteArray) : Option (Nat × Nat) → Prop
  | none => ∀ e ∈ M, e.1 ≠ key
  | some (j, was) => M[j]? = some (key, was)
theorem rn_set {w : World} {g n cp k : Nat} {M : List Ent} {key : ByteArray} {x was : Nat} (h : Rn w (.slice (some ⟨g, 0, none⟩) n cp) M) (hn : M.length = n) (hk : M[k]? = some (key, was)) :
    Rn (w.setCell ⟨g, k * 2 + 1, none⟩ (.float .f64 x)) (.slice (some ⟨g, 0, none⟩) n cp) (M.set k (key, x)) ∧ ∀ i, w.frozen? ⟨g, i, none⟩ = false := by
  have hkl := (List.getElem?_eq_some_iff.1 hk).1
  unfold Rn at h ⊢
  rw [hn] at h
  obtain ⟨cur, hcur, hcc, hcm, hsz, htk, hxl⟩ := own_cur h
  refine ⟨?_, fun i => by simp [World.frozen?, hcur]⟩
  rw [List.length_set, hn]
  refine own_of (cellsSet hcur) hcc hcm (by simp [hsz]) ?_ (by rw [enR_len, List.length_set, hn])
  have hsame : (enR M).set (k * 2) (.string key) = enR M := by
    refine List.ext_getElem? (fun t => ?_)
    rw [List.getElem?_set]
    by_cases e : k * 2 = t
    · subst e
      have h1 := (enR_at hk).1
      rw [if_pos rfl, if_pos (List.getElem?_eq_some_iff.1 h1).1, h1]
    · rw [if_neg e]
  rw [← set_two hk, hsame, ← htk]
  simp [Array.toList_setIfInBounds, List.take_set]
set_option maxHeartbeats 8000000 in
theorem rset_any (w : World) (b : Nat) (v : Value) (M : List Ent) (key : ByteArray) (x : Nat) (h : Rp w b v M) (hn : M.length ≤ 1048576) (hk : key.size ≤ 1048576) (hx : isNan x = false) (hm : ∀ e ∈ M, isNan e.2 = false) :
    Calls Try.prog 25 #[.pointer (some ⟨b, 0, none⟩), .string key, .float .f64 x] w fun e w' => ∃ o, AtO M key o ∧ Rid w b v (rsL M key x o).1 (rsL M key x o).2 e w' := by
  have sf : ∀ (x : Nat) (w : World) (a : Addr), (store a (.float .f64 x)).run Try.prog w = stored Try.prog w a (.float .f64 x) .plain := fun x w a => run_store _ w a _ _ rfl
  have h1 : decide ((1048576 : Int) < (key.size : Int)) = false := decide_eq_false (by omega)
  have h2 : ¬ (1048576 : Int) < (key.size : Int) := by omega
  have ox : FloatKind.f64.format.order x x = some .eq := order_self hx
  have MX := keep (rat_any w b v M key h (by omega))
  have HP : Kept (∀ w2, Below w.heap.size w w2 → Rp w2 b v M ∧ Fm (rbl b v) w (rbl b v) w2) := fun w2 hb => ⟨h.bel hb, Fm.below hb⟩
  have HBL : Kept (b < w.heap.size) := h.lt b (by simp [rbl])
  have HX := keep hx
  have HM := keep hm
  obtain ⟨ao, cp, rfl, hao⟩ := h.2.1.form
  have HAO := keep hao
  obtain ⟨n, hln⟩ : ∃ n, M.length = n := ⟨_, rfl⟩
  rw [hln] at HP HAO hn
  have HL := keep hln
  have HN := keep hn
  have HQ : Kept (∀ o e w', AtO M key o → Rid w b (.slice ao n cp) (rsL M key x o).1 (rsL M key x o).2 e w' → ∃ o, AtO M key o ∧ Rid w b (.slice ao n cp) (rsL M key x o).1 (rsL M key x o).2 e w') := fun o e w' h1 h2 => ⟨o, h1, h2⟩
  rw [hln]
  clear h hn hk hx hm hao hln
  generalize hQd : (fun e w' => ∃ o, AtO M key o ∧ Rid w b (.slice ao n cp) (rsL M key x o).1 (rsL M key x o).2 e w') = Q
  have HQ' : Kept (∀ o e w', AtO M key o → Rid w b (.slice ao n cp) (rsL M key x o).1 (rsL M key x o).2 e w' → Q e w') := by rw [← hQd]; exact HQ
  clear hQd HQ
  go_enter Try.func25, Try.ntmps25
  go_wp2_with fail
  refine MX.out.mono ?_
  rintro _ w2 ⟨⟨r, rfl, hf⟩, hb2⟩
  obtain ⟨rp2, f2⟩ := HP.out w2 hb2
  have B2 := keep hb2
  have R2 := keep rp2
  have F2 := keep f2
  obtain ⟨k0, kz⟩ := rp2.cells
  clear MX hb2 HP rp2 f2
  rcases hf with ⟨rfl, hne⟩ | ⟨j, was, rfl, hj⟩
  · have HNE := keep hne
    clear hne
    by_cases hfull : 1048576 ≤ n
    · have hfi : (1048576 : Int) ≤ (n : Int) := by omega
      have hfd : decide ((1048576 : Int) ≤ (n : Int)) = true := decide_eq_true hfi
      have HD : Kept (Q (.returned (.tuple #[.bool false, .int .i64 4])) w2) := HQ'.out none _ _ HNE.out (by
        unfold rsL; rw [if_pos (by rw [HL.out]; exact hfull)]
        exact ⟨rfl, _, R2.out, F2.out⟩)
      clear kz
      go_wp2
      first | exact HD.out | (refine bodyPost_ret (results_tmp2 rfl _ _ _) rfl ?_; exact HD.out)
    · have hfi : ¬ (1048576 : Int) ≤ (n : Int) := by omega
      have hfd : decide ((1048576 : Int) ≤ (n : Int)) = false := decide_eq_false hfi
      obtain ⟨W3, hW3⟩ : ∃ W3, w2.alloc (.cells #[.string key, .float .f64 x] 46) = W3 := ⟨_, rfl⟩
      have hb3 : Below w2.heap.size w2 W3 := by rw [← hW3]; exact (Below.refl _ w2).alloc (Nat.le_refl _) _
      have g3 : W3.heap[w2.heap.size]? = some (.cells #[.string key, .float .f64 x] 46 (0, 0)) := by rw [← hW3]; exact heap_alloc_new _ _
      have hs3 : W3.heap.size = w2.heap.size + 1 := by rw [← hW3]; simp
      have r3 := R2.out.bel hb3
      obtain ⟨i0, hi0, hz0, hz1, hz2⟩ := info_parts info_rk
      have uT := Try.underlying41
      obtain ⟨v4, W4, a1, a2, a3, a4, a5⟩ := run_append_own_at (P := Try.prog) W3 0 41 41 46 i0 _ 2 24 uT hi0 hz0 hz1 hz2 (by simp [Value.cells]) (by decide) (.slice ao n cp) M.length (enR M) r3.2.1 ⟨w2.heap.size, 0, none⟩ 1 1 (mc key x) rfl (mc_cell g3) mc_one (by have := HL.out; have := HN.out; unfold maxLen; omega) (by have := HL.out; have := HN.out; omega) (Nat.zero_le _)
      have hr4 : Rn W4 v4 (M ++ [(key, x)]) := by unfold Rn; rw [List.length_append, enR_app]; exact a2
      obtain ⟨bo, bc, hv4, _⟩ := hr4.form
      obtain ⟨bn, hbn⟩ : ∃ m, (M ++ [(key, x)]).length = m := ⟨_, rfl⟩
      rw [hbn] at hv4
      subst hv4
      have hb4 : W4.heap[b]? = some (.cells #[.slice ao n cp] 65 (0, 0)) := (a3.block b (r3.lt b (by simp [rbl])) (fun e => r3.2.2 e.symm)).trans r3.1
      obtain ⟨W5, hW5⟩ : ∃ W5, W4.setCell ⟨b, 0, none⟩ (.slice bo bn bc) = W5 := ⟨_, rfl⟩
      obtain ⟨g5, o5⟩ := one_set hb4 hW5
      have vb4 : (Value.slice bo bn bc).ownBlock ≠ some b := by
        rcases a5 with e | e
        · rw [e]; exact r3.2.2
        · rw [e]; intro e'; injection e' with e'; have hlt := r3.lt b (by simp [rbl]); omega
      have k4 : W4.cell? ⟨b, 0, none⟩ = some (.slice ao n cp) := by simp [World.cell?, hb4]
      have z4 : ∀ i, W4.frozen? ⟨b, i, none⟩ = false := fun i => by simp [World.frozen?, hb4]
      have k3 := r3.cells.1
      have HD : Kept (Q (.returned (.tuple #[.bool true, .int .i64 0])) W5) := HQ'.out none _ _ HNE.out (by
        unfold rsL; rw [if_neg (by rw [HL.out]; exact hfull)]
        refine ⟨rfl, .slice bo bn bc, ⟨g5, hr4.kept (fun k hk => o5.2.2 k (fun e => vb4 (by rw [hk, e]))), vb4⟩, (F2.out.trans (Fm.below hb3)).trans ?_⟩
        refine ⟨⟨o5.1.1.trans a3.os, o5.1.2.1.trans a3.tape, o5.1.2.2.trans a3.output⟩, by rw [o5.2.1]; exact a3.size, fun k hk hnm => ?_⟩
        have h1 : k ≠ b := fun e => hnm (by rw [e]; simp [rbl])
        have h2 : some k ≠ (Value.slice ao n cp).ownBlock := fun e => hnm (by simp [rbl, ← e])
        refine ⟨(o5.2.2 k h1).trans (a3.block k hk h2), fun hk' => ?_⟩
        rcases List.mem_cons.1 hk' with e | hk'
        · exact h1 e
        · rcases a5 with e | e
          · rw [e] at hk'; exact h2 (Eq.symm (by simpa using hk'))
          · rw [e] at hk'
            have : k = W3.heap.size := by simpa using hk'
            omega)
      have A1 := keep a1
      clear hb3 g3 hs3 r3 a1 a2 a3 a4 a5 hr4 hbn hb4 g5 o5 vb4 hi0 hz0 hz1 hz2 uT i0
      go_wp2_with (at_builtin; refine wpList_app_run rfl _ _ _ _ rfl _ _ _ rfl rfl A1.out ?_)
      first | exact HD.out | (refine bodyPost_ret (results_tmp2 rfl _ _ _) rfl ?_; exact HD.out)
  · have hjl := (List.getElem?_eq_some_iff.1 hj).1
    obtain ⟨g, hg⟩ := HAO.out (by have := HL.out; omega)
    subst hg
    obtain ⟨oJ, hoJ⟩ : ∃ o, o = j * 2 := ⟨_, rfl⟩
    obtain ⟨e0, e1⟩ := R2.out.2.1.at hj
    obtain ⟨s1, tz⟩ := rn_set (x := x) R2.out.2.1 HL.out hj
    rw [← hoJ] at e0 e1 s1
    have hoJ' : j * 2 = oJ := hoJ.symm
    have j0 : (0 : Int) ≤ (j : Int) := by omega
    have j1 : (j : Int) < (n : Int) := by have := HL.out; omega
    have j2 : ¬ (j : Int) < 0 := by omega
    have hwas := HM.out _ (List.mem_of_getElem? hj)
    have HJ := keep hj
    dsimp only at e0 e1 hwas
    obtain ⟨W5, hW5⟩ : ∃ W5, w2.setCell ⟨g, oJ + 1, none⟩ (.float .f64 x) = W5 := ⟨_, rfl⟩
    rw [hW5] at s1
    have o5 : Only g w2 W5 := by rw [← hW5]; exact (Only.refl g w2).setCell _ _
    cases hq : feq was x with
    | true =>
      have ow : FloatKind.f64.format.order was x = some .eq := by unfold feq at hq; exact of_decide_eq_true hq
      have HD : Kept (Q (.returned (.tuple #[.bool false, .int .i64 0])) w2) := HQ'.out (some (j, was)) _ _ HJ.out (by
        simp only [rsL, hq, if_true]
        exact ⟨rfl, _, R2.out, F2.out⟩)
      clear hoJ hj hjl hwas hq s1 tz o5 hW5 kz
      go_wp2
      first | exact HD.out | (refine bodyPost_ret (results_tmp2 rfl _ _ _) rfl ?_; exact HD.out)
    | false =>
      have ow := feq_not hwas HX.out hq
      have hbg : b ≠ g := fun e => R2.out.2.2 (by rw [e]; rfl)
      have HD : Kept (Q (.returned (.tuple #[.bool false, .int .i64 0])) W5) := HQ'.out (some (j, was)) _ _ HJ.out (by
        simp only [rsL, hq, Bool.false_eq_true, if_false]
        refine ⟨rfl, _, ⟨(o5.2.2 b hbg).trans R2.out.1, s1, R2.out.2.2⟩, F2.out.trans ?_⟩
        exact ⟨o5.1, by rw [o5.2.1]; exact Nat.le_refl _, fun k hk hnm => ⟨o5.2.2 k (fun e => hnm (by rw [e]; simp [rbl, Value.ownBlock])), hnm⟩⟩)
      clear hoJ hj hjl hwas hq s1 o5 kz hbg
      rcases ow with ow | ow
      all_goals
        go_wp2
        first | exact HD.out | (refine bodyPost_ret (results_tmp2 rfl _ _ _) rfl ?_; exact HD.out)
end Go.Proofs.Ytapehjlpiobeaaa

namespace Go.Proofs.Ytapehjlpiobeaaa
open Go.RowKit Go.Shelf
set_option linter.unusedVariables false
set_option linter.unusedSimpArgs false
set_option maxRecDepth 100000
/-- what Delete of the document's own ranks makes of the list, and what it answers -/
def rdL (M : List Ent) : Option (Nat × Nat) → List Ent × Value
  | none => (M, .bool false)
  | some (j, _) => (M.take j ++ M.drop (j + 1), .bool true)
set_option maxHeartbeats 4000000 in
theorem rdel_any (w : World) (b : Nat) (v : Value) (M : List Ent) (key : ByteArray) (h : Rp w b v M) (hn : M.length ≤ 1048576) :
    Calls Try.prog 28 #[.pointer (some ⟨b, 0, none⟩), .string key] w fun e w' => ∃ o, AtO M key o ∧ Rid w b v (rdL M o).1 (rdL M o).2 e w' := by
  have MX := keep (rat_any w b v M key h (by omega))
  have HP : Kept (∀ w2, Below w.heap.size w w2 → Rp w2 b v M ∧ Fm (rbl b v) w (rbl b v) w2) := fun w2 hb => ⟨h.bel hb, Fm.below hb⟩
  have HBL : Kept (b < w.heap.size) := h.lt b (by simp [rbl])
  obtain ⟨ao, cp, rfl, hao⟩ := h.2.1.form
  have HCP : Kept (∀ g, ao = some ⟨g, 0, none⟩ → M.length ≤ cp) := fun g e => by
    subst e
    rcases h.2.1.2 with ⟨e1, _⟩ | ⟨g', c', cur', e1, _, _, e4, _⟩
    · cases e1
    · cases e1; exact e4
  have HAO := keep hao
  obtain ⟨n, hln⟩ : ∃ n, M.length = n := ⟨_, rfl⟩
  rw [hln] at HP HAO hn HCP
  have HL := keep hln
  have HN := keep hn
  rw [hln]
  have HQ : Kept (∀ o e w', AtO M key o → Rid w b (.slice ao n cp) (rdL M o).1 (rdL M o).2 e w' → ∃ o, AtO M key o ∧ Rid w b (.slice ao n cp) (rdL M o).1 (rdL M o).2 e w') := fun o e w' h1 h2 => ⟨o, h1, h2⟩
  generalize hQd : (fun e w' => ∃ o, AtO M key o ∧ Rid w b (.slice ao n cp) (rdL M o).1 (rdL M o).2 e w') = Q
  have HQ' : Kept (∀ o e w', AtO M key o → Rid w b (.slice ao n cp) (rdL M o).1 (rdL M o).2 e w' → Q e w') := by rw [← hQd]; exact HQ
  clear hQd HQ h hn hao hln
  go_enter Try.func28, Try.ntmps28
  go_wp2_with fail
  refine MX.out.mono ?_
  rintro _ w2 ⟨⟨r, rfl, hf⟩, hb2⟩
  obtain ⟨rp2, f2⟩ := HP.out w2 hb2
  have B2 := keep hb2
  have R2 := keep rp2
  have F2 := keep f2
  obtain ⟨k0, kz⟩ := rp2.cells
  clear MX hb2 HP rp2 f2
  rcases hf with ⟨rfl, hne⟩ | ⟨p, x, rfl, hp⟩
  · have HD : Kept (Q (.returned (.bool false)) w2) := HQ'.out none _ _ hne ⟨rfl, _, R2.out, F2.out⟩
    clear hne kz
    go_wp2
    first | exact HD.out | (go_ret; exact HD.out)
  · obtain ⟨i0, hi0, hz0, hz1, hz2⟩ := info_parts info_rk
    have uT := Try.underlying41
    have hpl := (List.getElem?_eq_some_iff.1 hp).1
    have HJ := keep hp
    have hln := HL.out
    obtain ⟨g, hg⟩ := HAO.out (by omega)
    subst hg
    have hcp := HCP.out g rfl
    have hs1 : ∀ w, (Instr.slice 41 (.slice (some ⟨g, 0, none⟩) n cp) none (some (.int .i64 (p : Int))) none).run Try.prog w = .ok (.slice (some ⟨g, 0, none⟩) p cp) w := fun w => by
      rw [slice_run w _ _ uT i0 hi0 ⟨g, 0, none⟩ n cp 0 p cp _ _ _ (.inl ⟨rfl, rfl⟩) (.inr ⟨rfl, by omega⟩) (.inl ⟨rfl, rfl⟩)]
      rw [Nat.zero_mul, add_at, Nat.zero_add, ite_self]; rfl
    obtain ⟨q1, hq1⟩ : ∃ q : Int, (p : Int) + 1 = q := ⟨_, rfl⟩
    have hwq : IntKind.i64.wrap ((p : Int) + 1) = q1 := by have := HN.out; rw [IntKind.wrap_i64]; omega
    obtain ⟨r2, hr2⟩ : ∃ r, n - (p + 1) = r := ⟨_, rfl⟩
    obtain ⟨c2, hcc2⟩ : ∃ r, cp - (p + 1) = r := ⟨_, rfl⟩
    obtain ⟨A, hA, hs2⟩ : ∃ A : Addr, (A = ⟨g, (p + 1) * 2, none⟩ ∨ r2 = 0) ∧ ∀ w, (Instr.slice 41 (.slice (some ⟨g, 0, none⟩) n cp) (some (.int .i64 q1)) none none).run Try.prog w = .ok (.slice (some A) r2 c2) w := by
      refine ⟨if cp = p + 1 then ⟨g, 0, none⟩ else ⟨g, (p + 1) * 2, none⟩, ?_, fun w => ?_⟩
      · by_cases hcp : cp = p + 1
        · exact .inr (by omega)
        · rw [if_neg hcp]; exact .inl rfl
      · rw [← hq1, show (p : Int) + 1 = ((p + 1 : Nat) : Int) by omega, slice_run w _ _ uT i0 hi0 ⟨g, 0, none⟩ n cp (p + 1) n cp _ _ _ (.inl ⟨rfl, rfl⟩) (.inl ⟨rfl, rfl, rfl⟩) (.inr ⟨rfl, by omega⟩), hz1, add_at, Nat.zero_add, hr2, hcc2]
    have hcell : ∀ (wz : World), Rn wz (.slice (some ⟨g, 0, none⟩) n cp) M → ∀ j u, (enR M)[j]? = some u → wz.cell? ⟨g, j, none⟩ = some u := fun wz hr j u hj => by
      have := World.ownsRow.cells hr (g := g) rfl j u hj
      rwa [add_at, Nat.zero_add] at this
    have hrow2 : Rn w2 (.slice (some ⟨g, 0, none⟩) n cp) M := R2.out.2.1
    obtain ⟨u1, W3, a1, m1, g1⟩ := mine_cat (ad := ⟨g, 0, none⟩) (m := p) (c := cp) (l2 := M.take p) (mine0 w2) (by rw [List.length_take]; omega) (fun j x hj => by
      rw [enR_take, List.getElem?_take] at hj
      split at hj
      · rw [add_at, Nat.zero_add]; exact hcell w2 hrow2 j x hj
      · cases hj) (by have := HN.out; simp only [List.length_nil, List.length_take]; omega)
    rw [List.nil_append] at m1
    have hb3 : Below w2.heap.size w2 W3 := m1.2.2
    have hrow3 := hrow2.bel hb3
    obtain ⟨u2, W4, a2, m2, g2⟩ := mine_cat (ad := A) (m := r2) (c := c2) (l2 := M.drop (p + 1)) m1 (by rw [List.length_drop]; omega) (fun j x hj => by
      rcases hA with rfl | h0
      · rw [enR_drop, List.getElem?_drop] at hj
        rw [add_at]; exact hcell W3 hrow3 _ x hj
      · have := (List.getElem?_eq_some_iff.1 hj).1
        rw [enR_len, List.length_drop] at this
        omega) (by have := HN.out; simp only [List.length_drop, List.length_take]; omega)
    obtain ⟨ao2, n2, cc, rfl⟩ := mine_slice m2
    have k3 : W3.cell? ⟨b, 0, none⟩ = some (.slice (some ⟨g, 0, none⟩) n cp) := (hb3.cell (p := ⟨b, 0, none⟩) (World.block_lt_of_cell? _ _ k0)).trans k0
    have hb4 : Below w2.heap.size w2 W4 := m2.2.2
    have hblk := (hb4.block b (Nat.lt_of_lt_of_le HBL.out B2.out.size)).trans R2.out.1
    have k4 : W4.cell? ⟨b, 0, none⟩ = some (.slice (some ⟨g, 0, none⟩) n cp) := by simp [World.cell?, hblk]
    have z4 : ∀ i, W4.frozen? ⟨b, i, none⟩ = false := fun i => by simp [World.frozen?, hblk]
    obtain ⟨W5, hW5⟩ : ∃ x, W4.setCell ⟨b, 0, none⟩ (.slice ao2 n2 cc) = x := ⟨_, rfl⟩
    obtain ⟨g5, o5⟩ := one_set hblk hW5
    have HD : Kept (Q (.returned (.bool true)) W5) := HQ'.out (some (p, x)) _ _ HJ.out (by
      have hne2 : (Value.slice ao2 n2 cc).ownBlock ≠ some b := fun e => by have := m2.2.1 b e; have := HBL.out; have := B2.out.size; omega
      refine ⟨rfl, .slice ao2 n2 cc, ⟨g5, m2.1.kept (fun k hk => o5.2.2 k (fun e => hne2 (by rw [hk, e]))), hne2⟩, F2.out.trans ?_⟩
      refine ⟨⟨o5.1.1.trans hb4.os, o5.1.2.1.trans hb4.tape, o5.1.2.2.trans hb4.output⟩, by rw [o5.2.1]; exact hb4.size, fun k hk hnm => ⟨?_, ?_⟩⟩
      · have h1 : k ≠ b := fun e => hnm (by rw [e]; simp [rbl])
        exact (o5.2.2 k h1).trans (hb4.block k hk)
      · intro hk'
        rcases List.mem_cons.1 hk' with e | hk'
        · exact hnm (by rw [e]; simp [rbl])
        · have := m2.2.1 k (by simpa using hk'); omega)
    have A1 := keep a1
    have A2 := keep a2
    have hge : ¬ (p : Int) < 0 := by omega
    have hge' : decide ((p : Int) < 0) = false := decide_eq_false hge
    clear hp hpl hln hcp hq1 hr2 hcc2 hA hcell hrow2 a1 m1 g1 hb3 hrow3 a2 m2 g2 hb4 hblk g5 o5 kz hi0 hz0 hz1 hz2 uT i0
    go_wp2_with (at_builtin; first | refine wpList_app_run rfl _ _ _ _ rfl _ _ _ rfl rfl A1.out ?_ | refine wpList_app_run rfl _ _ _ _ rfl _ _ _ rfl rfl A2.out ?_)
    first | exact HD.out | (go_ret; exact HD.out)
/-- a copy of the document's own ranks: its block and its row are new -/
def Rcp (w : World) (M : List Ent) (e : Ending) (w' : World) : Prop :=
  ∃ b v, e = .returned (.pointer (some ⟨b, 0, none⟩)) ∧ Rp w' b v M ∧ (∀ k ∈ rbl b v, w.heap.size ≤ k) ∧ Below w.heap.size w w'
set_option maxHeartbeats 4000000 in
theorem rcopy_any (w : World) (b : Nat) (v : Value) (M : List Ent) (h : Rp w b v M) (hn : M.length ≤ 1048576) :
    Calls Try.prog 9 #[.pointer (some ⟨b, 0, none⟩)] w fun e w' => Rcp w M e w' := by
  obtain ⟨H, hH⟩ : ∃ H, w.heap.size = H := ⟨_, rfl⟩
  obtain ⟨W1, hW1⟩ : ∃ W1, w.alloc (.cells #[.slice none 0 0] 65) = W1 := ⟨_, rfl⟩
  have hb1 : Below w.heap.size w W1 := by rw [← hW1]; exact (Below.refl _ w).alloc (Nat.le_refl _) _
  have g1 : W1.heap[H]? = some (.cells #[.slice none 0 0] 65 (0, 0)) := by rw [← hW1, ← hH]; exact heap_alloc_new _ _
  have h1 : Rp W1.drew b v M := h.bel hb1.drew
  obtain ⟨v4, W4, a1, m1, gr⟩ := mine_all (w0 := W1.drew) (w := W1.drew) (Below.refl _ _) h1.2.1 (by omega)
  obtain ⟨bo, bn, bc, rfl⟩ := mine_slice m1
  have hs1 : W1.heap.size = w.heap.size + 1 := by rw [← hW1]; simp
  have g4 : W4.heap[H]? = some (.cells #[.slice none 0 0] 65 (0, 0)) := (m1.2.2.block H (by show H < W1.heap.size; omega)).trans g1
  obtain ⟨W5, hW5⟩ : ∃ x, W4.setCell ⟨H, 0, none⟩ (.slice bo bn bc) = x := ⟨_, rfl⟩
  obtain ⟨g5, o5⟩ := one_set g4 hW5
  have k1 : W1.drew.cell? ⟨H, 0, none⟩ = some (.slice none 0 0) := by show W1.cell? ⟨H, 0, none⟩ = _; simp [World.cell?, g1]
  have k4 : W4.cell? ⟨H, 0, none⟩ = some (.slice none 0 0) := by simp [World.cell?, g4]
  have z4 : ∀ i, W4.frozen? ⟨H, i, none⟩ = false := fun i => by simp [World.frozen?, g4]
  have hb04 : Below w.heap.size w W4 := Below.up hb1 ((Below.refl _ W1).drew.trans m1.2.2)
  have hHb : b ≠ H := fun e => by have := h.lt b (by simp [rbl]); omega
  have X1 : Kept (W1.drew.cell? ⟨b, 0, none⟩ = some v) := h1.cells.1
  have X4 : Kept (W4.cell? ⟨b, 0, none⟩ = some v) := (h.bel hb04).cells.1
  have X5 : Kept (W5.cell? ⟨b, 0, none⟩ = some v) := (World.cell?_of_block (w := W4) (a := ⟨b, 0, none⟩) (o5.2.2 b hHb)).trans X4.out
  have HD : Kept (Rcp w M (.returned (.pointer (some ⟨H, 0, none⟩))) W5) := by
    have hnb : (Value.slice bo bn bc).ownBlock ≠ some H := fun e => by have := m1.2.1 H e; have : W1.heap.size ≤ H := this; omega
    refine ⟨H, .slice bo bn bc, rfl, ⟨g5, m1.1.kept (fun k hk => o5.2.2 k (fun e => hnb (by rw [hk, e]))), hnb⟩, fun k hk => ?_, ?_⟩
    · rcases List.mem_cons.1 hk with e | hk
      · omega
      · have := m1.2.1 k (by simpa using hk); have : W1.heap.size ≤ k := this; omega
    · rw [← hW5]; exact hb04.setCell (by show w.heap.size ≤ H; omega) _
  have A1 := keep a1
  obtain ⟨ao, cp, rfl, _⟩ := h.2.1.form
  generalize Rcp w M = Q at *
  clear h hn hb1 g1 h1 a1 m1 gr hs1 g4 g5 o5 hb04 hHb
  generalize M.length = n at *
  go_enter Try.func9, Try.ntmps9
  go_wp2_with fail
  refine wp_region_held_drew (S := fun W => W.cell? ⟨b, 0, none⟩ = some (.slice ao n cp)) (by kernel_rfl) X1.out (fun hHeld => ?_)
  refine wpAnyH_take (i := 0) (oi := { dst := some 8, op := _, type := _, pos := _, after := _, guard := _ }) (v := ?v1) rfl (by kernel_rfl) (by kernel_rfl) (by kernel_rfl) (fun _ _ _ h => h) (Or.inl ⟨by rfl, ?hy1⟩) (by assumption) ?rest1
  case hy1 => (intro w hSw; obtain p0 := hSw; go_simp; try with_reducible rfl)
  try simp only [Act.put, List.setIfInBounds_toArray, List.set_cons_zero, List.set_cons_succ]
  refine wpAnyH_take (i := 1) (oi := { dst := some 9, op := _, type := _, pos := _, after := _, guard := _ }) (v := ?v2) rfl (by kernel_rfl) (by kernel_rfl) (by kernel_rfl) (fun _ _ _ h => h) (Or.inl ⟨by rfl, ?hy2⟩) (by assumption) ?rest2
  case hy2 => (intro w hSw; obtain p0 := hSw; go_simp; try with_reducible rfl)
  try simp only [Act.put, List.setIfInBounds_toArray, List.set_cons_zero, List.set_cons_succ]
  refine wpAnyH_take (i := 2) (oi := { dst := some 10, op := _, type := _, pos := _, after := _, guard := _ }) (v := ?v3) rfl (by kernel_rfl) (by kernel_rfl) (by kernel_rfl) (fun _ _ _ h => h) (Or.inl ⟨by rfl, ?hy3⟩) (by assumption) ?rest3
  case hy3 => (intro w hSw; obtain p0 := hSw; go_simp; try with_reducible rfl)
  try simp only [Act.put, List.setIfInBounds_toArray, List.set_cons_zero, List.set_cons_succ]
  refine wpAnyH_take (i := 3) (oi := { dst := some 11, op := _, type := _, pos := _, after := _, guard := _ }) (v := ?v4) rfl (by kernel_rfl) (by kernel_rfl) (by kernel_rfl) (fun _ _ _ h => h) (Or.inl ⟨by rfl, ?hy4⟩) (by assumption) ?rest4
  case hy4 => (intro w hSw; obtain p0 := hSw; go_simp; try with_reducible rfl)
  try simp only [Act.put, List.setIfInBounds_toArray, List.set_cons_zero, List.set_cons_succ]
  refine wpAnyH_take (i := 5) (oi := { dst := some 13, op := _, type := _, pos := _, after := _, guard := _ }) (v := ?v5) rfl (by kernel_rfl) (by kernel_rfl) (by kernel_rfl) (fun _ _ _ h => h) (Or.inl ⟨by rfl, ?hy5⟩) (by assumption) ?rest5
  case hy5 => (intro w hSw; obtain p0 := hSw; go_simp; try with_reducible rfl)
  try simp only [Act.put, List.setIfInBounds_toArray, List.set_cons_zero, List.set_cons_succ]
  refine wpAnyH_take (i := 6) (oi := { dst := some 14, op := _, type := _, pos := _, after := _, guard := _ }) (v := ?v6) rfl (by kernel_rfl) (by kernel_rfl) (by kernel_rfl) (fun _ _ _ h => h) (Or.inl ⟨by rfl, ?hy6⟩) (by assumption) ?rest6
  case hy6 => (intro w hSw; obtain p0 := hSw; go_simp; try with_reducible rfl)
  try simp only [Act.put, List.setIfInBounds_toArray, List.set_cons_zero, List.set_cons_succ]
  refine wpAnyH_take (i := 7) (oi := { dst := some 15, op := _, type := _, pos := _, after := _, guard := _ }) (v := ?v7) rfl (by kernel_rfl) (by kernel_rfl) (by kernel_rfl) (fun _ _ _ h => h) (Or.inl ⟨by rfl, ?hy7⟩) (by assumption) ?rest7
  case hy7 => (intro w hSw; obtain p0 := hSw; go_simp; try with_reducible rfl)
  try simp only [Act.put, List.setIfInBounds_toArray, List.set_cons_zero, List.set_cons_succ]
  refine wpAnyH_take (i := 8) (oi := { dst := some 16, op := _, type := _, pos := _, after := _, guard := _ }) (v := (.slice ao n cp)) rfl (by kernel_rfl) (by kernel_rfl) (by kernel_rfl) (fun _ _ _ h => h) (Or.inl ⟨by rfl, ?hy8⟩) (by assumption) ?rest8
  case hy8 => (intro w hSw; obtain p0 := hSw; first | (go_simp; done) | (go_simp; simp [*]; done) | (simp [*]; go_simp; done))
  try simp only [Act.put, List.setIfInBounds_toArray, List.set_cons_zero, List.set_cons_succ]
  refine wpAnyH_ready (rs := [4]) (by kernel_rfl) (by simp) ?_
  refine AllReadyH.cons (o := { dst := some 12, op := _, type := _, pos := _, after := _, guard := _ }) rfl (fun K hK => ?_) AllReadyH.nil
  have cL := k1
  go_simp
  refine hK.out _ _ X1.out (fun hHeld => ?_)
  try simp only [Act.put, List.setIfInBounds_toArray, List.set_cons_zero, List.set_cons_succ]
  clear hK cL
  refine wpAnyH_ready (rs := [9]) (by kernel_rfl) (by simp) ?_
  refine AllReadyH.cons (o := { dst := some 17, op := _, type := _, pos := _, after := _, guard := _ }) rfl (fun K hK => ?_) AllReadyH.nil
  rw [if_pos (by rfl)]
  refine wp_app_run (.tmp 12) (.tmp 16) 41 41 rfl _ _ _ rfl rfl A1.out ?_
  refine hK.out _ _ X4.out (fun hHeld => ?_)
  try simp only [Act.put, List.setIfInBounds_toArray, List.set_cons_zero, List.set_cons_succ]
  clear hK
  refine wpAnyH_take (i := 10) (oi := { dst := some 18, op := _, type := _, pos := _, after := _, guard := _ }) (v := ?v9) rfl (by kernel_rfl) (by kernel_rfl) (by kernel_rfl) (fun _ _ _ h => h) (Or.inl ⟨by rfl, ?hy9⟩) (by assumption) ?rest9
  case hy9 => (intro w hSw; go_simp; try with_reducible rfl)
  try simp only [Act.put, List.setIfInBounds_toArray, List.set_cons_zero, List.set_cons_succ]
  refine wpAnyH_take (i := 11) (oi := { dst := some 19, op := _, type := _, pos := _, after := _, guard := _ }) (v := ?v10) rfl (by kernel_rfl) (by kernel_rfl) (by kernel_rfl) (fun _ _ _ h => h) (Or.inl ⟨by rfl, ?hy10⟩) (by assumption) ?rest10
  case hy10 => (intro w hSw; go_simp; try with_reducible rfl)
  try simp only [Act.put, List.setIfInBounds_toArray, List.set_cons_zero, List.set_cons_succ]
  refine wpAnyH_ready (rs := [12]) (by kernel_rfl) (by simp) ?_
  refine AllReadyH.cons (o := { dst := none, op := _, type := _, pos := _, after := _, guard := _ }) rfl (fun K hK => ?_) AllReadyH.nil
  go_simp
  try rw [hW5]
  refine hK.out _ _ X5.out (fun hHeld => ?_)
  try simp only [Act.put, List.setIfInBounds_toArray, List.set_cons_zero, List.set_cons_succ]
  clear hK k4 z4
  refine wpAnyH_done (by kernel_rfl) ?_ _
  clear hHeld
  go_wp2
  first | exact HD.out | (go_ret; exact HD.out)
end Go.Proofs.Ytapehjlpiobeaaa
