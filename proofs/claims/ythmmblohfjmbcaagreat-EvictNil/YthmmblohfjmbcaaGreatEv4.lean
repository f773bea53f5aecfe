/-
  The statement's own wakes: a space that is too full loses its only key.
-/
import Derived.Test.YthmmblohfjmbcaaGreatEv3
namespace Go.Proofs.YthmmblohfjmbcaaGreat
open Go.RowKit Go.Shelf
set_option linter.unusedVariables false
set_option linter.unusedSimpArgs false
set_option maxRecDepth 100000
namespace Ks
theorem info_u8D : (Tryz.prog.info? 5).map (fun i => (i.zero, i.size, i.bytes)) = some (some (.int .u8 0), 1, 1) := by kernel_rfl
theorem own_atD {B : Nat} {w : World} {e g n cap j : Nat} {xs : List Value} {x : Value} (h : w.ownsRow B e 1 (.slice (some ⟨g, 0, none⟩) n cap) n xs) (hx : xs[j]? = some x) : w.cell? ⟨g, j, none⟩ = some x := by
  have add : ∀ i, (⟨g, 0, none⟩ : Addr).add i = ⟨g, i, none⟩ := by intro i; unfold Addr.add; split <;> simp_all
  have := h.cells (g := g) rfl j x hx
  rwa [add] at this
/-- so many bytes 0 -/
def zer (n : Nat) : ByteArray := ⟨(List.replicate n (0 : UInt8)).toArray⟩
theorem zer_size (n : Nat) : (zer n).size = n := by show (List.replicate n (0 : UInt8)).toArray.size = n; simp
theorem zeros_at (w : World) (n : Nat) (hn : n ≤ 2097152) :
    ∃ w', (Instr.makeSlice 72 (.int .i64 (n : Int)) (.int .i64 (n : Int))).run Tryz.prog w = .ok (.slice (some ⟨w.heap.size, 0, none⟩) n n) w' ∧ (convert 72 9 (.slice (some ⟨w.heap.size, 0, none⟩) n n)).run Tryz.prog w' = .ok (.string (zer n)) w' ∧ Below w.heap.size w w' := by
  obtain ⟨i0, hi0, hz0, hz1, hz2⟩ := info_parts info_u8D
  obtain ⟨w', h1, h2, h3⟩ := run_make_full (P := Tryz.prog) w w.heap.size 72 5 i0 (.int .u8 0) 1 Tryz.underlying72 hi0 hz0 hz1 .i64 .i64 n (by rw [hz2]; omega) (by unfold maxLen; omega) (Nat.le_refl _)
  have hl : (List.replicate n (0 : UInt8)).length = n := List.length_replicate
  refine ⟨w', h1, ?_, (Below.refl _ w).grown h3 (Nat.le_refl _) (fun k hk => by cases hk)⟩
  have hb := run_convert_bytes_back (P := Tryz.prog) w' 72 9 5 ⟨w.heap.size, 0, none⟩ n (List.replicate n 0) Tryz.underlying72 Tryz.underlying5 Tryz.underlying9 (fun j hj => by
    rw [hl] at hj
    have e : (⟨w.heap.size, 0, none⟩ : Addr).add j = ⟨w.heap.size, j, none⟩ := by unfold Addr.add; split <;> simp_all
    rw [e, List.getElem_replicate]
    refine own_atD h2 ?_
    show (madeCells #[.int .u8 0] (n * 1)).toList[j]? = _
    rw [toList_madeCells_one, Nat.mul_one, List.getElem?_replicate, if_pos hj]
    rfl)
  rw [hl] at hb
  exact hb
set_option maxHeartbeats 1000000 in
theorem pool_new (w : World) (m : Nat) (h1 : 1 ≤ m) (h2 : m ≤ 16) :
    Calls Tryz.prog 5 #[.int .i64 (m : Int)] w fun e w' => e = .returned (.tuple #[pb w.heap.size, .int .i64 0]) ∧ DV.Pl w' w.heap.size (.slice none 0 0) m [] ∧ Below w.heap.size w w' := by
  have a1 : decide ((m : Int) < 1) = false := decide_eq_false (by omega)
  have a2 : decide ((16 : Int) < (m : Int)) = false := decide_eq_false (by omega)
  have a3 : ¬ (m : Int) < 1 := by omega
  have a4 : ¬ (16 : Int) < (m : Int) := by omega
  have a5 : ¬ 16 < m := by omega
  have a6 : ¬ m < 1 := by omega
  have a7 : ¬ m = 0 := by omega
  have HP : Kept (DV.Pl (w.alloc (.cells #[.int .i64 (m : Int), .slice none 0 0] 50)) w.heap.size (.slice none 0 0) m [] ∧ Below w.heap.size w (w.alloc (.cells #[.int .i64 (m : Int), .slice none 0 0] 50))) :=
    ⟨⟨heap_alloc_new _ _, ⟨rfl, .inl ⟨rfl, rfl⟩⟩, fun e => by cases e⟩, (Below.refl _ w).alloc (Nat.le_refl _) _⟩
  clear h1 h2
  go_enter Tryz.func5, Tryz.ntmps5
  go_wp2
  refine bodyPost_ret (results_tmp2 rfl _ _ _) rfl ?_
  exact ⟨rfl, HP.out⟩
theorem pool4 (w : World) : Calls Tryz.prog 5 #[.int .i64 4] w fun e w' => e = .returned (.tuple #[pb w.heap.size, .int .i64 0]) ∧ DV.Pl w' w.heap.size (.slice none 0 0) 4 [] ∧ Below w.heap.size w w' := pool_new w 4 (by decide) (by decide)
theorem pool5 (w : World) : Calls Tryz.prog 5 #[.int .i64 5] w fun e w' => e = .returned (.tuple #[pb w.heap.size, .int .i64 0]) ∧ DV.Pl w' w.heap.size (.slice none 0 0) 5 [] ∧ Below w.heap.size w w' := pool_new w 5 (by decide) (by decide)
abbrev kk : ByteArray := { data := #[107] }
theorem new1 (w : World) : Calls Tryz.prog 4 #[.agg #[.int .u64 0, .int .i64 100, .int .i64 1, .int .i64 2]] w fun e w' => ∃ b bm bd tb, e = .returned (.tuple #[pb b, .int .i64 0]) ∧ Below w.heap.size w w' ∧ ∃ R, Sp 0 w' R b (newS 0 100 1 2 bm bd tb) ∧ ∀ k, R k ≠ z0 → w.heap.size ≤ k := new_ok w 0 (by decide) 100 1 2 (by decide) (by decide) (by decide) (by decide)
/-- what the space holds when its one key was put -/
theorem one_held (bm bd tb e0 vb : Nat) : One (holS (newS 0 100 1 2 bm bd tb) kk e0 (viT vb (zer 60))) kk (newE e0 (viT vb (zer 60)) 1 109) := by
  have hc : rck kk (newE e0 (viT vb (zer 60)) 0 0) = 109 := by
    unfold rck
    rw [if_neg (by simp [mor, newE])]
    show wrap64 (wrap64 (48 + ((kk.size : Nat) : Int)) + (((zer 60).size : Nat) : Int)) = 109
    rw [zer_size, show kk.size = 1 from rfl]
    simp [wrap64]
  refine ⟨fun key a h => ?_, ?_, ?_, ?_, fun key a h => ?_, ?_, rfl⟩
  · have h' : upl (newS 0 100 1 2 bm bd tb).lm kk (some (some ⟨e0, 0, none⟩)) key = some a := h
    unfold upl at h'
    by_cases e : key = kk
    · exact e
    · rw [if_neg e] at h'; cases h'
  · show upl (newS 0 100 1 2 bm bd tb).lm kk (some (some ⟨e0, 0, none⟩)) kk = _
    unfold upl
    rw [if_pos rfl]
    rfl
  · show upe (newS 0 100 1 2 bm bd tb).E kk _ kk = _
    rw [upe_same]
    show some (newE e0 (viT vb (zer 60)) ((0 + 1) % 18446744073709551616) (rck kk (newE e0 (viT vb (zer 60)) 0 0))) = _
    rw [hc]
  · simp [pas, mor, newE]
  · cases h
  · show (0 : Nat) + (if Option.isNone (none : Option (Option Addr)) then 1 else 0) ≠ 0
    decide
theorem used_held (bm bd tb e0 vb : Nat) : (holS (newS 0 100 1 2 bm bd tb) kk e0 (viT vb (zer 60))).used = 109 := by
  show wrap64 (0 + wrap64 (rck kk (newE e0 (viT vb (zer 60)) 0 0) - 0)) = 109
  have hc : rck kk (newE e0 (viT vb (zer 60)) 0 0) = 109 := by
    unfold rck
    rw [if_neg (by simp [mor, newE])]
    show wrap64 (wrap64 (48 + ((kk.size : Nat) : Int)) + (((zer 60).size : Nat) : Int)) = 109
    rw [zer_size, show kk.size = 1 from rfl]
    simp [wrap64]
  rw [hc]
  simp [wrap64]
theorem used_gone (bm bd tb e0 vb : Nat) : (gonS (holS (newS 0 100 1 2 bm bd tb) kk e0 (viT vb (zer 60))) kk (newE e0 (viT vb (zer 60)) 1 109)).used = 0 := by
  show wrap64 ((holS (newS 0 100 1 2 bm bd tb) kk e0 (viT vb (zer 60))).used + wrap64 (0 - 109)) = 0
  rw [used_held]
  simp [wrap64]
set_option maxHeartbeats 4000000 in
theorem wakes_any (w : World) : Calls Tryz.prog 9 #[] w fun e w' => e = .returned (.bool true) ∧ Below w.heap.size w w' := by
  go_enter Tryz.func9, Tryz.ntmps9
  go_wp2_with fail
  refine (new1 w).mono ?_
  rintro _ w1 ⟨b, bm, bd, tb, rfl, hb1, R, hs, hR⟩
  have B1 := keep hb1
  have HS := keep hs
  have HR := keep hR
  clear hb1 hs hR
  go_wp2_with fail
  refine (pool4 w1).mono ?_
  rintro _ w2 ⟨rfl, hp, hb2⟩
  obtain ⟨p, hpe⟩ : ∃ p, w1.heap.size = p := ⟨_, rfl⟩
  rw [hpe] at hp ⊢
  have HP := keep hp
  have B2 := keep hb2
  have HPE := keep hpe
  obtain ⟨w3, r1, r2, b3⟩ := zeros_at w2 60 (by omega)
  have r1 : (Instr.makeSlice 72 (.int .i64 60) (.int .i64 60)).run Tryz.prog w2 = .ok (.slice (some ⟨w2.heap.size, 0, none⟩) 60 60) w3 := r1
  have B3 := keep b3
  clear hp hb2 b3 hpe
  go_wp2_with fail
  refine (text_any w3 (zer 60)).mono ?_
  rintro _ w4 ⟨rfl, hv, hb4⟩
  obtain ⟨vb, hvb⟩ : ∃ vb, w3.heap.size = vb := ⟨_, rfl⟩
  rw [hvb] at hv ⊢
  have hs4 := HS.out.bel (bel2 (bel2 B2.out B3.out) hb4)
  have hvs : Vs w4 (viT vb (zer 60)) := vs_text hv (by rw [zer_size]; decide)
  have h12 := B2.out.size
  have h23 := B3.out.size
  have h11 := B1.out.size
  have hz : ∀ k, (viT vb (zer 60)).own k → R k = z0 := fun k hk => Classical.byContradiction fun e => by
    have hk : k = vb := hk
    have := HS.out.lt k e
    omega
  obtain ⟨R1, hs5, ho, hn⟩ := hs4.adopt (viT vb (zer 60)) hvs hz kk
  have hpl := HP.out.bel (bel2 B3.out hb4)
  have hplt := HP.out.lt p (List.mem_cons_self ..)
  have ev : Ev w w4 R1 b (newS 0 100 1 2 bm bd tb) 0 p (.slice none 0 0) 4 [] [] := by
    refine ⟨hs5, hpl, bel2 (bel2 (bel2 B1.out B2.out) B3.out) hb4, fun k hk => ?_, fun k hk => ?_, fun q hq => by cases hq⟩
    · by_cases e : k = vb
      · omega
      · rw [hn k e] at hk; exact HR.out k hk
    · rcases List.mem_cons.1 hk with rfl | hk
      · have := HPE.out
        refine ⟨by omega, ?_⟩
        rw [hn k (fun e => by have e : k = vb := e; omega)]
        exact Classical.byContradiction fun e => by have := HS.out.lt k e; omega
      · cases hk
  have MP := keep (put_new hs5 kk (by decide) (viT vb (zer 60)) hvs ho (by show (zer 60).size ≤ _; rw [zer_size]; decide) rfl (by decide) (show (0 : Nat) < maxLen by decide) rfl)
  have EV := keep ev
  clear hv hb4 hs4 hvs h12 h23 h11 hz hs5 ho hn hpl hplt ev r1 r2 HS HR HP B1 B2 B3 HPE
  go_wp2_with fail
  refine MP.out.mono ?_
  rintro _ w5 ⟨rfl, e0, R5, s5, f5⟩
  have h5 := EV.out.space s5 f5
  have H5 := keep h5
  clear MP s5 f5 h5 EV
  go_wp2_with fail
  refine (DQ.new_any w5 (.slice none 0 0) [] (.inl ⟨rfl, rfl⟩) (by simp)).mono ?_
  rintro _ w6 ⟨r, gg, rfl, hsr, hr1, _, _, _, hb6⟩
  obtain ⟨_, ao, cp, hr2, _, hcp, _⟩ := hsr
  have h6 := H5.out.one (o := srO ao cp) hb6 hr1 hr2
  have ho := one_held bm bd tb e0 vb
  have MEf := keep (enforce_one (n := 2) h6 ho (by decide) (by decide) (by decide) (by decide) (List.mem_cons_self ..) hcp rfl (by decide) (by decide) (show (0 : Int) < 100 by decide) (by rw [used_held]; exact (show (100 : Int) < 109 by decide)) (by rw [used_gone]; exact (show ¬ (100 : Int) < 0 by decide)) (show (1 : Nat) < maxLen by decide) (show (0 : Nat) ≤ 5000000000000 by decide))
  clear hr1 hb6 hr2 hcp h6 ho H5
  go_wp2_with fail
  refine MEf.out.mono ?_
  rintro _ w7 ⟨rfl, R7, v7, h7⟩
  have MU := keep (used_any h7.sp)
  rw [used_gone] at MU
  have B7 := keep h7.bel
  clear MEf h7
  go_wp2_with fail
  refine MU.out.mono ?_
  rintro _ w8 ⟨rfl, rfl⟩
  clear MU
  go_wp2
  go_ret
  exact ⟨rfl, B7.out⟩
end Ks
end Go.Proofs.YthmmblohfjmbcaaGreat
