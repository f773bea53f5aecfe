/-
  Contracts over this program: Offer of the document's own pool.
-/
import Derived.Test.YtgniiojeeobffaaPlRef3
namespace Go.Proofs.Ytgniiojeeobffaa
open Go.RowKit Go.Shelf
set_option linter.unusedVariables false
set_option linter.unusedSimpArgs false
set_option maxRecDepth 100000
/-- the one that is laid behind: the row grows -/
theorem rp_app {w : World} {b m : Nat} {v : Value} {all : List Ent} {c : Ent} {vb : Nat} (h : Rp w b v m all) (hv : w.heap[vb]? = some (.cells #[.string c.1, .int .u64 c.2] 32 (0, 0))) (hn : all.length ≤ 100000) :
    ∃ ao n cp w', (Builtin.append_ #[43, 43] 43 #[v, .slice (some ⟨vb, 0, none⟩) 1 1]).run Try.prog w = .ok (.slice ao n cp) w' ∧ Row w' (.slice ao n cp) (all ++ [c]) ∧ w.grownBy w' v.ownBlock ∧ ((Value.slice ao n cp).ownBlock = v.ownBlock ∨ (Value.slice ao n cp).ownBlock = some w.heap.size) := by
  obtain ⟨i0, hi0, hz0, hz1, hz2⟩ := info_parts info_rk
  have uT := Try.underlying43
  obtain ⟨v', W, r1, r2, r3, r4, r5⟩ := run_append_own_at (P := Try.prog) w 0 43 43 32 i0 _ 2 24 uT hi0 hz0 hz1 hz2 (by simp [Value.cells]) (by decide) v all.length (enR all) h.2.1 ⟨vb, 0, none⟩ 1 1 (mc c.1 c.2) rfl (mc_cell hv) mc_one (by unfold maxLen; omega) (by omega) (Nat.zero_le _)
  have hr : Row W v' (all ++ [c]) := by unfold Row; rw [List.length_append, enR_app]; exact r2
  obtain ⟨ao, n, cp, rfl⟩ := hr.slice
  exact ⟨ao, n, cp, W, r1, hr, r3, r5⟩
set_option maxHeartbeats 8000000 in
theorem roffer_any (w : World) (b m : Nat) (v : Value) (all l : List Ent) (c : Ent) (h : Rp w b v m all) (hp : all.Perm l) (hg : Good l) (hl : l.length ≤ m) (hm : m ≤ 16) (hm1 : 1 ≤ m) :
    Calls Try.prog 21 #[.pointer (some ⟨b, 0, none⟩), agE c] w fun e w' => Rof w b m v c l e w' := by
  obtain ⟨W1, hW1⟩ : ∃ W1, w.alloc (.cells #[.string c.1, .int .u64 c.2] 32) = W1 := ⟨_, rfl⟩
  have hb1 : Below w.heap.size w W1 := by rw [← hW1]; exact (Below.refl _ w).alloc (Nat.le_refl _) _
  have hs1 : W1.heap.size = w.heap.size + 1 := by rw [← hW1]; simp
  have g1 : W1.heap[w.heap.size]? = some (.cells #[.string c.1, .int .u64 c.2] 32 (0, 0)) := by rw [← hW1]; exact heap_alloc_new _ _
  have h1 := h.bel hb1
  have hH : w.heap.size ∉ bl b v := fun hk => by have := h.lt _ hk; omega
  obtain ⟨H, hHe⟩ : ∃ H, w.heap.size = H := ⟨_, rfl⟩
  have MA := keep (at_any W1 b m v all c.1 h1 (by have := hp.length_eq; omega))
  have HK : Kept (∀ wz, Below W1.heap.size W1 wz → Rp wz b v m all ∧ Fm (bl b v) w (bl b v) wz ∧ wz.heap[H]? = some (.cells #[.string c.1, .int .u64 c.2] 32 (0, 0)) ∧ H < wz.heap.size) := fun wz hb => ⟨h1.bel hb, (Fm.below hb1).trans (Fm.below hb), by rw [← hHe]; exact (hb.block _ (by omega)).trans g1, by have := hb.size; omega⟩
  have HP := keep hp
  have HG := keep hg
  have HL : Kept (all.length ≤ m ∧ m ≤ 16 ∧ 1 ≤ m ∧ l.length = all.length) := ⟨by rw [hp.length_eq]; exact hl, hm, hm1, hp.length_eq.symm⟩
  have HH : Kept (H ∉ bl b v ∧ b < H ∧ w.heap.size = H) := ⟨by rw [← hHe]; exact hH, by have := h.lt b (by simp [bl]); omega, hHe⟩
  obtain ⟨ao, n, cp, rfl, hln, hao⟩ := h.2.1.shape
  have HN := keep hln
  have HAO := keep hao
  obtain ⟨c1, c2⟩ := c
  rw [hHe] at g1
  obtain ⟨d0, d1, _⟩ := cells_two g1
  have HB1 := keep hb1
  unfold agE
  dsimp only at *
  clear h h1 hp hg hl hm hm1 hb1 hs1 g1 hH hln hao
  go_enter Try.func21, Try.ntmps21
  go_wp2_with fail
  try rw [hHe]
  refine MA.out.mono ?_
  rintro _ w2 ⟨⟨r, rfl, hf⟩, hb2⟩
  obtain ⟨r2, f2, g2, s2⟩ := HK.out w2 hb2
  have B2 := keep hb2
  clear MA hb2 d0 d1
  rcases hf with ⟨rfl, hne⟩ | ⟨p, x, rfl, hpx⟩
  · -- the key is not there
    obtain ⟨q0, q1, qz⟩ := r2.cells
    have S7 : Kept (w2.drew.cell? ⟨b, 0, none⟩ = some (.int .i64 (m : Int)) ∧ w2.drew.cell? ⟨b, 1, none⟩ = some (.slice ao n cp)) := ⟨q0, q1⟩
    have HNE := keep hne
    have R2 := keep r2
    have F2 := keep f2
    have G2 := keep g2
    have hnn := HN.out
    have hnm := HL.out.1
    clear hne r2 f2 g2 s2 q0 qz hnn hnm
    by_cases hroom : n < m
    · have hrz : decide ((n : Int) < (m : Int)) = true := decide_eq_true (by omega)
      have hrz' : (n : Int) < (m : Int) := by omega
      obtain ⟨W3, hW3⟩ : ∃ W3, w2.drew.drew.alloc (.cells #[.string c1, .int .u64 c2] 32) = W3 := ⟨_, rfl⟩
      have hb3 : Below w2.heap.size w2 W3 := by rw [← hW3]; exact (Below.refl _ w2).drew.drew.alloc (Nat.le_refl _) _
      have g3 : W3.heap[w2.heap.size]? = some (.cells #[.string c1, .int .u64 c2] 32 (0, 0)) := by rw [← hW3]; exact heap_alloc_new w2.drew.drew _
      obtain ⟨r3, f3, gh3, _⟩ := HK.out W3 (Below.up B2.out hb3)
      obtain ⟨ao4, n4, c4, W4, ha, hr4, hgr, how⟩ := rp_app (c := (c1, c2)) r3 g3 (by have := HL.out; omega)
      have hs3 : W3.heap.size = w2.heap.size + 1 := by rw [← hW3]; simp
      have hb4 : W4.heap[b]? = some (.cells #[.int .i64 (m : Int), .slice ao n cp] 53 (0, 0)) := (hgr.block b (r3.lt b (by simp [bl])) (fun e => r3.2.2 e.symm)).trans r3.1
      obtain ⟨_, k4, z4⟩ := cells_two hb4
      have hh4 : W4.heap[H]? = some (.cells #[.string c1, .int .u64 c2] 32 (0, 0)) := (hgr.block H (Array.getElem?_eq_some_iff.1 gh3).1 (fun e => HH.out.1 (by simp [bl, ← e]))).trans gh3
      obtain ⟨W5, hW5⟩ : ∃ W5, W4.setCell ⟨b, 1, none⟩ (.slice ao4 n4 c4) = W5 := ⟨_, rfl⟩
      have hHb : H ≠ b := Nat.ne_of_gt HH.out.2.1
      have hh5 : W5.heap[H]? = some (.cells #[.string c1, .int .u64 c2] 32 (0, 0)) := by rw [← hW5, Below.heap_setCell _ _ _ _ hHb]; exact hh4
      have vb4 : (Value.slice ao4 n4 c4).ownBlock ≠ some b := by
        rcases how with e | e
        · rw [e]; exact r3.2.2
        · rw [e]; intro e'; injection e' with e'; have hlt := r3.lt b (by simp [bl]); exact absurd hlt (by rw [e']; exact Nat.lt_irrefl _)
      have HD : Kept (Rof w b m (.slice ao n cp) (c1, c2) l (.returned (.bool true)) W5) := by
        obtain ⟨m1, m2⟩ := ref_room (m := m) (c := (c1, c2)) HP.out (by have := HL.out; have := HN.out; omega) HNE.out
        refine ⟨by rw [m2], .slice ao4 n4 c4, all ++ [(c1, c2)], ⟨by rw [← hW5]; exact cells_set hb4, hr4.kept (fun k hk => by rw [← hW5]; exact Below.heap_setCell _ _ _ _ (fun e => vb4 (by rw [hk, show k = b from e]))), vb4⟩, m1, f3.trans ?_⟩
        refine ⟨⟨?_, ?_, ?_⟩, ?_, fun k hk hnm => ?_⟩
        · rw [← hW5]; exact hgr.os
        · rw [← hW5]; exact hgr.tape
        · rw [← hW5]; exact hgr.output
        · rw [← hW5]; have := hgr.size; simp [World.setCell]; omega
        · have h1 : k ≠ b := fun e => hnm (by rw [e]; simp [bl])
          have h2 : some k ≠ (Value.slice ao n cp).ownBlock := fun e => hnm (by simp [bl, ← e])
          refine ⟨by rw [← hW5, Below.heap_setCell _ _ _ _ h1]; exact hgr.block k hk h2, fun hk' => ?_⟩
          rcases List.mem_cons.1 hk' with e | hk'
          · exact h1 e
          · rcases how with e | e
            · rw [e] at hk'; exact h2 (Eq.symm (by simpa using hk'))
            · rw [e] at hk'
              have : k = W3.heap.size := by simpa using hk'
              omega
      have HA := keep ha
      have SH : Kept (∀ wz : World, wz.heap[H]? = some (.cells #[.string c1, .int .u64 c2] 32 (0, 0)) → wz.cell? ⟨H, 0, none⟩ = some (.string c1) ∧ wz.cell? ⟨H, 1, none⟩ = some (.int .u64 c2)) := fun wz hz => ⟨(cells_two hz).1, (cells_two hz).2.1⟩
      have S8 := keep (SH.out w2.drew.drew G2.out)
      have S83 := keep (SH.out W3 gh3)
      have S84 := keep (SH.out W4 hh4)
      have S85 := keep (SH.out W5 hh5)
      have X2 : Kept (w2.drew.drew.cell? ⟨b, 1, none⟩ = some (.slice ao n cp)) := q1
      have X3 : Kept (W3.cell? ⟨b, 1, none⟩ = some (.slice ao n cp)) := r3.cells.2.1
      clear hb3 g3 r3 f3 gh3 ha hr4 hgr how hs3 hb4 hh4 hh5 vb4 q1
      go_wp2_with fail
      refine wp_region_held_drew (S := fun W => W.cell? ⟨b, 0, none⟩ = some (.int .i64 (m : Int)) ∧ W.cell? ⟨b, 1, none⟩ = some (.slice ao n cp)) (by kernel_rfl) S7.out (fun hHeld => ?_)
      refine wpAnyH_take (i := 0) (oi := { dst := some 25, op := _, type := _, pos := _, after := _, guard := _ }) (v := ?v1) rfl (by kernel_rfl) (by kernel_rfl) (by kernel_rfl) (fun _ _ _ h => h) (Or.inl ⟨by rfl, ?hy1⟩) (by assumption) ?rest1
      case hy1 => (intro w hSw; obtain ⟨p0,p1⟩ := hSw; go_simp; try with_reducible rfl)
      try simp only [Act.put, List.setIfInBounds_toArray, List.set_cons_zero, List.set_cons_succ]
      refine wpAnyH_take (i := 1) (oi := { dst := some 26, op := _, type := _, pos := _, after := _, guard := _ }) (v := ?v2) rfl (by kernel_rfl) (by kernel_rfl) (by kernel_rfl) (fun _ _ _ h => h) (Or.inl ⟨by rfl, ?hy2⟩) (by assumption) ?rest2
      case hy2 => (intro w hSw; obtain ⟨p0,p1⟩ := hSw; go_simp; try with_reducible rfl)
      try simp only [Act.put, List.setIfInBounds_toArray, List.set_cons_zero, List.set_cons_succ]
      refine wpAnyH_take (i := 2) (oi := { dst := some 27, op := _, type := _, pos := _, after := _, guard := _ }) (v := ?v3) rfl (by kernel_rfl) (by kernel_rfl) (by kernel_rfl) (fun _ _ _ h => h) (Or.inl ⟨by rfl, ?hy3⟩) (by assumption) ?rest3
      case hy3 => (intro w hSw; obtain ⟨p0,p1⟩ := hSw; go_simp; try with_reducible rfl)
      try simp only [Act.put, List.setIfInBounds_toArray, List.set_cons_zero, List.set_cons_succ]
      refine wpAnyH_take (i := 3) (oi := { dst := some 28, op := _, type := _, pos := _, after := _, guard := _ }) (v := (.slice ao n cp)) rfl (by kernel_rfl) (by kernel_rfl) (by kernel_rfl) (fun _ _ _ h => h) (Or.inl ⟨by rfl, ?hy4⟩) (by assumption) ?rest4
      case hy4 => (intro w hSw; obtain ⟨p0,p1⟩ := hSw; first | (go_simp; done) | (go_simp; simp [*]; done) | (simp [*]; go_simp; done))
      try simp only [Act.put, List.setIfInBounds_toArray, List.set_cons_zero, List.set_cons_succ]
      refine wpAnyH_take (i := 4) (oi := { dst := some 29, op := _, type := _, pos := _, after := _, guard := _ }) (v := (.int .i64 (n : Int))) rfl (by kernel_rfl) (by kernel_rfl) (by kernel_rfl) (fun _ _ _ h => h) (Or.inl ⟨by rfl, ?hy5⟩) (by assumption) ?rest5
      case hy5 => (intro w hSw; obtain ⟨p0,p1⟩ := hSw; first | (go_simp; done) | (go_simp; simp [*]; done) | (simp [*]; go_simp; done))
      try simp only [Act.put, List.setIfInBounds_toArray, List.set_cons_zero, List.set_cons_succ]
      refine wpAnyH_take (i := 5) (oi := { dst := some 30, op := _, type := _, pos := _, after := _, guard := _ }) (v := ?v6) rfl (by kernel_rfl) (by kernel_rfl) (by kernel_rfl) (fun _ _ _ h => h) (Or.inl ⟨by rfl, ?hy6⟩) (by assumption) ?rest6
      case hy6 => (intro w hSw; obtain ⟨p0,p1⟩ := hSw; go_simp; try with_reducible rfl)
      try simp only [Act.put, List.setIfInBounds_toArray, List.set_cons_zero, List.set_cons_succ]
      refine wpAnyH_take (i := 6) (oi := { dst := some 31, op := _, type := _, pos := _, after := _, guard := _ }) (v := ?v7) rfl (by kernel_rfl) (by kernel_rfl) (by kernel_rfl) (fun _ _ _ h => h) (Or.inl ⟨by rfl, ?hy7⟩) (by assumption) ?rest7
      case hy7 => (intro w hSw; obtain ⟨p0,p1⟩ := hSw; go_simp; try with_reducible rfl)
      try simp only [Act.put, List.setIfInBounds_toArray, List.set_cons_zero, List.set_cons_succ]
      refine wpAnyH_take (i := 7) (oi := { dst := some 32, op := _, type := _, pos := _, after := _, guard := _ }) (v := ?v8) rfl (by kernel_rfl) (by kernel_rfl) (by kernel_rfl) (fun _ _ _ h => h) (Or.inl ⟨by rfl, ?hy8⟩) (by assumption) ?rest8
      case hy8 => (intro w hSw; obtain ⟨p0,p1⟩ := hSw; go_simp; try with_reducible rfl)
      try simp only [Act.put, List.setIfInBounds_toArray, List.set_cons_zero, List.set_cons_succ]
      refine wpAnyH_take (i := 8) (oi := { dst := some 33, op := _, type := _, pos := _, after := _, guard := _ }) (v := (.int .i64 (m : Int))) rfl (by kernel_rfl) (by kernel_rfl) (by kernel_rfl) (fun _ _ _ h => h) (Or.inl ⟨by rfl, ?hy9⟩) (by assumption) ?rest9
      case hy9 => (intro w hSw; obtain ⟨p0,p1⟩ := hSw; first | (go_simp; done) | (go_simp; simp [*]; done) | (simp [*]; go_simp; done))
      try simp only [Act.put, List.setIfInBounds_toArray, List.set_cons_zero, List.set_cons_succ]
      refine wpAnyH_take (i := 9) (oi := { dst := some 34, op := _, type := _, pos := _, after := _, guard := _ }) (v := (.bool true)) rfl (by kernel_rfl) (by kernel_rfl) (by kernel_rfl) (fun _ _ _ h => h) (Or.inl ⟨by rfl, ?hy10⟩) (by assumption) ?rest10
      case hy10 => (intro w hSw; obtain ⟨p0,p1⟩ := hSw; first | (go_simp; done) | (go_simp; simp [*]; done) | (simp [*]; go_simp; done))
      try simp only [Act.put, List.setIfInBounds_toArray, List.set_cons_zero, List.set_cons_succ]
      refine wpAnyH_done (by kernel_rfl) ?_ _
      clear hHeld
      go_wp2_with fail
      refine wp_region_held_drew (S := fun W => W.cell? ⟨H, 0, none⟩ = some (.string c1) ∧ W.cell? ⟨H, 1, none⟩ = some (.int .u64 c2)) (by kernel_rfl) S8.out (fun hHeld => ?_)
      refine wpAnyH_take (i := 0) (oi := { dst := some 35, op := _, type := _, pos := _, after := _, guard := _ }) (v := ?v11) rfl (by kernel_rfl) (by kernel_rfl) (by kernel_rfl) (fun _ _ _ h => h) (Or.inl ⟨by rfl, ?hy11⟩) (by assumption) ?rest11
      case hy11 => (intro w hSw; obtain ⟨p0,p1⟩ := hSw; go_simp; try with_reducible rfl)
      try simp only [Act.put, List.setIfInBounds_toArray, List.set_cons_zero, List.set_cons_succ]
      refine wpAnyH_take (i := 1) (oi := { dst := some 36, op := _, type := _, pos := _, after := _, guard := _ }) (v := ?v12) rfl (by kernel_rfl) (by kernel_rfl) (by kernel_rfl) (fun _ _ _ h => h) (Or.inl ⟨by rfl, ?hy12⟩) (by assumption) ?rest12
      case hy12 => (intro w hSw; obtain ⟨p0,p1⟩ := hSw; go_simp; try with_reducible rfl)
      try simp only [Act.put, List.setIfInBounds_toArray, List.set_cons_zero, List.set_cons_succ]
      refine wpAnyH_take (i := 2) (oi := { dst := some 37, op := _, type := _, pos := _, after := _, guard := _ }) (v := ?v13) rfl (by kernel_rfl) (by kernel_rfl) (by kernel_rfl) (fun _ _ _ h => h) (Or.inl ⟨by rfl, ?hy13⟩) (by assumption) ?rest13
      case hy13 => (intro w hSw; obtain ⟨p0,p1⟩ := hSw; go_simp; try with_reducible rfl)
      try simp only [Act.put, List.setIfInBounds_toArray, List.set_cons_zero, List.set_cons_succ]
      refine wpAnyH_take (i := 3) (oi := { dst := some 38, op := _, type := _, pos := _, after := _, guard := _ }) (v := ?v14) rfl (by kernel_rfl) (by kernel_rfl) (by kernel_rfl) (fun _ _ _ h => h) (Or.inl ⟨by rfl, ?hy14⟩) (by assumption) ?rest14
      case hy14 => (intro w hSw; obtain ⟨p0,p1⟩ := hSw; go_simp; try with_reducible rfl)
      try simp only [Act.put, List.setIfInBounds_toArray, List.set_cons_zero, List.set_cons_succ]
      refine wpAnyH_take (i := 5) (oi := { dst := some 40, op := _, type := _, pos := _, after := _, guard := _ }) (v := (.agg #[.string c1, .int .u64 c2])) rfl (by kernel_rfl) (by kernel_rfl) (by kernel_rfl) (fun _ _ _ h => h) (Or.inl ⟨by rfl, ?hy15⟩) (by assumption) ?rest15
      case hy15 => (intro w hSw; obtain ⟨p0,p1⟩ := hSw; first | (go_simp; done) | (go_simp; simp [*]; done) | (simp [*]; go_simp; done))
      try simp only [Act.put, List.setIfInBounds_toArray, List.set_cons_zero, List.set_cons_succ]
      refine wpAnyH_ready (rs := [4, 6]) (by kernel_rfl) (by simp) ?_
      refine AllReadyH.cons (o := { dst := some 39, op := _, type := _, pos := _, after := _, guard := _ }) rfl (fun K hK => ?_) (AllReadyH.cons (o := { dst := some 41, op := _, type := _, pos := _, after := _, guard := _ }) rfl (fun K hK => ?_) AllReadyH.nil)
      · have cL := X2.out
        go_simp
        refine hK.out _ _ S8.out (fun hHeld => ?_)
        try simp only [Act.put, List.setIfInBounds_toArray, List.set_cons_zero, List.set_cons_succ]
        clear hK cL
        refine wpAnyH_ready (rs := [6]) (by kernel_rfl) (by simp) ?_
        refine AllReadyH.cons (o := { dst := some 41, op := _, type := _, pos := _, after := _, guard := _ }) rfl (fun K hK => ?_) AllReadyH.nil
        go_simp
        try rw [hW3]
        refine hK.out _ _ S83.out (fun hHeld => ?_)
        try simp only [Act.put, List.setIfInBounds_toArray, List.set_cons_zero, List.set_cons_succ]
        clear hK
        refine wpAnyH_ready (rs := [7]) (by kernel_rfl) (by simp) ?_
        refine AllReadyH.cons (o := { dst := some 42, op := _, type := _, pos := _, after := _, guard := _ }) rfl (fun K hK => ?_) AllReadyH.nil
        rw [if_pos (by rfl)]
        refine wp_app_run (.tmp 39) (.tmp 41) 43 43 rfl _ _ _ rfl rfl HA.out ?_
        refine hK.out _ _ S84.out (fun hHeld => ?_)
        try simp only [Act.put, List.setIfInBounds_toArray, List.set_cons_zero, List.set_cons_succ]
        clear hK
        refine wpAnyH_take (i := 8) (oi := { dst := some 43, op := _, type := _, pos := _, after := _, guard := _ }) (v := ?v16) rfl (by kernel_rfl) (by kernel_rfl) (by kernel_rfl) (fun _ _ _ h => h) (Or.inl ⟨by rfl, ?hy16⟩) (by assumption) ?rest16
        case hy16 => (intro w hSw; go_simp; try with_reducible rfl)
        try simp only [Act.put, List.setIfInBounds_toArray, List.set_cons_zero, List.set_cons_succ]
        refine wpAnyH_take (i := 9) (oi := { dst := some 44, op := _, type := _, pos := _, after := _, guard := _ }) (v := ?v17) rfl (by kernel_rfl) (by kernel_rfl) (by kernel_rfl) (fun _ _ _ h => h) (Or.inl ⟨by rfl, ?hy17⟩) (by assumption) ?rest17
        case hy17 => (intro w hSw; go_simp; try with_reducible rfl)
        try simp only [Act.put, List.setIfInBounds_toArray, List.set_cons_zero, List.set_cons_succ]
        refine wpAnyH_ready (rs := [10]) (by kernel_rfl) (by simp) ?_
        refine AllReadyH.cons (o := { dst := none, op := _, type := _, pos := _, after := _, guard := _ }) rfl (fun K hK => ?_) AllReadyH.nil
        go_simp
        try rw [hW5]
        refine hK.out _ _ S85.out (fun hHeld => ?_)
        try simp only [Act.put, List.setIfInBounds_toArray, List.set_cons_zero, List.set_cons_succ]
        clear hK k4 z4
        refine wpAnyH_done (by kernel_rfl) ?_ _
        clear hHeld
        go_wp2
        first | exact HD.out | (go_ret; exact HD.out)
      · go_simp
        try rw [hW3]
        refine hK.out _ _ S83.out (fun hHeld => ?_)
        try simp only [Act.put, List.setIfInBounds_toArray, List.set_cons_zero, List.set_cons_succ]
        clear hK
        have cL := X3.out
        refine wpAnyH_ready (rs := [4]) (by kernel_rfl) (by simp) ?_
        refine AllReadyH.cons (o := { dst := some 39, op := _, type := _, pos := _, after := _, guard := _ }) rfl (fun K hK => ?_) AllReadyH.nil
        go_simp
        refine hK.out _ _ S83.out (fun hHeld => ?_)
        try simp only [Act.put, List.setIfInBounds_toArray, List.set_cons_zero, List.set_cons_succ]
        clear hK cL
        refine wpAnyH_ready (rs := [7]) (by kernel_rfl) (by simp) ?_
        refine AllReadyH.cons (o := { dst := some 42, op := _, type := _, pos := _, after := _, guard := _ }) rfl (fun K hK => ?_) AllReadyH.nil
        rw [if_pos (by rfl)]
        refine wp_app_run (.tmp 39) (.tmp 41) 43 43 rfl _ _ _ rfl rfl HA.out ?_
        refine hK.out _ _ S84.out (fun hHeld => ?_)
        try simp only [Act.put, List.setIfInBounds_toArray, List.set_cons_zero, List.set_cons_succ]
        clear hK
        refine wpAnyH_take (i := 8) (oi := { dst := some 43, op := _, type := _, pos := _, after := _, guard := _ }) (v := ?v18) rfl (by kernel_rfl) (by kernel_rfl) (by kernel_rfl) (fun _ _ _ h => h) (Or.inl ⟨by rfl, ?hy18⟩) (by assumption) ?rest18
        case hy18 => (intro w hSw; go_simp; try with_reducible rfl)
        try simp only [Act.put, List.setIfInBounds_toArray, List.set_cons_zero, List.set_cons_succ]
        refine wpAnyH_take (i := 9) (oi := { dst := some 44, op := _, type := _, pos := _, after := _, guard := _ }) (v := ?v19) rfl (by kernel_rfl) (by kernel_rfl) (by kernel_rfl) (fun _ _ _ h => h) (Or.inl ⟨by rfl, ?hy19⟩) (by assumption) ?rest19
        case hy19 => (intro w hSw; go_simp; try with_reducible rfl)
        try simp only [Act.put, List.setIfInBounds_toArray, List.set_cons_zero, List.set_cons_succ]
        refine wpAnyH_ready (rs := [10]) (by kernel_rfl) (by simp) ?_
        refine AllReadyH.cons (o := { dst := none, op := _, type := _, pos := _, after := _, guard := _ }) rfl (fun K hK => ?_) AllReadyH.nil
        go_simp
        try rw [hW5]
        refine hK.out _ _ S85.out (fun hHeld => ?_)
        try simp only [Act.put, List.setIfInBounds_toArray, List.set_cons_zero, List.set_cons_succ]
        clear hK k4 z4
        refine wpAnyH_done (by kernel_rfl) ?_ _
        clear hHeld
        go_wp2
        first | exact HD.out | (go_ret; exact HD.out)
    · have hrz : decide ((n : Int) < (m : Int)) = false := decide_eq_false (by omega)
      have hrz' : ¬ (n : Int) < (m : Int) := by omega
      have hnm : n = m := by have := HL.out.1; have := HN.out; omega
      obtain ⟨g, hg'⟩ := HAO.out (by have := HL.out; omega)
      subst hg'
      have HR : Kept (∀ wz, Below w2.heap.size w2 wz → wz.cell? ⟨b, 1, none⟩ = some (.slice (some ⟨g, 0, none⟩) n cp) ∧ (∀ j x, all[j]? = some x → wz.cell? ⟨g, j * 2, none⟩ = some (.string x.1) ∧ wz.cell? ⟨g, j * 2 + 1, none⟩ = some (.int .u64 x.2)) ∧ wz.cell? ⟨H, 0, none⟩ = some (.string c1) ∧ wz.cell? ⟨H, 1, none⟩ = some (.int .u64 c2)) := fun wz hb => by
        obtain ⟨rz, _, gz, _⟩ := HK.out wz (Below.up B2.out hb)
        exact ⟨rz.cells.2.1, fun j x hj => rz.2.1.two HN.out hj, (cells_two gz).1, (cells_two gz).2.1⟩
      have HNM := keep hnm
      have q1' : w2.drew.cell? ⟨b, 1, none⟩ = some (.slice (some ⟨g, 0, none⟩) n cp) := q1
      have B7 : Kept (Below w2.heap.size w2 w2.drew) := (Below.refl _ w2).drew
      clear q1 hnm
      go_wp2_with fail
      refine wp_region_held_drew (S := fun W => W.cell? ⟨b, 0, none⟩ = some (.int .i64 (m : Int)) ∧ W.cell? ⟨b, 1, none⟩ = some (.slice (some ⟨g, 0, none⟩) n cp)) (by kernel_rfl) S7.out (fun hHeld => ?_)
      refine wpAnyH_take (i := 0) (oi := { dst := some 25, op := _, type := _, pos := _, after := _, guard := _ }) (v := ?v20) rfl (by kernel_rfl) (by kernel_rfl) (by kernel_rfl) (fun _ _ _ h => h) (Or.inl ⟨by rfl, ?hy20⟩) (by assumption) ?rest20
      case hy20 => (intro w hSw; obtain ⟨p0,p1⟩ := hSw; go_simp; try with_reducible rfl)
      try simp only [Act.put, List.setIfInBounds_toArray, List.set_cons_zero, List.set_cons_succ]
      refine wpAnyH_take (i := 1) (oi := { dst := some 26, op := _, type := _, pos := _, after := _, guard := _ }) (v := ?v21) rfl (by kernel_rfl) (by kernel_rfl) (by kernel_rfl) (fun _ _ _ h => h) (Or.inl ⟨by rfl, ?hy21⟩) (by assumption) ?rest21
      case hy21 => (intro w hSw; obtain ⟨p0,p1⟩ := hSw; go_simp; try with_reducible rfl)
      try simp only [Act.put, List.setIfInBounds_toArray, List.set_cons_zero, List.set_cons_succ]
      refine wpAnyH_take (i := 2) (oi := { dst := some 27, op := _, type := _, pos := _, after := _, guard := _ }) (v := ?v22) rfl (by kernel_rfl) (by kernel_rfl) (by kernel_rfl) (fun _ _ _ h => h) (Or.inl ⟨by rfl, ?hy22⟩) (by assumption) ?rest22
      case hy22 => (intro w hSw; obtain ⟨p0,p1⟩ := hSw; go_simp; try with_reducible rfl)
      try simp only [Act.put, List.setIfInBounds_toArray, List.set_cons_zero, List.set_cons_succ]
      refine wpAnyH_take (i := 3) (oi := { dst := some 28, op := _, type := _, pos := _, after := _, guard := _ }) (v := (.slice (some ⟨g, 0, none⟩) n cp)) rfl (by kernel_rfl) (by kernel_rfl) (by kernel_rfl) (fun _ _ _ h => h) (Or.inl ⟨by rfl, ?hy23⟩) (by assumption) ?rest23
      case hy23 => (intro w hSw; obtain ⟨p0,p1⟩ := hSw; first | (go_simp; done) | (go_simp; simp [*]; done) | (simp [*]; go_simp; done))
      try simp only [Act.put, List.setIfInBounds_toArray, List.set_cons_zero, List.set_cons_succ]
      refine wpAnyH_take (i := 4) (oi := { dst := some 29, op := _, type := _, pos := _, after := _, guard := _ }) (v := (.int .i64 (n : Int))) rfl (by kernel_rfl) (by kernel_rfl) (by kernel_rfl) (fun _ _ _ h => h) (Or.inl ⟨by rfl, ?hy24⟩) (by assumption) ?rest24
      case hy24 => (intro w hSw; obtain ⟨p0,p1⟩ := hSw; first | (go_simp; done) | (go_simp; simp [*]; done) | (simp [*]; go_simp; done))
      try simp only [Act.put, List.setIfInBounds_toArray, List.set_cons_zero, List.set_cons_succ]
      refine wpAnyH_take (i := 5) (oi := { dst := some 30, op := _, type := _, pos := _, after := _, guard := _ }) (v := ?v25) rfl (by kernel_rfl) (by kernel_rfl) (by kernel_rfl) (fun _ _ _ h => h) (Or.inl ⟨by rfl, ?hy25⟩) (by assumption) ?rest25
      case hy25 => (intro w hSw; obtain ⟨p0,p1⟩ := hSw; go_simp; try with_reducible rfl)
      try simp only [Act.put, List.setIfInBounds_toArray, List.set_cons_zero, List.set_cons_succ]
      refine wpAnyH_take (i := 6) (oi := { dst := some 31, op := _, type := _, pos := _, after := _, guard := _ }) (v := ?v26) rfl (by kernel_rfl) (by kernel_rfl) (by kernel_rfl) (fun _ _ _ h => h) (Or.inl ⟨by rfl, ?hy26⟩) (by assumption) ?rest26
      case hy26 => (intro w hSw; obtain ⟨p0,p1⟩ := hSw; go_simp; try with_reducible rfl)
      try simp only [Act.put, List.setIfInBounds_toArray, List.set_cons_zero, List.set_cons_succ]
      refine wpAnyH_take (i := 7) (oi := { dst := some 32, op := _, type := _, pos := _, after := _, guard := _ }) (v := ?v27) rfl (by kernel_rfl) (by kernel_rfl) (by kernel_rfl) (fun _ _ _ h => h) (Or.inl ⟨by rfl, ?hy27⟩) (by assumption) ?rest27
      case hy27 => (intro w hSw; obtain ⟨p0,p1⟩ := hSw; go_simp; try with_reducible rfl)
      try simp only [Act.put, List.setIfInBounds_toArray, List.set_cons_zero, List.set_cons_succ]
      refine wpAnyH_take (i := 8) (oi := { dst := some 33, op := _, type := _, pos := _, after := _, guard := _ }) (v := (.int .i64 (m : Int))) rfl (by kernel_rfl) (by kernel_rfl) (by kernel_rfl) (fun _ _ _ h => h) (Or.inl ⟨by rfl, ?hy28⟩) (by assumption) ?rest28
      case hy28 => (intro w hSw; obtain ⟨p0,p1⟩ := hSw; first | (go_simp; done) | (go_simp; simp [*]; done) | (simp [*]; go_simp; done))
      try simp only [Act.put, List.setIfInBounds_toArray, List.set_cons_zero, List.set_cons_succ]
      refine wpAnyH_take (i := 9) (oi := { dst := some 34, op := _, type := _, pos := _, after := _, guard := _ }) (v := (.bool false)) rfl (by kernel_rfl) (by kernel_rfl) (by kernel_rfl) (fun _ _ _ h => h) (Or.inl ⟨by rfl, ?hy29⟩) (by assumption) ?rest29
      case hy29 => (intro w hSw; obtain ⟨p0,p1⟩ := hSw; first | (go_simp; done) | (go_simp; simp [*]; done) | (simp [*]; go_simp; done))
      try simp only [Act.put, List.setIfInBounds_toArray, List.set_cons_zero, List.set_cons_succ]
      refine wpAnyH_done (by kernel_rfl) ?_ _
      clear hHeld
      go_wp2_with fail
      go_loopg [6, 50] n (fun kx s6 s wz => ∃ (k t : Nat), s = .int .i64 k ∧ k ≤ n ∧ n - k ≤ kx ∧ s6 = .int .i64 t ∧ t < n ∧ Kept (Below w2.heap.size w2 wz) ∧ Kept (∀ x j y, all[t]? = some x → j < k → all[j]? = some y → snr x y = false))
      case atStart => exact ⟨0, 0, rfl, Nat.zero_le _, by omega, rfl, by have := HL.out; have := HNM.out; omega, B7.out, fun x j y _ hj => absurd hj (Nat.not_lt_zero _)⟩
      case round =>
        obtain ⟨k, t, rfl, hkn, hgk, rfl, htn, BW, I⟩ := hrel
        obtain ⟨x, hx⟩ : ∃ x, all[t]? = some x := ⟨_, List.getElem?_eq_getElem (by have := HN.out; omega)⟩
        obtain ⟨x1, x2⟩ := x
        have HX := keep hx
        obtain ⟨oT, hoT⟩ : ∃ o, o = t * 2 := ⟨_, rfl⟩
        have hoT' : t * 2 = oT := hoT.symm
        have t0 : (0 : Int) ≤ (t : Int) := by omega
        have t1 : (t : Int) < (n : Int) := by omega
        obtain ⟨z1, z2, z3, z4⟩ := HR.out wr BW.out
        obtain ⟨x0', x1'⟩ := z2 t _ hx
        rw [← hoT] at x0' x1'
        dsimp only at x0' x1'
        by_cases hkl : k < n
        · obtain ⟨y, hy⟩ : ∃ y, all[k]? = some y := ⟨_, List.getElem?_eq_getElem (by have := HN.out; omega)⟩
          obtain ⟨y1, y2⟩ := y
          obtain ⟨oK, hoK⟩ : ∃ o, o = k * 2 := ⟨_, rfl⟩
          have hoK' : k * 2 = oK := hoK.symm
          have k0 : (0 : Int) ≤ (k : Int) := by omega
          have k1 : (k : Int) < (n : Int) := by omega
          obtain ⟨y0', y1'⟩ := z2 k _ hy
          rw [← hoK] at y0' y1'
          dsimp only at y0' y1'
          have hwk : IntKind.i64.wrap ((k : Int) + 1) = (k : Int) + 1 := by have := HL.out; have := HNM.out; rw [IntKind.wrap_i64]; omega
          have mS := rsooner_any (x1, x2) (y1, y2) wr.drew
          unfold agE at mS
          dsimp only at mS
          have MS := keep mS
          have SL : Kept (wr.drew.cell? ⟨b, 1, none⟩ = some (.slice (some ⟨g, 0, none⟩) n cp) ∧ wr.drew.cell? ⟨g, oT, none⟩ = some (.string x1) ∧ wr.drew.cell? ⟨g, oT + 1, none⟩ = some (.int .u64 x2) ∧ wr.drew.cell? ⟨g, oK, none⟩ = some (.string y1) ∧ wr.drew.cell? ⟨g, oK + 1, none⟩ = some (.int .u64 y2)) := ⟨z1, x0', x1', y0', y1'⟩
          have HY := keep hy
          clear hy hoK mS z2 z3 z4 hx hoT y0' y1' x0' x1'
          cases hsn : snr (x1, x2) (y1, y2) <;> rw [hsn] at MS
          · have I' : Kept (∀ x j y, all[t]? = some x → j < k + 1 → all[j]? = some y → snr x y = false) := fun x j y hx hj hy => by
              rcases Nat.lt_or_ge j k with h' | h'
              · exact I.out x j y hx h' hy
              · obtain rfl : j = k := by omega
                rw [HX.out] at hx; cases hx
                rw [HY.out] at hy; cases hy
                exact hsn
            clear hsn
            go_wp2_with fail
            refine wp_region_held_drew (S := fun W => W.cell? ⟨b, 1, none⟩ = some (.slice (some ⟨g, 0, none⟩) n cp) ∧ W.cell? ⟨g, oT, none⟩ = some (.string x1) ∧ W.cell? ⟨g, oT + 1, none⟩ = some (.int .u64 x2) ∧ W.cell? ⟨g, oK, none⟩ = some (.string y1) ∧ W.cell? ⟨g, oK + 1, none⟩ = some (.int .u64 y2)) (by kernel_rfl) SL.out (fun hHeld => ?_)
            refine wpAnyH_take (i := 0) (oi := { dst := some 53, op := _, type := _, pos := _, after := _, guard := _ }) (v := ?v30) rfl (by kernel_rfl) (by kernel_rfl) (by kernel_rfl) (fun _ _ _ h => h) (Or.inl ⟨by rfl, ?hy30⟩) (by assumption) ?rest30
            case hy30 => (intro w hSw; obtain ⟨p0,p1,p2,p3,p4⟩ := hSw; go_simp; try with_reducible rfl)
            try simp only [Act.put, List.setIfInBounds_toArray, List.set_cons_zero, List.set_cons_succ]
            refine wpAnyH_take (i := 1) (oi := { dst := some 54, op := _, type := _, pos := _, after := _, guard := _ }) (v := ?v31) rfl (by kernel_rfl) (by kernel_rfl) (by kernel_rfl) (fun _ _ _ h => h) (Or.inl ⟨by rfl, ?hy31⟩) (by assumption) ?rest31
            case hy31 => (intro w hSw; obtain ⟨p0,p1,p2,p3,p4⟩ := hSw; go_simp; try with_reducible rfl)
            try simp only [Act.put, List.setIfInBounds_toArray, List.set_cons_zero, List.set_cons_succ]
            refine wpAnyH_take (i := 2) (oi := { dst := some 55, op := _, type := _, pos := _, after := _, guard := _ }) (v := ?v32) rfl (by kernel_rfl) (by kernel_rfl) (by kernel_rfl) (fun _ _ _ h => h) (Or.inl ⟨by rfl, ?hy32⟩) (by assumption) ?rest32
            case hy32 => (intro w hSw; obtain ⟨p0,p1,p2,p3,p4⟩ := hSw; go_simp; try with_reducible rfl)
            try simp only [Act.put, List.setIfInBounds_toArray, List.set_cons_zero, List.set_cons_succ]
            refine wpAnyH_take (i := 3) (oi := { dst := some 56, op := _, type := _, pos := _, after := _, guard := _ }) (v := (.slice (some ⟨g, 0, none⟩) n cp)) rfl (by kernel_rfl) (by kernel_rfl) (by kernel_rfl) (fun _ _ _ h => h) (Or.inl ⟨by rfl, ?hy33⟩) (by assumption) ?rest33
            case hy33 => (intro w hSw; obtain ⟨p0,p1,p2,p3,p4⟩ := hSw; first | (go_simp; done) | (go_simp; simp [*]; done) | (simp [*]; go_simp; done))
            try simp only [Act.put, List.setIfInBounds_toArray, List.set_cons_zero, List.set_cons_succ]
            refine wpAnyH_take (i := 4) (oi := { dst := some 57, op := _, type := _, pos := _, after := _, guard := _ }) (v := ?v34) rfl (by kernel_rfl) (by kernel_rfl) (by kernel_rfl) (fun _ _ _ h => h) (Or.inl ⟨by rfl, ?hy34⟩) (by assumption) ?rest34
            case hy34 => (intro w hSw; obtain ⟨p0,p1,p2,p3,p4⟩ := hSw; go_simp; try with_reducible rfl)
            try simp only [Act.put, List.setIfInBounds_toArray, List.set_cons_zero, List.set_cons_succ]
            refine wpAnyH_take (i := 5) (oi := { dst := some 58, op := _, type := _, pos := _, after := _, guard := _ }) (v := (.pointer (some ⟨g, oT, none⟩))) rfl (by kernel_rfl) (by kernel_rfl) (by kernel_rfl) (fun _ _ _ h => h) (Or.inl ⟨by rfl, ?hy35⟩) (by assumption) ?rest35
            case hy35 => (intro w hSw; obtain ⟨p0,p1,p2,p3,p4⟩ := hSw; first | (go_simp; done) | (go_simp; simp [*]; done) | (simp [*]; go_simp; done))
            try simp only [Act.put, List.setIfInBounds_toArray, List.set_cons_zero, List.set_cons_succ]
            refine wpAnyH_take (i := 6) (oi := { dst := some 59, op := _, type := _, pos := _, after := _, guard := _ }) (v := (.agg #[.string x1, .int .u64 x2])) rfl (by kernel_rfl) (by kernel_rfl) (by kernel_rfl) (fun _ _ _ h => h) (Or.inl ⟨by rfl, ?hy36⟩) (by assumption) ?rest36
            case hy36 => (intro w hSw; obtain ⟨p0,p1,p2,p3,p4⟩ := hSw; first | (go_simp; done) | (go_simp; simp [*]; done) | (simp [*]; go_simp; done))
            try simp only [Act.put, List.setIfInBounds_toArray, List.set_cons_zero, List.set_cons_succ]
            refine wpAnyH_take (i := 7) (oi := { dst := some 60, op := _, type := _, pos := _, after := _, guard := _ }) (v := ?v37) rfl (by kernel_rfl) (by kernel_rfl) (by kernel_rfl) (fun _ _ _ h => h) (Or.inl ⟨by rfl, ?hy37⟩) (by assumption) ?rest37
            case hy37 => (intro w hSw; obtain ⟨p0,p1,p2,p3,p4⟩ := hSw; go_simp; try with_reducible rfl)
            try simp only [Act.put, List.setIfInBounds_toArray, List.set_cons_zero, List.set_cons_succ]
            refine wpAnyH_take (i := 8) (oi := { dst := some 61, op := _, type := _, pos := _, after := _, guard := _ }) (v := ?v38) rfl (by kernel_rfl) (by kernel_rfl) (by kernel_rfl) (fun _ _ _ h => h) (Or.inl ⟨by rfl, ?hy38⟩) (by assumption) ?rest38
            case hy38 => (intro w hSw; obtain ⟨p0,p1,p2,p3,p4⟩ := hSw; go_simp; try with_reducible rfl)
            try simp only [Act.put, List.setIfInBounds_toArray, List.set_cons_zero, List.set_cons_succ]
            refine wpAnyH_take (i := 9) (oi := { dst := some 62, op := _, type := _, pos := _, after := _, guard := _ }) (v := ?v39) rfl (by kernel_rfl) (by kernel_rfl) (by kernel_rfl) (fun _ _ _ h => h) (Or.inl ⟨by rfl, ?hy39⟩) (by assumption) ?rest39
            case hy39 => (intro w hSw; obtain ⟨p0,p1,p2,p3,p4⟩ := hSw; go_simp; try with_reducible rfl)
            try simp only [Act.put, List.setIfInBounds_toArray, List.set_cons_zero, List.set_cons_succ]
            refine wpAnyH_take (i := 10) (oi := { dst := some 63, op := _, type := _, pos := _, after := _, guard := _ }) (v := (.slice (some ⟨g, 0, none⟩) n cp)) rfl (by kernel_rfl) (by kernel_rfl) (by kernel_rfl) (fun _ _ _ h => h) (Or.inl ⟨by rfl, ?hy40⟩) (by assumption) ?rest40
            case hy40 => (intro w hSw; obtain ⟨p0,p1,p2,p3,p4⟩ := hSw; first | (go_simp; done) | (go_simp; simp [*]; done) | (simp [*]; go_simp; done))
            try simp only [Act.put, List.setIfInBounds_toArray, List.set_cons_zero, List.set_cons_succ]
            refine wpAnyH_take (i := 11) (oi := { dst := some 64, op := _, type := _, pos := _, after := _, guard := _ }) (v := ?v41) rfl (by kernel_rfl) (by kernel_rfl) (by kernel_rfl) (fun _ _ _ h => h) (Or.inl ⟨by rfl, ?hy41⟩) (by assumption) ?rest41
            case hy41 => (intro w hSw; obtain ⟨p0,p1,p2,p3,p4⟩ := hSw; go_simp; try with_reducible rfl)
            try simp only [Act.put, List.setIfInBounds_toArray, List.set_cons_zero, List.set_cons_succ]
            refine wpAnyH_take (i := 12) (oi := { dst := some 65, op := _, type := _, pos := _, after := _, guard := _ }) (v := (.pointer (some ⟨g, oK, none⟩))) rfl (by kernel_rfl) (by kernel_rfl) (by kernel_rfl) (fun _ _ _ h => h) (Or.inl ⟨by rfl, ?hy42⟩) (by assumption) ?rest42
            case hy42 => (intro w hSw; obtain ⟨p0,p1,p2,p3,p4⟩ := hSw; first | (go_simp; done) | (go_simp; simp [*]; done) | (simp [*]; go_simp; done))
            try simp only [Act.put, List.setIfInBounds_toArray, List.set_cons_zero, List.set_cons_succ]
            refine wpAnyH_take (i := 13) (oi := { dst := some 66, op := _, type := _, pos := _, after := _, guard := _ }) (v := (.agg #[.string y1, .int .u64 y2])) rfl (by kernel_rfl) (by kernel_rfl) (by kernel_rfl) (fun _ _ _ h => h) (Or.inl ⟨by rfl, ?hy43⟩) (by assumption) ?rest43
            case hy43 => (intro w hSw; obtain ⟨p0,p1,p2,p3,p4⟩ := hSw; first | (go_simp; done) | (go_simp; simp [*]; done) | (simp [*]; go_simp; done))
            try simp only [Act.put, List.setIfInBounds_toArray, List.set_cons_zero, List.set_cons_succ]
            refine wpAnyH_ready (rs := [14]) (by kernel_rfl) (by simp) ?_
            refine AllReadyH.cons (o := { dst := some 67, op := _, type := _, pos := _, after := _, guard := _ }) rfl (fun K hK => ?_) AllReadyH.nil
            go_simp
            refine MS.out.mono ?_
            rintro _ w8 ⟨rfl, hb8⟩
            have nu8 : ∀ {a : Addr} {u : Value}, wr.drew.cell? a = some u → w8.cell? a = some u := fun {a u} h => (hb8.cell (p := a) (World.block_lt_of_cell? _ _ h)).trans h
            have B8 : Kept (Below w2.heap.size w2 w8) := Below.up BW.out ((Below.refl _ wr).drew.trans hb8)
            refine hK.out _ _ ⟨nu8 SL.out.1, nu8 SL.out.2.1, nu8 SL.out.2.2.1, nu8 SL.out.2.2.2.1, nu8 SL.out.2.2.2.2⟩ (fun hHeld => ?_)
            try simp only [Act.put, List.setIfInBounds_toArray, List.set_cons_zero, List.set_cons_succ]
            clear hK hb8 nu8 MS
            refine wpAnyH_done (by kernel_rfl) ?_ _
            clear hHeld
            go_wp2
            go_roundg (n - (k + 1))
            case measure => omega
            case rel => exact ⟨k + 1, t, by simp, by omega, Nat.le_refl _, rfl, htn, B8.out, I'.out⟩
          · have I' : Kept (∀ x j y, all[k]? = some x → j < k + 1 → all[j]? = some y → snr x y = false) := fun x j y hx hj hy => by
              rw [HY.out] at hx; cases hx
              rcases Nat.lt_or_ge j k with h' | h'
              · have h1 := I.out _ j y HX.out h' hy
                cases hh : snr (y1, y2) y with
                | false => rfl
                | true => rw [snr_trans hsn hh] at h1; cases h1
              · obtain rfl : j = k := by omega
                rw [HY.out] at hy; cases hy
                exact snr_irr _
            clear hsn
            go_wp2_with fail
            refine wp_region_held_drew (S := fun W => W.cell? ⟨b, 1, none⟩ = some (.slice (some ⟨g, 0, none⟩) n cp) ∧ W.cell? ⟨g, oT, none⟩ = some (.string x1) ∧ W.cell? ⟨g, oT + 1, none⟩ = some (.int .u64 x2) ∧ W.cell? ⟨g, oK, none⟩ = some (.string y1) ∧ W.cell? ⟨g, oK + 1, none⟩ = some (.int .u64 y2)) (by kernel_rfl) SL.out (fun hHeld => ?_)
            refine wpAnyH_take (i := 0) (oi := { dst := some 53, op := _, type := _, pos := _, after := _, guard := _ }) (v := ?v44) rfl (by kernel_rfl) (by kernel_rfl) (by kernel_rfl) (fun _ _ _ h => h) (Or.inl ⟨by rfl, ?hy44⟩) (by assumption) ?rest44
            case hy44 => (intro w hSw; obtain ⟨p0,p1,p2,p3,p4⟩ := hSw; go_simp; try with_reducible rfl)
            try simp only [Act.put, List.setIfInBounds_toArray, List.set_cons_zero, List.set_cons_succ]
            refine wpAnyH_take (i := 1) (oi := { dst := some 54, op := _, type := _, pos := _, after := _, guard := _ }) (v := ?v45) rfl (by kernel_rfl) (by kernel_rfl) (by kernel_rfl) (fun _ _ _ h => h) (Or.inl ⟨by rfl, ?hy45⟩) (by assumption) ?rest45
            case hy45 => (intro w hSw; obtain ⟨p0,p1,p2,p3,p4⟩ := hSw; go_simp; try with_reducible rfl)
            try simp only [Act.put, List.setIfInBounds_toArray, List.set_cons_zero, List.set_cons_succ]
            refine wpAnyH_take (i := 2) (oi := { dst := some 55, op := _, type := _, pos := _, after := _, guard := _ }) (v := ?v46) rfl (by kernel_rfl) (by kernel_rfl) (by kernel_rfl) (fun _ _ _ h => h) (Or.inl ⟨by rfl, ?hy46⟩) (by assumption) ?rest46
            case hy46 => (intro w hSw; obtain ⟨p0,p1,p2,p3,p4⟩ := hSw; go_simp; try with_reducible rfl)
            try simp only [Act.put, List.setIfInBounds_toArray, List.set_cons_zero, List.set_cons_succ]
            refine wpAnyH_take (i := 3) (oi := { dst := some 56, op := _, type := _, pos := _, after := _, guard := _ }) (v := (.slice (some ⟨g, 0, none⟩) n cp)) rfl (by kernel_rfl) (by kernel_rfl) (by kernel_rfl) (fun _ _ _ h => h) (Or.inl ⟨by rfl, ?hy47⟩) (by assumption) ?rest47
            case hy47 => (intro w hSw; obtain ⟨p0,p1,p2,p3,p4⟩ := hSw; first | (go_simp; done) | (go_simp; simp [*]; done) | (simp [*]; go_simp; done))
            try simp only [Act.put, List.setIfInBounds_toArray, List.set_cons_zero, List.set_cons_succ]
            refine wpAnyH_take (i := 4) (oi := { dst := some 57, op := _, type := _, pos := _, after := _, guard := _ }) (v := ?v48) rfl (by kernel_rfl) (by kernel_rfl) (by kernel_rfl) (fun _ _ _ h => h) (Or.inl ⟨by rfl, ?hy48⟩) (by assumption) ?rest48
            case hy48 => (intro w hSw; obtain ⟨p0,p1,p2,p3,p4⟩ := hSw; go_simp; try with_reducible rfl)
            try simp only [Act.put, List.setIfInBounds_toArray, List.set_cons_zero, List.set_cons_succ]
            refine wpAnyH_take (i := 5) (oi := { dst := some 58, op := _, type := _, pos := _, after := _, guard := _ }) (v := (.pointer (some ⟨g, oT, none⟩))) rfl (by kernel_rfl) (by kernel_rfl) (by kernel_rfl) (fun _ _ _ h => h) (Or.inl ⟨by rfl, ?hy49⟩) (by assumption) ?rest49
            case hy49 => (intro w hSw; obtain ⟨p0,p1,p2,p3,p4⟩ := hSw; first | (go_simp; done) | (go_simp; simp [*]; done) | (simp [*]; go_simp; done))
            try simp only [Act.put, List.setIfInBounds_toArray, List.set_cons_zero, List.set_cons_succ]
            refine wpAnyH_take (i := 6) (oi := { dst := some 59, op := _, type := _, pos := _, after := _, guard := _ }) (v := (.agg #[.string x1, .int .u64 x2])) rfl (by kernel_rfl) (by kernel_rfl) (by kernel_rfl) (fun _ _ _ h => h) (Or.inl ⟨by rfl, ?hy50⟩) (by assumption) ?rest50
            case hy50 => (intro w hSw; obtain ⟨p0,p1,p2,p3,p4⟩ := hSw; first | (go_simp; done) | (go_simp; simp [*]; done) | (simp [*]; go_simp; done))
            try simp only [Act.put, List.setIfInBounds_toArray, List.set_cons_zero, List.set_cons_succ]
            refine wpAnyH_take (i := 7) (oi := { dst := some 60, op := _, type := _, pos := _, after := _, guard := _ }) (v := ?v51) rfl (by kernel_rfl) (by kernel_rfl) (by kernel_rfl) (fun _ _ _ h => h) (Or.inl ⟨by rfl, ?hy51⟩) (by assumption) ?rest51
            case hy51 => (intro w hSw; obtain ⟨p0,p1,p2,p3,p4⟩ := hSw; go_simp; try with_reducible rfl)
            try simp only [Act.put, List.setIfInBounds_toArray, List.set_cons_zero, List.set_cons_succ]
            refine wpAnyH_take (i := 8) (oi := { dst := some 61, op := _, type := _, pos := _, after := _, guard := _ }) (v := ?v52) rfl (by kernel_rfl) (by kernel_rfl) (by kernel_rfl) (fun _ _ _ h => h) (Or.inl ⟨by rfl, ?hy52⟩) (by assumption) ?rest52
            case hy52 => (intro w hSw; obtain ⟨p0,p1,p2,p3,p4⟩ := hSw; go_simp; try with_reducible rfl)
            try simp only [Act.put, List.setIfInBounds_toArray, List.set_cons_zero, List.set_cons_succ]
            refine wpAnyH_take (i := 9) (oi := { dst := some 62, op := _, type := _, pos := _, after := _, guard := _ }) (v := ?v53) rfl (by kernel_rfl) (by kernel_rfl) (by kernel_rfl) (fun _ _ _ h => h) (Or.inl ⟨by rfl, ?hy53⟩) (by assumption) ?rest53
            case hy53 => (intro w hSw; obtain ⟨p0,p1,p2,p3,p4⟩ := hSw; go_simp; try with_reducible rfl)
            try simp only [Act.put, List.setIfInBounds_toArray, List.set_cons_zero, List.set_cons_succ]
            refine wpAnyH_take (i := 10) (oi := { dst := some 63, op := _, type := _, pos := _, after := _, guard := _ }) (v := (.slice (some ⟨g, 0, none⟩) n cp)) rfl (by kernel_rfl) (by kernel_rfl) (by kernel_rfl) (fun _ _ _ h => h) (Or.inl ⟨by rfl, ?hy54⟩) (by assumption) ?rest54
            case hy54 => (intro w hSw; obtain ⟨p0,p1,p2,p3,p4⟩ := hSw; first | (go_simp; done) | (go_simp; simp [*]; done) | (simp [*]; go_simp; done))
            try simp only [Act.put, List.setIfInBounds_toArray, List.set_cons_zero, List.set_cons_succ]
            refine wpAnyH_take (i := 11) (oi := { dst := some 64, op := _, type := _, pos := _, after := _, guard := _ }) (v := ?v55) rfl (by kernel_rfl) (by kernel_rfl) (by kernel_rfl) (fun _ _ _ h => h) (Or.inl ⟨by rfl, ?hy55⟩) (by assumption) ?rest55
            case hy55 => (intro w hSw; obtain ⟨p0,p1,p2,p3,p4⟩ := hSw; go_simp; try with_reducible rfl)
            try simp only [Act.put, List.setIfInBounds_toArray, List.set_cons_zero, List.set_cons_succ]
            refine wpAnyH_take (i := 12) (oi := { dst := some 65, op := _, type := _, pos := _, after := _, guard := _ }) (v := (.pointer (some ⟨g, oK, none⟩))) rfl (by kernel_rfl) (by kernel_rfl) (by kernel_rfl) (fun _ _ _ h => h) (Or.inl ⟨by rfl, ?hy56⟩) (by assumption) ?rest56
            case hy56 => (intro w hSw; obtain ⟨p0,p1,p2,p3,p4⟩ := hSw; first | (go_simp; done) | (go_simp; simp [*]; done) | (simp [*]; go_simp; done))
            try simp only [Act.put, List.setIfInBounds_toArray, List.set_cons_zero, List.set_cons_succ]
            refine wpAnyH_take (i := 13) (oi := { dst := some 66, op := _, type := _, pos := _, after := _, guard := _ }) (v := (.agg #[.string y1, .int .u64 y2])) rfl (by kernel_rfl) (by kernel_rfl) (by kernel_rfl) (fun _ _ _ h => h) (Or.inl ⟨by rfl, ?hy57⟩) (by assumption) ?rest57
            case hy57 => (intro w hSw; obtain ⟨p0,p1,p2,p3,p4⟩ := hSw; first | (go_simp; done) | (go_simp; simp [*]; done) | (simp [*]; go_simp; done))
            try simp only [Act.put, List.setIfInBounds_toArray, List.set_cons_zero, List.set_cons_succ]
            refine wpAnyH_ready (rs := [14]) (by kernel_rfl) (by simp) ?_
            refine AllReadyH.cons (o := { dst := some 67, op := _, type := _, pos := _, after := _, guard := _ }) rfl (fun K hK => ?_) AllReadyH.nil
            go_simp
            refine MS.out.mono ?_
            rintro _ w8 ⟨rfl, hb8⟩
            have nu8 : ∀ {a : Addr} {u : Value}, wr.drew.cell? a = some u → w8.cell? a = some u := fun {a u} h => (hb8.cell (p := a) (World.block_lt_of_cell? _ _ h)).trans h
            have B8 : Kept (Below w2.heap.size w2 w8) := Below.up BW.out ((Below.refl _ wr).drew.trans hb8)
            refine hK.out _ _ ⟨nu8 SL.out.1, nu8 SL.out.2.1, nu8 SL.out.2.2.1, nu8 SL.out.2.2.2.1, nu8 SL.out.2.2.2.2⟩ (fun hHeld => ?_)
            try simp only [Act.put, List.setIfInBounds_toArray, List.set_cons_zero, List.set_cons_succ]
            clear hK hb8 nu8 MS
            refine wpAnyH_done (by kernel_rfl) ?_ _
            clear hHeld
            go_wp2
            go_roundg (n - (k + 1))
            case measure => omega
            case rel => exact ⟨k + 1, k, by simp, by omega, Nat.le_refl _, by simp, hkl, B8.out, I'.out⟩
        · obtain rfl : k = n := by omega
          have hmax : ∀ y ∈ all, snr (x1, x2) y = false := fun y hy => by
            obtain ⟨j, hj⟩ := List.mem_iff_getElem?.1 hy
            exact I.out _ j y hx (by have := (List.getElem?_eq_some_iff.1 hj).1; have := HN.out; omega) hj
          obtain ⟨m1, m2⟩ := ref_full (m := m) (c := (c1, c2)) HP.out HG.out (by have := HL.out; have := HN.out; have := HNM.out; omega) HNE.out hx hmax
          have mS := rsooner_any (c1, c2) (x1, x2) wr.drew
          unfold agE at mS
          dsimp only at mS
          have MS := keep mS
          have SL : Kept ((wr.drew.cell? ⟨H, 0, none⟩ = some (.string c1) ∧ wr.drew.cell? ⟨H, 1, none⟩ = some (.int .u64 c2)) ∧ wr.drew.cell? ⟨b, 1, none⟩ = some (.slice (some ⟨g, 0, none⟩) k cp) ∧ wr.drew.cell? ⟨g, oT, none⟩ = some (.string x1) ∧ wr.drew.cell? ⟨g, oT + 1, none⟩ = some (.int .u64 x2)) := ⟨⟨z3, z4⟩, z1, x0', x1'⟩
          have HOT := keep hoT
          clear mS z2 hx hoT x0' x1' hmax
          cases hsn : snr (c1, c2) (x1, x2) <;> rw [hsn] at MS
          · have M1 := keep (m1 hsn)
            clear hsn m1 m2
            go_wp2_with fail
            refine wp_region_held_drew (S := fun W => (W.cell? ⟨H, 0, none⟩ = some (.string c1) ∧ W.cell? ⟨H, 1, none⟩ = some (.int .u64 c2)) ∧ W.cell? ⟨b, 1, none⟩ = some (.slice (some ⟨g, 0, none⟩) k cp) ∧ W.cell? ⟨g, oT, none⟩ = some (.string x1) ∧ W.cell? ⟨g, oT + 1, none⟩ = some (.int .u64 x2)) (by kernel_rfl) SL.out (fun hHeld => ?_)
            refine wpAnyH_take (i := 0) (oi := { dst := some 70, op := _, type := _, pos := _, after := _, guard := _ }) (v := (.agg #[.string c1, .int .u64 c2])) rfl (by kernel_rfl) (by kernel_rfl) (by kernel_rfl) (fun _ _ _ h => h) (Or.inl ⟨by rfl, ?hy58⟩) (by assumption) ?rest58
            case hy58 => (intro w hSw; obtain ⟨⟨p0,p1⟩,p2,p3,p4⟩ := hSw; first | (go_simp; done) | (go_simp; simp [*]; done) | (simp [*]; go_simp; done))
            try simp only [Act.put, List.setIfInBounds_toArray, List.set_cons_zero, List.set_cons_succ]
            refine wpAnyH_take (i := 1) (oi := { dst := some 71, op := _, type := _, pos := _, after := _, guard := _ }) (v := ?v59) rfl (by kernel_rfl) (by kernel_rfl) (by kernel_rfl) (fun _ _ _ h => h) (Or.inl ⟨by rfl, ?hy59⟩) (by assumption) ?rest59
            case hy59 => (intro w hSw; obtain ⟨⟨p0,p1⟩,p2,p3,p4⟩ := hSw; go_simp; try with_reducible rfl)
            try simp only [Act.put, List.setIfInBounds_toArray, List.set_cons_zero, List.set_cons_succ]
            refine wpAnyH_take (i := 2) (oi := { dst := some 72, op := _, type := _, pos := _, after := _, guard := _ }) (v := ?v60) rfl (by kernel_rfl) (by kernel_rfl) (by kernel_rfl) (fun _ _ _ h => h) (Or.inl ⟨by rfl, ?hy60⟩) (by assumption) ?rest60
            case hy60 => (intro w hSw; obtain ⟨⟨p0,p1⟩,p2,p3,p4⟩ := hSw; go_simp; try with_reducible rfl)
            try simp only [Act.put, List.setIfInBounds_toArray, List.set_cons_zero, List.set_cons_succ]
            refine wpAnyH_take (i := 3) (oi := { dst := some 73, op := _, type := _, pos := _, after := _, guard := _ }) (v := ?v61) rfl (by kernel_rfl) (by kernel_rfl) (by kernel_rfl) (fun _ _ _ h => h) (Or.inl ⟨by rfl, ?hy61⟩) (by assumption) ?rest61
            case hy61 => (intro w hSw; obtain ⟨⟨p0,p1⟩,p2,p3,p4⟩ := hSw; go_simp; try with_reducible rfl)
            try simp only [Act.put, List.setIfInBounds_toArray, List.set_cons_zero, List.set_cons_succ]
            refine wpAnyH_take (i := 4) (oi := { dst := some 74, op := _, type := _, pos := _, after := _, guard := _ }) (v := (.slice (some ⟨g, 0, none⟩) k cp)) rfl (by kernel_rfl) (by kernel_rfl) (by kernel_rfl) (fun _ _ _ h => h) (Or.inl ⟨by rfl, ?hy62⟩) (by assumption) ?rest62
            case hy62 => (intro w hSw; obtain ⟨⟨p0,p1⟩,p2,p3,p4⟩ := hSw; first | (go_simp; done) | (go_simp; simp [*]; done) | (simp [*]; go_simp; done))
            try simp only [Act.put, List.setIfInBounds_toArray, List.set_cons_zero, List.set_cons_succ]
            refine wpAnyH_take (i := 5) (oi := { dst := some 75, op := _, type := _, pos := _, after := _, guard := _ }) (v := ?v63) rfl (by kernel_rfl) (by kernel_rfl) (by kernel_rfl) (fun _ _ _ h => h) (Or.inl ⟨by rfl, ?hy63⟩) (by assumption) ?rest63
            case hy63 => (intro w hSw; obtain ⟨⟨p0,p1⟩,p2,p3,p4⟩ := hSw; go_simp; try with_reducible rfl)
            try simp only [Act.put, List.setIfInBounds_toArray, List.set_cons_zero, List.set_cons_succ]
            refine wpAnyH_take (i := 6) (oi := { dst := some 76, op := _, type := _, pos := _, after := _, guard := _ }) (v := (.pointer (some ⟨g, oT, none⟩))) rfl (by kernel_rfl) (by kernel_rfl) (by kernel_rfl) (fun _ _ _ h => h) (Or.inl ⟨by rfl, ?hy64⟩) (by assumption) ?rest64
            case hy64 => (intro w hSw; obtain ⟨⟨p0,p1⟩,p2,p3,p4⟩ := hSw; first | (go_simp; done) | (go_simp; simp [*]; done) | (simp [*]; go_simp; done))
            try simp only [Act.put, List.setIfInBounds_toArray, List.set_cons_zero, List.set_cons_succ]
            refine wpAnyH_take (i := 7) (oi := { dst := some 77, op := _, type := _, pos := _, after := _, guard := _ }) (v := (.agg #[.string x1, .int .u64 x2])) rfl (by kernel_rfl) (by kernel_rfl) (by kernel_rfl) (fun _ _ _ h => h) (Or.inl ⟨by rfl, ?hy65⟩) (by assumption) ?rest65
            case hy65 => (intro w hSw; obtain ⟨⟨p0,p1⟩,p2,p3,p4⟩ := hSw; first | (go_simp; done) | (go_simp; simp [*]; done) | (simp [*]; go_simp; done))
            try simp only [Act.put, List.setIfInBounds_toArray, List.set_cons_zero, List.set_cons_succ]
            refine wpAnyH_ready (rs := [8]) (by kernel_rfl) (by simp) ?_
            refine AllReadyH.cons (o := { dst := some 78, op := _, type := _, pos := _, after := _, guard := _ }) rfl (fun K hK => ?_) AllReadyH.nil
            go_simp
            refine MS.out.mono ?_
            rintro _ w8 ⟨rfl, hb8⟩
            have nu8 : ∀ {a : Addr} {u : Value}, wr.drew.cell? a = some u → w8.cell? a = some u := fun {a u} h => (hb8.cell (p := a) (World.block_lt_of_cell? _ _ h)).trans h
            have B8 : Kept (Below w2.heap.size w2 w8) := Below.up BW.out ((Below.refl _ wr).drew.trans hb8)
            refine hK.out _ _ ⟨⟨nu8 SL.out.1.1, nu8 SL.out.1.2⟩, nu8 SL.out.2.1, nu8 SL.out.2.2.1, nu8 SL.out.2.2.2⟩ (fun hHeld => ?_)
            try simp only [Act.put, List.setIfInBounds_toArray, List.set_cons_zero, List.set_cons_succ]
            clear hK hb8 nu8 MS
            refine wpAnyH_take (i := 9) (oi := { dst := some 79, op := _, type := _, pos := _, after := _, guard := _ }) (v := (.bool true)) rfl (by kernel_rfl) (by kernel_rfl) (by kernel_rfl) (fun _ _ _ h => h) (Or.inl ⟨by rfl, ?hy66⟩) (by assumption) ?rest66
            case hy66 => (intro w hSw; first | (go_simp; done) | (go_simp; simp [*]; done) | (simp [*]; go_simp; done))
            try simp only [Act.put, List.setIfInBounds_toArray, List.set_cons_zero, List.set_cons_succ]
            refine wpAnyH_done (by kernel_rfl) ?_ _
            clear hHeld
            obtain ⟨rz, fz, _, _⟩ := HK.out w8 (Below.up B2.out B8.out)
            have HD : Kept (Rof w b m (.slice (some ⟨g, 0, none⟩) k cp) (c1, c2) l (.returned (.bool false)) w8) := ⟨by rw [M1.out.2], _, all, rz, M1.out.1, fz⟩
            clear rz fz
            go_wp2
            first | exact HD.out | (go_ret; exact HD.out)
          · have M2 := keep (m2 hsn)
            clear hsn m1 m2
            go_wp2_with fail
            refine wp_region_held_drew (S := fun W => (W.cell? ⟨H, 0, none⟩ = some (.string c1) ∧ W.cell? ⟨H, 1, none⟩ = some (.int .u64 c2)) ∧ W.cell? ⟨b, 1, none⟩ = some (.slice (some ⟨g, 0, none⟩) k cp) ∧ W.cell? ⟨g, oT, none⟩ = some (.string x1) ∧ W.cell? ⟨g, oT + 1, none⟩ = some (.int .u64 x2)) (by kernel_rfl) SL.out (fun hHeld => ?_)
            refine wpAnyH_take (i := 0) (oi := { dst := some 70, op := _, type := _, pos := _, after := _, guard := _ }) (v := (.agg #[.string c1, .int .u64 c2])) rfl (by kernel_rfl) (by kernel_rfl) (by kernel_rfl) (fun _ _ _ h => h) (Or.inl ⟨by rfl, ?hy67⟩) (by assumption) ?rest67
            case hy67 => (intro w hSw; obtain ⟨⟨p0,p1⟩,p2,p3,p4⟩ := hSw; first | (go_simp; done) | (go_simp; simp [*]; done) | (simp [*]; go_simp; done))
            try simp only [Act.put, List.setIfInBounds_toArray, List.set_cons_zero, List.set_cons_succ]
            refine wpAnyH_take (i := 1) (oi := { dst := some 71, op := _, type := _, pos := _, after := _, guard := _ }) (v := ?v68) rfl (by kernel_rfl) (by kernel_rfl) (by kernel_rfl) (fun _ _ _ h => h) (Or.inl ⟨by rfl, ?hy68⟩) (by assumption) ?rest68
            case hy68 => (intro w hSw; obtain ⟨⟨p0,p1⟩,p2,p3,p4⟩ := hSw; go_simp; try with_reducible rfl)
            try simp only [Act.put, List.setIfInBounds_toArray, List.set_cons_zero, List.set_cons_succ]
            refine wpAnyH_take (i := 2) (oi := { dst := some 72, op := _, type := _, pos := _, after := _, guard := _ }) (v := ?v69) rfl (by kernel_rfl) (by kernel_rfl) (by kernel_rfl) (fun _ _ _ h => h) (Or.inl ⟨by rfl, ?hy69⟩) (by assumption) ?rest69
            case hy69 => (intro w hSw; obtain ⟨⟨p0,p1⟩,p2,p3,p4⟩ := hSw; go_simp; try with_reducible rfl)
            try simp only [Act.put, List.setIfInBounds_toArray, List.set_cons_zero, List.set_cons_succ]
            refine wpAnyH_take (i := 3) (oi := { dst := some 73, op := _, type := _, pos := _, after := _, guard := _ }) (v := ?v70) rfl (by kernel_rfl) (by kernel_rfl) (by kernel_rfl) (fun _ _ _ h => h) (Or.inl ⟨by rfl, ?hy70⟩) (by assumption) ?rest70
            case hy70 => (intro w hSw; obtain ⟨⟨p0,p1⟩,p2,p3,p4⟩ := hSw; go_simp; try with_reducible rfl)
            try simp only [Act.put, List.setIfInBounds_toArray, List.set_cons_zero, List.set_cons_succ]
            refine wpAnyH_take (i := 4) (oi := { dst := some 74, op := _, type := _, pos := _, after := _, guard := _ }) (v := (.slice (some ⟨g, 0, none⟩) k cp)) rfl (by kernel_rfl) (by kernel_rfl) (by kernel_rfl) (fun _ _ _ h => h) (Or.inl ⟨by rfl, ?hy71⟩) (by assumption) ?rest71
            case hy71 => (intro w hSw; obtain ⟨⟨p0,p1⟩,p2,p3,p4⟩ := hSw; first | (go_simp; done) | (go_simp; simp [*]; done) | (simp [*]; go_simp; done))
            try simp only [Act.put, List.setIfInBounds_toArray, List.set_cons_zero, List.set_cons_succ]
            refine wpAnyH_take (i := 5) (oi := { dst := some 75, op := _, type := _, pos := _, after := _, guard := _ }) (v := ?v72) rfl (by kernel_rfl) (by kernel_rfl) (by kernel_rfl) (fun _ _ _ h => h) (Or.inl ⟨by rfl, ?hy72⟩) (by assumption) ?rest72
            case hy72 => (intro w hSw; obtain ⟨⟨p0,p1⟩,p2,p3,p4⟩ := hSw; go_simp; try with_reducible rfl)
            try simp only [Act.put, List.setIfInBounds_toArray, List.set_cons_zero, List.set_cons_succ]
            refine wpAnyH_take (i := 6) (oi := { dst := some 76, op := _, type := _, pos := _, after := _, guard := _ }) (v := (.pointer (some ⟨g, oT, none⟩))) rfl (by kernel_rfl) (by kernel_rfl) (by kernel_rfl) (fun _ _ _ h => h) (Or.inl ⟨by rfl, ?hy73⟩) (by assumption) ?rest73
            case hy73 => (intro w hSw; obtain ⟨⟨p0,p1⟩,p2,p3,p4⟩ := hSw; first | (go_simp; done) | (go_simp; simp [*]; done) | (simp [*]; go_simp; done))
            try simp only [Act.put, List.setIfInBounds_toArray, List.set_cons_zero, List.set_cons_succ]
            refine wpAnyH_take (i := 7) (oi := { dst := some 77, op := _, type := _, pos := _, after := _, guard := _ }) (v := (.agg #[.string x1, .int .u64 x2])) rfl (by kernel_rfl) (by kernel_rfl) (by kernel_rfl) (fun _ _ _ h => h) (Or.inl ⟨by rfl, ?hy74⟩) (by assumption) ?rest74
            case hy74 => (intro w hSw; obtain ⟨⟨p0,p1⟩,p2,p3,p4⟩ := hSw; first | (go_simp; done) | (go_simp; simp [*]; done) | (simp [*]; go_simp; done))
            try simp only [Act.put, List.setIfInBounds_toArray, List.set_cons_zero, List.set_cons_succ]
            refine wpAnyH_ready (rs := [8]) (by kernel_rfl) (by simp) ?_
            refine AllReadyH.cons (o := { dst := some 78, op := _, type := _, pos := _, after := _, guard := _ }) rfl (fun K hK => ?_) AllReadyH.nil
            go_simp
            refine MS.out.mono ?_
            rintro _ w8 ⟨rfl, hb8⟩
            have nu8 : ∀ {a : Addr} {u : Value}, wr.drew.cell? a = some u → w8.cell? a = some u := fun {a u} h => (hb8.cell (p := a) (World.block_lt_of_cell? _ _ h)).trans h
            have B8 : Kept (Below w2.heap.size w2 w8) := Below.up BW.out ((Below.refl _ wr).drew.trans hb8)
            refine hK.out _ _ ⟨⟨nu8 SL.out.1.1, nu8 SL.out.1.2⟩, nu8 SL.out.2.1, nu8 SL.out.2.2.1, nu8 SL.out.2.2.2⟩ (fun hHeld => ?_)
            try simp only [Act.put, List.setIfInBounds_toArray, List.set_cons_zero, List.set_cons_succ]
            clear hK hb8 nu8 MS
            refine wpAnyH_take (i := 9) (oi := { dst := some 79, op := _, type := _, pos := _, after := _, guard := _ }) (v := (.bool false)) rfl (by kernel_rfl) (by kernel_rfl) (by kernel_rfl) (fun _ _ _ h => h) (Or.inl ⟨by rfl, ?hy75⟩) (by assumption) ?rest75
            case hy75 => (intro w hSw; first | (go_simp; done) | (go_simp; simp [*]; done) | (simp [*]; go_simp; done))
            try simp only [Act.put, List.setIfInBounds_toArray, List.set_cons_zero, List.set_cons_succ]
            refine wpAnyH_done (by kernel_rfl) ?_ _
            clear hHeld
            obtain ⟨rz, fz, gz, _⟩ := HK.out w8 (Below.up B2.out B8.out)
            obtain ⟨s1, s2⟩ := rp_set2 (c := (c1, c2)) (show Rp w8.drew b (.slice (some ⟨g, 0, none⟩) k cp) m all from rz) HN.out htn
            obtain ⟨_, tw, tz⟩ := row_set (c := (c1, c2)) (show Row w8.drew (.slice (some ⟨g, 0, none⟩) k cp) all from rz.2.1) HN.out htn
            obtain ⟨u0, hu0, u1, hu1⟩ := tw t htn
            rw [← HOT.out] at s1 s2 hu0 hu1
            dsimp only at s1 s2
            obtain ⟨W9, hW9⟩ : ∃ x, ((w8.setCell ⟨g, oT, none⟩ (.string c1)).setCell ⟨g, oT + 1, none⟩ (.int .u64 c2)).drew = x := ⟨_, rfl⟩
            have s1 : Rp W9 b (.slice (some ⟨g, 0, none⟩) k cp) m (all.set t (c1, c2)) := by rw [← hW9]; exact s1
            have s2 : Only g w8.drew W9 := by rw [← hW9]; exact s2
            have hu0w : w8.cell? ⟨g, oT, none⟩ = some u0 := hu0
            have hu1w : w8.cell? ⟨g, oT + 1, none⟩ = some u1 := hu1
            have tzw : ∀ i, w8.frozen? ⟨g, i, none⟩ = false := tz
            have hHg : H ≠ g := fun e => HH.out.1 (by rw [e]; simp [bl, Value.ownBlock])
            have gz9 : W9.heap[H]? = some (.cells #[.string c1, .int .u64 c2] 32 (0, 0)) := (s2.2.2 H hHg).trans gz
            have S19 : Kept (w8.drew.cell? ⟨b, 1, none⟩ = some (.slice (some ⟨g, 0, none⟩) k cp) ∧ w8.drew.cell? ⟨H, 0, none⟩ = some (.string c1) ∧ w8.drew.cell? ⟨H, 1, none⟩ = some (.int .u64 c2)) := ⟨rz.cells.2.1, (cells_two gz).1, (cells_two gz).2.1⟩
            have S199 : Kept (W9.cell? ⟨b, 1, none⟩ = some (.slice (some ⟨g, 0, none⟩) k cp) ∧ W9.cell? ⟨H, 0, none⟩ = some (.string c1) ∧ W9.cell? ⟨H, 1, none⟩ = some (.int .u64 c2)) := ⟨s1.cells.2.1, (cells_two gz9).1, (cells_two gz9).2.1⟩
            have HD : Kept (Rof w b m (.slice (some ⟨g, 0, none⟩) k cp) (c1, c2) l (.returned (.bool true)) W9) := by
              refine ⟨by rw [M2.out.2], _, _, s1, M2.out.1, fz.trans ?_⟩
              exact s2.fmIn (by simp [bl, Value.ownBlock])
            have hu1' : (w8.drew.setCell ⟨g, oT, none⟩ (.string c1)).cell? ⟨g, oT + 1, none⟩ = some u1 := by rw [World.cell?_setCell_other _ _ _ _ (by simp)]; exact hu1
            have tz' : ∀ i, (w8.drew.setCell ⟨g, oT, none⟩ (.string c1)).frozen? ⟨g, i, none⟩ = false := fun i => by rw [World.frozen?_setCell]; exact tz i
            clear rz fz gz s1 s2 gz9 tw hu1
            go_wp2_with fail
            refine wp_region_held_drew (S := fun W => W.cell? ⟨b, 1, none⟩ = some (.slice (some ⟨g, 0, none⟩) k cp) ∧ W.cell? ⟨H, 0, none⟩ = some (.string c1) ∧ W.cell? ⟨H, 1, none⟩ = some (.int .u64 c2)) (by kernel_rfl) S19.out (fun hHeld => ?_)
            refine wpAnyH_take (i := 0) (oi := { dst := some 80, op := _, type := _, pos := _, after := _, guard := _ }) (v := ?v76) rfl (by kernel_rfl) (by kernel_rfl) (by kernel_rfl) (fun _ _ _ h => h) (Or.inl ⟨by rfl, ?hy76⟩) (by assumption) ?rest76
            case hy76 => (intro w hSw; obtain ⟨p0,p1,p2⟩ := hSw; go_simp; try with_reducible rfl)
            try simp only [Act.put, List.setIfInBounds_toArray, List.set_cons_zero, List.set_cons_succ]
            refine wpAnyH_take (i := 1) (oi := { dst := some 81, op := _, type := _, pos := _, after := _, guard := _ }) (v := ?v77) rfl (by kernel_rfl) (by kernel_rfl) (by kernel_rfl) (fun _ _ _ h => h) (Or.inl ⟨by rfl, ?hy77⟩) (by assumption) ?rest77
            case hy77 => (intro w hSw; obtain ⟨p0,p1,p2⟩ := hSw; go_simp; try with_reducible rfl)
            try simp only [Act.put, List.setIfInBounds_toArray, List.set_cons_zero, List.set_cons_succ]
            refine wpAnyH_take (i := 2) (oi := { dst := some 82, op := _, type := _, pos := _, after := _, guard := _ }) (v := ?v78) rfl (by kernel_rfl) (by kernel_rfl) (by kernel_rfl) (fun _ _ _ h => h) (Or.inl ⟨by rfl, ?hy78⟩) (by assumption) ?rest78
            case hy78 => (intro w hSw; obtain ⟨p0,p1,p2⟩ := hSw; go_simp; try with_reducible rfl)
            try simp only [Act.put, List.setIfInBounds_toArray, List.set_cons_zero, List.set_cons_succ]
            refine wpAnyH_take (i := 3) (oi := { dst := some 83, op := _, type := _, pos := _, after := _, guard := _ }) (v := (.slice (some ⟨g, 0, none⟩) k cp)) rfl (by kernel_rfl) (by kernel_rfl) (by kernel_rfl) (fun _ _ _ h => h) (Or.inl ⟨by rfl, ?hy79⟩) (by assumption) ?rest79
            case hy79 => (intro w hSw; obtain ⟨p0,p1,p2⟩ := hSw; first | (go_simp; done) | (go_simp; simp [*]; done) | (simp [*]; go_simp; done))
            try simp only [Act.put, List.setIfInBounds_toArray, List.set_cons_zero, List.set_cons_succ]
            refine wpAnyH_take (i := 4) (oi := { dst := some 84, op := _, type := _, pos := _, after := _, guard := _ }) (v := ?v80) rfl (by kernel_rfl) (by kernel_rfl) (by kernel_rfl) (fun _ _ _ h => h) (Or.inl ⟨by rfl, ?hy80⟩) (by assumption) ?rest80
            case hy80 => (intro w hSw; obtain ⟨p0,p1,p2⟩ := hSw; go_simp; try with_reducible rfl)
            try simp only [Act.put, List.setIfInBounds_toArray, List.set_cons_zero, List.set_cons_succ]
            refine wpAnyH_take (i := 5) (oi := { dst := some 85, op := _, type := _, pos := _, after := _, guard := _ }) (v := (.agg #[.string c1, .int .u64 c2])) rfl (by kernel_rfl) (by kernel_rfl) (by kernel_rfl) (fun _ _ _ h => h) (Or.inl ⟨by rfl, ?hy81⟩) (by assumption) ?rest81
            case hy81 => (intro w hSw; obtain ⟨p0,p1,p2⟩ := hSw; first | (go_simp; done) | (go_simp; simp [*]; done) | (simp [*]; go_simp; done))
            try simp only [Act.put, List.setIfInBounds_toArray, List.set_cons_zero, List.set_cons_succ]
            refine wpAnyH_take (i := 6) (oi := { dst := some 86, op := _, type := _, pos := _, after := _, guard := _ }) (v := (.pointer (some ⟨g, oT, none⟩))) rfl (by kernel_rfl) (by kernel_rfl) (by kernel_rfl) (fun _ _ _ h => h) (Or.inl ⟨by rfl, ?hy82⟩) (by assumption) ?rest82
            case hy82 => (intro w hSw; obtain ⟨p0,p1,p2⟩ := hSw; first | (go_simp; done) | (go_simp; simp [*]; done) | (simp [*]; go_simp; done))
            try simp only [Act.put, List.setIfInBounds_toArray, List.set_cons_zero, List.set_cons_succ]
            refine wpAnyH_ready (rs := [7]) (by kernel_rfl) (by simp) ?_
            refine AllReadyH.cons (o := { dst := none, op := _, type := _, pos := _, after := _, guard := _ }) rfl (fun K hK => ?_) AllReadyH.nil
            go_simp
            try rw [hW9]
            refine hK.out _ _ S199.out (fun hHeld => ?_)
            try simp only [Act.put, List.setIfInBounds_toArray, List.set_cons_zero, List.set_cons_succ]
            clear hK
            refine wpAnyH_done (by kernel_rfl) ?_ _
            clear hHeld hu0 hu1' tz tz' hu0w hu1w tzw
            go_wp2
            first | exact HD.out | (go_ret; exact HD.out)
  · -- the key is there: it has another rank now
    obtain ⟨m1, m2⟩ := ref_found (m := m) (c := (c1, c2)) HP.out HG.out (by have := HL.out; omega) hpx
    have hpl := (List.getElem?_eq_some_iff.1 hpx).1
    have hpn : p < n := by have := HN.out; omega
    obtain ⟨g, hg'⟩ := HAO.out (by omega)
    subst hg'
    obtain ⟨s1, s2'⟩ := rp_set1 (c := (c1, c2)) (show Rp w2.drew b (.slice (some ⟨g, 0, none⟩) n cp) m all from r2) HN.out hpx
    obtain ⟨e0, e1⟩ := (show Row w2.drew (.slice (some ⟨g, 0, none⟩) n cp) all from r2.2.1).two HN.out hpx
    obtain ⟨_, _, tz⟩ := row_set (c := (c1, c2)) (show Row w2.drew (.slice (some ⟨g, 0, none⟩) n cp) all from r2.2.1) HN.out hpn
    obtain ⟨oP, hoP⟩ : ∃ o, o = p * 2 := ⟨_, rfl⟩
    rw [← hoP] at s1 s2' e0 e1
    dsimp only at s1 s2' e0 e1
    obtain ⟨W9, hW9⟩ : ∃ x, w2.drew.setCell ⟨g, oP + 1, none⟩ (.int .u64 c2) = x := ⟨_, rfl⟩
    rw [hW9] at s1 s2'
    have hHg : H ≠ g := fun e => HH.out.1 (by rw [e]; simp [bl, Value.ownBlock])
    have gz9 : W9.heap[H]? = some (.cells #[.string c1, .int .u64 c2] 32 (0, 0)) := (s2'.2.2 H hHg).trans g2
    have S5 : Kept (w2.drew.cell? ⟨b, 1, none⟩ = some (.slice (some ⟨g, 0, none⟩) n cp) ∧ w2.drew.cell? ⟨H, 1, none⟩ = some (.int .u64 c2)) := ⟨r2.cells.2.1, (cells_two g2).2.1⟩
    have S59 : Kept (W9.cell? ⟨b, 1, none⟩ = some (.slice (some ⟨g, 0, none⟩) n cp) ∧ W9.cell? ⟨H, 1, none⟩ = some (.int .u64 c2)) := ⟨s1.cells.2.1, (cells_two gz9).2.1⟩
    have HD : Kept (Rof w b m (.slice (some ⟨g, 0, none⟩) n cp) (c1, c2) l (.returned (.bool true)) W9) := by
      refine ⟨by rw [m2], _, _, s1, m1, f2.trans ?_⟩
      exact Only.fmIn (w := w2.drew) s2' (by simp [bl, Value.ownBlock])
    have hoP' : p * 2 = oP := hoP.symm
    have p0 : (0 : Int) ≤ (p : Int) := by omega
    have p1 : (p : Int) < (n : Int) := by omega
    have hge : decide ((0 : Int) ≤ (p : Int)) = true := decide_eq_true p0
    clear m1 m2 hpl hpx s1 s2' gz9 r2 f2 g2 s2 e0 hoP
    go_wp2_with fail
    refine wp_region_held_drew (S := fun W => W.cell? ⟨b, 1, none⟩ = some (.slice (some ⟨g, 0, none⟩) n cp) ∧ W.cell? ⟨H, 1, none⟩ = some (.int .u64 c2)) (by kernel_rfl) S5.out (fun hHeld => ?_)
    refine wpAnyH_take (i := 0) (oi := { dst := some 16, op := _, type := _, pos := _, after := _, guard := _ }) (v := ?v83) rfl (by kernel_rfl) (by kernel_rfl) (by kernel_rfl) (fun _ _ _ h => h) (Or.inl ⟨by rfl, ?hy83⟩) (by assumption) ?rest83
    case hy83 => (intro w hSw; obtain ⟨p2,p3⟩ := hSw; go_simp; try with_reducible rfl)
    try simp only [Act.put, List.setIfInBounds_toArray, List.set_cons_zero, List.set_cons_succ]
    refine wpAnyH_take (i := 1) (oi := { dst := some 17, op := _, type := _, pos := _, after := _, guard := _ }) (v := ?v84) rfl (by kernel_rfl) (by kernel_rfl) (by kernel_rfl) (fun _ _ _ h => h) (Or.inl ⟨by rfl, ?hy84⟩) (by assumption) ?rest84
    case hy84 => (intro w hSw; obtain ⟨p2,p3⟩ := hSw; go_simp; try with_reducible rfl)
    try simp only [Act.put, List.setIfInBounds_toArray, List.set_cons_zero, List.set_cons_succ]
    refine wpAnyH_take (i := 2) (oi := { dst := some 18, op := _, type := _, pos := _, after := _, guard := _ }) (v := ?v85) rfl (by kernel_rfl) (by kernel_rfl) (by kernel_rfl) (fun _ _ _ h => h) (Or.inl ⟨by rfl, ?hy85⟩) (by assumption) ?rest85
    case hy85 => (intro w hSw; obtain ⟨p2,p3⟩ := hSw; go_simp; try with_reducible rfl)
    try simp only [Act.put, List.setIfInBounds_toArray, List.set_cons_zero, List.set_cons_succ]
    refine wpAnyH_take (i := 3) (oi := { dst := some 19, op := _, type := _, pos := _, after := _, guard := _ }) (v := (.slice (some ⟨g, 0, none⟩) n cp)) rfl (by kernel_rfl) (by kernel_rfl) (by kernel_rfl) (fun _ _ _ h => h) (Or.inl ⟨by rfl, ?hy86⟩) (by assumption) ?rest86
    case hy86 => (intro w hSw; obtain ⟨p2,p3⟩ := hSw; first | (go_simp; done) | (go_simp; simp [*]; done) | (simp [*]; go_simp; done))
    try simp only [Act.put, List.setIfInBounds_toArray, List.set_cons_zero, List.set_cons_succ]
    refine wpAnyH_take (i := 4) (oi := { dst := some 20, op := _, type := _, pos := _, after := _, guard := _ }) (v := ?v87) rfl (by kernel_rfl) (by kernel_rfl) (by kernel_rfl) (fun _ _ _ h => h) (Or.inl ⟨by rfl, ?hy87⟩) (by assumption) ?rest87
    case hy87 => (intro w hSw; obtain ⟨p2,p3⟩ := hSw; go_simp; try with_reducible rfl)
    try simp only [Act.put, List.setIfInBounds_toArray, List.set_cons_zero, List.set_cons_succ]
    refine wpAnyH_take (i := 5) (oi := { dst := some 21, op := _, type := _, pos := _, after := _, guard := _ }) (v := ?v88) rfl (by kernel_rfl) (by kernel_rfl) (by kernel_rfl) (fun _ _ _ h => h) (Or.inl ⟨by rfl, ?hy88⟩) (by assumption) ?rest88
    case hy88 => (intro w hSw; obtain ⟨p2,p3⟩ := hSw; go_simp; try with_reducible rfl)
    try simp only [Act.put, List.setIfInBounds_toArray, List.set_cons_zero, List.set_cons_succ]
    refine wpAnyH_take (i := 6) (oi := { dst := some 22, op := _, type := _, pos := _, after := _, guard := _ }) (v := (.int .u64 c2)) rfl (by kernel_rfl) (by kernel_rfl) (by kernel_rfl) (fun _ _ _ h => h) (Or.inl ⟨by rfl, ?hy89⟩) (by assumption) ?rest89
    case hy89 => (intro w hSw; obtain ⟨p2,p3⟩ := hSw; first | (go_simp; done) | (go_simp; simp [*]; done) | (simp [*]; go_simp; done))
    try simp only [Act.put, List.setIfInBounds_toArray, List.set_cons_zero, List.set_cons_succ]
    refine wpAnyH_take (i := 7) (oi := { dst := some 23, op := _, type := _, pos := _, after := _, guard := _ }) (v := (.pointer (some ⟨g, oP, none⟩))) rfl (by kernel_rfl) (by kernel_rfl) (by kernel_rfl) (fun _ _ _ h => h) (Or.inl ⟨by rfl, ?hy90⟩) (by assumption) ?rest90
    case hy90 => (intro w hSw; obtain ⟨p2,p3⟩ := hSw; first | (go_simp; done) | (go_simp; simp [*]; done) | (simp [*]; go_simp; done))
    try simp only [Act.put, List.setIfInBounds_toArray, List.set_cons_zero, List.set_cons_succ]
    refine wpAnyH_take (i := 8) (oi := { dst := some 24, op := _, type := _, pos := _, after := _, guard := _ }) (v := (.pointer (some ⟨g, oP + 1, none⟩))) rfl (by kernel_rfl) (by kernel_rfl) (by kernel_rfl) (fun _ _ _ h => h) (Or.inl ⟨by rfl, ?hy91⟩) (by assumption) ?rest91
    case hy91 => (intro w hSw; obtain ⟨p2,p3⟩ := hSw; first | (go_simp; done) | (go_simp; simp [*]; done) | (simp [*]; go_simp; done))
    try simp only [Act.put, List.setIfInBounds_toArray, List.set_cons_zero, List.set_cons_succ]
    refine wpAnyH_ready (rs := [9]) (by kernel_rfl) (by simp) ?_
    refine AllReadyH.cons (o := { dst := none, op := _, type := _, pos := _, after := _, guard := _ }) rfl (fun K hK => ?_) AllReadyH.nil
    go_simp
    try rw [hW9]
    refine hK.out _ _ S59.out (fun hHeld => ?_)
    try simp only [Act.put, List.setIfInBounds_toArray, List.set_cons_zero, List.set_cons_succ]
    clear hK
    refine wpAnyH_done (by kernel_rfl) ?_ _
    clear hHeld e1 tz
    go_wp2
    first | exact HD.out | (go_ret; exact HD.out)
end Go.Proofs.Ytgniiojeeobffaa
