/-
  Contracts over this program: the statements' own spoil and row: what Range tells is that, in memory of its own.
-/
import Derived.Test.YtapehjlpiobeaaaRkRef5
namespace Go.Proofs.Ytapehjlpiobeaaa
open Go.RowKit Go.Shelf
set_option linter.unusedVariables false
set_option linter.unusedSimpArgs false
set_option maxRecDepth 100000
/-- nothing has turned but the block of one row, and new ones -/
def FU (u : Value) (w w' : World) : Prop := (w'.os = w.os ∧ w'.tape = w.tape ∧ w'.output = w.output) ∧ w.heap.size ≤ w'.heap.size ∧ ∀ k, k < w.heap.size → u.ownBlock ≠ some k → w'.heap[k]? = w.heap[k]?
theorem FU.refl (u : Value) (w : World) : FU u w w := ⟨⟨rfl, rfl, rfl⟩, Nat.le_refl _, fun _ _ _ => rfl⟩
theorem FU.only {u : Value} {w w1 w2 : World} {g : Nat} (h : FU u w w1) (ho : Only g w1 w2) (hg : u.ownBlock = some g) : FU u w w2 :=
  ⟨⟨ho.1.1.trans h.1.1, ho.1.2.1.trans h.1.2.1, ho.1.2.2.trans h.1.2.2⟩, by rw [ho.2.1]; exact h.2.1, fun k hk hn => (ho.2.2 k (fun e => hn (by rw [hg, e]))).trans (h.2.2 k hk hn)⟩
theorem FU.grown {u u1 : Value} {w w1 w2 : World} (h : FU u w w1) (hg : w1.grownBy w2 u1.ownBlock) (hu : ∀ k, u1.ownBlock = some k → u.ownBlock = some k ∨ w.heap.size ≤ k) : FU u w w2 :=
  ⟨⟨hg.os.trans h.1.1, hg.tape.trans h.1.2.1, hg.output.trans h.1.2.2⟩, Nat.le_trans h.2.1 hg.size, fun k hk hn => (hg.block k (Nat.lt_of_lt_of_le hk h.2.1) (fun e => by
    rcases hu k e.symm with h' | h'
    · exact hn h'
    · omega)).trans (h.2.2 k hk hn)⟩
theorem FU.below {u : Value} {w w1 w2 : World} (h : FU u w w1) (hb : Below w1.heap.size w1 w2) : FU u w w2 :=
  ⟨⟨hb.os.trans h.1.1, hb.tape.trans h.1.2.1, hb.output.trans h.1.2.2⟩, Nat.le_trans h.2.1 hb.size, fun k hk hn => (hb.block k (Nat.lt_of_lt_of_le hk h.2.1)).trans (h.2.2 k hk hn)⟩
/-- one more behind a row -/
theorem rn_app {w : World} {v : Value} {l : List Ent} {c : Ent} {vb : Nat} (h : Rn w v l) (hv : w.heap[vb]? = some (.cells #[.string c.1, .float .f64 c.2] 46 (0, 0))) (hn : l.length ≤ 2000000) :
    ∃ ao n cp w', (Builtin.append_ #[41, 41] 41 #[v, .slice (some ⟨vb, 0, none⟩) 1 1]).run Try.prog w = .ok (.slice ao n cp) w' ∧ Rn w' (.slice ao n cp) (l ++ [c]) ∧ w.grownBy w' v.ownBlock ∧ ((Value.slice ao n cp).ownBlock = v.ownBlock ∨ (Value.slice ao n cp).ownBlock = some w.heap.size) := by
  obtain ⟨i0, hi0, hz0, hz1, hz2⟩ := info_parts info_rk
  have uT := Try.underlying41
  obtain ⟨v', W, r1, r2, r3, r4, r5⟩ := run_append_own_at (P := Try.prog) w 0 41 41 46 i0 _ 2 24 uT hi0 hz0 hz1 hz2 (by simp [Value.cells]) (by decide) v l.length (enR l) h ⟨vb, 0, none⟩ 1 1 (mc c.1 c.2) rfl (mc_cell hv) mc_one (by unfold maxLen; omega) (by omega) (Nat.zero_le _)
  have hr : Rn W v' (l ++ [c]) := by unfold Rn; rw [List.length_append, enR_app]; exact r2
  obtain ⟨ao, cp, rfl, _⟩ := hr.form
  exact ⟨ao, _, cp, W, r1, hr, r3, r5⟩
set_option maxHeartbeats 4000000 in
theorem spoil_any (w : World) (u : Value) (l : List Ent) (h : Rn w u l) (hn : l.length ≤ 1100000) :
    Calls Try.prog 37 #[u] w fun e w' => e = .returned (.tuple #[]) ∧ FU u w w' := by
  have sf : ∀ (x : Nat) (w : World) (a : Addr), (store a (.float .f64 x)).run Try.prog w = stored Try.prog w a (.float .f64 x) .plain := fun x w a => run_store _ w a _ _ rfl
  obtain ⟨ao, cp, hu, hao⟩ := h.form
  subst hu
  obtain ⟨n, hln⟩ : ∃ n, l.length = n := ⟨_, rfl⟩
  rw [hln] at h hao ⊢
  have HR := keep h
  have HLN := keep hln
  have HAO := keep hao
  have HN : Kept (n ≤ 1100000) := by rw [← hln]; exact hn
  clear h hln hao hn
  go_enter Try.func37, Try.ntmps37
  go_wp2
  go_loopg [5] n (fun kx s wr => ∃ i : Nat, s = .int .i64 i ∧ i ≤ n ∧ n - i ≤ kx ∧ ∃ l', Kept (Rn wr (.slice ao n cp) l' ∧ l'.length = n ∧ FU (.slice ao n cp) w wr))
  case atStart => exact ⟨0, rfl, Nat.zero_le _, by omega, l, HR.out, HLN.out, FU.refl _ _⟩
  case round =>
    obtain ⟨i, rfl, hin, hgi, l', KR⟩ := hrel
    by_cases hlt : i < n
    · obtain ⟨g, hg⟩ := HAO.out (by omega)
      subst hg
      obtain ⟨r1, ⟨u0, hu0, u1, hu1⟩, tz⟩ := rn_put (c := (⟨#[126]⟩, 13858490847093325824)) KR.out.1 KR.out.2.1 hlt
      obtain ⟨oI, hoI⟩ : ∃ o, o = i * 2 := ⟨_, rfl⟩
      rw [← hoI] at r1 hu0 hu1
      dsimp only at r1
      have hoI' : i * 2 = oI := hoI.symm
      have i0 : (0 : Int) ≤ (i : Int) := by omega
      have i1 : (i : Int) < (n : Int) := by omega
      have hwi : IntKind.i64.wrap ((i : Int) + 1) = (i : Int) + 1 := by have := HN.out; rw [IntKind.wrap_i64]; omega
      obtain ⟨W9, hW9⟩ : ∃ x, (wr.setCell ⟨g, oI, none⟩ (.string { data := #[126] })).setCell ⟨g, oI + 1, none⟩ (.float .f64 13858490847093325824) = x := ⟨_, rfl⟩
      have hO : Only g wr W9 := by rw [← hW9]; exact ((Only.refl g wr).setCell _ _).setCell _ _
      rw [hW9] at r1
      have K9 : Kept (Rn W9 (.slice (some ⟨g, 0, none⟩) n cp) (l'.set i (⟨#[126]⟩, 13858490847093325824)) ∧ (l'.set i (⟨#[126]⟩, 13858490847093325824)).length = n ∧ FU (.slice (some ⟨g, 0, none⟩) n cp) w W9) := ⟨r1, by rw [List.length_set]; exact KR.out.2.1, KR.out.2.2.only hO rfl⟩
      have hu1' : (wr.setCell ⟨g, oI, none⟩ (.string { data := #[126] })).cell? ⟨g, oI + 1, none⟩ = some u1 := by rw [World.cell?_setCell_other _ _ _ _ (by simp)]; exact hu1
      have tz' : ∀ i, (wr.setCell ⟨g, oI, none⟩ (.string { data := #[126] })).frozen? ⟨g, i, none⟩ = false := fun i => by rw [World.frozen?_setCell]; exact tz i
      clear r1 hO hoI KR
      go_wp2
      go_roundg (n - (i + 1))
      case measure => omega
      case rel => exact ⟨i + 1, by simp, by omega, Nat.le_refl _, _, K9.out⟩
    · obtain rfl : i = n := by omega
      obtain ⟨wq, hwq⟩ : ∃ x, x = wr := ⟨_, rfl⟩
      subst hwq
      go_wp2_with fail
      go_loopg [0, 13] 20 (fun kx s0 s wz => ∃ j : Nat, s = .int .i64 j ∧ j ≤ 20 ∧ 20 - j ≤ kx ∧ ∃ bo bn bc l2, s0 = .slice bo bn bc ∧ Kept (Rn wz (.slice bo bn bc) l2 ∧ l2.length ≤ 1100000 + j ∧ FU (.slice ao i cp) w wz ∧ ∀ k, (Value.slice bo bn bc).ownBlock = some k → (Value.slice ao i cp).ownBlock = some k ∨ w.heap.size ≤ k))
      case atStart => exact ⟨0, rfl, by omega, by omega, ao, i, cp, l', rfl, KR.out.1, by have := KR.out.2.1; have := HN.out; omega, KR.out.2.2, fun k hk => .inl hk⟩
      case round =>
        obtain ⟨j, rfl, hj, hgj, bo, bn, bc, l2, rfl, K2⟩ := hrel
        by_cases hjl : j < 20
        · have hjz : (j : Int) < 20 := by omega
          have hjw : IntKind.i64.wrap ((j : Int) + 1) = (j : Int) + 1 := by rw [IntKind.wrap_i64]; omega
          obtain ⟨W3, hW3⟩ : ∃ x, wr.alloc (.cells #[.string { data := #[126] }, .float .f64 13858490847093325824] 46) = x := ⟨_, rfl⟩
          have hb3 : Below wr.heap.size wr W3 := by rw [← hW3]; exact (Below.refl _ wr).alloc (Nat.le_refl _) _
          have g3 : W3.heap[wr.heap.size]? = some (.cells #[.string { data := #[126] }, .float .f64 13858490847093325824] 46 (0, 0)) := by rw [← hW3]; exact heap_alloc_new _ _
          obtain ⟨q1, q2, q3, q4⟩ := K2.out
          obtain ⟨co, cn, cc, W4, ha, hr, hgr, how⟩ := rn_app (c := (⟨#[126]⟩, 13858490847093325824)) (q1.bel hb3) g3 (by omega)
          have K4 : Kept (Rn W4 (.slice co cn cc) (l2 ++ [(⟨#[126]⟩, 13858490847093325824)]) ∧ (l2 ++ [((⟨#[126]⟩ : ByteArray), (13858490847093325824 : Nat))]).length ≤ 1100000 + (j + 1) ∧ FU (.slice ao i cp) w W4 ∧ ∀ k, (Value.slice co cn cc).ownBlock = some k → (Value.slice ao i cp).ownBlock = some k ∨ w.heap.size ≤ k) := by
            refine ⟨hr, by rw [List.length_append]; simp; omega, (q3.below hb3).grown hgr q4, fun k hk => ?_⟩
            rcases how with e | e
            · exact q4 k (by rw [← e]; exact hk)
            · rw [e] at hk; cases hk; right; have := q3.2.1; have := hb3.size; omega
          have HA := keep ha
          clear q1 q2 q3 q4 hr hgr how ha hb3 g3 K2
          go_wp2_with (at_builtin; refine wpList_app_run rfl _ _ _ _ rfl _ _ _ rfl rfl HA.out ?_)
          go_roundg (20 - (j + 1))
          case measure => omega
          case rel => exact ⟨j + 1, by simp, by omega, Nat.le_refl _, co, cn, cc, _, rfl, K4.out⟩
        · obtain rfl : j = 20 := by omega
          have HF := keep K2.out.2.2.1
          go_wp2
          go_end0
          exact ⟨rfl, HF.out⟩
/-- ranks of the program and the document's own, side by side: they hold the same -/
structure Pr (w : World) (O : Nat → Prop) (R seed : Nat) (L : List Ent) (b : Nat) (v : Value) (M : List Ent) : Prop where
  rk : RK w O R seed L
  rp : Rp w b v M
  dis : ∀ k ∈ rbl b v, ¬ O k
  sm : Sm L M
def PO (O : Nat → Prop) (b : Nat) (v : Value) (k : Nat) : Prop := O k ∨ k ∈ rbl b v
theorem Pr.bel {w w' : World} {O : Nat → Prop} {R seed b : Nat} {L M : List Ent} {v : Value} (h : Pr w O R seed L b v M) (hb : Below w.heap.size w w') : Pr w' O R seed L b v M := ⟨h.rk.below hb, h.rp.bel hb, h.dis, h.sm⟩
theorem Pr.perm {w : World} {O : Nat → Prop} {R seed b : Nat} {L M : List Ent} {v : Value} (h : Pr w O R seed L b v M) : L.Perm M := h.sm.perm h.rk.math.2.2.2
theorem Pr.len {w : World} {O : Nat → Prop} {R seed b : Nat} {L M : List Ent} {v : Value} (h : Pr w O R seed L b v M) : M.length = L.length ∧ M.length ≤ 1048576 := ⟨h.perm.length_eq.symm, by rw [← h.perm.length_eq]; exact h.rk.math.2.2.1⟩
theorem FU.bel {u : Value} {w0 w w' : World} (h : FU u w w') (hb : Below w0.heap.size w0 w) (hu : ∀ k, u.ownBlock = some k → w0.heap.size ≤ k) : Below w0.heap.size w0 w' :=
  ⟨h.1.1.trans hb.os, h.1.2.1.trans hb.tape, h.1.2.2.trans hb.output, Nat.le_trans hb.size h.2.1, fun k hk => (h.2.2 k (Nat.lt_of_lt_of_le hk hb.size) (fun e => by have := hu k e; omega)).trans (hb.block k hk)⟩
theorem FU.row {u x : Value} {w w' : World} {l : List Ent} (h : FU u w w') (hr : Rn w x l) (hd : ∀ k, x.ownBlock = some k → u.ownBlock ≠ some k) : Rn w' x l := hr.kept (fun k hk => h.2.2 k (own_lt hr hk) (hd k hk))
theorem same_rn (w : World) (a b : Value) (N : List Ent) (ha : Rn w a N) (hb : Rn w b N) (hl : N.length ≤ 2000000) : Calls Try.prog 20 #[a, b] w fun e w' => e = .returned (.bool true) ∧ Below w.heap.size w w' := by
  obtain ⟨o1, c1, rfl, _⟩ := ha.form
  obtain ⟨o2, c2, rfl, _⟩ := hb.form
  exact rsame_any w 0 0 N.length c1 c2 o1 o2 N ha hb rfl hl
set_option maxHeartbeats 4000000 in
theorem row_any (w : World) (O : Nat → Prop) (R seed b : Nat) (v : Value) (L M : List Ent) (A B : Int) (h : Pr w O R seed L b v M) :
    Calls Try.prog 11 #[.pointer (some ⟨R, 0, none⟩), .pointer (some ⟨b, 0, none⟩), .int .i64 A, .int .i64 B] w fun e w' => e = .returned (.bool true) ∧ Below w.heap.size w w' := by
  have hlm : (seg L A.toNat B.toNat).length ≤ 1048576 := by have := h.rk.math.2.2.1; rw [seg_len]; omega
  have HL := keep hlm
  have MR := keep (rrange_any w b v M L A B h.rp h.perm h.rk.math.1 h.rk.math.2.2.2 h.len.2)
  have HC : Kept (∀ wz, Below w.heap.size w wz → Calls Try.prog 14 #[.pointer (some ⟨R, 0, none⟩), .int .i64 A, .int .i64 B] wz fun e w' => Rgd wz (seg L A.toNat B.toNat) e w') := fun wz hb => krange_any (h.bel hb).rk A B
  obtain ⟨l, hl⟩ : ∃ l, seg L A.toNat B.toNat = l := ⟨_, rfl⟩
  rw [hl] at HL MR HC
  have HSM : Kept (∀ (wz : World) (a b : Value), Rn wz a l → Rn wz b l → Calls Try.prog 20 #[a, b] wz fun e w' => e = .returned (.bool true) ∧ Below wz.heap.size wz w') := fun wz a b ha hb => same_rn wz a b l ha hb (by have := HL.out; omega)
  clear h hlm hl
  go_enter Try.func11, Try.ntmps11
  go_wp2_with fail
  refine MR.out.mono ?_
  rintro _ w1 ⟨uw, rfl, hw1, kw1, b1⟩
  have M2 := keep (HC.out w1 b1)
  go_wp2_with fail
  refine M2.out.mono ?_
  rintro _ w2 ⟨ua, rfl, ha2, ka2, b2⟩
  have b02 := Below.up b1 b2
  have M3 := keep (HC.out w2 b02)
  go_wp2_with fail
  refine M3.out.mono ?_
  rintro _ w3 ⟨ub, rfl, hb3, kb3, b3⟩
  have b03 := Below.up b02 b3
  have hw3 := (hw1.bel b2).bel b3
  have ha3 := ha2.bel b3
  have D : Kept ((∀ k, uw.ownBlock = some k → w.heap.size ≤ k ∧ k < w1.heap.size) ∧ (∀ k, ua.ownBlock = some k → w1.heap.size ≤ k ∧ k < w2.heap.size) ∧ ∀ k, ub.ownBlock = some k → w2.heap.size ≤ k) := ⟨fun k hk => ⟨kw1 k hk, own_lt hw1 hk⟩, fun k hk => ⟨ka2 k hk, own_lt ha2 hk⟩, kb3⟩
  have Z : Kept (w.heap.size ≤ w1.heap.size ∧ w1.heap.size ≤ w2.heap.size ∧ w2.heap.size ≤ w3.heap.size) := ⟨b1.size, b2.size, b3.size⟩
  have M4 := keep (HSM.out w3 ua uw ha3 hw3)
  clear MR M2 M3
  go_wp2_with fail
  refine M4.out.mono ?_
  rintro _ w4 ⟨rfl, b4⟩
  have M5 := keep (HSM.out w4 ub uw (hb3.bel b4) (hw3.bel b4))
  clear M4
  go_wp2_with fail
  refine M5.out.mono ?_
  rintro _ w5 ⟨rfl, b5⟩
  have ha5 := (ha3.bel b4).bel b5
  have hb5 := (hb3.bel b4).bel b5
  have hw5 := (hw3.bel b4).bel b5
  have b05 := Below.up (Below.up b03 b4) b5
  have M6 := keep (spoil_any w5 ua l ha5 (by have := HL.out; omega))
  clear M5
  go_wp2_with fail
  refine M6.out.mono ?_
  rintro _ w6 ⟨rfl, f6⟩
  have hw6 := f6.row hw5 (fun k hk e => by have := D.out.1 k hk; have := D.out.2.1 k e; omega)
  have hb6 := f6.row hb5 (fun k hk e => by have := D.out.2.2 k hk; have := D.out.2.1 k e; omega)
  have b06 := f6.bel b05 (fun k hk => by have := D.out.2.1 k hk; have := Z.out; omega)
  have M7 := keep (HSM.out w6 ub uw hb6 hw6)
  clear M6
  go_wp2_with fail
  refine M7.out.mono ?_
  rintro _ w7 ⟨rfl, b7⟩
  have hw7 := hw6.bel b7
  have hb7 := hb6.bel b7
  have b07 := Below.up b06 b7
  have M8 := keep (spoil_any w7 ub l hb7 (by have := HL.out; omega))
  clear M7
  go_wp2_with fail
  refine M8.out.mono ?_
  rintro _ w8 ⟨rfl, f8⟩
  have hw8 := f8.row hw7 (fun k hk e => by have := D.out.1 k hk; have := D.out.2.2 k e; have := Z.out; omega)
  have b08 := f8.bel b07 (fun k hk => by have := D.out.2.2 k hk; have := Z.out; omega)
  have M9 := keep (HC.out w8 b08)
  clear M8
  go_wp2_with fail
  refine M9.out.mono ?_
  rintro _ w9 ⟨uc, rfl, hc9, kc9, b9⟩
  have M10 := keep (HSM.out w9 uc uw hc9 (hw8.bel b9))
  have B09 := keep (Below.up b08 b9)
  clear M9 hw1 kw1 b1 ha2 ka2 b2 b02 hb3 kb3 b3 b03 hw3 ha3 b4 b5 ha5 hb5 hw5 b05 f6 hw6 hb6 b06 b7 hw7 hb7 b07 f8 hw8 b08 hc9 kc9 b9
  go_wp2_with fail
  refine M10.out.mono ?_
  rintro _ w10 ⟨rfl, b10⟩
  have BF := keep (Below.up B09.out b10)
  clear M10 b10
  go_wp2
  go_ret
  exact ⟨rfl, BF.out⟩
end Go.Proofs.Ytapehjlpiobeaaa
