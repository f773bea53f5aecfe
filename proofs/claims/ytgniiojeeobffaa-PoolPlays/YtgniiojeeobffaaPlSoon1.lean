/-
  Contracts over this program: of each key the first one alone (the statements' own unlike).
-/
import Derived.Test.YtgniiojeeobffaaPlSoon0
namespace Go.Proofs.Ytgniiojeeobffaa
open Go.RowKit Go.Shelf
set_option linter.unusedVariables false
set_option linter.unusedSimpArgs false
set_option maxRecDepth 100000
/-- none of the first j has the key -/
def noK (key : ByteArray) (l : List Ent) (j : Nat) : Bool := !(l.take j).any (isK key)
theorem noK_succ {key : ByteArray} {l : List Ent} {j : Nat} {d : Ent} (h : l[j]? = some d) : noK key l (j + 1) = (noK key l j && !(d.1.toList == key.toList)) := by
  unfold noK
  rw [List.take_add_one, h]
  simp [isK]
theorem noK_all (key : ByteArray) (l : List Ent) : noK key l l.length = !has key l := by unfold noK has; rw [List.take_length]
/-- a row of the statement's own, since w0 -/
def Mine (w0 w : World) (u : Value) (l : List Ent) : Prop := Row w u l ∧ (∀ k, u.ownBlock = some k → w0.heap.size ≤ k) ∧ Below w0.heap.size w0 w
theorem Mine.bel {w0 w w' : World} {u : Value} {l : List Ent} (h : Mine w0 w u l) (hb : Below w.heap.size w w') : Mine w0 w' u l := ⟨h.1.bel hb, h.2.1, Below.up h.2.2 hb⟩
theorem mine_app {w0 w : World} {u : Value} {l : List Ent} {c : Ent} {vb : Nat} (h : Mine w0 w u l) (hv : w.heap[vb]? = some (.cells #[.string c.1, .int .u64 c.2] 32 (0, 0))) (hn : (l.length + 1) * 24 ≤ 140737488355328) :
    ∃ v' w', (Builtin.append_ #[43, 43] 43 #[u, .slice (some ⟨vb, 0, none⟩) 1 1]).run Try.prog w = .ok v' w' ∧ Mine w0 w' v' (l ++ [c]) := by
  obtain ⟨i0, hi0, hz0, hz1, hz2⟩ := info_parts info_rk
  have uT := Try.underlying43
  obtain ⟨g', cap', W, r1, r2, r3, r4, r5⟩ := run_append_lies (P := Try.prog) w 43 43 0 32 i0 _ 2 24 uT hi0 hz0 hz1 hz2 (by simp [Value.cells]) (by decide) u l.length (enR l) h.1 ⟨vb, 0, none⟩ 1 1 (mc c.1 c.2) rfl (mc_cell hv) mc_one (by decide) (by unfold maxLen; omega) hn (Nat.zero_le _) w.heap.size rfl
  refine ⟨_, W, r1, ?_, ?_, ?_⟩
  · unfold Row
    rw [List.length_append, List.length_singleton, enR_app]
    exact r2
  · intro k hk
    have e : k = g' := by cases hk; rfl
    subst e
    rcases r4 with e | e
    · exact h.2.1 k e
    · have := h.2.2.size; omega
  · exact h.2.2.grown r3 h.2.2.size h.2.1
set_option maxHeartbeats 4000000 in
theorem unlike_any (W : World) (so : Option Addr) (cap : Nat) (S : List Ent) (hS : Cds W so S) (hlen : S.length ≤ 5864062014634) :
    Calls Try.prog 18 #[.slice so S.length cap] W fun e w' => Cpy W (unL S) e w' := by
  obtain ⟨nS, hnS⟩ : ∃ nS, S.length = nS := ⟨_, rfl⟩
  have HS := keep hS
  have HLEN := keep hlen
  have HNS := keep hnS
  have M0 : Kept (Mine W W (.slice none 0 0) []) := ⟨⟨rfl, .inl ⟨rfl, rfl⟩⟩, fun k hk => (by cases hk), Below.refl _ _⟩
  have HQ : Kept (∀ u w', Mine W w' u (unL S) → Cpy W (unL S) (.returned u) w') := fun u w' h => ⟨u, rfl, h.1, h.2.1, h.2.2⟩
  rw [hnS]
  clear hS hlen hnS
  generalize Cpy W (unL S) = Q at *
  go_enter Try.func18, Try.ntmps18
  go_wp2
  go_loopg [3, 11] nS (fun kx u s wr => ∃ i : Nat, s = .int .i64 i ∧ i ≤ nS ∧ nS - i ≤ kx ∧ ∃ ao n c, u = .slice ao n c ∧ Kept (((S.take i).foldl unS []).length = n) ∧ Kept (Mine W wr (.slice ao n c) ((S.take i).foldl unS [])))
  case atStart => exact ⟨0, rfl, Nat.zero_le _, by omega, none, 0, 0, rfl, rfl, M0⟩
  case round =>
    obtain ⟨k, rfl, hk, hgk, ao, n, cp, rfl, HN, KM⟩ := hrel
    clear M0
    by_cases hlt : k < nS
    · have hltz : (k : Int) < (nS : Int) := by omega
      have hk0 : (0 : Int) ≤ (k : Int) := by omega
      have hwk : IntKind.i64.wrap ((k : Int) + 1) = (k : Int) + 1 := by have := HLEN.out; have := HNS.out; rw [IntKind.wrap_i64]; omega
      obtain ⟨a, rfl, ha, hat⟩ := HS.out k (by rw [HNS.out]; exact hlt)
      have hkl : k < S.length := by rw [HNS.out]; exact hlt
      obtain ⟨o, ho⟩ : ∃ o, S[k]'hkl = o := ⟨_, rfl⟩
      rw [ho] at hat
      have hat' := hat.bel KM.out.2.2 (by rw [add_block]; exact ha)
      have HO : Kept (S[k]? = some o) := by show _ = _; rw [List.getElem?_eq_getElem hkl, ho]
      obtain ⟨c1, c2⟩ := o
      obtain ⟨X, hX⟩ : ∃ X, wr.heap.size = X := ⟨_, rfl⟩
      obtain ⟨W1, hW1⟩ : ∃ x, wr.alloc (.cells #[.string c1, .int .u64 c2] 32) = x := ⟨_, rfl⟩
      have hb1 : Below wr.heap.size wr W1 := by rw [← hW1]; exact (Below.refl _ wr).alloc (Nat.le_refl _) _
      have gX : W1.heap[X]? = some (.cells #[.string c1, .int .u64 c2] 32 (0, 0)) := by rw [← hW1, ← hX]; exact heap_alloc_new _ _
      have M1 := keep (KM.out.bel hb1)
      have GX : Kept (W1.heap[X]? = some (.cells #[.string c1, .int .u64 c2] 32 (0, 0)) ∧ X < W1.heap.size) := ⟨gX, (Array.getElem?_eq_some_iff.1 gX).1⟩
      obtain ⟨y0, y1⟩ := hat'
      dsimp only at y0 y1
      obtain ⟨out, hout⟩ : ∃ out, (S.take k).foldl unS [] = out := ⟨_, rfl⟩
      rw [hout] at HN M1
      have HU : Kept ((S.take (k + 1)).foldl unS [] = unS out (c1, c2)) := by show _ = _; rw [un_take HO.out, hout]
      have hg1 : 0 < n → ∃ g, ao = some ⟨g, 0, none⟩ := fun hpos => by
        rcases M1.out.1.form with ⟨e, e'⟩ | ⟨g, c, e, _⟩
        · injection e with e1 e2; omega
        · injection e with e1; exact ⟨g, e1⟩
      have HG1 := keep hg1
      have HFEW : Kept (out.length ≤ k) := by
        have := un_len (S.take k) []
        rw [hout, List.length_take] at this
        show _ ≤ _
        simp at this; omega
      clear ho hat ha KM hlt hb1 gX hout hg1 hkl
      obtain ⟨wr0, hwr0⟩ : ∃ x, x = wr := ⟨_, rfl⟩
      subst hwr0
      go_wp2_with fail
      go_loopg [6, 17] n (fun kx f s wz => ∃ j : Nat, s = .int .i64 j ∧ j ≤ n ∧ n - j ≤ kx ∧ f = .bool (noK c1 out j) ∧ Kept (Below W1.heap.size W1 wz))
      case atStart => exact ⟨0, rfl, Nat.zero_le _, by omega, rfl, Below.refl _ _⟩
      case round =>
        obtain ⟨j, rfl, hjn, hgj, rfl, BW⟩ := hrel
        by_cases hjl : j < n
        · obtain ⟨d, hd⟩ : ∃ d, out[j]? = some d := ⟨_, List.getElem?_eq_getElem (by have := HN.out; omega)⟩
          obtain ⟨g, hg⟩ := HG1.out (by omega)
          subst hg
          obtain ⟨oJ, hoJ⟩ : ∃ o, o = j * 2 := ⟨_, rfl⟩
          have hrow : wr.ownsRow 0 32 2 (.slice (some ⟨g, 0, none⟩) n cp) n (enR out) := by have := (M1.out.bel BW.out).1; unfold Row at this; rw [HN.out] at this; exact this
          obtain ⟨e0, e1⟩ := cel_of hrow j d hd
          rw [← hoJ] at e0 e1
          obtain ⟨d1, d2⟩ := d
          dsimp only at e0 e1
          have hoJ' : j * 2 = oJ := hoJ.symm
          have j0 : (0 : Int) ≤ (j : Int) := by omega
          have j1 : (j : Int) < (n : Int) := by omega
          obtain ⟨D, hD⟩ : ∃ D, wr.heap.size = D := ⟨_, rfl⟩
          obtain ⟨W7, hW7⟩ : ∃ W7, wr.alloc (.cells #[.string d1, .int .u64 d2] 32) = W7 := ⟨_, rfl⟩
          have hb7 : Below wr.heap.size wr W7 := by rw [← hW7]; exact (Below.refl _ wr).alloc (Nat.le_refl _) _
          have gD : W7.heap[D]? = some (.cells #[.string d1, .int .u64 d2] 32 (0, 0)) := by rw [← hW7, ← hD]; exact heap_alloc_new _ _
          have B7 := keep (Below.up BW.out hb7)
          obtain ⟨f0, f1, _⟩ := cells_two gD
          obtain ⟨x0, x1, _⟩ := cells_two ((B7.out.block X GX.out.2).trans GX.out.1)
          have fs := noK_succ (key := c1) hd
          dsimp only at fs
          have hwj : IntKind.i64.wrap ((j : Int) + 1) = (j : Int) + 1 := by have := HN.out; have := HFEW.out; have := HLEN.out; have := HNS.out; rw [IntKind.wrap_i64]; omega
          obtain ⟨q, hq⟩ : ∃ q, (d1.toList == c1.toList) = q := ⟨_, rfl⟩
          rw [hq] at fs
          clear hd hoJ hrow hb7 gD
          cases hf : noK c1 out j
          · rw [hf, Bool.false_and] at fs
            have FS := keep fs
            clear fs hf
            go_wp2
            go_roundg (n - (j + 1))
            case measure => omega
            case rel => exact ⟨j + 1, by simp, by omega, Nat.le_refl _, by simp [FS.out], B7.out⟩
          · rw [hf, Bool.true_and] at fs
            have FS := keep fs
            clear fs hf
            go_wp2
            go_roundg (n - (j + 1))
            case measure => omega
            case rel => exact ⟨j + 1, by simp, by omega, Nat.le_refl _, by simp [FS.out], B7.out⟩
        · obtain rfl : j = n := by omega
          have hno : noK c1 out j = !has c1 out := by have := HN.out; rw [← this]; exact noK_all _ _
          rw [hno]
          cases hh : has c1 out
          · obtain ⟨W8, hW8⟩ : ∃ W8, wr.alloc (.cells #[.string c1, .int .u64 c2] 32) = W8 := ⟨_, rfl⟩
            obtain ⟨x0, x1, _⟩ := cells_two ((BW.out.block X GX.out.2).trans GX.out.1)
            have g8 : W8.heap[wr.heap.size]? = some (.cells #[.string c1, .int .u64 c2] 32 (0, 0)) := by rw [← hW8]; exact heap_alloc_new _ _
            have hb8 : Below wr.heap.size wr W8 := by rw [← hW8]; exact (Below.refl _ wr).alloc (Nat.le_refl _) _
            obtain ⟨v', w9, hr, hm⟩ := mine_app (c := (c1, c2)) ((M1.out.bel BW.out).bel hb8) g8 (by have := HFEW.out; have := HLEN.out; have := HNS.out; omega)
            obtain ⟨ao9, n9, c9, rfl⟩ := hm.1.slice
            have hn9 : n9 = j + 1 := by
              rcases hm.1.form with ⟨_, e⟩ | ⟨g, c, e, _⟩
              · simp at e
              · injection e with _ e2; rw [e2, List.length_append, HN.out]; rfl
            have hun : unS out (c1, c2) = out ++ [(c1, c2)] := by unfold unS; rw [hh]; rfl
            have MF : Kept (((S.take (k + 1)).foldl unS []).length = n9 ∧ Mine W w9 (.slice ao9 n9 c9) ((S.take (k + 1)).foldl unS [])) := by
              rw [HU.out, hun]
              exact ⟨by rw [List.length_append, HN.out, hn9]; rfl, hm⟩
            have R9 := keep hr
            clear hm hr hn9 hun hh hno g8 hb8
            go_wp2_with (at_builtin; refine wpList_app_run rfl _ _ _ _ rfl _ _ _ rfl rfl R9.out ?_)
            go_roundg (nS - (k + 1))
            case measure => omega
            case rel => exact ⟨k + 1, by simp, by omega, Nat.le_refl _, ao9, n9, c9, rfl, MF.out.1, MF.out.2⟩
          · have hun : unS out (c1, c2) = out := by unfold unS; rw [hh]; rfl
            have MF : Kept (((S.take (k + 1)).foldl unS []).length = j ∧ Mine W wr (.slice ao j cp) ((S.take (k + 1)).foldl unS [])) := by
              rw [HU.out, hun]
              exact ⟨HN.out, M1.out.bel BW.out⟩
            clear hun hh hno
            go_wp2
            go_roundg (nS - (k + 1))
            case measure => omega
            case rel => exact ⟨k + 1, by simp, by omega, Nat.le_refl _, ao, j, cp, rfl, MF.out.1, MF.out.2⟩
    · obtain rfl : k = nS := by omega
      have HF := keep (HQ.out (.slice ao n cp) wr (by have := KM.out; rw [← HNS.out, List.take_length] at this; exact this))
      go_wp2
      first | exact HF.out | (go_ret; exact HF.out)
end Go.Proofs.Ytgniiojeeobffaa
