/-
  Contracts over this program: the statements' own plain, where no list is made.
-/
import Derived.Test.YtoalnfkjpdgbiaaDoorRpPlainM
import Derived.Test.YtoalnfkjpdgbiaaDoorRpTree2
namespace Go.Proofs.YtoalnfkjpdgbiaaDoor
open Go.RowKit
set_option linter.unusedVariables false
/-- what plain answers -/
def PlTold (n : Nat) (w : World) (t : Rp.T n) (e : Ending) (w' : World) : Prop :=
  ∃ cs, e = .returned (.agg cs.toArray) ∧ Tel (fun b => w.heap.size ≤ b ∧ b < w'.heap.size) w' n cs t ∧ Below w.heap.size w w'
/-- a text washed as far as j -/
def wsh (s : ByteArray) (j : Nat) : ByteArray := Rp.ofL (((Rp.bytesOf s).take j).filter fun c => c != 13 && c != 10)
theorem wsh_all (s : ByteArray) : wsh s s.size = Rp.washed s := by
  unfold wsh Rp.washed
  rw [List.take_of_length_le (by rw [Rp.bytes_len]; exact Nat.le_refl _)]
theorem ext_one (s : ByteArray) (j : Nat) (hj : j < s.size) : (s.extract j (j + 1)).data.toList = [s[j]] := by
  have hl : s.data.toList.length = s.size := by simp
  rw [ByteArray.data_extract, Array.toList_extract]
  show (s.data.toList.drop j).take (j + 1 - j) = _
  rw [Nat.add_sub_cancel_left, List.drop_eq_getElem_cons (by omega)]
  rfl
theorem wsh_more (s : ByteArray) (j : Nat) (hj : j < s.size) (h : (s[j] != 13 && s[j] != 10) = true) : wsh s j ++ s.extract j (j + 1) = wsh s (j + 1) := by
  apply ByteArray.ext
  apply Array.toList_inj.1
  rw [ByteArray.data_append, Array.toList_append, ext_one s j hj]
  have hl : (Rp.bytesOf s).length = s.size := Rp.bytes_len s
  show ((Rp.bytesOf s).take j).filter _ ++ [s[j]] = ((Rp.bytesOf s).take (j + 1)).filter _
  rw [List.take_add_one, List.filter_append, List.getElem?_eq_getElem (by omega)]
  have e : (Rp.bytesOf s)[j]'(by omega) = s[j] := rfl
  rw [e]
  simp only [Option.toList_some, List.filter_cons, h, if_true, List.filter_nil]
theorem wsh_same (s : ByteArray) (j : Nat) (hj : j < s.size) (h : (s[j] != 13 && s[j] != 10) = false) : wsh s (j + 1) = wsh s j := by
  have hl : (Rp.bytesOf s).length = s.size := Rp.bytes_len s
  unfold wsh
  rw [List.take_add_one, List.filter_append, List.getElem?_eq_getElem (by omega)]
  have e : (Rp.bytesOf s)[j]'(by omega) = s[j] := rfl
  rw [e]
  simp [h]
theorem wsh_size (s : ByteArray) (j : Nat) : (wsh s j).size ≤ s.size := by
  unfold wsh
  rw [Rp.ofL_size]
  refine Nat.le_trans (List.length_filter_le _ _) ?_
  rw [List.length_take, Rp.bytes_len]
  exact Nat.min_le_right _ _
/-- its answer, out of what the block of the answer holds -/
theorem pl_end {m : Nat} {w wr : World} {k : Int} {s : ByteArray} {i : Int} (hb : Below w.heap.size w wr) (hk : I64 k) (hi : I64 i) (hs : s.size < 4294967281) :
    PlTold (m + 1) w ((k, s, i, []) : Rp.T (m + 1)) (.returned (.agg #[.int .i64 k, .string s, .int .i64 i, .slice none 0 0])) wr :=
  ⟨[.int .i64 k, .string s, .int .i64 i, .slice none 0 0], rfl, ⟨_, rfl, .inl ⟨rfl, _, rfl⟩, hk, hi, hs⟩, hb⟩
theorem by_eq (c d : UInt8) : (c != d) = ((c.toNat : Int) != (d.toNat : Int)) := by
  by_cases h : c = d
  · rw [h]; simp
  · have h1 : ¬ c.toNat = d.toNat := fun e => h (UInt8.toNat_inj.1 e)
    have h2 : ¬ (c.toNat : Int) = (d.toNat : Int) := by omega
    rw [bne_iff_ne.2 h, bne_iff_ne.2 h2]
theorem Box.two {w : World} {b : Nat} {a0 a1 a2 a3 : Value} (h : Box w b a0 a1 a2 a3) (v : Value) : Box (w.setCell ⟨b, 2, none⟩ v) b a0 a1 v a3 := cell_set h 2 v
theorem Box.one {w : World} {b : Nat} {a0 a1 a2 a3 : Value} (h : Box w b a0 a1 a2 a3) (v : Value) : Box (w.setCell ⟨b, 1, none⟩ v) b a0 v a2 a3 := cell_set h 1 v
theorem one_other {w : World} {b k j : Nat} (h : k ≠ b) (v : Value) : (w.setCell ⟨b, j, none⟩ v).heap[k]? = w.heap[k]? := Below.heap_setCell _ (⟨b, j, none⟩ : Addr) _ _ h
/-- what it makes of a reply that gets no list -/
def lfF (n : Nat) (q : Int) (s : ByteArray) (i : Int) : Rp.T (n + 1) :=
  if q = 1 ∨ q = 2 then Rp.mk q (Rp.washed s) 0 [] else if q = 3 then Rp.mk 3 .empty i [] else if q = 4 then Rp.mk 4 s 0 [] else if q = 6 then Rp.mk 7 .empty 0 [] else Rp.mk q .empty 0 []
theorem i64_q {q : Int} (h : 1 ≤ q ∧ q ≤ 7) : I64 q := ⟨by omega, by omega⟩
theorem i64_0 : I64 0 := ⟨by decide, by decide⟩
set_option maxRecDepth 100000 in
set_option maxHeartbeats 4000000 in
theorem plain_leaf (n : Nat) (w : World) (k : Int) (s : ByteArray) (i : Int) (ao : Option Addr) (ln c : Nat) (d q : Int) (hd : 0 ≤ d) (hd8 : d ≤ 8) (hln : ln ≤ maxLen) (hi : I64 i) (hs : s.size < 4294967281) (hq : q = k % 7 + 1) (hz : ln = 0 ∨ d = 8) (h6 : q = 6 → d = 8) :
    Calls Tryd.prog 38 #[.agg #[.int .i64 k, .string s, .int .i64 i, .slice ao ln c], .int .i64 d] w (PlTold (n + 1) w (lfF n q s i)) := by
  obtain ⟨W1, hW1⟩ : ∃ x, x = w.alloc (.cells #[.int .i64 k, .string s, .int .i64 i, .slice ao ln c] 25) := ⟨_, rfl⟩
  have x1 : Box W1 w.heap.size (.int .i64 k) (.string s) (.int .i64 i) (.slice ao ln c) := hW1 ▸ Box.new w _ _ _ _
  have b1 : Below w.heap.size w W1 := hW1 ▸ (Below.refl _ _).alloc (Nat.le_refl _) _
  obtain ⟨W2, hW2⟩ : ∃ x, x = W1.alloc (.cells #[.int .i64 0, .string ⟨#[]⟩, .int .i64 0, .slice none 0 0] 25) := ⟨_, rfl⟩
  have x2 : Box W2 W1.heap.size (.int .i64 0) (.string ⟨#[]⟩) (.int .i64 0) (.slice none 0 0) := hW2 ▸ Box.new W1 _ _ _ _
  have b2 : Below W1.heap.size W1 W2 := hW2 ▸ (Below.refl _ _).alloc (Nat.le_refl _) _
  have z1 : W1.heap.size = w.heap.size + 1 := by rw [hW1]; show (w.heap.push _).size = _; simp
  have z2 : W2.heap.size = W1.heap.size + 1 := by rw [hW2]; show (W1.heap.push _).size = _; simp
  have x12 := x1.below b2 x1.lt
  obtain ⟨d0, d1, d2, d3⟩ := x12.cells
  obtain ⟨WZ, hWZ⟩ : ∃ x, x = W2.alloc (.cells #[.int .i64 0, .string ⟨#[]⟩, .int .i64 0, .slice none 0 0] 25) := ⟨_, rfl⟩
  have xz : Box WZ W2.heap.size (.int .i64 0) (.string ⟨#[]⟩) (.int .i64 0) (.slice none 0 0) := hWZ ▸ Box.new W2 _ _ _ _
  have bz : Below W2.heap.size W2 WZ := hWZ ▸ (Below.refl _ _).alloc (Nat.le_refl _) _
  obtain ⟨y0, y1, y2, y3⟩ := xz.cells
  have v0 := xz.free 0
  have v1 := xz.free 1
  have v2 := xz.free 2
  have v3 := xz.free 3
  obtain ⟨W3, hW3⟩ : ∃ x, x = set4 WZ W2.heap.size (.int .i64 q) (.string ⟨#[]⟩) (.int .i64 0) (.slice none 0 0) := ⟨_, rfl⟩
  have x3 : Box W3 W2.heap.size (.int .i64 q) (.string ⟨#[]⟩) (.int .i64 0) (.slice none 0 0) := hW3 ▸ Box.four xz _ _ _ _
  have b3 : Below W2.heap.size W2 W3 := hW3 ▸ Below.four bz (Nat.le_refl _) _ _ _ _
  have X13 := keep (x12.below b3 x12.lt)
  have X23 := keep (x2.below b3 x2.lt)
  have X3 := keep x3
  have Z1 := keep z1
  have Z2 := keep z2
  have B3 := keep ((b1.trans (b2.mono b1.size)).trans (b3.mono (Nat.le_trans b1.size b2.size)))
  have hW1' := hW1.symm
  have hW2' := hW2.symm
  have hWZ' := hWZ.symm
  have hW3' : ((((WZ.setCell ⟨W2.heap.size, 0, none⟩ (.int .i64 q)).setCell ⟨W2.heap.size, 1, none⟩ (.string ⟨#[]⟩)).setCell ⟨W2.heap.size, 2, none⟩ (.int .i64 0)).setCell ⟨W2.heap.size, 3, none⟩ (.slice none 0 0)) = W3 := hW3.symm
  obtain ⟨z0, hz0⟩ : ∃ z0, k.tmod 7 = z0 := ⟨_, rfl⟩
  have hmod := Int.tmod_eq_emod (a := k) (b := 7)
  rw [hz0, show Int.natAbs 7 = 7 from rfl] at hmod
  have hz7 : Kept ((z0 < 0 → z0 + 7 = k % 7) ∧ (¬ z0 < 0 → z0 = k % 7) ∧ -7 ≤ z0 ∧ z0 ≤ 6) := keep (by split at hmod <;> omega)
  have hq7 : 0 ≤ k % 7 ∧ k % 7 < 7 := by omega
  obtain ⟨q0, hq0⟩ : ∃ q0, k % 7 = q0 := ⟨_, rfl⟩
  rw [hq0] at hz7 hq hq7
  have nq : IntKind.i64.wrap (q0 + 1) = q := by rw [IntKind.wrap_i64]; omega
  have nq2 : wrap64 (q0 + 1) = q := by unfold wrap64; omega
  have hqr : Kept (1 ≤ q ∧ q ≤ 7) := keep (by omega)
  have HZ := keep hz
  have H6 := keep h6
  have HS := keep hs
  have HI := keep hi
  have HD := keep (And.intro hd hd8)
  have HLN := keep hln
  clear hW1 hW2 hW3 hWZ xz bz hq hmod hq0 x1 b1 x2 b2 z1 z2 x12 x3 b3 hq7 hz h6 hs hi hd hd8 hln
  go_enter Tryd.func38, Tryd.ntmps38
  go_upto_if 14 with fail
  go_cut [5, 14] from 15 to 16 (fun z b wx => z = .int .i64 q0 ∧ wx = W2)
  case first =>
    by_cases h : z0 < 0
    · have e : IntKind.i64.wrap (z0 + 7) = q0 := by
        have := hz7.out.1 h; have := hz7.out.2.2; rw [IntKind.wrap_i64]; omega
      go_wp2
      go_meet
      case rel => exact ⟨rfl, rfl⟩
    · obtain rfl := hz7.out.2.1 h
      go_wp2
      go_meet
      case rel => exact ⟨rfl, rfl⟩
  case rest =>
    obtain ⟨rfl, hwc⟩ := hcut
    obtain rfl := hwc.symm
    clear hwc hz7 hz0
    go_upto_region 5 with fail
    go_cut [26] from 19 to 26 (fun z wx => z = .bool false ∧ wx = W2)
    case first =>
      by_cases h : 0 < ln
      · have hd8 : d = 8 := by rcases HZ.out with e | e <;> omega
        subst hd8
        go_wp2
        go_meet
        case rel => exact ⟨rfl, rfl⟩
      · go_wp2
        go_meet
        case rel => exact ⟨rfl, rfl⟩
    case rest =>
      obtain ⟨rfl, hwc⟩ := hcut
      obtain rfl := hwc.symm
      clear hwc d0 d1 d2 d3
      obtain ⟨d0, d1, d2, d3⟩ := X13.out.cells
      obtain ⟨e0, e1, e2, e3⟩ := X3.out.cells
      obtain ⟨g0, g1, g2, g3⟩ := X23.out.cells
      have p0 := X3.out.free 0
      have p1 := X3.out.free 1
      have p2 := X3.out.free 2
      have f0 := X23.out.free 0
      have f1 := X23.out.free 1
      have f2 := X23.out.free 2
      have f3 := X23.out.free 3
      have hne : W1.heap.size ≠ W2.heap.size := by have := Z2.out; omega
      have low : w.heap.size ≤ W1.heap.size := by have := Z1.out; omega
      have low2 : w.heap.size ≤ W2.heap.size := by have := Z1.out; have := Z2.out; omega
      by_cases c3 : q = 3
      · subst c3
        obtain ⟨W4, hW4⟩ : ∃ x, x = W3.setCell ⟨W2.heap.size, 2, none⟩ (.int .i64 i) := ⟨_, rfl⟩
        have X4 := keep (show Box W4 W2.heap.size _ _ _ _ from hW4 ▸ X3.out.two (.int .i64 i))
        have X24 := keep (show Box W4 W1.heap.size _ _ _ _ from (show W4.heap[W1.heap.size]? = _ from (hW4 ▸ one_other hne _ : W4.heap[W1.heap.size]? = W3.heap[W1.heap.size]?).trans X23.out))
        have B4 := keep (show Below w.heap.size w W4 from hW4 ▸ B3.out.setCell (p := ⟨W2.heap.size, 2, none⟩) low2 _)
        have hW4' := hW4.symm
        clear hW4
        obtain ⟨i0, i1, i2, i3⟩ := X4.out.cells
        obtain ⟨j0, j1, j2, j3⟩ := X24.out.cells
        have r0 := X24.out.free 0
        have r1 := X24.out.free 1
        have r2 := X24.out.free 2
        have r3 := X24.out.free 3
        go_wp2
        (try simp only [Exit.inBlock, Exit.then])
        refine bodyPost_ret (res_rp1 rfl _ _ W1.heap.size _ _ _ _ rfl (Box.four X24.out _ _ _ _)) rfl ?_
        exact pl_end (Below.four B4.out low _ _ _ _) ⟨by decide, by decide⟩ HI.out (by decide)
      · by_cases c4 : q = 4
        · subst c4
          obtain ⟨W4, hW4⟩ : ∃ x, x = W3.setCell ⟨W2.heap.size, 1, none⟩ (.string s) := ⟨_, rfl⟩
          have X4 := keep (show Box W4 W2.heap.size _ _ _ _ from hW4 ▸ X3.out.one (.string s))
          have X24 := keep (show Box W4 W1.heap.size _ _ _ _ from (show W4.heap[W1.heap.size]? = _ from (hW4 ▸ one_other hne _ : W4.heap[W1.heap.size]? = W3.heap[W1.heap.size]?).trans X23.out))
          have B4 := keep (show Below w.heap.size w W4 from hW4 ▸ B3.out.setCell (p := ⟨W2.heap.size, 1, none⟩) low2 _)
          have hW4' := hW4.symm
          clear hW4
          obtain ⟨i0, i1, i2, i3⟩ := X4.out.cells
          obtain ⟨j0, j1, j2, j3⟩ := X24.out.cells
          have r0 := X24.out.free 0
          have r1 := X24.out.free 1
          have r2 := X24.out.free 2
          have r3 := X24.out.free 3
          go_wp2
          (try simp only [Exit.inBlock, Exit.then])
          refine bodyPost_ret (res_rp1 rfl _ _ W1.heap.size _ _ _ _ rfl (Box.four X24.out _ _ _ _)) rfl ?_
          exact pl_end (Below.four B4.out low _ _ _ _) ⟨by decide, by decide⟩ i64_0 HS.out
        · by_cases c6 : q = 6
          · have hd8 := H6.out c6
            subst c6
            subst hd8
            go_wp2
            (try simp only [Exit.inBlock, Exit.then])
            refine bodyPost_ret (res_rp1 rfl _ _ W1.heap.size _ _ _ _ rfl (Box.four X23.out _ _ _ _)) rfl ?_
            exact pl_end (Below.four B3.out low _ _ _ _) ⟨by decide, by decide⟩ i64_0 (by decide)
          · by_cases c57 : q = 5 ∨ q = 7
            · rcases c57 with rfl | rfl
              · go_wp2
                (try simp only [Exit.inBlock, Exit.then])
                refine bodyPost_ret (res_rp1 rfl _ _ W1.heap.size _ _ _ _ rfl (Box.four X23.out _ _ _ _)) rfl ?_
                exact pl_end (Below.four B3.out low _ _ _ _) ⟨by decide, by decide⟩ i64_0 (by decide)
              · go_wp2
                (try simp only [Exit.inBlock, Exit.then])
                refine bodyPost_ret (res_rp1 rfl _ _ W1.heap.size _ _ _ _ rfl (Box.four X23.out _ _ _ _)) rfl ?_
                exact pl_end (Below.four B3.out low _ _ _ _) ⟨by decide, by decide⟩ i64_0 (by decide)
            · have c12 : q = 1 ∨ q = 2 := by have := hqr.out; omega
              have C12 := keep c12
              clear c3 c4 c6 c57 c12
              rcases C12.out with rfl | rfl
              · go_wp2
                go_loopw [36] (fun j wr => ∃ jj : Nat, j = .int .i64 (jj : Int) ∧ jj ≤ s.size ∧ Kept (Box wr W2.heap.size (.int .i64 1) (.string (wsh s jj)) (.int .i64 0) (.slice none 0 0)) ∧ Kept (Box wr W1.heap.size (.int .i64 0) (.string ⟨#[]⟩) (.int .i64 0) (.slice none 0 0)) ∧ Kept (Box wr w.heap.size (.int .i64 k) (.string s) (.int .i64 i) (.slice ao ln c)) ∧ Kept (Below w.heap.size w wr)) (fun j _ => s.size - (intOf j).toNat)
                case atStart => exact ⟨0, rfl, Nat.zero_le _, X3, X23, X13, B3⟩
                case round =>
                  obtain ⟨jj, rfl, hj, X6, X4, X2, BW⟩ := hrel
                  clear d0 d1 d2 d3 e0 e1 e2 e3 g0 g1 g2 g3 p0 p1 p2 f0 f1 f2 f3 y0 y1 y2 y3 v0 v1 v2 v3 hW1' hW2' hWZ' hW3'
                  obtain ⟨d0, d1, d2, d3⟩ := X2.out.cells
                  obtain ⟨e0, e1, e2, e3⟩ := X6.out.cells
                  obtain ⟨g0, g1, g2, g3⟩ := X4.out.cells
                  have f0 := X4.out.free 0
                  have f1 := X4.out.free 1
                  have f2 := X4.out.free 2
                  have f3 := X4.out.free 3
                  have p1 := X6.out.free 1
                  by_cases hlt : jj < s.size
                  · have h0 : (0 : Int) ≤ (jj : Int) := by omega
                    have h1 : (jj : Int) < (s.size : Int) := by omega
                    have nw : IntKind.i64.wrap ((jj : Int) + 1) = ((jj + 1 : Nat) : Int) := by have := HS.out; rw [IntKind.wrap_i64]; omega
                    obtain ⟨z, hz⟩ : ∃ z, s[jj]'hlt = z := ⟨_, rfl⟩
                    have b13 : (z != 13) = ((z.toNat : Int) != 13) := by_eq z 13
                    have b10 : (z != 10) = ((z.toNat : Int) != 10) := by_eq z 10
                    have WS := keep (fun h : (z != 13 && z != 10) = false => wsh_same s jj hlt (by rw [hz]; exact h))
                    have WM := keep (fun h : (z != 13 && z != 10) = true => wsh_more s jj hlt (by rw [hz]; exact h))
                    rw [b13, b10] at WS WM
                    clear b13 b10
                    have HLT := keep hlt
                    by_cases c13 : ((z.toNat : Int) != 13) = true
                    · by_cases c10 : ((z.toNat : Int) != 10) = true
                      · have hx := WM.out (by rw [c13, c10]; rfl)
                        have hsz : ¬ 9223372036854775807 < (wsh s jj).size + 1 := by have := wsh_size s jj; have := HS.out; omega
                        have hxs : (s.extract jj (jj + 1)).size = 1 := by rw [ByteArray.size_extract]; omega
                        have sl : ∀ w : World, (Instr.slice 9 (.string s) (some (.int .i64 (jj : Int))) (some (.int .i64 ((jj : Int) + 1))) none).run Tryd.prog w = .ok (.string (s.extract jj (jj + 1))) w := fun w => by
                          have := run_slice_string (P := Tryd.prog) (w := w) 9 s .i64 .i64 (jj : Int) ((jj : Int) + 1) Tryd.underlying9 (by omega) (by omega) (by omega)
                          rwa [show ((jj : Int) + 1).toNat = jj + 1 by omega, Int.toNat_natCast] at this
                        go_upto_region 15 with fail
                        go_region
                        go_wp2
                        go_roundw
                        case measure => have := HLT.out; simp [intOf]; omega
                        case rel => exact ⟨jj + 1, by rfl, HLT.out, keep (hx ▸ X6.out.one _), keep ((one_other hne _).trans X4.out), keep ((one_other (by have := Z1.out; have := Z2.out; omega) _).trans X2.out), keep ((BW.out.setCell (p := ⟨W2.heap.size, 1, none⟩) low2 _).drew)⟩
                      · have c10' : ((z.toNat : Int) != 10) = false := by simpa using c10
                        have WS' := keep (WS.out (by rw [c13, c10']; rfl))
                        go_wp2
                        go_roundw
                        case measure => have := HLT.out; simp [intOf]; omega
                        case rel => exact ⟨jj + 1, by rfl, HLT.out, keep (WS'.out ▸ X6.out), X4, X2, BW⟩
                    · have c13' : ((z.toNat : Int) != 13) = false := by simpa using c13
                      have WS' := keep (WS.out (by rw [c13']; rfl))
                      go_wp2
                      go_roundw
                      case measure => have := HLT.out; simp [intOf]; omega
                      case rel => exact ⟨jj + 1, by rfl, HLT.out, keep (WS'.out ▸ X6.out), X4, X2, BW⟩
                  · have h1 : ¬ (jj : Int) < (s.size : Int) := by omega
                    obtain rfl : jj = s.size := by omega
                    rw [wsh_all] at X6 e1
                    go_wp2
                    (try simp only [Exit.inBlock, Exit.then])
                    refine bodyPost_ret (res_rp1 rfl _ _ W1.heap.size _ _ _ _ rfl (Box.four X4.out _ _ _ _)) rfl ?_
                    exact pl_end (Below.four BW.out low _ _ _ _) ⟨by decide, by decide⟩ i64_0 (Nat.lt_of_le_of_lt (Rp.washed_size s) HS.out)
              · go_wp2
                go_loopw [36] (fun j wr => ∃ jj : Nat, j = .int .i64 (jj : Int) ∧ jj ≤ s.size ∧ Kept (Box wr W2.heap.size (.int .i64 2) (.string (wsh s jj)) (.int .i64 0) (.slice none 0 0)) ∧ Kept (Box wr W1.heap.size (.int .i64 0) (.string ⟨#[]⟩) (.int .i64 0) (.slice none 0 0)) ∧ Kept (Box wr w.heap.size (.int .i64 k) (.string s) (.int .i64 i) (.slice ao ln c)) ∧ Kept (Below w.heap.size w wr)) (fun j _ => s.size - (intOf j).toNat)
                case atStart => exact ⟨0, rfl, Nat.zero_le _, X3, X23, X13, B3⟩
                case round =>
                  obtain ⟨jj, rfl, hj, X6, X4, X2, BW⟩ := hrel
                  clear d0 d1 d2 d3 e0 e1 e2 e3 g0 g1 g2 g3 p0 p1 p2 f0 f1 f2 f3 y0 y1 y2 y3 v0 v1 v2 v3 hW1' hW2' hWZ' hW3'
                  obtain ⟨d0, d1, d2, d3⟩ := X2.out.cells
                  obtain ⟨e0, e1, e2, e3⟩ := X6.out.cells
                  obtain ⟨g0, g1, g2, g3⟩ := X4.out.cells
                  have f0 := X4.out.free 0
                  have f1 := X4.out.free 1
                  have f2 := X4.out.free 2
                  have f3 := X4.out.free 3
                  have p1 := X6.out.free 1
                  by_cases hlt : jj < s.size
                  · have h0 : (0 : Int) ≤ (jj : Int) := by omega
                    have h1 : (jj : Int) < (s.size : Int) := by omega
                    have nw : IntKind.i64.wrap ((jj : Int) + 1) = ((jj + 1 : Nat) : Int) := by have := HS.out; rw [IntKind.wrap_i64]; omega
                    obtain ⟨z, hz⟩ : ∃ z, s[jj]'hlt = z := ⟨_, rfl⟩
                    have b13 : (z != 13) = ((z.toNat : Int) != 13) := by_eq z 13
                    have b10 : (z != 10) = ((z.toNat : Int) != 10) := by_eq z 10
                    have WS := keep (fun h : (z != 13 && z != 10) = false => wsh_same s jj hlt (by rw [hz]; exact h))
                    have WM := keep (fun h : (z != 13 && z != 10) = true => wsh_more s jj hlt (by rw [hz]; exact h))
                    rw [b13, b10] at WS WM
                    clear b13 b10
                    have HLT := keep hlt
                    by_cases c13 : ((z.toNat : Int) != 13) = true
                    · by_cases c10 : ((z.toNat : Int) != 10) = true
                      · have hx := WM.out (by rw [c13, c10]; rfl)
                        have hsz : ¬ 9223372036854775807 < (wsh s jj).size + 1 := by have := wsh_size s jj; have := HS.out; omega
                        have hxs : (s.extract jj (jj + 1)).size = 1 := by rw [ByteArray.size_extract]; omega
                        have sl : ∀ w : World, (Instr.slice 9 (.string s) (some (.int .i64 (jj : Int))) (some (.int .i64 ((jj : Int) + 1))) none).run Tryd.prog w = .ok (.string (s.extract jj (jj + 1))) w := fun w => by
                          have := run_slice_string (P := Tryd.prog) (w := w) 9 s .i64 .i64 (jj : Int) ((jj : Int) + 1) Tryd.underlying9 (by omega) (by omega) (by omega)
                          rwa [show ((jj : Int) + 1).toNat = jj + 1 by omega, Int.toNat_natCast] at this
                        go_upto_region 15 with fail
                        go_region
                        go_wp2
                        go_roundw
                        case measure => have := HLT.out; simp [intOf]; omega
                        case rel => exact ⟨jj + 1, by rfl, HLT.out, keep (hx ▸ X6.out.one _), keep ((one_other hne _).trans X4.out), keep ((one_other (by have := Z1.out; have := Z2.out; omega) _).trans X2.out), keep ((BW.out.setCell (p := ⟨W2.heap.size, 1, none⟩) low2 _).drew)⟩
                      · have c10' : ((z.toNat : Int) != 10) = false := by simpa using c10
                        have WS' := keep (WS.out (by rw [c13, c10']; rfl))
                        go_wp2
                        go_roundw
                        case measure => have := HLT.out; simp [intOf]; omega
                        case rel => exact ⟨jj + 1, by rfl, HLT.out, keep (WS'.out ▸ X6.out), X4, X2, BW⟩
                    · have c13' : ((z.toNat : Int) != 13) = false := by simpa using c13
                      have WS' := keep (WS.out (by rw [c13']; rfl))
                      go_wp2
                      go_roundw
                      case measure => have := HLT.out; simp [intOf]; omega
                      case rel => exact ⟨jj + 1, by rfl, HLT.out, keep (WS'.out ▸ X6.out), X4, X2, BW⟩
                  · have h1 : ¬ (jj : Int) < (s.size : Int) := by omega
                    obtain rfl : jj = s.size := by omega
                    rw [wsh_all] at X6 e1
                    go_wp2
                    (try simp only [Exit.inBlock, Exit.then])
                    refine bodyPost_ret (res_rp1 rfl _ _ W1.heap.size _ _ _ _ rfl (Box.four X4.out _ _ _ _)) rfl ?_
                    exact pl_end (Below.four BW.out low _ _ _ _) ⟨by decide, by decide⟩ i64_0 (Nat.lt_of_le_of_lt (Rp.washed_size s) HS.out)
end Go.Proofs.YtoalnfkjpdgbiaaDoor
