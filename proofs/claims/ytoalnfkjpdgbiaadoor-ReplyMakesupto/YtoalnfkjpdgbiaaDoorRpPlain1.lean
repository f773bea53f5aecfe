/-
  Contracts over this program: the statements' own plain, where a list is made.
-/
import Derived.Test.YtoalnfkjpdgbiaaDoorRpPlain0
import Derived.Deep.RegionHeld3
namespace Go.Proofs.YtoalnfkjpdgbiaaDoor
open Go.RowKit
set_option linter.unusedVariables false
theorem Gr.from {v v' : Value} {w w' : World} (h : Gr v v' w w') {b : Nat} (hb : b < w.heap.size) (hv : v.ownBlock ≠ some b) : w'.heap[b]? = w.heap[b]? := h.same ⟨hb, hv⟩
set_option maxRecDepth 100000 in
set_option maxHeartbeats 8000000 in
theorem plain_list (n m : Nat) (w : World) (k : Int) (s : ByteArray) (i : Int) (lv : Value) (l : List (Rp.T n)) (d : Int) (hd : 0 ≤ d) (hd8 : d < 8) (hL : Lst (· < w.heap.size) w (Tel (· < w.heap.size) w n) lv l) (hl : l.length ≤ 16777216) (hz : l ≠ [] ∨ k % 7 = 5)
    (IH : ∀ (w' : World) (cs : List Value) (t : Rp.T n), t ∈ l → Tel (· < w'.heap.size) w' n cs t → Calls Tryd.prog 38 #[.agg cs.toArray, .int .i64 (d + 1)] w' (PlTold (m + 1) w' (Rp.pla n m t))) :
    Calls Tryd.prog 38 #[.agg #[.int .i64 k, .string s, .int .i64 i, lv], .int .i64 d] w (PlTold (m + 2) w (Rp.mk 6 .empty 0 (l.map (Rp.pla n m)))) := by
  have AT := keep (fun j x (hx : l[j]? = some x) => hL.at hx (fun cs h => h.four))
  obtain ⟨ao, c, rfl, hlc, hcm⟩ := hL.form
  obtain ⟨ln, hln⟩ : ∃ q, l.length = q := ⟨_, rfl⟩
  rw [hln] at AT hlc hl ⊢
  obtain ⟨W1, hW1⟩ : ∃ x, x = w.alloc (.cells #[.int .i64 k, .string s, .int .i64 i, .slice ao ln c] 25) := ⟨_, rfl⟩
  have x1 : Box W1 w.heap.size (.int .i64 k) (.string s) (.int .i64 i) (.slice ao ln c) := hW1 ▸ Box.new w _ _ _ _
  have b1 : Below w.heap.size w W1 := hW1 ▸ (Below.refl _ _).alloc (Nat.le_refl _) _
  obtain ⟨W2, hW2⟩ : ∃ x, x = W1.alloc (.cells #[.int .i64 0, .string ⟨#[]⟩, .int .i64 0, .slice none 0 0] 25) := ⟨_, rfl⟩
  have x2 : Box W2 W1.heap.size (.int .i64 0) (.string ⟨#[]⟩) (.int .i64 0) (.slice none 0 0) := hW2 ▸ Box.new W1 _ _ _ _
  have b2 : Below W1.heap.size W1 W2 := hW2 ▸ (Below.refl _ _).alloc (Nat.le_refl _) _
  have z1 : W1.heap.size = w.heap.size + 1 := by rw [hW1]; show (w.heap.push _).size = _; simp
  have z2 : W2.heap.size = W1.heap.size + 1 := by rw [hW2]; show (W1.heap.push _).size = _; simp
  have x12 := x1.below b2 x1.lt
  obtain ⟨d0, d1, d2, d3⟩ := x12.cells
  obtain ⟨WZ, hWZ⟩ : ∃ x, x = W2.alloc (.cells #[.int .i64 0, .string ⟨#[]⟩, .int .i64 0, .slice none 0 0] 25) := ⟨_, rfl⟩
  have xz : Box WZ W2.heap.size (.int .i64 0) (.string ⟨#[]⟩) (.int .i64 0) (.slice none 0 0) := hWZ ▸ Box.new W2 _ _ _ _
  have bz : Below W2.heap.size W2 WZ := hWZ ▸ (Below.refl _ _).alloc (Nat.le_refl _) _
  obtain ⟨y0, y1, y2, y3⟩ := xz.cells
  have v0 := xz.free 0
  have v1 := xz.free 1
  have v2 := xz.free 2
  have v3 := xz.free 3
  obtain ⟨W3, hW3⟩ : ∃ x, x = set4 WZ W2.heap.size (.int .i64 6) (.string ⟨#[]⟩) (.int .i64 0) (.slice none 0 0) := ⟨_, rfl⟩
  have x3 : Box W3 W2.heap.size (.int .i64 6) (.string ⟨#[]⟩) (.int .i64 0) (.slice none 0 0) := hW3 ▸ Box.four xz _ _ _ _
  have b3 : Below W2.heap.size W2 W3 := hW3 ▸ Below.four bz (Nat.le_refl _) _ _ _ _
  have X13 := keep (x12.below b3 x12.lt)
  have X23 := keep (x2.below b3 x2.lt)
  have X3 := keep x3
  have Z1 := keep z1
  have Z2 := keep z2
  have B3 := keep ((b1.trans (b2.mono b1.size)).trans (b3.mono (Nat.le_trans b1.size b2.size)))
  have hW1' := hW1.symm
  have hW2' := hW2.symm
  have hWZ' := hWZ.symm
  have hW3' : ((((WZ.setCell ⟨W2.heap.size, 0, none⟩ (.int .i64 6)).setCell ⟨W2.heap.size, 1, none⟩ (.string ⟨#[]⟩)).setCell ⟨W2.heap.size, 2, none⟩ (.int .i64 0)).setCell ⟨W2.heap.size, 3, none⟩ (.slice none 0 0)) = W3 := hW3.symm
  obtain ⟨z0, hz0⟩ : ∃ z0, k.tmod 7 = z0 := ⟨_, rfl⟩
  have hmod := Int.tmod_eq_emod (a := k) (b := 7)
  rw [hz0, show Int.natAbs 7 = 7 from rfl] at hmod
  have hz7 : Kept ((z0 < 0 → z0 + 7 = k % 7) ∧ (¬ z0 < 0 → z0 = k % 7) ∧ -7 ≤ z0 ∧ z0 ≤ 6) := keep (by split at hmod <;> omega)
  have hq7 : 0 ≤ k % 7 ∧ k % 7 < 7 := by omega
  obtain ⟨q0, hq0⟩ : ∃ q0, k % 7 = q0 := ⟨_, rfl⟩
  rw [hq0] at hz7 hz hq7
  obtain ⟨q, hq⟩ : ∃ q, q = q0 + 1 := ⟨_, rfl⟩
  have nq : IntKind.i64.wrap (q0 + 1) = q := by rw [IntKind.wrap_i64]; omega
  have nq2 : wrap64 (q0 + 1) = q := by unfold wrap64; omega
  have HZ : Kept (0 < ln ∨ q = 6) := keep (by
    rcases hz with h | h
    · left
      rw [← hln]
      exact List.length_pos_iff.2 h
    · right; omega)
  have nd : IntKind.i64.wrap (d + 1) = d + 1 := by rw [IntKind.wrap_i64]; omega
  have nd2 : wrap64 (d + 1) = d + 1 := by unfold wrap64; omega
  have hge : decide (8 ≤ d) = false := decide_eq_false (by omega)
  have hnge : ¬ 8 ≤ d := by omega
  have HLN := keep hln
  have HLL := keep hl
  have IHK := keep IH
  have B1 := keep b1
  clear hW1 hW2 hW3 hWZ hmod hq0 x1 b1 x2 b2 z1 z2 x12 x3 b3 xz bz hq7 hz hq hln hl hlc hcm hL IH hd
  go_enter Tryd.func38, Tryd.ntmps38
  go_upto_if 14 with fail
  go_cut [5, 14] from 15 to 16 (fun z b wx => z = .int .i64 q0 ∧ wx = W2)
  case first =>
    by_cases h : z0 < 0
    · have e : IntKind.i64.wrap (z0 + 7) = q0 := by
        have := hz7.out.1 h; have := hz7.out.2.2; rw [IntKind.wrap_i64]; omega
      go_wp2
      go_meet
      case rel => exact ⟨rfl, rfl⟩
    · obtain rfl := hz7.out.2.1 h
      go_wp2
      go_meet
      case rel => exact ⟨rfl, rfl⟩
  case rest =>
    obtain ⟨rfl, hwc⟩ := hcut
    obtain rfl := hwc.symm
    clear hwc hz7 hz0
    go_upto_region 5 with fail
    go_cut [26] from 19 to 26 (fun z wx => z = .bool (decide (0 < ln)) ∧ wx = W2)
    case first =>
      by_cases h : 0 < ln
      · go_wp2
        go_meet
        case rel => exact ⟨by simp [h], rfl⟩
      · go_wp2
        go_meet
        case rel => exact ⟨by simp [h], rfl⟩
    case rest =>
      obtain ⟨rfl, hwc⟩ := hcut
      obtain rfl := hwc.symm
      clear hwc
      go_upto_if 26 with fail
      go_cut [5, 26] from 27 (fun z b wx => z = .int .i64 6 ∧ wx = W2)
      case first =>
        by_cases h : 0 < ln
        · have hdt : decide (0 < ln) = true := decide_eq_true h
          go_wp2
          go_meet
          case rel => exact ⟨rfl, rfl⟩
        · have hdf : decide (0 < ln) = false := decide_eq_false h
          obtain rfl : q = 6 := HZ.out.resolve_left h
          go_wp2
          go_meet
          case rel => exact ⟨rfl, rfl⟩
      case rest =>
        obtain ⟨rfl, hwc⟩ := hcut
        obtain rfl := hwc.symm
        clear hwc d0 d1 d2 d3
        obtain ⟨d0, d1, d2, d3⟩ := X13.out.cells
        have hne : W1.heap.size ≠ W2.heap.size := by have := Z2.out; omega
        have low : w.heap.size ≤ W1.heap.size := by have := Z1.out; omega
        have low2 : w.heap.size ≤ W2.heap.size := by have := Z1.out; have := Z2.out; omega
        go_wp2
        go_loopw [80] (fun j wr => ∃ (jj : Nat) (v : Value) (ts : List (Rp.T (m + 1))), j = .int .i64 (jj : Int) ∧ jj ≤ ln ∧ Kept (Box wr W2.heap.size (.int .i64 6) (.string ⟨#[]⟩) (.int .i64 0) v) ∧ Kept (Box wr W1.heap.size (.int .i64 0) (.string ⟨#[]⟩) (.int .i64 0) (.slice none 0 0)) ∧ Kept (Row W3.heap.size wr (m + 1) v ts) ∧ Kept (ts = (l.take jj).map (Rp.pla n m)) ∧ Kept (Below w.heap.size w wr) ∧ Kept (W3.heap.size ≤ wr.heap.size)) (fun j _ => ln - (intOf j).toNat)
        case atStart => exact ⟨0, .slice none 0 0, [], rfl, Nat.zero_le _, X3, X23, keep (Row.nil _ _ _), keep rfl, B3, keep (Nat.le_refl _)⟩
        case round =>
          obtain ⟨jj, v, ts, rfl, hj, X6, X4, RW, TS, BW, SZ⟩ := hrel
          clear d0 d1 d2 d3 y0 y1 y2 y3 v0 v1 v2 v3 hW1' hW2' hWZ' hW3'
          have TL : Kept (ts.length = jj) := keep (by rw [TS.out, List.length_map, List.length_take, HLN.out]; omega)
          obtain ⟨aoV, cV, hvV⟩ := RW.out.form
          rw [TL.out] at hvV
          subst hvV
          by_cases hlt : jj < ln
          · have h0 : (0 : Int) ≤ (jj : Int) := by omega
            have h1 : (jj : Int) < (ln : Int) := by omega
            have nw : IntKind.i64.wrap ((jj : Int) + 1) = ((jj + 1 : Nat) : Int) := by have := HLL.out; rw [IntKind.wrap_i64]; omega
            obtain ⟨x, hx⟩ : ∃ x, l[jj]? = some x := ⟨_, List.getElem?_eq_getElem (by rw [HLN.out]; exact hlt)⟩
            obtain ⟨g, cap, hao, hg, c0, c1, c2, c3, tx, m0, m1, m2, m3⟩ := AT.out jj x hx
            obtain ⟨e0, e1, e2, e3, e4, e5, hcs, _⟩ := tx.six
            obtain ⟨rfl, rfl, rfl, rfl⟩ : c0 = .int .i64 e0 ∧ c1 = .string e1 ∧ c2 = .int .i64 e2 ∧ c3 = .slice e3 e4 e5 := by
              injection hcs with h1 h2
              injection h2 with h2 h3
              injection h3 with h3 h4
              injection h4 with h4 _
              exact ⟨h1, h2, h3, h4⟩
            clear hcs
            injection hao with ha1 _ ha3
            subst ha1
            subst ha3
            have n0 := (BW.out.cell (p := ⟨g, jj * 4, none⟩) hg).trans m0
            have n1 := (BW.out.cell (p := ⟨g, jj * 4 + 1, none⟩) hg).trans m1
            have n2 := (BW.out.cell (p := ⟨g, jj * 4 + 2, none⟩) hg).trans m2
            have n3 := (BW.out.cell (p := ⟨g, jj * 4 + 3, none⟩) hg).trans m3
            obtain ⟨WA, hWA⟩ : ∃ x, x = wr.alloc (.cells #[.int .i64 e0, .string e1, .int .i64 e2, .slice e3 e4 e5] 25) := ⟨_, rfl⟩
            have xa : Box WA wr.heap.size (.int .i64 e0) (.string e1) (.int .i64 e2) (.slice e3 e4 e5) := hWA ▸ Box.new wr _ _ _ _
            have ba : Below wr.heap.size wr WA := hWA ▸ (Below.refl _ _).alloc (Nat.le_refl _) _
            have za : Kept (WA.heap.size = wr.heap.size + 1) := keep (by rw [hWA]; show (wr.heap.push _).size = _; simp)
            have xaC := xa.cells
            have xaD : Box WA.drew wr.heap.size (.int .i64 e0) (.string e1) (.int .i64 e2) (.slice e3 e4 e5) := xa
            have baD : Below wr.heap.size wr WA.drew := ba.drew
            have X6A : Kept (Box WA.drew W2.heap.size (.int .i64 6) (.string ⟨#[]⟩) (.int .i64 0) (.slice aoV jj cV)) := keep (X6.out.below baD X6.out.lt)
            have hWA' := hWA.symm
            have ZD : Kept (WA.drew.heap.size = wr.heap.size + 1) := keep za.out
            have telx : Tel (· < WA.drew.heap.size) WA.drew n [.int .i64 e0, .string e1, .int .i64 e2, .slice e3 e4 e5] x :=
              Tel.mono (fun b hb => Nat.lt_of_lt_of_le hb (Nat.le_trans BW.out.size baD.size)) (fun b hb => (baD.block b (Nat.lt_of_lt_of_le hb BW.out.size)).trans (BW.out.block b hb)) _ _ _ tx
            have CALL := keep (IHK.out WA.drew _ x (List.mem_of_getElem? hx) telx)
            have HX := keep hx
            have HLT := keep hlt
            -- what the region leaves, whatever its order
            have END : ∀ (e : Ending) (w2 : World), PlTold (m + 1) WA.drew (Rp.pla n m x) e w2 → ∃ (q0 : Int) (q1 : ByteArray) (q2 : Int) (q3 : Option Addr) (q4 q5 : Nat) (w4 w6 : World) (aoN : Option Addr) (q6 cN : Nat),
                e = .returned (.agg #[.int .i64 q0, .string q1, .int .i64 q2, .slice q3 q4 q5]) ∧
                Kept (Below WA.drew.heap.size WA.drew w2) ∧ Kept (w4 = w2.alloc (.cells #[.int .i64 q0, .string q1, .int .i64 q2, .slice q3 q4 q5] 25)) ∧
                Kept ((Instr.buildSlice 23 1 #[(0, .agg #[.int .i64 q0, .string q1, .int .i64 q2, .slice q3 q4 q5])]).run Tryd.prog w2 = .ok (.slice (some ⟨w2.heap.size, 0, none⟩) 1 1) w4) ∧
                Kept ((Builtin.append_ #[23, 23] 23 #[.slice aoV jj cV, .slice (some ⟨w2.heap.size, 0, none⟩) 1 1]).run Tryd.prog w4 = .ok (.slice aoN q6 cN) w6) ∧
                Kept (Row W3.heap.size w6 (m + 1) (.slice aoN q6 cN) (ts ++ [Rp.pla n m x])) ∧ Kept (Gr (.slice aoV jj cV) (.slice aoN q6 cN) w2 w6) ∧
                Kept (Box w2 W2.heap.size (.int .i64 6) (.string ⟨#[]⟩) (.int .i64 0) (.slice aoV jj cV)) ∧ Kept (Box w6 W2.heap.size (.int .i64 6) (.string ⟨#[]⟩) (.int .i64 0) (.slice aoV jj cV)) ∧ Kept (Box w6 W1.heap.size (.int .i64 0) (.string ⟨#[]⟩) (.int .i64 0) (.slice none 0 0)) ∧
                Kept (Box w2 wr.heap.size (.int .i64 e0) (.string e1) (.int .i64 e2) (.slice e3 e4 e5)) ∧ Kept (Box w4 wr.heap.size (.int .i64 e0) (.string e1) (.int .i64 e2) (.slice e3 e4 e5)) ∧ Kept (Box w4 W2.heap.size (.int .i64 6) (.string ⟨#[]⟩) (.int .i64 0) (.slice aoV jj cV)) ∧ Kept (Box w6 wr.heap.size (.int .i64 e0) (.string e1) (.int .i64 e2) (.slice e3 e4 e5)) ∧
                Kept (Below w.heap.size w w6) ∧ Kept (W3.heap.size ≤ w6.heap.size) := by
              rintro e w2 ⟨cs, rfl, ht, b2⟩
              obtain ⟨q0, q1, q2, q3, q4, q5, rfl, _⟩ := ht.six
              have b02 : Below wr.heap.size wr w2 := baD.trans (b2.mono baD.size)
              have row2 : Row W3.heap.size w2 (m + 1) (.slice aoV jj cV) ts := RW.out.later b02.size (fun b h1 h2 => b02.block b h2)
              have tel2 : Tel (Mine W3.heap.size w2 (.slice aoV jj cV)) w2 (m + 1) [.int .i64 q0, .string q1, .int .i64 q2, .slice q3 q4 q5] (Rp.pla n m x) :=
                Tel.mono (fun b h => ⟨by have := ZD.out; have := SZ.out; omega, h.2, fun e => by have := (RW.out.own e).2; have := ZD.out; omega⟩) (fun b h => rfl) _ _ _ ht
              obtain ⟨v', w6, run6, row6, gr6⟩ := row_app row2 tel2 (by have := TL.out; have := HLL.out; omega) (Nat.le_trans SZ.out b02.size) 23
              obtain ⟨aoN, cN, hv6⟩ := row6.form
              obtain ⟨q6, hq6⟩ : ∃ q, (ts ++ [Rp.pla n m x]).length = q := ⟨_, rfl⟩
              rw [hq6] at hv6
              subst hv6
              have bs : (Instr.buildSlice 23 1 #[(0, .agg #[.int .i64 q0, .string q1, .int .i64 q2, .slice q3 q4 q5])]).run Tryd.prog w2 = .ok (.slice (some ⟨w2.heap.size, 0, none⟩) 1 1) (w2.alloc (.cells #[.int .i64 q0, .string q1, .int .i64 q2, .slice q3 q4 q5] 25)) := by
                obtain ⟨i0, hi0, hz0, hz1, hz2⟩ := parts_of info_rp
                exact run_buildSlice w2 _ _ 1 _ _ i0 _ Tryd.underlying23 hi0 hz0 (by rw [hz1]; decide) (by rw [hz1]; decide) (by rw [hz1]; simp [Instr.fill, Value.cells, Array.range, List.zipIdx]; rfl)
              have o6 : (Value.slice aoV jj cV).ownBlock ≠ some W2.heap.size := fun e => by have := (RW.out.own e).1; have := X3.out.lt; omega
              have o4 : (Value.slice aoV jj cV).ownBlock ≠ some W1.heap.size := fun e => by have := (RW.out.own e).1; have := X23.out.lt; omega
              have oA : (Value.slice aoV jj cV).ownBlock ≠ some wr.heap.size := fun e => by have := (RW.out.own e).2; omega
              have x62 := X6.out.below b02 X6.out.lt
              have x42 := X4.out.below b02 X4.out.lt
              have xa2 := xaD.below b2 xaD.lt
              have b4 : Below w2.heap.size w2 (w2.alloc (.cells #[.int .i64 q0, .string q1, .int .i64 q2, .slice q3 q4 q5] 25)) := (Below.refl _ _).alloc (Nat.le_refl _) _
              exact ⟨q0, q1, q2, q3, q4, q5, _, w6, aoN, q6, cN, rfl, keep b2, keep rfl, keep bs, keep run6, keep row6, keep gr6, keep x62, keep ((gr6.from x62.lt o6).trans x62), keep ((gr6.from x42.lt o4).trans x42), keep xa2, keep (xa2.below b4 xa2.lt), keep (x62.below b4 x62.lt), keep ((gr6.from xa2.lt oA).trans xa2),
                keep ((BW.out.trans (b02.mono BW.out.size)).trans (gr6.below (Nat.le_trans BW.out.size b02.size) (fun k hk => by have := (RW.out.own hk).1; have := X3.out.lt; omega))), keep (Nat.le_trans SZ.out (Nat.le_trans b02.size gr6.size))⟩
            have E := keep END
            have XAD := keep xaD
            clear END tx hg m0 m1 m2 m3 hx hWA xa ba xaC xaD baD telx hlt
            go_upto_region 27 with fail
            refine wp_region_held_drew (S := fun W => W.cell? ⟨wr.heap.size, 0, none⟩ = some (.int .i64 e0) ∧ W.cell? ⟨wr.heap.size, 1, none⟩ = some (.string e1) ∧ W.cell? ⟨wr.heap.size, 2, none⟩ = some (.int .i64 e2) ∧ W.cell? ⟨wr.heap.size, 3, none⟩ = some (.slice e3 e4 e5)) (by kernel_rfl) XAD.out.cells (fun hHeld => ?_)
            obtain ⟨k0, k1, k2, k3⟩ := X6A.out.cells
            refine wpAnyH_take (i := 0) (oi := { dst := some 84, op := _, type := _, pos := _, after := _, guard := _ }) (v := ?v1) rfl (by kernel_rfl) (by kernel_rfl) (by kernel_rfl) (fun _ _ _ h => h) (Or.inl ⟨by rfl, ?hy1⟩) (by assumption) ?rest1
            case hy1 => (intro w hSw; obtain ⟨p0,p1,p2,p3⟩ := hSw; go_simp; try with_reducible rfl)
            try simp only [Act.put, List.setIfInBounds_toArray, List.set_cons_zero, List.set_cons_succ]
            refine wpAnyH_take (i := 2) (oi := { dst := some 86, op := _, type := _, pos := _, after := _, guard := _ }) (v := (.agg #[.int .i64 e0, .string e1, .int .i64 e2, .slice e3 e4 e5])) rfl (by kernel_rfl) (by kernel_rfl) (by kernel_rfl) (fun _ _ _ h => h) (Or.inl ⟨by rfl, ?hy2⟩) (by assumption) ?rest2
            case hy2 => (intro w hSw; obtain ⟨p0,p1,p2,p3⟩ := hSw; first | (go_simp; done) | (go_simp; simp [*]; done) | (simp [*]; go_simp; done))
            try simp only [Act.put, List.setIfInBounds_toArray, List.set_cons_zero, List.set_cons_succ]
            refine wpAnyH_take (i := 3) (oi := { dst := some 87, op := _, type := _, pos := _, after := _, guard := _ }) (v := ?v3) rfl (by kernel_rfl) (by kernel_rfl) (by kernel_rfl) (fun _ _ _ h => h) (Or.inl ⟨by rfl, ?hy3⟩) (by assumption) ?rest3
            case hy3 => (intro w hSw; obtain ⟨p0,p1,p2,p3⟩ := hSw; go_simp; try with_reducible rfl)
            try simp only [Act.put, List.setIfInBounds_toArray, List.set_cons_zero, List.set_cons_succ]
            refine wpAnyH_take (i := 4) (oi := { dst := some 88, op := _, type := _, pos := _, after := _, guard := _ }) (v := (.int .i64 (d + 1))) rfl (by kernel_rfl) (by kernel_rfl) (by kernel_rfl) (fun _ _ _ h => h) (Or.inl ⟨by rfl, ?hy4⟩) (by assumption) ?rest4
            case hy4 => (intro w hSw; obtain ⟨p0,p1,p2,p3⟩ := hSw; first | (go_simp; done) | (go_simp; simp [*]; done) | (simp [*]; go_simp; done))
            try simp only [Act.put, List.setIfInBounds_toArray, List.set_cons_zero, List.set_cons_succ]
            generalize WA.drew = WD at *
            refine wpAnyH_ready (rs := [1, 5]) (by kernel_rfl) (by simp) ?_
            refine AllReadyH.cons (o := { dst := some 85, op := _, type := _, pos := _, after := _, guard := _ }) rfl (fun K hK => ?_) (AllReadyH.cons (o := { dst := some 89, op := _, type := _, pos := _, after := _, guard := _ }) rfl (fun K hK => ?_) AllReadyH.nil)
            · go_simp
              refine hK.out _ _ hHeld (fun hHeld => ?_)
              try simp only [Act.put, List.setIfInBounds_toArray, List.set_cons_zero, List.set_cons_succ]
              clear hK
              refine wpAnyH_ready (rs := [5]) (by kernel_rfl) (by simp) ?_
              refine AllReadyH.cons (o := { dst := some 89, op := _, type := _, pos := _, after := _, guard := _ }) rfl (fun K hK => ?_) AllReadyH.nil
              go_simp
              refine CALL.out.mono ?_
              rintro e w2 he
              obtain ⟨r0, r1, r2, r3, r4, r5, w4, w6, aoN, q6, cN, rfl, B2, W4E, BS, RUN, R6, G6, X62, X66, X46, XA2, XA4, X64, XA6, BW6, SZ6⟩ := E.out e w2 he
              refine hK.out _ _ XA2.out.cells (fun hHeld => ?_)
              try simp only [Act.put, List.setIfInBounds_toArray, List.set_cons_zero, List.set_cons_succ]
              clear hK he
              refine wpAnyH_ready (rs := [6]) (by kernel_rfl) (by simp) ?_
              refine AllReadyH.cons (o := { dst := some 90, op := _, type := _, pos := _, after := _, guard := _ }) rfl (fun K hK => ?_) AllReadyH.nil
              go_simp
              rw [← W4E.out]
              refine hK.out _ _ XA4.out.cells (fun hHeld => ?_)
              try simp only [Act.put, List.setIfInBounds_toArray, List.set_cons_zero, List.set_cons_succ]
              clear hK
              refine wpAnyH_ready (rs := [7]) (by kernel_rfl) (by simp) ?_
              refine AllReadyH.cons (o := { dst := some 91, op := _, type := _, pos := _, after := _, guard := _ }) rfl (fun K hK => ?_) AllReadyH.nil
              refine wp_app_run (.tmp 85) (.tmp 90) 23 23 rfl _ _ _ rfl rfl RUN.out ?_
              refine hK.out _ _ XA6.out.cells (fun hHeld => ?_)
              try simp only [Act.put, List.setIfInBounds_toArray, List.set_cons_zero, List.set_cons_succ]
              clear hK
              refine wpAnyH_take (i := 8) (oi := { dst := some 92, op := _, type := _, pos := _, after := _, guard := _ }) (v := ?v5) rfl (by kernel_rfl) (by kernel_rfl) (by kernel_rfl) (fun _ _ _ h => h) (Or.inl ⟨by rfl, ?hy5⟩) (by assumption) ?rest5
              case hy5 => (intro w hSw; go_simp; try with_reducible rfl)
              try simp only [Act.put, List.setIfInBounds_toArray, List.set_cons_zero, List.set_cons_succ]
              refine wpAnyH_ready (rs := [9]) (by kernel_rfl) (by simp) ?_
              refine AllReadyH.cons (o := { dst := none, op := _, type := _, pos := _, after := _, guard := _ }) rfl (fun K hK => ?_) AllReadyH.nil
              obtain ⟨i0, i1, i2, i3⟩ := X66.out.cells
              have u3 := X66.out.free 3
              go_simp
              have hne2 : wr.heap.size ≠ W2.heap.size := by have := SZ.out; have := X3.out.lt; omega
              refine hK.out _ _ (Box.cells ((one_other hne2 _).trans XA6.out)) (fun hHeld => ?_)
              try simp only [Act.put, List.setIfInBounds_toArray, List.set_cons_zero, List.set_cons_succ]
              clear hK
              refine wpAnyH_done (by kernel_rfl) ?_ _
              clear hHeld
              go_wp2
              go_roundw
              case measure => have := HLT.out; simp [intOf]; omega
              case rel =>
                have hz7 : (w6.setCell ⟨W2.heap.size, 3, none⟩ (.slice aoN q6 cN)).heap.size = w6.heap.size := by simp [World.setCell]
                have h7 : ∀ b, b ≠ W2.heap.size → (w6.setCell ⟨W2.heap.size, 3, none⟩ (.slice aoN q6 cN)).heap[b]? = w6.heap[b]? := fun b hb => one_other hb _
                exact ⟨jj + 1, .slice aoN q6 cN, ts ++ [Rp.pla n m x], by rfl, HLT.out, keep (X66.out.three _), keep ((h7 _ hne).trans X46.out), keep (R6.out.later (Nat.le_of_eq hz7.symm) (fun b h1 h2 => h7 b (by have := X3.out.lt; omega))), keep (by rw [TS.out, List.take_add_one, HX.out, List.map_append]; rfl), keep (BW6.out.setCell (p := ⟨W2.heap.size, 3, none⟩) low2 _), keep (by rw [hz7]; exact SZ6.out)⟩
            · go_simp
              refine CALL.out.mono ?_
              rintro e w2 he
              obtain ⟨r0, r1, r2, r3, r4, r5, w4, w6, aoN, q6, cN, rfl, B2, W4E, BS, RUN, R6, G6, X62, X66, X46, XA2, XA4, X64, XA6, BW6, SZ6⟩ := E.out e w2 he
              refine hK.out _ _ XA2.out.cells (fun hHeld => ?_)
              try simp only [Act.put, List.setIfInBounds_toArray, List.set_cons_zero, List.set_cons_succ]
              clear hK he
              refine wpAnyH_ready (rs := [1, 6]) (by kernel_rfl) (by simp) ?_
              refine AllReadyH.cons (o := { dst := some 85, op := _, type := _, pos := _, after := _, guard := _ }) rfl (fun K hK => ?_) (AllReadyH.cons (o := { dst := some 90, op := _, type := _, pos := _, after := _, guard := _ }) rfl (fun K hK => ?_) AllReadyH.nil)
              · obtain ⟨k0, k1, k2, k3⟩ := X62.out.cells
                go_simp
                refine hK.out _ _ hHeld (fun hHeld => ?_)
                try simp only [Act.put, List.setIfInBounds_toArray, List.set_cons_zero, List.set_cons_succ]
                clear hK
                refine wpAnyH_ready (rs := [6]) (by kernel_rfl) (by simp) ?_
                refine AllReadyH.cons (o := { dst := some 90, op := _, type := _, pos := _, after := _, guard := _ }) rfl (fun K hK => ?_) AllReadyH.nil
                go_simp
                rw [← W4E.out]
                refine hK.out _ _ XA4.out.cells (fun hHeld => ?_)
                try simp only [Act.put, List.setIfInBounds_toArray, List.set_cons_zero, List.set_cons_succ]
                clear hK
                refine wpAnyH_ready (rs := [7]) (by kernel_rfl) (by simp) ?_
                refine AllReadyH.cons (o := { dst := some 91, op := _, type := _, pos := _, after := _, guard := _ }) rfl (fun K hK => ?_) AllReadyH.nil
                refine wp_app_run (.tmp 85) (.tmp 90) 23 23 rfl _ _ _ rfl rfl RUN.out ?_
                refine hK.out _ _ XA6.out.cells (fun hHeld => ?_)
                try simp only [Act.put, List.setIfInBounds_toArray, List.set_cons_zero, List.set_cons_succ]
                clear hK
                refine wpAnyH_take (i := 8) (oi := { dst := some 92, op := _, type := _, pos := _, after := _, guard := _ }) (v := ?v6) rfl (by kernel_rfl) (by kernel_rfl) (by kernel_rfl) (fun _ _ _ h => h) (Or.inl ⟨by rfl, ?hy6⟩) (by assumption) ?rest6
                case hy6 => (intro w hSw; go_simp; try with_reducible rfl)
                try simp only [Act.put, List.setIfInBounds_toArray, List.set_cons_zero, List.set_cons_succ]
                refine wpAnyH_ready (rs := [9]) (by kernel_rfl) (by simp) ?_
                refine AllReadyH.cons (o := { dst := none, op := _, type := _, pos := _, after := _, guard := _ }) rfl (fun K hK => ?_) AllReadyH.nil
                obtain ⟨i0, i1, i2, i3⟩ := X66.out.cells
                have u3 := X66.out.free 3
                go_simp
                have hne2 : wr.heap.size ≠ W2.heap.size := by have := SZ.out; have := X3.out.lt; omega
                refine hK.out _ _ (Box.cells ((one_other hne2 _).trans XA6.out)) (fun hHeld => ?_)
                try simp only [Act.put, List.setIfInBounds_toArray, List.set_cons_zero, List.set_cons_succ]
                clear hK
                refine wpAnyH_done (by kernel_rfl) ?_ _
                clear hHeld
                go_wp2
                go_roundw
                case measure => have := HLT.out; simp [intOf]; omega
                case rel =>
                  have hz7 : (w6.setCell ⟨W2.heap.size, 3, none⟩ (.slice aoN q6 cN)).heap.size = w6.heap.size := by simp [World.setCell]
                  have h7 : ∀ b, b ≠ W2.heap.size → (w6.setCell ⟨W2.heap.size, 3, none⟩ (.slice aoN q6 cN)).heap[b]? = w6.heap[b]? := fun b hb => one_other hb _
                  exact ⟨jj + 1, .slice aoN q6 cN, ts ++ [Rp.pla n m x], by rfl, HLT.out, keep (X66.out.three _), keep ((h7 _ hne).trans X46.out), keep (R6.out.later (Nat.le_of_eq hz7.symm) (fun b h1 h2 => h7 b (by have := X3.out.lt; omega))), keep (by rw [TS.out, List.take_add_one, HX.out, List.map_append]; rfl), keep (BW6.out.setCell (p := ⟨W2.heap.size, 3, none⟩) low2 _), keep (by rw [hz7]; exact SZ6.out)⟩
              · go_simp
                rw [← W4E.out]
                refine hK.out _ _ XA4.out.cells (fun hHeld => ?_)
                try simp only [Act.put, List.setIfInBounds_toArray, List.set_cons_zero, List.set_cons_succ]
                clear hK
                refine wpAnyH_ready (rs := [1]) (by kernel_rfl) (by simp) ?_
                refine AllReadyH.cons (o := { dst := some 85, op := _, type := _, pos := _, after := _, guard := _ }) rfl (fun K hK => ?_) AllReadyH.nil
                obtain ⟨k0, k1, k2, k3⟩ := X64.out.cells
                go_simp
                refine hK.out _ _ hHeld (fun hHeld => ?_)
                try simp only [Act.put, List.setIfInBounds_toArray, List.set_cons_zero, List.set_cons_succ]
                clear hK
                refine wpAnyH_ready (rs := [7]) (by kernel_rfl) (by simp) ?_
                refine AllReadyH.cons (o := { dst := some 91, op := _, type := _, pos := _, after := _, guard := _ }) rfl (fun K hK => ?_) AllReadyH.nil
                refine wp_app_run (.tmp 85) (.tmp 90) 23 23 rfl _ _ _ rfl rfl RUN.out ?_
                refine hK.out _ _ XA6.out.cells (fun hHeld => ?_)
                try simp only [Act.put, List.setIfInBounds_toArray, List.set_cons_zero, List.set_cons_succ]
                clear hK
                refine wpAnyH_take (i := 8) (oi := { dst := some 92, op := _, type := _, pos := _, after := _, guard := _ }) (v := ?v7) rfl (by kernel_rfl) (by kernel_rfl) (by kernel_rfl) (fun _ _ _ h => h) (Or.inl ⟨by rfl, ?hy7⟩) (by assumption) ?rest7
                case hy7 => (intro w hSw; go_simp; try with_reducible rfl)
                try simp only [Act.put, List.setIfInBounds_toArray, List.set_cons_zero, List.set_cons_succ]
                refine wpAnyH_ready (rs := [9]) (by kernel_rfl) (by simp) ?_
                refine AllReadyH.cons (o := { dst := none, op := _, type := _, pos := _, after := _, guard := _ }) rfl (fun K hK => ?_) AllReadyH.nil
                obtain ⟨i0, i1, i2, i3⟩ := X66.out.cells
                have u3 := X66.out.free 3
                go_simp
                have hne2 : wr.heap.size ≠ W2.heap.size := by have := SZ.out; have := X3.out.lt; omega
                refine hK.out _ _ (Box.cells ((one_other hne2 _).trans XA6.out)) (fun hHeld => ?_)
                try simp only [Act.put, List.setIfInBounds_toArray, List.set_cons_zero, List.set_cons_succ]
                clear hK
                refine wpAnyH_done (by kernel_rfl) ?_ _
                clear hHeld
                go_wp2
                go_roundw
                case measure => have := HLT.out; simp [intOf]; omega
                case rel =>
                  have hz7 : (w6.setCell ⟨W2.heap.size, 3, none⟩ (.slice aoN q6 cN)).heap.size = w6.heap.size := by simp [World.setCell]
                  have h7 : ∀ b, b ≠ W2.heap.size → (w6.setCell ⟨W2.heap.size, 3, none⟩ (.slice aoN q6 cN)).heap[b]? = w6.heap[b]? := fun b hb => one_other hb _
                  exact ⟨jj + 1, .slice aoN q6 cN, ts ++ [Rp.pla n m x], by rfl, HLT.out, keep (X66.out.three _), keep ((h7 _ hne).trans X46.out), keep (R6.out.later (Nat.le_of_eq hz7.symm) (fun b h1 h2 => h7 b (by have := X3.out.lt; omega))), keep (by rw [TS.out, List.take_add_one, HX.out, List.map_append]; rfl), keep (BW6.out.setCell (p := ⟨W2.heap.size, 3, none⟩) low2 _), keep (by rw [hz7]; exact SZ6.out)⟩
          · have h1 : ¬ (jj : Int) < (ln : Int) := by omega
            obtain rfl : jj = ln := by omega
            obtain ⟨e0, e1, e2, e3⟩ := X6.out.cells
            obtain ⟨g0, g1, g2, g3⟩ := X4.out.cells
            have f0 := X4.out.free 0
            have f1 := X4.out.free 1
            have f2 := X4.out.free 2
            have f3 := X4.out.free 3
            have TE : Kept (ts = l.map (Rp.pla n m)) := keep (by rw [TS.out, List.take_of_length_le (by rw [HLN.out]; exact Nat.le_refl _)])
            go_wp2
            (try simp only [Exit.inBlock, Exit.then])
            refine bodyPost_ret (res_rp1 rfl _ _ W1.heap.size _ _ _ _ rfl (Box.four X4.out _ _ _ _)) rfl ?_
            refine ⟨[.int .i64 6, .string ⟨#[]⟩, .int .i64 0, .slice aoV jj cV], rfl, ⟨_, rfl, ?_, (by show I64 6; exact ⟨by decide, by decide⟩), (by show I64 0; exact i64_0), by show (0 : Nat) < 4294967281; decide⟩, Below.four BW.out low _ _ _ _⟩
            show Lst _ _ _ _ (l.map (Rp.pla n m))
            rw [← TE.out]
            have fz : (set4 wr W1.heap.size (.int .i64 6) (.string ⟨#[]⟩) (.int .i64 0) (.slice aoV jj cV)).heap.size = wr.heap.size := by simp [set4, World.setCell]
            have z3 : W1.heap.size < W3.heap.size := X23.out.lt
            have hlow : ∀ b, (W3.heap.size ≤ b ∧ b < wr.heap.size) → (w.heap.size ≤ b ∧ b < (set4 wr W1.heap.size (.int .i64 6) (.string ⟨#[]⟩) (.int .i64 0) (.slice aoV jj cV)).heap.size) := fun b h => ⟨by omega, by rw [fz]; exact h.2⟩
            have hsm : ∀ b, (W3.heap.size ≤ b ∧ b < wr.heap.size) → (set4 wr W1.heap.size (.int .i64 6) (.string ⟨#[]⟩) (.int .i64 0) (.slice aoV jj cV)).heap[b]? = wr.heap[b]? := fun b h => four_other (by omega) _ _ _ _
            exact RW.out.lst.mono hlow hsm (fun cs x hx => Tel.mono hlow hsm _ _ _ hx)
end Go.Proofs.YtoalnfkjpdgbiaaDoor
