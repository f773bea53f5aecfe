/-
  Contracts over this program: bytes.IndexAny of CR LF at two to eight bytes.
-/
import Derived.Test.YtoalnfkjpdgbiaaDoorRpBidx
/-
  Contracts over this program: bytes.IndexAny of CR LF at more than eight bytes.
-/
namespace Go.Proofs.YtoalnfkjpdgbiaaDoor
open Go.RowKit
set_option linter.unusedVariables false
set_option maxRecDepth 1000000 in
set_option maxHeartbeats 4000000 in
theorem bidx_long (g o n c : Nat) (l : List UInt8) (w : World) (hn : n = l.length) (h8 : 8 < n) (hm : n ≤ 140737488355328) (hc : n ≤ c) (hl : ∀ j x, l[j]? = some x → w.cell? ⟨g, o + j, none⟩ = some (.int .u8 (x.toNat : Int))) :
    Calls Tryd.prog 69 #[.slice (some ⟨g, o, none⟩) n c, .string ⟨#[13, 10]⟩] w fun e w' => e = .returned (.int .i64 (Lib.indexAny l crs)) ∧ Below w.heap.size w w' := by
  have z1 : ((n : Int) == 1) = false := beq_eq_false_iff_ne.2 (by omega)
  have z8 : decide ((8 : Int) < (n : Int)) = true := decide_eq_true (by omega)
  obtain ⟨w1, hw1⟩ : ∃ x, x = w.alloc (.cells (Lib.setCells crs) 115) := ⟨_, rfl⟩
  obtain ⟨W2, hW2⟩ : ∃ x, x = w1.alloc (.cells (Lib.setCells crs) 115) := ⟨_, rfl⟩
  have hsc := run_storeCells_new (P := Tryd.prog) w1 115 (Array.replicate 256 (.bool false)) (Lib.setCells crs) (by rw [Lib.setCells_size crs]; exact size115) (by rw [Lib.setCells_size crs]; simp) (Lib.setCells_one _)
  have hsize := Lib.setCells_size crs
  rw [← hW2] at hsc
  have b1 : Below w.heap.size w w1 := hw1 ▸ (Below.refl _ _).alloc (Nat.le_refl _) _
  have b2 : Below w1.heap.size w1 W2 := hW2 ▸ (Below.refl _ _).alloc (Nat.le_refl _) _
  have B2 := keep (b1.trans (b2.mono b1.size))
  have HS : Kept (∀ x : UInt8, W2.cell? ⟨w1.heap.size, x.toNat, none⟩ = some (.bool (crs.contains x))) := keep (fun x => by rw [hW2, cell_of_row _ _ _ _ _ _ (heap_alloc_new _ _)]; exact set_in x)
  have HLs : Kept (∀ j x, l[j]? = some x → W2.cell? ⟨g, o + j, none⟩ = some (.int .u8 (x.toNat : Int))) := keep (fun j x hx => by
    have h1 := hl j x hx
    have hlt := World.block_lt_of_cell? w ⟨g, o + j, none⟩ h1
    exact (World.cell?_of_block (B2.out.block g hlt)).trans h1)
  have HN := keep hn
  have HM := keep hm
  have v115 := zero115
  have MS := keep (makeset_any w)
  rw [← hw1] at MS
  clear b1 b2 hl hW2 hw1 hn h8 hm
  go_enter Tryd.func69, Tryd.ntmps69
  go_wp2_with fail
  refine (ascii_any n _).mono ?_
  rintro e w' ⟨rfl, hw⟩
  rw [hw, z8]
  go_wp2_with fail
  refine MS.out.mono ?_
  rintro e w3 ⟨rfl, hw3⟩
  rw [hw3]
  go_wp2
  go_loopg [62] n (fun gg u wx => ∃ i : Nat, i + gg = n ∧ u = .int .i64 i ∧ wx = W2 ∧ Kept (Lib.NoAny l crs i))
  case atStart => exact ⟨0, by omega, rfl, rfl, keep (Lib.NoAny.zero _ _)⟩
  case round =>
    obtain ⟨i, hig, rfl, hwr, HNo⟩ := hrel
    obtain rfl := hwr.symm
    cases gk with
    | zero =>
      obtain rfl : i = n := by omega
      have hlt : ¬ (i : Int) < (i : Int) := by omega
      go_wp2
      go_ret
      exact ⟨by rw [Lib.indexAny_none (by rw [← HN.out]; exact HNo.out)]; rfl, B2.out⟩
    | succ gg =>
      have hlt : (i : Int) < (n : Int) := by omega
      have hi0 : (0 : Int) ≤ (i : Int) := by omega
      have hiw : IntKind.i64.wrap ((i : Int) + 1) = ((i + 1 : Nat) : Int) := by have := HM.out; rw [IntKind.wrap_i64]; omega
      obtain ⟨x, hx⟩ : ∃ x, l[i]? = some x := ⟨_, List.getElem?_eq_getElem (by rw [← HN.out]; omega)⟩
      have hcl := HLs.out i x hx
      have hin := HS.out x
      have HX := keep hx
      clear hx
      cases hq : crs.contains x with
      | false =>
        rw [hq] at hin
        have HQ := keep hq
        clear hq
        go_wp2_with fail
        refine (inset_any w1.heap.size x false _ hin).mono ?_
        rintro e w4 ⟨rfl, hw4⟩
        rw [hw4]
        go_wp2
        go_roundg gg
        case measure => omega
        case rel => exact ⟨i + 1, by omega, by rfl, rfl, keep (HNo.out.succ HX.out HQ.out)⟩
      | true =>
        rw [hq] at hin
        have HQ := keep hq
        clear hq
        go_wp2_with fail
        refine (inset_any w1.heap.size x true _ hin).mono ?_
        rintro e w4 ⟨rfl, hw4⟩
        rw [hw4]
        go_wp2
        go_ret
        exact ⟨by rw [Lib.indexAny_hit HNo.out HX.out HQ.out]; rfl, B2.out⟩
end Go.Proofs.YtoalnfkjpdgbiaaDoor

namespace Go.Proofs.YtoalnfkjpdgbiaaDoor
open Go.RowKit
set_option linter.unusedVariables false
theorem cell_below {w w' : World} (hb : Below w.heap.size w w') {g o : Nat} {v : Value} (h : w.cell? ⟨g, o, none⟩ = some v) : w'.cell? ⟨g, o, none⟩ = some v :=
  (World.cell?_of_block (hb.block g (World.block_lt_of_cell? w ⟨g, o, none⟩ h))).trans h
theorem Utf8_below {a b : Nat} {w w' : World} (h : Lib.Utf8Tabs a b w) (hb : Below w.heap.size w w') : Lib.Utf8Tabs a b w' :=
  ⟨fun c hc => cell_below hb (h.1 c hc), fun i hi => ⟨cell_below hb (h.2 i hi).1, cell_below hb (h.2 i hi).2⟩⟩
theorem Vars.below {w w' : World} (h : Vars w) (hb : Below w.heap.size w w') : Vars w' :=
  ⟨Utf8_below h.1 hb, by obtain ⟨m, hm⟩ := h.2; exact ⟨m, cell_below hb hm⟩⟩
theorem slice_from {P : Program} (w : World) (t e : TypeId) (ht : P.underlying t = some (.slice e)) (i : TypeInfo) (hi : P.info? e = some i) (h1 : i.size = 1) (g o n c k : Nat) (hk : k ≤ n) (hn : n ≤ c) :
    (Instr.slice t (.slice (some ⟨g, o, none⟩) n c) (some (.int .i64 (k : Int))) none none).run P w = .ok (.slice (some (if c = k then ⟨g, o, none⟩ else ⟨g, o + k, none⟩)) (n - k) (c - k)) w := by
  have hz : (Go.sizeOf e).run P w = .ok 1 w := by simp [Go.sizeOf, typeInfo, hi, h1]
  have hb : ∀ (x y : Nat) code, x ≤ y → (Instr.sliceBound (.int .i64 (x : Int)) y code).run P w = .ok x w := fun x y code hxy => by
    have := run_sliceBound (P := P) (w := w) .i64 (x : Int) y code (by omega) (by omega)
    simpa using this
  simp (disch := omega) only [Instr.slice, Instr.sliceBounds, run_underlying ht, Sem.run_bind, Sem.run_pure, Result.andThen_ok, hb, hz]
  by_cases e : c = k
  · simp [e]
  · rw [if_neg e, if_neg e]
    simp only [Option.map_some, add_at, Nat.mul_one]
theorem enc_two_ne (r : Nat) (h0 : 128 ≤ r) (h1 : r ≤ 2047) : ∃ x y : UInt8, Utf8.encode r = ⟨#[x, y]⟩ ∧ y ≠ 10 := by
  obtain ⟨x, y, h, hy⟩ := enc_two r (by omega) (by omega)
  refine ⟨x, y, h, fun e => ?_⟩
  subst e
  revert hy; decide
theorem index_long (b : List UInt8) (h : 3 ≤ b.length) : Lib.index [13, 10] b = -1 := by
  match b, h with
  | x :: y :: z :: t, _ =>
    have h1 : List.isPrefixOf (x :: y :: z :: t) [13, 10] = false := by simp [List.isPrefixOf]
    have h2 : List.isPrefixOf (x :: y :: z :: t) [10] = false := by simp [List.isPrefixOf]
    simp [Lib.index, h1, h2]
set_option maxRecDepth 1000000 in
set_option maxHeartbeats 8000000 in
theorem bidx_short (g o n c : Nat) (l : List UInt8) (w : World) (hn : n = l.length) (h1 : n ≠ 1) (h8 : n ≤ 8) (hc : n ≤ c) (hv : Vars w) (hl : ∀ j x, l[j]? = some x → w.cell? ⟨g, o + j, none⟩ = some (.int .u8 (x.toNat : Int))) :
    Calls Tryd.prog 69 #[.slice (some ⟨g, o, none⟩) n c, .string ⟨#[13, 10]⟩] w fun e w' => e = .returned (.int .i64 (Lib.indexAny l crs)) ∧ Below w.heap.size w w' := by
  have zn1 : ((n : Int) == 1) = false := beq_eq_false_iff_ne.2 (by omega)
  have z8 : decide ((8 : Int) < (n : Int)) = false := decide_eq_false (by omega)
  have HN := keep hn
  have HL := keep hl
  have HV := keep hv
  have H8 := keep h8
  have HC := keep hc
  clear hn h1 h8 hv hl
  go_enter Tryd.func69, Tryd.ntmps69
  go_wp2_with fail
  refine (ascii_any n _).mono ?_
  rintro e w' ⟨rfl, hw⟩
  rw [hw, z8]
  go_wp2
  go_loopg [12] n (fun gg u wx => ∃ i : Nat, i ≤ n ∧ n ≤ i + gg ∧ u = .int .i64 i ∧ Kept (Lib.NoAny l crs i) ∧ Kept (Below w.heap.size w wx))
  case atStart => exact ⟨0, Nat.zero_le _, by omega, rfl, keep (Lib.NoAny.zero _ _), keep (Below.refl _ _)⟩
  case round =>
    obtain ⟨i, hi, hig, rfl, HNo, HB⟩ := hrel
    by_cases hlt : i < n
    · obtain ⟨gg, rfl⟩ : ∃ g, gk = g + 1 := ⟨gk - 1, by omega⟩
      have hlt' : (i : Int) < (n : Int) := by omega
      have hi0 : (0 : Int) ≤ (i : Int) := by omega
      obtain ⟨x, hx⟩ : ∃ x, l[i]? = some x := ⟨_, List.getElem?_eq_getElem (by rw [← HN.out]; omega)⟩
      have hlo : w.cell? ⟨g, o + i, none⟩ = some (.int .u8 (x.toNat : Int)) := HL.out i x hx
      have hcl : wr.cell? ⟨g, o + i, none⟩ = some (.int .u8 (x.toNat : Int)) := (World.cell?_of_block (HB.out.block g (World.block_lt_of_cell? w ⟨g, o + i, none⟩ hlo))).trans hlo
      have hw32 := byte32 x
      have HX := keep hx
      clear hlo
      by_cases ha : x.toNat < 128
      · have x1 : (x.toNat : Int) < 128 := by omega
        have ex := ext83 ⟨#[13, 10]⟩ (x.toNat : Int)
        have hback : ((x.toNat : Int)).toNat.toUInt8 = x := by simp
        rw [hback] at ex
        have hb := ib_cr x
        generalize Lib.indexByte ((⟨#[13, 10]⟩ : ByteArray)).data.toList x = v at ex hb
        have hiw : IntKind.i64.wrap ((i : Int) + 1) = ((i + 1 : Nat) : Int) := by have := H8.out; rw [IntKind.wrap_i64]; omega
        clear hback ha hx
        cases hq : crs.contains x with
        | true =>
          rw [hq] at hb
          have hv0 : (0 : Int) ≤ v := of_decide_eq_true hb
          have HQ := keep hq
          clear hq
          go_wp2
          go_ret
          exact ⟨by rw [Lib.indexAny_hit HNo.out HX.out HQ.out]; rfl, HB.out⟩
        | false =>
          rw [hq] at hb
          have hv0 : ¬ (0 : Int) ≤ v := of_decide_eq_false hb
          have HQ := keep hq
          clear hq
          go_wp2
          go_roundg gg
          case measure => omega
          case rel => exact ⟨i + 1, by omega, by omega, by rfl, keep (HNo.out.succ HX.out HQ.out), HB⟩
      · have x1 : ¬ (x.toNat : Int) < 128 := by omega
        obtain ⟨tl, htl⟩ : ∃ tl, tl = Rp.ofL (l.drop i) := ⟨_, rfl⟩
        have hts : tl.size = n - i := by rw [htl, Rp.ofL_size, List.length_drop, HN.out]
        have h0 : 0 < tl.size := by omega
        have hget : ∀ (j : Nat) (hj : j < tl.size), l[i + j]? = some (tl[j]'hj) := fun j hj => by
          have e1 : (tl[j]'hj) = tl.data.toList[j]'(by rw [Array.length_toList]; exact hj) := by simp [ByteArray.getElem_eq_getElem_data]
          have e2 : tl.data.toList[j]? = (l.drop i)[j]? := by rw [htl]; rfl
          rw [List.getElem?_drop] at e2
          rw [← e2, e1]
          exact List.getElem?_eq_getElem _
        have hx0 : (tl[0]'h0) = x := by
          have := hget 0 h0
          rw [Nat.add_zero, hx] at this
          exact (Option.some.inj this).symm
        rcases dec_at tl 0 h0 with ⟨q, _⟩ | ⟨hge, r, d, hd, hd1, hd2, hd3, hr, hrd⟩
        · rw [hx0] at q; omega
        have hgo : Lib.decodeGo tl = (r, d) := by
          unfold Lib.decodeGo
          rw [if_neg (by omega)]; exact hd
        have hnoa : Kept (Lib.NoAny l crs (i + d)) := keep (by
          intro j b hj hb
          by_cases cj : j < i
          · exact HNo.out j b cj hb
          · have hj' : j - i < tl.size := by omega
            have h3 := hd3 (j - i) hj' (Nat.zero_le _) (by omega)
            have h4 := hget (j - i) hj'
            rw [show i + (j - i) = j by omega, hb] at h4
            rw [← Option.some.inj h4] at h3
            exact wide_out b h3)
        obtain ⟨i0, hi0', hz0, hz1, hz2⟩ := parts_of info_u8'
        have hsl := fun w => slice_from (P := Tryd.prog) w 29 5 Tryd.underlying29 i0 hi0' hz1 g o n c i hi hc
        have hci : ¬ c = i := by omega
        simp only [if_neg hci] at hsl
        have hdr := Tryd.utf8_DecodeRune tl g (o + i) (c - i) wr (by
          have := HV.out.1
          exact Utf8_below this HB.out) (fun j hj => by
          have h4 := hget j hj
          have hlo := HL.out _ _ h4
          have hlo' : wr.cell? ⟨g, o + (i + j), none⟩ = some (.int .u8 ((tl[j]'hj).toNat : Int)) := (World.cell?_of_block (HB.out.block g (World.block_lt_of_cell? w ⟨g, o + (i + j), none⟩ hlo))).trans hlo
          rw [Nat.add_assoc, hlo', get_bang tl j hj])
        rw [hgo, hts] at hdr
        have HDR := keep hdr
        have HD : Kept (i + d ≤ n ∧ 1 ≤ d) := keep (by omega)
        have hiw : IntKind.i64.wrap ((i : Int) + (d : Int)) = ((i + d : Nat) : Int) := by have := HD.out; have := H8.out; rw [IntKind.wrap_i64]; omega
        have HR := keep hr
        have HRD := keep hrd
        obtain ⟨m, hmx⟩ := HV.out.2
        clear hge hx0 hd3 hgo hd hdr
        clear hget
        clear hd1 hd2 hts h0 htl hr hrd hx hi0' hz0 hz1 hz2 hci
        go_wp2_with fail
        refine HDR.out.mono ?_
        rintro e w3 ⟨rfl, b3⟩
        have HB3 := keep (HB.out.trans (b3.mono HB.out.size))
        have hmc : w3.cell? ⟨0, 0, none⟩ = some (.int .i64 m) := (World.cell?_of_block (HB3.out.block _ (World.block_lt_of_cell? w _ hmx))).trans hmx
        clear b3 HDR HB hcl
        by_cases hr5 : r = 65533
        · subst hr5
          go_wp2
          go_loopg [15] 2 (fun g2 _ wx => ∃ j : Nat, j + g2 = 2 ∧ wx = w3.iter ⟨#[13, 10]⟩ j)
          case atStart => exact ⟨0, by omega, rfl⟩
          case round =>
            obtain ⟨j, hjg, rfl⟩ := hrel
            cases gk with
            | zero =>
              obtain rfl : j = 2 := by omega
              have hnx' : ∀ ty, (Instr.next (.pointer (some ⟨w3.heap.size, 0, none⟩)) true ty).run Tryd.prog (w3.iter ⟨#[13, 10]⟩ 2) = .ok (.tuple #[.bool false]) (w3.iter ⟨#[13, 10]⟩ 2) := fun ty => run_next_end (P := Tryd.prog) w3 ⟨#[13, 10]⟩ 2 ty (by decide)
              go_wp2
              go_roundg gg
              case measure => omega
              case rel => exact ⟨i + d, HD.out.1, by have := HD.out; omega, by rfl, hnoa, keep (HB3.out.alloc HB3.out.size _)⟩
            | succ g2 =>
              have hi2 : j < (⟨#[13, 10]⟩ : ByteArray).size := by show j < 2; omega
              rcases (show j = 0 ∨ j = 1 by omega) with rfl | rfl
              · have hnx := fun ty => run_next_ascii (P := Tryd.prog) w3 ⟨#[13, 10]⟩ 0 ty hi2 (a0 _)
                have e1 : ((65533 : Int) == (((⟨#[13, 10]⟩ : ByteArray)[0]'hi2).toNat : Int)) = false := by have := z0 hi2; rw [Bool.beq_comm] at this; exact this
                go_wp2
                go_roundg g2
                case measure => omega
                case rel => exact ⟨1, by omega, rfl⟩
              · have hnx := fun ty => run_next_ascii (P := Tryd.prog) w3 ⟨#[13, 10]⟩ 1 ty hi2 (a1 _)
                have e1 : ((65533 : Int) == (((⟨#[13, 10]⟩ : ByteArray)[1]'hi2).toNat : Int)) = false := by have := z1 hi2; rw [Bool.beq_comm] at this; exact this
                go_wp2
                go_roundg g2
                case measure => omega
                case rel => exact ⟨2, by omega, rfl⟩
        · obtain ⟨hv1, hr8⟩ := HR.out.resolve_left hr5
          have hrd := HRD.out hr5
          have hesz := enc_size r d hv1 hrd hr8
          have n5 : ((r : Int) != 65533) = true := by simp; omega
          by_cases hd2 : d = 2
          · obtain ⟨y0, y1, hE, hy⟩ := enc_two_ne r hr8 (by omega)
            subst hd2
            obtain ⟨E, hEE⟩ : ∃ E, E = Utf8.encode (r : Int) := ⟨_, rfl⟩
            have hEE' := hEE.symm
            have hne2 : (([13, 10] : List UInt8) == E.toList) = false := by rw [hEE, hE, Lib.toList_data]; simp; intro _ h; exact hy h.symm
            have hne3 : (E.toList == ([13, 10] : List UInt8)) = false := by rw [Bool.beq_comm]; exact hne2
            have hiw2 : wrap64 ((i : Int) + 2) = ((i + 2 : Nat) : Int) := by have := H8.out; unfold wrap64; omega
            have HW2 := keep hiw2
            clear hE hEE hesz hrd hv1 hr8 hr5
            go_wp2
            go_roundg gg
            case measure => omega
            case rel => exact ⟨i + 2, HD.out.1, by have := HD.out; omega, by rw [← HW2.out], hnoa, HB3⟩
          · have hd3 : 3 ≤ d := by omega
            have n2 : ((2 : Int) == (d : Int)) = false := beq_eq_false_iff_ne.2 (by omega)
            obtain ⟨E, hEE⟩ : ∃ E, E = Utf8.encode (r : Int) := ⟨_, rfl⟩
            have hEE' := hEE.symm
            rw [← hEE] at hesz
            by_cases hm : (d : Int) ≤ m
            · have ex := fun w hmc => ext89 ⟨#[13, 10]⟩ E w m hmc (by omega) (by rw [hesz]; exact hm) (by show 2 < 4294967281; omega)
              have hix : Lib.index ((⟨#[13, 10]⟩ : ByteArray)).data.toList E.data.toList = -1 := index_long _ (by rw [Array.length_toList]; show 3 ≤ E.size; omega)
              rw [hix] at ex
              have ex3 := ex w3 hmc
              have hm' : decide ((d : Int) ≤ m) = true := decide_eq_true hm
              clear ex hix hEE hesz hrd hv1 hr8 hr5 hd2
              go_wp2
              go_roundg gg
              case measure => omega
              case rel => exact ⟨i + d, HD.out.1, by have := HD.out; omega, by rfl, hnoa, HB3⟩
            · have hm' : decide ((d : Int) ≤ m) = false := decide_eq_false hm
              clear hEE hesz hrd hv1 hr5 hd2
              go_wp2
              go_loopg [15] 2 (fun g2 _ wx => ∃ j : Nat, j + g2 = 2 ∧ wx = w3.iter ⟨#[13, 10]⟩ j)
              case atStart => exact ⟨0, by omega, rfl⟩
              case round =>
                obtain ⟨j, hjg, rfl⟩ := hrel
                cases gk with
                | zero =>
                  obtain rfl : j = 2 := by omega
                  have hnx' : ∀ ty, (Instr.next (.pointer (some ⟨w3.heap.size, 0, none⟩)) true ty).run Tryd.prog (w3.iter ⟨#[13, 10]⟩ 2) = .ok (.tuple #[.bool false]) (w3.iter ⟨#[13, 10]⟩ 2) := fun ty => run_next_end (P := Tryd.prog) w3 ⟨#[13, 10]⟩ 2 ty (by decide)
                  go_wp2
                  go_roundg gg
                  case measure => omega
                  case rel => exact ⟨i + d, HD.out.1, by have := HD.out; omega, by rfl, hnoa, keep (HB3.out.alloc HB3.out.size _)⟩
                | succ g2 =>
                  have hi2 : j < (⟨#[13, 10]⟩ : ByteArray).size := by show j < 2; omega
                  rcases (show j = 0 ∨ j = 1 by omega) with rfl | rfl
                  · have hnx := fun ty => run_next_ascii (P := Tryd.prog) w3 ⟨#[13, 10]⟩ 0 ty hi2 (a0 _)
                    have e1 : ((r : Int) == (((⟨#[13, 10]⟩ : ByteArray)[0]'hi2).toNat : Int)) = false := beq_eq_false_iff_ne.2 (by have := a0 hi2; omega)
                    go_wp2
                    go_roundg g2
                    case measure => omega
                    case rel => exact ⟨1, by omega, rfl⟩
                  · have hnx := fun ty => run_next_ascii (P := Tryd.prog) w3 ⟨#[13, 10]⟩ 1 ty hi2 (a1 _)
                    have e1 : ((r : Int) == (((⟨#[13, 10]⟩ : ByteArray)[1]'hi2).toNat : Int)) = false := beq_eq_false_iff_ne.2 (by have := a1 hi2; omega)
                    go_wp2
                    go_roundg g2
                    case measure => omega
                    case rel => exact ⟨2, by omega, rfl⟩
    · obtain rfl : i = n := by omega
      have hlt' : ¬ (i : Int) < (i : Int) := by omega
      clear hlt
      go_wp2
      go_ret
      exact ⟨by rw [Lib.indexAny_none (by rw [← HN.out]; exact HNo.out)]; rfl, HB.out⟩
/-- bytes.IndexAny of CR LF at any bytes -/
theorem bidx_any {P : Nat → Prop} {v : Value} {l : List UInt8} (w : World) (h : Bs P w v l) (hv : Vars w) (hm : l.length ≤ 140737488355328) :
    Calls Tryd.prog 69 #[v, .string ⟨#[13, 10]⟩] w fun e w' => e = .returned (.int .i64 (Lib.indexAny l crs)) ∧ Below w.heap.size w w' := by
  obtain ⟨ao, c, rfl, hc, h3⟩ := h
  rcases h3 with rfl | ⟨g, o, rfl, _, hl⟩
  · exact bidx_nil ao c w
  · by_cases h1 : l.length = 1
    · match l, h1 with
      | [x], _ =>
        rw [ia_one]
        exact bidx_one g o c x w (by simpa using hl 0 x rfl)
    · by_cases h8 : 8 < l.length
      · exact bidx_long g o l.length c l w rfl h8 hm hc hl
      · exact bidx_short g o l.length c l w rfl h1 (by omega) hc hv hl
end Go.Proofs.YtoalnfkjpdgbiaaDoor
