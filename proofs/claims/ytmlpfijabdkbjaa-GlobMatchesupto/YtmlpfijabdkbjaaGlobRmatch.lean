/-
  Contracts over this program: what the document's own Match answers at any pattern and name.
-/
import Derived.Test.YtmlpfijabdkbjaaGlobSgAt
import Derived.Test.YtmlpfijabdkbjaaGlobDp
import Derived.Test.YtmlpfijabdkbjaaGlobMatch
import Derived.OwnWalk
import Derived.Laws.OwnMore
import Derived.Deep.RegionHeld3
namespace Go.Proofs.Ytmlpfijabdkbjaa
open Go.RowKit
/-- a row of n bools in block g -/
def Bools (w : World) (g n : Nat) (f : Nat → Bool) : Prop := ∃ cur : Array Value, w.heap[g]? = some (.cells cur 4 (0, 0)) ∧ cur.size = n ∧ ∀ k, k < n → cur[k]? = some (.bool (f k))
theorem Bools.cell {w : World} {g n k : Nat} {f : Nat → Bool} (h : Bools w g n f) (hk : k < n) : w.cell? ⟨g, k, none⟩ = some (.bool (f k)) := by
  obtain ⟨cur, h1, h2, h3⟩ := h
  rw [cell_of_row _ _ _ cur 4 (0, 0) h1]
  exact h3 k hk
theorem Bools.free {w : World} {g n : Nat} {f : Nat → Bool} (h : Bools w g n f) (k : Nat) : w.frozen? ⟨g, k, none⟩ = false := by
  obtain ⟨cur, h1, _⟩ := h
  unfold World.frozen?
  rw [h1]
  simp
theorem Bools.lt {w : World} {g n : Nat} {f : Nat → Bool} (h : Bools w g n f) : g < w.heap.size := by
  obtain ⟨cur, h1, _⟩ := h
  rcases Nat.lt_or_ge g w.heap.size with h' | h'
  · exact h'
  · rw [Array.getElem?_eq_none h'] at h1; cases h1
theorem Bools.congr {w : World} {g n : Nat} {f f' : Nat → Bool} (h : Bools w g n f) (e : ∀ k, k < n → f k = f' k) : Bools w g n f' := by
  obtain ⟨cur, h1, h2, h3⟩ := h
  exact ⟨cur, h1, h2, fun k hk => by rw [h3 k hk, e k hk]⟩
theorem Bools.kept {w w' : World} {g n : Nat} {f : Nat → Bool} (h : Bools w g n f) (e : w'.heap[g]? = w.heap[g]?) : Bools w' g n f := by
  obtain ⟨cur, h1, h2⟩ := h
  exact ⟨cur, by rw [e]; exact h1, h2⟩
theorem Bools.store {w : World} {g n k : Nat} {f : Nat → Bool} (h : Bools w g n f) (b : Bool) (hk : k < n) : Bools (w.setCell ⟨g, k, none⟩ (.bool b)) g n (upd f k b) := by
  obtain ⟨cur, h1, h2, h3⟩ := h
  refine ⟨cur.setIfInBounds k (.bool b), heap_setCell_same w g k cur _ _ h1, by simpa using h2, fun j hj => ?_⟩
  unfold upd
  by_cases e : j = k
  · subst e
    rw [if_pos rfl, Array.getElem?_setIfInBounds_self_of_lt (by omega)]
  · rw [if_neg e, Array.getElem?_setIfInBounds_ne (fun h => e h.symm)]
    exact h3 j hj
theorem bools_made {w : World} {B g n : Nat} (h : w.ownsRow B 4 1 (.slice (some ⟨g, 0, none⟩) n n) n (madeCells (Value.bool false).cells (n * 1)).toList) : Bools w g n (fun _ => false) := by
  have e : (madeCells (Value.bool false).cells (n * 1)).toList = List.replicate n (.bool false) := by
    rw [Nat.mul_one]
    exact toList_madeCells_one _ _
  rw [e] at h
  obtain ⟨_, ⟨h, _⟩ | ⟨g', cap, cur, e, hg, hh, hc, hm, hs, ht⟩⟩ := h
  · cases h
  · cases e
    rw [Nat.mul_one] at hs ht
    refine ⟨cur, hh, hs, fun k hk => ?_⟩
    have e1 : (cur.toList.take n)[k]? = some (.bool false) := by rw [ht, List.getElem?_replicate, if_pos hk]
    rw [List.getElem?_take_of_lt hk, Array.getElem?_toList] at e1
    exact e1
theorem info_bool : (Try.prog.info? 4).map (fun i => (i.zero, i.size, i.bytes)) = some (some (.bool false), 1, 1) := by kernel_rfl
/-- the row while it is filled -/
def fillF (l : List Gb.Sg) (t : List UInt8) (i k : Nat) : Nat → Bool := fun j => if j < k then Gb.can l t i j else false
theorem fill_more {w : World} {g n k i : Nat} {l : List Gb.Sg} {t : List UInt8} {b : Bool} (h : Bools w g n (fillF l t i k)) (hk : k < n) (hb : Gb.can l t i k = b) : Bools (w.setCell ⟨g, k, none⟩ (.bool b)) g n (fillF l t i (k + 1)) := by
  refine (h.store b hk).congr fun j hj => ?_
  unfold upd fillF
  by_cases e : j = k
  · subst e; rw [if_pos rfl, if_pos (by omega), hb]
  · rw [if_neg e]
    by_cases e2 : j < k
    · rw [if_pos e2, if_pos (by omega)]
    · rw [if_neg e2, if_neg (by omega)]
theorem fill_at {w : World} {g n k i j : Nat} {l : List Gb.Sg} {t : List UInt8} (h : Bools w g n (fillF l t i k)) (hk : k ≤ n) (hj : j < k) : w.cell? ⟨g, j, none⟩ = some (.bool (Gb.can l t i j)) := by
  rw [h.cell (by omega)]
  unfold fillF
  rw [if_pos hj]
theorem data_at (s : ByteArray) (k : Nat) (hk : k < s.size) : (Gb.D s 0)[k]? = some s[k] := by
  rw [List.getElem?_eq_getElem (by rw [Gb.D_len]; exact hk)]; rfl
theorem can_byte {l : List Gb.Sg} {t : List UInt8} {i k : Nat} {c : UInt8} (hi : i < l.length) (hs : l[i].isStar = false) (hk : t[k]? = some c) : Gb.can l t (i + 1) (k + 1) = (Gb.can l t i k && l[i].means c) := by
  obtain ⟨h, e⟩ := List.getElem?_eq_some_iff.1 hk
  rw [Gb.can_one hi hs h, e]
namespace WalkW
theorem sub3 (j : Nat) (h : j ≤ 1048576) : IntKind.i64.wrap (j : Int) = (j : Int) := IntWalk.i64_in _ (by omega)
theorem sub2 (j : Nat) (h : j ≤ 1048576) : IntKind.i64.wrap ((j : Int) + 1 - 1) = (j : Int) := by rw [Int.add_sub_cancel]; exact sub3 j h
theorem sub1 (j : Nat) (h : j ≤ 1048576) : IntKind.i64.wrap (((j + 1 : Nat) : Int) - 1) = (j : Int) := by rw [Int.natCast_add]; exact sub2 j h
end WalkW
set_option maxHeartbeats 8000000 in
set_option maxRecDepth 100000 in
theorem rmatch_any (p s : ByteArray) (w : World) (hp : p.size ≤ 1048576) (hs : s.size ≤ 1048576) :
    Calls Try.prog 6 #[.string p, .string s] w fun e w' => e = .returned (.bool (Gb.ans p s)) ∧ Below w.heap.size w w' := by
  obtain ⟨i0, hi, hz0, hz1, hz2⟩ := info_parts info_bool
  have hmx : (1048577 : Nat) ≤ maxLen := by decide
  have hll := Gb.sgs_length p
  have hans := keep (show Gb.ans p s = Gb.M (Gb.sgs (Gb.D p 0)) (Gb.D s 0) from rfl)
  go_enter Try.func6, Try.ntmps6
  go_wp2_with fail
  refine (signs_any p w hp).mono ?_
  rintro e w1 ⟨v, rfl, hown, hb1⟩
  obtain ⟨ao, cap, rfl, hc1, hc2, hS⟩ := sgs_at hown.out rfl rfl
  clear hown
  generalize Gb.sgs (Gb.D p 0) = l at *
  have kb1 := keep hb1
  clear hb1
  go_wp2_with (first
    | (at_make; refine wpList_make_full _ rfl _ _ 33 rfl w1.heap.size 4 i0 (.bool false) 1 Try.underlying33 hi hz0 hz1 _ _ _ _ (s.size + 1) rfl rfl (by omega) (by omega) (by rw [hz2]; omega) (by omega) (Nat.le_refl _) ?_; intro w2 hown2 hg2; have kB2 := keep (bools_made hown2); have kb2 := keep ((Below.refl w1.heap.size w1).grown hg2 (Nat.le_refl _) (fun k hk => by cases hk)); have c0 := kB2.out.cell (k := 0) (by omega); have z0 := kB2.out.free 0; clear hown2 hg2))
  have hDl : (Gb.D s 0).length = s.size := Gb.D_len s 0
  have kB0 : Kept (Bools (w2.setCell ⟨w1.heap.size, 0, none⟩ (.bool true)) w1.heap.size (s.size + 1) (Gb.can l (Gb.D s 0) 0)) := (kB2.out.store true (by omega)).congr fun j hj => by
    rw [Gb.can_none l _ j (by rw [hDl]; omega)]
    unfold upd
    by_cases e : j = 0
    · rw [if_pos e, decide_eq_true e]
    · rw [if_neg e, decide_eq_false e]
  have kb3 : Kept (Below w1.heap.size w1 (w2.setCell ⟨w1.heap.size, 0, none⟩ (.bool true))) := kb2.out.setCell (Nat.le_refl _) _
  have kt := keep (data_at s)
  have kDl := keep hDl
  generalize Gb.D s 0 = t at *
  clear hDl kB2 kb2 c0 z0
  go_loopw [6, 7] (fun v6 v7 wx => ∃ i gc : Nat, i ≤ l.length ∧ v7 = .int .i64 i ∧ v6 = .slice (some ⟨gc, 0, none⟩) (s.size + 1) (s.size + 1) ∧ w1.heap.size ≤ gc ∧ Kept (Bools wx gc (s.size + 1) (Gb.can l t i)) ∧ Kept (Below w1.heap.size w1 wx)) (fun _ v7 _ => l.length - (intOf v7).toNat)
  case atStart => exact ⟨0, w1.heap.size, by omega, rfl, rfl, Nat.le_refl _, kB0, kb3⟩
  case round =>
    clear kB0 kb3
    obtain ⟨i, gc, hil, rfl, rfl, hgc, kC, kb⟩ := hrel
    by_cases hlt : i < l.length
    · have hwr := kb.out.size
      have hgl := kC.out.lt
      go_wp2_with (first
        | (at_make; refine wpList_make_full _ rfl _ _ 33 rfl wr.heap.size 4 i0 (.bool false) 1 Try.underlying33 hi hz0 hz1 _ _ _ _ (s.size + 1) rfl rfl (by omega) (by omega) (by rw [hz2]; omega) (by omega) (Nat.le_refl _) ?_; intro w3 hown3 hg3; have kN := keep (bools_made hown3); have kg3 := keep ((Below.refl wr.heap.size wr).grown hg3 (Nat.le_refl _) (fun k hk => by cases hk)); clear hown3 hg3))
      obtain ⟨wo, hwo⟩ : ∃ x, x = wr := ⟨_, rfl⟩
      subst hwo
      have kN0 : Kept (Bools w3 wo.heap.size (s.size + 1) (fillF l t (i + 1) 0)) := kN.out.congr fun j _ => rfl
      have kC3 : Kept (Bools w3 gc (s.size + 1) (Gb.can l t i)) := kC.out.kept (kg3.out.block gc hgl)
      have kb3 : Kept (Below w1.heap.size w1 w3) := kb.out.trans (kg3.out.mono hwr)
      go_loopw [9] (fun v9 wy => ∃ k : Nat, k ≤ s.size + 1 ∧ v9 = .int .i64 k ∧ Kept (Bools wy wo.heap.size (s.size + 1) (fillF l t (i + 1) k)) ∧ Kept (Bools wy gc (s.size + 1) (Gb.can l t i)) ∧ Kept (Below w1.heap.size w1 wy)) (fun v9 _ => s.size + 1 - (intOf v9).toNat)
      case atStart => exact ⟨0, by omega, rfl, kN0, kC3, kb3⟩
      case round =>
        clear kN0 kC3 kb3 kN kg3 kC kb
        obtain ⟨k, hk, rfl, kN, kC, kb⟩ := hrel
        by_cases hks : k ≤ s.size
        · obtain ⟨g, rfl, hg, hcell⟩ := hS.out.bel kb.out i hlt
          have cS : wr.cell? ⟨g, i * 259, none⟩ = some (.bool l[i].isStar) := hcell 0 _ (sg_star l[i])
          have cK := kC.out.cell (k := k) (by omega)
          have zN := kN.out.free k
          have cN := kN.out.cell (k := k) (by omega)
          cases hst : l[i].isStar
          · rw [hst] at cS
            rcases Nat.eq_zero_or_pos k with rfl | hkp
            · have kM := keep (fill_more (b := false) kN.out (by omega) (Gb.can_first hlt hst))
              clear hcell hst
              go_wp2
              go_region
              go_wp2
              go_roundw
              case rel => exact ⟨0 + 1, by omega, by go_num, kM.out.kept rfl, kC.out.kept (Below.heap_setCell wr _ _ _ (by show gc ≠ wo.heap.size; omega)), (kb.out.setCell hwr _).drew⟩
              case measure => simp [intOf]
            · obtain ⟨j, rfl⟩ : ∃ j, k = j + 1 := ⟨k - 1, by omega⟩
              have cJ := kC.out.cell (k := j) (by omega)
              have htj := kt.out j (by omega)
              have ec := keep (can_byte hlt hst htj)
              have cM : wr.cell? ⟨g, i * 259 + 1 + s[j].toNat, none⟩ = some (.bool (l[i].means s[j])) := by
                have h := hcell _ _ (sg_means l[i] s[j] hst)
                rwa [← Nat.add_assoc] at h
              clear hcell hst htj
              cases hcj : Gb.can l t i j
              · rw [hcj] at cJ
                have kM := keep (fill_more (b := false) kN.out (by omega) (by rw [ec.out, hcj]; rfl))
                clear hcj
                go_wp2
                go_region
                go_wp2
                go_roundw
                case rel => exact ⟨(j + 1) + 1, by omega, by go_num, kM.out.kept rfl, kC.out.kept (Below.heap_setCell wr _ _ _ (by show gc ≠ wo.heap.size; omega)), (kb.out.setCell hwr _).drew⟩
                case measure => simp [intOf]; omega
              · rw [hcj] at cJ
                have kM := keep (fill_more (b := l[i].means s[j]) kN.out (by omega) (by rw [ec.out, hcj]; rfl))
                clear hcj
                generalize l[i].means s[j] = b at *
                have hx := s[j].toNat_lt
                have hw1 : IntKind.i64.wrap (((j + 1 : Nat) : Int) - 1) = (j : Int) := WalkW.sub1 j (by omega)
                have hw2 : IntKind.i64.wrap ((j : Int) + 1 - 1) = (j : Int) := WalkW.sub2 j (by omega)
                have hw3 : IntKind.i64.wrap (j : Int) = (j : Int) := WalkW.sub3 j (by omega)
                have n1 : ¬ gc = wo.heap.size := by omega
                have n2 : ¬ g = wo.heap.size := by obtain ⟨g', e', hg', _⟩ := hS.out i hlt; cases e'; omega
                have n3 : ¬ wo.heap.size = gc := by omega
                have n4 : ¬ wo.heap.size = g := fun h => n2 h.symm
                have b9 : (0 : Int) ≤ (j : Int) + 1 := by omega
                have b10 : (j : Int) + 1 < (s.size : Int) + 1 := by omega
                have b11 : ((j + 1 : Nat) : Int) < (s.size : Int) + 1 := by omega
                have b12 : j + 1 < s.size + 1 := by omega
                have b1 : (0 : Int) ≤ (j : Int) := by omega
                have b2 : (j : Int) < (s.size : Int) + 1 := by omega
                have b3 : (j : Int) < (s.size : Int) := by omega
                have b4 : (0 : Int) ≤ (s[j].toNat : Int) := by omega
                have b5 : (s[j].toNat : Int) < 256 := by omega
                have b6 : j < s.size + 1 := by omega
                have b7 : j < s.size := by omega
                have b8 : s[j].toNat < 256 := by omega
                go_wp2
                go_region_held3 (fun w' => w'.cell? ⟨gc, j, none⟩ = some (.bool true) ∧ w'.cell? ⟨g, i * 259 + 1 + s[j].toNat, none⟩ = some (.bool b)) (first | go_keep | (simp [go_sem]; done)) (fail)
                go_wp2
                go_roundw
                case rel => exact ⟨(j + 1) + 1, by omega, by go_num, kM.out.kept rfl, kC.out.kept (Below.heap_setCell wr _ _ _ (by show gc ≠ wo.heap.size; omega)), (kb.out.setCell hwr _).drew⟩
                case measure => simp [intOf]; omega
          · rw [hst] at cS
            have ec := keep (Gb.can_star (t := t) (k := k) hlt hst (by rw [kDl.out]; exact hks))
            clear hst hcell
            cases hck : Gb.can l t i k
            · rw [hck] at cK
              rcases Nat.eq_zero_or_pos k with rfl | hkp
              · have kM := keep (fill_more (b := false) kN.out (by omega) (by rw [ec.out, hck]; rfl))
                go_wp2
                go_roundw
                case rel => exact ⟨0 + 1, by omega, by go_num, kM, kC.out.kept (Below.heap_setCell _ _ _ _ (by show gc ≠ wo.heap.size; omega)), kb.out.setCell hwr _⟩
                case measure => simp [intOf]
              · obtain ⟨j, rfl⟩ : ∃ j, k = j + 1 := ⟨k - 1, by omega⟩
                have cJ := fill_at kN.out hk (j := j) (by omega)
                have kM := keep (fill_more (b := Gb.can l t (i + 1) j) kN.out (by omega) (by rw [ec.out, hck, decide_eq_true hkp, Nat.add_sub_cancel]; rfl))
                generalize Gb.can l t (i + 1) j = b at *
                go_wp2
                go_roundw
                case rel => exact ⟨(j + 1) + 1, by omega, by go_num, kM, kC.out.kept (Below.heap_setCell _ _ _ _ (by show gc ≠ wo.heap.size; omega)), kb.out.setCell hwr _⟩
                case measure => simp [intOf]; omega
            · rw [hck] at cK
              have kM := keep (fill_more (b := true) kN.out (by omega) (by rw [ec.out, hck]; rfl))
              go_wp2
              go_roundw
              case rel => exact ⟨k + 1, by omega, by go_num, kM, kC.out.kept (Below.heap_setCell _ _ _ _ (by show gc ≠ wo.heap.size; omega)), kb.out.setCell hwr _⟩
              case measure => simp [intOf]; omega
        · have hkn : k = s.size + 1 := by omega
          subst hkn
          have kM : Kept (Bools wr wo.heap.size (s.size + 1) (Gb.can l t (i + 1))) := kN.out.congr fun j hj => by unfold fillF; rw [if_pos hj]
          go_wp2
          go_roundw
          case rel => exact ⟨i + 1, wo.heap.size, by omega, by go_num, rfl, hwr, kM, kb⟩
          case measure => simp [intOf]; omega
    · have hie : i = l.length := by omega
      subst hie
      have cE := kC.out.cell (k := s.size) (by omega)
      have ea := keep (Gb.can_all l t)
      rw [← kDl.out, ea.out, ← hans.out] at cE
      rw [kDl.out] at cE
      go_wp2
      go_ret
      exact ⟨rfl, kb1.out.trans (kb.out.mono kb1.out.size)⟩
end Go.Proofs.Ytmlpfijabdkbjaa
