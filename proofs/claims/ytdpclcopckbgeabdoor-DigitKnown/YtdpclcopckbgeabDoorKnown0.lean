/-
  Contracts over this program: what the law DigitKnown asks ahead of its tables.
-/
import Derived.Test.YtdpclcopckbgeabDoorRefused
import Derived.Test.YtdpclcopckbgeabDoorDigs
namespace Go.Proofs.YtdpclcopckbgeabDoor
open Go.RowKit
theorem itoa_min : Lib.itoa (-9223372036854775808) = [45, 57, 50, 50, 51, 51, 55, 50, 48, 51, 54, 56, 53, 52, 55, 55, 53, 56, 48, 56] := by
  have h := Pl.dd_back (m := 20) (l := [57, 50, 50, 51, 51, 55, 50, 48, 51, 54, 56, 53, 52, 55, 55, 53, 56, 48, 56]) (by decide +kernel)
  rw [show Pl.val [57, 50, 50, 51, 51, 55, 50, 48, 51, 54, 56, 53, 52, 55, 55, 53, 56, 48, 56] = 9223372036854775808 by decide +kernel] at h
  rw [Pl.itoa_neg (by omega), show (-9223372036854775808 : Int).natAbs = 9223372036854775808 from rfl, h]
theorem itoa_zero : Lib.itoa 0 = [48] := by
  rw [Pl.itoa_pos (by omega), show (0 : Int).toNat = 0 from rfl, Pl.dd_small (by omega)]
  rfl
theorem text_min (w : World) (ht : Tab w) :
    Calls Tryd.prog 10 #[.int .i64 (-9223372036854775808)] w fun e w' => e = .returned (.string ⟨#[45, 57, 50, 50, 51, 51, 55, 50, 48, 51, 54, 56, 53, 52, 55, 55, 53, 56, 48, 56]⟩) ∧ Below w.heap.size w w' := by
  have h := text_any (-9223372036854775808) w (by omega) (by omega) ht
  rw [itoa_min] at h
  exact h
theorem text_zero (w : World) (ht : Tab w) :
    Calls Tryd.prog 10 #[.int .i64 0] w fun e w' => e = .returned (.string ⟨#[48]⟩) ∧ Below w.heap.size w w' := by
  have h := text_any 0 w (by omega) (by omega) ht
  rw [itoa_zero] at h
  exact h
theorem int_max (w : World) :
    Calls Tryd.prog 8 #[.string ⟨#[57, 50, 50, 51, 51, 55, 50, 48, 51, 54, 56, 53, 52, 55, 55, 53, 56, 48, 55]⟩] w fun e w' => e = .returned (.tuple #[.int .i64 9223372036854775807, .int .i64 0]) ∧ w' = w :=
  int_const (by decide +kernel) (by decide +kernel) (by decide +kernel) w
theorem int_min (w : World) :
    Calls Tryd.prog 8 #[.string ⟨#[45, 57, 50, 50, 51, 51, 55, 50, 48, 51, 54, 56, 53, 52, 55, 55, 53, 56, 48, 56]⟩] w fun e w' => e = .returned (.tuple #[.int .i64 (-9223372036854775808), .int .i64 0]) ∧ w' = w :=
  int_const (by decide +kernel) (by decide +kernel) (by decide +kernel) w
theorem uint_max (w : World) :
    Calls Tryd.prog 9 #[.string ⟨#[49, 56, 52, 52, 54, 55, 52, 52, 48, 55, 51, 55, 48, 57, 53, 53, 49, 54, 49, 53]⟩] w fun e w' => e = .returned (.tuple #[.int .u64 18446744073709551615, .int .i64 0]) ∧ w' = w :=
  uint_const (by decide +kernel) (by decide +kernel) (by decide +kernel) w
theorem add_1 (w : World) : Calls Tryd.prog 6 #[.int .i64 9223372036854775807, .int .i64 1] w fun e w' => e = .returned (.tuple #[.int .i64 0, .int .i64 11]) ∧ w' = w :=
  add_out _ _ w (by omega) (by omega) (by omega) (by omega) (by omega)
theorem add_2 (w : World) : Calls Tryd.prog 6 #[.int .i64 (-9223372036854775808), .int .i64 (-1)] w fun e w' => e = .returned (.tuple #[.int .i64 0, .int .i64 11]) ∧ w' = w :=
  add_out _ _ w (by omega) (by omega) (by omega) (by omega) (by omega)
theorem add_3 (w : World) : Calls Tryd.prog 6 #[.int .i64 (-9223372036854775808), .int .i64 9223372036854775807] w fun e w' => e = .returned (.tuple #[.int .i64 (-1), .int .i64 0]) ∧ w' = w :=
  add_in (-9223372036854775808) 9223372036854775807 w (by omega) (by omega) (by omega) (by omega) (by omega) (by omega)
def tab1 : List Int := [0, -1, 5, 0, 5, 1, 2, 5, 1, 3, -2, -1, 5, 3, 5, -100, 1, 5, 0, 2, 3, 100, 5, 3, 5, 3, 2, 5, 0, 0, 5, 9, 5, 0, 0, 0, -6, 5, 0, 0, 0, -1, 0, 0, 0, -9223372036854775808, 9223372036854775807, 5, 0, 5, 0, 0, -3, 0, 0]
def tab2 : List Int := [0, 3, 0, -1, 3, 2, 3, 3, -1, -4, 3, -1, 0, 0, -1, -9223372036854775808, 3, -1]
theorem span_const {a b n f t : Int} (h1 : -9223372036854775808 ≤ a) (h2 : a ≤ 9223372036854775807) (h3 : -9223372036854775808 ≤ b) (h4 : b ≤ 9223372036854775807) (h6 : n ≤ 9223372036854775807) (e1 : Pl.sp1 a b (Pl.row n) = f) (e2 : Pl.sp2 a b (Pl.row n) = t) (w : World) :
    Calls Tryd.prog 11 #[.int .i64 a, .int .i64 b, .int .i64 n] w fun e w' => e = .returned (.tuple #[.int .i64 f, .int .i64 t]) ∧ w' = w := by
  have g := span_any a b n w h1 h2 h3 h4 h6
  rw [e1, e2] at g
  exact g
theorem place_const {i n p : Int} {o : Bool} (h1 : -9223372036854775808 ≤ i) (h2 : i ≤ 9223372036854775807) (h6 : n ≤ 9223372036854775807) (e1 : Pl.pl1 i (Pl.row n) = p) (e2 : Pl.inR i (Pl.row n) = o) (w : World) :
    Calls Tryd.prog 12 #[.int .i64 i, .int .i64 n] w fun e w' => e = .returned (.tuple #[.int .i64 p, .bool o]) ∧ w' = w := by
  have g := place_any i n w h1 h2 h6
  rw [e1, e2] at g
  exact g
theorem span_r0 (w : World) : Calls Tryd.prog 11 #[.int .i64 0, .int .i64 (-1), .int .i64 5] w fun e w' => e = .returned (.tuple #[.int .i64 0, .int .i64 5]) ∧ w' = w :=
  span_const (by omega) (by omega) (by omega) (by omega) (by omega) (by decide +kernel) (by decide +kernel) w
theorem span_r1 (w : World) : Calls Tryd.prog 11 #[.int .i64 1, .int .i64 2, .int .i64 5] w fun e w' => e = .returned (.tuple #[.int .i64 1, .int .i64 3]) ∧ w' = w :=
  span_const (by omega) (by omega) (by omega) (by omega) (by omega) (by decide +kernel) (by decide +kernel) w
theorem span_r2 (w : World) : Calls Tryd.prog 11 #[.int .i64 (-2), .int .i64 (-1), .int .i64 5] w fun e w' => e = .returned (.tuple #[.int .i64 3, .int .i64 5]) ∧ w' = w :=
  span_const (by omega) (by omega) (by omega) (by omega) (by omega) (by decide +kernel) (by decide +kernel) w
theorem span_r3 (w : World) : Calls Tryd.prog 11 #[.int .i64 (-100), .int .i64 1, .int .i64 5] w fun e w' => e = .returned (.tuple #[.int .i64 0, .int .i64 2]) ∧ w' = w :=
  span_const (by omega) (by omega) (by omega) (by omega) (by omega) (by decide +kernel) (by decide +kernel) w
theorem span_r4 (w : World) : Calls Tryd.prog 11 #[.int .i64 3, .int .i64 100, .int .i64 5] w fun e w' => e = .returned (.tuple #[.int .i64 3, .int .i64 5]) ∧ w' = w :=
  span_const (by omega) (by omega) (by omega) (by omega) (by omega) (by decide +kernel) (by decide +kernel) w
theorem span_r5 (w : World) : Calls Tryd.prog 11 #[.int .i64 3, .int .i64 2, .int .i64 5] w fun e w' => e = .returned (.tuple #[.int .i64 0, .int .i64 0]) ∧ w' = w :=
  span_const (by omega) (by omega) (by omega) (by omega) (by omega) (by decide +kernel) (by decide +kernel) w
theorem span_r6 (w : World) : Calls Tryd.prog 11 #[.int .i64 5, .int .i64 9, .int .i64 5] w fun e w' => e = .returned (.tuple #[.int .i64 0, .int .i64 0]) ∧ w' = w :=
  span_const (by omega) (by omega) (by omega) (by omega) (by omega) (by decide +kernel) (by decide +kernel) w
theorem span_r7 (w : World) : Calls Tryd.prog 11 #[.int .i64 0, .int .i64 (-6), .int .i64 5] w fun e w' => e = .returned (.tuple #[.int .i64 0, .int .i64 0]) ∧ w' = w :=
  span_const (by omega) (by omega) (by omega) (by omega) (by omega) (by decide +kernel) (by decide +kernel) w
theorem span_r8 (w : World) : Calls Tryd.prog 11 #[.int .i64 0, .int .i64 (-1), .int .i64 0] w fun e w' => e = .returned (.tuple #[.int .i64 0, .int .i64 0]) ∧ w' = w :=
  span_const (by omega) (by omega) (by omega) (by omega) (by omega) (by decide +kernel) (by decide +kernel) w
theorem span_r9 (w : World) : Calls Tryd.prog 11 #[.int .i64 (-9223372036854775808), .int .i64 9223372036854775807, .int .i64 5] w fun e w' => e = .returned (.tuple #[.int .i64 0, .int .i64 5]) ∧ w' = w :=
  span_const (by omega) (by omega) (by omega) (by omega) (by omega) (by decide +kernel) (by decide +kernel) w
theorem span_r10 (w : World) : Calls Tryd.prog 11 #[.int .i64 0, .int .i64 0, .int .i64 (-3)] w fun e w' => e = .returned (.tuple #[.int .i64 0, .int .i64 0]) ∧ w' = w :=
  span_const (by omega) (by omega) (by omega) (by omega) (by omega) (by decide +kernel) (by decide +kernel) w
theorem place_r0 (w : World) : Calls Tryd.prog 12 #[.int .i64 0, .int .i64 3] w fun e w' => e = .returned (.tuple #[.int .i64 0, .bool true]) ∧ w' = w :=
  place_const (by omega) (by omega) (by omega) (by decide +kernel) (by decide +kernel) w
theorem place_r1 (w : World) : Calls Tryd.prog 12 #[.int .i64 (-1), .int .i64 3] w fun e w' => e = .returned (.tuple #[.int .i64 2, .bool true]) ∧ w' = w :=
  place_const (by omega) (by omega) (by omega) (by decide +kernel) (by decide +kernel) w
theorem place_r2 (w : World) : Calls Tryd.prog 12 #[.int .i64 3, .int .i64 3] w fun e w' => e = .returned (.tuple #[.int .i64 0, .bool false]) ∧ w' = w :=
  place_const (by omega) (by omega) (by omega) (by decide +kernel) (by decide +kernel) w
theorem place_r3 (w : World) : Calls Tryd.prog 12 #[.int .i64 (-4), .int .i64 3] w fun e w' => e = .returned (.tuple #[.int .i64 0, .bool false]) ∧ w' = w :=
  place_const (by omega) (by omega) (by omega) (by decide +kernel) (by decide +kernel) w
theorem place_r4 (w : World) : Calls Tryd.prog 12 #[.int .i64 0, .int .i64 0] w fun e w' => e = .returned (.tuple #[.int .i64 0, .bool false]) ∧ w' = w :=
  place_const (by omega) (by omega) (by omega) (by decide +kernel) (by decide +kernel) w
theorem place_r5 (w : World) : Calls Tryd.prog 12 #[.int .i64 (-9223372036854775808), .int .i64 3] w fun e w' => e = .returned (.tuple #[.int .i64 0, .bool false]) ∧ w' = w :=
  place_const (by omega) (by omega) (by omega) (by decide +kernel) (by decide +kernel) w
theorem cells_at {w : World} {C : Array Value} {T : TypeId} {tab : List Int} (h : C = (tab.map fun z => Value.int .i64 z).toArray) : ∀ j : Nat, j < tab.length → (w.alloc (.cells C T)).cell? ⟨w.heap.size, j, none⟩ = some (.int .i64 (tab.getD j 0)) := by
  intro j hj
  rw [World.cell?_alloc_at _ _ _ _ rfl, h]
  simp [List.getD, hj]
theorem cells_on {w : World} {o : Obj} {b n : Nat} {tab : List Int} (hb : b < w.heap.size) (h : ∀ j : Nat, j < n → w.cell? ⟨b, j, none⟩ = some (.int .i64 (tab.getD j 0))) : ∀ j : Nat, j < n → (w.alloc o).cell? ⟨b, j, none⟩ = some (.int .i64 (tab.getD j 0)) := by
  intro j hj
  rw [World.cell?_alloc_lt w o ⟨b, j, none⟩ hb]
  exact h j hj
set_option maxRecDepth 100000 in
set_option maxHeartbeats 1000000 in
theorem known_any (w : World) (ht : Tab w) :
    Calls Tryd.prog 4 #[] w fun e w' => e = .returned (.bool true) ∧ Below w.heap.size w w' := by
  have HT := keep ht
  clear ht
  go_enter Tryd.func4, Tryd.ntmps4
  go_wp2_with fail
  refine (wakes_any _ HT.out).mono ?_
  rintro e w1 ⟨rfl, hb1⟩
  have HT1 := keep (tab_below HT.out hb1)
  go_wp2_with fail
  refine (refused_any _).mono ?_
  rintro e w2 ⟨rfl, hb2⟩
  have HT2 := keep (tab_below HT1.out hb2)
  go_wp2_with fail
  refine (int_max _).mono ?_
  rintro e w' ⟨rfl, rfl⟩
  go_wp2_with fail
  refine (int_min _).mono ?_
  rintro e w' ⟨rfl, rfl⟩
  go_wp2_with fail
  refine (uint_max _).mono ?_
  rintro e w' ⟨rfl, rfl⟩
  go_wp2_with fail
  refine (text_min _ HT2.out).mono ?_
  rintro e w3 ⟨rfl, hb3⟩
  have HT3 := keep (tab_below HT2.out hb3)
  go_wp2_with fail
  refine (text_zero _ HT3.out).mono ?_
  rintro e w4 ⟨rfl, hb4⟩
  go_wp2_with fail
  refine (add_1 _).mono ?_
  rintro e w' ⟨rfl, rfl⟩
  go_wp2_with fail
  refine (add_2 _).mono ?_
  rintro e w' ⟨rfl, rfl⟩
  go_wp2_with fail
  refine (add_3 _).mono ?_
  rintro e w' ⟨rfl, rfl⟩
  have hbw : Below w.heap.size w w' := ((hb1.trans (hb2.mono hb1.size)).trans (hb3.mono (Nat.le_trans hb1.size hb2.size))).trans (hb4.mono (Nat.le_trans hb1.size (Nat.le_trans hb2.size hb3.size)))
  clear hb1 hb2 hb3 hb4 HT HT1 HT2 HT3
  go_wp2_with fail
  go_loopw [107] (fun i wr => ∃ k : Nat, k ≤ 11 ∧ i = .int .i64 k ∧ Below w.heap.size w wr ∧ w'.heap.size < wr.heap.size ∧ ∀ j : Nat, j < 55 → wr.cell? ⟨w'.heap.size, j, none⟩ = some (.int .i64 (tab1.getD j 0))) (fun i _ => 11 - (intOf i).toNat)
  case atStart => exact ⟨0, by omega, rfl, hbw.alloc hbw.size _, by simp, cells_at (tab := tab1) rfl⟩
  case round =>
    obtain ⟨k, hk, rfl, hbr, hsz, hc⟩ := hrel
    have HC := keep hc
    clear hc
    by_cases hlt : k < 11
    · have hks : k = 0 ∨ k = 1 ∨ k = 2 ∨ k = 3 ∨ k = 4 ∨ k = 5 ∨ k = 6 ∨ k = 7 ∨ k = 8 ∨ k = 9 ∨ k = 10 := by omega
      clear hk hlt
      rcases hks with rfl | rfl | rfl | rfl | rfl | rfl | rfl | rfl | rfl | rfl | rfl
      · have q0 : wr.cell? ⟨w'.heap.size, 0, none⟩ = some (.int .i64 0) := HC.out 0 (by omega)
        have q1 : wr.cell? ⟨w'.heap.size, 1, none⟩ = some (.int .i64 (-1)) := HC.out 1 (by omega)
        have q2 : wr.cell? ⟨w'.heap.size, 2, none⟩ = some (.int .i64 5) := HC.out 2 (by omega)
        have q3 : wr.cell? ⟨w'.heap.size, 3, none⟩ = some (.int .i64 0) := HC.out 3 (by omega)
        have q4 : wr.cell? ⟨w'.heap.size, 4, none⟩ = some (.int .i64 5) := HC.out 4 (by omega)
        go_wp2_with fail
        refine (span_r0 _).mono ?_
        rintro e wz ⟨rfl, rfl⟩
        go_wp2
        go_roundw
        case rel => exact ⟨1, by omega, by go_num, hbr.alloc hbr.size _, by simp; omega, cells_on hsz HC.out⟩
        case measure => simp [intOf]
      · have q0 : wr.cell? ⟨w'.heap.size, 5, none⟩ = some (.int .i64 1) := HC.out 5 (by omega)
        have q1 : wr.cell? ⟨w'.heap.size, 6, none⟩ = some (.int .i64 2) := HC.out 6 (by omega)
        have q2 : wr.cell? ⟨w'.heap.size, 7, none⟩ = some (.int .i64 5) := HC.out 7 (by omega)
        have q3 : wr.cell? ⟨w'.heap.size, 8, none⟩ = some (.int .i64 1) := HC.out 8 (by omega)
        have q4 : wr.cell? ⟨w'.heap.size, 9, none⟩ = some (.int .i64 3) := HC.out 9 (by omega)
        go_wp2_with fail
        refine (span_r1 _).mono ?_
        rintro e wz ⟨rfl, rfl⟩
        go_wp2
        go_roundw
        case rel => exact ⟨2, by omega, by go_num, hbr.alloc hbr.size _, by simp; omega, cells_on hsz HC.out⟩
        case measure => simp [intOf]
      · have q0 : wr.cell? ⟨w'.heap.size, 10, none⟩ = some (.int .i64 (-2)) := HC.out 10 (by omega)
        have q1 : wr.cell? ⟨w'.heap.size, 11, none⟩ = some (.int .i64 (-1)) := HC.out 11 (by omega)
        have q2 : wr.cell? ⟨w'.heap.size, 12, none⟩ = some (.int .i64 5) := HC.out 12 (by omega)
        have q3 : wr.cell? ⟨w'.heap.size, 13, none⟩ = some (.int .i64 3) := HC.out 13 (by omega)
        have q4 : wr.cell? ⟨w'.heap.size, 14, none⟩ = some (.int .i64 5) := HC.out 14 (by omega)
        go_wp2_with fail
        refine (span_r2 _).mono ?_
        rintro e wz ⟨rfl, rfl⟩
        go_wp2
        go_roundw
        case rel => exact ⟨3, by omega, by go_num, hbr.alloc hbr.size _, by simp; omega, cells_on hsz HC.out⟩
        case measure => simp [intOf]
      · have q0 : wr.cell? ⟨w'.heap.size, 15, none⟩ = some (.int .i64 (-100)) := HC.out 15 (by omega)
        have q1 : wr.cell? ⟨w'.heap.size, 16, none⟩ = some (.int .i64 1) := HC.out 16 (by omega)
        have q2 : wr.cell? ⟨w'.heap.size, 17, none⟩ = some (.int .i64 5) := HC.out 17 (by omega)
        have q3 : wr.cell? ⟨w'.heap.size, 18, none⟩ = some (.int .i64 0) := HC.out 18 (by omega)
        have q4 : wr.cell? ⟨w'.heap.size, 19, none⟩ = some (.int .i64 2) := HC.out 19 (by omega)
        go_wp2_with fail
        refine (span_r3 _).mono ?_
        rintro e wz ⟨rfl, rfl⟩
        go_wp2
        go_roundw
        case rel => exact ⟨4, by omega, by go_num, hbr.alloc hbr.size _, by simp; omega, cells_on hsz HC.out⟩
        case measure => simp [intOf]
      · have q0 : wr.cell? ⟨w'.heap.size, 20, none⟩ = some (.int .i64 3) := HC.out 20 (by omega)
        have q1 : wr.cell? ⟨w'.heap.size, 21, none⟩ = some (.int .i64 100) := HC.out 21 (by omega)
        have q2 : wr.cell? ⟨w'.heap.size, 22, none⟩ = some (.int .i64 5) := HC.out 22 (by omega)
        have q3 : wr.cell? ⟨w'.heap.size, 23, none⟩ = some (.int .i64 3) := HC.out 23 (by omega)
        have q4 : wr.cell? ⟨w'.heap.size, 24, none⟩ = some (.int .i64 5) := HC.out 24 (by omega)
        go_wp2_with fail
        refine (span_r4 _).mono ?_
        rintro e wz ⟨rfl, rfl⟩
        go_wp2
        go_roundw
        case rel => exact ⟨5, by omega, by go_num, hbr.alloc hbr.size _, by simp; omega, cells_on hsz HC.out⟩
        case measure => simp [intOf]
      · have q0 : wr.cell? ⟨w'.heap.size, 25, none⟩ = some (.int .i64 3) := HC.out 25 (by omega)
        have q1 : wr.cell? ⟨w'.heap.size, 26, none⟩ = some (.int .i64 2) := HC.out 26 (by omega)
        have q2 : wr.cell? ⟨w'.heap.size, 27, none⟩ = some (.int .i64 5) := HC.out 27 (by omega)
        have q3 : wr.cell? ⟨w'.heap.size, 28, none⟩ = some (.int .i64 0) := HC.out 28 (by omega)
        have q4 : wr.cell? ⟨w'.heap.size, 29, none⟩ = some (.int .i64 0) := HC.out 29 (by omega)
        go_wp2_with fail
        refine (span_r5 _).mono ?_
        rintro e wz ⟨rfl, rfl⟩
        go_wp2
        go_roundw
        case rel => exact ⟨6, by omega, by go_num, hbr.alloc hbr.size _, by simp; omega, cells_on hsz HC.out⟩
        case measure => simp [intOf]
      · have q0 : wr.cell? ⟨w'.heap.size, 30, none⟩ = some (.int .i64 5) := HC.out 30 (by omega)
        have q1 : wr.cell? ⟨w'.heap.size, 31, none⟩ = some (.int .i64 9) := HC.out 31 (by omega)
        have q2 : wr.cell? ⟨w'.heap.size, 32, none⟩ = some (.int .i64 5) := HC.out 32 (by omega)
        have q3 : wr.cell? ⟨w'.heap.size, 33, none⟩ = some (.int .i64 0) := HC.out 33 (by omega)
        have q4 : wr.cell? ⟨w'.heap.size, 34, none⟩ = some (.int .i64 0) := HC.out 34 (by omega)
        go_wp2_with fail
        refine (span_r6 _).mono ?_
        rintro e wz ⟨rfl, rfl⟩
        go_wp2
        go_roundw
        case rel => exact ⟨7, by omega, by go_num, hbr.alloc hbr.size _, by simp; omega, cells_on hsz HC.out⟩
        case measure => simp [intOf]
      · have q0 : wr.cell? ⟨w'.heap.size, 35, none⟩ = some (.int .i64 0) := HC.out 35 (by omega)
        have q1 : wr.cell? ⟨w'.heap.size, 36, none⟩ = some (.int .i64 (-6)) := HC.out 36 (by omega)
        have q2 : wr.cell? ⟨w'.heap.size, 37, none⟩ = some (.int .i64 5) := HC.out 37 (by omega)
        have q3 : wr.cell? ⟨w'.heap.size, 38, none⟩ = some (.int .i64 0) := HC.out 38 (by omega)
        have q4 : wr.cell? ⟨w'.heap.size, 39, none⟩ = some (.int .i64 0) := HC.out 39 (by omega)
        go_wp2_with fail
        refine (span_r7 _).mono ?_
        rintro e wz ⟨rfl, rfl⟩
        go_wp2
        go_roundw
        case rel => exact ⟨8, by omega, by go_num, hbr.alloc hbr.size _, by simp; omega, cells_on hsz HC.out⟩
        case measure => simp [intOf]
      · have q0 : wr.cell? ⟨w'.heap.size, 40, none⟩ = some (.int .i64 0) := HC.out 40 (by omega)
        have q1 : wr.cell? ⟨w'.heap.size, 41, none⟩ = some (.int .i64 (-1)) := HC.out 41 (by omega)
        have q2 : wr.cell? ⟨w'.heap.size, 42, none⟩ = some (.int .i64 0) := HC.out 42 (by omega)
        have q3 : wr.cell? ⟨w'.heap.size, 43, none⟩ = some (.int .i64 0) := HC.out 43 (by omega)
        have q4 : wr.cell? ⟨w'.heap.size, 44, none⟩ = some (.int .i64 0) := HC.out 44 (by omega)
        go_wp2_with fail
        refine (span_r8 _).mono ?_
        rintro e wz ⟨rfl, rfl⟩
        go_wp2
        go_roundw
        case rel => exact ⟨9, by omega, by go_num, hbr.alloc hbr.size _, by simp; omega, cells_on hsz HC.out⟩
        case measure => simp [intOf]
      · have q0 : wr.cell? ⟨w'.heap.size, 45, none⟩ = some (.int .i64 (-9223372036854775808)) := HC.out 45 (by omega)
        have q1 : wr.cell? ⟨w'.heap.size, 46, none⟩ = some (.int .i64 9223372036854775807) := HC.out 46 (by omega)
        have q2 : wr.cell? ⟨w'.heap.size, 47, none⟩ = some (.int .i64 5) := HC.out 47 (by omega)
        have q3 : wr.cell? ⟨w'.heap.size, 48, none⟩ = some (.int .i64 0) := HC.out 48 (by omega)
        have q4 : wr.cell? ⟨w'.heap.size, 49, none⟩ = some (.int .i64 5) := HC.out 49 (by omega)
        go_wp2_with fail
        refine (span_r9 _).mono ?_
        rintro e wz ⟨rfl, rfl⟩
        go_wp2
        go_roundw
        case rel => exact ⟨10, by omega, by go_num, hbr.alloc hbr.size _, by simp; omega, cells_on hsz HC.out⟩
        case measure => simp [intOf]
      · have q0 : wr.cell? ⟨w'.heap.size, 50, none⟩ = some (.int .i64 0) := HC.out 50 (by omega)
        have q1 : wr.cell? ⟨w'.heap.size, 51, none⟩ = some (.int .i64 0) := HC.out 51 (by omega)
        have q2 : wr.cell? ⟨w'.heap.size, 52, none⟩ = some (.int .i64 (-3)) := HC.out 52 (by omega)
        have q3 : wr.cell? ⟨w'.heap.size, 53, none⟩ = some (.int .i64 0) := HC.out 53 (by omega)
        have q4 : wr.cell? ⟨w'.heap.size, 54, none⟩ = some (.int .i64 0) := HC.out 54 (by omega)
        go_wp2_with fail
        refine (span_r10 _).mono ?_
        rintro e wz ⟨rfl, rfl⟩
        go_wp2
        go_roundw
        case rel => exact ⟨11, by omega, by go_num, hbr.alloc hbr.size _, by simp; omega, cells_on hsz HC.out⟩
        case measure => simp [intOf]
    · obtain rfl : k = 11 := by omega
      clear HC hk hlt
      obtain ⟨wo, hwo⟩ : ∃ x, x = wr := ⟨wr, rfl⟩
      subst hwo
      go_wp2_with fail
      go_loopw [140] (fun i wz => ∃ k : Nat, k ≤ 6 ∧ i = .int .i64 k ∧ Below w.heap.size w wz ∧ wo.heap.size < wz.heap.size ∧ ∀ j : Nat, j < 18 → wz.cell? ⟨wo.heap.size, j, none⟩ = some (.int .i64 (tab2.getD j 0))) (fun i _ => 6 - (intOf i).toNat)
      case atStart => exact ⟨0, by omega, rfl, hbr.alloc hbr.size _, by simp, cells_at (tab := tab2) rfl⟩
      case round =>
        obtain ⟨k, hk, rfl, hbs, hsz2, hc⟩ := hrel
        have HC := keep hc
        clear hc
        by_cases hlt : k < 6
        · have hks : k = 0 ∨ k = 1 ∨ k = 2 ∨ k = 3 ∨ k = 4 ∨ k = 5 := by omega
          clear hk hlt
          rcases hks with rfl | rfl | rfl | rfl | rfl | rfl
          · have q0 : wr.cell? ⟨wo.heap.size, 0, none⟩ = some (.int .i64 0) := HC.out 0 (by omega)
            have q1 : wr.cell? ⟨wo.heap.size, 1, none⟩ = some (.int .i64 3) := HC.out 1 (by omega)
            have q2 : wr.cell? ⟨wo.heap.size, 2, none⟩ = some (.int .i64 0) := HC.out 2 (by omega)
            go_wp2_with fail
            refine (place_r0 _).mono ?_
            rintro e wz ⟨rfl, rfl⟩
            go_wp2
            go_roundw
            case rel =>
              (repeat apply Exists.intro)
              refine ⟨?_, rfl⟩
              exact ⟨1, by omega, by go_num, hbs.alloc hbs.size _, by simp; omega, cells_on hsz2 HC.out⟩
            case measure => simp [intOf]
          · have q0 : wr.cell? ⟨wo.heap.size, 3, none⟩ = some (.int .i64 (-1)) := HC.out 3 (by omega)
            have q1 : wr.cell? ⟨wo.heap.size, 4, none⟩ = some (.int .i64 3) := HC.out 4 (by omega)
            have q2 : wr.cell? ⟨wo.heap.size, 5, none⟩ = some (.int .i64 2) := HC.out 5 (by omega)
            go_wp2_with fail
            refine (place_r1 _).mono ?_
            rintro e wz ⟨rfl, rfl⟩
            go_wp2
            go_roundw
            case rel =>
              (repeat apply Exists.intro)
              refine ⟨?_, rfl⟩
              exact ⟨2, by omega, by go_num, hbs.alloc hbs.size _, by simp; omega, cells_on hsz2 HC.out⟩
            case measure => simp [intOf]
          · have q0 : wr.cell? ⟨wo.heap.size, 6, none⟩ = some (.int .i64 3) := HC.out 6 (by omega)
            have q1 : wr.cell? ⟨wo.heap.size, 7, none⟩ = some (.int .i64 3) := HC.out 7 (by omega)
            have q2 : wr.cell? ⟨wo.heap.size, 8, none⟩ = some (.int .i64 (-1)) := HC.out 8 (by omega)
            go_wp2_with fail
            refine (place_r2 _).mono ?_
            rintro e wz ⟨rfl, rfl⟩
            go_wp2
            go_roundw
            case rel =>
              (repeat apply Exists.intro)
              refine ⟨?_, rfl⟩
              exact ⟨3, by omega, by go_num, hbs.alloc hbs.size _, by simp; omega, cells_on hsz2 HC.out⟩
            case measure => simp [intOf]
          · have q0 : wr.cell? ⟨wo.heap.size, 9, none⟩ = some (.int .i64 (-4)) := HC.out 9 (by omega)
            have q1 : wr.cell? ⟨wo.heap.size, 10, none⟩ = some (.int .i64 3) := HC.out 10 (by omega)
            have q2 : wr.cell? ⟨wo.heap.size, 11, none⟩ = some (.int .i64 (-1)) := HC.out 11 (by omega)
            go_wp2_with fail
            refine (place_r3 _).mono ?_
            rintro e wz ⟨rfl, rfl⟩
            go_wp2
            go_roundw
            case rel =>
              (repeat apply Exists.intro)
              refine ⟨?_, rfl⟩
              exact ⟨4, by omega, by go_num, hbs.alloc hbs.size _, by simp; omega, cells_on hsz2 HC.out⟩
            case measure => simp [intOf]
          · have q0 : wr.cell? ⟨wo.heap.size, 12, none⟩ = some (.int .i64 0) := HC.out 12 (by omega)
            have q1 : wr.cell? ⟨wo.heap.size, 13, none⟩ = some (.int .i64 0) := HC.out 13 (by omega)
            have q2 : wr.cell? ⟨wo.heap.size, 14, none⟩ = some (.int .i64 (-1)) := HC.out 14 (by omega)
            go_wp2_with fail
            refine (place_r4 _).mono ?_
            rintro e wz ⟨rfl, rfl⟩
            go_wp2
            go_roundw
            case rel =>
              (repeat apply Exists.intro)
              refine ⟨?_, rfl⟩
              exact ⟨5, by omega, by go_num, hbs.alloc hbs.size _, by simp; omega, cells_on hsz2 HC.out⟩
            case measure => simp [intOf]
          · have q0 : wr.cell? ⟨wo.heap.size, 15, none⟩ = some (.int .i64 (-9223372036854775808)) := HC.out 15 (by omega)
            have q1 : wr.cell? ⟨wo.heap.size, 16, none⟩ = some (.int .i64 3) := HC.out 16 (by omega)
            have q2 : wr.cell? ⟨wo.heap.size, 17, none⟩ = some (.int .i64 (-1)) := HC.out 17 (by omega)
            go_wp2_with fail
            refine (place_r5 _).mono ?_
            rintro e wz ⟨rfl, rfl⟩
            go_wp2
            go_roundw
            case rel =>
              (repeat apply Exists.intro)
              refine ⟨?_, rfl⟩
              exact ⟨6, by omega, by go_num, hbs.alloc hbs.size _, by simp; omega, cells_on hsz2 HC.out⟩
            case measure => simp [intOf]
        · obtain rfl : k = 6 := by omega
          go_wp2
          go_ret
          exact ⟨rfl, hbs⟩
end Go.Proofs.YtdpclcopckbgeabDoor
