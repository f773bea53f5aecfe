/-
  The walk of VerbsLong: too many words, too long ones, and the bounds.
-/
import Derived.Test.YtaflggjgndkdlabDoorVbWords
import Derived.Deep.Cut
import Derived.Deep.CutRange
namespace Go.Proofs.YtaflggjgndkdlabDoor
open Go.RowKit
set_option linter.unusedVariables false
def delB : ByteArray := ⟨#[100, 101, 108]⟩
def echoB : ByteArray := ⟨#[101, 99, 104, 111]⟩
theorem find_del : Vb.find (Vb.up delB).toList = some (-2, 1, 1, -1, 1) := by decide +kernel
theorem find_echo : Vb.find (Vb.up echoB).toList = some (2, 0, 0, 0, 0) := by decide +kernel
theorem longW_of {S : List ByteArray} (h1 : S.length ≤ 1024) (h2 : ∀ s ∈ S, s.size ≤ 1048576) (h3 : (S.map ByteArray.size).sum ≤ 4194304) : longW S = false := by
  unfold longW
  simp only [Bool.or_eq_false_iff, decide_eq_false_iff_not, List.any_eq_false, decide_eq_true_eq]
  exact ⟨by omega, fun s hs => by have := h2 s hs; omega, by omega⟩
theorem long_many {S : List ByteArray} (h : 1024 < S.length) : longW S = true := by unfold longW; rw [decide_eq_true h]; rfl
theorem long_one {a b : ByteArray} (h : 1048576 < b.size) : longW [a, b] = true := by
  unfold longW
  have : [a, b].any (fun s => decide (1048576 < s.size)) = true := List.any_eq_true.2 ⟨b, by simp, by simpa using h⟩
  rw [this]; simp
theorem long_sum {S : List ByteArray} (h : 4194304 < (S.map ByteArray.size).sum) : longW S = true := by unfold longW; rw [decide_eq_true h]; simp
theorem del_row : okRow (-2, 1, 1, -1, 1) = true := by decide
/-- 'del' and many empty words -/
def dels (n : Nat) : List ByteArray := delB :: List.replicate n ByteArray.empty
theorem dels_sum (n : Nat) : ((dels n).map ByteArray.size).sum = 3 := by
  unfold dels
  rw [List.map_cons, List.sum_cons, List.map_replicate]
  have : (List.replicate n ByteArray.empty.size).sum = 0 := by
    show (List.replicate n 0).sum = 0
    induction n with
    | zero => rfl
    | succ n ih => rw [List.replicate_succ, List.sum_cons, ih]
  rw [this]; rfl
theorem dels_small (n : Nat) : ∀ s ∈ dels n, s.size ≤ 1048576 := fun s hs => by
  unfold dels at hs
  rcases List.mem_cons.1 hs with rfl | h
  · decide
  · rw [(List.mem_replicate.1 h).2]; decide
theorem dels_len (n : Nat) : (dels n).length = n + 1 := by simp [dels]
theorem dels_ok : longW (dels 1023) = false := longW_of (by rw [dels_len]; omega) (dels_small _) (by rw [dels_sum]; omega)
theorem dels_chk : chk (dels 1023) = (Vb.up delB, (-2, 1, 1, -1, 1), 0) := chk_ok dels_ok find_del (by show many (dels 1023).length (-2) = true; rw [dels_len]; rfl)
theorem dels_keys : (keysL (dels 1023)).length = 1023 := by
  unfold keysL
  rw [dels_chk, if_pos ⟨rfl, by decide⟩, keysR_len, dels_len]
  rfl
theorem dels_none (n : Nat) (h : 1024 < n + 1) : (keysL (dels n)).length = 0 := by
  unfold keysL
  rw [show (chk (dels n)).2.2 = 2 from code_long (s := delB) (r := List.replicate n ByteArray.empty) (long_many (by simp; omega)), if_neg (by rintro ⟨h, _⟩; exact absurd h (by decide))]
  rfl
theorem keys_code (so : Option Addr) (cap : Nat) (S : List ByteArray) (w : World) (k : Nat) (hT : Wd w so S) (hl : S.length ≤ maxLen) (hk : (keysL S).length = k) :
    Calls Tryd.prog 5 #[.slice so S.length cap] w fun e w' => (∃ ao cc, e = .returned (.slice ao k cc)) ∧ Below w.heap.size w w' := by
  refine (keys_any so cap S w hT hl).mono ?_
  rintro e w' ⟨⟨v, rfl, hv⟩, hb⟩
  obtain ⟨ao, cc, rfl⟩ := hv.form
  rw [hk]
  exact ⟨⟨_, _, rfl⟩, hb⟩
set_option maxRecDepth 100000 in
set_option maxHeartbeats 8000000 in
theorem long_go (nm : ByteArray) (m : Nat) (w : World) (n0 : ByteArray) (m0 : Int) (hn : nm.size ≤ 1000) (hm : 1 ≤ m ∧ m ≤ 100)
    (h1 : (n0 = nm ∧ n0.size ≤ 1000) ∨ (1000 < n0.size ∧ nm = ⟨#[110, 111, 112, 101]⟩)) (h2 : (m0 = (m : Int)) ∨ ((m0 < 1 ∨ 100 < m0) ∧ m = 1)) :
    Calls Tryd.prog 3 #[.string n0, .int .i64 m0] w fun e w' => e = .returned (.bool true) ∧ Below w.heap.size w w' := by
  obtain ⟨PP, hPP⟩ : ∃ PP : Ending → World → Prop, PP = fun e w' => e = .returned (.bool true) ∧ Below w.heap.size w w' := ⟨_, rfl⟩
  rw [← hPP]
  have HP := keep hPP
  clear hPP
  obtain ⟨hm1, hm2⟩ := hm
  obtain ⟨N, hN⟩ : ∃ N, N = 1024 + m := ⟨_, rfl⟩
  have hw1 : IntKind.i64.wrap (1024 + (m : Int)) = (N : Int) := by rw [IntKind.wrap_i64]; omega
  obtain ⟨M2, hM2⟩ : ∃ M2, M2 = 1048576 + m := ⟨_, rfl⟩
  have hw2 : wrap64 (1048576 + (m : Int)) = (M2 : Int) := by unfold wrap64; omega
  have HM22 := keep hM2
  obtain ⟨W1, q1, q2, q3⟩ := texts_made w N (by omega)
  have HNM := keep hn
  have HM1 := keep hm1
  have HM2 := keep hm2
  have HN := keep hN
  have HW2 := keep hw2
  obtain ⟨s1, s2, s3⟩ := q2.set 0 nm (by simp; omega)
  have e1 : (List.replicate N ByteArray.empty).set 0 nm = nm :: List.replicate (N - 1) ByteArray.empty := by
    obtain ⟨k, rfl⟩ : ∃ k, N = k + 1 := ⟨N - 1, by omega⟩
    rw [List.replicate_succ]; rfl
  rw [e1] at s1
  obtain ⟨u0, s2⟩ := s2
  have hb1 : Below w.heap.size w (W1.setCell ⟨w.heap.size, 0, none⟩ (.string nm)) := q3.setCell (by exact Nat.le_refl _) _
  obtain ⟨W2, hW2⟩ : ∃ W2, W1.setCell ⟨w.heap.size, 0, none⟩ (.string nm) = W2 := ⟨_, rfl⟩
  rw [hW2] at s1 hb1
  have KS := keep s1
  have KB := keep hb1
  have sml : ∀ s ∈ nm :: List.replicate (N - 1) ByteArray.empty, s.size ≤ maxLen := fun s hs => by
    unfold maxLen
    rcases List.mem_cons.1 hs with rfl | h
    · omega
    · rw [(List.mem_replicate.1 h).2]; decide
  have hlen : (nm :: List.replicate (N - 1) ByteArray.empty).length = N := by simp; omega
  have c1 := check_code (some ⟨w.heap.size, 0, none⟩) N _ W2 2 (s1.wd sml) (by rw [hlen]; unfold maxLen; omega) (code_long (long_many (by rw [hlen]; omega)))
  rw [hlen] at c1
  have C1 := keep c1
  have hN1 : (1 : Int) ≤ (N : Int) := by omega
  have hN0 : (0 : Int) < (N : Int) := by omega
  obtain ⟨q0, hq0, hm00⟩ : ∃ q0 : Bool, ((q0 = true ∧ (m0 < 1 ∨ 100 < m0)) ∨ (q0 = false ∧ ¬ m0 < 1 ∧ ¬ 100 < m0)) ∧ ((q0 = false → m0 = (m : Int)) ∧ (q0 = true → m = 1)) := by
    by_cases c : m0 < 1 ∨ 100 < m0
    · refine ⟨true, .inl ⟨rfl, c⟩, (fun h => by cases h), fun _ => ?_⟩
      rcases h2 with h | ⟨_, h⟩
      · omega
      · exact h
    · refine ⟨false, .inr ⟨rfl, by omega, by omega⟩, fun _ => ?_, (fun h => by cases h)⟩
      rcases h2 with h | ⟨h, _⟩
      · exact h
      · exact absurd h c
  have HQ0 := keep hq0
  have HM0 := keep hm00
  have HNN := keep h1
  clear hq0 hm00 h1 h2
  clear c1 s1 hb1 sml hlen e1 q2 q3 hn hm1 hm2 hN hw2 hN1 hM2
  go_enter Tryd.func3, Tryd.ntmps3

  go_upto_region 1 with fail
  go_cut [26] from 21 to 26 (fun z wx => z = .bool q0 ∧ wx = w)
  case first =>
    rcases HQ0.out with ⟨rfl, h⟩ | ⟨rfl, ha, hb⟩
    · by_cases ha : m0 < 1
      · go_wp2_with fail
        go_meet
        case rel => exact ⟨rfl, rfl⟩
      · have hb : 100 < m0 := by rcases h with h | h; exact absurd h ha; exact h
        go_wp2_with fail
        go_meet
        case rel => exact ⟨rfl, rfl⟩
    · go_wp2_with fail
      go_meet
      case rel => exact ⟨rfl, rfl⟩
  case rest =>
  obtain ⟨rfl, hwc⟩ := hcut
  obtain rfl := hwc.symm
  clear hwc
  go_upto_if 26 with fail
  go_cut [1] from 21 to 26 (fun z wx => z = .int .i64 (m : Int) ∧ wx = w)
  case first =>
    cases q0
    · obtain rfl := HM0.out.1 rfl
      go_wp2_with fail
      go_meet
      case rel => exact ⟨rfl, rfl⟩
    · obtain rfl := HM0.out.2 rfl
      go_wp2_with fail
      go_meet
      case rel => exact ⟨rfl, rfl⟩
  case rest =>
  obtain ⟨rfl, hwc⟩ := hcut
  obtain rfl := hwc.symm
  clear hwc
  go_upto_if 29 with fail
  go_cut [0] from 27 to 29 (fun z wx => z = .string nm ∧ wx = w)
  case first =>
    rcases HNN.out with ⟨rfl, hx⟩ | ⟨hx, rfl⟩
    · have hx' : ¬ (1000 : Int) < (n0.size : Int) := by omega
      go_wp2_with fail
      go_meet
      case rel => exact ⟨rfl, rfl⟩
    · have hx' : (1000 : Int) < (n0.size : Int) := by omega
      go_wp2_with fail
      go_meet
      case rel => exact ⟨rfl, rfl⟩
  case rest =>
  obtain ⟨rfl, hwc⟩ := hcut
  obtain rfl := hwc.symm
  clear hwc
  go_wp2_with fail
  refine C1.out.mono ?_

  rintro _ w1 ⟨⟨n1, a1, f1, x1, y1, z1, rfl⟩, hb1⟩
  obtain ⟨A1, hA1⟩ : ∃ A, w1.alloc (.cells #[.string n1, .int .i64 a1, .int .i64 f1, .int .i64 x1, .int .i64 y1, .int .i64 z1] 24) = A := ⟨_, rfl⟩
  have bA1 : Below W2.heap.size W2 A1 := by rw [← hA1]; exact hb1.alloc hb1.size _
  have KA1 := keep (KS.out.later bA1)
  have BD1 := keep bA1
  have BA1 := keep (KB.out.trans (bA1.mono KB.out.size))
  clear hb1 bA1
  have hw2 := HW2.out
  obtain ⟨Y2, s2, t21, t22, t23, t24⟩ := zeros_text A1 (M2) (by have := HM2.out; have := HM22.out; omega)
  have TS2 := keep t23
  have TB2 := keep t24
  clear t23 t24
  have bw2 : Below w.heap.size w (Y2.alloc (.cells #[.string nm, .string s2] 9)) := (BA1.out.trans (TB2.out.mono BA1.out.size)).alloc ((BA1.out.trans (TB2.out.mono BA1.out.size))).size _
  have rw2 := row_wd (W := Y2.alloc (.cells #[.string nm, .string s2] 9)) (b := Y2.heap.size) (t := 9) (fr := (0, 0)) [nm, s2] (heap_alloc_new _ _) (by
    intro u hu
    have hu' : u.size ≤ 1048676 := by
      simp only [List.mem_cons, List.not_mem_nil, or_false] at hu
      rcases hu with rfl | rfl
      · have := HNM.out; omega
      · rw [TS2.out, HM22.out]; have := HM2.out; omega
    exact Nat.le_trans hu' (by unfold maxLen; decide))
  have cc2 := check_code (some ⟨Y2.heap.size, 0, none⟩) 2 [nm, s2] _ 2 rw2 (by unfold maxLen; show 2 ≤ _; decide) (code_long (long_one (by rw [TS2.out, HM22.out]; have := HM1.out; omega)))
  have C2 := keep cc2
  have BW2 := keep bw2
  clear bw2 rw2 cc2
  have KY2 := keep ((KA1.out.later TB2.out).later ((Below.refl _ Y2).alloc (Nat.le_refl _) (.cells #[.string nm, .string s2] 9)))
  go_wp2_with fail
  refine C2.out.mono ?_
  rintro _ w2 ⟨⟨n2, a2, f2, x2, y2, z2, rfl⟩, hb2⟩
  obtain ⟨A2, hA2⟩ : ∃ A, w2.alloc (.cells #[.string n2, .int .i64 a2, .int .i64 f2, .int .i64 x2, .int .i64 y2, .int .i64 z2] 24) = A := ⟨_, rfl⟩
  have bA2 : Below (Y2.alloc (.cells #[.string nm, .string s2] 9)).heap.size (Y2.alloc (.cells #[.string nm, .string s2] 9)) A2 := by rw [← hA2]; exact hb2.alloc hb2.size _
  have KA2 := keep (KY2.out.later bA2)
  have BD2 := keep bA2
  have BA2 := keep (BW2.out.trans (bA2.mono BW2.out.size))
  clear hb2 bA2
  obtain ⟨Y3, s3, t31, t32, t33, t34⟩ := zeros_text A2 (1048576) (by have := HM2.out; have := HM22.out; omega)
  rw [show ((1048576 : Nat) : Int) = 1048576 from rfl] at t31
  have TS3 := keep t33
  have TB3 := keep t34
  clear t33 t34
  have bw3 : Below w.heap.size w (Y3.alloc (.cells #[.string ⟨#[101, 99, 104, 111]⟩, .string s3] 9)) := (BA2.out.trans (TB3.out.mono BA2.out.size)).alloc ((BA2.out.trans (TB3.out.mono BA2.out.size))).size _
  have rw3 := row_wd (W := Y3.alloc (.cells #[.string ⟨#[101, 99, 104, 111]⟩, .string s3] 9)) (b := Y3.heap.size) (t := 9) (fr := (0, 0)) [⟨#[101, 99, 104, 111]⟩, s3] (heap_alloc_new _ _) (by
    intro u hu
    have hu' : u.size ≤ 1048676 := by
      simp only [List.mem_cons, List.not_mem_nil, or_false] at hu
      rcases hu with rfl | rfl
      · decide
      · rw [TS3.out]; decide
    exact Nat.le_trans hu' (by unfold maxLen; decide))
  have cc3 := check_code (some ⟨Y3.heap.size, 0, none⟩) 2 [⟨#[101, 99, 104, 111]⟩, s3] _ 0 rw3 (by unfold maxLen; show 2 ≤ _; decide) (code_ok (longW_of (by show 2 ≤ 1024; decide) (by intro u hu; simp only [List.mem_cons, List.not_mem_nil, or_false] at hu; rcases hu with rfl | rfl; decide; rw [TS3.out]; decide) (by show (4 : Nat) + (s3.size + 0) ≤ _; rw [TS3.out]; decide)) find_echo rfl)
  have C3 := keep cc3
  have BW3 := keep bw3
  clear bw3 rw3 cc3
  have KY3 := keep ((KA2.out.later TB3.out).later ((Below.refl _ Y3).alloc (Nat.le_refl _) (.cells #[.string ⟨#[101, 99, 104, 111]⟩, .string s3] 9)))
  go_wp2_with fail
  refine C3.out.mono ?_
  rintro _ w3 ⟨⟨n3, a3, f3, x3, y3, z3, rfl⟩, hb3⟩
  obtain ⟨A3, hA3⟩ : ∃ A, w3.alloc (.cells #[.string n3, .int .i64 a3, .int .i64 f3, .int .i64 x3, .int .i64 y3, .int .i64 z3] 24) = A := ⟨_, rfl⟩
  have bA3 : Below (Y3.alloc (.cells #[.string ⟨#[101, 99, 104, 111]⟩, .string s3] 9)).heap.size (Y3.alloc (.cells #[.string ⟨#[101, 99, 104, 111]⟩, .string s3] 9)) A3 := by rw [← hA3]; exact hb3.alloc hb3.size _
  have KA3 := keep (KY3.out.later bA3)
  have BD3 := keep bA3
  have BA3 := keep (BW3.out.trans (bA3.mono BW3.out.size))
  clear hb3 bA3
  obtain ⟨Y4, s4, t41, t42, t43, t44⟩ := zeros_text A3 (1048576) (by have := HM2.out; have := HM22.out; omega)
  rw [show ((1048576 : Nat) : Int) = 1048576 from rfl] at t41
  have TS4 := keep t43
  have TB4 := keep t44
  clear t43 t44
  obtain ⟨p3, hp3⟩ : ∃ p, s4.extract 3 s4.size = p := ⟨_, rfl⟩
  obtain ⟨p2, hp2⟩ : ∃ p, s4.extract 2 s4.size = p := ⟨_, rfl⟩
  have P3 : Kept (p3.size = 1048573) := by show p3.size = _; rw [← hp3, ByteArray.size_extract, TS4.out]; decide
  have P2 : Kept (p2.size = 1048574) := by show p2.size = _; rw [← hp2, ByteArray.size_extract, TS4.out]; decide
  have sl3 : ∀ wx, (Instr.slice 9 (.string s4) (some (.int .i64 3)) none none).run Tryd.prog wx = .ok (.string p3) wx := fun wx => by
    rw [run_slice_string_l wx 9 s4 Tryd.underlying9 .i64 3 (by decide) (by rw [TS4.out]; decide), ← hp3]; rfl
  have sl2 : ∀ wx, (Instr.slice 9 (.string s4) (some (.int .i64 2)) none none).run Tryd.prog wx = .ok (.string p2) wx := fun wx => by
    rw [run_slice_string_l wx 9 s4 Tryd.underlying9 .i64 2 (by decide) (by rw [TS4.out]; decide), ← hp2]; rfl
  clear hp3 hp2
  have bw4 : Below w.heap.size w (Y4.alloc (.cells #[.string ⟨#[100, 101, 108]⟩, .string s4, .string s4, .string s4, .string p3] 9)) := (BA3.out.trans (TB4.out.mono BA3.out.size)).alloc ((BA3.out.trans (TB4.out.mono BA3.out.size))).size _
  have rw4 := row_wd (W := Y4.alloc (.cells #[.string ⟨#[100, 101, 108]⟩, .string s4, .string s4, .string s4, .string p3] 9)) (b := Y4.heap.size) (t := 9) (fr := (0, 0)) [⟨#[100, 101, 108]⟩, s4, s4, s4, p3] (heap_alloc_new _ _) (by
    intro u hu
    have hu' : u.size ≤ 1048676 := by
      simp only [List.mem_cons, List.not_mem_nil, or_false] at hu
      rcases hu with rfl | rfl | rfl | rfl | rfl
      · decide
      · rw [TS4.out]; decide
      · rw [TS4.out]; decide
      · rw [TS4.out]; decide
      · rw [P3.out]; decide
    exact Nat.le_trans hu' (by unfold maxLen; decide))
  have cc4 := check_code (some ⟨Y4.heap.size, 0, none⟩) 5 [⟨#[100, 101, 108]⟩, s4, s4, s4, p3] _ 0 rw4 (by unfold maxLen; show 5 ≤ _; decide) (code_ok (longW_of (by show 5 ≤ 1024; decide) (by intro u hu; simp only [List.mem_cons, List.not_mem_nil, or_false] at hu; rcases hu with rfl | rfl | rfl | rfl | rfl; decide; rw [TS4.out]; decide; rw [TS4.out]; decide; rw [TS4.out]; decide; rw [P3.out]; decide) (by show (3 : Nat) + (s4.size + (s4.size + (s4.size + (p3.size + 0)))) ≤ _; rw [TS4.out, P3.out]; decide)) find_del rfl)
  have C4 := keep cc4
  have BW4 := keep bw4
  clear bw4 rw4 cc4
  have KY4 := keep ((KA3.out.later TB4.out).later ((Below.refl _ Y4).alloc (Nat.le_refl _) (.cells #[.string ⟨#[100, 101, 108]⟩, .string s4, .string s4, .string s4, .string p3] 9)))
  go_wp2_with fail
  refine C4.out.mono ?_
  rintro _ w4 ⟨⟨n4, a4, f4, x4, y4, z4, rfl⟩, hb4⟩
  obtain ⟨A4, hA4⟩ : ∃ A, w4.alloc (.cells #[.string n4, .int .i64 a4, .int .i64 f4, .int .i64 x4, .int .i64 y4, .int .i64 z4] 24) = A := ⟨_, rfl⟩
  have bA4 : Below (Y4.alloc (.cells #[.string ⟨#[100, 101, 108]⟩, .string s4, .string s4, .string s4, .string p3] 9)).heap.size (Y4.alloc (.cells #[.string ⟨#[100, 101, 108]⟩, .string s4, .string s4, .string s4, .string p3] 9)) A4 := by rw [← hA4]; exact hb4.alloc hb4.size _
  have KA4 := keep (KY4.out.later bA4)
  have BD4 := keep bA4
  have BA4 := keep (BW4.out.trans (bA4.mono BW4.out.size))
  clear hb4 bA4
  have bw5 : Below w.heap.size w (A4.alloc (.cells #[.string ⟨#[100, 101, 108]⟩, .string s4, .string s4, .string s4, .string p2] 9)) := BA4.out.alloc (BA4.out).size _
  have rw5 := row_wd (W := A4.alloc (.cells #[.string ⟨#[100, 101, 108]⟩, .string s4, .string s4, .string s4, .string p2] 9)) (b := A4.heap.size) (t := 9) (fr := (0, 0)) [⟨#[100, 101, 108]⟩, s4, s4, s4, p2] (heap_alloc_new _ _) (by
    intro u hu
    have hu' : u.size ≤ 1048676 := by
      simp only [List.mem_cons, List.not_mem_nil, or_false] at hu
      rcases hu with rfl | rfl | rfl | rfl | rfl
      · decide
      · rw [TS4.out]; decide
      · rw [TS4.out]; decide
      · rw [TS4.out]; decide
      · rw [P2.out]; decide
    exact Nat.le_trans hu' (by unfold maxLen; decide))
  have cc5 := check_code (some ⟨A4.heap.size, 0, none⟩) 5 [⟨#[100, 101, 108]⟩, s4, s4, s4, p2] _ 2 rw5 (by unfold maxLen; show 5 ≤ _; decide) (code_long (long_sum (by show 4194304 < (3 : Nat) + (s4.size + (s4.size + (s4.size + (p2.size + 0)))); rw [TS4.out, P2.out]; decide)))
  have C5 := keep cc5
  have BW5 := keep bw5
  clear bw5 rw5 cc5
  have KY5 := keep (KA4.out.later ((Below.refl _ A4).alloc (Nat.le_refl _) (.cells #[.string ⟨#[100, 101, 108]⟩, .string s4, .string s4, .string s4, .string p2] 9)))
  go_wp2_with fail
  refine C5.out.mono ?_
  rintro _ w5 ⟨⟨n5, a5, f5, x5, y5, z5, rfl⟩, hb5⟩
  obtain ⟨A5, hA5⟩ : ∃ A, w5.alloc (.cells #[.string n5, .int .i64 a5, .int .i64 f5, .int .i64 x5, .int .i64 y5, .int .i64 z5] 24) = A := ⟨_, rfl⟩
  have bA5 : Below (A4.alloc (.cells #[.string ⟨#[100, 101, 108]⟩, .string s4, .string s4, .string s4, .string p2] 9)).heap.size (A4.alloc (.cells #[.string ⟨#[100, 101, 108]⟩, .string s4, .string s4, .string s4, .string p2] 9)) A5 := by rw [← hA5]; exact hb5.alloc hb5.size _
  have KA5 := keep (KY5.out.later bA5)
  have BD5 := keep bA5
  have BA5 := keep (BW5.out.trans (bA5.mono BW5.out.size))
  clear hb5 bA5
  obtain ⟨g1, ⟨u5, g2⟩, g3⟩ := KA5.out.set 0 delB (by simp)
  rw [List.set_cons_zero] at g1
  have BW6 : Kept (Below w.heap.size w (A5.setCell ⟨w.heap.size, 0, none⟩ (.string delB))) := BA5.out.setCell (by exact Nat.le_refl _) _
  obtain ⟨D6, hD6⟩ : ∃ D, A5.setCell ⟨w.heap.size, 0, none⟩ (.string ⟨#[100, 101, 108]⟩) = D := ⟨_, rfl⟩
  have hD6' : A5.setCell ⟨w.heap.size, 0, none⟩ (.string delB) = D6 := hD6
  rw [hD6'] at g1 BW6
  have KY6 := keep g1
  have wd6 : Wd D6 (some ⟨w.heap.size, 0, none⟩) (dels (N - 1)) := g1.wd (fun u hu => Nat.le_trans (dels_small _ u hu) (by unfold maxLen; decide))
  have htk : (dels (N - 1)).take 1024 = dels 1023 := by
    unfold dels
    rw [List.take_succ_cons, List.take_replicate, Nat.min_eq_left (by have := HN.out; omega)]
  have wd7 : Wd D6 (some ⟨w.heap.size, 0, none⟩) (dels 1023) := by rw [← htk]; exact wd6.take 1024
  have cc6 := check_code (some ⟨w.heap.size, 0, none⟩) N (dels 1023) D6 0 wd7 (by rw [dels_len]; unfold maxLen; decide) (by rw [dels_chk])
  rw [dels_len] at cc6
  have C6 := keep cc6
  have WD6 := keep wd6
  have WD7 := keep wd7
  have hcap : (1024 : Int) ≤ (N : Int) := by have := HN.out; omega
  clear cc6 wd6 wd7 g1 htk hD6'
  go_wp2_with fail
  refine C6.out.mono ?_
  rintro _ w6 ⟨⟨n6, a6, f6, x6, y6, z6, rfl⟩, hb6⟩
  obtain ⟨A6, hA6⟩ : ∃ A, w6.alloc (.cells #[.string n6, .int .i64 a6, .int .i64 f6, .int .i64 x6, .int .i64 y6, .int .i64 z6] 24) = A := ⟨_, rfl⟩
  have bA6 : Below D6.heap.size D6 A6 := by rw [← hA6]; exact hb6.alloc hb6.size _
  have KA6 := keep (KY6.out.later bA6)
  have BD6 := keep bA6
  have BA6 := keep (BW6.out.trans (bA6.mono BW6.out.size))
  clear hb6 bA6
  have cc7 := check_code none 0 [] A6 3 (fun j hj => absurd hj (by simp)) (Nat.zero_le _) rfl
  have C7 := keep cc7
  have BW7 := keep (Below.refl A6.heap.size A6)
  clear cc7
  go_wp2_with fail
  refine C7.out.mono ?_
  rintro _ w7 ⟨⟨n7, a7, f7, x7, y7, z7, rfl⟩, hb7⟩
  obtain ⟨A7, hA7⟩ : ∃ A, w7.alloc (.cells #[.string n7, .int .i64 a7, .int .i64 f7, .int .i64 x7, .int .i64 y7, .int .i64 z7] 24) = A := ⟨_, rfl⟩
  have bA7 : Below A6.heap.size A6 A7 := by rw [← hA7]; exact hb7.alloc hb7.size _
  have bD7 : Below D6.heap.size D6 A7 := by
    have h6 : Below D6.heap.size D6 A6 := BD6.out
    exact h6.trans (bA7.mono h6.size)
  have BA7 := keep (BA6.out.trans (bA7.mono BA6.out.size))
  have ck8 := keys_code (some ⟨w.heap.size, 0, none⟩) N (dels (N - 1)) A7 0 (WD6.out.below bD7) (by rw [dels_len]; unfold maxLen; have := HN.out; have := HM2.out; omega) (dels_none _ (by have := HN.out; have := HM1.out; omega))
  rw [dels_len, show N - 1 + 1 = N by have := HN.out; omega] at ck8
  have CK8 := keep ck8
  have CK9 := keep (fun w' (hb : Below A7.heap.size A7 w') => keys_code (some ⟨w.heap.size, 0, none⟩) N (dels 1023) w' 1023 (WD7.out.below (bD7.trans (hb.mono bD7.size))) (by rw [dels_len]; unfold maxLen; decide) dels_keys)
  rw [dels_len] at CK9
  clear hb7 bA7 bD7 ck8
  go_wp2_with fail
  refine CK8.out.mono ?_
  rintro _ w8 ⟨⟨ao8, cc8, rfl⟩, hb8⟩
  have HB8 := keep hb8
  clear hb8
  go_wp2_with fail
  refine (CK9.out _ HB8.out).mono ?_
  rintro _ w9 ⟨⟨ao9, cc9, rfl⟩, hb9⟩
  have HB9 := keep (HB8.out.trans (hb9.mono HB8.out.size))
  clear hb9
  go_wp2_with fail
  rw [HP.out]
  exact ⟨rfl, BA7.out.trans (HB9.out.mono BA7.out.size)⟩
end Go.Proofs.YtaflggjgndkdlabDoor
