/-
  Contracts over this program: Encode of any reply.
-/
import Derived.Test.YtoalnfkjpdgbiaaDoorRpHead
import Derived.Test.YtoalnfkjpdgbiaaDoorDigs
import Derived.Deep.LoopGhost
import Derived.Test.YtoalnfkjpdgbiaaDoorRpVerd
/-
  Contracts over this program: put of a reply of each kind but an array.
-/
namespace Go.Proofs.YtoalnfkjpdgbiaaDoor
open Go.RowKit
set_option linter.unusedVariables false

set_option maxRecDepth 100000 in
set_option maxHeartbeats 2000000 in
theorem put_1 {v sl : Value} {l : List UInt8} (s : ByteArray) (i : Int) (w : World) (h : Kb w v l) (ht : Tab w) (hf : Far v w 3) (hi : I64 i) (hs : s.size ≤ maxLen) (hl : l.length + s.size + 3 ≤ 140737488351232) :
    Calls Tryd.prog 44 #[v, .agg #[.int .i64 1, .string s, .int .i64 i, sl]] w (Put v (l ++ 43 :: (Rp.bytesOf s ++ Rp.crlf)) w) := by
  obtain ⟨W1, W2, n1, c1, ao1, w1, hW1, hW2, x1, x2, r1, k1, g1, t1, f1, f2⟩ := put_head (marks[0]'(by decide)) (.int .i64 1) (.string s) (.int .i64 i) sl w h ht hf (by omega)
  have R1 := keep r1
  have X2 := keep x2
  have K1 := keep k1
  have G1 := keep g1
  have T1 := keep t1
  have F1 := keep f1
  have HI := keep hi
  have HS := keep hs
  obtain ⟨d0, d1, d2, d3⟩ := x1.cells
  obtain ⟨e0, e1, e2, e3⟩ := x2.cells
  have HL := keep hl
  have hln : Kept ((l ++ [(marks[0]'(by decide))]).length = l.length + 1) := keep (by rw [List.length_append]; rfl)
  obtain ⟨ao0, n0, cc, rfl⟩ : ∃ ao n c, v = .slice ao n c := by obtain ⟨ao, c, e⟩ := h.form; exact ⟨_, _, _, e⟩
  have HK := keep h
  clear h ht hf hl r1 k1 g1 t1 f1 f2 x1 x2 hi hs
  unfold marks at hW2
  go_enter Tryd.func44, Tryd.ntmps44
  go_wp2_with (first | (show wpList _ _ _ ({ dst := some 11, op := Op.call { callee := Callee.builtin Builtin.append, args := _, argTypes := _ }, type := _, pos := _, after := _, guard := _ } :: _) _ _; refine wpList_app_run rfl _ _ _ _ rfl _ _ _ rfl rfl R1.out ?_))
  refine (putLine_any s _ K1.out (by rw [hln.out]; have := HL.out; omega)).mono ?_
  rintro e w' ⟨ao2, n2, c2, rfl, k2, g2⟩
  have K2 := keep k2
  have G2 := keep (G1.out.trans g2)
  clear k2 g2
  go_wp2
  go_ret
  exact ⟨_, _, _, rfl, by have := K2.out; simpa [List.append_assoc, show marks[0]'(by decide) = (43 : UInt8) from rfl] using this, G2.out⟩

set_option maxRecDepth 100000 in
set_option maxHeartbeats 2000000 in
theorem put_2 {v sl : Value} {l : List UInt8} (s : ByteArray) (i : Int) (w : World) (h : Kb w v l) (ht : Tab w) (hf : Far v w 3) (hi : I64 i) (hs : s.size ≤ maxLen) (hl : l.length + s.size + 3 ≤ 140737488351232) :
    Calls Tryd.prog 44 #[v, .agg #[.int .i64 2, .string s, .int .i64 i, sl]] w (Put v (l ++ 45 :: (Rp.bytesOf s ++ Rp.crlf)) w) := by
  obtain ⟨W1, W2, n1, c1, ao1, w1, hW1, hW2, x1, x2, r1, k1, g1, t1, f1, f2⟩ := put_head (marks[1]'(by decide)) (.int .i64 2) (.string s) (.int .i64 i) sl w h ht hf (by omega)
  have R1 := keep r1
  have X2 := keep x2
  have K1 := keep k1
  have G1 := keep g1
  have T1 := keep t1
  have F1 := keep f1
  have HI := keep hi
  have HS := keep hs
  obtain ⟨d0, d1, d2, d3⟩ := x1.cells
  obtain ⟨e0, e1, e2, e3⟩ := x2.cells
  have HL := keep hl
  have hln : Kept ((l ++ [(marks[1]'(by decide))]).length = l.length + 1) := keep (by rw [List.length_append]; rfl)
  obtain ⟨ao0, n0, cc, rfl⟩ : ∃ ao n c, v = .slice ao n c := by obtain ⟨ao, c, e⟩ := h.form; exact ⟨_, _, _, e⟩
  have HK := keep h
  clear h ht hf hl r1 k1 g1 t1 f1 f2 x1 x2 hi hs
  unfold marks at hW2
  go_enter Tryd.func44, Tryd.ntmps44
  go_wp2_with (first | (show wpList _ _ _ ({ dst := some 11, op := Op.call { callee := Callee.builtin Builtin.append, args := _, argTypes := _ }, type := _, pos := _, after := _, guard := _ } :: _) _ _; refine wpList_app_run rfl _ _ _ _ rfl _ _ _ rfl rfl R1.out ?_))
  refine (putLine_any s _ K1.out (by rw [hln.out]; have := HL.out; omega)).mono ?_
  rintro e w' ⟨ao2, n2, c2, rfl, k2, g2⟩
  have K2 := keep k2
  have G2 := keep (G1.out.trans g2)
  clear k2 g2
  go_wp2
  go_ret
  exact ⟨_, _, _, rfl, by have := K2.out; simpa [List.append_assoc, show marks[1]'(by decide) = (45 : UInt8) from rfl] using this, G2.out⟩

set_option maxRecDepth 100000 in
set_option maxHeartbeats 2000000 in
theorem put_3 {v sl : Value} {l : List UInt8} (s : ByteArray) (i : Int) (w : World) (h : Kb w v l) (ht : Tab w) (hf : Far v w 3) (hi : I64 i) (hs : s.size ≤ maxLen) (hl : l.length + 30 ≤ 140737488351232) :
    Calls Tryd.prog 44 #[v, .agg #[.int .i64 3, .string s, .int .i64 i, sl]] w (Put v (l ++ 58 :: (Lib.itoa i ++ Rp.crlf)) w) := by
  obtain ⟨W1, W2, n1, c1, ao1, w1, hW1, hW2, x1, x2, r1, k1, g1, t1, f1, f2⟩ := put_head (marks[2]'(by decide)) (.int .i64 3) (.string s) (.int .i64 i) sl w h ht hf (by omega)
  have R1 := keep r1
  have X2 := keep x2
  have K1 := keep k1
  have G1 := keep g1
  have T1 := keep t1
  have F1 := keep f1
  have HI := keep hi
  have HS := keep hs
  obtain ⟨d0, d1, d2, d3⟩ := x1.cells
  obtain ⟨e0, e1, e2, e3⟩ := x2.cells
  have HL := keep hl
  have hln : Kept ((l ++ [(marks[2]'(by decide))]).length = l.length + 1) := keep (by rw [List.length_append]; rfl)
  obtain ⟨ao0, n0, cc, rfl⟩ : ∃ ao n c, v = .slice ao n c := by obtain ⟨ao, c, e⟩ := h.form; exact ⟨_, _, _, e⟩
  have HK := keep h
  clear h ht hf hl r1 k1 g1 t1 f1 f2 x1 x2 hi hs
  unfold marks at hW2
  go_enter Tryd.func44, Tryd.ntmps44
  go_wp2_with (first | (show wpList _ _ _ ({ dst := some 11, op := Op.call { callee := Callee.builtin Builtin.append, args := _, argTypes := _ }, type := _, pos := _, after := _, guard := _ } :: _) _ _; refine wpList_app_run rfl _ _ _ _ rfl _ _ _ rfl rfl R1.out ?_))
  refine (text_any i _ HI.out.1 HI.out.2 T1.out).mono ?_
  rintro e w' ⟨rfl, b2⟩
  have x3 := X2.out.below b2 X2.out.lt
  have X3 := keep x3
  have K2 := keep (K1.out.later b2)
  have G2 := keep (G1.out.behind b2)
  have F2 := keep (show Far (.slice ao1 n1 c1) w' w.heap.size from ⟨x3.lt, F1.out.2⟩)
  obtain ⟨q0, q1, q2, q3⟩ := x3.cells
  clear b2 x3
  go_wp2_with fail
  refine (putLine_any (Rp.ofL (Lib.itoa i)) _ K2.out (by rw [hln.out, Rp.ofL_size]; have := HL.out; have := Pl.itoa_len i HI.out.1 HI.out.2; omega)).mono ?_
  rintro e w2 ⟨ao2, n3, c2, rfl, k3, g3⟩
  have K3 := keep k3
  have G3 := keep (G2.out.trans g3)
  clear k3 g3
  go_wp2
  go_ret
  exact ⟨_, _, _, rfl, by have := K3.out; rw [Rp.ofL_bytes] at this; simpa [List.append_assoc, show marks[2]'(by decide) = (58 : UInt8) from rfl] using this, G3.out⟩

set_option maxRecDepth 100000 in
set_option maxHeartbeats 2000000 in
theorem put_4 {v sl : Value} {l : List UInt8} (s : ByteArray) (i : Int) (w : World) (h : Kb w v l) (ht : Tab w) (hf : Far v w 3) (hi : I64 i) (hs : s.size ≤ maxLen) (hl : l.length + s.size + 40 ≤ 140737488351232) :
    Calls Tryd.prog 44 #[v, .agg #[.int .i64 4, .string s, .int .i64 i, sl]] w (Put v (l ++ 36 :: (Lib.itoa s.size ++ Rp.crlf ++ Rp.bytesOf s ++ Rp.crlf)) w) := by
  obtain ⟨W1, W2, n1, c1, ao1, w1, hW1, hW2, x1, x2, r1, k1, g1, t1, f1, f2⟩ := put_head (marks[3]'(by decide)) (.int .i64 4) (.string s) (.int .i64 i) sl w h ht hf (by omega)
  have R1 := keep r1
  have X2 := keep x2
  have K1 := keep k1
  have G1 := keep g1
  have T1 := keep t1
  have F1 := keep f1
  have HI := keep hi
  have HS := keep hs
  obtain ⟨d0, d1, d2, d3⟩ := x1.cells
  obtain ⟨e0, e1, e2, e3⟩ := x2.cells
  have HL := keep hl
  have hln : Kept ((l ++ [(marks[3]'(by decide))]).length = l.length + 1) := keep (by rw [List.length_append]; rfl)
  obtain ⟨ao0, n0, cc, rfl⟩ : ∃ ao n c, v = .slice ao n c := by obtain ⟨ao, c, e⟩ := h.form; exact ⟨_, _, _, e⟩
  have HK := keep h
  clear h ht hf hl r1 k1 g1 t1 f1 f2 x1 x2 hi hs
  unfold marks at hW2
  go_enter Tryd.func44, Tryd.ntmps44
  go_wp2_with (first | (show wpList _ _ _ ({ dst := some 11, op := Op.call { callee := Callee.builtin Builtin.append, args := _, argTypes := _ }, type := _, pos := _, after := _, guard := _ } :: _) _ _; refine wpList_app_run rfl _ _ _ _ rfl _ _ _ rfl rfl R1.out ?_))
  refine (text_any (s.size : Int) _ (by omega) (by have := HS.out; unfold maxLen at this; omega) T1.out).mono ?_
  rintro e w' ⟨rfl, b2⟩
  have x3 := X2.out.below b2 X2.out.lt
  have X3 := keep x3
  have K2 := keep (K1.out.later b2)
  have G2 := keep (G1.out.behind b2)
  have F2 := keep (show Far (.slice ao1 n1 c1) w' w.heap.size from ⟨x3.lt, F1.out.2⟩)
  obtain ⟨q0, q1, q2, q3⟩ := x3.cells
  clear b2 x3
  go_wp2_with fail
  refine (putLine_any (Rp.ofL (Lib.itoa (s.size : Int))) _ K2.out (by rw [hln.out, Rp.ofL_size]; have := HL.out; have := Pl.itoa_len (s.size : Int) (by omega) (by have := HS.out; unfold maxLen at this; omega); omega)).mono ?_
  rintro e w2 ⟨ao2, n3, c2, rfl, k3, g3⟩
  have K3 := keep k3
  have G3 := keep (G2.out.trans g3)
  obtain ⟨y0, y1, y2, y3⟩ := (X3.out.gr g3 F2.out).cells
  have hn3 := k3.len
  have hl3 : Kept (n3 + s.size + 2 ≤ 140737488351232) := keep (by
    rw [hn3, List.length_append, List.length_append, hln.out, Rp.ofL_bytes]
    have h1 := Pl.itoa_len (s.size : Int) (by omega) (by have := HS.out; unfold maxLen at this; omega)
    have h2 := HL.out
    show l.length + 1 + _ + 2 + _ + 2 ≤ _
    omega)
  have HN3 := keep hn3
  clear hn3
  clear k3 g3
  go_wp2_with fail
  refine (putLine_any s _ K3.out (by rw [← HN3.out]; exact hl3.out)).mono ?_
  rintro e w3 ⟨ao4, n4, c4, rfl, k4, g4⟩
  have K4 := keep k4
  have G4 := keep (G3.out.trans g4)
  clear k4 g4
  go_wp2
  go_ret
  exact ⟨_, _, _, rfl, by have := K4.out; rw [Rp.ofL_bytes] at this; simpa [List.append_assoc, show marks[3]'(by decide) = (36 : UInt8) from rfl] using this, G4.out⟩

set_option maxRecDepth 100000 in
set_option maxHeartbeats 2000000 in
theorem put_5 {v sl : Value} {l : List UInt8} (s : ByteArray) (i : Int) (w : World) (h : Kb w v l) (ht : Tab w) (hf : Far v w 3) (hi : I64 i) (hs : s.size ≤ maxLen) (hl : l.length + 5 ≤ 140737488351232) :
    Calls Tryd.prog 44 #[v, .agg #[.int .i64 5, .string s, .int .i64 i, sl]] w (Put v (l ++ 36 :: ([45, 49] ++ Rp.crlf)) w) := by
  obtain ⟨W1, W2, n1, c1, ao1, w1, hW1, hW2, x1, x2, r1, k1, g1, t1, f1, f2⟩ := put_head (marks[4]'(by decide)) (.int .i64 5) (.string s) (.int .i64 i) sl w h ht hf (by omega)
  have R1 := keep r1
  have X2 := keep x2
  have K1 := keep k1
  have G1 := keep g1
  have T1 := keep t1
  have F1 := keep f1
  have HI := keep hi
  have HS := keep hs
  obtain ⟨d0, d1, d2, d3⟩ := x1.cells
  obtain ⟨e0, e1, e2, e3⟩ := x2.cells
  have HL := keep hl
  have hln : Kept ((l ++ [(marks[4]'(by decide))]).length = l.length + 1) := keep (by rw [List.length_append]; rfl)
  obtain ⟨ao0, n0, cc, rfl⟩ : ∃ ao n c, v = .slice ao n c := by obtain ⟨ao, c, e⟩ := h.form; exact ⟨_, _, _, e⟩
  have HK := keep h
  clear h ht hf hl r1 k1 g1 t1 f1 f2 x1 x2 hi hs
  unfold marks at hW2
  go_enter Tryd.func44, Tryd.ntmps44
  go_wp2_with (first | (show wpList _ _ _ ({ dst := some 11, op := Op.call { callee := Callee.builtin Builtin.append, args := _, argTypes := _ }, type := _, pos := _, after := _, guard := _ } :: _) _ _; refine wpList_app_run rfl _ _ _ _ rfl _ _ _ rfl rfl R1.out ?_))
  refine (putLine_any ⟨#[45, 49]⟩ _ K1.out (by rw [hln.out]; have := HL.out; show l.length + 1 + 2 + 2 ≤ _; omega)).mono ?_
  rintro e w' ⟨ao2, n2, c2, rfl, k2, g2⟩
  have K2 := keep k2
  have G2 := keep (G1.out.trans g2)
  clear k2 g2
  go_wp2
  go_ret
  exact ⟨_, _, _, rfl, by have := K2.out; rw [show Rp.bytesOf ⟨#[45, 49]⟩ = [45, 49] from rfl] at this; simpa [List.append_assoc, show marks[4]'(by decide) = (36 : UInt8) from rfl] using this, G2.out⟩

set_option maxRecDepth 100000 in
set_option maxHeartbeats 2000000 in
theorem put_7 {v sl : Value} {l : List UInt8} (s : ByteArray) (i : Int) (w : World) (h : Kb w v l) (ht : Tab w) (hf : Far v w 3) (hi : I64 i) (hs : s.size ≤ maxLen) (hl : l.length + 5 ≤ 140737488351232) :
    Calls Tryd.prog 44 #[v, .agg #[.int .i64 7, .string s, .int .i64 i, sl]] w (Put v (l ++ 42 :: ([45, 49] ++ Rp.crlf)) w) := by
  obtain ⟨W1, W2, n1, c1, ao1, w1, hW1, hW2, x1, x2, r1, k1, g1, t1, f1, f2⟩ := put_head (marks[6]'(by decide)) (.int .i64 7) (.string s) (.int .i64 i) sl w h ht hf (by omega)
  have R1 := keep r1
  have X2 := keep x2
  have K1 := keep k1
  have G1 := keep g1
  have T1 := keep t1
  have F1 := keep f1
  have HI := keep hi
  have HS := keep hs
  obtain ⟨d0, d1, d2, d3⟩ := x1.cells
  obtain ⟨e0, e1, e2, e3⟩ := x2.cells
  have HL := keep hl
  have hln : Kept ((l ++ [(marks[6]'(by decide))]).length = l.length + 1) := keep (by rw [List.length_append]; rfl)
  obtain ⟨ao0, n0, cc, rfl⟩ : ∃ ao n c, v = .slice ao n c := by obtain ⟨ao, c, e⟩ := h.form; exact ⟨_, _, _, e⟩
  have HK := keep h
  clear h ht hf hl r1 k1 g1 t1 f1 f2 x1 x2 hi hs
  unfold marks at hW2
  go_enter Tryd.func44, Tryd.ntmps44
  go_wp2_with (first | (show wpList _ _ _ ({ dst := some 11, op := Op.call { callee := Callee.builtin Builtin.append, args := _, argTypes := _ }, type := _, pos := _, after := _, guard := _ } :: _) _ _; refine wpList_app_run rfl _ _ _ _ rfl _ _ _ rfl rfl R1.out ?_))
  refine (putLine_any ⟨#[45, 49]⟩ _ K1.out (by rw [hln.out]; have := HL.out; show l.length + 1 + 2 + 2 ≤ _; omega)).mono ?_
  rintro e w' ⟨ao2, n2, c2, rfl, k2, g2⟩
  have K2 := keep k2
  have G2 := keep (G1.out.trans g2)
  clear k2 g2
  go_wp2
  go_ret
  exact ⟨_, _, _, rfl, by have := K2.out; rw [show Rp.bytesOf ⟨#[45, 49]⟩ = [45, 49] from rfl] at this; simpa [List.append_assoc, show marks[6]'(by decide) = (42 : UInt8) from rfl] using this, G2.out⟩

end Go.Proofs.YtoalnfkjpdgbiaaDoor

/-
  Contracts over this program: putAll, and put of every reply.
-/
namespace Go.Proofs.YtoalnfkjpdgbiaaDoor
open Go.RowKit
set_option linter.unusedVariables false
def PutOk (n : Nat) : Prop := ∀ (r : Rp.T n) (cs : List Value) (v : Value) (l : List UInt8) (w : World), Tel (Far v w) w n cs r → Rp.right n r = true → Kb w v l → Tab w → Far v w 3 →
  l.length + (Rp.enc n r).length ≤ 16777216 → Calls Tryd.prog 44 #[v, .agg cs.toArray] w (Put v (l ++ Rp.enc n r) w)
theorem take_flat {α β : Type} (f : α → List β) {l : List α} {k : Nat} {x : α} (h : l[k]? = some x) : (l.take (k + 1)).flatMap f = (l.take k).flatMap f ++ f x := by
  rw [List.take_add_one, h]; simp
theorem flat_le {α β : Type} (f : α → List β) (l : List α) (k : Nat) : ((l.take k).flatMap f).length ≤ (l.flatMap f).length := by
  have h := congrArg (List.flatMap f) (List.take_append_drop k l)
  rw [List.flatMap_append] at h
  rw [← h, List.length_append]; omega
set_option maxRecDepth 100000 in
set_option maxHeartbeats 2000000 in
theorem putAll_any (n : Nat) (H : PutOk n) (L : List (Rp.T n)) (sl v : Value) (l : List UInt8) (w : World) (hL : Lst (Far v w) w (Tel (Far v w) w n) sl L) (hr : ∀ x ∈ L, Rp.right n x = true) (h : Kb w v l) (ht : Tab w) (hf : Far v w 3)
    (hl : l.length + (L.flatMap (Rp.enc n)).length ≤ 16777216) : Calls Tryd.prog 55 #[v, sl] w (Put v (l ++ L.flatMap (Rp.enc n)) w) := by
  obtain ⟨aoL, cL, rfl, hcL, hcM⟩ := hL.form
  obtain ⟨m, hm⟩ : ∃ m, m = L.length := ⟨_, rfl⟩
  rw [← hm] at hL hcL ⊢
  obtain ⟨ao0, n0, c0, rfl⟩ : ∃ ao n c, v = .slice ao n c := by obtain ⟨ao, c, e⟩ := h.form; exact ⟨_, _, _, e⟩
  have HL := keep hL
  have HR := keep hr
  have HK := keep h
  have HT := keep ht
  have HF := keep hf
  have HB := keep hl
  have HM := keep hm
  have HCM : Kept (m ≤ 9223372036854775807) := keep (by unfold maxLen at hcM; omega)
  clear hL hr h ht hf hl hm hcL hcM
  go_enter Tryd.func55, Tryd.ntmps55
  go_wp2
  go_loopw [9, 0] (fun i u wr => ∃ (k n1 c1 : Nat) (ao1 : Option Addr), k ≤ m ∧ i = .int .i64 k ∧ u = .slice ao1 n1 c1 ∧ Kept (Kb wr (.slice ao1 n1 c1) (l ++ (L.take k).flatMap (Rp.enc n))) ∧ Kept (Gr (.slice ao0 n0 c0) (.slice ao1 n1 c1) w wr)) (fun i _ _ => m - (intOf i).toNat)
  case atStart => exact ⟨0, n0, c0, ao0, Nat.zero_le _, rfl, rfl, keep (by simpa using HK.out), keep (Gr.refl _ _)⟩
  case round =>
    obtain ⟨k, n1, c1, ao1, hk, rfl, rfl, K1, G1⟩ := hrel
    by_cases hlt : k < m
    · have hz : (k : Int) < (m : Int) := by omega
      have hz0 : (0 : Int) ≤ (k : Int) := by omega
      have hkw : IntKind.i64.wrap ((k : Int) + 1) = ((k + 1 : Nat) : Int) := by have := HCM.out; rw [IntKind.wrap_i64]; omega
      obtain ⟨x, hx⟩ : ∃ x, L[k]? = some x := ⟨_, List.getElem?_eq_getElem (by rw [← HM.out]; exact hlt)⟩
      have hfar : ∀ b, Far (.slice ao0 n0 c0) w b → Far (.slice ao1 n1 c1) wr b := fun b hb => G1.out.far hb
      have hsame : ∀ b, Far (.slice ao0 n0 c0) w b → wr.heap[b]? = w.heap[b]? := fun b hb => G1.out.same hb
      have hL1 : Lst (Far (.slice ao1 n1 c1) wr) wr (Tel (Far (.slice ao1 n1 c1) wr) wr n) (.slice aoL m cL) L := HL.out.mono hfar hsame (fun cs x hx => Tel.mono hfar hsame n cs x hx)
      obtain ⟨g, cap, e, hPg, d0, d1, d2, d3, htl, e0, e1, e2, e3⟩ := hL1.at hx (fun cs h => h.four)
      obtain ⟨rfl, rfl⟩ : aoL = some ⟨g, 0, none⟩ ∧ cL = cap := by injection e with q1 q2 q3; exact ⟨q1, q3⟩
      have hb := flat_le (Rp.enc n) L k
      have hle : Kept (n1 ≤ 16777216) := keep (by
        have h1 := K1.out.len
        have h2 := HB.out
        rw [List.length_append] at h1
        omega)
      have hd : decide ((16777216 : Int) < (n1 : Int)) = false := decide_eq_false (by have := hle.out; omega)
      obtain ⟨q0, q1, q2, q3, q4, q5, hq, _⟩ := htl.six
      obtain ⟨rfl, rfl, rfl, rfl⟩ : d0 = .int .i64 q0 ∧ d1 = .string q1 ∧ d2 = .int .i64 q2 ∧ d3 = .slice q3 q4 q5 := by simpa using hq
      have HTL := keep htl
      clear hq
      have HX := keep hx
      clear hfar hsame hL1 hPg hb htl hx e
      have htk := take_flat (Rp.enc n) HX.out
      have PC := keep (fun (W3 : World) (b3 : Below wr.heap.size wr W3) => H x _ (.slice ao1 n1 c1) _ W3
        (Tel.mono (fun b hb => ⟨Nat.lt_of_lt_of_le hb.1 b3.size, hb.2⟩) (fun b hb => b3.block b hb.1) n _ x HTL.out)
        (HR.out x (List.mem_of_getElem? HX.out)) (K1.out.later b3)
        (tab_below (HT.out.gr G1.out HF.out) b3 (Nat.le_trans (by exact (G1.out.far HF.out).1) (Nat.le_refl _)))
        ⟨Nat.lt_of_lt_of_le (G1.out.far HF.out).1 b3.size, (G1.out.far HF.out).2⟩
        (by
          have h1 := flat_le (Rp.enc n) L (k + 1)
          rw [htk, List.length_append] at h1
          have h2 := HB.out
          rw [List.length_append]
          omega))
      have HTK := keep htk
      clear htk
      go_wp2_with fail
      refine (PC.out _ ((Below.refl _ _).alloc (Nat.le_refl _) _)).mono ?_
      rintro e w' ⟨ao2, n2, c2, rfl, k2, g2⟩
      have K2 : Kept (Kb w' (.slice ao2 n2 c2) (l ++ (L.take (k + 1)).flatMap (Rp.enc n))) := keep (by rw [HTK.out, ← List.append_assoc]; exact k2)
      have G2 := keep ((G1.out.behind ((Below.refl _ _).alloc (Nat.le_refl _) _)).trans g2)
      clear k2 g2
      go_wp2
      go_roundw
      case measure => simp [intOf]; omega
      case rel => exact ⟨k + 1, n2, c2, ao2, by omega, by rfl, by rfl, K2, G2⟩
    · have hz : ¬ (k : Int) < (m : Int) := by omega
      obtain rfl : k = m := by omega
      have K2 : Kept (Kb wr (.slice ao1 n1 c1) (l ++ L.flatMap (Rp.enc n))) := keep (by have := K1.out; rwa [List.take_of_length_le (by rw [← HM.out]; exact Nat.le_refl _)] at this)
      clear hlt
      go_wp2
      go_ret
      exact ⟨_, _, _, rfl, K2.out, G1.out⟩
end Go.Proofs.YtoalnfkjpdgbiaaDoor

/-
  Contracts over this program: put of every reply that is as it should be.
-/
namespace Go.Proofs.YtoalnfkjpdgbiaaDoor
open Go.RowKit
set_option linter.unusedVariables false
set_option maxRecDepth 100000 in
set_option maxHeartbeats 2000000 in
theorem put_6 (n : Nat) (H : PutOk n) (L : List (Rp.T n)) {v sl : Value} {l : List UInt8} (s : ByteArray) (i : Int) (w : World) (hL : Lst (Far v w) w (Tel (Far v w) w n) sl L) (hr : ∀ x ∈ L, Rp.right n x = true) (h : Kb w v l) (ht : Tab w) (hf : Far v w 3)
    (hl : l.length + (42 :: (Lib.itoa (L.length : Int) ++ Rp.crlf ++ L.flatMap (Rp.enc n))).length ≤ 16777216) :
    Calls Tryd.prog 44 #[v, .agg #[.int .i64 6, .string s, .int .i64 i, sl]] w (Put v (l ++ 42 :: (Lib.itoa (L.length : Int) ++ Rp.crlf ++ L.flatMap (Rp.enc n))) w) := by
  have hl' : l.length + 1 + (Lib.itoa (L.length : Int)).length + 2 + (L.flatMap (Rp.enc n)).length ≤ 16777216 := by
    rw [List.length_cons, List.length_append, List.length_append] at hl
    have : Rp.crlf.length = 2 := rfl
    omega
  obtain ⟨aoL, cL, rfl, hcL, hcM⟩ := hL.form
  obtain ⟨m, hm⟩ : ∃ m, m = L.length := ⟨_, rfl⟩
  rw [← hm] at hL hcL hl' ⊢
  obtain ⟨W1, W2, n1, c1, ao1, w1, hW1, hW2, x1, x2, r1, k1, g1, t1, f1, f2⟩ := put_head (marks[5]'(by decide)) (.int .i64 6) (.string s) (.int .i64 i) (.slice aoL m cL) w h ht hf (by omega)
  have R1 := keep r1
  have X2 := keep x2
  have K1 := keep k1
  have G1 := keep g1
  have T1 := keep t1
  have F1 := keep f1
  have F3 := keep f2
  obtain ⟨d0, d1, d2, d3⟩ := x1.cells
  obtain ⟨e0, e1, e2, e3⟩ := x2.cells
  have HB := keep hl'
  have HM := keep hm
  have HLS := keep hL
  have HR := keep hr
  have hln : Kept ((l ++ [marks[5]'(by decide)]).length = l.length + 1) := keep (by rw [List.length_append]; rfl)
  have hm63 : Kept ((m : Int) ≤ 9223372036854775807) := keep (by unfold maxLen at hcM; omega)
  obtain ⟨ao0, n0, cc, rfl⟩ : ∃ ao n c, v = .slice ao n c := by obtain ⟨ao, c, e⟩ := h.form; exact ⟨_, _, _, e⟩
  have HK := keep h
  clear h ht hf hl hl' r1 k1 g1 t1 f1 f2 x1 x2 hL hr hm hcL hcM
  unfold marks at hW2
  go_enter Tryd.func44, Tryd.ntmps44
  go_wp2_with (first | (show wpList _ _ _ ({ dst := some 11, op := Op.call { callee := Callee.builtin Builtin.append, args := _, argTypes := _ }, type := _, pos := _, after := _, guard := _ } :: _) _ _; refine wpList_app_run rfl _ _ _ _ rfl _ _ _ rfl rfl R1.out ?_))
  refine (text_any (m : Int) _ (by omega) hm63.out T1.out).mono ?_
  rintro e w' ⟨rfl, b2⟩
  have x3 := X2.out.below b2 X2.out.lt
  have X3 := keep x3
  have K2 := keep (K1.out.later b2)
  have G2 := keep (G1.out.behind b2)
  have F2 := keep (show Far (.slice ao1 n1 c1) w' w.heap.size from ⟨x3.lt, F1.out.2⟩)
  have F4 := keep (show Far (.slice ao1 n1 c1) w' 3 from ⟨Nat.lt_of_lt_of_le F3.out.1 b2.size, F3.out.2⟩)
  have T2 := keep (tab_below T1.out b2 F3.out.1)
  obtain ⟨q0, q1, q2, q3⟩ := x3.cells
  clear b2 x3
  go_wp2_with fail
  refine (putLine_any (Rp.ofL (Lib.itoa (m : Int))) _ K2.out (by rw [hln.out, Rp.ofL_size]; have := HB.out; omega)).mono ?_
  rintro e w2 ⟨ao2, n2, c2, rfl, k3, g3⟩
  have G3 := keep (G2.out.trans g3)
  have T3 := keep (T2.out.gr g3 F4.out)
  have F5 := keep (g3.far F4.out)
  have K3 := keep k3
  obtain ⟨y0, y1, y2, y3⟩ := (X3.out.gr g3 F2.out).cells
  clear k3 g3
  go_wp2_with fail
  refine (putAll_any n H L (.slice aoL m cL) (.slice ao2 n2 c2) _ w2 (HLS.out.mono (fun b hb => G3.out.far hb) (fun b hb => G3.out.same hb) (fun cs x hx => Tel.mono (fun b hb => G3.out.far hb) (fun b hb => G3.out.same hb) n cs x hx)) HR.out K3.out T3.out F5.out (by
    have h1 := HB.out
    rw [List.length_append, List.length_append, hln.out, Rp.ofL_bytes]
    show l.length + 1 + _ + 2 + _ ≤ _
    omega)).mono ?_
  rintro e w3 ⟨ao4, n4, c4, rfl, k4, g4⟩
  have K4 := keep k4
  have G4 := keep (G3.out.trans g4)
  clear k4 g4
  go_wp2
  go_ret
  exact ⟨_, _, _, rfl, by have := K4.out; rw [Rp.ofL_bytes] at this; simpa [List.append_assoc, show marks[5]'(by decide) = (42 : UInt8) from rfl] using this, G4.out⟩
theorem right_all {n : Nat} {r : Rp.T (n + 1)} (h : Rp.right (n + 1) r = true) : Rp.wellW (Rp.kd r) (Rp.tx r) (Rp.nm r) (Rp.ls r) = true ∧ ∀ x ∈ Rp.ls r, Rp.right n x = true := by
  have h1 : (Rp.wellW (Rp.kd r) (Rp.tx r) (Rp.nm r) (Rp.ls r) && (Rp.ls r).all (Rp.right n)) = true := h
  rw [Bool.and_eq_true, List.all_eq_true] at h1
  exact h1
/-- put of any reply that is as it should be, and not too long -/
theorem put_any : ∀ n, PutOk n
  | 0 => fun r => nomatch r
  | n + 1 => by
    intro r cs v l w hT hr h ht hf hl
    obtain ⟨sl, rfl, hL, hk, hi, hs⟩ := hT
    obtain ⟨hw, ha⟩ := right_all hr
    have hz : ∀ b : ByteArray, b.size = (Rp.bytesOf b).length := fun b => rfl
    have he : Rp.enc (n + 1) r = Rp.encW (Rp.enc n) (Rp.kd r) (Rp.tx r) (Rp.nm r) (Rp.ls r) := rfl
    rw [he] at hl ⊢
    have hcr : Rp.crlf.length = 2 := rfl
    show Calls _ _ #[v, .agg #[.int .i64 (Rp.kd r), .string (Rp.tx r), .int .i64 (Rp.nm r), sl]] _ _
    generalize Rp.kd r = k at *
    generalize Rp.tx r = s at *
    generalize Rp.nm r = i at *
    generalize Rp.ls r = L at *
    have hz1 := hz s
    have hs : s.size ≤ maxLen := by unfold maxLen; omega
    unfold Rp.encW at hl ⊢
    by_cases k1 : k = 1
    · subst k1; simp only [if_true, List.length_cons, List.length_append] at hl ⊢
      exact put_1 s i w h ht hf hi hs (by omega)
    rw [if_neg k1] at hl ⊢
    by_cases k2 : k = 2
    · subst k2; simp only [if_true, List.length_cons, List.length_append] at hl ⊢
      exact put_2 s i w h ht hf hi hs (by omega)
    rw [if_neg k2] at hl ⊢
    by_cases k3 : k = 3
    · subst k3; simp only [if_true, List.length_cons, List.length_append] at hl ⊢
      exact put_3 s i w h ht hf hi hs (by omega)
    rw [if_neg k3] at hl ⊢
    by_cases k4 : k = 4
    · subst k4; simp only [if_true, List.length_cons, List.length_append] at hl ⊢
      exact put_4 s i w h ht hf hi hs (by omega)
    rw [if_neg k4] at hl ⊢
    by_cases k5 : k = 5
    · subst k5; simp only [if_true, List.length_cons, List.length_append] at hl ⊢
      exact put_5 s i w h ht hf hi hs (by omega)
    rw [if_neg k5] at hl ⊢
    by_cases k7 : k = 7
    · subst k7; simp only [if_true, List.length_cons, List.length_append] at hl ⊢
      exact put_7 s i w h ht hf hi hs (by omega)
    rw [if_neg k7] at hl ⊢
    by_cases k6 : k = 6
    · subst k6
      exact put_6 n (put_any n) L s i w hL ha h ht hf hl
    · exfalso
      unfold Rp.wellW at hw
      simp [k1, k2, k3, k4, k5, k6, k7] at hw
end Go.Proofs.YtoalnfkjpdgbiaaDoor

namespace Go.Proofs.YtoalnfkjpdgbiaaDoor
open Go.RowKit
set_option linter.unusedVariables false
/-- bytes of one's own, made since a world -/
def Nb (W : World) (w : World) (v : Value) (l : List UInt8) : Prop := Kb w v l ∧ ∀ k, v.ownBlock = some k → W.heap.size ≤ k
theorem Tel.any {n : Nat} {cs : List Value} {r : Rp.T n} {w w' : World} (hT : Tel (· < w.heap.size) w n cs r) (hb : Below w.heap.size w w') : Tel (· < w'.heap.size) w' n cs r :=
  Tel.mono (fun b h => Nat.lt_of_lt_of_le h hb.size) (fun b h => hb.block b h) n cs r hT
set_option maxRecDepth 100000 in
set_option maxHeartbeats 1000000 in
theorem enc_ok (n : Nat) (r : Rp.T n) (cs : List Value) (w : World) (hn : n < 900000) (hc : cnt n r ≤ 4000000000000) (hT : Tel (· < w.heap.size) w n cs r) (ht : Tab w) (hv : verd n r = 0) (hr : Rp.right n r = true) (hl : (Rp.enc n r).length ≤ 16777216) :
    Calls Tryd.prog 12 #[.agg cs.toArray] w fun e w' => (∃ ao m c, e = .returned (.tuple #[.slice ao m c, .int .i64 0]) ∧ Nb w w' (.slice ao m c) (Rp.enc n r)) ∧ Below w.heap.size w w' := by
  obtain ⟨k, s, i, ao, m, c, rfl, _⟩ := hT.six
  obtain ⟨W1, hW1⟩ : ∃ x, x = w.alloc (.cells #[.int .i64 k, .string s, .int .i64 i, .slice ao m c] 25) := ⟨_, rfl⟩
  have x1 : Box W1 w.heap.size (.int .i64 k) (.string s) (.int .i64 i) (.slice ao m c) := hW1 ▸ Box.new w _ _ _ _
  have b1 : Below w.heap.size w W1 := hW1 ▸ (Below.refl _ _).alloc (Nat.le_refl _) _
  have T1 := keep (hT.any b1)
  have X1 := keep x1
  have B1 := keep b1
  have HT := keep hT
  have TB := keep ht
  have CH := keep (fun w hT => check_any n r [.int .i64 k, .string s, .int .i64 i, .slice ao m c] w hn hc hT)
  have HV := keep hv
  have HR := keep hr
  have HL := keep hl
  obtain ⟨d0, d1, d2, d3⟩ := x1.cells
  have hW1' := hW1.symm
  clear hn hc hT ht hv hr hl x1 b1 hW1
  go_enter Tryd.func12, Tryd.ntmps12
  go_wp2_with fail
  refine (CH.out _ T1.out).mono ?_
  rintro e w2 ⟨rfl, b2⟩
  rw [HV.out]
  have B2 := keep (B1.out.trans (b2.mono B1.out.size))
  have X2 := keep (X1.out.below b2 X1.out.lt)
  obtain ⟨e0, e1, e2, e3⟩ := X2.out.cells
  have PU := keep (put_any n r _ (.slice none 0 0) [] w2 (Tel.mono (fun b hb => ⟨Nat.lt_of_lt_of_le hb B2.out.size, by simp [Value.ownBlock]⟩) (fun b hb => B2.out.block b hb) n _ r HT.out) HR.out (Kb.nil _)
    (tab_below TB.out B2.out (by exact tab_lt TB.out)) ⟨Nat.lt_of_lt_of_le (tab_lt TB.out) B2.out.size, by simp [Value.ownBlock]⟩ (by simpa using HL.out))
  clear CH b2 d0 d1 d2 d3
  go_wp2_with fail
  refine PU.out.mono ?_
  rintro e w3 ⟨ao3, n3, c3, rfl, k3, g3⟩
  have hn3 := k3.len
  have K3 : Kept (Nb w w3 (.slice ao3 n3 c3) (Rp.enc n r)) := keep ⟨by simpa using k3, fun k hk => by
    rcases g3.2 k hk with e | e
    · cases e
    · exact Nat.le_trans B2.out.size e⟩
  have B3 := keep (B2.out.trans (g3.below B2.out.size (fun k hk => by cases hk)))
  have hle : decide ((16777216 : Int) < (n3 : Int)) = false := decide_eq_false (by rw [hn3]; have := HL.out; simp; omega)
  clear k3 g3 hn3 PU
  go_wp2
  go_ret2
  exact ⟨⟨_, _, _, rfl, K3.out⟩, B3.out⟩
set_option maxRecDepth 100000 in
set_option maxHeartbeats 1000000 in
theorem enc_bad (n : Nat) (r : Rp.T n) (cs : List Value) (w : World) (hn : n < 900000) (hc : cnt n r ≤ 4000000000000) (hT : Tel (· < w.heap.size) w n cs r) (hv : verd n r ≠ 0) :
    Calls Tryd.prog 12 #[.agg cs.toArray] w fun e w' => e = .returned (.tuple #[.slice none 0 0, .int .i64 (verd n r)]) ∧ Below w.heap.size w w' := by
  obtain ⟨k, s, i, ao, m, c, rfl, _⟩ := hT.six
  obtain ⟨W1, hW1⟩ : ∃ x, x = w.alloc (.cells #[.int .i64 k, .string s, .int .i64 i, .slice ao m c] 25) := ⟨_, rfl⟩
  have x1 : Box W1 w.heap.size (.int .i64 k) (.string s) (.int .i64 i) (.slice ao m c) := hW1 ▸ Box.new w _ _ _ _
  have b1 : Below w.heap.size w W1 := hW1 ▸ (Below.refl _ _).alloc (Nat.le_refl _) _
  have T1 := keep (hT.any b1)
  have B1 := keep b1
  have CH := keep (fun w hT => check_any n r [.int .i64 k, .string s, .int .i64 i, .slice ao m c] w hn hc hT)
  have hq : (verd n r != 0) = true := by simpa using hv
  obtain ⟨d0, d1, d2, d3⟩ := x1.cells
  have hW1' := hW1.symm
  generalize verd n r = z at *
  clear hn hc hT hv x1 b1 hW1
  go_enter Tryd.func12, Tryd.ntmps12
  go_wp2_with fail
  refine (CH.out _ T1.out).mono ?_
  rintro e w2 ⟨rfl, b2⟩
  have B2 := keep (B1.out.trans (b2.mono B1.out.size))
  clear CH b2 d0 d1 d2 d3
  go_wp2
  go_ret2
  exact ⟨rfl, B2.out⟩
end Go.Proofs.YtoalnfkjpdgbiaaDoor
